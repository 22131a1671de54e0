/-
  Two sums compared whole.
-/
import Derived.Test.YtemndnpbbkjmhabChecked
import Derived.WalkKit
import Derived.Laws.StructEq
import Derived.Shelf.Abstract
import Derived.Test.YtemndnpbbkjmhabLabMath
namespace Go.Proofs.Ytemndnpbbkjmhab
open Go.RowKit Go.Deep E
theorem part_int {P : Program} {t : TypeId} {k : IntKind} (h : P.underlying t = some (.int k)) (cs : Array Value) (off : Nat) (v : Value) (hv : cs[off]? = some v) (w : World) : (part t cs off).run P w = .ok v w := by
  have hg : (isAgg t).run P w = .ok false w := by simp [isAgg, run_underlying h]
  simp [part, hg, hv, Result.andThen]
theorem eqFields_ints {P : Program} (d : Nat) (xs ys : Array Value) (s t : Nat → Int) (w : World) : ∀ fs : List Field, (∀ f, f ∈ fs → f.name ≠ "_" ∧ P.underlying f.type = some (.int .i64) ∧ xs[f.offset]? = some (.int .i64 (s f.offset)) ∧ ys[f.offset]? = some (.int .i64 (t f.offset))) →
    (Op.eqFields (d + 1) xs ys fs).run P w = .ok (fs.all fun f => s f.offset == t f.offset) w
  | [], _ => by simp [Op.eqFields]
  | f :: fs, h => by
    obtain ⟨h1, h2, h3, h4⟩ := h f (List.mem_cons.2 (Or.inl rfl))
    have ih := eqFields_ints d xs ys s t w fs fun g hg => h g (List.mem_cons.2 (Or.inr hg))
    unfold Op.eqFields
    rw [if_pos h1]
    simp only [Sem.run_bind, part_int h2 xs f.offset _ h3 w, part_int h2 ys f.offset _ h4 w, Result.andThen_ok, run_equalIn_int w d f.type .i64 .i64 _ _ h2, Sem.run_ite]
    cases hq : (s f.offset == t f.offset)
    · simp [hq]
    · simp [hq, ih]
theorem eqSum (s t : Nat → Int) (v : World) : (Op.equalIn 10000 24 (.agg #[.int .i64 (s 0), .int .i64 (s 1), .int .i64 (s 2), .int .i64 (s 3)]) (.agg #[.int .i64 (t 0), .int .i64 (t 1), .int .i64 (t 2), .int .i64 (t 3)])).run Try.prog v = .ok ((List.range 4).all fun i => s i == t i) v := by
  have hp : Try.prog.stoodInHeld 24 = false := by kernel_rfl
  have h0 : Try.prog.underlying 24 = some (.struct (Try.prog.fieldsOf 24)) := by kernel_rfl
  rw [run_equalIn_agg v 9999 24 _ _ h0 hp]
  have e : Try.prog.underlying 24 = some (.struct (Try.prog.fieldsOf 24)) := h0
  rw [Try.underlying24] at e
  injection e with e
  injection e with e
  rw [← e]
  rw [eqFields_ints 9998 _ _ s t v _ ?_]
  · rfl
  · intro f hf
    simp at hf
    rcases hf with rfl | rfl | rfl | rfl
    · exact ⟨by decide, Try.underlying3, rfl, rfl⟩
    · exact ⟨by decide, Try.underlying3, rfl, rfl⟩
    · exact ⟨by decide, Try.underlying3, rfl, rfl⟩
    · exact ⟨by decide, Try.underlying3, rfl, rfl⟩
theorem neqSum (B : Nat → E) (v : World) : (binOp .neq 24 (.agg #[.int .i64 (rds B 0), .int .i64 (rds B 1), .int .i64 (rds B 2), .int .i64 (rds B 3)]) (.agg #[.int .i64 (sealV B 0), .int .i64 (sealV B 1), .int .i64 (sealV B 2), .int .i64 (sealV B 3)])).run Try.prog v = .ok (.bool (!sealB B)) v := by
  rw [run_neq_struct, eqSum]
  rfl
theorem guardSum (x y : Operand) (s t : Nat → Int) (v : World) : (eqGuard .neq 24 x y (.agg #[.int .i64 (s 0), .int .i64 (s 1), .int .i64 (s 2), .int .i64 (s 3)]) (.agg #[.int .i64 (t 0), .int .i64 (t 1), .int .i64 (t 2), .int .i64 (t 3)])).run Try.prog v = .ok () v :=
  run_eqGuard_agg v .neq 24 x y _ _ (by kernel_rfl)
end Go.Proofs.Ytemndnpbbkjmhab
