/-
  One operation of a quiet walk, by what it is known to yield: loads of many cells, structs built of them.
-/
import Derived.WalkKit
import Derived.BigQuiet
import Derived.Deep.MidRow
import Derived.Deep.Quiet
namespace Go.Proofs.Ythgbfakmkdifbaa
open Go.RowKit Go.BigFrame
section
variable {P : Program} {ops : Array Oper} {C : World → Prop} {Q : Act → Prop} {o : Oper} {rest : List Oper} {a : Act} {w : World} {v : Value}
theorem wpQuiet_at (hgd : o.guard = none) (v : Value) (hex : ∀ w, C w → (execOp a.eval o).run P w = .ok (.value v) w) (h : wpQuiet P ops C Q rest (a.put o.dst v)) : wpQuiet P ops C Q (o :: rest) a :=
  wpQuiet_want (by simp [Region.wanted, hgd]) fun K hK => ⟨v, fun w hw => by unfold Oper.quietAt; rw [hex w hw]; exact ⟨rfl, rfl⟩, hK _ h⟩
theorem exec_load (ty : TypeId) (x : Operand) (ho : o.op = .load ty x) {p : Value} (hx : a.eval x = p) (hrun : (Instr.loadAt ty p).run P w = .ok v w) : (execOp a.eval o).run P w = .ok (.value v) w := by
  unfold execOp
  simp only [ho, hx, Sem.run_bind, hrun, Result.andThen_ok, Sem.run_pure]
theorem exec_build (ty : TypeId) (parts : Array (Nat × Operand)) (ho : o.op = .build ty parts) {vs : Array (Nat × Value)} (hx : (parts.map fun (i, x) => (i, a.eval x)) = vs) (hrun : (Instr.build ty vs).run P w = .ok v w) : (execOp a.eval o).run P w = .ok (.value v) w := by
  unfold execOp
  simp only [ho, hx, Sem.run_bind, hrun, Result.andThen_ok, Sem.run_pure]
/-- at the list of a plain region's operations -/
theorem wpList_at {Q : Exit → Act → World → Prop} (hgd : o.guard = none) (v : Value) (hex : (execOp a.eval o).run P w = .ok (.value v) w) (h : wpList P ops Q rest (a.put o.dst v) w) : wpList P ops Q (o :: rest) a w :=
  wpList_plain hgd fun _ hK => by
    unfold Oper.wp
    rw [hex]
    exact hK _ _ h
end
end Go.Proofs.Ythgbfakmkdifbaa
