/-
  All columns in one list, some of them replaced by others; append of whatever was found as one step of a region that draws its order.
-/
import Derived.WalkKit
import Derived.Test.YtfekiccjcfdmkaaByb
import Derived.Test.YtfekiccjcfdmkaaStepCall
import Derived.Test.YtfekiccjcfdmkaaKeepCols
namespace Go.Proofs.Ytfekiccjcfdmkaa
open Go.RowKit Go.Deep E
theorem step_append_vals {P : Program} (w : World) {ops : Array Oper} {o : Oper} {a : Act} {K : Act → World → Prop} {Q : Exit → Act → World → Prop} {X : Prop} (hgd : o.guard = none) (s x : Operand) (T : TypeId)
    (ho : o.op = .call { callee := .builtin .append, args := #[s, x], argTypes := #[T, T] }) (base : Nat) (t : TypeId) (z : Value) (bytes : Nat) (ht : P.underlying T = some (.slice t))
    (hinfo : (P.info? t).map (fun i => (i.zero, i.size, i.bytes)) = some (some z, 1, bytes)) (hzs : z.cells.size = 1) (v : Value) (n : Nat) (xs : List Value) (hs : a.eval s = v) (hown : w.ownsRow base t 1 v n xs)
    (ao : Option Addr) (l c : Nat) (F : Nat → Value) (hx : a.eval x = .slice ao l c) (hF : ∀ i, i < l → ∃ b o, ao = some ⟨b, o, none⟩ ∧ w.cell? ⟨b, o + i, none⟩ = some (F i)) (hone : ∀ i, i < l → (F i).oneCell' = true)
    (hm : n + l ≤ 9223372036854775807) (hb : (n + l) * bytes ≤ 140737488355328) (hbase : base ≤ w.heap.size)
    (h : ∀ v' w', w'.ownsRow base t 1 v' (n + l) (xs ++ (List.range l).map F) → w.grownBy w' v.ownBlock → K (a.put o.dst v') w') : if Region.wanted o (yielded ops a.tmps) = true then Oper.wp P o a w K Q else X := by
  have hw : Region.wanted o (yielded ops a.tmps) = true := by simp [Region.wanted, hgd]
  rw [if_pos hw]
  obtain ⟨i0, hi, hz0, hz1, hz2⟩ := info_parts hinfo
  cases ao with
  | none =>
    have hl : l = 0 := by
      rcases Nat.eq_zero_or_pos l with e | e
      · exact e
      · obtain ⟨b, o, h1, _⟩ := hF 0 e; cases h1
    subst hl
    have hrun := run_append_none (P := P) w T o.type t i0 ht hi v n xs hown c
    unfold Oper.wp
    simp [execOp, ho, resolve, invoke, builtin, hs, hx, hrun, Result.andThen]
    refine h v w ?_ ⟨rfl, rfl, rfl, Nat.le_refl _, fun _ _ _ => rfl⟩
    simpa using hown
  | some ad =>
    refine wp_append_own w s x T ho base t i0 z 1 bytes ht hi hz0 hz1 hz2 hzs (by decide) v n xs hs hown ad l c ((List.range l).map F) hx (by simp) ?_ ?_ ?_ hb hbase ?_
    · intro j y hj
      have e : j < l := by
        rcases Nat.lt_or_ge j l with e | e
        · exact e
        · rw [List.getElem?_eq_none (by simp; omega)] at hj; cases hj
      rw [List.getElem?_map, List.getElem?_range e] at hj
      cases hj
      obtain ⟨b, o, h1, h2⟩ := hF j e
      cases h1
      rw [Go.WideShapes.add_plain]
      exact h2
    · intro y hy
      obtain ⟨i, hi, rfl⟩ := List.mem_map.1 hy
      exact hone i (List.mem_range.1 hi)
    · unfold maxLen; omega
    · exact fun v' w' h1 h2 _ => h v' w' h1 h2
end Go.Proofs.Ytfekiccjcfdmkaa
