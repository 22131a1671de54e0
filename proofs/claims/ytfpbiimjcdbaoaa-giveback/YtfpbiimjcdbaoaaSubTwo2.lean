/-
  Append of pairs within a region that draws its order: the step's own law.
-/
import Derived.Test.YtfpbiimjcdbaoaaSubTwo
namespace Go.Proofs.Ytfpbiimjcdbaoaa
open Go.RowKit Go.Deep
theorem step_append_pairs {P : Program} (w : World) {ops : Array Oper} {o : Oper} {a : Act} {K : Act → World → Prop} {Q : Exit → Act → World → Prop} {X : Prop} (hgd : o.guard = none) (s x : Operand) (T : TypeId)
    (ho : o.op = .call { callee := .builtin .append, args := #[s, x], argTypes := #[T, T] }) (base : Nat) (t : TypeId) (z : Value) (bytes : Nat) (ht : P.underlying T = some (.slice t))
    (hinfo : (P.info? t).map (fun i => (i.zero, i.size, i.bytes)) = some (some z, 2, bytes)) (hzs : z.cells.size = 2) (v : Value) (n : Nat) (D : List (Int × Int)) (hs : a.eval s = v) (hown : w.ownsRow base t 2 v n (fl D))
    (ao : Option Addr) (m c : Nat) (E : List (Int × Int)) (hm : E.length = m) (hx : a.eval x = .slice ao m c) (hE : Rngs w ao E) (hb : bytes ≤ 64) (hn : n ≤ 1099511627776) (hm2 : m ≤ 1048576) (hbase : base ≤ w.heap.size)
    (h : ∀ v' w', w'.ownsRow base t 2 v' (n + m) (fl (D ++ E)) → w.grownBy w' v.ownBlock → K (a.put o.dst v') w') : if Region.wanted o (yielded ops a.tmps) = true then Oper.wp P o a w K Q else X := by
  have hw : Region.wanted o (yielded ops a.tmps) = true := by simp [Region.wanted, hgd]
  rw [if_pos hw]
  obtain ⟨i0, hi, hz0, hz1, hz2⟩ := info_parts hinfo
  cases ao with
  | none =>
    have hE0 : E = [] := by
      cases E with
      | nil => rfl
      | cons r l =>
        obtain ⟨b, o, h0, _⟩ := hE 0 r.1 r.2 rfl
        cases h0
    subst hE0
    simp at hm
    subst hm
    have hrun := run_append_none (P := P) w T o.type t i0 ht hi v n (fl D) hown c
    unfold Oper.wp
    simp [execOp, ho, resolve, invoke, builtin, hs, hx, hrun, Result.andThen]
    refine h v w ?_ ⟨rfl, rfl, rfl, Nat.le_refl _, fun _ _ _ => rfl⟩
    rw [List.append_nil]
    exact hown
  | some ad =>
    refine wp_append_own w s x T ho base t i0 z 2 bytes ht hi hz0 hz1 hz2 hzs (by decide) v n (fl D) hs hown ad m c (fl E) hx (by rw [fl_length, hm]) (hE.cellsAt rfl) (fl_one E) ?_ ?_ hbase ?_
    · unfold maxLen; omega
    · have : (n + m) * bytes ≤ (n + m) * 64 := Nat.mul_le_mul_left _ hb
      omega
    · exact fun v' w' h1 h2 _ => h v' w' (by rw [fl_append]; exact h1) h2
end Go.Proofs.Ytfpbiimjcdbaoaa
