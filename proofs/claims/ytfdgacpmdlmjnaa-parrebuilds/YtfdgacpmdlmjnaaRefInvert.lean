/-
  quicksetref.MatInvert at every matrix, as the same plain functions; the world only grows.
-/
import Derived.Test.YtfdgacpmdlmjnaaChecked
import Derived.WalkKit
import Derived.BigQuiet
import Derived.Test.YtfdgacpmdlmjnaaRefBig
import Derived.Test.YtfdgacpmdlmjnaaRfs
import Derived.Test.YtfdgacpmdlmjnaaMatRank
namespace Go.Proofs.Ytfdgacpmdlmjnaa
open Go.RowKit Go.Deep E
theorem solved_any (a : Option Addr) (n c : Nat) (A : Nat → Option Addr) (C : Nat → Nat) (M : Nat → Nat → E) (a' : Option Addr) (c' : Nat) (v : Nat → E) (w : World) (hn : 1 ≤ n ∧ n ≤ 8) (h : Mat w a n A (fun _ => n) C fun r i => ev (M r i)) (hC : ∀ r, r < n → n ≤ C r)
    (hv : Ints w a' n fun i => ev (v i)) (hr : (redTo n M n).2 = n) :
    Calls Try.prog 36 #[.slice a n c, .slice a' n c'] w fun e w' => ListRes w w' e n (fun i => ev (sol n M v i)) ∧ Ext w w' := by
  by_cases h4 : n ≤ 4
  · exact solved_small a n c A C M a' c' v w ⟨hn.1, h4⟩ h hC hv hr
  · exact solved_big a n c A C M a' c' v w ⟨by omega, hn.2⟩ h hv hr
theorem rowHas_of_row {w : World} {b : Nat} {t : TypeId} {n : Nat} {f : Nat → Value} (h : w.rowIs b t n f) : rowHas w b t n f := by
  obtain ⟨c, h1, h2, h3⟩ := h
  exact ⟨c, h1, by omega, h3⟩
theorem OwnM.toC {w : World} {B n m : Nat} {G : Nat → Nat} {M : Nat → Nat → E} (h : OwnM w B n m G M) : OwnC w B n m G (fun _ => m) M :=
  ⟨rowHas_of_row h.top, fun r hr => rowHas_of_row (h.row r hr), h.apart, h.inj⟩
theorem unit_row (w : World) (n i : Nat) : (w.alloc (.cells ((madeCells #[.int .i64 0] n).setIfInBounds i (.int .i64 1)) 3)).rowIs w.heap.size 3 n (evs (dl i)) := by
  have h := (World.rowIs_made w (.int .i64 0) n 3).set i (.int .i64 1)
  rw [World.setCell_alloc_at _ _ _ _ _ rfl] at h
  refine h.congr fun j _ => ?_
  unfold evs dl
  by_cases e : j = i
  · rw [if_pos e, if_pos e.symm]; rfl
  · rw [if_neg e, if_neg (fun q => e q.symm)]; rfl
theorem sol_col {n : Nat} (M : Nat → Nat → E) {k : Nat} (hk : k < n) (i : Nat) : sol n M (dl k) i = invM n M i k := by
  unfold sol
  rw [sm_congr (g := fun j => mu (invM n M i j) (dl j k)) fun j _ => by
    unfold dl
    by_cases e : k = j
    · rw [if_pos e, if_pos e.symm]
    · rw [if_neg e, if_neg (fun q => e q.symm)]]
  exact sm_dlr hk fun j => invM n M i j
/-- a matrix of which the columns ahead of k are made, and of column k the first i places -/
def colsK (k i : Nat) (M : Nat → Nat → E) (r c : Nat) : E := if c < k ∨ (c = k ∧ r < i) then M r c else ze
theorem colsK_put (k i : Nat) (M : Nat → Nat → E) : put1 (colsK k i M) i k (M i k) = colsK k (i + 1) M := by
  funext r c
  unfold put1 colsK
  by_cases e : r = i ∧ c = k
  · rw [if_pos e, if_pos (Or.inr ⟨e.2, by omega⟩), e.1, e.2]
  · rw [if_neg e]
    by_cases e2 : c < k ∨ (c = k ∧ r < i)
    · rw [if_pos e2, if_pos (by rcases e2 with q | q; exact Or.inl q; exact Or.inr ⟨q.1, by omega⟩)]
    · rw [if_neg e2, if_neg (fun h => by
        rcases h with q | q
        · exact e2 (Or.inl q)
        · by_cases e3 : r = i
          · exact e ⟨e3, q.1⟩
          · exact e2 (Or.inr ⟨q.1, by omega⟩))]
theorem colsK_next {k n : Nat} (M : Nat → Nat → E) (r c : Nat) (hr : r < n) : colsK k n M r c = colsK (k + 1) 0 M r c := by
  unfold colsK
  by_cases e : c < k
  · rw [if_pos (Or.inl e), if_pos (Or.inl (by omega))]
  · by_cases e2 : c = k
    · rw [if_pos (Or.inr ⟨e2, hr⟩), if_pos (Or.inl (by omega))]
    · rw [if_neg (by omega), if_neg (by omega)]
end Go.Proofs.Ytfdgacpmdlmjnaa
