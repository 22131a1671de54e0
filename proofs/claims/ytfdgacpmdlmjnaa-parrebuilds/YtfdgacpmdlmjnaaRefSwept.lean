/-
  quicksetref.swept of a matrix of elements: the number that the sweep counts; the world only grows.
-/
import Derived.Test.YtfdgacpmdlmjnaaChecked
import Derived.WalkKit
import Derived.BigQuiet
import Derived.Test.YtfdgacpmdlmjnaaRefOwn
import Derived.Test.YtfdgacpmdlmjnaaRfs
import Derived.Test.YtfdgacpmdlmjnaaAlg2
import Derived.Test.YtfdgacpmdlmjnaaQuiets
namespace Go.Proofs.Ytfdgacpmdlmjnaa
open Go.RowKit Go.Deep E
theorem mulOf_g (x y : E) (w : World) : Calls Try.prog 35 #[.int .i64 (ev x), .int .i64 (ev y)] w fun e w' => e = .returned (.int .i64 (ev (mu x y))) ∧ Ext w w' := (mulOf_ev x y w).mono fun _ _ h => ⟨h.1, by rw [h.2]; exact Ext.refl _⟩
/-- .. of row j the first q places */ -/
def elimK (q : Nat) (W : Nat → Nat → E) (t c j : Nat) (r k : Nat) : E := if r = j ∧ k < q then ad (W j k) (mu (mu (W j c) (iv (W t c))) (W t k)) else W r k
theorem elimK_put (q : Nat) (W : Nat → Nat → E) (t c j : Nat) : put1 (elimK q W t c j) j q (ad (W j q) (mu (mu (W j c) (iv (W t c))) (W t q))) = elimK (q + 1) W t c j := by
  funext r k
  unfold put1 elimK
  by_cases e : r = j ∧ k = q
  · obtain ⟨rfl, rfl⟩ := e
    rw [if_pos ⟨rfl, rfl⟩, if_pos ⟨rfl, by omega⟩]
  · rw [if_neg e]
    by_cases e2 : r = j ∧ k < q
    · rw [if_pos e2, if_pos ⟨e2.1, by omega⟩]
    · rw [if_neg e2, if_neg (fun h => by
        by_cases e3 : k = q
        · exact e ⟨h.1, e3⟩
        · exact e2 ⟨h.1, by omega⟩)]
theorem elimK_all (m : Nat) (W : Nat → Nat → E) (t c j : Nat) (ht : t < j) (r k : Nat) (hk : k < m) : elimK m (elim j W t c) t c j r k = elim (j + 1) W t c r k := by
  have e1 : ∀ x, elim j W t c j x = W j x := fun x => if_neg (by omega)
  have e2 : ∀ x, elim j W t c t x = W t x := fun x => if_neg (by omega)
  unfold elimK
  by_cases e : r = j
  · subst e
    rw [if_pos ⟨rfl, hk⟩, e1, e1, e2, e2]
    exact (if_pos ⟨ht, by omega⟩).symm
  · rw [if_neg (fun h => e h.1)]
    unfold elim
    by_cases e3 : t < r ∧ r < j
    · rw [if_pos e3, if_pos ⟨e3.1, by omega⟩]
    · rw [if_neg e3, if_neg (fun h => e3 ⟨h.1, by omega⟩)]
theorem elim_start (W : Nat → Nat → E) (t c : Nat) : elim (t + 1) W t c = W := by
  funext j k
  exact if_neg (by omega)
theorem swStep_yes {n c d p : Nat} {W W3 : Nat → Nat → E} (hd : d ≤ p) (hp : p < n) (hz : ∀ s, d ≤ s → s < p → W s c = ze) (hnz : W p c ≠ ze) (h3 : W3 = swp W d p) : swStep n c (W, d) = (elim n W3 d c, d + 1) := by
  have e : findNZ W c (n - d) d = p := findNZ_unique hd (by omega) hz (fun _ => hnz)
  unfold swStep
  simp only
  rw [e, if_pos hp, h3]
theorem swStep_no {n c d : Nat} {W : Nat → Nat → E} (hd : d ≤ n) (hz : ∀ s, d ≤ s → s < n → W s c = ze) : swStep n c (W, d) = (W, d) := by
  have e : findNZ W c (n - d) d = n := findNZ_unique hd (by omega) hz (fun h => by omega)
  unfold swStep
  simp only
  rw [e, if_neg (by omega)]
end Go.Proofs.Ytfdgacpmdlmjnaa
