/-
  gf.elements: of a list of numbers it returns whether all are from 0 to 255, and the memory stays as it was.
-/
import Derived.Test.YtfdgacpmdlmjnaaChecked
import Derived.WalkKit
import Derived.Test.YtfdgacpmdlmjnaaGfBits
namespace Go.Proofs.Ytfdgacpmdlmjnaa
open Go.RowKit
def elB (a : Int) : Bool := decide (0 ≤ a) && decide (a < 256)
theorem elB_of (a : Int) (h : ¬ a < 0) (h2 : a < 256) : elB a = true := by unfold elB; simp; omega
theorem elB_not (a : Int) (h : a < 0 ∨ 256 ≤ a) : elB a = false := by unfold elB; simp; omega
theorem all_false (l : List Int) (k : Nat) (hk : k < l.length) (h : elB l[k] = false) : l.all elB = false := by
  rw [List.all_eq_false]
  exact ⟨l[k], List.getElem_mem hk, by simpa using h⟩
theorem all_true (l : List Int) (h : ∀ j, j < l.length → elB (l[j]?.getD 0) = true) : l.all elB = true := by
  rw [List.all_eq_true]
  intro x hx
  obtain ⟨i, hi, rfl⟩ := List.getElem_of_mem hx
  have := h i hi
  rw [List.getElem?_eq_getElem hi] at this
  exact this
theorem all_next (l : List Int) (k : Nat) (hk : k < l.length) (h : ∀ j, j < k → elB (l[j]?.getD 0) = true) (h2 : elB l[k] = true) : ∀ j, j < k + 1 → elB (l[j]?.getD 0) = true := by
  intro j hj
  by_cases e : j = k
  · subst e; rw [List.getElem?_eq_getElem hk]; exact h2
  · exact h j (by omega)
set_option maxRecDepth 100000 in
set_option maxHeartbeats 400000 in
theorem elements_any (l : List Int) (bk : Nat) (w : World) (hl : l.length ≤ 1000) (hne : 0 < l.length)
    (hc : ∀ i, i < l.length → w.cell? ⟨bk, i, none⟩ = some (.int .i64 (l[i]?.getD 0))) :
    Calls Try.prog 81 #[.slice (some ⟨bk, 0, none⟩) l.length l.length] w fun e w' => e = .returned (.bool (l.all elB)) ∧ w' = w := by
  go_enter Try.func81, Try.ntmps81
  go_wp2
  go_loop [7] (fun i => ∃ k : Nat, k ≤ l.length ∧ i = .int .i64 k ∧ ∀ j, j < k → elB (l[j]?.getD 0) = true) (fun i => l.length - (intOf i).toNat)
  case atStart => exact ⟨0, Nat.zero_le _, rfl, fun j h => by omega⟩
  case round =>
    obtain ⟨k, hk, rfl, hI⟩ := hrel
    have HI : Hid (∀ j, j < k → elB (l[j]?.getD 0) = true) := hI
    clear hI
    by_cases hlt : k < l.length
    · have hck := hc k hlt
      go_wp2
      · go_ret
        rw [all_false l k hlt (elB_not _ ‹_›)]
        exact ⟨rfl, rfl⟩
      · have h2 : 0 ≤ l[k] ∧ l[k] < 256 := by assumption
        go_round
        case rel => exact ⟨k + 1, by omega, by go_num, all_next l k hlt HI.out (elB_of _ (by omega) (by omega))⟩
        case measure => simp [intOf]; omega
      · go_ret
        rw [all_false l k hlt (elB_not _ (Or.inl ‹_›))]
        exact ⟨rfl, rfl⟩
    · go_wp2
      go_ret
      have e : k = l.length := by omega
      subst e
      rw [all_true l HI.out]
      exact ⟨rfl, rfl⟩
end Go.Proofs.Ytfdgacpmdlmjnaa
