/-
  A list of picks in memory, as a matrix.
-/
import Derived.WalkKit
import Derived.Test.YthgbfakmkdifbaaCombs
namespace Go.Proofs.Ythgbfakmkdifbaa
open Go.RowKit Go.Deep E
def pkL (L : List (List Nat)) (r : Nat) : Nat := (L[r]?.getD []).length
def pkM (L : List (List Nat)) (r : Nat) : Nat → Int := pkF (L[r]?.getD [])
theorem Pks.mat {w w' : World} {a : Option Addr} {c : Nat} {vs : List Value} {L : List (List Nat)} (h : Pks w w' (.slice a L.length c) vs L) : ∃ A C, Mat w' a L.length A (pkL L) C (pkM L) := by
  have each : ∀ r, r < L.length → ∃ y : Option Addr × Nat, vs[r]? = some (.slice y.1 (pkL L r) y.2) ∧ Ints w' y.1 (pkL L r) (pkM L r) := fun r hr => by
    obtain ⟨u, p, h1, h2, h3⟩ := h.row.at hr
    obtain ⟨ua, uc, rfl, _⟩ := own_slice h3
    have e : L[r]?.getD [] = p := by rw [h2]; rfl
    refine ⟨(ua, uc), ?_, ?_⟩
    · show vs[r]? = some (.slice ua (pkL L r) uc)
      unfold pkL
      rw [e]
      exact h1
    · unfold pkL pkM
      rw [e]
      exact own_intsA rfl h3
  obtain ⟨y, hy⟩ := choose_lt each
  refine ⟨fun r => (y r).1, fun r => (y r).2, fun r hr => ⟨?_, (hy r hr).2⟩⟩
  obtain ⟨b, o, h1, h2⟩ := own_slice_at h.top r hr
  exact ⟨b, o, h1, by rw [h2, (hy r hr).1]⟩
end Go.Proofs.Ythgbfakmkdifbaa
