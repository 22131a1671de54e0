/-
  The document's own way to solve as plain functions: the sweep of a matrix that can be inverted, with a column behind it, has 0 below its diagonal and none on it; what solves it solves each of its rows (no program in sight).
-/
import Derived.Test.YtfnocamooapajaaSwMath
import Derived.Test.YtfnocamooapajaaDetMath
namespace Go.Proofs.Ytfnocamooapajaa
open E
theorem red_down {n k : Nat} {Z : Nat → Nat → E} (h : (redTo n Z (k + 1)).2 = k + 1) : (redTo n Z k).2 = k := by
  have hd := redTo_le n Z k
  have e : redTo n Z (k + 1) = redStep n k ((redTo n Z k).1, (redTo n Z k).2) := rfl
  rcases redStep_cases n k (redTo n Z k).1 (redTo n Z k).2 hd.1 with ⟨h0, _⟩ | ⟨p, _, _, _, _, h0⟩
  · rw [e, h0] at h; simp only at h; omega
  · rw [e, h0] at h; simp only at h; omega
theorem red_all {n : Nat} {Z : Nat → Nat → E} (h : (redTo n Z n).2 = n) (k : Nat) (hk : k ≤ n) : (redTo n Z k).2 = k := by
  have : ∀ d k, k + d = n → (redTo n Z k).2 = k := by
    intro d
    induction d with
    | zero => intro k e; rw [show k = n by omega]; exact h
    | succ d ih => intro k e; exact red_down (ih (k + 1) (by omega))
  exact this (n - k) k (by omega)
theorem sw_all {n : Nat} {Z : Nat → Nat → E} (h : (redTo n Z n).2 = n) (k : Nat) (hk : k ≤ n) : (swTo n Z k).2 = k := (sweep_red n Z k).1.trans (red_all h k hk)
theorem sw_left {n : Nat} {Z : Nat → Nat → E} (h : (redTo n Z n).2 = n) {c : Nat} (hc : c ≤ n) (i : Nat) (h1 : c ≤ i) (hi : i < n) (j : Nat) (hj : j < c) : (swTo n Z c).1 i j = ze := by
  have hr := red_all h c hc
  rw [(sweep_red n Z c).2 i (by omega) hi, red_full n Z c hr i hi j hj]
  exact dl_ne (by omega)
/-- the next column has an element in a row that is not done yet -/
theorem sw_next {n : Nat} {Z : Nat → Nat → E} (h : (redTo n Z n).2 = n) {c : Nat} (hc : c < n) : ∃ p, c ≤ p ∧ p < n ∧ (∀ s, c ≤ s → s < p → (swTo n Z c).1 s c = ze) ∧ (swTo n Z c).1 p c ≠ ze ∧ swTo n Z (c + 1) = (elim n (swp (swTo n Z c).1 c p) c c, c + 1) := by
  have h1 := sw_all h c (by omega)
  have h2 := sw_all h (c + 1) (by omega)
  have e : swTo n Z (c + 1) = swStep n c (swTo n Z c) := rfl
  rw [e] at h2
  obtain ⟨f1, f2, f3, f4⟩ := findNZ_spec (swTo n Z c).1 c (n - c) c
  unfold swStep at h2
  rw [h1] at h2
  by_cases hf : findNZ (swTo n Z c).1 c (n - c) c < n
  · refine ⟨findNZ (swTo n Z c).1 c (n - c) c, f1, hf, f3, f4 (by omega), ?_⟩
    rw [e]
    unfold swStep
    rw [h1, if_pos hf]
  · rw [if_neg hf, h1] at h2; omega
theorem sw_diag {n : Nat} {Z : Nat → Nat → E} (h : (redTo n Z n).2 = n) (c : Nat) (hc : c ≤ n) : ∀ i, i < c → (swTo n Z c).1 i i ≠ ze ∧ ∀ j, j < i → (swTo n Z c).1 i j = ze := by
  induction c with
  | zero => intro i hi; omega
  | succ c ih =>
    intro i hi
    obtain ⟨p, h1, h2, _, h4, h5⟩ := sw_next h (show c < n by omega)
    rw [h5]
    have e1 : ∀ x, elim n (swp (swTo n Z c).1 c p) c c i x = swp (swTo n Z c).1 c p i x := fun x => if_neg (by omega)
    show elim n (swp (swTo n Z c).1 c p) c c i i ≠ ze ∧ ∀ j, j < i → elim n (swp (swTo n Z c).1 c p) c c i j = ze
    by_cases e : i = c
    · subst e
      have e2 : swp (swTo n Z i).1 i p i = (swTo n Z i).1 p := by unfold swp sw; rw [if_pos rfl]
      refine ⟨by rw [e1, e2]; exact h4, fun j hj => ?_⟩
      rw [e1, e2]
      exact sw_left h (by omega) p h1 h2 j hj
    · have e2 : swp (swTo n Z c).1 c p i = (swTo n Z c).1 i := by unfold swp sw; rw [if_neg e, if_neg (by omega)]
      obtain ⟨i1, i2⟩ := ih (by omega) i (by omega)
      exact ⟨by rw [e1, e2]; exact i1, fun j hj => by rw [e1, e2]; exact i2 j hj⟩
theorem subS_elim {n : Nat} (X : Nat → Nat → E) {t : Nat} (c : Nat) (ht : t < n) : SubS n X (elim n X t c) := fun i hi => by
  by_cases e : t < i
  · have e2 : elim n X t c i = fun k => ad (X i k) (mu (X t k) (mu (X i c) (iv (X t c)))) := funext fun k => by
      have : elim n X t c i k = ad (X i k) (mu (mu (X i c) (iv (X t c))) (X t k)) := if_pos ⟨e, hi⟩
      rw [this, mu_comm (X t k)]
    rw [e2]
    exact (Span.row X hi).add ((Span.row X ht).mul _)
  · have e2 : elim n X t c i = X i := funext fun k => if_neg (fun h => e h.1)
    rw [e2]; exact Span.row X hi
theorem sw_span {n : Nat} {Z : Nat → Nat → E} (h : (redTo n Z n).2 = n) (c : Nat) (hc : c ≤ n) : SubS n Z (swTo n Z c).1 := by
  induction c with
  | zero => exact SubS.refl n Z
  | succ c ih =>
    obtain ⟨p, h1, h2, _, _, h5⟩ := sw_next h (show c < n by omega)
    rw [h5]
    exact (ih (by omega)).trans ((subS_swp _ (by omega) h2).1.trans (subS_elim _ c (by omega)))
theorem sol_eq {n : Nat} {M : Nat → Nat → E} (hr : (redTo n M n).2 = n) (v : Nat → E) (i : Nat) (hi : i < n) : sm n (fun k => mu (M i k) (sol n M v k)) = v i := by
  have e1 : sm n (fun k => mu (M i k) (sol n M v k)) = mmE n M (mmE n (invM n M) fun j _ => v j) i 0 := rfl
  rw [e1, ← mmE_assoc]
  exact mmE_ones_left (A := fun j _ => v j) (fun a ha b _ => inv_right hr a b ha) i 0 hi
/-- what is behind the diagonal, up to column q, of row i -/
def beh (q i : Nat) (U : Nat → Nat → E) (x : Nat → E) : E := sm q fun k => if i < k then mu (U i k) (x k) else ze
theorem beh_start (i : Nat) (U : Nat → Nat → E) (x : Nat → E) : beh (i + 1) i U x = ze := by
  have : ∀ q, q ≤ i + 1 → beh q i U x = ze := by
    intro q
    induction q with
    | zero => intro _; rfl
    | succ q ih =>
      intro hq
      show ad (beh q i U x) (if i < q then mu (U i q) (x q) else ze) = ze
      rw [ih (by omega), if_neg (by omega), ad_ze]
  exact this _ (Nat.le_refl _)
theorem beh_next {q i : Nat} (h : i < q) (U : Nat → Nat → E) (x : Nat → E) : beh (q + 1) i U x = ad (beh q i U x) (mu (U i q) (x q)) := by
  show ad (beh q i U x) (if i < q then mu (U i q) (x q) else ze) = _
  rw [if_pos h]
theorem beh_all {i : Nat} {U : Nat → Nat → E} {x : Nat → E} (h : ∀ j, j < i → U i j = ze) (q : Nat) (hq : i < q) : sm q (fun k => mu (U i k) (x k)) = ad (mu (U i i) (x i)) (beh q i U x) := by
  have low : ∀ q, q ≤ i → sm q (fun k => mu (U i k) (x k)) = ze := by
    intro q
    induction q with
    | zero => intro _; rfl
    | succ q ih =>
      intro hq
      show ad (sm q fun k => mu (U i k) (x k)) (mu (U i q) (x q)) = ze
      rw [ih (by omega), h q (by omega), ze_mu, ad_ze]
  induction q with
  | zero => omega
  | succ q ih =>
    show ad (sm q fun k => mu (U i k) (x k)) (mu (U i q) (x q)) = _
    by_cases e : q = i
    · subst e
      rw [low q (Nat.le_refl _), beh_start, ze_ad, ad_ze]
    · rw [ih (by omega), beh_next (by omega), ad_assoc]
/-- the step back -/
theorem back_step {n : Nat} {M : Nat → Nat → E} {v : Nat → E} (hr : (redTo n M n).2 = n) {U : Nat → Nat → E} (hU : U = (swTo n (aug n M v) n).1) (i : Nat) (hi : i < n) :
    U i i ≠ ze ∧ mu (ad (U i n) (beh n i U (sol n M v))) (iv (U i i)) = sol n M v i := by
  have ha := (aug_rank n M v).trans hr
  obtain ⟨d1, d2⟩ := sw_diag ha n (Nat.le_refl _) i hi
  have hs := sw_span ha n (Nat.le_refl _) i hi
  rw [← hU] at d1 d2 hs
  refine ⟨d1, ?_⟩
  have hz : ∀ j, j < n → sm n (fun k => mu (aug n M v j k) (sol n M v k)) = aug n M v j n := fun j hj => by
    have e1 : aug n M v j n = v j := if_neg (by omega)
    rw [e1, ← sol_eq hr v j hj]
    exact sm_congr fun k hk => by
      have e2 : aug n M v j k = M j k := if_pos hk
      rw [e2]
  have h1 := span_sol hz hs
  rw [beh_all d2 n hi] at h1
  rw [← h1, ad_assoc, ad_self, ad_ze, mu_comm (U i i), mu_assoc, mu_iv d1, mu_on]
end Go.Proofs.Ytfnocamooapajaa
