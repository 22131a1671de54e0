/-
  Matrices of some of the first three powers of elements that all differ can be inverted (no program in sight).
-/
import Derived.Test.YtbngmmlmhmmpbaaLinAlg2
namespace Go.Proofs.Ytbngmmlmhmmpbaa
open E
/-- a matrix that makes nothing but 0 into 0 -/
theorem rank_null {n : Nat} {M : Nat → Nat → E} (h : ∀ u : Nat → E, (∀ i, i < n → sm n (fun k => mu (u k) (M i k)) = ze) → ∀ k, k < n → u k = ze) : (redTo n M n).2 = n := by
  have hd := (redTo_le n M n).1
  rcases Nat.lt_or_ge (redTo n M n).2 n with hlt | hge
  · obtain ⟨c, V, hc⟩ := rank_span n M n
    obtain ⟨u, ⟨k, hk, hu⟩, hs⟩ := null_row _ n hlt fun k j => V j k
    refine absurd (h u (fun i hi => ?_) k hk) hu
    have e1 : sm n (fun k => mu (u k) (M i k)) = sm n fun k => sm (redTo n M n).2 fun j => mu (mu (u k) (V j k)) (c i j) := sm_congr fun k hk => by
      rw [hc i hi k hk, ← sm_mu]
      exact sm_congr fun j _ => by rw [mu_comm (c i j), mu_assoc]
    rw [e1, sm_swap]
    exact sm_ze' fun j hj => by rw [sm_mur, hs j hj, ze_mu]
  · omega
/-- .. and the other way round -/
theorem rank_tr {n : Nat} {M : Nat → Nat → E} (h : (redTo n M n).2 = n) : (redTo n (fun i k => M k i) n).2 = n := by
  refine rank_of_left (Q := fun i k => invM n M k i) fun i hi k hk => ?_
  have e := inv_right h k i hk
  have e2 : dl i k = dl k i := by
    unfold dl
    by_cases q : i = k
    · rw [if_pos q, if_pos q.symm]
    · rw [if_neg q, if_neg (fun z => q z.symm)]
  rw [e2, ← e]
  exact sm_congr fun j _ => mu_comm _ _
theorem pw_add (x : E) (a b : Nat) : pw x (a + b) = mu (pw x a) (pw x b) := by
  induction b with
  | zero => rw [Nat.add_zero, pw_zero, mu_on]
  | succ b ih => rw [← Nat.add_assoc, pw_succ, pw_succ, ih, mu_assoc]
theorem pw_one (x : E) : pw x 1 = x := by rw [pw_succ, pw_zero, on_mu]
theorem pw_mul (x : E) (a b : Nat) : pw x (a * b) = pw (pw x a) b := by
  induction b with
  | zero => rw [Nat.mul_zero, pw_zero, pw_zero]
  | succ b ih => rw [Nat.mul_succ, pw_add, ih, pw_succ]
theorem pw_ne {x : E} (h : x ≠ ze) (k : Nat) : pw x k ≠ ze := by
  induction k with
  | zero => exact on_ne
  | succ k ih => rw [pw_succ]; exact mu_ne ih h
/-- squares of elements that differ do -/
theorem sq_inj {x y : E} (h : pw x 2 = pw y 2) : x = y := by
  have e : ∀ z : E, pw z 2 = mu z z := fun z => by rw [show 2 = 1 + 1 from rfl, pw_add, pw_one]
  rw [e, e] at h
  refine eq_of_ad (Classical.byContradiction fun z => mu_ne z z ?_)
  rw [mu_ad, ad_mu, ad_mu, h, mu_comm y x, ad_assoc, ← ad_assoc (mu x y), ad_self, ze_ad, ad_self]
theorem rank_shift {n : Nat} (s y : Nat → E) (hs : ∀ i, i < n → s i ≠ ze) (hy : ∀ i j, i < n → j < n → i ≠ j → y i ≠ y j) : (redTo n (fun i k => mu (s i) (pw (y i) k)) n).2 = n := by
  refine rank_null fun u hu => ph_roots n u y hy fun i hi => ?_
  have e := hu i hi
  rw [sm_congr (g := fun k => mu (s i) (mu (u k) (pw (y i) k))) fun k _ => mu_left _ _ _, sm_mu] at e
  rw [ph_sm]
  exact Classical.byContradiction fun z => mu_ne (hs i hi) z e
/-- of the first three powers as many as there are elements -/
theorem rank_pick {t : Nat} (j : Nat → Nat) (x : Nat → E) (ht : t ≤ 3) (hj : ∀ a, a < t → j a < 3) (hi : ∀ a b, a < b → b < t → j a < j b) (hx0 : ∀ a, a < t → x a ≠ ze) (hx : ∀ a b, a < t → b < t → a ≠ b → x a ≠ x b) :
    (redTo t (fun a b => pw (x b) (j a)) t).2 = t := by
  have key : ∃ s d, (d = 1 ∨ d = 2) ∧ ∀ b, b < t → j b = s + d * b := by
    match t, ht with
    | 0, _ => exact ⟨0, 1, Or.inl rfl, fun b hb => by omega⟩
    | 1, _ => exact ⟨j 0, 1, Or.inl rfl, fun b hb => by rw [show b = 0 by omega]; omega⟩
    | 2, _ =>
      have h1 := hi 0 1 (by omega) (by omega)
      have h2 := hj 1 (by omega)
      refine ⟨j 0, j 1 - j 0, by omega, fun b hb => ?_⟩
      match b, hb with
      | 0, _ => omega
      | 1, _ => omega
    | 3, _ =>
      have h1 := hi 0 1 (by omega) (by omega)
      have h3 := hi 1 2 (by omega) (by omega)
      have h2 := hj 2 (by omega)
      refine ⟨0, 1, Or.inl rfl, fun b hb => ?_⟩
      match b, hb with
      | 0, _ => omega
      | 1, _ => omega
      | 2, _ => omega
  obtain ⟨s, d, hd, e⟩ := key
  have h := rank_tr (rank_shift (n := t) (fun a => pw (x a) s) (fun a => pw (x a) d) (fun a ha => pw_ne (hx0 a ha) s) fun a b ha hb hab q => by
    rcases hd with rfl | rfl
    · rw [pw_one, pw_one] at q; exact hx a b ha hb hab q
    · exact hx a b ha hb hab (sq_inj q))
  rw [← (red_agree t t (fun a b => pw (x b) (j a)) _ (fun a ha b _ => ?_) t (Nat.le_refl _)).1] at h
  · exact h
  · show pw (x b) (j a) = mu (pw (x b) s) (pw (pw (x b) d) a)
    rw [e a ha, pw_add, pw_mul]
end Go.Proofs.Ytbngmmlmhmmpbaa
