/-
  Sums of words: in parts, joined, with words 0 ahead, with a word that was changed, with two that changed places.
-/
import Derived.Test.YthgbfakmkdifbaaFletMath
import Derived.Test.YthgbfakmkdifbaaFletMore
namespace Go.Proofs.Ythgbfakmkdifbaa
open Go.RowKit Go.Deep E
/-- the sums behind k numbers -/
def mw (s W : Nat → Int) : Nat → Nat → Int
  | 0 => s
  | k + 1 => stp (mw s W k) (W k)
def wrdOf (B : Nat → E) (k : Nat) : Int := wd (B (4 * k)) (B (4 * k + 1)) (B (4 * k + 2)) (B (4 * k + 3))
theorem mo_mw (s : Nat → Int) (B : Nat → E) : ∀ k, mo s B k = mw s (wrdOf B) k
  | 0 => rfl
  | k + 1 => by unfold mo mw; rw [mo_mw s B k]; rfl
theorem mw_congr {s W W' : Nat → Int} : ∀ k, (∀ i, i < k → W i = W' i) → mw s W k = mw s W' k
  | 0, _ => rfl
  | k + 1, h => by unfold mw; rw [mw_congr k fun i hi => h i (by omega), h k (by omega)]
theorem mw_cat (s W : Nat → Int) (j : Nat) : ∀ k, mw s W (j + k) = mw (mw s W j) (fun i => W (j + i)) k
  | 0 => rfl
  | k + 1 => by rw [show j + (k + 1) = j + k + 1 by omega]; unfold mw; rw [mw_cat s W j k]
theorem wrap_in {x : Int} (h : -9223372036854775808 ≤ x ∧ x ≤ 9223372036854775807) : wrap64 x = x := by unfold wrap64; omega
theorem stp_in (f : Nat → Int) (x : Int) (i : Nat) : -9223372036854775808 ≤ stp f x i ∧ stp f x i ≤ 9223372036854775807 := by
  cases i <;> (unfold stp wrap64; omega)
theorem mw_in {s W : Nat → Int} (h : ∀ i, -9223372036854775808 ≤ s i ∧ s i ≤ 9223372036854775807) : ∀ k i, -9223372036854775808 ≤ mw s W k i ∧ mw s W k i ≤ 9223372036854775807
  | 0, i => h i
  | _ + 1, i => stp_in _ _ i
/-- a sum of both: the first goes on as if words 0 came, the other takes them -/
theorem stp_add {f g h : Nat → Int} {x : Int} (e : ∀ i, wrap64 (f i) = wrap64 (g i + h i)) : ∀ i, wrap64 (stp f x i) = wrap64 (st0 g i + stp h x i)
  | 0 => by
    unfold stp st0
    rw [wrap_wrap, wrap_add_r, ← wrap_add_l, e 0, wrap_add_l]
    congr 1; omega
  | k + 1 => by
    have ih := stp_add e (x := x) k
    unfold stp st0
    rw [wrap_wrap, wrap_add_r, wrap_add_l, ← wrap_add_l, e (k + 1), wrap_add_l, ← wrap_add_r, ih, wrap_add_r]
    congr 1; omega
theorem mw_join (s W : Nat → Int) : ∀ k i, wrap64 (mw s W k i) = wrap64 (jn s k i + mw (fun _ => 0) W k i)
  | 0, i => by show wrap64 (s i) = wrap64 (s i + 0); congr 1; omega
  | k + 1, i => stp_add (fun i => mw_join s W k i) i
theorem mw_joinV {s W : Nat → Int} (h : ∀ i, -9223372036854775808 ≤ s i ∧ s i ≤ 9223372036854775807) (k : Nat) (hk : k ≤ 1048576) (i : Nat) : mw s W k i = joinV s (mw (fun _ => 0) W k) k i := by
  have hB : joinB (k : Int) = true := by unfold joinB; simp; omega
  unfold joinV
  rw [if_pos hB, show (k : Int).toNat = k by omega, ← mw_join, wrap_in (mw_in h k i)]
theorem stp_no {f : Nat → Int} (h : ∀ i, f i = 0) : ∀ i, stp f 0 i = 0
  | 0 => by unfold stp; rw [h]; exact wrap_in (by omega)
  | k + 1 => by unfold stp; rw [h, stp_no h k]; exact wrap_in (by omega)
theorem mw_no {W : Nat → Int} : ∀ k, (∀ i, i < k → W i = 0) → ∀ i, mw (fun _ => 0) W k i = 0
  | 0, _, _ => rfl
  | k + 1, h, i => by unfold mw; rw [h k (by omega)]; exact stp_no (fun i => mw_no k (fun i hi => h i (by omega)) i) i
theorem mw_A0 {s W : Nat → Int} (h : ∀ i, -9223372036854775808 ≤ s i ∧ s i ≤ 9223372036854775807) : ∀ k, (∀ i, i < k → W i = 0) → mw s W k 0 = s 0
  | 0, _ => rfl
  | k + 1, hW => by
    unfold mw stp
    rw [hW k (by omega), mw_A0 h k fun i hi => hW i (by omega), Int.add_zero, wrap_in (h 0)]
/-- the first two sums, not wrapped round -/
def sumW (W : Nat → Int) : Nat → Int
  | 0 => 0
  | k + 1 => sumW W k + W k
def sumV (W : Nat → Int) : Nat → Int
  | 0 => 0
  | k + 1 => sumV W k + sumW W (k + 1)
theorem mw_A (W : Nat → Int) : ∀ k, wrap64 (mw (fun _ => 0) W k 0) = wrap64 (sumW W k)
  | 0 => rfl
  | k + 1 => by unfold mw stp sumW; rw [wrap_wrap, ← wrap_add_l, mw_A W k, wrap_add_l]
theorem mw_B (W : Nat → Int) : ∀ k, wrap64 (mw (fun _ => 0) W k 1) = wrap64 (sumV W k)
  | 0 => rfl
  | k + 1 => by
    have hA := mw_A W (k + 1)
    have e : mw (fun _ => 0) W (k + 1) 1 = wrap64 (mw (fun _ => 0) W k 1 + mw (fun _ => 0) W (k + 1) 0) := rfl
    unfold sumV
    rw [e, wrap_wrap, ← wrap_add_l, mw_B W k, wrap_add_l, ← wrap_add_r, hA, wrap_add_r]
theorem sumW_at {W W' : Nat → Int} {p : Nat} (h : ∀ i, i ≠ p → W' i = W i) : ∀ k, sumW W' k = sumW W k + if p < k then W' p - W p else 0
  | 0 => by simp [sumW]
  | k + 1 => by
    unfold sumW
    rw [sumW_at h k]
    by_cases e : k = p
    · subst e; rw [if_neg (by omega), if_pos (by omega)]; omega
    · rw [h k e]
      by_cases l : p < k
      · rw [if_pos l, if_pos (by omega)]; omega
      · rw [if_neg l, if_neg (by omega)]; omega
/-- a number that is changed is seen in the first sum -/
theorem seen_A {W W' : Nat → Int} {p k : Nat} (hp : p < k) (h : ∀ i, i ≠ p → W' i = W i) (b : 0 ≤ W p ∧ W p < 4294967296) (b' : 0 ≤ W' p ∧ W' p < 4294967296) (hne : W p ≠ W' p) : mw (fun _ => 0) W k 0 ≠ mw (fun _ => 0) W' k 0 := by
  intro e
  have h1 := mw_A W k
  have h2 := mw_A W' k
  rw [← e, sumW_at h k, if_pos hp] at h2
  rw [h1] at h2
  unfold wrap64 at h2
  omega
theorem sumW_swap {W W' : Nat → Int} {p : Nat} (h : ∀ i, i ≠ p → i ≠ p + 1 → W' i = W i) (h0 : W' p = W (p + 1)) (h1 : W' (p + 1) = W p) : ∀ k, sumW W' k = sumW W k + if k = p + 1 then W (p + 1) - W p else 0
  | 0 => by simp [sumW]
  | k + 1 => by
    unfold sumW
    rw [sumW_swap h h0 h1 k]
    by_cases e : k = p
    · subst e; rw [if_neg (by omega), if_pos rfl, h0]; omega
    · by_cases e1 : k = p + 1
      · subst e1; rw [if_pos rfl, if_neg (by omega), h1]; omega
      · rw [h k e e1, if_neg e1, if_neg (by omega)]; omega
theorem sumV_swap {W W' : Nat → Int} {p : Nat} (h : ∀ i, i ≠ p → i ≠ p + 1 → W' i = W i) (h0 : W' p = W (p + 1)) (h1 : W' (p + 1) = W p) : ∀ k, sumV W' k = sumV W k + if p < k then W (p + 1) - W p else 0
  | 0 => by simp [sumV]
  | k + 1 => by
    unfold sumV
    rw [sumV_swap h h0 h1 k, sumW_swap h h0 h1 (k + 1)]
    split <;> split <;> split <;> omega
theorem swap_A {W W' : Nat → Int} {p k : Nat} (hp : p + 1 < k) (h : ∀ i, i ≠ p → i ≠ p + 1 → W' i = W i) (h0 : W' p = W (p + 1)) (h1 : W' (p + 1) = W p) : mw (fun _ => 0) W k 0 = mw (fun _ => 0) W' k 0 := by
  have b1 := mw_in (s := fun _ => 0) (W := W) (fun _ => by omega) k 0
  have b2 := mw_in (s := fun _ => 0) (W := W') (fun _ => by omega) k 0
  have e1 := mw_A W k
  have e2 := mw_A W' k
  rw [sumW_swap h h0 h1 k, if_neg (by omega), Int.add_zero] at e2
  rw [wrap_in b1] at e1
  rw [wrap_in b2] at e2
  rw [e1, e2]
theorem swap_B {W W' : Nat → Int} {p k : Nat} (hp : p + 1 < k) (h : ∀ i, i ≠ p → i ≠ p + 1 → W' i = W i) (h0 : W' p = W (p + 1)) (h1 : W' (p + 1) = W p) (b : 0 ≤ W p ∧ W p < 4294967296) (b' : 0 ≤ W (p + 1) ∧ W (p + 1) < 4294967296) (hne : W p ≠ W (p + 1)) : mw (fun _ => 0) W k 1 ≠ mw (fun _ => 0) W' k 1 := by
  intro e
  have e1 := mw_B W k
  have e2 := mw_B W' k
  rw [← e, sumV_swap h h0 h1 k, if_pos (by omega)] at e2
  rw [e1] at e2
  unfold wrap64 at e2
  omega
theorem wd_inj {a b c d a' b' c' d' : E} (h : wd a b c d = wd a' b' c' d') : a = a' ∧ b = b' ∧ c = c' ∧ d = d' := by
  have b0 := ev_bd a
  have b1 := ev_bd b
  have b2 := ev_bd c
  have b3 := ev_bd d
  have k0 := ev_bd a'
  have k1 := ev_bd b'
  have k2 := ev_bd c'
  have k3 := ev_bd d'
  unfold wd at h
  have q : ∀ x y : E, ev x = ev y → x = y := fun x y h => by rw [← of_ev x, h, of_ev]
  exact ⟨q _ _ (by omega), q _ _ (by omega), q _ _ (by omega), q _ _ (by omega)⟩
/-- two words next to each other have changed places -/
def swB (p : Nat) (f : Nat → E) (i : Nat) : E := if i < 4 * p then f i else if i < 4 * p + 4 then f (i + 4) else if i < 4 * p + 8 then f (i - 4) else f i
theorem wrd_shift {f g : Nat → E} {q q' : Nat} (h : ∀ r, r < 4 → g (4 * q + r) = f (4 * q' + r)) : wrdOf g q = wrdOf f q' := by
  unfold wrdOf
  have h0 := h 0 (by omega)
  simp only [Nat.add_zero] at h0
  rw [h0, h 1 (by omega), h 2 (by omega), h 3 (by omega)]
theorem swB_p (p : Nat) (f : Nat → E) : wrdOf (swB p f) p = wrdOf f (p + 1) := wrd_shift fun r hr => by
  unfold swB
  rw [if_neg (by omega), if_pos (by omega), show 4 * p + r + 4 = 4 * (p + 1) + r by omega]
theorem swB_p1 (p : Nat) (f : Nat → E) : wrdOf (swB p f) (p + 1) = wrdOf f p := wrd_shift fun r hr => by
  unfold swB
  rw [if_neg (by omega), if_neg (by omega), if_pos (by omega), show 4 * (p + 1) + r - 4 = 4 * p + r by omega]
theorem swB_o (p : Nat) (f : Nat → E) (q : Nat) (h : q ≠ p) (h1 : q ≠ p + 1) : wrdOf (swB p f) q = wrdOf f q := wrd_shift fun r hr => by
  unfold swB
  by_cases l : q < p
  · rw [if_pos (by omega)]
  · rw [if_neg (by omega), if_neg (by omega), if_neg (by omega)]
theorem wrd_bd (f : Nat → E) (q : Nat) : 0 ≤ wrdOf f q ∧ wrdOf f q < 4294967296 := wd_bd _ _ _ _
theorem wrd_eq {f g : Nat → E} {q q' : Nat} (h : wrdOf f q = wrdOf g q') (r : Nat) (hr : r < 4) : f (4 * q + r) = g (4 * q' + r) := by
  obtain ⟨h0, h1, h2, h3⟩ := wd_inj h
  match r, hr with
  | 0, _ => exact h0
  | 1, _ => exact h1
  | 2, _ => exact h2
  | 3, _ => exact h3
/-- the same bytes just if both words are the same -/
theorem swB_same {p : Nat} {f : Nat → E} (h : wrdOf f p = wrdOf f (p + 1)) (i : Nat) : f i = swB p f i := by
  unfold swB
  split
  · rfl
  · split
    · have := wrd_eq h (i - 4 * p) (by omega)
      rw [show 4 * p + (i - 4 * p) = i by omega, show 4 * (p + 1) + (i - 4 * p) = i + 4 by omega] at this
      exact this
    · split
      · have := wrd_eq h (i - (4 * p + 4)) (by omega)
        rw [show 4 * p + (i - (4 * p + 4)) = i - 4 by omega, show 4 * (p + 1) + (i - (4 * p + 4)) = i by omega] at this
        exact this.symm
      · rfl
theorem swB_diff {p k : Nat} {f : Nat → E} (hp : p + 1 < k) (h : wrdOf f p ≠ wrdOf f (p + 1)) : ¬ ∀ i, i < 4 * k → f i = swB p f i := fun hall => h (by
  rw [← swB_p p f]
  exact wrd_shift fun r hr => hall (4 * p + r) (by omega))
/-- a word some of whose bytes were changed -/
def chB (p : Nat) (f b : Nat → E) (j i : Nat) : E := if 4 * p ≤ i ∧ i < 4 * p + j then ad (f i) (b (i - 4 * p)) else f i
theorem chB_put (p : Nat) (f b : Nat → E) (j : Nat) (i : Nat) : (if i = 4 * p + j then ad (f (4 * p + j)) (b j) else chB p f b j i) = chB p f b (j + 1) i := by
  unfold chB
  by_cases e : i = 4 * p + j
  · subst e
    rw [if_pos rfl, if_pos (by omega), show 4 * p + j - 4 * p = j by omega]
  · rw [if_neg e]
    by_cases l : 4 * p ≤ i ∧ i < 4 * p + j
    · rw [if_pos l, if_pos (by omega)]
    · rw [if_neg l, if_neg (by omega)]
theorem chB_o (p : Nat) (f b : Nat → E) (j q : Nat) (hj : j ≤ 4) (h : q ≠ p) : wrdOf (chB p f b j) q = wrdOf f q := wrd_shift fun r hr => by
  unfold chB
  rw [if_neg (by omega)]
theorem chB_same {p : Nat} {f b : Nat → E} {j : Nat} (hj : j ≤ 4) (h : wrdOf f p = wrdOf (chB p f b j) p) (i : Nat) : f i = chB p f b j i := by
  by_cases l : 4 * p ≤ i ∧ i < 4 * p + j
  · have := wrd_eq h (i - 4 * p) (by omega)
    rw [show 4 * p + (i - 4 * p) = i by omega] at this
    exact this
  · unfold chB; rw [if_neg l]
theorem chB_diff {p k : Nat} {f b : Nat → E} {j : Nat} (hp : p < k) (h : wrdOf f p ≠ wrdOf (chB p f b j) p) : ¬ ∀ i, i < 4 * k → f i = chB p f b j i := fun hall => h (wrd_shift fun r hr => hall (4 * p + r) (by omega))
end Go.Proofs.Ythgbfakmkdifbaa
