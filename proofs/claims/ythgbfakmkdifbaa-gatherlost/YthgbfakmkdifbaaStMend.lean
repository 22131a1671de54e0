/-
  As many columns lost as parity: the data are made again.
-/
import Derived.Test.YthgbfakmkdifbaaSks
namespace Go.Proofs.Ythgbfakmkdifbaa
open Go.RowKit Go.Deep E
theorem tauP_lo {n p j : Nat} (h : j + p < n) : tauP n p j = j + p := Nat.mod_eq_of_lt h
theorem tauP_hi {n p j : Nat} (h : n ≤ j + p) (hp : p < n) (hj : j < n) : tauP n p j = j + p - n := by
  unfold tauP
  rw [Nat.mod_eq_sub_mod h, Nat.mod_eq_of_lt (by omega)]
theorem hasP_len {n p : Nat} {has : Nat → Bool} (hp : p < n) : (PL n (hasP n p has)).length = (PL n has).length := by
  obtain ⟨a, rfl⟩ : ∃ a, n = a + p := ⟨n - p, by omega⟩
  have h1 := PL_add a p (hasP (a + p) p has)
  have h2 := PL_add p a has
  rw [Nat.add_comm p a] at h2
  rw [h1, h2]
  have e1 : PL a (hasP (a + p) p has) = PL a fun i => has (p + i) := PL_same fun x hx => by
    unfold hasP
    rw [tauP_lo (by omega), Nat.add_comm]
  have e2 : PL p (fun i => hasP (a + p) p has (a + i)) = PL p has := PL_same fun x hx => by
    unfold hasP
    rw [tauP_hi (by omega) hp (by omega), show a + x + p - (a + p) = x by omega]
  rw [e1, e2]
  omega
theorem catW_is {d p c n : Nat} {B : Nat → E} {R : Nat → Nat → E} {N : Nat} (h : ∀ j, j < N → ∀ x, x < wdB d p c (p + j) → R j x = padZ n B (offD d p c j + x)) : ∀ k, k ≤ N → ∀ i, i < offD d p c k → catW d p c R k i = padZ n B i
  | 0, _, i, hi => by rw [offD_0] at hi; omega
  | k + 1, hk, i, hi => by
    rw [offD_s] at hi
    show catB (offD d p c k) (catW d p c R k) (R k) i = _
    unfold catB
    by_cases e : i < offD d p c k
    · rw [if_pos e]
      exact catW_is h k (by omega) i e
    · rw [if_neg e, h k (by omega) _ (by omega), show offD d p c k + (i - offD d p c k) = i by omega]
theorem mend {d p c n : Nat} {B : Nat → E} {has : Nat → Bool} {L : Nat → Nat} (ho : StOk d p c) (hl : (PL (colN d p c) has).length ≤ p) (hL : ∀ r, r < colN d p c → has r = false → L r = wdB d p c r) {i : Nat} (hi : i < 128 * c) : gatD d p c has L (layF d p c n B) i = padZ n B i := by
  have hN := ho.N
  have hp1 := ho.p1
  have hp3 := ho.p3
  obtain ⟨N, hn⟩ : ∃ N, colN d p c = N + p := ⟨colN d p c - p, by omega⟩
  have hoff := ho.off
  have hNp : colN d p c - p = N := by omega
  have hback : ∀ r, r < N + p → ∀ x, x < wdB d p c 0 → rebC (colN d p c) p (hasP (colN d p c) p has) (gatZ (colN d p c) p L (layF d p c n B)) r x = wholeF N (lonF d p c n B) r x := by
    intro r hr x hx
    unfold rebC
    rw [hNp, hn]
    refine rebD_back (N := N) (q := p) (m := wdB d p c 0) (D := lonF d p c n B) ⟨by omega, by omega⟩ hp3 ?_ ?_ hr hx
    · exact holes_pf (by rw [hasP_len (by omega), ← hn]; exact hl)
    · intro r hr hb x hx
      rw [has_pf hr] at hb
      unfold hasP at hb
      unfold gatZ wholeF
      by_cases e : r < N
      · have ht : tauP (N + p) p r = p + r := by rw [tauP_lo (by omega)]; omega
        rw [if_pos e]
        rw [ht] at hb ⊢
        rw [hL _ (by omega) hb]
        unfold lonF layF
        rw [if_neg (by omega), show p + r - p = r by omega]
      · have ht : tauP (N + p) p r = r - N := by rw [tauP_hi (by omega) (by omega) hr]; omega
        rw [if_neg e]
        rw [ht] at hb ⊢
        rw [hL _ (by omega) hb]
        unfold padZ layF
        rw [ho.wdp (by omega), if_pos hx, if_pos (by omega), hNp]
  unfold gatD
  rw [hNp]
  rw [← hNp] at hback
  refine catW_is (N := N) (fun j hj x hx => ?_) N (Nat.le_refl _) i (by rw [← hNp, hoff]; exact hi)
  have hw := (ho.wd (i := p + j) (by omega)).2.1
  rw [hback j (by omega) x (by omega)]
  unfold wholeF lonF datF
  rw [if_pos (by omega)]
  unfold padZ
  rw [if_pos hx]
/-- the first pick takes nothing as bad -/
theorem gat_first {d p c : Nat} {T : Nat → Bool} {L : Nat → Nat} {F : Nat → Nat → E} {s : Nat → Int} (h : sumB4 c s (gatP d p c T L F []) = true) : gatF d p c T L F s = some [] := by
  have e : ∀ N m, ∃ l, allPk N (m + 1) = [] :: l := fun N m => by
    induction m with
    | zero => exact ⟨[], by show [] ++ pk N 0 0 = _; rw [pk_zero]; rfl⟩
    | succ m ih =>
      obtain ⟨l, hl⟩ := ih
      exact ⟨l ++ pk N (m + 1) 0, by show allPk N (m + 1) ++ pk N (m + 1) 0 = _; rw [hl]; rfl⟩
  obtain ⟨l, hl⟩ := e (plcs (colN d p c) T false).length (p - (plcs (colN d p c) T true).length)
  unfold gatF
  rw [hl, List.find?_cons, h]
theorem mend_none {d p c n : Nat} {B : Nat → E} {T : Nat → Bool} {L : Nat → Nat} (ho : StOk d p c) (hl : (PL (colN d p c) T).length ≤ p) (hL : ∀ r, r < colN d p c → T r = false → L r = wdB d p c r) {i : Nat} (hi : i < 128 * c) : gatP d p c T L (layF d p c n B) [] i = padZ n B i := by
  unfold gatP
  rw [gatD_congr (has' := T) ho fun r hr => ?_]
  · exact mend ho hl hL hi
  · have hm : r ∈ goneL (colN d p c) T [] ↔ T r = true := by
      unfold goneL badL plcs
      rw [List.map_nil, List.append_nil, PL_mem]
      simp [hr]
    cases e : T r with
    | true => exact decide_eq_true (hm.2 e)
    | false => exact decide_eq_false fun h => by have := hm.1 h; rw [e] at this; cases this
theorem mo_congr {s : Nat → Int} {B B' : Nat → E} : ∀ k, (∀ i, i < 4 * k → B i = B' i) → mo s B k = mo s B' k
  | 0, _ => rfl
  | k + 1, h => by
    unfold mo
    rw [mo_congr k fun i hi => h i (by omega), h (4 * k) (by omega), h (4 * k + 1) (by omega), h (4 * k + 2) (by omega), h (4 * k + 3) (by omega)]
theorem moreV_congr {n : Nat} {s : Nat → Int} {B B' : Nat → E} {i : Nat} (h : ∀ x, x < n → B x = B' x) : moreV n s B i = moreV n s B' i := by
  unfold moreV
  split
  · rw [mo_congr (n / 4) fun x hx => h x (by omega)]
  · rfl
theorem mend_sum {d p c n : Nat} {B : Nat → E} {T : Nat → Bool} {L : Nat → Nat} {s : Nat → Int} (ho : StOk d p c) (hl : (PL (colN d p c) T).length ≤ p) (hL : ∀ r, r < colN d p c → T r = false → L r = wdB d p c r) (hs : ∀ i, moreV (128 * c) (fun _ => 0) (padZ n B) i = s i) : gatF d p c T L (layF d p c n B) s = some [] := by
  refine gat_first ?_
  unfold sumB4
  rw [List.all_eq_true]
  intro i _
  rw [decide_eq_true_eq, ← hs i]
  exact moreV_congr fun x hx => mend_none ho hl hL hx
end Go.Proofs.Ythgbfakmkdifbaa
