/-
  Inverses from both sides, ranks of products, powers of elements that all differ (no program in sight).
-/
import Derived.Test.YtbngmmlmhmmpbaaLinAlg
namespace Go.Proofs.Ytbngmmlmhmmpbaa
open E
/-- all places but p -/
def skp (p i : Nat) : Nat := if i < p then i else i + 1
theorem skp_ne (p i : Nat) : skp p i ≠ p := by unfold skp; split <;> omega
theorem skp_lt {p i n : Nat} (hi : i < n) : skp p i < n + 1 := by unfold skp; split <;> omega
theorem sm_skip (n p : Nat) (hp : p < n + 1) (f : Nat → E) : sm (n + 1) f = ad (sm n fun i => f (skp p i)) (f p) := by
  induction n with
  | zero =>
    have e : p = 0 := by omega
    subst e; rfl
  | succ n ih =>
    by_cases e : p = n + 1
    · subst e
      show ad (sm (n + 1) f) (f (n + 1)) = _
      rw [sm_congr (f := fun i => f (skp (n + 1) i)) (g := f) fun i hi => by unfold skp; rw [if_pos hi]]
    · have h := ih (by omega)
      show ad (sm (n + 1) f) (f (n + 1)) = ad (ad (sm n fun i => f (skp p i)) (f (skp p n))) (f p)
      have e2 : skp p n = n + 1 := by unfold skp; rw [if_neg (by omega)]
      rw [h, e2, ad_assoc, ad_assoc, ad_comm (f p)]
/-- more rows than columns: some sum of products of the rows, not all with 0, is 0 -/
theorem null_row (d : Nat) : ∀ n, d < n → ∀ c : Nat → Nat → E, ∃ x : Nat → E, (∃ i, i < n ∧ x i ≠ ze) ∧ ∀ j, j < d → sm n (fun i => mu (x i) (c i j)) = ze := by
  induction d with
  | zero => exact fun n hn c => ⟨fun _ => on, ⟨0, hn, on_ne⟩, fun j hj => by omega⟩
  | succ d ih =>
    intro n hn c
    by_cases hz : ∀ i, i < n → c i d = ze
    · obtain ⟨x, hx, hs⟩ := ih n (by omega) c
      refine ⟨x, hx, fun j hj => ?_⟩
      by_cases e : j = d
      · rw [e]; exact sm_ze' fun i hi => by rw [hz i hi, mu_ze]
      · exact hs j (by omega)
    · have hz' : ∃ p, p < n ∧ c p d ≠ ze := Classical.byContradiction fun q => hz fun i hi => Classical.byContradiction fun r => q ⟨i, hi, r⟩
      obtain ⟨p, hp, hne⟩ := hz'
      obtain ⟨m, rfl⟩ : ∃ m, n = m + 1 := ⟨n - 1, by omega⟩
      obtain ⟨x, ⟨i0, hi0, hx0⟩, hs⟩ := ih m (by omega) fun i j => ad (c (skp p i) j) (mu (mu (c (skp p i) d) (iv (c p d))) (c p j))
      have back : ∀ i, i ≠ p → ∃ k, skp p k = i := fun i hi => ⟨if i < p then i else i - 1, by
        unfold skp
        by_cases e : i < p
        · rw [if_pos e, if_pos e]
        · rw [if_neg e, if_neg (by omega)]; omega⟩
      let y : Nat → E := fun i => if i = p then mu (sm m fun k => mu (x k) (c (skp p k) d)) (iv (c p d)) else x (if i < p then i else i - 1)
      have hyp : y p = mu (sm m fun k => mu (x k) (c (skp p k) d)) (iv (c p d)) := if_pos rfl
      have hyk : ∀ k, y (skp p k) = x k := fun k => by
        show (if skp p k = p then _ else x (if skp p k < p then skp p k else skp p k - 1)) = x k
        rw [if_neg (skp_ne p k)]
        congr 1
        unfold skp
        by_cases e : k < p
        · rw [if_pos e, if_pos e]
        · rw [if_neg e, if_neg (by omega)]; omega
      refine ⟨y, ⟨skp p i0, skp_lt hi0, by rw [hyk]; exact hx0⟩, fun j hj => ?_⟩
      rw [sm_skip m p hp, hyp]
      have e1 : sm m (fun i => mu (y (skp p i)) (c (skp p i) j)) = sm m fun i => mu (x i) (c (skp p i) j) := sm_congr fun i _ => by rw [hyk]
      rw [e1]
      by_cases e : j = d
      · rw [e, mu_assoc, iv_mu hne, mu_on, ad_self]
      · have h := hs j (by omega)
        have e2 : sm m (fun i => mu (x i) (ad (c (skp p i) j) (mu (mu (c (skp p i) d) (iv (c p d))) (c p j)))) = ad (sm m fun i => mu (x i) (c (skp p i) j)) (mu (mu (sm m fun k => mu (x k) (c (skp p k) d)) (iv (c p d))) (c p j)) := by
          rw [← sm_mur, ← sm_mur, ← sm_ad]
          exact sm_congr fun i _ => by rw [mu_ad, mu_assoc, mu_assoc, mu_assoc]
        rw [e2] at h
        exact h
/-- so many vectors as there are 1s -/
theorem ones_le {n d : Nat} (c V : Nat → Nat → E) (h : ∀ i, i < n → ∀ l, l < n → dl i l = sm d fun j => mu (c i j) (V j l)) : n ≤ d := by
  rcases Nat.lt_or_ge d n with hlt | hge
  · obtain ⟨x, ⟨l, hl, hx⟩, hs⟩ := null_row d n hlt c
    refine absurd ?_ hx
    have e1 : x l = sm n fun i => mu (x i) (dl i l) := (sm_dlr hl x).symm
    have e2 : sm n (fun i => mu (x i) (dl i l)) = sm n fun i => sm d fun j => mu (mu (x i) (c i j)) (V j l) := sm_congr fun i hi => by
      rw [h i hi l hl, ← sm_mu]
      exact sm_congr fun j _ => (mu_assoc _ _ _).symm
    rw [e1, e2, sm_swap]
    refine sm_ze' fun j hj => ?_
    rw [sm_mur, hs j hj, ze_mu]
  · exact hge
/-- the rank is no greater than the number of vectors that span the rows -/
theorem rank_le {n m r : Nat} (A : Nat → Nat → E) (c V : Nat → Nat → E) (h : ∀ i, i < n → ∀ l, l < m → A i l = sm r fun j => mu (c i j) (V j l)) : (redTo n A m).2 ≤ r := by
  obtain ⟨piv, q1, q2, _⟩ := red_piv n A m
  have hd := (redTo_le n A m).1
  obtain ⟨D, hD⟩ := pick (P := fun i c => ∀ k, (redTo n A m).1 i k = sm n fun j => mu (c j) (A j k)) (red_span n A m).1
  refine ones_le (fun i j => sm n fun x => mu (D i x) (c x j)) (fun j l => V j (piv l)) fun i hi l hl => ?_
  rw [← q2 i (by omega) l hl, hD i (by omega)]
  have e1 : sm n (fun x => mu (D i x) (A x (piv l))) = sm n fun x => sm r fun j => mu (mu (D i x) (c x j)) (V j (piv l)) := sm_congr fun x hx => by
    rw [h x hx _ (q1 l hl), ← sm_mu]
    exact sm_congr fun j _ => (mu_assoc _ _ _).symm
  rw [e1, sm_swap]
  exact sm_congr fun j _ => sm_mur n _ _
/-- the rows of a matrix as sums of so many as its rank -/
theorem rank_span (n : Nat) (A : Nat → Nat → E) (m : Nat) : ∃ c V : Nat → Nat → E, ∀ i, i < n → ∀ l, l < m → A i l = sm (redTo n A m).2 fun j => mu (c i j) (V j l) := by
  obtain ⟨piv, _, _, q3⟩ := red_piv n A m
  have hd := (redTo_le n A m).1
  obtain ⟨D, hD⟩ := pick (P := fun i c => ∀ k, A i k = sm n fun j => mu (c j) ((redTo n A m).1 j k)) (red_span n A m).2
  refine ⟨D, (redTo n A m).1, fun i hi l hl => ?_⟩
  rw [hD i hi l]
  have cut : ∀ (k : Nat) (f : Nat → E), (redTo n A m).2 ≤ k → (∀ j, (redTo n A m).2 ≤ j → j < k → f j = ze) → sm k f = sm (redTo n A m).2 f := by
    intro k f hk hz
    induction k with
    | zero => rw [show (redTo n A m).2 = 0 by omega]
    | succ k ih =>
      by_cases e : (redTo n A m).2 = k + 1
      · rw [e]
      · show ad (sm k f) (f k) = _
        rw [hz k (by omega) (by omega), ad_ze]
        exact ih (by omega) fun j a b => hz j a (by omega)
  exact cut n _ hd fun j a b => by rw [q3 j a b l hl, mu_ze]
/-- the product of the first, of m columns, and the second -/
def mmE (m : Nat) (M M' : Nat → Nat → E) (r c : Nat) : E := sm m fun i => mu (M r i) (M' i c)
theorem mmE_assoc (m l : Nat) (X Y Z : Nat → Nat → E) (r c : Nat) : mmE l (mmE m X Y) Z r c = mmE m X (mmE l Y Z) r c := by
  unfold mmE
  have h1 : (fun j => mu (sm m fun i => mu (X r i) (Y i j)) (Z j c)) = fun j => sm m fun i => mu (X r i) (mu (Y i j) (Z j c)) := by
    funext j
    rw [← sm_mur]
    exact sm_congr fun i _ => mu_assoc _ _ _
  have h2 : (fun i => mu (X r i) (sm l fun j => mu (Y i j) (Z j c))) = fun i => sm l fun j => mu (X r i) (mu (Y i j) (Z j c)) := by
    funext i
    rw [← sm_mu]
  rw [h1, h2, sm_swap]
theorem rank_mul (n : Nat) (X Y : Nat → Nat → E) : (redTo n (mmE n X Y) n).2 ≤ (redTo n X n).2 ∧ (redTo n (mmE n X Y) n).2 ≤ (redTo n Y n).2 := by
  constructor
  · obtain ⟨c, V, h⟩ := rank_span n X n
    refine rank_le _ c (fun j l => sm n fun k => mu (V j k) (Y k l)) fun i hi l _ => ?_
    have e1 : mmE n X Y i l = sm n fun k => sm (redTo n X n).2 fun j => mu (c i j) (mu (V j k) (Y k l)) := sm_congr fun k hk => by
      rw [h i hi k hk, ← sm_mur]
      exact sm_congr fun j _ => mu_assoc _ _ _
    rw [e1, sm_swap]
    exact sm_congr fun j _ => sm_mu n _ _
  · obtain ⟨c, V, h⟩ := rank_span n Y n
    refine rank_le _ (fun i j => sm n fun k => mu (X i k) (c k j)) V fun i _ l hl => ?_
    have e1 : mmE n X Y i l = sm n fun k => sm (redTo n Y n).2 fun j => mu (mu (X i k) (c k j)) (V j l) := sm_congr fun k hk => by
      rw [h k hk l hl, ← sm_mu]
      exact sm_congr fun j _ => (mu_assoc _ _ _).symm
    rw [e1, sm_swap]
    exact sm_congr fun j _ => sm_mur n _ _
/-- a matrix with 1s behind it -/
def wide (n : Nat) (M : Nat → Nat → E) (r c : Nat) : E := if c < n then M r c else if c = n + r then on else ze
/-- what stands behind it in the end -/
def invM (n : Nat) (M : Nat → Nat → E) (r c : Nat) : E := (redTo n (wide n M) n).1 r (n + c)
theorem wide_rank (n : Nat) (M : Nat → Nat → E) : (redTo n (wide n M) n).2 = (redTo n M n).2 :=
  (red_agree n n (wide n M) M (fun _ _ _ hc => if_pos hc) n (Nat.le_refl _)).1
theorem wide_ones {n : Nat} (M : Nat → Nat → E) (j l : Nat) : wide n M j (n + l) = dl l j := by
  unfold wide dl
  rw [if_neg (by omega)]
  by_cases e : l = j
  · rw [if_pos e, if_pos (by omega)]
  · rw [if_neg e, if_neg (by omega)]
theorem inv_left {n : Nat} {M : Nat → Nat → E} (h : (redTo n M n).2 = n) (i k : Nat) (hi : i < n) (hk : k < n) : mmE n (invM n M) M i k = dl i k := by
  have hf := red_full n (wide n M) n ((wide_rank n M).trans h)
  obtain ⟨D, hD⟩ := pick (P := fun i c => ∀ k, (redTo n (wide n M) n).1 i k = sm n fun j => mu (c j) (wide n M j k)) (red_span n (wide n M) n).1
  have e1 : ∀ l, l < n → invM n M i l = D i l := fun l hl => by
    unfold invM
    rw [hD i hi, ← sm_dl hl (fun j => D i j)]
    exact sm_congr fun j _ => by rw [wide_ones, mu_comm]
  rw [← hf i hi k hk, hD i hi k]
  exact sm_congr fun j hj => by
    rw [e1 j hj]
    show mu (D i j) (M j k) = mu (D i j) (if k < n then M j k else _)
    rw [if_pos hk]
theorem inv_right {n : Nat} {M : Nat → Nat → E} (h : (redTo n M n).2 = n) (i l : Nat) (hi : i < n) : mmE n M (invM n M) i l = dl i l := by
  have hf := red_full n (wide n M) n ((wide_rank n M).trans h)
  obtain ⟨D, hD⟩ := pick (P := fun i c => ∀ k, wide n M i k = sm n fun j => mu (c j) ((redTo n (wide n M) n).1 j k)) (red_span n (wide n M) n).2
  have e1 : ∀ k, k < n → M i k = D i k := fun k hk => by
    have e2 : wide n M i k = M i k := if_pos hk
    rw [← e2, hD i hi k, ← sm_dlr hk (fun j => D i j)]
    exact sm_congr fun j hj => by rw [hf j hj k hk]
  have e3 := hD i hi (n + l)
  rw [wide_ones] at e3
  unfold mmE
  rw [sm_congr (g := fun j => mu (D i j) ((redTo n (wide n M) n).1 j (n + l))) fun j hj => by rw [e1 j hj]; rfl, ← e3]
  unfold dl
  by_cases e : i = l
  · rw [if_pos e, if_pos e.symm]
  · rw [if_neg e, if_neg (fun q => e q.symm)]
/-- one side is enough -/
theorem rank_of_left {n : Nat} {M Q : Nat → Nat → E} (h : ∀ i, i < n → ∀ k, k < n → mmE n Q M i k = dl i k) : (redTo n M n).2 = n := by
  have hd := (redTo_le n M n).1
  obtain ⟨c, V, hc⟩ := rank_span n M n
  have : n ≤ (redTo n M n).2 := by
    refine ones_le (fun i j => sm n fun x => mu (Q i x) (c x j)) V fun i hi l hl => ?_
    rw [← h i hi l hl]
    have e1 : mmE n Q M i l = sm n fun x => sm (redTo n M n).2 fun j => mu (mu (Q i x) (c x j)) (V j l) := sm_congr fun x hx => by
      rw [hc x hx l hl, ← sm_mu]
      exact sm_congr fun j _ => (mu_assoc _ _ _).symm
    rw [e1, sm_swap]
    exact sm_congr fun j _ => sm_mur n _ _
  omega
theorem mmE_ones_right {n : Nat} {A O : Nat → Nat → E} (h : ∀ i, i < n → ∀ k, k < n → O i k = dl i k) (i k : Nat) (hk : k < n) : mmE n A O i k = A i k := by
  unfold mmE
  rw [sm_congr (g := fun j => mu (A i j) (dl j k)) fun j hj => by rw [h j hj k hk]]
  exact sm_dlr hk _
theorem mmE_ones_left {n : Nat} {A O : Nat → Nat → E} (h : ∀ i, i < n → ∀ k, k < n → O i k = dl i k) (i k : Nat) (hi : i < n) : mmE n O A i k = A i k := by
  unfold mmE
  rw [sm_congr (g := fun j => mu (dl i j) (A j k)) fun j hj => by rw [h i hi j hj]]
  exact sm_dl hi _
/-- an inverse from the left is the one that is told -/
theorem inv_unique {n : Nat} {M Q : Nat → Nat → E} (h : ∀ i, i < n → ∀ k, k < n → mmE n Q M i k = dl i k) (i k : Nat) (hi : i < n) (hk : k < n) : Q i k = invM n M i k := by
  have hr := rank_of_left h
  have e1 : mmE n Q (mmE n M (invM n M)) i k = Q i k := mmE_ones_right (fun a ha b _ => inv_right hr a b ha) i k hk
  rw [← e1, ← mmE_assoc]
  exact mmE_ones_left h i k hi
theorem inv_mul {n : Nat} {X Y : Nat → Nat → E} (hx : (redTo n X n).2 = n) (hy : (redTo n Y n).2 = n) :
    (redTo n (mmE n X Y) n).2 = n ∧ ∀ i, i < n → ∀ k, k < n → mmE n (invM n Y) (invM n X) i k = invM n (mmE n X Y) i k := by
  have key : ∀ i, i < n → ∀ k, k < n → mmE n (mmE n (invM n Y) (invM n X)) (mmE n X Y) i k = dl i k := by
    intro i hi k hk
    rw [mmE_assoc, ← inv_left hy i k hi hk]
    refine sm_congr fun j hj => ?_
    rw [← mmE_assoc, mmE_ones_left (fun a ha b hb => inv_left hx a b ha hb) j k hj]
  exact ⟨rank_of_left key, fun i hi k hk => inv_unique key i k hi hk⟩
/-- rows that are the same: no inverse -/
theorem rank_twice {n p q : Nat} {M : Nat → Nat → E} (hp : p < n) (hq : q < n) (hne : p ≠ q) (h : ∀ k, k < n → M p k = M q k) : (redTo n M n).2 < n := by
  have hd := (redTo_le n M n).1
  rcases Nat.lt_or_ge (redTo n M n).2 n with hl | hg
  · exact hl
  · have hr : (redTo n M n).2 = n := by omega
    have e1 := inv_right hr p p hp
    have e2 := inv_right hr q p hq
    rw [dl_self] at e1
    rw [dl_ne (fun e => hne e.symm)] at e2
    have e3 : mmE n M (invM n M) p p = mmE n M (invM n M) q p := sm_congr fun k hk => by rw [h k hk]
    rw [e1, e2] at e3
    exact absurd e3 on_ne
/-! polynomials -/
def ph : Nat → (Nat → E) → E → E
  | 0, _, _ => ze
  | n + 1, u, x => ad (u 0) (mu x (ph n (fun i => u (i + 1)) x))
theorem ph_divide (n : Nat) : ∀ (u : Nat → E) (a : E), ∃ q : Nat → E, (∀ x, ph (n + 1) u x = ad (ph (n + 1) u a) (mu (ad x a) (ph n q x))) ∧ (ph (n + 1) u a = ze → (∀ i, i < n → q i = ze) → ∀ i, i < n + 1 → u i = ze) := by
  induction n with
  | zero =>
    intro u a
    refine ⟨fun _ => ze, fun x => ?_, fun h _ i hi => ?_⟩
    · simp only [ph, mu_ze, ad_ze]
    · simp only [ph, mu_ze, ad_ze] at h
      rw [show i = 0 by omega]; exact h
  | succ n ih =>
    intro u a
    obtain ⟨q1, h1, h2⟩ := ih (fun i => u (i + 1)) a
    refine ⟨fun i => match i with | 0 => ph (n + 1) (fun i => u (i + 1)) a | i + 1 => q1 i, fun x => ?_, fun h hq i hi => ?_⟩
    · show ad (u 0) (mu x (ph (n + 1) (fun i => u (i + 1)) x)) = ad (ad (u 0) (mu a (ph (n + 1) (fun i => u (i + 1)) a))) (mu (ad x a) (ad (ph (n + 1) (fun i => u (i + 1)) a) (mu x (ph n q1 x))))
      rw [h1 x]
      generalize ph (n + 1) (fun i => u (i + 1)) a = A
      generalize ph n q1 x = B
      rw [mu_ad, mu_ad, ad_mu x a A, ad_mu x a (mu x B), mu_left x (ad x a) B, ad_mu x a (mu x B)]
      rw [ad_assoc (u 0), ad_assoc (mu x A) (mu a A), ad_left (mu a A) (mu x A), ← ad_assoc (mu a A) (mu a A), ad_self, ze_ad]
    · have z0 : ph (n + 1) (fun i => u (i + 1)) a = ze := hq 0 (by omega)
      have hu : ∀ i, i < n + 1 → u (i + 1) = ze := h2 z0 fun i hi => hq (i + 1) (by omega)
      cases i with
      | zero =>
        have h' : ad (u 0) (mu a (ph (n + 1) (fun i => u (i + 1)) a)) = ze := h
        rw [z0, mu_ze, ad_ze] at h'
        exact h'
      | succ i => exact hu i (by omega)
/-- a polynomial with as many places where it is 0 as it has coefficients is 0 -/
theorem ph_roots (n : Nat) : ∀ (u : Nat → E) (x : Nat → E), (∀ i j, i < n → j < n → i ≠ j → x i ≠ x j) → (∀ i, i < n → ph n u (x i) = ze) → ∀ i, i < n → u i = ze := by
  induction n with
  | zero => exact fun u x _ _ i hi => by omega
  | succ n ih =>
    intro u x hx h
    obtain ⟨q, h1, h2⟩ := ph_divide n u (x n)
    have hn := h n (by omega)
    refine h2 hn (ih q x (fun i j a b c => hx i j (by omega) (by omega) c) fun i hi => ?_)
    have e := h1 (x i)
    rw [h i (by omega), hn, ze_ad] at e
    have hne : ad (x i) (x n) ≠ ze := fun z => hx i n (by omega) (by omega) (by omega) (eq_of_ad z)
    exact Classical.byContradiction fun z => mu_ne hne z e.symm
def pw (x : E) (k : Nat) : E := ⟨Gf.gpow x.val k, Gf.gpow_lt _ _⟩
theorem pw_zero (x : E) : pw x 0 = on := rfl
theorem pw_succ (x : E) (k : Nat) : pw x (k + 1) = mu (pw x k) x := rfl
theorem sm_front (n : Nat) (f : Nat → E) : sm (n + 1) f = ad (f 0) (sm n fun i => f (i + 1)) := by
  rw [sm_skip n 0 (by omega) f, ad_comm]
  rfl
theorem ph_sm (n : Nat) : ∀ (u : Nat → E) (x : E), ph n u x = sm n fun k => mu (u k) (pw x k) := by
  induction n with
  | zero => exact fun _ _ => rfl
  | succ n ih =>
    intro u x
    show ad (u 0) (mu x (ph n (fun i => u (i + 1)) x)) = _
    rw [sm_front, ih, pw_zero, mu_on, ← sm_mu]
    congr 1
    exact sm_congr fun k _ => by rw [pw_succ, mu_left, mu_comm x]
/-- powers of elements that all differ -/
theorem rank_powers {n : Nat} (x : Nat → E) (hx : ∀ i j, i < n → j < n → i ≠ j → x i ≠ x j) : (redTo n (fun i k => pw (x i) k) n).2 = n := by
  have hd := (redTo_le n (fun i k => pw (x i) k) n).1
  rcases Nat.lt_or_ge (redTo n (fun i k => pw (x i) k) n).2 n with hlt | hge
  · obtain ⟨c, V, hc⟩ := rank_span n (fun i k => pw (x i) k) n
    obtain ⟨u, ⟨k, hk, hu⟩, hs⟩ := null_row _ n hlt fun k j => V j k
    refine absurd (ph_roots n u x hx (fun i hi => ?_) k hk) hu
    rw [ph_sm]
    have e1 : sm n (fun k => mu (u k) (pw (x i) k)) = sm n fun k => sm (redTo n (fun i k => pw (x i) k) n).2 fun j => mu (mu (u k) (V j k)) (c i j) := sm_congr fun k hk => by
      have this : pw (x i) k = _ := hc i hi k hk
      rw [this, ← sm_mu]
      exact sm_congr fun j _ => by rw [mu_comm (c i j), mu_assoc]
    rw [e1, sm_swap]
    exact sm_ze' fun j hj => by rw [sm_mur, hs j hj, ze_mu]
  · omega
end Go.Proofs.Ytbngmmlmhmmpbaa
