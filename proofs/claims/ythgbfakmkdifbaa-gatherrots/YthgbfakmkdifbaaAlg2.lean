/-
  The document's own sweep of a matrix as plain functions, and that it counts what the reduction counts (no program in sight).
-/
import Derived.Test.YthgbfakmkdifbaaAlg
namespace Go.Proofs.Ythgbfakmkdifbaa
open E
/-- of the rows behind row t, up to row q, so much of row t is added that column c is cleared -/
def elim (q : Nat) (W : Nat → Nat → E) (t c : Nat) (j k : Nat) : E := if t < j ∧ j < q then ad (W j k) (mu (mu (W j c) (iv (W t c))) (W t k)) else W j k
def swStep (n c : Nat) (s : (Nat → Nat → E) × Nat) : (Nat → Nat → E) × Nat :=
  if findNZ s.1 c (n - s.2) s.2 < n then (elim n (swp s.1 s.2 (findNZ s.1 c (n - s.2) s.2)) s.2 c, s.2 + 1) else s
def swTo (n : Nat) (M : Nat → Nat → E) : Nat → (Nat → Nat → E) × Nat
  | 0 => (M, 0)
  | k + 1 => swStep n k (swTo n M k)
theorem swTo_le (n : Nat) (M : Nat → Nat → E) (k : Nat) : (swTo n M k).2 ≤ n ∧ (swTo n M k).2 ≤ k := by
  induction k with
  | zero => exact ⟨Nat.zero_le _, Nat.zero_le _⟩
  | succ k ih =>
    have e : swTo n M (k + 1) = swStep n k (swTo n M k) := rfl
    rw [e]
    unfold swStep
    split
    · rename_i h
      have := (findNZ_spec (swTo n M k).1 k (n - (swTo n M k).2) (swTo n M k).2).1
      exact ⟨by simp only; omega, by simp only; omega⟩
    · exact ⟨ih.1, by omega⟩
theorem sw_ge {d p i : Nat} (hp : d ≤ p) (hi : d ≤ i) : d ≤ sw d p i := by unfold sw; split <;> (try split) <;> omega
/-- the rows that are not done yet are the same, and so is their number -/
theorem sweep_red (n : Nat) (M : Nat → Nat → E) (k : Nat) : (swTo n M k).2 = (redTo n M k).2 ∧ ∀ i, (redTo n M k).2 ≤ i → i < n → (swTo n M k).1 i = (redTo n M k).1 i := by
  induction k with
  | zero => exact ⟨rfl, fun _ _ _ => rfl⟩
  | succ k ih =>
    obtain ⟨i1, i2⟩ := ih
    have hd := (redTo_le n M k).1
    have e : redTo n M (k + 1) = redStep n k ((redTo n M k).1, (redTo n M k).2) := rfl
    have e' : swTo n M (k + 1) = swStep n k ((swTo n M k).1, (swTo n M k).2) := rfl
    rw [e, e', i1]
    generalize (redTo n M k).1 = N at *
    generalize (swTo n M k).1 = W at *
    generalize (redTo n M k).2 = d at *
    have ef : findNZ W k (n - d) d = findNZ N k (n - d) d := by
      obtain ⟨h1, h2, h3, h4⟩ := findNZ_spec N k (n - d) d
      exact findNZ_unique h1 h2 (fun i a b => by rw [i2 i a (by omega)]; exact h3 i a b) (fun a => by rw [i2 _ h1 (by omega)]; exact h4 a)
    obtain ⟨h1, h2, _, h4⟩ := findNZ_spec N k (n - d) d
    by_cases h : findNZ N k (n - d) d < n
    · have r1 : redStep n k (N, d) = (clr n (scl (swp N d (findNZ N k (n - d) d)) d (iv (N (findNZ N k (n - d) d) k))) d k, d + 1) := if_pos h
      have r2 : swStep n k (W, d) = (elim n (swp W d (findNZ N k (n - d) d)) d k, d + 1) := by
        unfold swStep
        simp only
        rw [ef, if_pos h]
      rw [r1, r2]
      have h4' := h4 (by omega)
      generalize findNZ N k (n - d) d = p at *
      refine ⟨rfl, fun i hi hin => funext fun x => ?_⟩
      simp only at hi
      have hdn : d < n := by omega
      show elim n (swp W d p) d k i x = clr n (scl (swp N d p) d (iv (N p k))) d k i x
      rw [(step_cols hdn h4' i hin).1, if_neg (by omega)]
      have e1 : elim n (swp W d p) d k i x = ad (W (sw d p i) x) (mu (mu (W (sw d p i) k) (iv (W (sw d p d) k))) (W (sw d p d) x)) := if_pos ⟨by omega, hin⟩
      have es : sw d p d = p := if_pos rfl
      rw [e1, es, i2 p h1 h, i2 _ (sw_ge h1 (by omega)) (sw_lt hdn h hin)]
      congr 1
      rw [mu_comm (N (sw d p i) k), mu_assoc, mu_comm (N p x), mu_assoc, mu_comm (N p x)]
    · have r1 : redStep n k (N, d) = (N, d) := if_neg h
      have r2 : swStep n k (W, d) = (W, d) := by
        unfold swStep
        simp only
        rw [ef, if_neg h]
      rw [r1, r2]
      exact ⟨rfl, i2⟩
end Go.Proofs.Ythgbfakmkdifbaa
/-
  Determinants by the first column: permutations, sums, rows that are the same; and what Cramer's way of solving comes to (no program in sight).
-/
namespace Go.Proofs.Ythgbfakmkdifbaa
open E
/-- the place of x when place p is left out -/
def ukp (p x : Nat) : Nat := if x < p then x else x - 1
theorem skp_ukp {p x : Nat} (h : x ≠ p) : skp p (ukp p x) = x := by
  unfold skp ukp
  by_cases e : x < p
  · rw [if_pos e, if_pos e]
  · rw [if_neg e, if_neg (by omega)]; omega
theorem ukp_lt {p x n : Nat} (hp : p < n + 1) (hx : x < n + 1) (h : x ≠ p) : ukp p x < n := by unfold ukp; split <;> omega
theorem ukp_skp (p x : Nat) : ukp p (skp p x) = x := by
  unfold skp ukp
  by_cases e : x < p
  · rw [if_pos e, if_pos e]
  · rw [if_neg e, if_neg (by omega)]; omega
theorem skp_inj {p x y : Nat} (h : skp p x = skp p y) : x = y := by have := congrArg (ukp p) h; rwa [ukp_skp, ukp_skp] at this
/-- each of the first n to another of them -/
def Prm (n : Nat) (τ : Nat → Nat) : Prop := (∀ r, r < n → τ r < n) ∧ ∀ r s, r < n → s < n → τ r = τ s → r = s
theorem Prm.down {n : Nat} {τ : Nat → Nat} (h : Prm (n + 1) τ) {i : Nat} (hi : i < n + 1) : Prm n fun r => ukp (τ i) (τ (skp i r)) := by
  have hne : ∀ r, r < n → τ (skp i r) ≠ τ i := fun r hr e => skp_ne i r (h.2 _ _ (skp_lt hr) hi e)
  refine ⟨fun r hr => ukp_lt (h.1 i hi) (h.1 _ (skp_lt hr)) (hne r hr), fun r s hr hs e => ?_⟩
  have e2 : skp (τ i) (ukp (τ i) (τ (skp i r))) = skp (τ i) (ukp (τ i) (τ (skp i s))) := congrArg _ e
  rw [skp_ukp (hne r hr), skp_ukp (hne s hs)] at e2
  exact skp_inj (h.2 _ _ (skp_lt hr) (skp_lt hs) e2)
theorem sm_perm (n : Nat) : ∀ (τ : Nat → Nat), Prm n τ → ∀ g : Nat → E, sm n (fun i => g (τ i)) = sm n g := by
  induction n with
  | zero => exact fun _ _ _ => rfl
  | succ n ih =>
    intro τ h g
    rw [sm_skip n (τ n) (h.1 n (by omega)) g]
    show ad (sm n fun i => g (τ i)) (g (τ n)) = _
    have hd := h.down (i := n) (by omega)
    have e := ih _ hd fun i => g (skp (τ n) i)
    rw [← e]
    congr 1
    refine sm_congr fun i hi => ?_
    have hs : skp n i = i := if_pos hi
    show g (τ i) = g (skp (τ n) (ukp (τ n) (τ (skp n i))))
    rw [hs, skp_ukp fun q => by have := h.2 i n (by omega) (by omega) q; omega]
def detE : Nat → (Nat → Nat → E) → E
  | 0, _ => on
  | n + 1, M => sm (n + 1) fun i => mu (M i 0) (detE n fun r c => M (skp i r) (c + 1))
theorem det_congr (n : Nat) : ∀ M M' : Nat → Nat → E, (∀ r, r < n → ∀ c, c < n → M r c = M' r c) → detE n M = detE n M' := by
  induction n with
  | zero => exact fun _ _ _ => rfl
  | succ n ih =>
    intro M M' h
    refine sm_congr fun i hi => ?_
    rw [h i hi 0 (by omega), ih _ _ fun r hr c hc => h _ (skp_lt hr) _ (by omega)]
theorem det_perm (n : Nat) : ∀ (M : Nat → Nat → E) (τ : Nat → Nat), Prm n τ → detE n (fun r => M (τ r)) = detE n M := by
  induction n with
  | zero => exact fun _ _ _ => rfl
  | succ n ih =>
    intro M τ h
    show sm (n + 1) (fun i => mu (M (τ i) 0) (detE n fun r c => M (τ (skp i r)) (c + 1))) = sm (n + 1) fun i => mu (M i 0) (detE n fun r c => M (skp i r) (c + 1))
    rw [← sm_perm (n + 1) τ h fun i => mu (M i 0) (detE n fun r c => M (skp i r) (c + 1))]
    refine sm_congr fun i hi => ?_
    congr 1
    rw [← ih (fun r c => M (skp (τ i) r) (c + 1)) _ (h.down hi)]
    refine det_congr n _ _ fun r hr c _ => ?_
    rw [skp_ukp fun q => skp_ne i r (h.2 _ _ (skp_lt hr) hi q)]
theorem prm_sw {n d p : Nat} (hd : d < n) (hp : p < n) : Prm n (sw d p) := ⟨fun _ hr => sw_lt hd hp hr, fun _ _ _ _ e => sw_inj e⟩
theorem det_swp {n d p : Nat} (M : Nat → Nat → E) (hd : d < n) (hp : p < n) : detE n (swp M d p) = detE n M := det_perm n M (sw d p) (prm_sw hd hp)
/-- another row in place q -/
def setR (M : Nat → Nat → E) (q : Nat) (u : Nat → E) (r : Nat) : Nat → E := if r = q then u else M r
theorem setR_minor (M : Nat → Nat → E) (q : Nat) (u : Nat → E) (i : Nat) (h : i ≠ q) : (fun r c => setR M q u (skp i r) (c + 1)) = setR (fun r c => M (skp i r) (c + 1)) (ukp i q) (fun c => u (c + 1)) := by
  funext r c
  unfold setR
  by_cases e : skp i r = q
  · rw [if_pos e, if_pos (by rw [← e, ukp_skp])]
  · rw [if_neg e, if_neg (fun k => e (by rw [k, skp_ukp (fun z => h z.symm)]))]
theorem setR_minor_self (M : Nat → Nat → E) (q : Nat) (u : Nat → E) : (fun r c => setR M q u (skp q r) (c + 1)) = fun r c => M (skp q r) (c + 1) := by
  funext r c
  unfold setR
  rw [if_neg (skp_ne q r)]
theorem det_lin (n : Nat) : ∀ (M : Nat → Nat → E) (q : Nat), q < n → ∀ (u v : Nat → E) (f : E), detE n (setR M q fun c => ad (u c) (mu (v c) f)) = ad (detE n (setR M q u)) (mu (detE n (setR M q v)) f) := by
  induction n with
  | zero => exact fun _ _ h => by omega
  | succ n ih =>
    intro M q hq u v f
    show sm (n + 1) _ = ad (sm (n + 1) _) (mu (sm (n + 1) _) f)
    rw [← sm_mur, ← sm_ad]
    refine sm_congr fun i hi => ?_
    by_cases e : i = q
    · subst e
      rw [setR_minor_self, setR_minor_self, setR_minor_self]
      have k : ∀ w : Nat → E, setR M i w i 0 = w 0 := fun w => by unfold setR; rw [if_pos rfl]
      rw [k, k, k, ad_mu, mu_assoc, mu_assoc, mu_comm f]
    · rw [setR_minor _ _ _ _ e, setR_minor _ _ _ _ e, setR_minor _ _ _ _ e]
      have k : ∀ w : Nat → E, setR M q w i 0 = M i 0 := fun w => by unfold setR; rw [if_neg e]
      rw [k, k, k, ih _ _ (ukp_lt hi hq (fun z => e z.symm)), mu_ad, mu_assoc]
theorem setR_self (M : Nat → Nat → E) (q : Nat) : setR M q (M q) = M := by
  funext r
  unfold setR
  by_cases e : r = q
  · rw [if_pos e, e]
  · rw [if_neg e]
theorem det_zero {n q : Nat} (M : Nat → Nat → E) (hq : q < n) (h : ∀ c, c < n → M q c = ze) : detE n M = ze := by
  have e0 : detE n M = detE n (setR M q fun _ => ze) := det_congr n _ _ fun r _ c hc => by
    unfold setR
    by_cases e : r = q
    · rw [if_pos e, e, h c hc]
    · rw [if_neg e]
  have h1 := det_lin n M q hq (fun _ => ze) (fun _ => ze) on
  simp only [mu_on, ad_self] at h1
  rw [e0, h1]
theorem det_scale {n q : Nat} (M : Nat → Nat → E) (hq : q < n) (f : E) : detE n (scl M q f) = mu (detE n M) f := by
  have h1 := det_lin n M q hq (fun _ => ze) (M q) f
  have e1 : setR M q (fun c => ad ze (mu (M q c) f)) = scl M q f := by
    funext r c
    unfold setR scl
    by_cases e : r = q
    · rw [if_pos e, if_pos e, ze_ad]
    · rw [if_neg e, if_neg e]
  rw [e1, setR_self, det_zero (setR M q fun _ => ze) hq (fun c _ => by unfold setR; rw [if_pos rfl]), ze_ad] at h1
  exact h1
theorem det_twice (n : Nat) : ∀ (M : Nat → Nat → E) (q s : Nat), q < n → s < n → q ≠ s → (∀ c, c < n → M q c = M s c) → detE n M = ze := by
  induction n with
  | zero => exact fun _ _ _ h => by omega
  | succ n ih =>
    intro M q s hq hs hne h
    show sm (n + 1) (fun i => mu (M i 0) (detE n fun r c => M (skp i r) (c + 1))) = ze
    have other : ∀ i, i < n + 1 → i ≠ q → i ≠ s → mu (M i 0) (detE n fun r c => M (skp i r) (c + 1)) = ze := fun i hi h1 h2 => by
      rw [ih _ (ukp i q) (ukp i s) (ukp_lt hi hq (fun z => h1 z.symm)) (ukp_lt hi hs (fun z => h2 z.symm)) (fun z => hne (by have := congrArg (skp i) z; rwa [skp_ukp (fun z => h1 z.symm), skp_ukp (fun z => h2 z.symm)] at this)) ?_, mu_ze]
      intro c hc
      show M (skp i (ukp i q)) (c + 1) = M (skp i (ukp i s)) (c + 1)
      rw [skp_ukp (fun z => h1 z.symm), skp_ukp (fun z => h2 z.symm)]
      exact h _ (by omega)
    have swM : ∀ x, ∀ c, c < n + 1 → M (sw q s x) c = M x c := fun x c hc => by
      unfold sw
      by_cases e : x = q
      · rw [if_pos e, e]; exact (h c hc).symm
      · rw [if_neg e]
        by_cases e2 : x = s
        · rw [if_pos e2, e2]; exact h c hc
        · rw [if_neg e2]
    have hsw : ∀ r, sw q s (skp s r) ≠ q := fun r e => skp_ne s r (by
      have := congrArg (sw q s) e
      rw [sw_sw] at this
      rw [this]; unfold sw; rw [if_pos rfl])
    have minor : detE n (fun r c => M (skp s r) (c + 1)) = detE n fun r c => M (skp q r) (c + 1) := by
      rw [← det_perm n (fun r c => M (skp q r) (c + 1)) (fun r => ukp q (sw q s (skp s r))) ⟨fun r hr => ukp_lt hq (sw_lt hq hs (skp_lt hr)) (hsw r), fun r t _ _ e => ?_⟩]
      · refine det_congr n _ _ fun r _ c hc => ?_
        show M (skp s r) (c + 1) = M (skp q (ukp q (sw q s (skp s r)))) (c + 1)
        rw [skp_ukp (hsw r), swM _ _ (by omega)]
      · have e2 := congrArg (skp q) e
        rw [skp_ukp (hsw r), skp_ukp (hsw t)] at e2
        exact skp_inj (sw_inj e2)
    rw [sm_skip n q hq, sm_one (j := ukp q s) (ukp_lt hq hs (fun z => hne z.symm)) _ (fun i hi hni => other _ (skp_lt hi) (skp_ne q i) (fun z => hni (by rw [← z, ukp_skp])))]
    simp only [skp_ukp (fun z => hne z.symm : s ≠ q)]
    rw [minor, h 0 (by omega), ad_self]
/-- of the first q rows, but row d, each gets so much of row d as g tells -/
def addR (q : Nat) (M : Nat → Nat → E) (d : Nat) (g : Nat → E) (r c : Nat) : E := if r < q ∧ r ≠ d then ad (M r c) (mu (M d c) (g r)) else M r c
theorem addR_next (q : Nat) (M : Nat → Nat → E) (d : Nat) (g : Nat → E) (h : q ≠ d) : addR (q + 1) M d g = setR (addR q M d g) q fun c => ad (addR q M d g q c) (mu (addR q M d g d c) (g q)) := by
  funext r c
  have e1 : addR q M d g q c = M q c := if_neg (by omega)
  have e2 : addR q M d g d c = M d c := if_neg (by omega)
  unfold setR
  by_cases e : r = q
  · subst e
    rw [if_pos rfl, e1, e2]
    exact if_pos ⟨by omega, h⟩
  · rw [if_neg e]
    unfold addR
    by_cases e3 : r < q ∧ r ≠ d
    · rw [if_pos e3, if_pos ⟨by omega, e3.2⟩]
    · rw [if_neg e3, if_neg (fun k => e3 ⟨by omega, k.2⟩)]
theorem det_addR {n d : Nat} (M : Nat → Nat → E) (g : Nat → E) (hd : d < n) (q : Nat) (hq : q ≤ n) : detE n (addR q M d g) = detE n M := by
  induction q with
  | zero => exact det_congr n _ _ fun r _ c _ => if_neg (by omega)
  | succ q ih =>
    by_cases e : q = d
    · have e2 : addR (q + 1) M d g = addR q M d g := by
        funext r c
        unfold addR
        by_cases e3 : r < q ∧ r ≠ d
        · rw [if_pos e3, if_pos ⟨by omega, e3.2⟩]
        · rw [if_neg e3, if_neg (fun k => e3 ⟨by omega, k.2⟩)]
      rw [e2]; exact ih (by omega)
    · rw [addR_next q M d g e, det_lin n _ q (by omega), setR_self, ih (by omega), det_twice n (setR (addR q M d g) q _) q d (by omega) hd e (fun c _ => ?_), ze_mu, ad_ze]
      show setR (addR q M d g) q (fun c => addR q M d g d c) q c = setR (addR q M d g) q (fun c => addR q M d g d c) d c
      unfold setR
      rw [if_pos rfl, if_neg (fun z => e z.symm)]
theorem clr_addR (n : Nat) (M : Nat → Nat → E) (d c : Nat) : clr n M d c = addR n M d fun r => M r c := rfl
theorem skp_zero (r : Nat) : skp 0 r = r + 1 := if_neg (by omega)
theorem dl_succ (r c : Nat) : dl (r + 1) (c + 1) = dl r c := by
  unfold dl
  by_cases e : r = c
  · rw [if_pos e, if_pos (by omega)]
  · rw [if_neg e, if_neg (by omega)]
/-- 1s, but column i is x -/
def ones (i : Nat) (x : Nat → E) (r c : Nat) : E := if c = i then x r else dl r c
theorem det_dl (n : Nat) : detE n dl = on := by
  induction n with
  | zero => rfl
  | succ n ih =>
    show sm (n + 1) (fun i => mu (dl i 0) (detE n fun r c => dl (skp i r) (c + 1))) = on
    rw [sm_one (j := 0) (by omega) _ (fun i _ hi => by rw [dl_ne hi, ze_mu]), dl_self, on_mu, ← ih]
    refine det_congr n _ _ fun r _ c _ => ?_
    show dl (skp 0 r) (c + 1) = dl r c
    rw [skp_zero, dl_succ]
theorem det_ones (n : Nat) : ∀ (i : Nat), i < n → ∀ x : Nat → E, detE n (ones i x) = x i := by
  induction n with
  | zero => exact fun _ h => by omega
  | succ n ih =>
    intro i hi x
    show sm (n + 1) (fun j => mu (ones i x j 0) (detE n fun r c => ones i x (skp j r) (c + 1))) = x i
    cases i with
    | zero =>
      rw [sm_one (j := 0) (by omega) _ (fun j hj hne => ?_)]
      · have e1 : detE n (fun r c => ones 0 x (skp 0 r) (c + 1)) = on := by
          rw [← det_dl n]
          refine det_congr n _ _ fun r _ c _ => ?_
          show (if c + 1 = 0 then x (skp 0 r) else dl (skp 0 r) (c + 1)) = dl r c
          rw [if_neg (by omega), skp_zero, dl_succ]
        rw [e1, mu_on]
        rfl
      · obtain ⟨k, rfl⟩ : ∃ k, n = k + 1 := ⟨n - 1, by omega⟩
        rw [det_zero (q := 0) (fun r c => ones 0 x (skp j r) (c + 1)) (by omega) (fun c _ => ?_), mu_ze]
        show (if c + 1 = 0 then x (skp j 0) else dl (skp j 0) (c + 1)) = ze
        rw [if_neg (by omega)]
        have : skp j 0 = 0 := if_pos (by omega)
        rw [this, dl_ne (by omega)]
    | succ i =>
      have e0 : ∀ j, ones (i + 1) x j 0 = dl j 0 := fun j => if_neg (by omega)
      rw [sm_one (j := 0) (by omega) _ (fun j _ hne => by rw [e0, dl_ne hne, ze_mu]), e0, dl_self, on_mu]
      have hx := ih i (by omega) fun r => x (r + 1)
      rw [← hx]
      refine det_congr n _ _ fun r _ c _ => ?_
      show (if c + 1 = i + 1 then x (skp 0 r) else dl (skp 0 r) (c + 1)) = if c = i then x (r + 1) else dl r c
      rw [skp_zero]
      by_cases e : c = i
      · rw [if_pos e, if_pos (by omega)]
      · rw [if_neg e, if_neg (by omega), dl_succ]
/-- column i is the one behind all -/
def colR (n i : Nat) (Z : Nat → Nat → E) (r c : Nat) : E := if c = i then Z r n else Z r c
/-- Cramer: with the x that solves it -/
def Cram (n : Nat) (x : Nat → E) (Z : Nat → Nat → E) : Prop := detE n Z ≠ ze ∧ ∀ i, i < n → detE n (colR n i Z) = mu (x i) (detE n Z)
theorem cram_swp {n : Nat} {x : Nat → E} {Z : Nat → Nat → E} {d p : Nat} (hd : d < n) (hp : p < n) (h : Cram n x (swp Z d p)) : Cram n x Z := by
  refine ⟨by rw [← det_swp Z hd hp]; exact h.1, fun i hi => ?_⟩
  have e : colR n i (swp Z d p) = swp (colR n i Z) d p := rfl
  rw [← det_swp Z hd hp, ← h.2 i hi, e, det_swp _ hd hp]
theorem cram_scl {n : Nat} {x : Nat → E} {Z : Nat → Nat → E} {d : Nat} {f : E} (hd : d < n) (hf : f ≠ ze) (h : Cram n x (scl Z d f)) : Cram n x Z := by
  refine ⟨fun e => h.1 (by rw [det_scale Z hd, e, ze_mu]), fun i hi => ?_⟩
  have e : colR n i (scl Z d f) = scl (colR n i Z) d f := by
    funext r c
    unfold colR scl
    by_cases e1 : c = i <;> by_cases e2 : r = d <;> simp [e1, e2]
  have k := h.2 i hi
  rw [e, det_scale _ hd, det_scale _ hd, ← mu_assoc] at k
  rw [mu_comm, mu_comm (mu (x i) (detE n Z))] at k
  exact mu_cancel hf k
theorem cram_addR {n : Nat} {x : Nat → E} {Z : Nat → Nat → E} {d : Nat} {g : Nat → E} (hd : d < n) (h : Cram n x (addR n Z d g)) : Cram n x Z := by
  refine ⟨by rw [← det_addR Z g hd n (Nat.le_refl _)]; exact h.1, fun i hi => ?_⟩
  have e : colR n i (addR n Z d g) = addR n (colR n i Z) d g := by
    funext r c
    unfold colR addR
    by_cases e1 : c = i <;> by_cases e2 : r < n ∧ r ≠ d <;> simp [e1, e2]
  rw [← det_addR Z g hd n (Nat.le_refl _), ← h.2 i hi, e, det_addR _ g hd n (Nat.le_refl _)]
theorem cram_red {n : Nat} {x : Nat → E} (Z : Nat → Nat → E) (k : Nat) (h : Cram n x (redTo n Z k).1) : Cram n x Z := by
  induction k with
  | zero => exact h
  | succ k ih =>
    have hd := (redTo_le n Z k).1
    have e : redTo n Z (k + 1) = redStep n k ((redTo n Z k).1, (redTo n Z k).2) := rfl
    rcases redStep_cases n k (redTo n Z k).1 (redTo n Z k).2 hd with ⟨h0, _⟩ | ⟨p, h1, h2, h3, _, h0⟩
    · rw [e, h0] at h; exact ih h
    · rw [e, h0] at h
      have hdn : (redTo n Z k).2 < n := by omega
      rw [clr_addR] at h
      exact ih (cram_swp hdn h2 (cram_scl hdn (iv_ne h3) (cram_addR hdn h)))
/-- a matrix with a column behind it -/
def aug (n : Nat) (M : Nat → Nat → E) (v : Nat → E) (r c : Nat) : E := if c < n then M r c else v r
theorem aug_rank (n : Nat) (M : Nat → Nat → E) (v : Nat → E) : (redTo n (aug n M v) n).2 = (redTo n M n).2 :=
  (red_agree n n (aug n M v) M (fun _ _ _ hc => if_pos hc) n (Nat.le_refl _)).1
/-- what solves it is told by the inverse -/
def sol (n : Nat) (M : Nat → Nat → E) (v : Nat → E) (i : Nat) : E := sm n fun j => mu (invM n M i j) (v j)
theorem sol_unique {n : Nat} {M : Nat → Nat → E} {v x : Nat → E} (hr : (redTo n M n).2 = n) (h : ∀ i, i < n → sm n (fun k => mu (M i k) (x k)) = v i) (i : Nat) (hi : i < n) : x i = sol n M v i := by
  unfold sol
  have e1 : sm n (fun j => mu (invM n M i j) (v j)) = mmE n (invM n M) (fun r _ => sm n fun k => mu (M r k) (x k)) i 0 := sm_congr fun j hj => by rw [← h j hj]
  have e2 : (fun (r : Nat) (_ : Nat) => sm n fun k => mu (M r k) (x k)) = mmE n M fun k _ => x k := rfl
  rw [e1, e2, ← mmE_assoc]
  exact (mmE_ones_left (A := fun k _ => x k) (fun a ha b hb => inv_left hr a b ha hb) i 0 hi).symm
/-- a row's equation holds for sums of products of rows -/
theorem span_sol {n : Nat} {Z : Nat → Nat → E} {u x : Nat → E} (hz : ∀ j, j < n → sm n (fun k => mu (Z j k) (x k)) = Z j n) (h : Span n Z u) : sm n (fun k => mu (u k) (x k)) = u n := by
  obtain ⟨c, hc⟩ := h
  rw [hc n, sm_congr (g := fun k => sm n fun j => mu (c j) (mu (Z j k) (x k))) fun k _ => by rw [hc k, ← sm_mur]; exact sm_congr fun j _ => mu_assoc _ _ _, sm_swap]
  exact sm_congr fun j hj => by rw [sm_mu, hz j hj]
theorem aug_sol {n : Nat} {M : Nat → Nat → E} {v : Nat → E} (hr : (redTo n M n).2 = n) (i : Nat) (hi : i < n) : (redTo n (aug n M v) n).1 i n = sol n M v i := by
  have hf := red_full n (aug n M v) n ((aug_rank n M v).trans hr)
  refine sol_unique hr (x := fun i => (redTo n (aug n M v) n).1 i n) (fun j hj => ?_) i hi
  have hz : ∀ j, j < n → sm n (fun k => mu ((redTo n (aug n M v) n).1 j k) ((redTo n (aug n M v) n).1 k n)) = (redTo n (aug n M v) n).1 j n := fun j hj => by
    rw [sm_congr (g := fun k => mu (dl j k) ((redTo n (aug n M v) n).1 k n)) fun k hk => by rw [hf j hj k hk]]
    exact sm_dl hj _
  have h := span_sol (x := fun k => (redTo n (aug n M v) n).1 k n) hz ((red_span n (aug n M v) n).2 j hj)
  have e1 : aug n M v j n = v j := if_neg (by omega)
  rw [e1] at h
  rw [← h]
  exact sm_congr fun k hk => by
    have e2 : aug n M v j k = M j k := if_pos hk
    rw [e2]
/-- Cramer's way -/
theorem cramer {n : Nat} {M : Nat → Nat → E} {v : Nat → E} (hr : (redTo n M n).2 = n) : detE n M ≠ ze ∧ ∀ i, i < n → mu (detE n fun r c => if c = i then v r else M r c) (iv (detE n M)) = sol n M v i := by
  have hf := red_full n (aug n M v) n ((aug_rank n M v).trans hr)
  have hc : Cram n (sol n M v) (aug n M v) := by
    refine cram_red (aug n M v) n ⟨?_, fun i hi => ?_⟩
    · rw [det_congr n _ dl fun r hr' c hc => hf r hr' c hc, det_dl]
      exact on_ne
    · rw [det_congr n (redTo n (aug n M v) n).1 dl fun r hr' c hc => hf r hr' c hc, det_dl, mu_on, ← det_ones n i hi (sol n M v)]
      refine det_congr n _ _ fun r hr' c hc => ?_
      show (if c = i then (redTo n (aug n M v) n).1 r n else (redTo n (aug n M v) n).1 r c) = if c = i then sol n M v r else dl r c
      by_cases e : c = i
      · rw [if_pos e, if_pos e, aug_sol hr r hr']
      · rw [if_neg e, if_neg e, hf r hr' c hc]
  have e1 : detE n (aug n M v) = detE n M := det_congr n _ _ fun r _ c hc => if_pos hc
  obtain ⟨h1, h2⟩ := hc
  rw [e1] at h1
  refine ⟨h1, fun i hi => ?_⟩
  have h3 := h2 i hi
  have e2 : detE n (colR n i (aug n M v)) = detE n fun r c => if c = i then v r else M r c := det_congr n _ _ fun r _ c hc => by
    show (if c = i then aug n M v r n else aug n M v r c) = if c = i then v r else M r c
    by_cases e : c = i
    · rw [if_pos e, if_pos e]; exact if_neg (by omega)
    · rw [if_neg e, if_neg e]; exact if_pos hc
  rw [e1, e2] at h3
  rw [h3, mu_assoc, mu_iv h1, mu_on]
end Go.Proofs.Ythgbfakmkdifbaa
/-
  The document's own way to solve as plain functions: the sweep of a matrix that can be inverted, with a column behind it, has 0 below its diagonal and none on it; what solves it solves each of its rows (no program in sight).
-/
namespace Go.Proofs.Ythgbfakmkdifbaa
open E
theorem red_down {n k : Nat} {Z : Nat → Nat → E} (h : (redTo n Z (k + 1)).2 = k + 1) : (redTo n Z k).2 = k := by
  have hd := redTo_le n Z k
  have e : redTo n Z (k + 1) = redStep n k ((redTo n Z k).1, (redTo n Z k).2) := rfl
  rcases redStep_cases n k (redTo n Z k).1 (redTo n Z k).2 hd.1 with ⟨h0, _⟩ | ⟨p, _, _, _, _, h0⟩
  · rw [e, h0] at h; simp only at h; omega
  · rw [e, h0] at h; simp only at h; omega
theorem red_all {n : Nat} {Z : Nat → Nat → E} (h : (redTo n Z n).2 = n) (k : Nat) (hk : k ≤ n) : (redTo n Z k).2 = k := by
  have : ∀ d k, k + d = n → (redTo n Z k).2 = k := by
    intro d
    induction d with
    | zero => intro k e; rw [show k = n by omega]; exact h
    | succ d ih => intro k e; exact red_down (ih (k + 1) (by omega))
  exact this (n - k) k (by omega)
theorem sw_all {n : Nat} {Z : Nat → Nat → E} (h : (redTo n Z n).2 = n) (k : Nat) (hk : k ≤ n) : (swTo n Z k).2 = k := (sweep_red n Z k).1.trans (red_all h k hk)
theorem sw_left {n : Nat} {Z : Nat → Nat → E} (h : (redTo n Z n).2 = n) {c : Nat} (hc : c ≤ n) (i : Nat) (h1 : c ≤ i) (hi : i < n) (j : Nat) (hj : j < c) : (swTo n Z c).1 i j = ze := by
  have hr := red_all h c hc
  rw [(sweep_red n Z c).2 i (by omega) hi, red_full n Z c hr i hi j hj]
  exact dl_ne (by omega)
/-- the next column has an element in a row that is not done yet -/
theorem sw_next {n : Nat} {Z : Nat → Nat → E} (h : (redTo n Z n).2 = n) {c : Nat} (hc : c < n) : ∃ p, c ≤ p ∧ p < n ∧ (∀ s, c ≤ s → s < p → (swTo n Z c).1 s c = ze) ∧ (swTo n Z c).1 p c ≠ ze ∧ swTo n Z (c + 1) = (elim n (swp (swTo n Z c).1 c p) c c, c + 1) := by
  have h1 := sw_all h c (by omega)
  have h2 := sw_all h (c + 1) (by omega)
  have e : swTo n Z (c + 1) = swStep n c (swTo n Z c) := rfl
  rw [e] at h2
  obtain ⟨f1, f2, f3, f4⟩ := findNZ_spec (swTo n Z c).1 c (n - c) c
  unfold swStep at h2
  rw [h1] at h2
  by_cases hf : findNZ (swTo n Z c).1 c (n - c) c < n
  · refine ⟨findNZ (swTo n Z c).1 c (n - c) c, f1, hf, f3, f4 (by omega), ?_⟩
    rw [e]
    unfold swStep
    rw [h1, if_pos hf]
  · rw [if_neg hf, h1] at h2; omega
theorem sw_diag {n : Nat} {Z : Nat → Nat → E} (h : (redTo n Z n).2 = n) (c : Nat) (hc : c ≤ n) : ∀ i, i < c → (swTo n Z c).1 i i ≠ ze ∧ ∀ j, j < i → (swTo n Z c).1 i j = ze := by
  induction c with
  | zero => intro i hi; omega
  | succ c ih =>
    intro i hi
    obtain ⟨p, h1, h2, _, h4, h5⟩ := sw_next h (show c < n by omega)
    rw [h5]
    have e1 : ∀ x, elim n (swp (swTo n Z c).1 c p) c c i x = swp (swTo n Z c).1 c p i x := fun x => if_neg (by omega)
    show elim n (swp (swTo n Z c).1 c p) c c i i ≠ ze ∧ ∀ j, j < i → elim n (swp (swTo n Z c).1 c p) c c i j = ze
    by_cases e : i = c
    · subst e
      have e2 : swp (swTo n Z i).1 i p i = (swTo n Z i).1 p := by unfold swp sw; rw [if_pos rfl]
      refine ⟨by rw [e1, e2]; exact h4, fun j hj => ?_⟩
      rw [e1, e2]
      exact sw_left h (by omega) p h1 h2 j hj
    · have e2 : swp (swTo n Z c).1 c p i = (swTo n Z c).1 i := by unfold swp sw; rw [if_neg e, if_neg (by omega)]
      obtain ⟨i1, i2⟩ := ih (by omega) i (by omega)
      exact ⟨by rw [e1, e2]; exact i1, fun j hj => by rw [e1, e2]; exact i2 j hj⟩
theorem subS_elim {n : Nat} (X : Nat → Nat → E) {t : Nat} (c : Nat) (ht : t < n) : SubS n X (elim n X t c) := fun i hi => by
  by_cases e : t < i
  · have e2 : elim n X t c i = fun k => ad (X i k) (mu (X t k) (mu (X i c) (iv (X t c)))) := funext fun k => by
      have : elim n X t c i k = ad (X i k) (mu (mu (X i c) (iv (X t c))) (X t k)) := if_pos ⟨e, hi⟩
      rw [this, mu_comm (X t k)]
    rw [e2]
    exact (Span.row X hi).add ((Span.row X ht).mul _)
  · have e2 : elim n X t c i = X i := funext fun k => if_neg (fun h => e h.1)
    rw [e2]; exact Span.row X hi
theorem sw_span {n : Nat} {Z : Nat → Nat → E} (h : (redTo n Z n).2 = n) (c : Nat) (hc : c ≤ n) : SubS n Z (swTo n Z c).1 := by
  induction c with
  | zero => exact SubS.refl n Z
  | succ c ih =>
    obtain ⟨p, h1, h2, _, _, h5⟩ := sw_next h (show c < n by omega)
    rw [h5]
    exact (ih (by omega)).trans ((subS_swp _ (by omega) h2).1.trans (subS_elim _ c (by omega)))
theorem sol_eq {n : Nat} {M : Nat → Nat → E} (hr : (redTo n M n).2 = n) (v : Nat → E) (i : Nat) (hi : i < n) : sm n (fun k => mu (M i k) (sol n M v k)) = v i := by
  have e1 : sm n (fun k => mu (M i k) (sol n M v k)) = mmE n M (mmE n (invM n M) fun j _ => v j) i 0 := rfl
  rw [e1, ← mmE_assoc]
  exact mmE_ones_left (A := fun j _ => v j) (fun a ha b _ => inv_right hr a b ha) i 0 hi
/-- what is behind the diagonal, up to column q, of row i -/
def beh (q i : Nat) (U : Nat → Nat → E) (x : Nat → E) : E := sm q fun k => if i < k then mu (U i k) (x k) else ze
theorem beh_start (i : Nat) (U : Nat → Nat → E) (x : Nat → E) : beh (i + 1) i U x = ze := by
  have : ∀ q, q ≤ i + 1 → beh q i U x = ze := by
    intro q
    induction q with
    | zero => intro _; rfl
    | succ q ih =>
      intro hq
      show ad (beh q i U x) (if i < q then mu (U i q) (x q) else ze) = ze
      rw [ih (by omega), if_neg (by omega), ad_ze]
  exact this _ (Nat.le_refl _)
theorem beh_next {q i : Nat} (h : i < q) (U : Nat → Nat → E) (x : Nat → E) : beh (q + 1) i U x = ad (beh q i U x) (mu (U i q) (x q)) := by
  show ad (beh q i U x) (if i < q then mu (U i q) (x q) else ze) = _
  rw [if_pos h]
theorem beh_all {i : Nat} {U : Nat → Nat → E} {x : Nat → E} (h : ∀ j, j < i → U i j = ze) (q : Nat) (hq : i < q) : sm q (fun k => mu (U i k) (x k)) = ad (mu (U i i) (x i)) (beh q i U x) := by
  have low : ∀ q, q ≤ i → sm q (fun k => mu (U i k) (x k)) = ze := by
    intro q
    induction q with
    | zero => intro _; rfl
    | succ q ih =>
      intro hq
      show ad (sm q fun k => mu (U i k) (x k)) (mu (U i q) (x q)) = ze
      rw [ih (by omega), h q (by omega), ze_mu, ad_ze]
  induction q with
  | zero => omega
  | succ q ih =>
    show ad (sm q fun k => mu (U i k) (x k)) (mu (U i q) (x q)) = _
    by_cases e : q = i
    · subst e
      rw [low q (Nat.le_refl _), beh_start, ze_ad, ad_ze]
    · rw [ih (by omega), beh_next (by omega), ad_assoc]
/-- the step back -/
theorem back_step {n : Nat} {M : Nat → Nat → E} {v : Nat → E} (hr : (redTo n M n).2 = n) {U : Nat → Nat → E} (hU : U = (swTo n (aug n M v) n).1) (i : Nat) (hi : i < n) :
    U i i ≠ ze ∧ mu (ad (U i n) (beh n i U (sol n M v))) (iv (U i i)) = sol n M v i := by
  have ha := (aug_rank n M v).trans hr
  obtain ⟨d1, d2⟩ := sw_diag ha n (Nat.le_refl _) i hi
  have hs := sw_span ha n (Nat.le_refl _) i hi
  rw [← hU] at d1 d2 hs
  refine ⟨d1, ?_⟩
  have hz : ∀ j, j < n → sm n (fun k => mu (aug n M v j k) (sol n M v k)) = aug n M v j n := fun j hj => by
    have e1 : aug n M v j n = v j := if_neg (by omega)
    rw [e1, ← sol_eq hr v j hj]
    exact sm_congr fun k hk => by
      have e2 : aug n M v j k = M j k := if_pos hk
      rw [e2]
  have h1 := span_sol hz hs
  rw [beh_all d2 n hi] at h1
  rw [← h1, ad_assoc, ad_self, ad_ze, mu_comm (U i i), mu_assoc, mu_iv d1, mu_on]
end Go.Proofs.Ythgbfakmkdifbaa
