/-
  Rows, what they span, and what the reduction of a matrix makes of them; how many vectors there must be (no program in sight).
-/
import Derived.Test.YtbngmmlmhmmpbaaRedMath
namespace Go.Proofs.Ytbngmmlmhmmpbaa
open E
/-- v is a sum of products of the n rows of M with elements -/
def Span (n : Nat) (M : Nat → Nat → E) (v : Nat → E) : Prop := ∃ c : Nat → E, ∀ k, v k = sm n fun j => mu (c j) (M j k)
/-- each of M' first n rows is such a sum of M's -/
def SubS (n : Nat) (M M' : Nat → Nat → E) : Prop := ∀ i, i < n → Span n M (M' i)
theorem Span.row {n : Nat} (M : Nat → Nat → E) {i : Nat} (hi : i < n) : Span n M (M i) := ⟨fun j => dl i j, fun k => (sm_dl hi fun j => M j k).symm⟩
theorem Span.add {n : Nat} {M : Nat → Nat → E} {u v : Nat → E} (hu : Span n M u) (hv : Span n M v) : Span n M fun k => ad (u k) (v k) := by
  obtain ⟨c, hc⟩ := hu
  obtain ⟨d, hd⟩ := hv
  refine ⟨fun j => ad (c j) (d j), fun k => ?_⟩
  show ad (u k) (v k) = sm n fun j => mu (ad (c j) (d j)) (M j k)
  rw [hc k, hd k, ← sm_ad]
  exact sm_congr fun i _ => (ad_mu _ _ _).symm
theorem Span.mul {n : Nat} {M : Nat → Nat → E} {u : Nat → E} (hu : Span n M u) (a : E) : Span n M fun k => mu (u k) a := by
  obtain ⟨c, hc⟩ := hu
  refine ⟨fun j => mu (c j) a, fun k => ?_⟩
  show mu (u k) a = sm n fun j => mu (mu (c j) a) (M j k)
  rw [hc k, ← sm_mur]
  exact sm_congr fun i _ => by rw [mu_assoc, mu_assoc, mu_comm a]
theorem pick {n : Nat} {P : Nat → (Nat → E) → Prop} (h : ∀ i, i < n → ∃ c, P i c) : ∃ D : Nat → Nat → E, ∀ i, i < n → P i (D i) := by
  refine ⟨fun i => if hi : i < n then Classical.choose (h i hi) else fun _ => ze, fun i hi => ?_⟩
  show P i (if hi : i < n then Classical.choose (h i hi) else fun _ => ze)
  rw [dif_pos hi]
  exact Classical.choose_spec (h i hi)
theorem Span.trans {n : Nat} {M M' : Nat → Nat → E} {v : Nat → E} (h : SubS n M M') (hv : Span n M' v) : Span n M v := by
  obtain ⟨c, hc⟩ := hv
  obtain ⟨D, hD⟩ := pick (P := fun i c => ∀ k, M' i k = sm n fun j => mu (c j) (M j k)) h
  refine ⟨fun j => sm n fun i => mu (c i) (D i j), fun k => ?_⟩
  rw [hc k]
  have e1 : sm n (fun i => mu (c i) (M' i k)) = sm n fun i => sm n fun j => mu (mu (c i) (D i j)) (M j k) := sm_congr fun i hi => by
    rw [hD i hi k, ← sm_mu]
    exact sm_congr fun j _ => (mu_assoc _ _ _).symm
  rw [e1, sm_swap]
  exact sm_congr fun j _ => sm_mur n (M j k) _
theorem SubS.refl (n : Nat) (M : Nat → Nat → E) : SubS n M M := fun _ hi => Span.row M hi
theorem SubS.trans {n : Nat} {A B C : Nat → Nat → E} (h : SubS n A B) (k : SubS n B C) : SubS n A C := fun i hi => Span.trans h (k i hi)
theorem subS_swp {n : Nat} (M : Nat → Nat → E) {d p : Nat} (hd : d < n) (hp : p < n) : SubS n M (swp M d p) ∧ SubS n (swp M d p) M := by
  refine ⟨fun i hi => Span.row M (sw_lt hd hp hi), fun i hi => ?_⟩
  have h := Span.row (swp M d p) (sw_lt hd hp hi)
  have e : swp M d p (sw d p i) = M i := by unfold swp; rw [sw_sw]
  rwa [e] at h
theorem subS_scl {n : Nat} (M : Nat → Nat → E) {d : Nat} {f : E} (hd : d < n) (hf : f ≠ ze) : SubS n M (scl M d f) ∧ SubS n (scl M d f) M := by
  refine ⟨fun i hi => ?_, fun i hi => ?_⟩
  · by_cases e : i = d
    · have h := (Span.row M hd).mul f
      have e2 : scl M d f i = fun k => mu (M d k) f := funext fun k => if_pos e
      rwa [e2]
    · have e2 : scl M d f i = M i := funext fun k => if_neg e
      rw [e2]; exact Span.row M hi
  · by_cases e : i = d
    · have h := (Span.row (scl M d f) hd).mul (iv f)
      have e2 : (fun k => mu (scl M d f d k) (iv f)) = M i := funext fun k => by
        show mu (if d = d then mu (M d k) f else M d k) (iv f) = M i k
        rw [if_pos rfl, mu_assoc, mu_iv hf, mu_on, e]
      rwa [e2] at h
    · have h := Span.row (scl M d f) hi
      have e2 : scl M d f i = M i := funext fun k => if_neg e
      rwa [e2] at h
theorem subS_clr {n : Nat} (M : Nat → Nat → E) {d : Nat} (c : Nat) (hd : d < n) : SubS n M (clr n M d c) ∧ SubS n (clr n M d c) M := by
  have ed : clr n M d c d = M d := funext fun k => if_neg (fun h => h.2 rfl)
  refine ⟨fun i hi => ?_, fun i hi => ?_⟩
  · by_cases e : i = d
    · rw [e, ed]; exact Span.row M hd
    · have e2 : clr n M d c i = fun k => ad (M i k) (mu (M d k) (M i c)) := funext fun k => if_pos ⟨hi, e⟩
      rw [e2]
      exact (Span.row M hi).add ((Span.row M hd).mul _)
  · by_cases e : i = d
    · have h := Span.row (clr n M d c) hd
      rw [ed] at h
      rw [e]; exact h
    · have h := (Span.row (clr n M d c) hi).add ((Span.row (clr n M d c) hd).mul (M i c))
      have e2 : (fun k => ad (clr n M d c i k) (mu (clr n M d c d k) (M i c))) = M i := funext fun k => by
        have e3 : clr n M d c i k = ad (M i k) (mu (M d k) (M i c)) := if_pos ⟨hi, e⟩
        rw [e3, ed, ad_assoc, ad_self, ad_ze]
      rwa [e2] at h
theorem redStep_cases (n c : Nat) (N : Nat → Nat → E) (d : Nat) (hd : d ≤ n) : (redStep n c (N, d) = (N, d) ∧ ∀ i, d ≤ i → i < n → N i c = ze) ∨
    ∃ p, d ≤ p ∧ p < n ∧ N p c ≠ ze ∧ (∀ i, d ≤ i → i < p → N i c = ze) ∧ redStep n c (N, d) = (clr n (scl (swp N d p) d (iv (N p c))) d c, d + 1) := by
  obtain ⟨h1, h2, h3, h4⟩ := findNZ_spec N c (n - d) d
  by_cases h : findNZ N c (n - d) d < n
  · exact Or.inr ⟨_, h1, h, h4 (by omega), h3, if_pos h⟩
  · exact Or.inl ⟨if_neg h, fun i a b => h3 i a (by omega)⟩
theorem red_span (n : Nat) (M : Nat → Nat → E) (k : Nat) : SubS n M (redTo n M k).1 ∧ SubS n (redTo n M k).1 M := by
  induction k with
  | zero => exact ⟨SubS.refl n M, SubS.refl n M⟩
  | succ k ih =>
    have hd := (redTo_le n M k).1
    have e : redTo n M (k + 1) = redStep n k ((redTo n M k).1, (redTo n M k).2) := rfl
    rcases redStep_cases n k (redTo n M k).1 (redTo n M k).2 hd with ⟨h, _⟩ | ⟨p, h1, h2, h3, _, h⟩
    · rw [e, h]; exact ih
    · rw [e, h]
      generalize (redTo n M k).1 = N at *
      generalize (redTo n M k).2 = d at *
      have hdn : d < n := by omega
      have s1 := subS_swp N hdn h2
      have s2 := subS_scl (swp N d p) hdn (iv_ne h3)
      have s3 := subS_clr (scl (swp N d p) d (iv (N p k))) k hdn
      exact ⟨ih.1.trans (s1.1.trans (s2.1.trans s3.1)), (s3.2.trans (s2.2.trans s1.2)).trans ih.2⟩
/-- what holds behind k columns: d of them, the pivots, have a 1 in a row of their own and 0 in all others; all other rows have 0 in the k columns -/
def Piv (n k : Nat) (N : Nat → Nat → E) (d : Nat) (piv : Nat → Nat) : Prop :=
  (∀ j, j < d → piv j < k) ∧ (∀ i, i < n → ∀ j, j < d → N i (piv j) = dl i j) ∧ ∀ i, d ≤ i → i < n → ∀ c, c < k → N i c = ze
theorem step_cols {n c d p : Nat} {N : Nat → Nat → E} (hdn : d < n) (h3 : N p c ≠ ze) (i : Nat) (hi : i < n) :
    (∀ x, clr n (scl (swp N d p) d (iv (N p c))) d c i x = if i = d then mu (N p x) (iv (N p c)) else ad (N (sw d p i) x) (mu (mu (N p x) (iv (N p c))) (N (sw d p i) c))) ∧ clr n (scl (swp N d p) d (iv (N p c))) d c i c = dl i d := by
  have k1 : ∀ x, clr n (scl (swp N d p) d (iv (N p c))) d c i x = if i = d then mu (N p x) (iv (N p c)) else ad (N (sw d p i) x) (mu (mu (N p x) (iv (N p c))) (N (sw d p i) c)) := by
    intro x
    have e0 : swp N d p d = N p := by unfold swp sw; rw [if_pos rfl]
    have e1 : ∀ x, scl (swp N d p) d (iv (N p c)) d x = mu (N p x) (iv (N p c)) := fun x => by
      show (if d = d then mu (swp N d p d x) _ else _) = _
      rw [if_pos rfl, e0]
    by_cases e : i = d
    · subst e
      rw [if_pos rfl]
      have e2 : clr n (scl (swp N i p) i (iv (N p c))) i c i x = scl (swp N i p) i (iv (N p c)) i x := if_neg (fun h => h.2 rfl)
      rw [e2, e1]
    · rw [if_neg e]
      have e2 : clr n (scl (swp N d p) d (iv (N p c))) d c i x = ad (scl (swp N d p) d (iv (N p c)) i x) (mu (scl (swp N d p) d (iv (N p c)) d x) (scl (swp N d p) d (iv (N p c)) i c)) := if_pos ⟨hi, e⟩
      have e3 : ∀ x, scl (swp N d p) d (iv (N p c)) i x = N (sw d p i) x := fun x => if_neg e
      rw [e2, e1, e3, e3]
  refine ⟨k1, ?_⟩
  rw [k1 c, mu_iv h3, on_mu, ad_self]
  by_cases e : i = d
  · rw [if_pos e, e, dl_self]
  · rw [if_neg e, dl_ne e]
theorem red_piv (n : Nat) (M : Nat → Nat → E) (k : Nat) : ∃ piv, Piv n k (redTo n M k).1 (redTo n M k).2 piv := by
  induction k with
  | zero => exact ⟨fun _ => 0, fun j hj => (by have : (redTo n M 0).2 = 0 := rfl; omega), fun i _ j hj => (by have : (redTo n M 0).2 = 0 := rfl; omega), fun i _ _ c hc => by omega⟩
  | succ k ih =>
    obtain ⟨piv, q1, q2, q3⟩ := ih
    have hd := (redTo_le n M k).1
    have e : redTo n M (k + 1) = redStep n k ((redTo n M k).1, (redTo n M k).2) := rfl
    rcases redStep_cases n k (redTo n M k).1 (redTo n M k).2 hd with ⟨h, hz⟩ | ⟨p, h1, h2, h3, _, h⟩
    · rw [e, h]
      refine ⟨piv, fun j hj => by have := q1 j hj; omega, q2, fun i hi hin c hc => ?_⟩
      by_cases ec : c = k
      · rw [ec]; exact hz i hi hin
      · exact q3 i hi hin c (by omega)
    · rw [e, h]
      generalize (redTo n M k).1 = N at *
      generalize (redTo n M k).2 = d at *
      have hdn : d < n := by omega
      refine ⟨fun j => if j = d then k else piv j, fun j hj => ?_, fun i hi j hj => ?_, fun i hi hin c hc => ?_⟩
      · show (if j = d then k else piv j) < k + 1
        by_cases ej : j = d
        · rw [if_pos ej]; omega
        · rw [if_neg ej]; have := q1 j (by omega); omega
      · show clr n _ d k i (if j = d then k else piv j) = dl i j
        obtain ⟨k1, k2⟩ := step_cols hdn h3 i hi
        by_cases ej : j = d
        · rw [if_pos ej, k2, ej]
        · rw [if_neg ej, k1]
          have hj' : j < d := by omega
          have z1 : N p (piv j) = ze := by rw [q2 p h2 j hj', dl_ne (by omega)]
          rw [z1, ze_mu, ze_mu, ad_ze]
          by_cases ei : i = d
          · rw [if_pos ei, ei, dl_ne (by omega)]
          · rw [if_neg ei, q2 _ (sw_lt hdn h2 hi) j hj']
            unfold dl sw
            rw [if_neg ei]
            by_cases ep : i = p
            · rw [if_pos ep, if_neg (by omega), if_neg (by omega)]
            · rw [if_neg ep]
      · show clr n (scl (swp N d p) d (iv (N p k))) d k i c = ze
        obtain ⟨k1, k2⟩ := step_cols hdn h3 i hin
        by_cases ec : c = k
        · rw [ec, k2, dl_ne (by omega)]
        · rw [k1, if_neg (by omega), q3 p h1 h2 c (by omega), ze_mu, ze_mu, ad_ze]
          refine q3 _ ?_ (sw_lt hdn h2 hin) c (by omega)
          unfold sw
          rw [if_neg (by omega)]
          split <;> omega
/-- where each column had its row, the first columns are 1s where row and column have the same place -/
theorem red_full (n : Nat) (M : Nat → Nat → E) (k : Nat) (hk : (redTo n M k).2 = k) : ∀ i, i < n → ∀ j, j < k → (redTo n M k).1 i j = dl i j := by
  induction k with
  | zero => exact fun i _ j hj => by omega
  | succ k ih =>
    have hd := redTo_le n M k
    have e : redTo n M (k + 1) = redStep n k ((redTo n M k).1, (redTo n M k).2) := rfl
    rcases redStep_cases n k (redTo n M k).1 (redTo n M k).2 hd.1 with ⟨h, _⟩ | ⟨p, h1, h2, h3, _, h⟩
    · rw [e, h] at hk; simp only at hk; omega
    · have hk' : (redTo n M k).2 = k := by rw [e, h] at hk; simp only at hk; omega
      have ih' := ih hk'
      rw [e, h]
      generalize (redTo n M k).1 = N at *
      generalize (redTo n M k).2 = d at *
      subst hk'
      have hdn : d < n := by omega
      intro i hi j hj
      show clr n (scl (swp N d p) d (iv (N p d))) d d i j = dl i j
      obtain ⟨k1, k2⟩ := step_cols hdn h3 i hi
      by_cases ej : j = d
      · rw [ej]; exact k2
      · have hj' : j < d := by omega
        rw [k1, ih' p h2 j hj', dl_ne (show p ≠ j by omega), ze_mu, ze_mu, ad_ze]
        by_cases ei : i = d
        · rw [if_pos ei, ei, dl_ne (by omega)]
        · rw [if_neg ei, ih' _ (sw_lt hdn h2 hi) j hj']
          unfold dl sw
          rw [if_neg ei]
          by_cases ep : i = p
          · rw [if_pos ep, if_neg (by omega), if_neg (by omega)]
          · rw [if_neg ep]
/-- what stands behind the columns that are looked at does not matter there -/
theorem red_agree (n K : Nat) (M W : Nat → Nat → E) (h : ∀ i, i < n → ∀ c, c < K → M i c = W i c) (k : Nat) (hk : k ≤ K) :
    (redTo n M k).2 = (redTo n W k).2 ∧ ∀ i, i < n → ∀ c, c < K → (redTo n M k).1 i c = (redTo n W k).1 i c := by
  induction k with
  | zero => exact ⟨rfl, h⟩
  | succ k ih =>
    obtain ⟨i1, i2⟩ := ih (by omega)
    have hd := (redTo_le n M k).1
    have e : redTo n M (k + 1) = redStep n k ((redTo n M k).1, (redTo n M k).2) := rfl
    have e' : redTo n W (k + 1) = redStep n k ((redTo n W k).1, (redTo n W k).2) := rfl
    rw [e, e', ← i1]
    generalize (redTo n M k).1 = N at *
    generalize (redTo n W k).1 = V at *
    generalize (redTo n M k).2 = d at *
    rcases redStep_cases n k N d hd with ⟨h0, hz⟩ | ⟨p, h1, h2, h3, h4, h0⟩
    · rcases redStep_cases n k V d hd with ⟨h0', _⟩ | ⟨p', h1', h2', h3', _⟩
      · rw [h0, h0']; exact ⟨rfl, i2⟩
      · exact absurd ((i2 p' h2' k (by omega)).symm.trans (hz p' h1' h2')) h3'
    · rcases redStep_cases n k V d hd with ⟨_, hz'⟩ | ⟨p', h1', h2', h3', h4', h0'⟩
      · exact absurd ((i2 p h2 k (by omega)).trans (hz' p h1 h2)) h3
      · have ep : p = p' := by
          rcases Nat.lt_trichotomy p p' with q | q | q
          · exact absurd ((i2 p h2 k (by omega)).trans (h4' p h1 q)) h3
          · exact q
          · exact absurd ((i2 p' h2' k (by omega)).symm.trans (h4 p' h1' q)) h3'
        subst ep
        rw [h0, h0']
        refine ⟨rfl, fun i hi c hc => ?_⟩
        have hdn : d < n := by omega
        show clr n (scl (swp N d p) d (iv (N p k))) d k i c = clr n (scl (swp V d p) d (iv (V p k))) d k i c
        rw [(step_cols hdn h3 i hi).1, (step_cols hdn h3' i hi).1, i2 p h2 c hc, i2 p h2 k (by omega), i2 _ (sw_lt hdn h2 hi) c hc, i2 _ (sw_lt hdn h2 hi) k (by omega)]
end Go.Proofs.Ytbngmmlmhmmpbaa
