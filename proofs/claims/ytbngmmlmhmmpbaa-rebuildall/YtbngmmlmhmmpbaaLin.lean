/-
  The field of 256 elements as a type of its own, with its laws; sums of elements. No program in sight.
-/
import Derived.Test.YtbngmmlmhmmpbaaGfMath
namespace Go.Proofs.Ytbngmmlmhmmpbaa
structure E where
  val : Nat
  lt : val < 256
namespace E
theorem ext {a b : E} (h : a.val = b.val) : a = b := by cases a; cases b; cases h; rfl
def ze : E := ⟨0, by decide⟩
def on : E := ⟨1, by decide⟩
def ad (a b : E) : E := ⟨a.val ^^^ b.val, Gf.xor_lt _ _ a.lt b.lt⟩
def mu (a b : E) : E := ⟨Gf.gmul a.val b.val, Gf.gmul_lt _ _ a.lt⟩
def iv (a : E) : E := ⟨Gf.inv a.val, Gf.inv_lt _⟩
theorem ad_comm (a b : E) : ad a b = ad b a := ext (Nat.xor_comm _ _)
theorem ad_assoc (a b c : E) : ad (ad a b) c = ad a (ad b c) := ext (Nat.xor_assoc _ _ _)
theorem ad_ze (a : E) : ad a ze = a := ext (Nat.xor_zero _)
theorem ze_ad (a : E) : ad ze a = a := ext (Nat.zero_xor _)
theorem ad_self (a : E) : ad a a = ze := ext (Nat.xor_self _)
theorem ad_left (a b c : E) : ad a (ad b c) = ad b (ad a c) := by rw [← ad_assoc, ad_comm a b, ad_assoc]
theorem ad_ad (a b : E) : ad a (ad a b) = b := by rw [← ad_assoc, ad_self, ze_ad]
theorem mu_comm (a b : E) : mu a b = mu b a := ext (Gf.gmul_comm _ _ a.lt b.lt)
theorem mu_assoc (a b c : E) : mu (mu a b) c = mu a (mu b c) := ext (Gf.gmul_assoc _ _ _ a.lt b.lt)
theorem mu_on (a : E) : mu a on = a := ext (Gf.gmul_one _)
theorem on_mu (a : E) : mu on a = a := by rw [mu_comm, mu_on]
theorem mu_ze (a : E) : mu a ze = ze := ext (Gf.gmul_zeroR a.val)
theorem ze_mu (a : E) : mu ze a = ze := ext (Gf.gmul_zeroL a.val)
theorem mu_ad (a b c : E) : mu a (ad b c) = ad (mu a b) (mu a c) := ext (Gf.gmul_xorR _ _ _)
theorem ad_mu (a b c : E) : mu (ad a b) c = ad (mu a c) (mu b c) := ext (Gf.gmul_xorL _ _ _)
theorem mu_left (a b c : E) : mu a (mu b c) = mu b (mu a c) := by rw [← mu_assoc, mu_comm a b, mu_assoc]
theorem pos_of_ne {a : E} (h : a ≠ ze) : 0 < a.val := by
  rcases Nat.eq_zero_or_pos a.val with e | e
  · exact absurd (ext e) h
  · exact e
theorem mu_iv {a : E} (h : a ≠ ze) : mu a (iv a) = on := ext (Gf.gmul_inv _ (pos_of_ne h) a.lt)
theorem iv_mu {a : E} (h : a ≠ ze) : mu (iv a) a = on := by rw [mu_comm, mu_iv h]
theorem on_ne : on ≠ ze := fun h => by cases h
theorem iv_ne {a : E} (h : a ≠ ze) : iv a ≠ ze := fun e => by
  have := mu_iv h
  rw [e, mu_ze] at this
  exact on_ne this.symm
theorem mu_ne {a b : E} (ha : a ≠ ze) (hb : b ≠ ze) : mu a b ≠ ze := fun e => by
  have : mu (iv a) (mu a b) = b := by rw [← mu_assoc, iv_mu ha, on_mu]
  rw [e, mu_ze] at this
  exact hb this.symm
theorem eq_of_ad {a b : E} (h : ad a b = ze) : a = b := by
  have : ad (ad a b) b = b := by rw [h, ze_ad]
  rw [ad_assoc, ad_self, ad_ze] at this
  exact this
theorem mu_cancel {a b c : E} (ha : a ≠ ze) (h : mu a b = mu a c) : b = c := by
  have : mu (iv a) (mu a b) = mu (iv a) (mu a c) := by rw [h]
  rwa [← mu_assoc, ← mu_assoc, iv_mu ha, on_mu, on_mu] at this
def isZe (a : E) : Bool := a.val == 0
theorem isZe_iff (a : E) : isZe a = true ↔ a = ze := by
  unfold isZe
  constructor
  · intro h; exact ext (eq_of_beq h)
  · intro h; rw [h]; rfl
theorem isZe_false (a : E) : isZe a = false ↔ a ≠ ze := by
  constructor
  · intro h e; rw [(isZe_iff a).2 e] at h; cases h
  · intro h
    cases e : isZe a
    · rfl
    · exact absurd ((isZe_iff a).1 e) h
/-- the number that an element is -/
def ev (a : E) : Int := (a.val : Int)
theorem ev_bd (a : E) : 0 ≤ ev a ∧ ev a < 256 := by
  have := a.lt
  unfold ev
  omega
theorem ev_inj {a b : E} (h : ev a = ev b) : a = b := ext (by unfold ev at h; omega)
theorem ev_ze : ev ze = 0 := rfl
theorem ev_on : ev on = 1 := rfl
theorem ev_isZe (a : E) : (ev a == 0) = isZe a := by
  unfold isZe ev
  cases h : (a.val == 0)
  · have := ne_of_beq_false h
    rw [beq_eq_false_iff_ne]; omega
  · have := eq_of_beq h
    rw [beq_iff_eq]; omega
theorem ev_notZe (a : E) : (ev a != 0) = !isZe a := by
  unfold bne
  rw [ev_isZe]
/-- the element that a number from 0 to 255 is -/
def of (n : Int) : E := ⟨n.toNat % 256, by omega⟩
theorem ev_of (n : Int) (h : 0 ≤ n) (h2 : n < 256) : ev (of n) = n := by
  show ((n.toNat % 256 : Nat) : Int) = n
  omega
theorem of_ev (a : E) : of (ev a) = a := ext (by have := a.lt; show (a.val : Int).toNat % 256 = a.val; omega)

/-! sums -/
def sm : Nat → (Nat → E) → E
  | 0, _ => ze
  | n + 1, f => ad (sm n f) (f n)
theorem sm_congr {n : Nat} {f g : Nat → E} (h : ∀ i, i < n → f i = g i) : sm n f = sm n g := by
  induction n with
  | zero => rfl
  | succ n ih => simp only [sm]; rw [ih (fun i hi => h i (by omega)), h n (by omega)]
theorem sm_ze (n : Nat) : sm n (fun _ => ze) = ze := by
  induction n with
  | zero => rfl
  | succ n ih => simp only [sm, ih, ad_ze]
theorem sm_ze' {n : Nat} {f : Nat → E} (h : ∀ i, i < n → f i = ze) : sm n f = ze := by rw [sm_congr h, sm_ze]
theorem sm_ad (n : Nat) (f g : Nat → E) : sm n (fun i => ad (f i) (g i)) = ad (sm n f) (sm n g) := by
  induction n with
  | zero => exact (ad_ze ze).symm
  | succ n ih => simp only [sm, ih]; rw [ad_assoc, ad_assoc, ad_left (sm n g)]
theorem sm_mu (n : Nat) (c : E) (f : Nat → E) : sm n (fun i => mu c (f i)) = mu c (sm n f) := by
  induction n with
  | zero => exact (mu_ze c).symm
  | succ n ih => simp only [sm, ih, mu_ad]
theorem sm_mur (n : Nat) (c : E) (f : Nat → E) : sm n (fun i => mu (f i) c) = mu (sm n f) c := by
  induction n with
  | zero => exact (ze_mu c).symm
  | succ n ih => simp only [sm, ih, ad_mu]
theorem sm_swap (m n : Nat) (f : Nat → Nat → E) : sm m (fun i => sm n (f i)) = sm n (fun k => sm m (fun i => f i k)) := by
  induction m with
  | zero => exact (sm_ze n).symm
  | succ m ih => simp only [sm, ih, sm_ad]
theorem sm_one {n j : Nat} (hj : j < n) (f : Nat → E) (h : ∀ i, i < n → i ≠ j → f i = ze) : sm n f = f j := by
  induction n with
  | zero => omega
  | succ n ih =>
    simp only [sm]
    by_cases e : j = n
    · subst e
      rw [sm_ze' (fun i hi => h i (by omega) (by omega)), ze_ad]
    · rw [ih (by omega) (fun i hi hne => h i (by omega) hne), h n (by omega) (by omega), ad_ze]
/-- where row and column are the same 1, else 0 -/
def dl (i j : Nat) : E := if i = j then on else ze
theorem dl_self (i : Nat) : dl i i = on := if_pos rfl
theorem dl_ne {i j : Nat} (h : i ≠ j) : dl i j = ze := if_neg h
theorem sm_dl {n j : Nat} (hj : j < n) (f : Nat → E) : sm n (fun i => mu (dl j i) (f i)) = f j := by
  rw [sm_one hj _ (fun i _ hne => by rw [dl_ne (fun e => hne e.symm), ze_mu]), dl_self, on_mu]
theorem sm_dlr {n j : Nat} (hj : j < n) (f : Nat → E) : sm n (fun i => mu (f i) (dl i j)) = f j := by
  rw [sm_one hj _ (fun i _ hne => by rw [dl_ne hne, mu_ze]), dl_self, mu_on]
end E
end Go.Proofs.Ytbngmmlmhmmpbaa
