/-
  Plain arithmetic of the field with 256 elements (no program in sight): the product by shifts, its ring laws, powers, inverses and logarithms over Nat.
-/
namespace Go.Proofs.Ythgbfakmkdifbaa.Gf

/-- times x, and what is left of a division by x^8 + x^4 + x^3 + x^2 + 1 -/
def xt (a : Nat) : Nat := if a.testBit 7 then (2 * a) ^^^ 285 else 2 * a
def xtp : Nat → Nat → Nat
  | 0, a => a
  | k + 1, a => xt (xtp k a)
/-- the sum, over the bits of b below k, of a times x^bit -/
def S : Nat → Nat → Nat → Nat
  | 0, _, _ => 0
  | k + 1, a, b => if b.testBit k then S k a b ^^^ xtp k a else S k a b
def gmul (a b : Nat) : Nat := S 8 a b

theorem testBit_two_mul (a b : Nat) : 2 * (a ^^^ b) = (2 * a) ^^^ (2 * b) := by
  have h : ∀ n : Nat, 2 * n = n <<< 1 := fun n => by rw [Nat.shiftLeft_eq]; omega
  rw [h, h, h, Nat.shiftLeft_xor_distrib]
theorem xor4 (a b c : Nat) : a ^^^ c ^^^ (b ^^^ c) = a ^^^ b := by
  rw [Nat.xor_comm b c, Nat.xor_assoc a c, ← Nat.xor_assoc c c b, Nat.xor_self, Nat.zero_xor]
theorem xorR (a b c : Nat) : a ^^^ c ^^^ b = a ^^^ b ^^^ c := by
  rw [Nat.xor_assoc, Nat.xor_comm c b, ← Nat.xor_assoc]
theorem xorL (a b c : Nat) : a ^^^ (b ^^^ c) = a ^^^ b ^^^ c := (Nat.xor_assoc _ _ _).symm
theorem xorM (a b c d : Nat) : a ^^^ b ^^^ (c ^^^ d) = a ^^^ c ^^^ (b ^^^ d) := by
  rw [Nat.xor_assoc a b, ← Nat.xor_assoc b c d, Nat.xor_comm b c, Nat.xor_assoc c b d, ← Nat.xor_assoc a c]

theorem xt_xor (a b : Nat) : xt (a ^^^ b) = xt a ^^^ xt b := by
  unfold xt
  rw [Nat.testBit_xor, testBit_two_mul]
  cases ha : a.testBit 7 <;> cases hb : b.testBit 7 <;> simp
  · rw [Nat.xor_assoc]
  · rw [xorR]
  · rw [xor4]
theorem xt_zero : xt 0 = 0 := by decide
theorem xtp_xor (k a b : Nat) : xtp k (a ^^^ b) = xtp k a ^^^ xtp k b := by
  induction k with
  | zero => rfl
  | succ k ih => simp only [xtp, ih, xt_xor]
theorem xtp_zero (k : Nat) : xtp k 0 = 0 := by
  induction k with
  | zero => rfl
  | succ k ih => simp only [xtp, ih, xt_zero]
theorem xtp_xt (k a : Nat) : xtp k (xt a) = xt (xtp k a) := by
  induction k with
  | zero => rfl
  | succ k ih => simp only [xtp, ih]
theorem xt_lt (a : Nat) (h : a < 256) : xt a < 256 := by
  have : ∀ a, a < 256 → xt a < 256 := by decide +kernel
  exact this a h
theorem xtp_lt (k a : Nat) (h : a < 256) : xtp k a < 256 := by
  induction k with
  | zero => exact h
  | succ k ih => exact xt_lt _ ih
theorem xor_lt (a b : Nat) (ha : a < 256) (hb : b < 256) : a ^^^ b < 256 := Nat.xor_lt_two_pow (n := 8) ha hb
theorem S_lt (k a b : Nat) (h : a < 256) : S k a b < 256 := by
  induction k with
  | zero => simp [S]
  | succ k ih => simp only [S]; split; exact xor_lt _ _ ih (xtp_lt _ _ h); exact ih
theorem gmul_lt (a b : Nat) (h : a < 256) : gmul a b < 256 := S_lt _ _ _ h
theorem S_xorL (k a b c : Nat) : S k (a ^^^ b) c = S k a c ^^^ S k b c := by
  induction k with
  | zero => simp [S]
  | succ k ih => simp only [S, ih, xtp_xor]; split; exact xorM _ _ _ _; rfl
theorem S_xorR (k a b c : Nat) : S k a (b ^^^ c) = S k a b ^^^ S k a c := by
  induction k with
  | zero => simp [S]
  | succ k ih =>
    simp only [S, ih, Nat.testBit_xor]
    cases hb : b.testBit k <;> cases hc : c.testBit k <;> simp
    · rw [Nat.xor_assoc]
    · rw [xorR]
    · rw [xor4]
theorem gmul_xorL (a b c : Nat) : gmul (a ^^^ b) c = gmul a c ^^^ gmul b c := S_xorL _ _ _ _
theorem gmul_xorR (a b c : Nat) : gmul a (b ^^^ c) = gmul a b ^^^ gmul a c := S_xorR _ _ _ _
theorem S_zeroR (k a : Nat) : S k a 0 = 0 := by
  induction k with
  | zero => rfl
  | succ k ih => simp [S, ih]
theorem S_zeroL (k b : Nat) : S k 0 b = 0 := by
  induction k with
  | zero => rfl
  | succ k ih => simp [S, ih, xtp_zero]
theorem gmul_zeroR (a : Nat) : gmul a 0 = 0 := S_zeroR _ _
theorem gmul_zeroL (a : Nat) : gmul 0 a = 0 := S_zeroL _ _
theorem gmul_one (a : Nat) : gmul a 1 = a := by
  have h : ∀ k, S (k + 1) a 1 = a := by
    intro k
    induction k with
    | zero => simp [S, xtp]
    | succ k ih =>
      have h1 : (1 : Nat).testBit (k + 1) = false := by simp [Nat.testBit_succ]
      have h2 : S (k + 1 + 1) a 1 = if (1 : Nat).testBit (k + 1) then S (k + 1) a 1 ^^^ xtp (k + 1) a else S (k + 1) a 1 := rfl
      rw [h2, h1, ih]; simp
  exact h 7

/-- b as the sum of its bits below k -/
def T : Nat → Nat → Nat
  | 0, _ => 0
  | k + 1, b => if b.testBit k then T k b ^^^ 2 ^ k else T k b
theorem T_eight (b : Nat) (h : b < 256) : T 8 b = b := by
  have : ∀ b, b < 256 → T 8 b = b := by decide +kernel
  exact this b h
theorem gmul_pow (j b : Nat) (hj : j < 8) (hb : b < 256) : gmul (2 ^ j) b = xtp j b := by
  have : ∀ j, j < 8 → ∀ b, b < 256 → gmul (2 ^ j) b = xtp j b := by decide +kernel
  exact this j hj b hb
theorem gmul_T (k a b : Nat) (hk : k ≤ 8) (hb : b < 256) : gmul (T k a) b = S k b a := by
  induction k with
  | zero => exact gmul_zeroL b
  | succ k ih =>
    have ih' := ih (by omega)
    simp only [T, S]
    split
    · rw [gmul_xorL, ih', gmul_pow k b (by omega) hb]
    · exact ih'
theorem gmul_comm (a b : Nat) (ha : a < 256) (hb : b < 256) : gmul a b = gmul b a := by
  have h := gmul_T 8 a b (by omega) hb
  rw [T_eight a ha] at h
  exact h
theorem one_gmul (a : Nat) (h : a < 256) : gmul 1 a = a := by rw [gmul_comm 1 a (by omega) h, gmul_one]
theorem xt_S (k a b : Nat) : xt (S k a b) = S k (xt a) b := by
  induction k with
  | zero => exact xt_zero
  | succ k ih => simp only [S]; split; rw [xt_xor, ih, xtp_xt]; exact ih
theorem xtp_gmul (k a b : Nat) : xtp k (gmul a b) = gmul (xtp k a) b := by
  induction k with
  | zero => rfl
  | succ k ih => simp only [xtp, ih]; exact xt_S 8 _ b
theorem xtp_gmulR (k a b : Nat) (ha : a < 256) (hb : b < 256) : xtp k (gmul a b) = gmul a (xtp k b) := by
  rw [gmul_comm a b ha hb, xtp_gmul, gmul_comm _ a (xtp_lt _ _ hb) ha]
theorem S_gmul (k a b c : Nat) (ha : a < 256) (hb : b < 256) : S k (gmul a b) c = gmul a (S k b c) := by
  induction k with
  | zero => exact (gmul_zeroR a).symm
  | succ k ih => simp only [S]; split; rw [ih, gmul_xorR, xtp_gmulR k a b ha hb]; exact ih
theorem gmul_assoc (a b c : Nat) (ha : a < 256) (hb : b < 256) : gmul (gmul a b) c = gmul a (gmul b c) := S_gmul 8 a b c ha hb

/-! powers -/
def gpow (a : Nat) : Nat → Nat
  | 0 => 1
  | n + 1 => gmul (gpow a n) a
theorem gpow_lt (a n : Nat) : gpow a n < 256 := by
  induction n with
  | zero => simp [gpow]
  | succ n ih => exact gmul_lt _ _ ih
theorem gpow_add (a m n : Nat) : gpow a (m + n) = gmul (gpow a m) (gpow a n) := by
  induction n with
  | zero => simp [gpow, gmul_one]
  | succ n ih =>
    show gmul (gpow a (m + n)) a = gmul (gpow a m) (gmul (gpow a n) a)
    rw [ih, gmul_assoc _ _ _ (gpow_lt _ _) (gpow_lt _ _)]
theorem gpow_mul (a m n : Nat) : gpow (gpow a m) n = gpow a (m * n) := by
  induction n with
  | zero => rfl
  | succ n ih =>
    show gmul (gpow (gpow a m) n) (gpow a m) = _
    rw [ih, Nat.mul_succ, gpow_add _ _ _]
theorem gpow_sq (a m : Nat) (ha : a < 256) : gpow (gmul a a) m = gpow a (2 * m) := by
  have h : gmul a a = gpow a 2 := by
    show _ = gmul (gmul 1 a) a
    rw [one_gmul a ha]
  rw [h, gpow_mul _ _ _]
theorem gpow_one (n : Nat) : gpow 1 n = 1 := by
  induction n with
  | zero => rfl
  | succ n ih => show gmul (gpow 1 n) 1 = 1; rw [ih]; exact gmul_one 1
theorem gpow_zero (n : Nat) (h : 0 < n) : gpow 0 n = 0 := by
  cases n with
  | zero => omega
  | succ n => exact gmul_zeroR _
/-- one step of the power by squares -/
theorem gpow_odd (p a n : Nat) (hp : p < 256) (ha : a < 256) (hn : n % 2 = 1) : gmul (gmul p a) (gpow (gmul a a) (n / 2)) = gmul p (gpow a n) := by
  have h : n = 1 + 2 * (n / 2) := by omega
  rw [gpow_sq _ _ ha, gmul_assoc _ _ _ hp ha]
  have h2 : gpow a n = gmul a (gpow a (2 * (n / 2))) := by
    rw [show gpow a n = gpow a (1 + 2 * (n / 2)) from by rw [← h], gpow_add _ _ _]
    show gmul (gmul 1 a) _ = _
    rw [one_gmul a ha]
  rw [h2]
theorem gpow_even (p a n : Nat) (ha : a < 256) (hn : n % 2 = 0) : gmul p (gpow (gmul a a) (n / 2)) = gmul p (gpow a n) := by
  rw [gpow_sq _ _ ha, show 2 * (n / 2) = n from by omega]

/-- power by squares, with a bound on the steps: for the kernel to reckon by -/
def fpow : Nat → Nat → Nat → Nat → Nat
  | 0, _, _, p => p
  | k + 1, a, n, p => if n = 0 then p else fpow k (gmul a a) (n / 2) (if n % 2 = 1 then gmul p a else p)
theorem fpow_eq (k a n p : Nat) (ha : a < 256) (hp : p < 256) (hn : n < 2 ^ k) : fpow k a n p = gmul p (gpow a n) := by
  induction k generalizing a n p with
  | zero =>
    have : n = 0 := by simpa using hn
    subst this
    show p = gmul p 1
    rw [gmul_one]
  | succ k ih =>
    simp only [fpow]
    by_cases h0 : n = 0
    · rw [if_pos h0, h0]; show p = gmul p 1; rw [gmul_one]
    · rw [if_neg h0]
      have hk : n / 2 < 2 ^ k := by rw [Nat.pow_succ] at hn; omega
      by_cases h1 : n % 2 = 1
      · rw [if_pos h1, ih _ _ _ (gmul_lt _ _ ha) (gmul_lt _ _ hp) hk, gpow_odd p a n hp ha h1]
      · rw [if_neg h1, ih _ _ _ (gmul_lt _ _ ha) hp hk, gpow_even p a n ha (by omega)]
theorem gpow_fpow (a n : Nat) (ha : a < 256) (hn : n < 256) : gpow a n = fpow 8 a n 1 := by
  rw [fpow_eq 8 a n 1 ha (by omega) hn, one_gmul _ (gpow_lt _ _)]
theorem gpow_two_255 : gpow 2 255 = 1 := by
  rw [gpow_fpow 2 255 (by omega) (by omega)]; decide +kernel
theorem gpow_two_mod (n : Nat) : gpow 2 n = gpow 2 (n % 255) := by
  have h : n = 255 * (n / 255) + n % 255 := by omega
  rw [show gpow 2 n = gpow 2 (255 * (n / 255) + n % 255) from by rw [← h], gpow_add _ _ _, ← gpow_mul _ _ _, gpow_two_255, gpow_one, one_gmul _ (gpow_lt _ _)]

/-- the logarithm: found by search -/
def lgFrom : Nat → Nat → Nat → Nat → Nat
  | 0, _, n, _ => n
  | k + 1, a, n, p => if p = a then n else lgFrom k a (n + 1) (xt p)
def lg (a : Nat) : Nat := lgFrom 255 a 0 1
theorem gmul_two (a : Nat) (ha : a < 256) : gmul a 2 = xt a := by
  rw [gmul_comm a 2 ha (by omega)]; exact gmul_pow 1 a (by omega) ha
theorem lgFrom_eq (k a n : Nat) : ∃ m, lgFrom k a n (gpow 2 n) = n + m ∧ m ≤ k ∧ (∀ j, j < m → gpow 2 (n + j) ≠ a) ∧ (m < k → gpow 2 (n + m) = a) := by
  induction k generalizing n with
  | zero => exact ⟨0, rfl, Nat.le_refl _, fun j h => by omega, fun h => by omega⟩
  | succ k ih =>
    simp only [lgFrom]
    by_cases h : gpow 2 n = a
    · rw [if_pos h]; exact ⟨0, rfl, by omega, fun j h => by omega, fun _ => h⟩
    · rw [if_neg h]
      have e : xt (gpow 2 n) = gpow 2 (n + 1) := (gmul_two _ (gpow_lt _ _)).symm
      rw [e]
      obtain ⟨m, h1, h2, h3, h4⟩ := ih (n + 1)
      refine ⟨m + 1, by rw [h1]; omega, by omega, ?_, ?_⟩
      · intro j hj
        cases j with
        | zero => exact h
        | succ j => have := h3 j (by omega); rwa [show n + 1 + j = n + (j + 1) from by omega] at this
      · intro hm; have := h4 (by omega); rwa [show n + 1 + m = n + (m + 1) from by omega] at this
theorem lg_lt (a : Nat) (h0 : 0 < a) (h : a < 256) : lg a < 255 := by
  have : ∀ a, a < 256 → 0 < a → lg a < 255 := by decide +kernel
  exact this a h h0
theorem lg_le (a : Nat) : lg a ≤ 255 := by
  obtain ⟨m, h1, h2, _, _⟩ := lgFrom_eq 255 a 0
  have e : lg a = 0 + m := h1
  omega
theorem lg_least (a j : Nat) (h : j < lg a) : gpow 2 j ≠ a := by
  obtain ⟨m, h1, _, h3, _⟩ := lgFrom_eq 255 a 0
  have e : lg a = 0 + m := h1
  have := h3 j (by omega)
  rwa [Nat.zero_add] at this
theorem gpow_lg (a : Nat) (h0 : 0 < a) (h : a < 256) : gpow 2 (lg a) = a := by
  obtain ⟨m, h1, _, _, h4⟩ := lgFrom_eq 255 a 0
  have e : lg a = 0 + m := h1
  have l := lg_lt a h0 h
  rw [e]
  exact h4 (by omega)
theorem gpow_two_pos (n : Nat) : 0 < gpow 2 n := by
  rw [gpow_two_mod, gpow_fpow 2 _ (by omega) (by omega)]
  have : ∀ n, n < 255 → 0 < fpow 8 2 n 1 := by decide +kernel
  exact this _ (by omega)
theorem lg_gpow (n : Nat) (h : n < 255) : lg (gpow 2 n) = n := by
  have : ∀ n, n < 255 → lg (fpow 8 2 n 1) = n := by decide +kernel
  rw [gpow_fpow 2 n (by omega) (by omega)]
  exact this n h
/-- a power by the logarithm -/
theorem gpow_by_lg (a n : Nat) (h0 : 0 < a) (h : a < 256) : gpow a n = gpow 2 (lg a * (n % 255) % 255) := by
  rw [← gpow_two_mod]
  have e : gpow a n = gpow 2 (lg a * n) := by rw [← gpow_mul _ _ _, gpow_lg a h0 h]
  rw [e, gpow_two_mod, gpow_two_mod (lg a * (n % 255))]
  congr 1
  rw [Nat.mul_mod, Nat.mul_mod (lg a) (n % 255), Nat.mod_mod]

/-! inverses -/
def inv (a : Nat) : Nat := gpow a 254
theorem inv_lt (a : Nat) : inv a < 256 := gpow_lt _ _
theorem gmul_inv (a : Nat) (h0 : 0 < a) (ha : a < 256) : gmul a (inv a) = 1 := by
  have : ∀ a, a < 256 → 0 < a → gmul a (fpow 8 a 254 1) = 1 := by decide +kernel
  unfold inv
  rw [gpow_fpow a 254 ha (by omega)]
  exact this a ha h0
theorem inv_gmul (a : Nat) (h0 : 0 < a) (ha : a < 256) : gmul (inv a) a = 1 := by
  rw [gmul_comm _ _ (inv_lt _) ha, gmul_inv a h0 ha]
theorem div_gmul (a b : Nat) (ha : a < 256) (h0 : 0 < b) (hb : b < 256) : gmul (gmul a (inv b)) b = a := by
  rw [gmul_assoc _ _ _ ha (inv_lt _), inv_gmul b h0 hb, gmul_one]
theorem div_only (x a b : Nat) (hx : x < 256) (h0 : 0 < b) (hb : b < 256) (h : gmul x b = a) : x = gmul a (inv b) := by
  rw [← h, gmul_assoc _ _ _ hx hb, gmul_inv b h0 hb, gmul_one]
theorem gmul_eq_zero (x y : Nat) (hx : x < 256) (h0 : 0 < y) (hy : y < 256) : gmul x y = 0 ↔ x = 0 := by
  constructor
  · intro h
    have := div_only x 0 y hx h0 hy h
    rwa [gmul_zeroL] at this
  · intro h; rw [h, gmul_zeroL]

/-! the program's product, round by round -/
def pl : Nat → Nat → Nat → Nat → Nat
  | 0, _, _, p => p
  | n + 1, a, b, p => pl n (xt a) (b / 2) (if b % 2 = 1 then p ^^^ a else p)
theorem testBit_div (b j : Nat) : b.testBit j = decide (b / 2 ^ j % 2 = 1) := by
  rw [Nat.testBit_eq_decide_div_mod_eq]
theorem pl_S (n j a b : Nat) : pl n (xtp j a) (b / 2 ^ j) (S j a b) = S (j + n) a b := by
  induction n generalizing j with
  | zero => rfl
  | succ n ih =>
    have h := ih (j + 1)
    simp only [pl]
    rw [show j + (n + 1) = j + 1 + n from by omega, ← h]
    have e1 : b / 2 ^ j / 2 = b / 2 ^ (j + 1) := by rw [Nat.div_div_eq_div_mul, ← Nat.pow_succ]
    have e2 : (if b / 2 ^ j % 2 = 1 then S j a b ^^^ xtp j a else S j a b) = S (j + 1) a b := by
      simp only [S, testBit_div, decide_eq_true_eq]
    rw [e1, e2]; rfl
theorem pl_gmul (a b : Nat) : pl 8 a b 0 = gmul a b := by
  have h := pl_S 8 0 a b
  rw [Nat.pow_zero, Nat.div_one] at h
  exact h
theorem pl_done (n a p : Nat) : pl n a 0 p = p := by
  induction n generalizing a with
  | zero => rfl
  | succ n ih => simp [pl, ih]
theorem pl_more (n a b p : Nat) (h : b < 2 ^ n) : pl (n + 1) a b p = pl n a b p := by
  induction n generalizing a b p with
  | zero =>
    have : b = 0 := by simpa using h
    subst this
    rw [pl_done, pl_done]
  | succ n ih =>
    have h2 : b / 2 < 2 ^ n := by rw [Nat.pow_succ] at h; omega
    have e : pl (n + 1 + 1) a b p = pl (n + 1) (xt a) (b / 2) (if b % 2 = 1 then p ^^^ a else p) := rfl
    rw [e, ih _ _ _ h2]; rfl
theorem pl_round (a b p : Nat) (h : b < 256) : pl 8 (xt a) (b / 2) (if b % 2 = 1 then p ^^^ a else p) = pl 8 a b p := by
  rw [pl_more 7 _ _ _ (by omega)]; rfl
theorem xt_code (a : Nat) (h : a < 256) : xt a = if 256 ≤ 2 * a then (2 * a) ^^^ 285 else 2 * a := by
  have : ∀ a, a < 256 → xt a = if 256 ≤ 2 * a then (2 * a) ^^^ 285 else 2 * a := by decide +kernel
  exact this a h

/-! the document's product: first all of it, then the division -/
def cmTo : Nat → Nat → Nat → Nat
  | 0, _, _ => 0
  | k + 1, a, b => if b / 2 ^ k % 2 = 1 then cmTo k a b ^^^ (a * 2 ^ k) else cmTo k a b
def rdStep (k p : Nat) : Nat := if p.testBit k then p ^^^ (285 * 2 ^ (k - 8)) else p
/-- j rounds of the division, from the fourteenth bit on down -/
def rdTo : Nat → Nat → Nat
  | 0, p => p
  | j + 1, p => rdStep (14 - j) (rdTo j p)
theorem rdStep_xor (k x y : Nat) : rdStep k (x ^^^ y) = rdStep k x ^^^ rdStep k y := by
  unfold rdStep
  rw [Nat.testBit_xor]
  cases hx : x.testBit k <;> cases hy : y.testBit k <;> simp
  · rw [Nat.xor_assoc]
  · rw [xorR]
  · rw [xor4]
theorem rdTo_xor (j x y : Nat) : rdTo j (x ^^^ y) = rdTo j x ^^^ rdTo j y := by
  induction j with
  | zero => rfl
  | succ j ih => simp only [rdTo, ih, rdStep_xor]
theorem rdTo_shift (a k : Nat) (ha : a < 256) (hk : k < 8) : rdTo 7 (a * 2 ^ k) = xtp k a := by
  have : ∀ k, k < 8 → ∀ a, a < 256 → rdTo 7 (a * 2 ^ k) = xtp k a := by decide +kernel
  exact this k hk a ha
theorem rdTo_zero : rdTo 7 0 = 0 := by decide +kernel
theorem rd_cm (k a b : Nat) (ha : a < 256) (hk : k ≤ 8) : rdTo 7 (cmTo k a b) = S k a b := by
  induction k with
  | zero => exact rdTo_zero
  | succ k ih =>
    simp only [cmTo, S, testBit_div, decide_eq_true_eq]
    split
    · rw [rdTo_xor, ih (by omega), rdTo_shift a k ha (by omega)]
    · exact ih (by omega)
theorem mulOf_eq (a b : Nat) (ha : a < 256) : rdTo 7 (cmTo 8 a b) = gmul a b := rd_cm 8 a b ha (by omega)
theorem cmTo_lt (k a b : Nat) (ha : a < 256) (hk : k ≤ 8) : cmTo k a b < 32768 := by
  induction k with
  | zero => simp [cmTo]
  | succ k ih =>
    have ih' := ih (by omega)
    simp only [cmTo]
    split
    · have h1 : a * 2 ^ k < 32768 := by
        have h2 : 2 ^ k ≤ 2 ^ 7 := Nat.pow_le_pow_right (by omega) (by omega)
        have h3 : a * 2 ^ k ≤ 255 * 2 ^ 7 := Nat.mul_le_mul (by omega) h2
        omega
      exact Nat.xor_lt_two_pow (n := 15) ih' h1
    · exact ih'
theorem rdTo_lt (j p : Nat) (h : p < 32768) : rdTo j p < 32768 := by
  induction j with
  | zero => exact h
  | succ j ih =>
    simp only [rdTo, rdStep]
    split
    · have h2 : 285 * 2 ^ (14 - j - 8) < 32768 := by
        have h3 : 2 ^ (14 - j - 8) ≤ 2 ^ 6 := Nat.pow_le_pow_right (by omega) (by omega)
        have h4 : 285 * 2 ^ (14 - j - 8) ≤ 285 * 2 ^ 6 := Nat.mul_le_mul (by omega) h3
        omega
      exact Nat.xor_lt_two_pow (n := 15) ih h2
    · exact ih
end Go.Proofs.Ythgbfakmkdifbaa.Gf
/-
  The field of 256 elements as a type of its own, with its laws; sums of elements. No program in sight.
-/
namespace Go.Proofs.Ythgbfakmkdifbaa
structure E where
  val : Nat
  lt : val < 256
namespace E
theorem ext {a b : E} (h : a.val = b.val) : a = b := by cases a; cases b; cases h; rfl
def ze : E := ⟨0, by decide⟩
def on : E := ⟨1, by decide⟩
def ad (a b : E) : E := ⟨a.val ^^^ b.val, Gf.xor_lt _ _ a.lt b.lt⟩
def mu (a b : E) : E := ⟨Gf.gmul a.val b.val, Gf.gmul_lt _ _ a.lt⟩
def iv (a : E) : E := ⟨Gf.inv a.val, Gf.inv_lt _⟩
theorem ad_comm (a b : E) : ad a b = ad b a := ext (Nat.xor_comm _ _)
theorem ad_assoc (a b c : E) : ad (ad a b) c = ad a (ad b c) := ext (Nat.xor_assoc _ _ _)
theorem ad_ze (a : E) : ad a ze = a := ext (Nat.xor_zero _)
theorem ze_ad (a : E) : ad ze a = a := ext (Nat.zero_xor _)
theorem ad_self (a : E) : ad a a = ze := ext (Nat.xor_self _)
theorem ad_left (a b c : E) : ad a (ad b c) = ad b (ad a c) := by rw [← ad_assoc, ad_comm a b, ad_assoc]
theorem ad_ad (a b : E) : ad a (ad a b) = b := by rw [← ad_assoc, ad_self, ze_ad]
theorem mu_comm (a b : E) : mu a b = mu b a := ext (Gf.gmul_comm _ _ a.lt b.lt)
theorem mu_assoc (a b c : E) : mu (mu a b) c = mu a (mu b c) := ext (Gf.gmul_assoc _ _ _ a.lt b.lt)
theorem mu_on (a : E) : mu a on = a := ext (Gf.gmul_one _)
theorem on_mu (a : E) : mu on a = a := by rw [mu_comm, mu_on]
theorem mu_ze (a : E) : mu a ze = ze := ext (Gf.gmul_zeroR a.val)
theorem ze_mu (a : E) : mu ze a = ze := ext (Gf.gmul_zeroL a.val)
theorem mu_ad (a b c : E) : mu a (ad b c) = ad (mu a b) (mu a c) := ext (Gf.gmul_xorR _ _ _)
theorem ad_mu (a b c : E) : mu (ad a b) c = ad (mu a c) (mu b c) := ext (Gf.gmul_xorL _ _ _)
theorem mu_left (a b c : E) : mu a (mu b c) = mu b (mu a c) := by rw [← mu_assoc, mu_comm a b, mu_assoc]
theorem pos_of_ne {a : E} (h : a ≠ ze) : 0 < a.val := by
  rcases Nat.eq_zero_or_pos a.val with e | e
  · exact absurd (ext e) h
  · exact e
theorem mu_iv {a : E} (h : a ≠ ze) : mu a (iv a) = on := ext (Gf.gmul_inv _ (pos_of_ne h) a.lt)
theorem iv_mu {a : E} (h : a ≠ ze) : mu (iv a) a = on := by rw [mu_comm, mu_iv h]
theorem on_ne : on ≠ ze := fun h => by cases h
theorem iv_ne {a : E} (h : a ≠ ze) : iv a ≠ ze := fun e => by
  have := mu_iv h
  rw [e, mu_ze] at this
  exact on_ne this.symm
theorem mu_ne {a b : E} (ha : a ≠ ze) (hb : b ≠ ze) : mu a b ≠ ze := fun e => by
  have : mu (iv a) (mu a b) = b := by rw [← mu_assoc, iv_mu ha, on_mu]
  rw [e, mu_ze] at this
  exact hb this.symm
theorem eq_of_ad {a b : E} (h : ad a b = ze) : a = b := by
  have : ad (ad a b) b = b := by rw [h, ze_ad]
  rw [ad_assoc, ad_self, ad_ze] at this
  exact this
theorem mu_cancel {a b c : E} (ha : a ≠ ze) (h : mu a b = mu a c) : b = c := by
  have : mu (iv a) (mu a b) = mu (iv a) (mu a c) := by rw [h]
  rwa [← mu_assoc, ← mu_assoc, iv_mu ha, on_mu, on_mu] at this
def isZe (a : E) : Bool := a.val == 0
theorem isZe_iff (a : E) : isZe a = true ↔ a = ze := by
  unfold isZe
  constructor
  · intro h; exact ext (eq_of_beq h)
  · intro h; rw [h]; rfl
theorem isZe_false (a : E) : isZe a = false ↔ a ≠ ze := by
  constructor
  · intro h e; rw [(isZe_iff a).2 e] at h; cases h
  · intro h
    cases e : isZe a
    · rfl
    · exact absurd ((isZe_iff a).1 e) h
/-- the number that an element is -/
def ev (a : E) : Int := (a.val : Int)
theorem ev_bd (a : E) : 0 ≤ ev a ∧ ev a < 256 := by
  have := a.lt
  unfold ev
  omega
theorem ev_inj {a b : E} (h : ev a = ev b) : a = b := ext (by unfold ev at h; omega)
theorem ev_ze : ev ze = 0 := rfl
theorem ev_on : ev on = 1 := rfl
theorem ev_isZe (a : E) : (ev a == 0) = isZe a := by
  unfold isZe ev
  cases h : (a.val == 0)
  · have := ne_of_beq_false h
    rw [beq_eq_false_iff_ne]; omega
  · have := eq_of_beq h
    rw [beq_iff_eq]; omega
theorem ev_notZe (a : E) : (ev a != 0) = !isZe a := by
  unfold bne
  rw [ev_isZe]
/-- the element that a number from 0 to 255 is -/
def of (n : Int) : E := ⟨n.toNat % 256, by omega⟩
theorem ev_of (n : Int) (h : 0 ≤ n) (h2 : n < 256) : ev (of n) = n := by
  show ((n.toNat % 256 : Nat) : Int) = n
  omega
theorem of_ev (a : E) : of (ev a) = a := ext (by have := a.lt; show (a.val : Int).toNat % 256 = a.val; omega)

/-! sums -/
def sm : Nat → (Nat → E) → E
  | 0, _ => ze
  | n + 1, f => ad (sm n f) (f n)
theorem sm_congr {n : Nat} {f g : Nat → E} (h : ∀ i, i < n → f i = g i) : sm n f = sm n g := by
  induction n with
  | zero => rfl
  | succ n ih => simp only [sm]; rw [ih (fun i hi => h i (by omega)), h n (by omega)]
theorem sm_ze (n : Nat) : sm n (fun _ => ze) = ze := by
  induction n with
  | zero => rfl
  | succ n ih => simp only [sm, ih, ad_ze]
theorem sm_ze' {n : Nat} {f : Nat → E} (h : ∀ i, i < n → f i = ze) : sm n f = ze := by rw [sm_congr h, sm_ze]
theorem sm_ad (n : Nat) (f g : Nat → E) : sm n (fun i => ad (f i) (g i)) = ad (sm n f) (sm n g) := by
  induction n with
  | zero => exact (ad_ze ze).symm
  | succ n ih => simp only [sm, ih]; rw [ad_assoc, ad_assoc, ad_left (sm n g)]
theorem sm_mu (n : Nat) (c : E) (f : Nat → E) : sm n (fun i => mu c (f i)) = mu c (sm n f) := by
  induction n with
  | zero => exact (mu_ze c).symm
  | succ n ih => simp only [sm, ih, mu_ad]
theorem sm_mur (n : Nat) (c : E) (f : Nat → E) : sm n (fun i => mu (f i) c) = mu (sm n f) c := by
  induction n with
  | zero => exact (ze_mu c).symm
  | succ n ih => simp only [sm, ih, ad_mu]
theorem sm_swap (m n : Nat) (f : Nat → Nat → E) : sm m (fun i => sm n (f i)) = sm n (fun k => sm m (fun i => f i k)) := by
  induction m with
  | zero => exact (sm_ze n).symm
  | succ m ih => simp only [sm, ih, sm_ad]
theorem sm_one {n j : Nat} (hj : j < n) (f : Nat → E) (h : ∀ i, i < n → i ≠ j → f i = ze) : sm n f = f j := by
  induction n with
  | zero => omega
  | succ n ih =>
    simp only [sm]
    by_cases e : j = n
    · subst e
      rw [sm_ze' (fun i hi => h i (by omega) (by omega)), ze_ad]
    · rw [ih (by omega) (fun i hi hne => h i (by omega) hne), h n (by omega) (by omega), ad_ze]
/-- where row and column are the same 1, else 0 -/
def dl (i j : Nat) : E := if i = j then on else ze
theorem dl_self (i : Nat) : dl i i = on := if_pos rfl
theorem dl_ne {i j : Nat} (h : i ≠ j) : dl i j = ze := if_neg h
theorem sm_dl {n j : Nat} (hj : j < n) (f : Nat → E) : sm n (fun i => mu (dl j i) (f i)) = f j := by
  rw [sm_one hj _ (fun i _ hne => by rw [dl_ne (fun e => hne e.symm), ze_mu]), dl_self, on_mu]
theorem sm_dlr {n j : Nat} (hj : j < n) (f : Nat → E) : sm n (fun i => mu (f i) (dl i j)) = f j := by
  rw [sm_one hj _ (fun i _ hne => by rw [dl_ne hne, mu_ze]), dl_self, mu_on]
end E
end Go.Proofs.Ythgbfakmkdifbaa
/-
  The reduction of a matrix, column by column, as plain functions (no program in sight).
-/
namespace Go.Proofs.Ythgbfakmkdifbaa
open E
/-- the first row from d on, of the next k, that has something in column c; d + k where there is none -/
def findNZ (M : Nat → Nat → E) (c : Nat) : Nat → Nat → Nat
  | 0, d => d
  | k + 1, d => if isZe (M d c) then findNZ M c k (d + 1) else d
theorem findNZ_spec (M : Nat → Nat → E) (c k d : Nat) : d ≤ findNZ M c k d ∧ findNZ M c k d ≤ d + k ∧ (∀ i, d ≤ i → i < findNZ M c k d → M i c = ze) ∧ (findNZ M c k d < d + k → M (findNZ M c k d) c ≠ ze) := by
  induction k generalizing d with
  | zero => exact ⟨Nat.le_refl _, Nat.le_refl _, fun i h1 h2 => by simp only [findNZ] at h2; omega, fun h => by simp only [findNZ] at h; omega⟩
  | succ k ih =>
    simp only [findNZ]
    cases h : isZe (M d c)
    · exact ⟨by simp, by simp, fun i h1 h2 => by simp at h2; omega, fun _ => by simpa using (isZe_false _).1 h⟩
    · obtain ⟨h1, h2, h3, h4⟩ := ih (d + 1)
      simp only [if_true]
      refine ⟨by omega, by omega, fun i k1 k2 => ?_, fun k1 => h4 (by omega)⟩
      by_cases e : i = d
      · rw [e]; exact (isZe_iff _).1 h
      · exact h3 i (by omega) k2
theorem findNZ_unique {M : Nat → Nat → E} {c k d p : Nat} (h1 : d ≤ p) (h2 : p ≤ d + k) (h3 : ∀ i, d ≤ i → i < p → M i c = ze) (h4 : p < d + k → M p c ≠ ze) : findNZ M c k d = p := by
  obtain ⟨a1, a2, a3, a4⟩ := findNZ_spec M c k d
  rcases Nat.lt_trichotomy (findNZ M c k d) p with h | h | h
  · exact absurd (h3 _ a1 h) (a4 (by omega))
  · exact h
  · exact absurd (a3 p h1 h) (h4 (by omega))
/-- d and p change places -/
def sw (d p r : Nat) : Nat := if r = d then p else if r = p then d else r
theorem sw_lt {n d p r : Nat} (hd : d < n) (hp : p < n) (hr : r < n) : sw d p r < n := by unfold sw; split <;> (try split) <;> omega
theorem sw_inj {d p r s : Nat} (h : sw d p r = sw d p s) : r = s := by
  unfold sw at h
  split at h <;> (try split at h) <;> (try split at h) <;> (try split at h) <;> omega
theorem sw_sw (d p r : Nat) : sw d p (sw d p r) = r := by
  unfold sw
  by_cases e1 : r = d
  · subst e1; simp
  · by_cases e2 : r = p
    · subst e2; simp [e1]
    · simp [e1, e2]
def swp (M : Nat → Nat → E) (d p : Nat) (i : Nat) : Nat → E := M (sw d p i)
def scl (M : Nat → Nat → E) (d : Nat) (f : E) (i k : Nat) : E := if i = d then mu (M d k) f else M i k
/-- of the first q rows, but row d, so much of row d is added that column c is cleared -/
def clr (q : Nat) (M : Nat → Nat → E) (d c : Nat) (i k : Nat) : E := if i < q ∧ i ≠ d then ad (M i k) (mu (M d k) (M i c)) else M i k
def redStep (n c : Nat) (s : (Nat → Nat → E) × Nat) : (Nat → Nat → E) × Nat :=
  if findNZ s.1 c (n - s.2) s.2 < n then (clr n (scl (swp s.1 s.2 (findNZ s.1 c (n - s.2) s.2)) s.2 (iv (s.1 (findNZ s.1 c (n - s.2) s.2) c))) s.2 c, s.2 + 1) else s
/-- the matrix and the number of rows done behind k columns -/
def redTo (n : Nat) (M : Nat → Nat → E) : Nat → (Nat → Nat → E) × Nat
  | 0 => (M, 0)
  | k + 1 => redStep n k (redTo n M k)
theorem redTo_le (n : Nat) (M : Nat → Nat → E) (k : Nat) : (redTo n M k).2 ≤ n ∧ (redTo n M k).2 ≤ k := by
  induction k with
  | zero => exact ⟨Nat.zero_le _, Nat.zero_le _⟩
  | succ k ih =>
    have e : redTo n M (k + 1) = redStep n k (redTo n M k) := rfl
    rw [e]
    unfold redStep
    split
    · rename_i h
      have := (findNZ_spec (redTo n M k).1 k (n - (redTo n M k).2) (redTo n M k).2).1
      exact ⟨by simp only; omega, by simp only; omega⟩
    · exact ⟨ih.1, by omega⟩
end Go.Proofs.Ythgbfakmkdifbaa
/-
  Rows, what they span, and what the reduction of a matrix makes of them; how many vectors there must be (no program in sight).
-/
namespace Go.Proofs.Ythgbfakmkdifbaa
open E
/-- v is a sum of products of the n rows of M with elements -/
def Span (n : Nat) (M : Nat → Nat → E) (v : Nat → E) : Prop := ∃ c : Nat → E, ∀ k, v k = sm n fun j => mu (c j) (M j k)
/-- each of M' first n rows is such a sum of M's -/
def SubS (n : Nat) (M M' : Nat → Nat → E) : Prop := ∀ i, i < n → Span n M (M' i)
theorem Span.row {n : Nat} (M : Nat → Nat → E) {i : Nat} (hi : i < n) : Span n M (M i) := ⟨fun j => dl i j, fun k => (sm_dl hi fun j => M j k).symm⟩
theorem Span.add {n : Nat} {M : Nat → Nat → E} {u v : Nat → E} (hu : Span n M u) (hv : Span n M v) : Span n M fun k => ad (u k) (v k) := by
  obtain ⟨c, hc⟩ := hu
  obtain ⟨d, hd⟩ := hv
  refine ⟨fun j => ad (c j) (d j), fun k => ?_⟩
  show ad (u k) (v k) = sm n fun j => mu (ad (c j) (d j)) (M j k)
  rw [hc k, hd k, ← sm_ad]
  exact sm_congr fun i _ => (ad_mu _ _ _).symm
theorem Span.mul {n : Nat} {M : Nat → Nat → E} {u : Nat → E} (hu : Span n M u) (a : E) : Span n M fun k => mu (u k) a := by
  obtain ⟨c, hc⟩ := hu
  refine ⟨fun j => mu (c j) a, fun k => ?_⟩
  show mu (u k) a = sm n fun j => mu (mu (c j) a) (M j k)
  rw [hc k, ← sm_mur]
  exact sm_congr fun i _ => by rw [mu_assoc, mu_assoc, mu_comm a]
theorem pick {n : Nat} {P : Nat → (Nat → E) → Prop} (h : ∀ i, i < n → ∃ c, P i c) : ∃ D : Nat → Nat → E, ∀ i, i < n → P i (D i) := by
  refine ⟨fun i => if hi : i < n then Classical.choose (h i hi) else fun _ => ze, fun i hi => ?_⟩
  show P i (if hi : i < n then Classical.choose (h i hi) else fun _ => ze)
  rw [dif_pos hi]
  exact Classical.choose_spec (h i hi)
theorem Span.trans {n : Nat} {M M' : Nat → Nat → E} {v : Nat → E} (h : SubS n M M') (hv : Span n M' v) : Span n M v := by
  obtain ⟨c, hc⟩ := hv
  obtain ⟨D, hD⟩ := pick (P := fun i c => ∀ k, M' i k = sm n fun j => mu (c j) (M j k)) h
  refine ⟨fun j => sm n fun i => mu (c i) (D i j), fun k => ?_⟩
  rw [hc k]
  have e1 : sm n (fun i => mu (c i) (M' i k)) = sm n fun i => sm n fun j => mu (mu (c i) (D i j)) (M j k) := sm_congr fun i hi => by
    rw [hD i hi k, ← sm_mu]
    exact sm_congr fun j _ => (mu_assoc _ _ _).symm
  rw [e1, sm_swap]
  exact sm_congr fun j _ => sm_mur n (M j k) _
theorem SubS.refl (n : Nat) (M : Nat → Nat → E) : SubS n M M := fun _ hi => Span.row M hi
theorem SubS.trans {n : Nat} {A B C : Nat → Nat → E} (h : SubS n A B) (k : SubS n B C) : SubS n A C := fun i hi => Span.trans h (k i hi)
theorem subS_swp {n : Nat} (M : Nat → Nat → E) {d p : Nat} (hd : d < n) (hp : p < n) : SubS n M (swp M d p) ∧ SubS n (swp M d p) M := by
  refine ⟨fun i hi => Span.row M (sw_lt hd hp hi), fun i hi => ?_⟩
  have h := Span.row (swp M d p) (sw_lt hd hp hi)
  have e : swp M d p (sw d p i) = M i := by unfold swp; rw [sw_sw]
  rwa [e] at h
theorem subS_scl {n : Nat} (M : Nat → Nat → E) {d : Nat} {f : E} (hd : d < n) (hf : f ≠ ze) : SubS n M (scl M d f) ∧ SubS n (scl M d f) M := by
  refine ⟨fun i hi => ?_, fun i hi => ?_⟩
  · by_cases e : i = d
    · have h := (Span.row M hd).mul f
      have e2 : scl M d f i = fun k => mu (M d k) f := funext fun k => if_pos e
      rwa [e2]
    · have e2 : scl M d f i = M i := funext fun k => if_neg e
      rw [e2]; exact Span.row M hi
  · by_cases e : i = d
    · have h := (Span.row (scl M d f) hd).mul (iv f)
      have e2 : (fun k => mu (scl M d f d k) (iv f)) = M i := funext fun k => by
        show mu (if d = d then mu (M d k) f else M d k) (iv f) = M i k
        rw [if_pos rfl, mu_assoc, mu_iv hf, mu_on, e]
      rwa [e2] at h
    · have h := Span.row (scl M d f) hi
      have e2 : scl M d f i = M i := funext fun k => if_neg e
      rwa [e2] at h
theorem subS_clr {n : Nat} (M : Nat → Nat → E) {d : Nat} (c : Nat) (hd : d < n) : SubS n M (clr n M d c) ∧ SubS n (clr n M d c) M := by
  have ed : clr n M d c d = M d := funext fun k => if_neg (fun h => h.2 rfl)
  refine ⟨fun i hi => ?_, fun i hi => ?_⟩
  · by_cases e : i = d
    · rw [e, ed]; exact Span.row M hd
    · have e2 : clr n M d c i = fun k => ad (M i k) (mu (M d k) (M i c)) := funext fun k => if_pos ⟨hi, e⟩
      rw [e2]
      exact (Span.row M hi).add ((Span.row M hd).mul _)
  · by_cases e : i = d
    · have h := Span.row (clr n M d c) hd
      rw [ed] at h
      rw [e]; exact h
    · have h := (Span.row (clr n M d c) hi).add ((Span.row (clr n M d c) hd).mul (M i c))
      have e2 : (fun k => ad (clr n M d c i k) (mu (clr n M d c d k) (M i c))) = M i := funext fun k => by
        have e3 : clr n M d c i k = ad (M i k) (mu (M d k) (M i c)) := if_pos ⟨hi, e⟩
        rw [e3, ed, ad_assoc, ad_self, ad_ze]
      rwa [e2] at h
theorem redStep_cases (n c : Nat) (N : Nat → Nat → E) (d : Nat) (hd : d ≤ n) : (redStep n c (N, d) = (N, d) ∧ ∀ i, d ≤ i → i < n → N i c = ze) ∨
    ∃ p, d ≤ p ∧ p < n ∧ N p c ≠ ze ∧ (∀ i, d ≤ i → i < p → N i c = ze) ∧ redStep n c (N, d) = (clr n (scl (swp N d p) d (iv (N p c))) d c, d + 1) := by
  obtain ⟨h1, h2, h3, h4⟩ := findNZ_spec N c (n - d) d
  by_cases h : findNZ N c (n - d) d < n
  · exact Or.inr ⟨_, h1, h, h4 (by omega), h3, if_pos h⟩
  · exact Or.inl ⟨if_neg h, fun i a b => h3 i a (by omega)⟩
theorem red_span (n : Nat) (M : Nat → Nat → E) (k : Nat) : SubS n M (redTo n M k).1 ∧ SubS n (redTo n M k).1 M := by
  induction k with
  | zero => exact ⟨SubS.refl n M, SubS.refl n M⟩
  | succ k ih =>
    have hd := (redTo_le n M k).1
    have e : redTo n M (k + 1) = redStep n k ((redTo n M k).1, (redTo n M k).2) := rfl
    rcases redStep_cases n k (redTo n M k).1 (redTo n M k).2 hd with ⟨h, _⟩ | ⟨p, h1, h2, h3, _, h⟩
    · rw [e, h]; exact ih
    · rw [e, h]
      generalize (redTo n M k).1 = N at *
      generalize (redTo n M k).2 = d at *
      have hdn : d < n := by omega
      have s1 := subS_swp N hdn h2
      have s2 := subS_scl (swp N d p) hdn (iv_ne h3)
      have s3 := subS_clr (scl (swp N d p) d (iv (N p k))) k hdn
      exact ⟨ih.1.trans (s1.1.trans (s2.1.trans s3.1)), (s3.2.trans (s2.2.trans s1.2)).trans ih.2⟩
/-- what holds behind k columns: d of them, the pivots, have a 1 in a row of their own and 0 in all others; all other rows have 0 in the k columns -/
def Piv (n k : Nat) (N : Nat → Nat → E) (d : Nat) (piv : Nat → Nat) : Prop :=
  (∀ j, j < d → piv j < k) ∧ (∀ i, i < n → ∀ j, j < d → N i (piv j) = dl i j) ∧ ∀ i, d ≤ i → i < n → ∀ c, c < k → N i c = ze
theorem step_cols {n c d p : Nat} {N : Nat → Nat → E} (hdn : d < n) (h3 : N p c ≠ ze) (i : Nat) (hi : i < n) :
    (∀ x, clr n (scl (swp N d p) d (iv (N p c))) d c i x = if i = d then mu (N p x) (iv (N p c)) else ad (N (sw d p i) x) (mu (mu (N p x) (iv (N p c))) (N (sw d p i) c))) ∧ clr n (scl (swp N d p) d (iv (N p c))) d c i c = dl i d := by
  have k1 : ∀ x, clr n (scl (swp N d p) d (iv (N p c))) d c i x = if i = d then mu (N p x) (iv (N p c)) else ad (N (sw d p i) x) (mu (mu (N p x) (iv (N p c))) (N (sw d p i) c)) := by
    intro x
    have e0 : swp N d p d = N p := by unfold swp sw; rw [if_pos rfl]
    have e1 : ∀ x, scl (swp N d p) d (iv (N p c)) d x = mu (N p x) (iv (N p c)) := fun x => by
      show (if d = d then mu (swp N d p d x) _ else _) = _
      rw [if_pos rfl, e0]
    by_cases e : i = d
    · subst e
      rw [if_pos rfl]
      have e2 : clr n (scl (swp N i p) i (iv (N p c))) i c i x = scl (swp N i p) i (iv (N p c)) i x := if_neg (fun h => h.2 rfl)
      rw [e2, e1]
    · rw [if_neg e]
      have e2 : clr n (scl (swp N d p) d (iv (N p c))) d c i x = ad (scl (swp N d p) d (iv (N p c)) i x) (mu (scl (swp N d p) d (iv (N p c)) d x) (scl (swp N d p) d (iv (N p c)) i c)) := if_pos ⟨hi, e⟩
      have e3 : ∀ x, scl (swp N d p) d (iv (N p c)) i x = N (sw d p i) x := fun x => if_neg e
      rw [e2, e1, e3, e3]
  refine ⟨k1, ?_⟩
  rw [k1 c, mu_iv h3, on_mu, ad_self]
  by_cases e : i = d
  · rw [if_pos e, e, dl_self]
  · rw [if_neg e, dl_ne e]
theorem red_piv (n : Nat) (M : Nat → Nat → E) (k : Nat) : ∃ piv, Piv n k (redTo n M k).1 (redTo n M k).2 piv := by
  induction k with
  | zero => exact ⟨fun _ => 0, fun j hj => (by have : (redTo n M 0).2 = 0 := rfl; omega), fun i _ j hj => (by have : (redTo n M 0).2 = 0 := rfl; omega), fun i _ _ c hc => by omega⟩
  | succ k ih =>
    obtain ⟨piv, q1, q2, q3⟩ := ih
    have hd := (redTo_le n M k).1
    have e : redTo n M (k + 1) = redStep n k ((redTo n M k).1, (redTo n M k).2) := rfl
    rcases redStep_cases n k (redTo n M k).1 (redTo n M k).2 hd with ⟨h, hz⟩ | ⟨p, h1, h2, h3, _, h⟩
    · rw [e, h]
      refine ⟨piv, fun j hj => by have := q1 j hj; omega, q2, fun i hi hin c hc => ?_⟩
      by_cases ec : c = k
      · rw [ec]; exact hz i hi hin
      · exact q3 i hi hin c (by omega)
    · rw [e, h]
      generalize (redTo n M k).1 = N at *
      generalize (redTo n M k).2 = d at *
      have hdn : d < n := by omega
      refine ⟨fun j => if j = d then k else piv j, fun j hj => ?_, fun i hi j hj => ?_, fun i hi hin c hc => ?_⟩
      · show (if j = d then k else piv j) < k + 1
        by_cases ej : j = d
        · rw [if_pos ej]; omega
        · rw [if_neg ej]; have := q1 j (by omega); omega
      · show clr n _ d k i (if j = d then k else piv j) = dl i j
        obtain ⟨k1, k2⟩ := step_cols hdn h3 i hi
        by_cases ej : j = d
        · rw [if_pos ej, k2, ej]
        · rw [if_neg ej, k1]
          have hj' : j < d := by omega
          have z1 : N p (piv j) = ze := by rw [q2 p h2 j hj', dl_ne (by omega)]
          rw [z1, ze_mu, ze_mu, ad_ze]
          by_cases ei : i = d
          · rw [if_pos ei, ei, dl_ne (by omega)]
          · rw [if_neg ei, q2 _ (sw_lt hdn h2 hi) j hj']
            unfold dl sw
            rw [if_neg ei]
            by_cases ep : i = p
            · rw [if_pos ep, if_neg (by omega), if_neg (by omega)]
            · rw [if_neg ep]
      · show clr n (scl (swp N d p) d (iv (N p k))) d k i c = ze
        obtain ⟨k1, k2⟩ := step_cols hdn h3 i hin
        by_cases ec : c = k
        · rw [ec, k2, dl_ne (by omega)]
        · rw [k1, if_neg (by omega), q3 p h1 h2 c (by omega), ze_mu, ze_mu, ad_ze]
          refine q3 _ ?_ (sw_lt hdn h2 hin) c (by omega)
          unfold sw
          rw [if_neg (by omega)]
          split <;> omega
/-- where each column had its row, the first columns are 1s where row and column have the same place -/
theorem red_full (n : Nat) (M : Nat → Nat → E) (k : Nat) (hk : (redTo n M k).2 = k) : ∀ i, i < n → ∀ j, j < k → (redTo n M k).1 i j = dl i j := by
  induction k with
  | zero => exact fun i _ j hj => by omega
  | succ k ih =>
    have hd := redTo_le n M k
    have e : redTo n M (k + 1) = redStep n k ((redTo n M k).1, (redTo n M k).2) := rfl
    rcases redStep_cases n k (redTo n M k).1 (redTo n M k).2 hd.1 with ⟨h, _⟩ | ⟨p, h1, h2, h3, _, h⟩
    · rw [e, h] at hk; simp only at hk; omega
    · have hk' : (redTo n M k).2 = k := by rw [e, h] at hk; simp only at hk; omega
      have ih' := ih hk'
      rw [e, h]
      generalize (redTo n M k).1 = N at *
      generalize (redTo n M k).2 = d at *
      subst hk'
      have hdn : d < n := by omega
      intro i hi j hj
      show clr n (scl (swp N d p) d (iv (N p d))) d d i j = dl i j
      obtain ⟨k1, k2⟩ := step_cols hdn h3 i hi
      by_cases ej : j = d
      · rw [ej]; exact k2
      · have hj' : j < d := by omega
        rw [k1, ih' p h2 j hj', dl_ne (show p ≠ j by omega), ze_mu, ze_mu, ad_ze]
        by_cases ei : i = d
        · rw [if_pos ei, ei, dl_ne (by omega)]
        · rw [if_neg ei, ih' _ (sw_lt hdn h2 hi) j hj']
          unfold dl sw
          rw [if_neg ei]
          by_cases ep : i = p
          · rw [if_pos ep, if_neg (by omega), if_neg (by omega)]
          · rw [if_neg ep]
/-- what stands behind the columns that are looked at does not matter there -/
theorem red_agree (n K : Nat) (M W : Nat → Nat → E) (h : ∀ i, i < n → ∀ c, c < K → M i c = W i c) (k : Nat) (hk : k ≤ K) :
    (redTo n M k).2 = (redTo n W k).2 ∧ ∀ i, i < n → ∀ c, c < K → (redTo n M k).1 i c = (redTo n W k).1 i c := by
  induction k with
  | zero => exact ⟨rfl, h⟩
  | succ k ih =>
    obtain ⟨i1, i2⟩ := ih (by omega)
    have hd := (redTo_le n M k).1
    have e : redTo n M (k + 1) = redStep n k ((redTo n M k).1, (redTo n M k).2) := rfl
    have e' : redTo n W (k + 1) = redStep n k ((redTo n W k).1, (redTo n W k).2) := rfl
    rw [e, e', ← i1]
    generalize (redTo n M k).1 = N at *
    generalize (redTo n W k).1 = V at *
    generalize (redTo n M k).2 = d at *
    rcases redStep_cases n k N d hd with ⟨h0, hz⟩ | ⟨p, h1, h2, h3, h4, h0⟩
    · rcases redStep_cases n k V d hd with ⟨h0', _⟩ | ⟨p', h1', h2', h3', _⟩
      · rw [h0, h0']; exact ⟨rfl, i2⟩
      · exact absurd ((i2 p' h2' k (by omega)).symm.trans (hz p' h1' h2')) h3'
    · rcases redStep_cases n k V d hd with ⟨_, hz'⟩ | ⟨p', h1', h2', h3', h4', h0'⟩
      · exact absurd ((i2 p h2 k (by omega)).trans (hz' p h1 h2)) h3
      · have ep : p = p' := by
          rcases Nat.lt_trichotomy p p' with q | q | q
          · exact absurd ((i2 p h2 k (by omega)).trans (h4' p h1 q)) h3
          · exact q
          · exact absurd ((i2 p' h2' k (by omega)).symm.trans (h4 p' h1' q)) h3'
        subst ep
        rw [h0, h0']
        refine ⟨rfl, fun i hi c hc => ?_⟩
        have hdn : d < n := by omega
        show clr n (scl (swp N d p) d (iv (N p k))) d k i c = clr n (scl (swp V d p) d (iv (V p k))) d k i c
        rw [(step_cols hdn h3 i hi).1, (step_cols hdn h3' i hi).1, i2 p h2 c hc, i2 p h2 k (by omega), i2 _ (sw_lt hdn h2 hi) c hc, i2 _ (sw_lt hdn h2 hi) k (by omega)]
end Go.Proofs.Ythgbfakmkdifbaa
/-
  Inverses from both sides, ranks of products, powers of elements that all differ (no program in sight).
-/
namespace Go.Proofs.Ythgbfakmkdifbaa
open E
/-- all places but p -/
def skp (p i : Nat) : Nat := if i < p then i else i + 1
theorem skp_ne (p i : Nat) : skp p i ≠ p := by unfold skp; split <;> omega
theorem skp_lt {p i n : Nat} (hi : i < n) : skp p i < n + 1 := by unfold skp; split <;> omega
theorem sm_skip (n p : Nat) (hp : p < n + 1) (f : Nat → E) : sm (n + 1) f = ad (sm n fun i => f (skp p i)) (f p) := by
  induction n with
  | zero =>
    have e : p = 0 := by omega
    subst e; rfl
  | succ n ih =>
    by_cases e : p = n + 1
    · subst e
      show ad (sm (n + 1) f) (f (n + 1)) = _
      rw [sm_congr (f := fun i => f (skp (n + 1) i)) (g := f) fun i hi => by unfold skp; rw [if_pos hi]]
    · have h := ih (by omega)
      show ad (sm (n + 1) f) (f (n + 1)) = ad (ad (sm n fun i => f (skp p i)) (f (skp p n))) (f p)
      have e2 : skp p n = n + 1 := by unfold skp; rw [if_neg (by omega)]
      rw [h, e2, ad_assoc, ad_assoc, ad_comm (f p)]
/-- more rows than columns: some sum of products of the rows, not all with 0, is 0 -/
theorem null_row (d : Nat) : ∀ n, d < n → ∀ c : Nat → Nat → E, ∃ x : Nat → E, (∃ i, i < n ∧ x i ≠ ze) ∧ ∀ j, j < d → sm n (fun i => mu (x i) (c i j)) = ze := by
  induction d with
  | zero => exact fun n hn c => ⟨fun _ => on, ⟨0, hn, on_ne⟩, fun j hj => by omega⟩
  | succ d ih =>
    intro n hn c
    by_cases hz : ∀ i, i < n → c i d = ze
    · obtain ⟨x, hx, hs⟩ := ih n (by omega) c
      refine ⟨x, hx, fun j hj => ?_⟩
      by_cases e : j = d
      · rw [e]; exact sm_ze' fun i hi => by rw [hz i hi, mu_ze]
      · exact hs j (by omega)
    · have hz' : ∃ p, p < n ∧ c p d ≠ ze := Classical.byContradiction fun q => hz fun i hi => Classical.byContradiction fun r => q ⟨i, hi, r⟩
      obtain ⟨p, hp, hne⟩ := hz'
      obtain ⟨m, rfl⟩ : ∃ m, n = m + 1 := ⟨n - 1, by omega⟩
      obtain ⟨x, ⟨i0, hi0, hx0⟩, hs⟩ := ih m (by omega) fun i j => ad (c (skp p i) j) (mu (mu (c (skp p i) d) (iv (c p d))) (c p j))
      have back : ∀ i, i ≠ p → ∃ k, skp p k = i := fun i hi => ⟨if i < p then i else i - 1, by
        unfold skp
        by_cases e : i < p
        · rw [if_pos e, if_pos e]
        · rw [if_neg e, if_neg (by omega)]; omega⟩
      let y : Nat → E := fun i => if i = p then mu (sm m fun k => mu (x k) (c (skp p k) d)) (iv (c p d)) else x (if i < p then i else i - 1)
      have hyp : y p = mu (sm m fun k => mu (x k) (c (skp p k) d)) (iv (c p d)) := if_pos rfl
      have hyk : ∀ k, y (skp p k) = x k := fun k => by
        show (if skp p k = p then _ else x (if skp p k < p then skp p k else skp p k - 1)) = x k
        rw [if_neg (skp_ne p k)]
        congr 1
        unfold skp
        by_cases e : k < p
        · rw [if_pos e, if_pos e]
        · rw [if_neg e, if_neg (by omega)]; omega
      refine ⟨y, ⟨skp p i0, skp_lt hi0, by rw [hyk]; exact hx0⟩, fun j hj => ?_⟩
      rw [sm_skip m p hp, hyp]
      have e1 : sm m (fun i => mu (y (skp p i)) (c (skp p i) j)) = sm m fun i => mu (x i) (c (skp p i) j) := sm_congr fun i _ => by rw [hyk]
      rw [e1]
      by_cases e : j = d
      · rw [e, mu_assoc, iv_mu hne, mu_on, ad_self]
      · have h := hs j (by omega)
        have e2 : sm m (fun i => mu (x i) (ad (c (skp p i) j) (mu (mu (c (skp p i) d) (iv (c p d))) (c p j)))) = ad (sm m fun i => mu (x i) (c (skp p i) j)) (mu (mu (sm m fun k => mu (x k) (c (skp p k) d)) (iv (c p d))) (c p j)) := by
          rw [← sm_mur, ← sm_mur, ← sm_ad]
          exact sm_congr fun i _ => by rw [mu_ad, mu_assoc, mu_assoc, mu_assoc]
        rw [e2] at h
        exact h
/-- so many vectors as there are 1s -/
theorem ones_le {n d : Nat} (c V : Nat → Nat → E) (h : ∀ i, i < n → ∀ l, l < n → dl i l = sm d fun j => mu (c i j) (V j l)) : n ≤ d := by
  rcases Nat.lt_or_ge d n with hlt | hge
  · obtain ⟨x, ⟨l, hl, hx⟩, hs⟩ := null_row d n hlt c
    refine absurd ?_ hx
    have e1 : x l = sm n fun i => mu (x i) (dl i l) := (sm_dlr hl x).symm
    have e2 : sm n (fun i => mu (x i) (dl i l)) = sm n fun i => sm d fun j => mu (mu (x i) (c i j)) (V j l) := sm_congr fun i hi => by
      rw [h i hi l hl, ← sm_mu]
      exact sm_congr fun j _ => (mu_assoc _ _ _).symm
    rw [e1, e2, sm_swap]
    refine sm_ze' fun j hj => ?_
    rw [sm_mur, hs j hj, ze_mu]
  · exact hge
/-- the rank is no greater than the number of vectors that span the rows -/
theorem rank_le {n m r : Nat} (A : Nat → Nat → E) (c V : Nat → Nat → E) (h : ∀ i, i < n → ∀ l, l < m → A i l = sm r fun j => mu (c i j) (V j l)) : (redTo n A m).2 ≤ r := by
  obtain ⟨piv, q1, q2, _⟩ := red_piv n A m
  have hd := (redTo_le n A m).1
  obtain ⟨D, hD⟩ := pick (P := fun i c => ∀ k, (redTo n A m).1 i k = sm n fun j => mu (c j) (A j k)) (red_span n A m).1
  refine ones_le (fun i j => sm n fun x => mu (D i x) (c x j)) (fun j l => V j (piv l)) fun i hi l hl => ?_
  rw [← q2 i (by omega) l hl, hD i (by omega)]
  have e1 : sm n (fun x => mu (D i x) (A x (piv l))) = sm n fun x => sm r fun j => mu (mu (D i x) (c x j)) (V j (piv l)) := sm_congr fun x hx => by
    rw [h x hx _ (q1 l hl), ← sm_mu]
    exact sm_congr fun j _ => (mu_assoc _ _ _).symm
  rw [e1, sm_swap]
  exact sm_congr fun j _ => sm_mur n _ _
/-- the rows of a matrix as sums of so many as its rank -/
theorem rank_span (n : Nat) (A : Nat → Nat → E) (m : Nat) : ∃ c V : Nat → Nat → E, ∀ i, i < n → ∀ l, l < m → A i l = sm (redTo n A m).2 fun j => mu (c i j) (V j l) := by
  obtain ⟨piv, _, _, q3⟩ := red_piv n A m
  have hd := (redTo_le n A m).1
  obtain ⟨D, hD⟩ := pick (P := fun i c => ∀ k, A i k = sm n fun j => mu (c j) ((redTo n A m).1 j k)) (red_span n A m).2
  refine ⟨D, (redTo n A m).1, fun i hi l hl => ?_⟩
  rw [hD i hi l]
  have cut : ∀ (k : Nat) (f : Nat → E), (redTo n A m).2 ≤ k → (∀ j, (redTo n A m).2 ≤ j → j < k → f j = ze) → sm k f = sm (redTo n A m).2 f := by
    intro k f hk hz
    induction k with
    | zero => rw [show (redTo n A m).2 = 0 by omega]
    | succ k ih =>
      by_cases e : (redTo n A m).2 = k + 1
      · rw [e]
      · show ad (sm k f) (f k) = _
        rw [hz k (by omega) (by omega), ad_ze]
        exact ih (by omega) fun j a b => hz j a (by omega)
  exact cut n _ hd fun j a b => by rw [q3 j a b l hl, mu_ze]
/-- the product of the first, of m columns, and the second -/
def mmE (m : Nat) (M M' : Nat → Nat → E) (r c : Nat) : E := sm m fun i => mu (M r i) (M' i c)
theorem mmE_assoc (m l : Nat) (X Y Z : Nat → Nat → E) (r c : Nat) : mmE l (mmE m X Y) Z r c = mmE m X (mmE l Y Z) r c := by
  unfold mmE
  have h1 : (fun j => mu (sm m fun i => mu (X r i) (Y i j)) (Z j c)) = fun j => sm m fun i => mu (X r i) (mu (Y i j) (Z j c)) := by
    funext j
    rw [← sm_mur]
    exact sm_congr fun i _ => mu_assoc _ _ _
  have h2 : (fun i => mu (X r i) (sm l fun j => mu (Y i j) (Z j c))) = fun i => sm l fun j => mu (X r i) (mu (Y i j) (Z j c)) := by
    funext i
    rw [← sm_mu]
  rw [h1, h2, sm_swap]
theorem rank_mul (n : Nat) (X Y : Nat → Nat → E) : (redTo n (mmE n X Y) n).2 ≤ (redTo n X n).2 ∧ (redTo n (mmE n X Y) n).2 ≤ (redTo n Y n).2 := by
  constructor
  · obtain ⟨c, V, h⟩ := rank_span n X n
    refine rank_le _ c (fun j l => sm n fun k => mu (V j k) (Y k l)) fun i hi l _ => ?_
    have e1 : mmE n X Y i l = sm n fun k => sm (redTo n X n).2 fun j => mu (c i j) (mu (V j k) (Y k l)) := sm_congr fun k hk => by
      rw [h i hi k hk, ← sm_mur]
      exact sm_congr fun j _ => mu_assoc _ _ _
    rw [e1, sm_swap]
    exact sm_congr fun j _ => sm_mu n _ _
  · obtain ⟨c, V, h⟩ := rank_span n Y n
    refine rank_le _ (fun i j => sm n fun k => mu (X i k) (c k j)) V fun i _ l hl => ?_
    have e1 : mmE n X Y i l = sm n fun k => sm (redTo n Y n).2 fun j => mu (mu (X i k) (c k j)) (V j l) := sm_congr fun k hk => by
      rw [h k hk l hl, ← sm_mu]
      exact sm_congr fun j _ => (mu_assoc _ _ _).symm
    rw [e1, sm_swap]
    exact sm_congr fun j _ => sm_mur n _ _
/-- a matrix with 1s behind it -/
def wide (n : Nat) (M : Nat → Nat → E) (r c : Nat) : E := if c < n then M r c else if c = n + r then on else ze
/-- what stands behind it in the end -/
def invM (n : Nat) (M : Nat → Nat → E) (r c : Nat) : E := (redTo n (wide n M) n).1 r (n + c)
theorem wide_rank (n : Nat) (M : Nat → Nat → E) : (redTo n (wide n M) n).2 = (redTo n M n).2 :=
  (red_agree n n (wide n M) M (fun _ _ _ hc => if_pos hc) n (Nat.le_refl _)).1
theorem wide_ones {n : Nat} (M : Nat → Nat → E) (j l : Nat) : wide n M j (n + l) = dl l j := by
  unfold wide dl
  rw [if_neg (by omega)]
  by_cases e : l = j
  · rw [if_pos e, if_pos (by omega)]
  · rw [if_neg e, if_neg (by omega)]
theorem inv_left {n : Nat} {M : Nat → Nat → E} (h : (redTo n M n).2 = n) (i k : Nat) (hi : i < n) (hk : k < n) : mmE n (invM n M) M i k = dl i k := by
  have hf := red_full n (wide n M) n ((wide_rank n M).trans h)
  obtain ⟨D, hD⟩ := pick (P := fun i c => ∀ k, (redTo n (wide n M) n).1 i k = sm n fun j => mu (c j) (wide n M j k)) (red_span n (wide n M) n).1
  have e1 : ∀ l, l < n → invM n M i l = D i l := fun l hl => by
    unfold invM
    rw [hD i hi, ← sm_dl hl (fun j => D i j)]
    exact sm_congr fun j _ => by rw [wide_ones, mu_comm]
  rw [← hf i hi k hk, hD i hi k]
  exact sm_congr fun j hj => by
    rw [e1 j hj]
    show mu (D i j) (M j k) = mu (D i j) (if k < n then M j k else _)
    rw [if_pos hk]
theorem inv_right {n : Nat} {M : Nat → Nat → E} (h : (redTo n M n).2 = n) (i l : Nat) (hi : i < n) : mmE n M (invM n M) i l = dl i l := by
  have hf := red_full n (wide n M) n ((wide_rank n M).trans h)
  obtain ⟨D, hD⟩ := pick (P := fun i c => ∀ k, wide n M i k = sm n fun j => mu (c j) ((redTo n (wide n M) n).1 j k)) (red_span n (wide n M) n).2
  have e1 : ∀ k, k < n → M i k = D i k := fun k hk => by
    have e2 : wide n M i k = M i k := if_pos hk
    rw [← e2, hD i hi k, ← sm_dlr hk (fun j => D i j)]
    exact sm_congr fun j hj => by rw [hf j hj k hk]
  have e3 := hD i hi (n + l)
  rw [wide_ones] at e3
  unfold mmE
  rw [sm_congr (g := fun j => mu (D i j) ((redTo n (wide n M) n).1 j (n + l))) fun j hj => by rw [e1 j hj]; rfl, ← e3]
  unfold dl
  by_cases e : i = l
  · rw [if_pos e, if_pos e.symm]
  · rw [if_neg e, if_neg (fun q => e q.symm)]
/-- one side is enough -/
theorem rank_of_left {n : Nat} {M Q : Nat → Nat → E} (h : ∀ i, i < n → ∀ k, k < n → mmE n Q M i k = dl i k) : (redTo n M n).2 = n := by
  have hd := (redTo_le n M n).1
  obtain ⟨c, V, hc⟩ := rank_span n M n
  have : n ≤ (redTo n M n).2 := by
    refine ones_le (fun i j => sm n fun x => mu (Q i x) (c x j)) V fun i hi l hl => ?_
    rw [← h i hi l hl]
    have e1 : mmE n Q M i l = sm n fun x => sm (redTo n M n).2 fun j => mu (mu (Q i x) (c x j)) (V j l) := sm_congr fun x hx => by
      rw [hc x hx l hl, ← sm_mu]
      exact sm_congr fun j _ => (mu_assoc _ _ _).symm
    rw [e1, sm_swap]
    exact sm_congr fun j _ => sm_mur n _ _
  omega
theorem mmE_ones_right {n : Nat} {A O : Nat → Nat → E} (h : ∀ i, i < n → ∀ k, k < n → O i k = dl i k) (i k : Nat) (hk : k < n) : mmE n A O i k = A i k := by
  unfold mmE
  rw [sm_congr (g := fun j => mu (A i j) (dl j k)) fun j hj => by rw [h j hj k hk]]
  exact sm_dlr hk _
theorem mmE_ones_left {n : Nat} {A O : Nat → Nat → E} (h : ∀ i, i < n → ∀ k, k < n → O i k = dl i k) (i k : Nat) (hi : i < n) : mmE n O A i k = A i k := by
  unfold mmE
  rw [sm_congr (g := fun j => mu (dl i j) (A j k)) fun j hj => by rw [h i hi j hj]]
  exact sm_dl hi _
/-- an inverse from the left is the one that is told -/
theorem inv_unique {n : Nat} {M Q : Nat → Nat → E} (h : ∀ i, i < n → ∀ k, k < n → mmE n Q M i k = dl i k) (i k : Nat) (hi : i < n) (hk : k < n) : Q i k = invM n M i k := by
  have hr := rank_of_left h
  have e1 : mmE n Q (mmE n M (invM n M)) i k = Q i k := mmE_ones_right (fun a ha b _ => inv_right hr a b ha) i k hk
  rw [← e1, ← mmE_assoc]
  exact mmE_ones_left h i k hi
theorem inv_mul {n : Nat} {X Y : Nat → Nat → E} (hx : (redTo n X n).2 = n) (hy : (redTo n Y n).2 = n) :
    (redTo n (mmE n X Y) n).2 = n ∧ ∀ i, i < n → ∀ k, k < n → mmE n (invM n Y) (invM n X) i k = invM n (mmE n X Y) i k := by
  have key : ∀ i, i < n → ∀ k, k < n → mmE n (mmE n (invM n Y) (invM n X)) (mmE n X Y) i k = dl i k := by
    intro i hi k hk
    rw [mmE_assoc, ← inv_left hy i k hi hk]
    refine sm_congr fun j hj => ?_
    rw [← mmE_assoc, mmE_ones_left (fun a ha b hb => inv_left hx a b ha hb) j k hj]
  exact ⟨rank_of_left key, fun i hi k hk => inv_unique key i k hi hk⟩
/-- rows that are the same: no inverse -/
theorem rank_twice {n p q : Nat} {M : Nat → Nat → E} (hp : p < n) (hq : q < n) (hne : p ≠ q) (h : ∀ k, k < n → M p k = M q k) : (redTo n M n).2 < n := by
  have hd := (redTo_le n M n).1
  rcases Nat.lt_or_ge (redTo n M n).2 n with hl | hg
  · exact hl
  · have hr : (redTo n M n).2 = n := by omega
    have e1 := inv_right hr p p hp
    have e2 := inv_right hr q p hq
    rw [dl_self] at e1
    rw [dl_ne (fun e => hne e.symm)] at e2
    have e3 : mmE n M (invM n M) p p = mmE n M (invM n M) q p := sm_congr fun k hk => by rw [h k hk]
    rw [e1, e2] at e3
    exact absurd e3 on_ne
/-! polynomials -/
def ph : Nat → (Nat → E) → E → E
  | 0, _, _ => ze
  | n + 1, u, x => ad (u 0) (mu x (ph n (fun i => u (i + 1)) x))
theorem ph_divide (n : Nat) : ∀ (u : Nat → E) (a : E), ∃ q : Nat → E, (∀ x, ph (n + 1) u x = ad (ph (n + 1) u a) (mu (ad x a) (ph n q x))) ∧ (ph (n + 1) u a = ze → (∀ i, i < n → q i = ze) → ∀ i, i < n + 1 → u i = ze) := by
  induction n with
  | zero =>
    intro u a
    refine ⟨fun _ => ze, fun x => ?_, fun h _ i hi => ?_⟩
    · simp only [ph, mu_ze, ad_ze]
    · simp only [ph, mu_ze, ad_ze] at h
      rw [show i = 0 by omega]; exact h
  | succ n ih =>
    intro u a
    obtain ⟨q1, h1, h2⟩ := ih (fun i => u (i + 1)) a
    refine ⟨fun i => match i with | 0 => ph (n + 1) (fun i => u (i + 1)) a | i + 1 => q1 i, fun x => ?_, fun h hq i hi => ?_⟩
    · show ad (u 0) (mu x (ph (n + 1) (fun i => u (i + 1)) x)) = ad (ad (u 0) (mu a (ph (n + 1) (fun i => u (i + 1)) a))) (mu (ad x a) (ad (ph (n + 1) (fun i => u (i + 1)) a) (mu x (ph n q1 x))))
      rw [h1 x]
      generalize ph (n + 1) (fun i => u (i + 1)) a = A
      generalize ph n q1 x = B
      rw [mu_ad, mu_ad, ad_mu x a A, ad_mu x a (mu x B), mu_left x (ad x a) B, ad_mu x a (mu x B)]
      rw [ad_assoc (u 0), ad_assoc (mu x A) (mu a A), ad_left (mu a A) (mu x A), ← ad_assoc (mu a A) (mu a A), ad_self, ze_ad]
    · have z0 : ph (n + 1) (fun i => u (i + 1)) a = ze := hq 0 (by omega)
      have hu : ∀ i, i < n + 1 → u (i + 1) = ze := h2 z0 fun i hi => hq (i + 1) (by omega)
      cases i with
      | zero =>
        have h' : ad (u 0) (mu a (ph (n + 1) (fun i => u (i + 1)) a)) = ze := h
        rw [z0, mu_ze, ad_ze] at h'
        exact h'
      | succ i => exact hu i (by omega)
/-- a polynomial with as many places where it is 0 as it has coefficients is 0 -/
theorem ph_roots (n : Nat) : ∀ (u : Nat → E) (x : Nat → E), (∀ i j, i < n → j < n → i ≠ j → x i ≠ x j) → (∀ i, i < n → ph n u (x i) = ze) → ∀ i, i < n → u i = ze := by
  induction n with
  | zero => exact fun u x _ _ i hi => by omega
  | succ n ih =>
    intro u x hx h
    obtain ⟨q, h1, h2⟩ := ph_divide n u (x n)
    have hn := h n (by omega)
    refine h2 hn (ih q x (fun i j a b c => hx i j (by omega) (by omega) c) fun i hi => ?_)
    have e := h1 (x i)
    rw [h i (by omega), hn, ze_ad] at e
    have hne : ad (x i) (x n) ≠ ze := fun z => hx i n (by omega) (by omega) (by omega) (eq_of_ad z)
    exact Classical.byContradiction fun z => mu_ne hne z e.symm
def pw (x : E) (k : Nat) : E := ⟨Gf.gpow x.val k, Gf.gpow_lt _ _⟩
theorem pw_zero (x : E) : pw x 0 = on := rfl
theorem pw_succ (x : E) (k : Nat) : pw x (k + 1) = mu (pw x k) x := rfl
theorem sm_front (n : Nat) (f : Nat → E) : sm (n + 1) f = ad (f 0) (sm n fun i => f (i + 1)) := by
  rw [sm_skip n 0 (by omega) f, ad_comm]
  rfl
theorem ph_sm (n : Nat) : ∀ (u : Nat → E) (x : E), ph n u x = sm n fun k => mu (u k) (pw x k) := by
  induction n with
  | zero => exact fun _ _ => rfl
  | succ n ih =>
    intro u x
    show ad (u 0) (mu x (ph n (fun i => u (i + 1)) x)) = _
    rw [sm_front, ih, pw_zero, mu_on, ← sm_mu]
    congr 1
    exact sm_congr fun k _ => by rw [pw_succ, mu_left, mu_comm x]
/-- powers of elements that all differ -/
theorem rank_powers {n : Nat} (x : Nat → E) (hx : ∀ i j, i < n → j < n → i ≠ j → x i ≠ x j) : (redTo n (fun i k => pw (x i) k) n).2 = n := by
  have hd := (redTo_le n (fun i k => pw (x i) k) n).1
  rcases Nat.lt_or_ge (redTo n (fun i k => pw (x i) k) n).2 n with hlt | hge
  · obtain ⟨c, V, hc⟩ := rank_span n (fun i k => pw (x i) k) n
    obtain ⟨u, ⟨k, hk, hu⟩, hs⟩ := null_row _ n hlt fun k j => V j k
    refine absurd (ph_roots n u x hx (fun i hi => ?_) k hk) hu
    rw [ph_sm]
    have e1 : sm n (fun k => mu (u k) (pw (x i) k)) = sm n fun k => sm (redTo n (fun i k => pw (x i) k) n).2 fun j => mu (mu (u k) (V j k)) (c i j) := sm_congr fun k hk => by
      have this : pw (x i) k = _ := hc i hi k hk
      rw [this, ← sm_mu]
      exact sm_congr fun j _ => by rw [mu_comm (c i j), mu_assoc]
    rw [e1, sm_swap]
    exact sm_ze' fun j hj => by rw [sm_mur, hs j hj, ze_mu]
  · omega
end Go.Proofs.Ythgbfakmkdifbaa
/-
  Matrices of some of the first three powers of elements that all differ can be inverted (no program in sight).
-/
namespace Go.Proofs.Ythgbfakmkdifbaa
open E
/-- a matrix that makes nothing but 0 into 0 -/
theorem rank_null {n : Nat} {M : Nat → Nat → E} (h : ∀ u : Nat → E, (∀ i, i < n → sm n (fun k => mu (u k) (M i k)) = ze) → ∀ k, k < n → u k = ze) : (redTo n M n).2 = n := by
  have hd := (redTo_le n M n).1
  rcases Nat.lt_or_ge (redTo n M n).2 n with hlt | hge
  · obtain ⟨c, V, hc⟩ := rank_span n M n
    obtain ⟨u, ⟨k, hk, hu⟩, hs⟩ := null_row _ n hlt fun k j => V j k
    refine absurd (h u (fun i hi => ?_) k hk) hu
    have e1 : sm n (fun k => mu (u k) (M i k)) = sm n fun k => sm (redTo n M n).2 fun j => mu (mu (u k) (V j k)) (c i j) := sm_congr fun k hk => by
      rw [hc i hi k hk, ← sm_mu]
      exact sm_congr fun j _ => by rw [mu_comm (c i j), mu_assoc]
    rw [e1, sm_swap]
    exact sm_ze' fun j hj => by rw [sm_mur, hs j hj, ze_mu]
  · omega
/-- .. and the other way round -/
theorem rank_tr {n : Nat} {M : Nat → Nat → E} (h : (redTo n M n).2 = n) : (redTo n (fun i k => M k i) n).2 = n := by
  refine rank_of_left (Q := fun i k => invM n M k i) fun i hi k hk => ?_
  have e := inv_right h k i hk
  have e2 : dl i k = dl k i := by
    unfold dl
    by_cases q : i = k
    · rw [if_pos q, if_pos q.symm]
    · rw [if_neg q, if_neg (fun z => q z.symm)]
  rw [e2, ← e]
  exact sm_congr fun j _ => mu_comm _ _
theorem pw_add (x : E) (a b : Nat) : pw x (a + b) = mu (pw x a) (pw x b) := by
  induction b with
  | zero => rw [Nat.add_zero, pw_zero, mu_on]
  | succ b ih => rw [← Nat.add_assoc, pw_succ, pw_succ, ih, mu_assoc]
theorem pw_one (x : E) : pw x 1 = x := by rw [pw_succ, pw_zero, on_mu]
theorem pw_mul (x : E) (a b : Nat) : pw x (a * b) = pw (pw x a) b := by
  induction b with
  | zero => rw [Nat.mul_zero, pw_zero, pw_zero]
  | succ b ih => rw [Nat.mul_succ, pw_add, ih, pw_succ]
theorem pw_ne {x : E} (h : x ≠ ze) (k : Nat) : pw x k ≠ ze := by
  induction k with
  | zero => exact on_ne
  | succ k ih => rw [pw_succ]; exact mu_ne ih h
/-- squares of elements that differ do -/
theorem sq_inj {x y : E} (h : pw x 2 = pw y 2) : x = y := by
  have e : ∀ z : E, pw z 2 = mu z z := fun z => by rw [show 2 = 1 + 1 from rfl, pw_add, pw_one]
  rw [e, e] at h
  refine eq_of_ad (Classical.byContradiction fun z => mu_ne z z ?_)
  rw [mu_ad, ad_mu, ad_mu, h, mu_comm y x, ad_assoc, ← ad_assoc (mu x y), ad_self, ze_ad, ad_self]
theorem rank_shift {n : Nat} (s y : Nat → E) (hs : ∀ i, i < n → s i ≠ ze) (hy : ∀ i j, i < n → j < n → i ≠ j → y i ≠ y j) : (redTo n (fun i k => mu (s i) (pw (y i) k)) n).2 = n := by
  refine rank_null fun u hu => ph_roots n u y hy fun i hi => ?_
  have e := hu i hi
  rw [sm_congr (g := fun k => mu (s i) (mu (u k) (pw (y i) k))) fun k _ => mu_left _ _ _, sm_mu] at e
  rw [ph_sm]
  exact Classical.byContradiction fun z => mu_ne (hs i hi) z e
/-- of the first three powers as many as there are elements -/
theorem rank_pick {t : Nat} (j : Nat → Nat) (x : Nat → E) (ht : t ≤ 3) (hj : ∀ a, a < t → j a < 3) (hi : ∀ a b, a < b → b < t → j a < j b) (hx0 : ∀ a, a < t → x a ≠ ze) (hx : ∀ a b, a < t → b < t → a ≠ b → x a ≠ x b) :
    (redTo t (fun a b => pw (x b) (j a)) t).2 = t := by
  have key : ∃ s d, (d = 1 ∨ d = 2) ∧ ∀ b, b < t → j b = s + d * b := by
    match t, ht with
    | 0, _ => exact ⟨0, 1, Or.inl rfl, fun b hb => by omega⟩
    | 1, _ => exact ⟨j 0, 1, Or.inl rfl, fun b hb => by rw [show b = 0 by omega]; omega⟩
    | 2, _ =>
      have h1 := hi 0 1 (by omega) (by omega)
      have h2 := hj 1 (by omega)
      refine ⟨j 0, j 1 - j 0, by omega, fun b hb => ?_⟩
      match b, hb with
      | 0, _ => omega
      | 1, _ => omega
    | 3, _ =>
      have h1 := hi 0 1 (by omega) (by omega)
      have h3 := hi 1 2 (by omega) (by omega)
      have h2 := hj 2 (by omega)
      refine ⟨0, 1, Or.inl rfl, fun b hb => ?_⟩
      match b, hb with
      | 0, _ => omega
      | 1, _ => omega
      | 2, _ => omega
  obtain ⟨s, d, hd, e⟩ := key
  have h := rank_tr (rank_shift (n := t) (fun a => pw (x a) s) (fun a => pw (x a) d) (fun a ha => pw_ne (hx0 a ha) s) fun a b ha hb hab q => by
    rcases hd with rfl | rfl
    · rw [pw_one, pw_one] at q; exact hx a b ha hb hab q
    · exact hx a b ha hb hab (sq_inj q))
  rw [← (red_agree t t (fun a b => pw (x b) (j a)) _ (fun a ha b _ => ?_) t (Nat.le_refl _)).1] at h
  · exact h
  · show pw (x b) (j a) = mu (pw (x b) s) (pw (pw (x b) d) a)
    rw [e a ha, pw_add, pw_mul]
end Go.Proofs.Ythgbfakmkdifbaa
