/-
  Plain arithmetic of the field with 256 elements (no program in sight): the product by shifts, its ring laws, powers, inverses and logarithms over Nat.
-/
namespace Go.Proofs.Ytbngmmlmhmmpbaa.Gf

/-- times x, and what is left of a division by x^8 + x^4 + x^3 + x^2 + 1 -/
def xt (a : Nat) : Nat := if a.testBit 7 then (2 * a) ^^^ 285 else 2 * a
def xtp : Nat → Nat → Nat
  | 0, a => a
  | k + 1, a => xt (xtp k a)
/-- the sum, over the bits of b below k, of a times x^bit -/
def S : Nat → Nat → Nat → Nat
  | 0, _, _ => 0
  | k + 1, a, b => if b.testBit k then S k a b ^^^ xtp k a else S k a b
def gmul (a b : Nat) : Nat := S 8 a b

theorem testBit_two_mul (a b : Nat) : 2 * (a ^^^ b) = (2 * a) ^^^ (2 * b) := by
  have h : ∀ n : Nat, 2 * n = n <<< 1 := fun n => by rw [Nat.shiftLeft_eq]; omega
  rw [h, h, h, Nat.shiftLeft_xor_distrib]
theorem xor4 (a b c : Nat) : a ^^^ c ^^^ (b ^^^ c) = a ^^^ b := by
  rw [Nat.xor_comm b c, Nat.xor_assoc a c, ← Nat.xor_assoc c c b, Nat.xor_self, Nat.zero_xor]
theorem xorR (a b c : Nat) : a ^^^ c ^^^ b = a ^^^ b ^^^ c := by
  rw [Nat.xor_assoc, Nat.xor_comm c b, ← Nat.xor_assoc]
theorem xorL (a b c : Nat) : a ^^^ (b ^^^ c) = a ^^^ b ^^^ c := (Nat.xor_assoc _ _ _).symm
theorem xorM (a b c d : Nat) : a ^^^ b ^^^ (c ^^^ d) = a ^^^ c ^^^ (b ^^^ d) := by
  rw [Nat.xor_assoc a b, ← Nat.xor_assoc b c d, Nat.xor_comm b c, Nat.xor_assoc c b d, ← Nat.xor_assoc a c]

theorem xt_xor (a b : Nat) : xt (a ^^^ b) = xt a ^^^ xt b := by
  unfold xt
  rw [Nat.testBit_xor, testBit_two_mul]
  cases ha : a.testBit 7 <;> cases hb : b.testBit 7 <;> simp
  · rw [Nat.xor_assoc]
  · rw [xorR]
  · rw [xor4]
theorem xt_zero : xt 0 = 0 := by decide
theorem xtp_xor (k a b : Nat) : xtp k (a ^^^ b) = xtp k a ^^^ xtp k b := by
  induction k with
  | zero => rfl
  | succ k ih => simp only [xtp, ih, xt_xor]
theorem xtp_zero (k : Nat) : xtp k 0 = 0 := by
  induction k with
  | zero => rfl
  | succ k ih => simp only [xtp, ih, xt_zero]
theorem xtp_xt (k a : Nat) : xtp k (xt a) = xt (xtp k a) := by
  induction k with
  | zero => rfl
  | succ k ih => simp only [xtp, ih]
theorem xt_lt (a : Nat) (h : a < 256) : xt a < 256 := by
  have : ∀ a, a < 256 → xt a < 256 := by decide +kernel
  exact this a h
theorem xtp_lt (k a : Nat) (h : a < 256) : xtp k a < 256 := by
  induction k with
  | zero => exact h
  | succ k ih => exact xt_lt _ ih
theorem xor_lt (a b : Nat) (ha : a < 256) (hb : b < 256) : a ^^^ b < 256 := Nat.xor_lt_two_pow (n := 8) ha hb
theorem S_lt (k a b : Nat) (h : a < 256) : S k a b < 256 := by
  induction k with
  | zero => simp [S]
  | succ k ih => simp only [S]; split; exact xor_lt _ _ ih (xtp_lt _ _ h); exact ih
theorem gmul_lt (a b : Nat) (h : a < 256) : gmul a b < 256 := S_lt _ _ _ h
theorem S_xorL (k a b c : Nat) : S k (a ^^^ b) c = S k a c ^^^ S k b c := by
  induction k with
  | zero => simp [S]
  | succ k ih => simp only [S, ih, xtp_xor]; split; exact xorM _ _ _ _; rfl
theorem S_xorR (k a b c : Nat) : S k a (b ^^^ c) = S k a b ^^^ S k a c := by
  induction k with
  | zero => simp [S]
  | succ k ih =>
    simp only [S, ih, Nat.testBit_xor]
    cases hb : b.testBit k <;> cases hc : c.testBit k <;> simp
    · rw [Nat.xor_assoc]
    · rw [xorR]
    · rw [xor4]
theorem gmul_xorL (a b c : Nat) : gmul (a ^^^ b) c = gmul a c ^^^ gmul b c := S_xorL _ _ _ _
theorem gmul_xorR (a b c : Nat) : gmul a (b ^^^ c) = gmul a b ^^^ gmul a c := S_xorR _ _ _ _
theorem S_zeroR (k a : Nat) : S k a 0 = 0 := by
  induction k with
  | zero => rfl
  | succ k ih => simp [S, ih]
theorem S_zeroL (k b : Nat) : S k 0 b = 0 := by
  induction k with
  | zero => rfl
  | succ k ih => simp [S, ih, xtp_zero]
theorem gmul_zeroR (a : Nat) : gmul a 0 = 0 := S_zeroR _ _
theorem gmul_zeroL (a : Nat) : gmul 0 a = 0 := S_zeroL _ _
theorem gmul_one (a : Nat) : gmul a 1 = a := by
  have h : ∀ k, S (k + 1) a 1 = a := by
    intro k
    induction k with
    | zero => simp [S, xtp]
    | succ k ih =>
      have h1 : (1 : Nat).testBit (k + 1) = false := by simp [Nat.testBit_succ]
      have h2 : S (k + 1 + 1) a 1 = if (1 : Nat).testBit (k + 1) then S (k + 1) a 1 ^^^ xtp (k + 1) a else S (k + 1) a 1 := rfl
      rw [h2, h1, ih]; simp
  exact h 7

/-- b as the sum of its bits below k -/
def T : Nat → Nat → Nat
  | 0, _ => 0
  | k + 1, b => if b.testBit k then T k b ^^^ 2 ^ k else T k b
theorem T_eight (b : Nat) (h : b < 256) : T 8 b = b := by
  have : ∀ b, b < 256 → T 8 b = b := by decide +kernel
  exact this b h
theorem gmul_pow (j b : Nat) (hj : j < 8) (hb : b < 256) : gmul (2 ^ j) b = xtp j b := by
  have : ∀ j, j < 8 → ∀ b, b < 256 → gmul (2 ^ j) b = xtp j b := by decide +kernel
  exact this j hj b hb
theorem gmul_T (k a b : Nat) (hk : k ≤ 8) (hb : b < 256) : gmul (T k a) b = S k b a := by
  induction k with
  | zero => exact gmul_zeroL b
  | succ k ih =>
    have ih' := ih (by omega)
    simp only [T, S]
    split
    · rw [gmul_xorL, ih', gmul_pow k b (by omega) hb]
    · exact ih'
theorem gmul_comm (a b : Nat) (ha : a < 256) (hb : b < 256) : gmul a b = gmul b a := by
  have h := gmul_T 8 a b (by omega) hb
  rw [T_eight a ha] at h
  exact h
theorem one_gmul (a : Nat) (h : a < 256) : gmul 1 a = a := by rw [gmul_comm 1 a (by omega) h, gmul_one]
theorem xt_S (k a b : Nat) : xt (S k a b) = S k (xt a) b := by
  induction k with
  | zero => exact xt_zero
  | succ k ih => simp only [S]; split; rw [xt_xor, ih, xtp_xt]; exact ih
theorem xtp_gmul (k a b : Nat) : xtp k (gmul a b) = gmul (xtp k a) b := by
  induction k with
  | zero => rfl
  | succ k ih => simp only [xtp, ih]; exact xt_S 8 _ b
theorem xtp_gmulR (k a b : Nat) (ha : a < 256) (hb : b < 256) : xtp k (gmul a b) = gmul a (xtp k b) := by
  rw [gmul_comm a b ha hb, xtp_gmul, gmul_comm _ a (xtp_lt _ _ hb) ha]
theorem S_gmul (k a b c : Nat) (ha : a < 256) (hb : b < 256) : S k (gmul a b) c = gmul a (S k b c) := by
  induction k with
  | zero => exact (gmul_zeroR a).symm
  | succ k ih => simp only [S]; split; rw [ih, gmul_xorR, xtp_gmulR k a b ha hb]; exact ih
theorem gmul_assoc (a b c : Nat) (ha : a < 256) (hb : b < 256) : gmul (gmul a b) c = gmul a (gmul b c) := S_gmul 8 a b c ha hb

/-! powers -/
def gpow (a : Nat) : Nat → Nat
  | 0 => 1
  | n + 1 => gmul (gpow a n) a
theorem gpow_lt (a n : Nat) : gpow a n < 256 := by
  induction n with
  | zero => simp [gpow]
  | succ n ih => exact gmul_lt _ _ ih
theorem gpow_add (a m n : Nat) : gpow a (m + n) = gmul (gpow a m) (gpow a n) := by
  induction n with
  | zero => simp [gpow, gmul_one]
  | succ n ih =>
    show gmul (gpow a (m + n)) a = gmul (gpow a m) (gmul (gpow a n) a)
    rw [ih, gmul_assoc _ _ _ (gpow_lt _ _) (gpow_lt _ _)]
theorem gpow_mul (a m n : Nat) : gpow (gpow a m) n = gpow a (m * n) := by
  induction n with
  | zero => rfl
  | succ n ih =>
    show gmul (gpow (gpow a m) n) (gpow a m) = _
    rw [ih, Nat.mul_succ, gpow_add _ _ _]
theorem gpow_sq (a m : Nat) (ha : a < 256) : gpow (gmul a a) m = gpow a (2 * m) := by
  have h : gmul a a = gpow a 2 := by
    show _ = gmul (gmul 1 a) a
    rw [one_gmul a ha]
  rw [h, gpow_mul _ _ _]
theorem gpow_one (n : Nat) : gpow 1 n = 1 := by
  induction n with
  | zero => rfl
  | succ n ih => show gmul (gpow 1 n) 1 = 1; rw [ih]; exact gmul_one 1
theorem gpow_zero (n : Nat) (h : 0 < n) : gpow 0 n = 0 := by
  cases n with
  | zero => omega
  | succ n => exact gmul_zeroR _
/-- one step of the power by squares -/
theorem gpow_odd (p a n : Nat) (hp : p < 256) (ha : a < 256) (hn : n % 2 = 1) : gmul (gmul p a) (gpow (gmul a a) (n / 2)) = gmul p (gpow a n) := by
  have h : n = 1 + 2 * (n / 2) := by omega
  rw [gpow_sq _ _ ha, gmul_assoc _ _ _ hp ha]
  have h2 : gpow a n = gmul a (gpow a (2 * (n / 2))) := by
    rw [show gpow a n = gpow a (1 + 2 * (n / 2)) from by rw [← h], gpow_add _ _ _]
    show gmul (gmul 1 a) _ = _
    rw [one_gmul a ha]
  rw [h2]
theorem gpow_even (p a n : Nat) (ha : a < 256) (hn : n % 2 = 0) : gmul p (gpow (gmul a a) (n / 2)) = gmul p (gpow a n) := by
  rw [gpow_sq _ _ ha, show 2 * (n / 2) = n from by omega]

/-- power by squares, with a bound on the steps: for the kernel to reckon by -/
def fpow : Nat → Nat → Nat → Nat → Nat
  | 0, _, _, p => p
  | k + 1, a, n, p => if n = 0 then p else fpow k (gmul a a) (n / 2) (if n % 2 = 1 then gmul p a else p)
theorem fpow_eq (k a n p : Nat) (ha : a < 256) (hp : p < 256) (hn : n < 2 ^ k) : fpow k a n p = gmul p (gpow a n) := by
  induction k generalizing a n p with
  | zero =>
    have : n = 0 := by simpa using hn
    subst this
    show p = gmul p 1
    rw [gmul_one]
  | succ k ih =>
    simp only [fpow]
    by_cases h0 : n = 0
    · rw [if_pos h0, h0]; show p = gmul p 1; rw [gmul_one]
    · rw [if_neg h0]
      have hk : n / 2 < 2 ^ k := by rw [Nat.pow_succ] at hn; omega
      by_cases h1 : n % 2 = 1
      · rw [if_pos h1, ih _ _ _ (gmul_lt _ _ ha) (gmul_lt _ _ hp) hk, gpow_odd p a n hp ha h1]
      · rw [if_neg h1, ih _ _ _ (gmul_lt _ _ ha) hp hk, gpow_even p a n ha (by omega)]
theorem gpow_fpow (a n : Nat) (ha : a < 256) (hn : n < 256) : gpow a n = fpow 8 a n 1 := by
  rw [fpow_eq 8 a n 1 ha (by omega) hn, one_gmul _ (gpow_lt _ _)]
theorem gpow_two_255 : gpow 2 255 = 1 := by
  rw [gpow_fpow 2 255 (by omega) (by omega)]; decide +kernel
theorem gpow_two_mod (n : Nat) : gpow 2 n = gpow 2 (n % 255) := by
  have h : n = 255 * (n / 255) + n % 255 := by omega
  rw [show gpow 2 n = gpow 2 (255 * (n / 255) + n % 255) from by rw [← h], gpow_add _ _ _, ← gpow_mul _ _ _, gpow_two_255, gpow_one, one_gmul _ (gpow_lt _ _)]

/-- the logarithm: found by search -/
def lgFrom : Nat → Nat → Nat → Nat → Nat
  | 0, _, n, _ => n
  | k + 1, a, n, p => if p = a then n else lgFrom k a (n + 1) (xt p)
def lg (a : Nat) : Nat := lgFrom 255 a 0 1
theorem gmul_two (a : Nat) (ha : a < 256) : gmul a 2 = xt a := by
  rw [gmul_comm a 2 ha (by omega)]; exact gmul_pow 1 a (by omega) ha
theorem lgFrom_eq (k a n : Nat) : ∃ m, lgFrom k a n (gpow 2 n) = n + m ∧ m ≤ k ∧ (∀ j, j < m → gpow 2 (n + j) ≠ a) ∧ (m < k → gpow 2 (n + m) = a) := by
  induction k generalizing n with
  | zero => exact ⟨0, rfl, Nat.le_refl _, fun j h => by omega, fun h => by omega⟩
  | succ k ih =>
    simp only [lgFrom]
    by_cases h : gpow 2 n = a
    · rw [if_pos h]; exact ⟨0, rfl, by omega, fun j h => by omega, fun _ => h⟩
    · rw [if_neg h]
      have e : xt (gpow 2 n) = gpow 2 (n + 1) := (gmul_two _ (gpow_lt _ _)).symm
      rw [e]
      obtain ⟨m, h1, h2, h3, h4⟩ := ih (n + 1)
      refine ⟨m + 1, by rw [h1]; omega, by omega, ?_, ?_⟩
      · intro j hj
        cases j with
        | zero => exact h
        | succ j => have := h3 j (by omega); rwa [show n + 1 + j = n + (j + 1) from by omega] at this
      · intro hm; have := h4 (by omega); rwa [show n + 1 + m = n + (m + 1) from by omega] at this
theorem lg_lt (a : Nat) (h0 : 0 < a) (h : a < 256) : lg a < 255 := by
  have : ∀ a, a < 256 → 0 < a → lg a < 255 := by decide +kernel
  exact this a h h0
theorem lg_le (a : Nat) : lg a ≤ 255 := by
  obtain ⟨m, h1, h2, _, _⟩ := lgFrom_eq 255 a 0
  have e : lg a = 0 + m := h1
  omega
theorem lg_least (a j : Nat) (h : j < lg a) : gpow 2 j ≠ a := by
  obtain ⟨m, h1, _, h3, _⟩ := lgFrom_eq 255 a 0
  have e : lg a = 0 + m := h1
  have := h3 j (by omega)
  rwa [Nat.zero_add] at this
theorem gpow_lg (a : Nat) (h0 : 0 < a) (h : a < 256) : gpow 2 (lg a) = a := by
  obtain ⟨m, h1, _, _, h4⟩ := lgFrom_eq 255 a 0
  have e : lg a = 0 + m := h1
  have l := lg_lt a h0 h
  rw [e]
  exact h4 (by omega)
theorem gpow_two_pos (n : Nat) : 0 < gpow 2 n := by
  rw [gpow_two_mod, gpow_fpow 2 _ (by omega) (by omega)]
  have : ∀ n, n < 255 → 0 < fpow 8 2 n 1 := by decide +kernel
  exact this _ (by omega)
theorem lg_gpow (n : Nat) (h : n < 255) : lg (gpow 2 n) = n := by
  have : ∀ n, n < 255 → lg (fpow 8 2 n 1) = n := by decide +kernel
  rw [gpow_fpow 2 n (by omega) (by omega)]
  exact this n h
/-- a power by the logarithm -/
theorem gpow_by_lg (a n : Nat) (h0 : 0 < a) (h : a < 256) : gpow a n = gpow 2 (lg a * (n % 255) % 255) := by
  rw [← gpow_two_mod]
  have e : gpow a n = gpow 2 (lg a * n) := by rw [← gpow_mul _ _ _, gpow_lg a h0 h]
  rw [e, gpow_two_mod, gpow_two_mod (lg a * (n % 255))]
  congr 1
  rw [Nat.mul_mod, Nat.mul_mod (lg a) (n % 255), Nat.mod_mod]

/-! inverses -/
def inv (a : Nat) : Nat := gpow a 254
theorem inv_lt (a : Nat) : inv a < 256 := gpow_lt _ _
theorem gmul_inv (a : Nat) (h0 : 0 < a) (ha : a < 256) : gmul a (inv a) = 1 := by
  have : ∀ a, a < 256 → 0 < a → gmul a (fpow 8 a 254 1) = 1 := by decide +kernel
  unfold inv
  rw [gpow_fpow a 254 ha (by omega)]
  exact this a ha h0
theorem inv_gmul (a : Nat) (h0 : 0 < a) (ha : a < 256) : gmul (inv a) a = 1 := by
  rw [gmul_comm _ _ (inv_lt _) ha, gmul_inv a h0 ha]
theorem div_gmul (a b : Nat) (ha : a < 256) (h0 : 0 < b) (hb : b < 256) : gmul (gmul a (inv b)) b = a := by
  rw [gmul_assoc _ _ _ ha (inv_lt _), inv_gmul b h0 hb, gmul_one]
theorem div_only (x a b : Nat) (hx : x < 256) (h0 : 0 < b) (hb : b < 256) (h : gmul x b = a) : x = gmul a (inv b) := by
  rw [← h, gmul_assoc _ _ _ hx hb, gmul_inv b h0 hb, gmul_one]
theorem gmul_eq_zero (x y : Nat) (hx : x < 256) (h0 : 0 < y) (hy : y < 256) : gmul x y = 0 ↔ x = 0 := by
  constructor
  · intro h
    have := div_only x 0 y hx h0 hy h
    rwa [gmul_zeroL] at this
  · intro h; rw [h, gmul_zeroL]

/-! the program's product, round by round -/
def pl : Nat → Nat → Nat → Nat → Nat
  | 0, _, _, p => p
  | n + 1, a, b, p => pl n (xt a) (b / 2) (if b % 2 = 1 then p ^^^ a else p)
theorem testBit_div (b j : Nat) : b.testBit j = decide (b / 2 ^ j % 2 = 1) := by
  rw [Nat.testBit_eq_decide_div_mod_eq]
theorem pl_S (n j a b : Nat) : pl n (xtp j a) (b / 2 ^ j) (S j a b) = S (j + n) a b := by
  induction n generalizing j with
  | zero => rfl
  | succ n ih =>
    have h := ih (j + 1)
    simp only [pl]
    rw [show j + (n + 1) = j + 1 + n from by omega, ← h]
    have e1 : b / 2 ^ j / 2 = b / 2 ^ (j + 1) := by rw [Nat.div_div_eq_div_mul, ← Nat.pow_succ]
    have e2 : (if b / 2 ^ j % 2 = 1 then S j a b ^^^ xtp j a else S j a b) = S (j + 1) a b := by
      simp only [S, testBit_div, decide_eq_true_eq]
    rw [e1, e2]; rfl
theorem pl_gmul (a b : Nat) : pl 8 a b 0 = gmul a b := by
  have h := pl_S 8 0 a b
  rw [Nat.pow_zero, Nat.div_one] at h
  exact h
theorem pl_done (n a p : Nat) : pl n a 0 p = p := by
  induction n generalizing a with
  | zero => rfl
  | succ n ih => simp [pl, ih]
theorem pl_more (n a b p : Nat) (h : b < 2 ^ n) : pl (n + 1) a b p = pl n a b p := by
  induction n generalizing a b p with
  | zero =>
    have : b = 0 := by simpa using h
    subst this
    rw [pl_done, pl_done]
  | succ n ih =>
    have h2 : b / 2 < 2 ^ n := by rw [Nat.pow_succ] at h; omega
    have e : pl (n + 1 + 1) a b p = pl (n + 1) (xt a) (b / 2) (if b % 2 = 1 then p ^^^ a else p) := rfl
    rw [e, ih _ _ _ h2]; rfl
theorem pl_round (a b p : Nat) (h : b < 256) : pl 8 (xt a) (b / 2) (if b % 2 = 1 then p ^^^ a else p) = pl 8 a b p := by
  rw [pl_more 7 _ _ _ (by omega)]; rfl
theorem xt_code (a : Nat) (h : a < 256) : xt a = if 256 ≤ 2 * a then (2 * a) ^^^ 285 else 2 * a := by
  have : ∀ a, a < 256 → xt a = if 256 ≤ 2 * a then (2 * a) ^^^ 285 else 2 * a := by decide +kernel
  exact this a h

/-! the document's product: first all of it, then the division -/
def cmTo : Nat → Nat → Nat → Nat
  | 0, _, _ => 0
  | k + 1, a, b => if b / 2 ^ k % 2 = 1 then cmTo k a b ^^^ (a * 2 ^ k) else cmTo k a b
def rdStep (k p : Nat) : Nat := if p.testBit k then p ^^^ (285 * 2 ^ (k - 8)) else p
/-- j rounds of the division, from the fourteenth bit on down -/
def rdTo : Nat → Nat → Nat
  | 0, p => p
  | j + 1, p => rdStep (14 - j) (rdTo j p)
theorem rdStep_xor (k x y : Nat) : rdStep k (x ^^^ y) = rdStep k x ^^^ rdStep k y := by
  unfold rdStep
  rw [Nat.testBit_xor]
  cases hx : x.testBit k <;> cases hy : y.testBit k <;> simp
  · rw [Nat.xor_assoc]
  · rw [xorR]
  · rw [xor4]
theorem rdTo_xor (j x y : Nat) : rdTo j (x ^^^ y) = rdTo j x ^^^ rdTo j y := by
  induction j with
  | zero => rfl
  | succ j ih => simp only [rdTo, ih, rdStep_xor]
theorem rdTo_shift (a k : Nat) (ha : a < 256) (hk : k < 8) : rdTo 7 (a * 2 ^ k) = xtp k a := by
  have : ∀ k, k < 8 → ∀ a, a < 256 → rdTo 7 (a * 2 ^ k) = xtp k a := by decide +kernel
  exact this k hk a ha
theorem rdTo_zero : rdTo 7 0 = 0 := by decide +kernel
theorem rd_cm (k a b : Nat) (ha : a < 256) (hk : k ≤ 8) : rdTo 7 (cmTo k a b) = S k a b := by
  induction k with
  | zero => exact rdTo_zero
  | succ k ih =>
    simp only [cmTo, S, testBit_div, decide_eq_true_eq]
    split
    · rw [rdTo_xor, ih (by omega), rdTo_shift a k ha (by omega)]
    · exact ih (by omega)
theorem mulOf_eq (a b : Nat) (ha : a < 256) : rdTo 7 (cmTo 8 a b) = gmul a b := rd_cm 8 a b ha (by omega)
theorem cmTo_lt (k a b : Nat) (ha : a < 256) (hk : k ≤ 8) : cmTo k a b < 32768 := by
  induction k with
  | zero => simp [cmTo]
  | succ k ih =>
    have ih' := ih (by omega)
    simp only [cmTo]
    split
    · have h1 : a * 2 ^ k < 32768 := by
        have h2 : 2 ^ k ≤ 2 ^ 7 := Nat.pow_le_pow_right (by omega) (by omega)
        have h3 : a * 2 ^ k ≤ 255 * 2 ^ 7 := Nat.mul_le_mul (by omega) h2
        omega
      exact Nat.xor_lt_two_pow (n := 15) ih' h1
    · exact ih'
theorem rdTo_lt (j p : Nat) (h : p < 32768) : rdTo j p < 32768 := by
  induction j with
  | zero => exact h
  | succ j ih =>
    simp only [rdTo, rdStep]
    split
    · have h2 : 285 * 2 ^ (14 - j - 8) < 32768 := by
        have h3 : 2 ^ (14 - j - 8) ≤ 2 ^ 6 := Nat.pow_le_pow_right (by omega) (by omega)
        have h4 : 285 * 2 ^ (14 - j - 8) ≤ 285 * 2 ^ 6 := Nat.mul_le_mul (by omega) h3
        omega
      exact Nat.xor_lt_two_pow (n := 15) ih h2
    · exact ih
end Go.Proofs.Ytbngmmlmhmmpbaa.Gf
