/-
  What the keeps of geom ask of columns, as plain numbers.
-/
import Derived.Test.YthgbfakmkdifbaaChecked
import Derived.WalkKit
import Derived.Test.YthgbfakmkdifbaaGeos
import Derived.Test.YthgbfakmkdifbaaGeoCol
import Derived.Test.YthgbfakmkdifbaaGeoSame
namespace Go.Proofs.Ythgbfakmkdifbaa
open Go.RowKit Go.Deep
/-- the data's sectors in the columns ahead of n; all sectors there -/
def datS (d p c : Nat) : Nat → Nat
  | 0 => 0
  | n + 1 => datS d p c n + if n < p then 0 else cntC d p c n
def allC (d p c : Nat) : Nat → Nat
  | 0 => 0
  | n + 1 => allC d p c n + cntC d p c n
def keepB (d p c : Nat) : Bool := !(decide (2 ≤ d) && decide (1 ≤ p) && decide (p < d) && decide (1 ≤ c)) ||
  (decide (datS d p c (colN d p c) = c) && decide (allC d p c (colN d p c) = c / (d - p) * d + lonG d p c) && decide (allC d p c (colN d p c) ≤ costN d p c) && decide (costN d p c ≤ allC d p c (colN d p c) + p) && decide (costN d p c ≤ 400) && decide (1 ≤ allC d p c (colN d p c)))
theorem keep_is (d p c : Nat) (h1 : 2 ≤ d) (h2 : d ≤ 8) (h3 : 1 ≤ p) (h4 : p ≤ 3) (h5 : p < d) (h6 : 1 ≤ c) (h7 : c ≤ 32) : datS d p c (colN d p c) = c ∧ allC d p c (colN d p c) = c / (d - p) * d + lonG d p c ∧ allC d p c (colN d p c) ≤ costN d p c ∧ costN d p c ≤ allC d p c (colN d p c) + p ∧ costN d p c ≤ 400 ∧ 1 ≤ allC d p c (colN d p c) := by
  have h : ∀ d, d < 9 → ∀ p, p < 4 → ∀ c, c < 33 → keepB d p c = true := by decide +kernel
  have g := h d (by omega) p (by omega) c (by omega)
  unfold keepB at g
  simp only [h1, h3, h5, h6, decide_true, Bool.and_self, Bool.not_true, Bool.false_or, Bool.and_eq_true, decide_eq_true_eq, and_assoc] at g
  exact g
def apB (d p c i : Nat) : Bool := !(decide (2 ≤ d) && decide (1 ≤ p) && decide (p < d) && decide (1 ≤ c) && decide (i < colN d p c)) ||
  (decide (1 ≤ cntC d p c i) && decide (cntC d p c i ≤ cntC d p c 0) && decide (cntC d p c 0 ≤ cntC d p c i + 1) && decide (i < p → cntC d p c i = cntC d p c 0) && decide (cntC d p c 0 ≤ 32))
theorem ap_is (d p c i : Nat) (h1 : 2 ≤ d) (h2 : d ≤ 8) (h3 : 1 ≤ p) (h4 : p ≤ 3) (h5 : p < d) (h6 : 1 ≤ c) (h7 : c ≤ 32) (h8 : i < colN d p c) : 1 ≤ cntC d p c i ∧ cntC d p c i ≤ cntC d p c 0 ∧ cntC d p c 0 ≤ cntC d p c i + 1 ∧ (i < p → cntC d p c i = cntC d p c 0) ∧ cntC d p c 0 ≤ 32 := by
  have h : ∀ d, d < 9 → ∀ p, p < 4 → ∀ c, c < 33 → ∀ i, i < 8 → apB d p c i = true := by decide +kernel
  have h9 : i < 8 := by unfold colN nRow at h8; omega
  have g := h d (by omega) p (by omega) c (by omega) i h9
  unfold apB at g
  simp only [h1, h3, h5, h6, h8, decide_true, Bool.and_self, Bool.not_true, Bool.false_or, Bool.and_eq_true, decide_eq_true_eq, and_assoc] at g
  exact g
theorem colN_bd (d p c : Nat) (h5 : p < d) (h6 : 1 ≤ c) : p < colN d p c ∧ colN d p c ≤ d := by
  unfold colN nRow
  omega
theorem colN_is (d p c : Nat) (h5 : p < d) (h6 : 1 ≤ c) : colN d p c = if c / (d - p) = 0 then lonG d p c else d := by
  have hdm := Nat.div_add_mod c (d - p)
  have hml := Nat.mod_lt c (show 0 < d - p by omega)
  unfold colN nRow lonG
  obtain ⟨wd, hwd⟩ : ∃ wd : Nat, wd = d - p := ⟨_, rfl⟩
  rw [← hwd] at hdm hml ⊢
  generalize c / wd = F at *
  generalize c % wd = R at *
  by_cases h0 : F = 0
  · rw [if_pos h0]
    rw [h0, Nat.mul_zero] at hdm
    rw [if_neg (by omega)]
    omega
  · rw [if_neg h0]
    have : wd * 1 ≤ wd * F := Nat.mul_le_mul_left _ (by omega)
    omega
theorem mod_apart (a d i k : Nat) (hi : i < d) (hk : k < i) : (a + k) % d ≠ (a + i) % d := fun h => by
  have h4 : d * ((a + i) / d) + (a + i) % d = a + i := Nat.div_add_mod _ _
  have h5 : d * ((a + k) / d) + (a + k) % d = a + k := Nat.div_add_mod _ _
  have h6 : d * ((a + i) / d) = d * ((a + k) / d) + (i - k) := by omega
  have h7 : d * ((a + i) / d) % d = (d * ((a + k) / d) + (i - k)) % d := by rw [h6]
  rw [Nat.mul_mod_right, Nat.mul_add_mod, Nat.mod_eq_of_lt (by omega)] at h7
  omega
theorem mod_meet (a d i k : Nat) (hi : i < d) : (a + i) % d = (a + k) % d ↔ i = k % d := by
  have e : (a + k) % d = (a + k % d) % d := by rw [Nat.add_mod, Nat.add_mod a (k % d), Nat.mod_mod]
  have hl : k % d < d := Nat.mod_lt _ (by omega)
  rw [e]
  constructor
  · intro h
    rcases Nat.lt_trichotomy i (k % d) with l | l | l
    · exact absurd h (mod_apart a d (k % d) i hl l)
    · exact l
    · exact absurd h.symm (mod_apart a d i (k % d) hi l)
  · intro h
    rw [h]
theorem div_meet (a d k : Nat) (hd : 0 < d) : (a + k) / d = (a + k % d) / d + k / d := by
  have h := Nat.div_add_mod k d
  have e : a + k = a + k % d + d * (k / d) := by omega
  rw [e, Nat.add_mul_div_left _ _ hd]
/-- address k of the block lies in column k % d, and there at k / d -/
theorem lies (d p c k : Nat) (h1 : 2 ≤ d) (h2 : d ≤ 8) (h3 : 1 ≤ p) (h4 : p ≤ 3) (h5 : p < d) (h6 : 1 ≤ c) (h7 : c ≤ 32) (hk : k < allC d p c (colN d p c)) : k % d < colN d p c ∧ k / d < cntC d p c (k % d) := by
  have hdm := Nat.div_add_mod k d
  have hml := Nat.mod_lt k (show 0 < d by omega)
  have hG : lonG d p c < d ∨ lonG d p c = 0 := by
    have := Nat.mod_lt c (show 0 < d - p by omega)
    unfold lonG
    split <;> omega
  have hN := (keep_is d p c h1 h2 h3 h4 h5 h6 h7).2.1
  rw [hN] at hk
  have hc := colN_is d p c h5 h6
  have hx : k % d < colN d p c := by
    rw [hc]
    by_cases h0 : c / (d - p) = 0
    · rw [if_pos h0]
      rw [h0, Nat.zero_mul, Nat.zero_add] at hk
      rw [Nat.mod_eq_of_lt (by omega)]
      exact hk
    · rw [if_neg h0]
      exact hml
  refine ⟨hx, ?_⟩
  rw [cnt_is d p c (k % d) h1 h2 h3 h4 h5 h6 h7 hx]
  generalize c / (d - p) = F at *
  have hle : k / d ≤ F := by
    have : k < (F + 1) * d := by
      rw [Nat.add_mul]
      omega
    have := (Nat.div_lt_iff_lt_mul (show 0 < d by omega)).2 this
    omega
  by_cases e : k / d = F
  · have : F * d = d * (k / d) := by rw [e, Nat.mul_comm]
    rw [if_pos (by omega)]
    omega
  · omega
theorem cols_nat (d p a c : Nat) (h1 : 2 ≤ d) (h2 : d ≤ 8) (h3 : 1 ≤ p) (h4 : p ≤ 3) (h5 : p < d) (h6 : 1 ≤ c) (h7 : c ≤ 32) (h8 : a ≤ 65536) (w : World) :
    Calls Try.prog 37 #[.int .i64 d, .int .i64 p, .int .i64 a, .int .i64 c] w fun e w' => (∃ b k, e = .returned (.tuple #[.slice b (colN d p c) k, .int .i64 0]) ∧ Els w' b 4 (colsL d p a c)) ∧ Ext w w' := by
  refine (Columns_any d p a c w).mono ?_
  rintro e w' ⟨⟨b, n, k, rfl, hl, hn, hE, _⟩, hx⟩
  have h : okG d p a c = true := by
    have a1 := (okD_iff (d : Int)).2 ⟨by omega, by omega⟩
    have a2 := (okPar_iff (d : Int) p).2 ⟨by omega, by omega, by omega⟩
    have a3 := (okCnt_iff (c : Int)).2 ⟨by omega, by omega⟩
    have a4 := (okAd_iff (a : Int)).2 ⟨by omega, by omega⟩
    unfold okG
    rw [a1, a2, a3, a4]; rfl
  unfold gcL at hl hE
  unfold gcE
  rw [h] at hl hE ⊢
  simp only [if_true, Int.toNat_natCast] at hl hE ⊢
  have hn : n = colN d p c := by
    rw [← hl]
    unfold colsL
    rw [List.length_map, List.length_range]
  rw [hn]
  exact ⟨⟨b, k, rfl, hE⟩, hx⟩
theorem colsL_get (d p a c : Nat) {i : Nat} (h : i < colN d p c) : (colsL d p a c)[i]? = some [.int .i64 ((a + i) % d : Nat), .int .i64 ((a + i) / d : Nat), .int .i64 (cntC d p c i : Nat), .bool (decide (i < p))] := range_get _ h
end Go.Proofs.Ythgbfakmkdifbaa
