/-
  Labels and their sectors: numbers told by their bytes, the lowest first; what a sector tells. No program in sight.
-/
import Derived.Test.YtemndnpbbkjmhabFletSum
namespace Go.Proofs.Ytemndnpbbkjmhab
open Go.RowKit Go.Deep E
def dv (n : Int) : Nat → Int
  | 0 => n
  | j + 1 => dv n j / 256
/-- byte j of a number -/
def byt (n : Int) (j : Nat) : E := of (dv n j % 256)
theorem ev_byt (n : Int) (j : Nat) : ev (byt n j) = dv n j % 256 := ev_of _ (by omega) (by omega)
def p256 : Nat → Int
  | 0 => 1
  | k + 1 => p256 k * 256
theorem p256_pos : ∀ k, 0 < p256 k
  | 0 => by decide
  | k + 1 => by
    have := p256_pos k
    show 0 < p256 k * 256
    omega
/-- the number that k bytes tell -/
def rdN (B : Nat → E) : Nat → Int
  | 0 => 0
  | k + 1 => rdN B k + ev (B k) * p256 k
theorem rdN_bd (B : Nat → E) : ∀ k, 0 ≤ rdN B k ∧ rdN B k < p256 k
  | 0 => by show (0 : Int) ≤ 0 ∧ (0 : Int) < 1; omega
  | k + 1 => by
    have h := rdN_bd B k
    have e := ev_bd (B k)
    have h1 : 0 ≤ ev (B k) * p256 k := Int.mul_nonneg e.1 (by omega)
    have h2 : ev (B k) * p256 k ≤ 255 * p256 k := Int.mul_le_mul_of_nonneg_right (by omega) (by omega)
    show 0 ≤ rdN B k + ev (B k) * p256 k ∧ rdN B k + ev (B k) * p256 k < p256 k * 256
    omega
theorem rdN_congr {B B' : Nat → E} : ∀ k, (∀ i, i < k → B i = B' i) → rdN B k = rdN B' k
  | 0, _ => rfl
  | k + 1, h => by
    show rdN B k + ev (B k) * p256 k = rdN B' k + ev (B' k) * p256 k
    rw [rdN_congr k fun i hi => h i (by omega), h k (by omega)]
theorem rdN_byt (n : Int) : ∀ k, rdN (byt n) k + dv n k * p256 k = n
  | 0 => by show 0 + n * 1 = n; omega
  | k + 1 => by
    have h := rdN_byt n k
    show rdN (byt n) k + ev (byt n k) * p256 k + dv n k / 256 * (p256 k * 256) = n
    rw [ev_byt]
    have e : dv n k = dv n k / 256 * 256 + dv n k % 256 := by omega
    have h2 : dv n k * p256 k = (dv n k / 256 * 256 + dv n k % 256) * p256 k := by rw [← e]
    rw [Int.add_mul] at h2
    have h3 : dv n k / 256 * (p256 k * 256) = dv n k / 256 * 256 * p256 k := by rw [Int.mul_assoc, Int.mul_comm 256 (p256 k)]
    omega
theorem rdN_inj {B B' : Nat → E} : ∀ k, rdN B k = rdN B' k → ∀ i, i < k → B i = B' i
  | 0, _, i, hi => by omega
  | k + 1, h, i, hi => by
    have b := rdN_bd B k
    have b' := rdN_bd B' k
    have hp := p256_pos k
    have h' : rdN B k + ev (B k) * p256 k = rdN B' k + ev (B' k) * p256 k := h
    have d1 : (rdN B k + ev (B k) * p256 k) / p256 k = ev (B k) := by
      rw [Int.add_mul_ediv_right _ _ (by omega), Int.ediv_eq_zero_of_lt b.1 b.2]; omega
    have d2 : (rdN B' k + ev (B' k) * p256 k) / p256 k = ev (B' k) := by
      rw [Int.add_mul_ediv_right _ _ (by omega), Int.ediv_eq_zero_of_lt b'.1 b'.2]; omega
    have he : ev (B k) = ev (B' k) := by rw [← d1, h', d2]
    rw [he] at h'
    by_cases e : i = k
    · rw [e]; exact ev_inj he
    · exact rdN_inj k (by omega) i (by omega)
theorem p256_4 : p256 4 = 4294967296 := by decide
theorem p256_8 : p256 8 = 18446744073709551616 := by decide
theorem rd4_byt {n : Int} (h : 0 ≤ n ∧ n < 4294967296) : rdN (byt n) 4 = n := by
  have h1 := rdN_byt n 4
  have h2 := rdN_bd (byt n) 4
  rw [p256_4] at h1 h2
  omega
theorem rd4_bd (B : Nat → E) : 0 ≤ rdN B 4 ∧ rdN B 4 < 4294967296 := by
  have h2 := rdN_bd B 4
  rw [p256_4] at h2
  exact h2
theorem rd8_byt (n : Int) : wrap64 (rdN (byt n) 8) = wrap64 n := by
  have h1 := rdN_byt n 8
  rw [p256_8] at h1
  unfold wrap64
  omega
/-- eight bytes that tell a number are its bytes -/
theorem byt_rd8 {B : Nat → E} {n : Int} (h : wrap64 (rdN B 8) = wrap64 n) (j : Nat) (hj : j < 8) : B j = byt n j := by
  have h1 := rd8_byt n
  have h2 := rdN_bd B 8
  have h3 := rdN_bd (byt n) 8
  rw [p256_8] at h2 h3
  rw [← h] at h1
  exact rdN_inj 8 (by unfold wrap64 at h1; omega) j hj
/-- the bytes of a label ahead of its seal -/
def hd (x : Nat → Int) (i : Nat) : E := if i < 36 then byt (x (i / 4)) (i % 4) else if i < 68 then byt (x (9 + (i - 36) / 8)) ((i - 36) % 8) else ze
/-- the seal of bytes -/
def sealV (B : Nat → E) (k : Nat) : Int := mw (fun _ => 0) (wrdOf B) 24 k
def sec (x : Nat → Int) (i : Nat) : E := if i < 96 then hd x i else byt (sealV (hd x) ((i - 96) / 8)) ((i - 96) % 8)
/-- number k of a sector -/
def prs (B : Nat → E) (k : Nat) : Int := if k < 9 then rdN (fun i => B (4 * k + i)) 4 else wrap64 (rdN (fun i => B (36 + 8 * (k - 9) + i)) 8)
/-- number k of its seal -/
def rds (B : Nat → E) (k : Nat) : Int := wrap64 (rdN (fun i => B (96 + 8 * k + i)) 8)
def mayL (x : Nat → Int) : Bool :=
  decide ((1 ≤ x 0 ∧ x 0 ≤ 1048576) ∧ (2 ≤ x 2 ∧ x 2 ≤ 8) ∧ (0 ≤ x 1 ∧ x 1 < x 2) ∧ (1 ≤ x 3 ∧ x 3 ≤ 3 ∧ x 3 < x 2) ∧ (0 ≤ x 4 ∧ x 4 ≤ 1048576) ∧ (0 ≤ x 5 ∧ x 5 ≤ 65536) ∧ (0 ≤ x 6 ∧ x 6 ≤ 32) ∧ (0 ≤ x 7 ∧ x 7 ≤ 128 * x 6) ∧ (0 ≤ x 8 ∧ x 8 ≤ x 4))
def sealB (B : Nat → E) : Bool := (List.range 4).all fun i => rds B i == sealV B i
def ownB (B : Nat → E) : Bool := (List.range 96).all fun i => ev (hd (prs B) i) == ev (B i)
/-- what it comes to to read n bytes as a label -/
def decE (n : Nat) (B : Nat → E) : Int := if n = 128 then (if sealB B = true then (if mayL (prs B) = true ∧ ownB B = true then 0 else 4) else 11) else 1
def decV (n : Nat) (B : Nat → E) (k : Nat) : Int := if decE n B = 0 then prs B k else 0
def encE (x : Nat → Int) : Int := if mayL x = true then 0 else 4
theorem sealB_iff (B : Nat → E) : sealB B = true ↔ ∀ i, i < 4 → rds B i = sealV B i := by
  unfold sealB
  rw [List.all_eq_true]
  exact ⟨fun h i hi => eq_of_beq (h i (List.mem_range.2 hi)), fun h i hi => beq_iff_eq.2 (h i (List.mem_range.1 hi))⟩
theorem ownB_iff (B : Nat → E) : ownB B = true ↔ ∀ i, i < 96 → hd (prs B) i = B i := by
  unfold ownB
  rw [List.all_eq_true]
  exact ⟨fun h i hi => ev_inj (eq_of_beq (h i (List.mem_range.2 hi))), fun h i hi => beq_iff_eq.2 (by rw [h i (List.mem_range.1 hi)])⟩
theorem wrd_upto {B B' : Nat → E} {k : Nat} (h : ∀ i, i < 4 * k → B i = B' i) (q : Nat) (hq : q < k) : wrdOf B q = wrdOf B' q := by
  unfold wrdOf
  rw [h (4 * q) (by omega), h (4 * q + 1) (by omega), h (4 * q + 2) (by omega), h (4 * q + 3) (by omega)]
theorem sealV_congr {B B' : Nat → E} (h : ∀ i, i < 96 → B i = B' i) (k : Nat) : sealV B k = sealV B' k := by
  unfold sealV
  rw [mw_congr 24 fun q hq => wrd_upto (k := 24) h q hq]
theorem sealV_in (B : Nat → E) (k : Nat) : -9223372036854775808 ≤ sealV B k ∧ sealV B k ≤ 9223372036854775807 := mw_in (fun _ => by omega) _ _
theorem wrap_seal (B : Nat → E) (k : Nat) : wrap64 (sealV B k) = sealV B k := wrap_in (sealV_in B k)
/-- a sector whose seal fits has just the seal's bytes -/
theorem seal_bytes {B : Nat → E} (h : sealB B = true) (k : Nat) (hk : k < 4) (j : Nat) (hj : j < 8) : B (96 + 8 * k + j) = byt (sealV B k) j := by
  have h1 := (sealB_iff B).1 h k hk
  refine byt_rd8 (B := fun i => B (96 + 8 * k + i)) ?_ j hj
  rw [wrap_seal]
  exact h1
theorem sealB_of {B : Nat → E} (h : ∀ k, k < 4 → ∀ j, j < 8 → B (96 + 8 * k + j) = byt (sealV B k) j) : sealB B = true := by
  rw [sealB_iff]
  intro k hk
  unfold rds
  rw [rdN_congr (B' := byt (sealV B k)) 8 fun j hj => h k hk j hj, rd8_byt, wrap_seal]
/-- where the seal fits, the label's own sector is the sector just if what stands ahead of the seal is -/
theorem own_all {B : Nat → E} (h : sealB B = true) : (∀ i, i < 128 → sec (prs B) i = B i) ↔ ownB B = true := by
  rw [ownB_iff]
  constructor
  · intro h1 i hi
    have := h1 i (by omega)
    unfold sec at this
    rw [if_pos hi] at this
    exact this
  · intro h1 i hi
    unfold sec
    by_cases e : i < 96
    · rw [if_pos e]; exact h1 i e
    · rw [if_neg e, sealV_congr h1, ← seal_bytes h _ (by omega) _ (by omega)]
      congr 1
      omega
theorem hd_4 (x : Nat → Int) (k i : Nat) (hk : k < 9) (hi : i < 4) : hd x (4 * k + i) = byt (x k) i := by
  unfold hd
  rw [if_pos (by omega), show (4 * k + i) / 4 = k by omega, show (4 * k + i) % 4 = i by omega]
theorem hd_8 (x : Nat → Int) (k i : Nat) (hk : k < 4) (hi : i < 8) : hd x (36 + 8 * k + i) = byt (x (9 + k)) i := by
  unfold hd
  rw [if_neg (by omega), if_pos (by omega), show (36 + 8 * k + i - 36) / 8 = k by omega, show (36 + 8 * k + i - 36) % 8 = i by omega]
theorem hd_0 (x : Nat → Int) (i : Nat) (h : 68 ≤ i) : hd x i = ze := by
  unfold hd
  rw [if_neg (by omega), if_neg (by omega)]
theorem sec_hd (x : Nat → Int) (i : Nat) (h : i < 96) : sec x i = hd x i := by unfold sec; rw [if_pos h]
theorem sec_seal (x : Nat → Int) (k j : Nat) (hj : j < 8) : sec x (96 + 8 * k + j) = byt (sealV (hd x) k) j := by
  unfold sec
  rw [if_neg (by omega), show (96 + 8 * k + j - 96) / 8 = k by omega, show (96 + 8 * k + j - 96) % 8 = j by omega]
theorem may_is {x : Nat → Int} (h : mayL x = true) : (1 ≤ x 0 ∧ x 0 ≤ 1048576) ∧ (2 ≤ x 2 ∧ x 2 ≤ 8) ∧ (0 ≤ x 1 ∧ x 1 < x 2) ∧ (1 ≤ x 3 ∧ x 3 ≤ 3 ∧ x 3 < x 2) ∧ (0 ≤ x 4 ∧ x 4 ≤ 1048576) ∧ (0 ≤ x 5 ∧ x 5 ≤ 65536) ∧ (0 ≤ x 6 ∧ x 6 ≤ 32) ∧ (0 ≤ x 7 ∧ x 7 ≤ 128 * x 6) ∧ (0 ≤ x 8 ∧ x 8 ≤ x 4) := of_decide_eq_true h
theorem may_lo {x : Nat → Int} (h : mayL x = true) (k : Nat) (hk : k < 9) : 0 ≤ x k ∧ x k < 4294967296 := by
  have h := may_is h
  match k, hk with
  | 0, _ => omega
  | 1, _ => omega
  | 2, _ => omega
  | 3, _ => omega
  | 4, _ => omega
  | 5, _ => omega
  | 6, _ => omega
  | 7, _ => omega
  | 8, _ => omega
/-- a label's sector tells the label -/
theorem prs_hd {x : Nat → Int} {B : Nat → E} (hB : ∀ i, i < 96 → B i = hd x i) (h : ∀ k, k < 9 → 0 ≤ x k ∧ x k < 4294967296) (hs : ∀ k, 9 ≤ k → k < 13 → -9223372036854775808 ≤ x k ∧ x k ≤ 9223372036854775807) (k : Nat) (hk : k < 13) : prs B k = x k := by
  unfold prs
  by_cases e : k < 9
  · rw [if_pos e, rdN_congr (B' := byt (x k)) 4 fun i hi => by rw [hB _ (by omega)]; exact hd_4 x k i e hi]
    exact rd4_byt (h k e)
  · rw [if_neg e, rdN_congr (B' := byt (x k)) 8 fun i hi => by
      rw [hB _ (by omega), hd_8 x (k - 9) i (by omega) hi, show 9 + (k - 9) = k by omega], rd8_byt]
    exact wrap_in (hs k (by omega) hk)
theorem hd_congr {x y : Nat → Int} (h : ∀ k, k < 13 → x k = y k) (i : Nat) : hd x i = hd y i := by
  unfold hd
  by_cases h1 : i < 36
  · rw [if_pos h1, if_pos h1, h (i / 4) (by omega)]
  · rw [if_neg h1, if_neg h1]
    by_cases h2 : i < 68
    · rw [if_pos h2, if_pos h2, h (9 + (i - 36) / 8) (by omega)]
    · rw [if_neg h2, if_neg h2]
theorem mayL_congr {x y : Nat → Int} (h : ∀ k, k < 13 → x k = y k) : mayL x = mayL y := by
  unfold mayL
  rw [h 0 (by omega), h 1 (by omega), h 2 (by omega), h 3 (by omega), h 4 (by omega), h 5 (by omega), h 6 (by omega), h 7 (by omega), h 8 (by omega)]
theorem decE_sec {x : Nat → Int} {B : Nat → E} (hB : ∀ i, i < 128 → B i = sec x i) (hm : mayL x = true) (hs : ∀ k, 9 ≤ k → k < 13 → -9223372036854775808 ≤ x k ∧ x k ≤ 9223372036854775807) : decE 128 B = 0 ∧ ∀ k, k < 13 → decV 128 B k = x k := by
  have hB' : ∀ i, i < 96 → B i = hd x i := fun i hi => by rw [hB i (by omega), sec_hd x i hi]
  have hp := prs_hd hB' (may_lo hm) hs
  have h1 : sealB B = true := sealB_of fun k hk j hj => by
    rw [hB _ (by omega), sec_seal x k j hj, sealV_congr hB']
  have h2 : ownB B = true := (ownB_iff B).2 fun i hi => by rw [hd_congr hp, hB' i hi]
  have h3 : mayL (prs B) = true := by rw [mayL_congr hp]; exact hm
  have h0 : decE 128 B = 0 := by
    unfold decE
    rw [if_pos rfl, if_pos h1, if_pos ⟨h3, h2⟩]
  exact ⟨h0, fun k hk => by unfold decV; rw [if_pos h0]; exact hp k hk⟩
theorem decE_cases (n : Nat) (B : Nat → E) : decE n B = 0 ∨ decE n B ≠ 0 := Classical.em _
theorem decE_0 {n : Nat} {B : Nat → E} (h : decE n B = 0) : n = 128 ∧ sealB B = true ∧ mayL (prs B) = true ∧ ownB B = true := by
  unfold decE at h
  split at h
  · rename_i h1
    split at h
    · rename_i h2
      split at h
      · rename_i h3
        exact ⟨h1, h2, h3⟩
      · cases h
    · cases h
  · cases h
end Go.Proofs.Ytemndnpbbkjmhab
