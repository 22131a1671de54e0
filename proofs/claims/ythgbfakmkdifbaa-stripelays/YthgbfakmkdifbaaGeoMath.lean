/-
  What blocks cost and where they lie, as plain numbers.
-/
import Derived.WalkKit
namespace Go.Proofs.Ythgbfakmkdifbaa
def okD (d : Int) : Bool := decide (2 ≤ d) && decide (d ≤ 8)
def okPar (d p : Int) : Bool := decide (1 ≤ p) && decide (p ≤ 3) && decide (p < d)
def okCnt (c : Int) : Bool := decide (1 ≤ c) && decide (c ≤ 32)
def okAd (a : Int) : Bool := decide (0 ≤ a) && decide (a ≤ 65536)
theorem okD_iff (d : Int) : okD d = true ↔ 2 ≤ d ∧ d ≤ 8 := by unfold okD; simp
theorem okPar_iff (d p : Int) : okPar d p = true ↔ 1 ≤ p ∧ p ≤ 3 ∧ p < d := by unfold okPar; simp [and_assoc]
theorem okCnt_iff (c : Int) : okCnt c = true ↔ 1 ≤ c ∧ c ≤ 32 := by unfold okCnt; simp
theorem okAd_iff (a : Int) : okAd a = true ↔ 0 ≤ a ∧ a ≤ 65536 := by unfold okAd; simp
/-- into how many parts -/
def prt (n s : Nat) : Nat := (n + s - 1) / s
theorem prt_lt (n s : Nat) (hs : 0 < s) : n ≤ prt n s * s ∧ prt n s * s < n + s := by
  unfold prt
  have h1 := Nat.div_add_mod (n + s - 1) s
  have h2 := Nat.mod_lt (n + s - 1) hs
  rw [Nat.mul_comm] at h1
  omega
theorem prt_uniq (n s k : Nat) (h1 : n ≤ k * s) (h2 : k * s < n + s) : prt n s = k := by
  have hs : 0 < s := by omega
  have h := prt_lt n s hs
  rcases Nat.lt_trichotomy (prt n s) k with l | l | l
  · have : (prt n s + 1) * s ≤ k * s := Nat.mul_le_mul_right _ l
    rw [Nat.add_mul] at this
    omega
  · exact l
  · have : (k + 1) * s ≤ prt n s * s := Nat.mul_le_mul_right _ l
    rw [Nat.add_mul] at this
    omega
def costN (d p c : Nat) : Nat := prt (c + p * prt c (d - p)) (p + 1) * (p + 1)
def costV (d p c : Int) : Int := if okD d && okPar d p && okCnt c then (costN d.toNat p.toNat c.toNat : Int) else 0
def costE (d p c : Int) : Int := if okD d && okPar d p && okCnt c then 0 else 2
def spotD (d a : Int) : Int := if okD d && okAd a then a % d else 0
def spotA (d a : Int) : Int := if okD d && okAd a then a / d else 0
def spotE (d a : Int) : Int := if okD d && okAd a then 0 else 2
end Go.Proofs.Ythgbfakmkdifbaa
