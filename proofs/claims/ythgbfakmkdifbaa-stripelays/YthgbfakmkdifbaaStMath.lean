/-
  What the columns of a block have, and what is made of them again: as plain functions.
-/
import Derived.Test.YthgbfakmkdifbaaGeoKeep
import Derived.Test.YthgbfakmkdifbaaKeepFlet
import Derived.Test.YthgbfakmkdifbaaParEncode
namespace Go.Proofs.Ythgbfakmkdifbaa
open Go.RowKit Go.Deep E
/-- filled up with bytes 0 -/
def padZ (n : Nat) (B : Nat → E) (x : Nat) : E := if x < n then B x else ze
/-- where data column i begins among the data -/
def offD (d p c i : Nat) : Nat := 128 * datS d p c (p + i)
def wdB (d p c i : Nat) : Nat := 128 * cntC d p c i
theorem datS_p (d p c : Nat) : ∀ n, n ≤ p → datS d p c n = 0
  | 0, _ => rfl
  | n + 1, h => by unfold datS; rw [datS_p d p c n (by omega), if_pos (by omega)]
theorem offD_0 (d p c : Nat) : offD d p c 0 = 0 := by unfold offD; rw [Nat.add_zero, datS_p d p c p (Nat.le_refl _)]
theorem offD_s (d p c i : Nat) : offD d p c (i + 1) = offD d p c i + wdB d p c (p + i) := by
  unfold offD wdB
  rw [show p + (i + 1) = p + i + 1 by omega]
  conv => lhs; unfold datS
  rw [if_neg (by omega), Nat.mul_add]
theorem offD_mono (d p c : Nat) {i j : Nat} (h : i ≤ j) : offD d p c i ≤ offD d p c j := by
  induction j with
  | zero => rw [show i = 0 by omega]; exact Nat.le_refl _
  | succ j ih =>
    by_cases e : i = j + 1
    · rw [e]; exact Nat.le_refl _
    · rw [offD_s]; have := ih (by omega); omega
/-- sizes and places that a block may have -/
structure StOk (d p c : Nat) : Prop where
  d2 : 2 ≤ d
  d8 : d ≤ 8
  p1 : 1 ≤ p
  p3 : p ≤ 3
  pd : p < d
  c1 : 1 ≤ c
  c32 : c ≤ 32
theorem StOk.N {d p c : Nat} (h : StOk d p c) : p < colN d p c ∧ colN d p c ≤ 8 := by
  have := colN_bd d p c h.pd h.c1
  have := h.d8
  omega
theorem StOk.cnt {d p c i : Nat} (h : StOk d p c) (hi : i < colN d p c) : 1 ≤ cntC d p c i ∧ cntC d p c i ≤ cntC d p c 0 ∧ (i < p → cntC d p c i = cntC d p c 0) ∧ cntC d p c 0 ≤ 32 := by
  have := ap_is d p c i h.d2 h.d8 h.p1 h.p3 h.pd h.c1 h.c32 hi
  exact ⟨this.1, this.2.1, this.2.2.2.1, this.2.2.2.2⟩
theorem StOk.wd {d p c i : Nat} (h : StOk d p c) (hi : i < colN d p c) : 128 ≤ wdB d p c i ∧ wdB d p c i ≤ wdB d p c 0 ∧ wdB d p c 0 ≤ 4096 := by
  have := h.cnt hi
  unfold wdB
  omega
theorem StOk.wdp {d p c i : Nat} (h : StOk d p c) (hi : i < p) : wdB d p c i = wdB d p c 0 := by
  have := h.N
  unfold wdB
  rw [(h.cnt (i := i) (by omega)).2.2.1 hi]
theorem StOk.off {d p c : Nat} (h : StOk d p c) : offD d p c (colN d p c - p) = 128 * c := by
  have := h.N
  unfold offD
  rw [show p + (colN d p c - p) = colN d p c by omega, (keep_is d p c h.d2 h.d8 h.p1 h.p3 h.pd h.c1 h.c32).1]
theorem StOk.offs {d p c i : Nat} (h : StOk d p c) (hi : p + i < colN d p c) : offD d p c i + wdB d p c (p + i) ≤ 128 * c := by
  rw [← h.off, ← offD_s]
  exact offD_mono d p c (by omega)
/-- data column i -/
def datF (d p c n : Nat) (B : Nat → E) (i x : Nat) : E := padZ n B (offD d p c i + x)
/-- the data columns, filled up to the length of the longest -/
def lonF (d p c n : Nat) (B : Nat → E) (i : Nat) : Nat → E := padZ (wdB d p c (p + i)) (datF d p c n B i)
/-- all columns of a block -/
def layF (d p c n : Nat) (B : Nat → E) (r : Nat) : Nat → E := if r < p then enc (colN d p c - p) (lonF d p c n B) r else datF d p c n B (r - p)
def szOk (n : Nat) : Bool := decide (1 ≤ n) && decide (n ≤ 4096)
def secs (n : Nat) : Nat := (n + 127) / 128
theorem szOk_iff (n : Nat) : szOk n = true ↔ 1 ≤ n ∧ n ≤ 4096 := by unfold szOk; simp
theorem secs_bd {n : Nat} (h : szOk n = true) : 1 ≤ secs n ∧ secs n ≤ 32 ∧ n ≤ 128 * secs n ∧ 128 * secs n < n + 128 := by
  have := (szOk_iff n).1 h
  unfold secs
  omega
/-- what the columns of a block with n bytes come to -/
def stE (d p a : Int) (n : Nat) : Int := if szOk n then gcE d p a (secs n : Nat) else 1
def stOkB (d p a : Int) (n : Nat) : Bool := szOk n && okG d p a (secs n : Nat)
theorem stE_ok {d p a : Int} {n : Nat} (h : stOkB d p a n = true) : stE d p a n = 0 := by
  unfold stOkB at h
  rw [Bool.and_eq_true] at h
  unfold stE gcE
  rw [h.1, h.2]
  rfl
theorem stE_no {d p a : Int} {n : Nat} (h : stOkB d p a n = false) : stE d p a n ≠ 0 := by
  unfold stOkB at h
  unfold stE gcE
  cases h1 : szOk n
  · simp
  · rw [h1] at h
    simp only [Bool.true_and] at h
    rw [h]
    simp
theorem stOk_nat {d p a : Int} {n : Nat} (h : stOkB d p a n = true) : ∃ x y z : Nat, d = x ∧ p = y ∧ a = z ∧ z ≤ 65536 ∧ StOk x y (secs n) ∧ szOk n = true := by
  unfold stOkB at h
  rw [Bool.and_eq_true] at h
  have hg := h.2
  unfold okG at hg
  simp only [Bool.and_eq_true] at hg
  have h1 := (okD_iff d).1 hg.1.1.1
  have h2 := (okPar_iff d p).1 hg.1.1.2
  have h3 := (okAd_iff a).1 hg.2
  have h4 := secs_bd h.1
  exact ⟨d.toNat, p.toNat, a.toNat, by omega, by omega, by omega, by omega, ⟨by omega, by omega, by omega, by omega, by omega, h4.1, h4.2.1⟩, h.1⟩
theorem ok_st {d p a n : Nat} (h : StOk d p (secs n)) (ha : a ≤ 65536) (hn : szOk n = true) : stOkB d p a n = true := by
  have a1 := (okD_iff (d : Int)).2 (by have := h.d2; have := h.d8; omega)
  have a2 := (okPar_iff (d : Int) p).2 (by have := h.p1; have := h.p3; have := h.pd; omega)
  have a3 := (okCnt_iff (secs n : Int)).2 (by have := h.c1; have := h.c32; omega)
  have a4 := (okAd_iff (a : Int)).2 (by omega)
  unfold stOkB okG
  rw [hn, a1, a2, a3, a4]
  rfl
end Go.Proofs.Ythgbfakmkdifbaa
