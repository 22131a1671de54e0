/-
  What is made of columns again where some are taken as gone: as plain functions.
-/
import Derived.Test.YthgbfakmkdifbaaStCat
import Derived.Test.YthgbfakmkdifbaaKeepAll
namespace Go.Proofs.Ythgbfakmkdifbaa
open Go.RowKit Go.Deep E
/-- the columns as they were read, in the order of par -/
def gatZ (n p : Nat) (L : Nat → Nat) (F : Nat → Nat → E) (j : Nat) : Nat → E := padZ (L (tauP n p j)) (F (tauP n p j))
def hasP (n p : Nat) (has : Nat → Bool) (j : Nat) : Bool := has (tauP n p j)
/-- the columns made again -/
def rebC (n p : Nat) (hp : Nat → Bool) (Z : Nat → Nat → E) : Nat → Nat → E := rebD (n - p) p (PL n hp).length (pf n hp) Z
def catW (d p c : Nat) (R : Nat → Nat → E) : Nat → Nat → E
  | 0 => fun _ => ze
  | k + 1 => catB (offD d p c k) (catW d p c R k) (R k)
/-- the data, if the columns of 'has' are gone -/
def gatD (d p c : Nat) (has : Nat → Bool) (L : Nat → Nat) (F : Nat → Nat → E) : Nat → E := catW d p c (rebC (colN d p c) p (hasP (colN d p c) p has) (gatZ (colN d p c) p L F)) (colN d p c - p)
theorem hasB_iff {n : Nat} {f : Nat → Int} {x : Int} : hasB n f x = true ↔ ∃ i, i < n ∧ x = f i := ⟨hasB_ex, fun ⟨_, hi, e⟩ => hasB_true hi e⟩
theorem hasB_pf {n : Nat} {hp : Nat → Bool} {x : Int} : hasB (PL n hp).length (pf n hp) x = true ↔ ∃ k : Nat, k < n ∧ hp k = true ∧ x = k := by
  rw [hasB_iff]
  constructor
  · rintro ⟨i, hi, e⟩
    have := PL_at hi
    exact ⟨_, this.1, this.2, e⟩
  · rintro ⟨k, hk, h, e⟩
    obtain ⟨i, hi, e2⟩ := PL_ex hk h
    exact ⟨i, hi, by unfold pf; rw [e2]; exact e⟩
theorem rebD_ext {N p nl nl' : Nat} {fl fl' : Nat → Int} {Z : Nat → Nat → E} (h : ∀ x, hasB nl fl x = hasB nl' fl' x) : rebD N p nl fl Z = rebD N p nl' fl' Z := by
  have e : hasB nl fl = hasB nl' fl' := funext h
  unfold rebD lostPL rebZ holeL keptPL
  have e2 : lostZ nl fl Z = lostZ nl' fl' Z := by
    unfold lostZ
    rw [e]
  rw [e, e2]
theorem rebC_congr {n p : Nat} {hp hp' : Nat → Bool} {Z : Nat → Nat → E} (h : ∀ j, j < n → hp j = hp' j) : rebC n p hp Z = rebC n p hp' Z := by
  unfold rebC pf
  rw [PL_same h]
theorem gatD_congr {d p c : Nat} {has has' : Nat → Bool} {L : Nat → Nat} {F : Nat → Nat → E} (ho : StOk d p c) (h : ∀ r, r < colN d p c → has r = has' r) : gatD d p c has L F = gatD d p c has' L F := by
  have hN := ho.N
  unfold gatD
  rw [rebC_congr (hp' := hasP (colN d p c) p has') fun j hj => by unfold hasP; exact h _ (st_at hN.2 hN.1 hj).2.2.1]
/-- a list of places turned says what the places say -/
theorem turn_has {n p ng : Nat} {g : Nat → Nat} (hn : n ≤ 8) (hp : p < n) (hg : ∀ i, i < ng → g i < n) (x : Int) :
    hasB ng (fun i => ((sigP n p (g i) : Nat) : Int)) x = hasB (PL n (hasP n p fun r => hasB ng (fun i => ((g i : Nat) : Int)) r)).length (pf n (hasP n p fun r => hasB ng (fun i => ((g i : Nat) : Int)) r)) x := by
  rw [Bool.eq_iff_iff, hasB_iff, hasB_pf]
  unfold hasP
  constructor
  · rintro ⟨i, hi, e⟩
    have hs := st_at hn hp (hg i hi)
    refine ⟨sigP n p (g i), hs.2.2.2, ?_, e⟩
    rw [hs.2.1]
    exact hasB_true hi rfl
  · rintro ⟨k, hk, h, e⟩
    obtain ⟨i, hi, e2⟩ := hasB_ex h
    have hs := st_at hn hp hk
    refine ⟨i, hi, ?_⟩
    have e3 : g i = tauP n p k := by omega
    rw [e3, hs.1]
    exact e
theorem alike_const {n m nl : Nat} {fl : Nat → Int} (hm : m ≤ 4096) : keptAlike n (fun _ => m) nl fl = true := by
  unfold keptAlike
  refine alikeB_true fun i hi => ?_
  unfold colB
  simp [hm]
/-- a list of places, no two the same, no more than parity: it can be done -/
theorem rebE_list {n p m ng : Nat} {g : Nat → Nat} (hn : n ≤ 8) (hp : 1 ≤ p ∧ p ≤ 3) (hpn : p < n) (hm : m ≤ 4096) (hg : ∀ i, i < ng → g i < n) (hd : ∀ i j, i < j → j < ng → g i ≠ g j) (hng : ng ≤ p) : rebE n (fun _ => m) p ng (fun i => ((g i : Nat) : Int)) = 0 := by
  unfold rebE
  rw [fromTo_true (by omega), fromTo_true (by omega), alike_const hm, outB_false fun i hi => ⟨by omega, by have := hg i hi; omega⟩, dupB_false fun i hi => hasB_false fun j hj => by rw [beq_eq_false_iff_ne]; have := hd j i hj hi; omega]
  simp only [Bool.and_self, if_true, Bool.false_eq_true, if_false]
  rw [if_neg (by omega)]
theorem sig_inj {n p i j : Nat} (hn : n ≤ 8) (hp : p < n) (hi : i < n) (hj : j < n) (h : sigP n p i = sigP n p j) : i = j := by
  have h1 := (st_at hn hp hi).2.1
  have h2 := (st_at hn hp hj).2.1
  rw [h] at h1
  exact h1.symm.trans h2
end Go.Proofs.Ythgbfakmkdifbaa
