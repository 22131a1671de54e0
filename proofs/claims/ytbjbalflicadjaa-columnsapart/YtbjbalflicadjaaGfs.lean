/-
  Bitwise operations on int that are not negative, as those of Nat; plain lemmas on Int's casts.
-/
import Derived.WalkKit
import Derived.Test.YtbjbalflicadjaaAlg
import Derived.Test.YtbjbalflicadjaaChecked
import Derived.Test.YtbjbalflicadjaaMm
namespace Go.Proofs.Ytbjbalflicadjaa
open Go.RowKit

theorem i64_and1 (n : Int) : bits .and .i64 n 1 = n % 2 := by
  have h1 : (BitVec.ofInt 64 1).toNat = 2 ^ 1 - 1 := by decide
  have key : (BitVec.ofInt 64 n &&& BitVec.ofInt 64 1).toNat = (n % ((2 ^ 64 : Nat) : Int)).toNat % 2 ^ 1 := by
    rw [BitVec.toNat_and, BitVec.toNat_ofInt, h1, Nat.and_two_pow_sub_one_eq_mod]
  show IntKind.i64.wrap ((BitVec.ofInt 64 n &&& BitVec.ofInt 64 1).toNat : Nat) = n % 2
  rw [key, IntKind.wrap_i64]
  omega
theorem i64_xor (a b : Nat) (ha : a < 4611686018427387904) (hb : b < 4611686018427387904) : bits .xor .i64 (a : Int) (b : Int) = ((a ^^^ b : Nat) : Int) := by
  have hx : a ^^^ b < 2 ^ 62 := Nat.xor_lt_two_pow (by omega) (by omega)
  show IntKind.i64.wrap ((BitVec.ofInt 64 (a : Int) ^^^ BitVec.ofInt 64 (b : Int)).toNat : Int) = _
  rw [BitVec.toNat_xor, ofInt_u64 a (by omega), ofInt_u64 b (by omega), IntKind.wrap_i64]
  omega
theorem i64_or (a b : Nat) (ha : a < 4611686018427387904) (hb : b < 4611686018427387904) : bits .or .i64 (a : Int) (b : Int) = ((a ||| b : Nat) : Int) := by
  have hx : a ||| b < 2 ^ 62 := Nat.or_lt_two_pow (by omega) (by omega)
  show IntKind.i64.wrap ((BitVec.ofInt 64 (a : Int) ||| BitVec.ofInt 64 (b : Int)).toNat : Int) = _
  rw [BitVec.toNat_or, ofInt_u64 a (by omega), ofInt_u64 b (by omega), IntKind.wrap_i64]
  omega
theorem i64_and (a b : Nat) (ha : a < 4611686018427387904) (hb : b < 4611686018427387904) : bits .and .i64 (a : Int) (b : Int) = ((a &&& b : Nat) : Int) := by
  have hx : a &&& b < 2 ^ 62 := Nat.and_lt_two_pow _ (by omega)
  show IntKind.i64.wrap ((BitVec.ofInt 64 (a : Int) &&& BitVec.ofInt 64 (b : Int)).toNat : Int) = _
  rw [BitVec.toNat_and, ofInt_u64 a (by omega), ofInt_u64 b (by omega), IntKind.wrap_i64]
  omega
theorem ret_int {k : IntKind} {a b : Int} (h : a = b) : Ending.returned (.int k a) = .returned (.int k b) := by rw [h]
theorem int_eq {k : IntKind} {a b : Int} (h : a = b) : Value.int k a = .int k b := by rw [h]

/-! one round of the program's product, in the walk's own forms -/
theorem xt_ge (a : Nat) (h : a < 256) (h2 : 256 ≤ (a : Int) * 2) : bits .xor .i64 ((a : Int) * 2) 285 = (Gf.xt a : Nat) := by
  rw [show (a : Int) * 2 = ((2 * a : Nat) : Int) from by omega, show (285 : Int) = ((285 : Nat) : Int) from rfl, i64_xor _ _ (by omega) (by omega), Gf.xt_code a h, if_pos (by omega)]
theorem xt_below (a : Nat) (h : a < 256) (h2 : (a : Int) * 2 < 256) : (a : Int) * 2 = (Gf.xt a : Nat) := by
  rw [Gf.xt_code a h, if_neg (by omega)]; omega
theorem p_odd (a b p : Nat) (ha : a < 256) (hp : p < 256) (h : ((b : Int) % 2 == 1) = true) : bits .xor .i64 (p : Int) (a : Int) = ((if b % 2 = 1 then p ^^^ a else p : Nat) : Int) := by
  have h' := eq_of_beq h
  rw [i64_xor _ _ (by omega) (by omega), if_pos (by omega)]
theorem p_even (a b p : Nat) (h : ((b : Int) % 2 == 1) = false) : (p : Int) = ((if b % 2 = 1 then p ^^^ a else p : Nat) : Int) := by
  have h' := ne_of_beq_false h
  rw [if_neg (by omega)]
theorem prod_round (a b p M : Nat) (ha : a < 256) (hb : b < 256) (hp : p < 256) (hI : Gf.pl 8 a b p = M) (A B P : Int) (hA : A = (Gf.xt a : Nat)) (hB : B = (b : Int) / 2) (hP : P = ((if b % 2 = 1 then p ^^^ a else p : Nat) : Int)) :
    ∃ a' b' p' : Nat, a' < 256 ∧ b' < 256 ∧ p' < 256 ∧ Value.int .i64 A = .int .i64 a' ∧ Value.int .i64 B = .int .i64 b' ∧ Value.int .i64 P = .int .i64 p' ∧ Gf.pl 8 a' b' p' = M := by
  refine ⟨Gf.xt a, b / 2, if b % 2 = 1 then p ^^^ a else p, Gf.xt_lt a ha, by omega, ?_, int_eq hA, int_eq (by rw [hB]; omega), int_eq hP, ?_⟩
  · split
    · exact Gf.xor_lt _ _ hp ha
    · exact hp
  · rw [Gf.pl_round a b p hb]; exact hI
end Go.Proofs.Ytbjbalflicadjaa
/-
  gf.elements: of a list of numbers it returns whether all are from 0 to 255, and the memory stays as it was.
-/
namespace Go.Proofs.Ytbjbalflicadjaa
open Go.RowKit
def elB (a : Int) : Bool := decide (0 ≤ a) && decide (a < 256)
theorem elB_of (a : Int) (h : ¬ a < 0) (h2 : a < 256) : elB a = true := by unfold elB; simp; omega
theorem elB_not (a : Int) (h : a < 0 ∨ 256 ≤ a) : elB a = false := by unfold elB; simp; omega
theorem all_false (l : List Int) (k : Nat) (hk : k < l.length) (h : elB l[k] = false) : l.all elB = false := by
  rw [List.all_eq_false]
  exact ⟨l[k], List.getElem_mem hk, by simpa using h⟩
theorem all_true (l : List Int) (h : ∀ j, j < l.length → elB (l[j]?.getD 0) = true) : l.all elB = true := by
  rw [List.all_eq_true]
  intro x hx
  obtain ⟨i, hi, rfl⟩ := List.getElem_of_mem hx
  have := h i hi
  rw [List.getElem?_eq_getElem hi] at this
  exact this
theorem all_next (l : List Int) (k : Nat) (hk : k < l.length) (h : ∀ j, j < k → elB (l[j]?.getD 0) = true) (h2 : elB l[k] = true) : ∀ j, j < k + 1 → elB (l[j]?.getD 0) = true := by
  intro j hj
  by_cases e : j = k
  · subst e; rw [List.getElem?_eq_getElem hk]; exact h2
  · exact h j (by omega)
end Go.Proofs.Ytbjbalflicadjaa
/-
  gf.product: of two elements it returns the product of the field, and the memory stays as it was.
-/
namespace Go.Proofs.Ytbjbalflicadjaa
open Go.RowKit
attribute [local go_sem] i64_and1
end Go.Proofs.Ytbjbalflicadjaa
/-
  gf.power and gf.inverse: of an element and a number from 0 on the power of the field; of an element the power 254; the memory stays as it was.
-/
namespace Go.Proofs.Ytbjbalflicadjaa
open Go.RowKit
attribute [local go_sem] i64_and1
theorem pow_round_odd (a n p M : Nat) (ha : a < 256) (hn : n < 9223372036854775808) (hp : p < 256) (hI : Gf.gmul p (Gf.gpow a n) = M) (h : ((n : Int) % 2 == 1) = true) :
    ∃ a' n' p' : Nat, a' < 256 ∧ n' < 9223372036854775808 ∧ p' < 256 ∧ Value.int .i64 (Gf.gmul a a : Nat) = .int .i64 a' ∧ Value.int .i64 ((n : Int) / 2) = .int .i64 n' ∧ Value.int .i64 (Gf.gmul p a : Nat) = .int .i64 p' ∧ Gf.gmul p' (Gf.gpow a' n') = M := by
  have h' := eq_of_beq h
  exact ⟨Gf.gmul a a, n / 2, Gf.gmul p a, Gf.gmul_lt _ _ ha, by omega, Gf.gmul_lt _ _ hp, rfl, int_eq (by omega), rfl, by rw [Gf.gpow_odd p a n hp ha (by omega)]; exact hI⟩
theorem pow_round_even (a n p M : Nat) (ha : a < 256) (hn : n < 9223372036854775808) (hp : p < 256) (hI : Gf.gmul p (Gf.gpow a n) = M) (h : ((n : Int) % 2 == 1) = false) :
    ∃ a' n' p' : Nat, a' < 256 ∧ n' < 9223372036854775808 ∧ p' < 256 ∧ Value.int .i64 (Gf.gmul a a : Nat) = .int .i64 a' ∧ Value.int .i64 ((n : Int) / 2) = .int .i64 n' ∧ Value.int .i64 (p : Nat) = .int .i64 p' ∧ Gf.gmul p' (Gf.gpow a' n') = M := by
  have h' := ne_of_beq_false h
  exact ⟨Gf.gmul a a, n / 2, p, Gf.gmul_lt _ _ ha, by omega, hp, rfl, int_eq (by omega), rfl, by rw [Gf.gpow_even p a n ha (by omega)]; exact hI⟩
end Go.Proofs.Ytbjbalflicadjaa
/-
  gf.Add, gf.Mul, gf.Div and gf.Inv at every argument, as plain functions; the world only grows.
-/
namespace Go.Proofs.Ytbjbalflicadjaa
open Go.RowKit
def pairB (a b : Int) : Bool := elB a && elB b
theorem pair_bd (a b : Int) (h : pairB a b = true) : (0 ≤ a ∧ a < 256) ∧ (0 ≤ b ∧ b < 256) := by
  unfold pairB elB at h; simp at h; omega
theorem elB_bd (a : Int) (h : elB a = true) : 0 ≤ a ∧ a < 256 := by
  unfold elB at h; simp at h; omega
def rangeE (a b : Int) : Int := if pairB a b then 0 else 2
def addV (a b : Int) : Int := if pairB a b then ((a.toNat ^^^ b.toNat : Nat) : Int) else 0
def mulV (a b : Int) : Int := if pairB a b then ((Gf.gmul a.toNat b.toNat : Nat) : Int) else 0
def divV (a b : Int) : Int := if pairB a b then (if b = 0 then 0 else ((Gf.gmul a.toNat (Gf.inv b.toNat) : Nat) : Int)) else 0
def divE (a b : Int) : Int := if pairB a b then (if b = 0 then 10 else 0) else 2
theorem ret2 {k l : IntKind} {a b c d : Int} (h : a = b) (g : c = d) : Ending.returned (.tuple #[.int k a, .int l c]) = .returned (.tuple #[.int k b, .int l d]) := by rw [h, g]

end Go.Proofs.Ytbjbalflicadjaa
/-
  gf.Pow at every argument, as a plain function; the world only grows.
-/
namespace Go.Proofs.Ytbjbalflicadjaa
open Go.RowKit
def powB (a n : Int) : Bool := elB a && decide (0 ≤ n)
def powV (a n : Int) : Int := if powB a n then ((Gf.gpow a.toNat n.toNat : Nat) : Int) else 0
def powE (a n : Int) : Int := if powB a n then 0 else 2
end Go.Proofs.Ytbjbalflicadjaa
/-
  gf.Exp at every argument, as a plain function; the world only grows.
-/
namespace Go.Proofs.Ytbjbalflicadjaa
open Go.RowKit
end Go.Proofs.Ytbjbalflicadjaa
