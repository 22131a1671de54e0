/-
  Bitwise operations on int that are not negative, as those of Nat; plain lemmas on Int's casts.
-/
import Derived.WalkKit
import Derived.Test.YtfdgacpmdlmjnaaAlg
namespace Go.Proofs.Ytfdgacpmdlmjnaa
open Go.RowKit

theorem i64_and1 (n : Int) : bits .and .i64 n 1 = n % 2 := by
  have h1 : (BitVec.ofInt 64 1).toNat = 2 ^ 1 - 1 := by decide
  have key : (BitVec.ofInt 64 n &&& BitVec.ofInt 64 1).toNat = (n % ((2 ^ 64 : Nat) : Int)).toNat % 2 ^ 1 := by
    rw [BitVec.toNat_and, BitVec.toNat_ofInt, h1, Nat.and_two_pow_sub_one_eq_mod]
  show IntKind.i64.wrap ((BitVec.ofInt 64 n &&& BitVec.ofInt 64 1).toNat : Nat) = n % 2
  rw [key, IntKind.wrap_i64]
  omega
theorem i64_xor (a b : Nat) (ha : a < 4611686018427387904) (hb : b < 4611686018427387904) : bits .xor .i64 (a : Int) (b : Int) = ((a ^^^ b : Nat) : Int) := by
  have hx : a ^^^ b < 2 ^ 62 := Nat.xor_lt_two_pow (by omega) (by omega)
  show IntKind.i64.wrap ((BitVec.ofInt 64 (a : Int) ^^^ BitVec.ofInt 64 (b : Int)).toNat : Int) = _
  rw [BitVec.toNat_xor, ofInt_u64 a (by omega), ofInt_u64 b (by omega), IntKind.wrap_i64]
  omega
theorem i64_or (a b : Nat) (ha : a < 4611686018427387904) (hb : b < 4611686018427387904) : bits .or .i64 (a : Int) (b : Int) = ((a ||| b : Nat) : Int) := by
  have hx : a ||| b < 2 ^ 62 := Nat.or_lt_two_pow (by omega) (by omega)
  show IntKind.i64.wrap ((BitVec.ofInt 64 (a : Int) ||| BitVec.ofInt 64 (b : Int)).toNat : Int) = _
  rw [BitVec.toNat_or, ofInt_u64 a (by omega), ofInt_u64 b (by omega), IntKind.wrap_i64]
  omega
theorem i64_and (a b : Nat) (ha : a < 4611686018427387904) (hb : b < 4611686018427387904) : bits .and .i64 (a : Int) (b : Int) = ((a &&& b : Nat) : Int) := by
  have hx : a &&& b < 2 ^ 62 := Nat.and_lt_two_pow _ (by omega)
  show IntKind.i64.wrap ((BitVec.ofInt 64 (a : Int) &&& BitVec.ofInt 64 (b : Int)).toNat : Int) = _
  rw [BitVec.toNat_and, ofInt_u64 a (by omega), ofInt_u64 b (by omega), IntKind.wrap_i64]
  omega
theorem ret_int {k : IntKind} {a b : Int} (h : a = b) : Ending.returned (.int k a) = .returned (.int k b) := by rw [h]
theorem int_eq {k : IntKind} {a b : Int} (h : a = b) : Value.int k a = .int k b := by rw [h]

/-! one round of the program's product, in the walk's own forms -/
theorem xt_ge (a : Nat) (h : a < 256) (h2 : 256 ≤ (a : Int) * 2) : bits .xor .i64 ((a : Int) * 2) 285 = (Gf.xt a : Nat) := by
  rw [show (a : Int) * 2 = ((2 * a : Nat) : Int) from by omega, show (285 : Int) = ((285 : Nat) : Int) from rfl, i64_xor _ _ (by omega) (by omega), Gf.xt_code a h, if_pos (by omega)]
theorem xt_below (a : Nat) (h : a < 256) (h2 : (a : Int) * 2 < 256) : (a : Int) * 2 = (Gf.xt a : Nat) := by
  rw [Gf.xt_code a h, if_neg (by omega)]; omega
theorem p_odd (a b p : Nat) (ha : a < 256) (hp : p < 256) (h : ((b : Int) % 2 == 1) = true) : bits .xor .i64 (p : Int) (a : Int) = ((if b % 2 = 1 then p ^^^ a else p : Nat) : Int) := by
  have h' := eq_of_beq h
  rw [i64_xor _ _ (by omega) (by omega), if_pos (by omega)]
theorem p_even (a b p : Nat) (h : ((b : Int) % 2 == 1) = false) : (p : Int) = ((if b % 2 = 1 then p ^^^ a else p : Nat) : Int) := by
  have h' := ne_of_beq_false h
  rw [if_neg (by omega)]
theorem prod_round (a b p M : Nat) (ha : a < 256) (hb : b < 256) (hp : p < 256) (hI : Gf.pl 8 a b p = M) (A B P : Int) (hA : A = (Gf.xt a : Nat)) (hB : B = (b : Int) / 2) (hP : P = ((if b % 2 = 1 then p ^^^ a else p : Nat) : Int)) :
    ∃ a' b' p' : Nat, a' < 256 ∧ b' < 256 ∧ p' < 256 ∧ Value.int .i64 A = .int .i64 a' ∧ Value.int .i64 B = .int .i64 b' ∧ Value.int .i64 P = .int .i64 p' ∧ Gf.pl 8 a' b' p' = M := by
  refine ⟨Gf.xt a, b / 2, if b % 2 = 1 then p ^^^ a else p, Gf.xt_lt a ha, by omega, ?_, int_eq hA, int_eq (by rw [hB]; omega), int_eq hP, ?_⟩
  · split
    · exact Gf.xor_lt _ _ hp ha
    · exact hp
  · rw [Gf.pl_round a b p hb]; exact hI
end Go.Proofs.Ytfdgacpmdlmjnaa
