/-
  Bitwise operations on int that are not negative, as those of Nat; plain lemmas on Int's casts.
-/
import Derived.WalkKit
import Derived.Test.YthgbfakmkdifbaaAlg
import Derived.Test.YthgbfakmkdifbaaChecked
import Derived.Test.YthgbfakmkdifbaaMm
namespace Go.Proofs.Ythgbfakmkdifbaa
open Go.RowKit

theorem i64_and1 (n : Int) : bits .and .i64 n 1 = n % 2 := by
  have h1 : (BitVec.ofInt 64 1).toNat = 2 ^ 1 - 1 := by decide
  have key : (BitVec.ofInt 64 n &&& BitVec.ofInt 64 1).toNat = (n % ((2 ^ 64 : Nat) : Int)).toNat % 2 ^ 1 := by
    rw [BitVec.toNat_and, BitVec.toNat_ofInt, h1, Nat.and_two_pow_sub_one_eq_mod]
  show IntKind.i64.wrap ((BitVec.ofInt 64 n &&& BitVec.ofInt 64 1).toNat : Nat) = n % 2
  rw [key, IntKind.wrap_i64]
  omega
theorem i64_xor (a b : Nat) (ha : a < 4611686018427387904) (hb : b < 4611686018427387904) : bits .xor .i64 (a : Int) (b : Int) = ((a ^^^ b : Nat) : Int) := by
  have hx : a ^^^ b < 2 ^ 62 := Nat.xor_lt_two_pow (by omega) (by omega)
  show IntKind.i64.wrap ((BitVec.ofInt 64 (a : Int) ^^^ BitVec.ofInt 64 (b : Int)).toNat : Int) = _
  rw [BitVec.toNat_xor, ofInt_u64 a (by omega), ofInt_u64 b (by omega), IntKind.wrap_i64]
  omega
theorem i64_or (a b : Nat) (ha : a < 4611686018427387904) (hb : b < 4611686018427387904) : bits .or .i64 (a : Int) (b : Int) = ((a ||| b : Nat) : Int) := by
  have hx : a ||| b < 2 ^ 62 := Nat.or_lt_two_pow (by omega) (by omega)
  show IntKind.i64.wrap ((BitVec.ofInt 64 (a : Int) ||| BitVec.ofInt 64 (b : Int)).toNat : Int) = _
  rw [BitVec.toNat_or, ofInt_u64 a (by omega), ofInt_u64 b (by omega), IntKind.wrap_i64]
  omega
theorem i64_and (a b : Nat) (ha : a < 4611686018427387904) (hb : b < 4611686018427387904) : bits .and .i64 (a : Int) (b : Int) = ((a &&& b : Nat) : Int) := by
  have hx : a &&& b < 2 ^ 62 := Nat.and_lt_two_pow _ (by omega)
  show IntKind.i64.wrap ((BitVec.ofInt 64 (a : Int) &&& BitVec.ofInt 64 (b : Int)).toNat : Int) = _
  rw [BitVec.toNat_and, ofInt_u64 a (by omega), ofInt_u64 b (by omega), IntKind.wrap_i64]
  omega
theorem ret_int {k : IntKind} {a b : Int} (h : a = b) : Ending.returned (.int k a) = .returned (.int k b) := by rw [h]
theorem int_eq {k : IntKind} {a b : Int} (h : a = b) : Value.int k a = .int k b := by rw [h]

/-! one round of the program's product, in the walk's own forms -/
theorem xt_ge (a : Nat) (h : a < 256) (h2 : 256 ≤ (a : Int) * 2) : bits .xor .i64 ((a : Int) * 2) 285 = (Gf.xt a : Nat) := by
  rw [show (a : Int) * 2 = ((2 * a : Nat) : Int) from by omega, show (285 : Int) = ((285 : Nat) : Int) from rfl, i64_xor _ _ (by omega) (by omega), Gf.xt_code a h, if_pos (by omega)]
theorem xt_below (a : Nat) (h : a < 256) (h2 : (a : Int) * 2 < 256) : (a : Int) * 2 = (Gf.xt a : Nat) := by
  rw [Gf.xt_code a h, if_neg (by omega)]; omega
theorem p_odd (a b p : Nat) (ha : a < 256) (hp : p < 256) (h : ((b : Int) % 2 == 1) = true) : bits .xor .i64 (p : Int) (a : Int) = ((if b % 2 = 1 then p ^^^ a else p : Nat) : Int) := by
  have h' := eq_of_beq h
  rw [i64_xor _ _ (by omega) (by omega), if_pos (by omega)]
theorem p_even (a b p : Nat) (h : ((b : Int) % 2 == 1) = false) : (p : Int) = ((if b % 2 = 1 then p ^^^ a else p : Nat) : Int) := by
  have h' := ne_of_beq_false h
  rw [if_neg (by omega)]
theorem prod_round (a b p M : Nat) (ha : a < 256) (hb : b < 256) (hp : p < 256) (hI : Gf.pl 8 a b p = M) (A B P : Int) (hA : A = (Gf.xt a : Nat)) (hB : B = (b : Int) / 2) (hP : P = ((if b % 2 = 1 then p ^^^ a else p : Nat) : Int)) :
    ∃ a' b' p' : Nat, a' < 256 ∧ b' < 256 ∧ p' < 256 ∧ Value.int .i64 A = .int .i64 a' ∧ Value.int .i64 B = .int .i64 b' ∧ Value.int .i64 P = .int .i64 p' ∧ Gf.pl 8 a' b' p' = M := by
  refine ⟨Gf.xt a, b / 2, if b % 2 = 1 then p ^^^ a else p, Gf.xt_lt a ha, by omega, ?_, int_eq hA, int_eq (by rw [hB]; omega), int_eq hP, ?_⟩
  · split
    · exact Gf.xor_lt _ _ hp ha
    · exact hp
  · rw [Gf.pl_round a b p hb]; exact hI
end Go.Proofs.Ythgbfakmkdifbaa
/-
  gf.elements: of a list of numbers it returns whether all are from 0 to 255, and the memory stays as it was.
-/
namespace Go.Proofs.Ythgbfakmkdifbaa
open Go.RowKit
def elB (a : Int) : Bool := decide (0 ≤ a) && decide (a < 256)
theorem elB_of (a : Int) (h : ¬ a < 0) (h2 : a < 256) : elB a = true := by unfold elB; simp; omega
theorem elB_not (a : Int) (h : a < 0 ∨ 256 ≤ a) : elB a = false := by unfold elB; simp; omega
theorem all_false (l : List Int) (k : Nat) (hk : k < l.length) (h : elB l[k] = false) : l.all elB = false := by
  rw [List.all_eq_false]
  exact ⟨l[k], List.getElem_mem hk, by simpa using h⟩
theorem all_true (l : List Int) (h : ∀ j, j < l.length → elB (l[j]?.getD 0) = true) : l.all elB = true := by
  rw [List.all_eq_true]
  intro x hx
  obtain ⟨i, hi, rfl⟩ := List.getElem_of_mem hx
  have := h i hi
  rw [List.getElem?_eq_getElem hi] at this
  exact this
theorem all_next (l : List Int) (k : Nat) (hk : k < l.length) (h : ∀ j, j < k → elB (l[j]?.getD 0) = true) (h2 : elB l[k] = true) : ∀ j, j < k + 1 → elB (l[j]?.getD 0) = true := by
  intro j hj
  by_cases e : j = k
  · subst e; rw [List.getElem?_eq_getElem hk]; exact h2
  · exact h j (by omega)
set_option maxRecDepth 100000 in
set_option maxHeartbeats 400000 in
theorem elements_any (l : List Int) (bk : Nat) (w : World) (hl : l.length ≤ 1000) (hne : 0 < l.length)
    (hc : ∀ i, i < l.length → w.cell? ⟨bk, i, none⟩ = some (.int .i64 (l[i]?.getD 0))) :
    Calls Try.prog 97 #[.slice (some ⟨bk, 0, none⟩) l.length l.length] w fun e w' => e = .returned (.bool (l.all elB)) ∧ w' = w := by
  go_enter Try.func97, Try.ntmps97
  go_wp2
  go_loop [7] (fun i => ∃ k : Nat, k ≤ l.length ∧ i = .int .i64 k ∧ ∀ j, j < k → elB (l[j]?.getD 0) = true) (fun i => l.length - (intOf i).toNat)
  case atStart => exact ⟨0, Nat.zero_le _, rfl, fun j h => by omega⟩
  case round =>
    obtain ⟨k, hk, rfl, hI⟩ := hrel
    have HI : Hid (∀ j, j < k → elB (l[j]?.getD 0) = true) := hI
    clear hI
    by_cases hlt : k < l.length
    · have hck := hc k hlt
      go_wp2
      · go_ret
        rw [all_false l k hlt (elB_not _ ‹_›)]
        exact ⟨rfl, rfl⟩
      · have h2 : 0 ≤ l[k] ∧ l[k] < 256 := by assumption
        go_round
        case rel => exact ⟨k + 1, by omega, by go_num, all_next l k hlt HI.out (elB_of _ (by omega) (by omega))⟩
        case measure => simp [intOf]; omega
      · go_ret
        rw [all_false l k hlt (elB_not _ (Or.inl ‹_›))]
        exact ⟨rfl, rfl⟩
    · go_wp2
      go_ret
      have e : k = l.length := by omega
      subst e
      rw [all_true l HI.out]
      exact ⟨rfl, rfl⟩
end Go.Proofs.Ythgbfakmkdifbaa
/-
  gf.product: of two elements it returns the product of the field, and the memory stays as it was.
-/
namespace Go.Proofs.Ythgbfakmkdifbaa
open Go.RowKit
attribute [local go_sem] i64_and1
set_option maxRecDepth 100000 in
set_option maxHeartbeats 400000 in
theorem product_any (a b : Nat) (w : World) (ha : a < 256) (hb : b < 256) :
    Calls Try.prog 98 #[.int .i64 a, .int .i64 b] w fun e w' => e = .returned (.int .i64 (Gf.gmul a b)) ∧ w' = w := by
  go_enter Try.func98, Try.ntmps98
  go_wp2
  go_loop [0, 1, 5] (fun x y z => ∃ a' b' p' : Nat, a' < 256 ∧ b' < 256 ∧ p' < 256 ∧ x = .int .i64 a' ∧ y = .int .i64 b' ∧ z = .int .i64 p' ∧ Gf.pl 8 a' b' p' = Gf.gmul a b) (fun _ y _ => (intOf y).toNat)
  case atStart => exact ⟨a, b, 0, ha, hb, by omega, rfl, rfl, rfl, Gf.pl_gmul a b⟩
  case round =>
    obtain ⟨a', b', p', ha', hb', hp', rfl, rfl, rfl, hI⟩ := hrel
    have HI : Hid (Gf.pl 8 a' b' p' = Gf.gmul a b) := hI
    clear hI
    by_cases hlt : 0 < b'
    · go_wp2
      · go_round
        case rel => exact prod_round a' b' p' _ ha' hb' hp' HI.out _ _ _ (xt_ge a' ha' ‹_›) rfl (p_odd a' b' p' ha' hp' ‹_›)
        case measure => simp [intOf]; omega
      · go_round
        case rel => exact prod_round a' b' p' _ ha' hb' hp' HI.out _ _ _ (xt_below a' ha' ‹_›) rfl (p_odd a' b' p' ha' hp' ‹_›)
        case measure => simp [intOf]; omega
      · go_round
        case rel => exact prod_round a' b' p' _ ha' hb' hp' HI.out _ _ _ (xt_ge a' ha' ‹_›) rfl (p_even a' b' p' ‹_›)
        case measure => simp [intOf]; omega
      · go_round
        case rel => exact prod_round a' b' p' _ ha' hb' hp' HI.out _ _ _ (xt_below a' ha' ‹_›) rfl (p_even a' b' p' ‹_›)
        case measure => simp [intOf]; omega
    · go_wp2
      go_ret
      have e : b' = 0 := by omega
      have h := HI.out
      rw [e, Gf.pl_done] at h
      rw [h]
      exact ⟨rfl, rfl⟩
end Go.Proofs.Ythgbfakmkdifbaa
/-
  gf.power and gf.inverse: of an element and a number from 0 on the power of the field; of an element the power 254; the memory stays as it was.
-/
namespace Go.Proofs.Ythgbfakmkdifbaa
open Go.RowKit
attribute [local go_sem] i64_and1
theorem product_int (a b : Int) (w : World) (ha : 0 ≤ a) (ha2 : a < 256) (hb : 0 ≤ b) (hb2 : b < 256) :
    Calls Try.prog 98 #[.int .i64 a, .int .i64 b] w fun e w' => e = .returned (.int .i64 (Gf.gmul a.toNat b.toNat)) ∧ w' = w := by
  obtain ⟨x, rfl⟩ := Int.eq_ofNat_of_zero_le ha
  obtain ⟨y, rfl⟩ := Int.eq_ofNat_of_zero_le hb
  exact product_any x y w (by omega) (by omega)
theorem pow_round_odd (a n p M : Nat) (ha : a < 256) (hn : n < 9223372036854775808) (hp : p < 256) (hI : Gf.gmul p (Gf.gpow a n) = M) (h : ((n : Int) % 2 == 1) = true) :
    ∃ a' n' p' : Nat, a' < 256 ∧ n' < 9223372036854775808 ∧ p' < 256 ∧ Value.int .i64 (Gf.gmul a a : Nat) = .int .i64 a' ∧ Value.int .i64 ((n : Int) / 2) = .int .i64 n' ∧ Value.int .i64 (Gf.gmul p a : Nat) = .int .i64 p' ∧ Gf.gmul p' (Gf.gpow a' n') = M := by
  have h' := eq_of_beq h
  exact ⟨Gf.gmul a a, n / 2, Gf.gmul p a, Gf.gmul_lt _ _ ha, by omega, Gf.gmul_lt _ _ hp, rfl, int_eq (by omega), rfl, by rw [Gf.gpow_odd p a n hp ha (by omega)]; exact hI⟩
theorem pow_round_even (a n p M : Nat) (ha : a < 256) (hn : n < 9223372036854775808) (hp : p < 256) (hI : Gf.gmul p (Gf.gpow a n) = M) (h : ((n : Int) % 2 == 1) = false) :
    ∃ a' n' p' : Nat, a' < 256 ∧ n' < 9223372036854775808 ∧ p' < 256 ∧ Value.int .i64 (Gf.gmul a a : Nat) = .int .i64 a' ∧ Value.int .i64 ((n : Int) / 2) = .int .i64 n' ∧ Value.int .i64 (p : Nat) = .int .i64 p' ∧ Gf.gmul p' (Gf.gpow a' n') = M := by
  have h' := ne_of_beq_false h
  exact ⟨Gf.gmul a a, n / 2, p, Gf.gmul_lt _ _ ha, by omega, hp, rfl, int_eq (by omega), rfl, by rw [Gf.gpow_even p a n ha (by omega)]; exact hI⟩
set_option maxRecDepth 100000 in
set_option maxHeartbeats 400000 in
theorem power_any (a n : Nat) (w : World) (ha : a < 256) (hn : n < 9223372036854775808) :
    Calls Try.prog 99 #[.int .i64 a, .int .i64 n] w fun e w' => e = .returned (.int .i64 (Gf.gpow a n)) ∧ w' = w := by
  go_enter Try.func99, Try.ntmps99
  go_wp2
  go_loop [0, 1, 5] (fun x y z => ∃ a' n' p' : Nat, a' < 256 ∧ n' < 9223372036854775808 ∧ p' < 256 ∧ x = .int .i64 a' ∧ y = .int .i64 n' ∧ z = .int .i64 p' ∧ Gf.gmul p' (Gf.gpow a' n') = Gf.gpow a n) (fun _ y _ => (intOf y).toNat)
  case atStart => exact ⟨a, n, 1, ha, hn, by omega, rfl, rfl, rfl, Gf.one_gmul _ (Gf.gpow_lt _ _)⟩
  case round =>
    obtain ⟨a', n', p', ha', hn', hp', rfl, rfl, rfl, hI⟩ := hrel
    have HI : Hid (Gf.gmul p' (Gf.gpow a' n') = Gf.gpow a n) := hI
    clear hI
    by_cases hlt : 0 < n'
    · go_wp2_with (go_at_call 98; refine (product_any _ _ _ (by omega) (by omega)).mono ?_; rintro e w' ⟨rfl, rfl⟩)
      · go_round
        case rel => exact pow_round_odd a' n' p' _ ha' hn' hp' HI.out ‹_›
        case measure => simp [intOf]; omega
      · go_round
        case rel => exact pow_round_even a' n' p' _ ha' hn' hp' HI.out ‹_›
        case measure => simp [intOf]; omega
    · go_wp2
      go_ret
      obtain rfl : n' = 0 := by omega
      have h := HI.out
      rw [show Gf.gpow a' 0 = 1 from rfl, Gf.gmul_one] at h
      rw [h]
      exact ⟨rfl, rfl⟩
set_option maxRecDepth 100000 in
theorem inverse_any (a : Nat) (w : World) (ha : a < 256) :
    Calls Try.prog 113 #[.int .i64 a] w fun e w' => e = .returned (.int .i64 (Gf.inv a)) ∧ w' = w := by
  go_enter Try.func113, Try.ntmps113
  go_wp2_with fail
  refine (power_any a 254 w ha (by omega)).mono ?_
  rintro e w' ⟨rfl, rfl⟩
  go_wp2_with fail
  go_ret
  exact ⟨rfl, rfl⟩
end Go.Proofs.Ythgbfakmkdifbaa
/-
  gf.Add, gf.Mul, gf.Div and gf.Inv at every argument, as plain functions; the world only grows.
-/
namespace Go.Proofs.Ythgbfakmkdifbaa
open Go.RowKit
def pairB (a b : Int) : Bool := elB a && elB b
theorem pair_bd (a b : Int) (h : pairB a b = true) : (0 ≤ a ∧ a < 256) ∧ (0 ≤ b ∧ b < 256) := by
  unfold pairB elB at h; simp at h; omega
theorem elB_bd (a : Int) (h : elB a = true) : 0 ≤ a ∧ a < 256 := by
  unfold elB at h; simp at h; omega
theorem elements_two (a b : Int) (t : TypeId) (w : World) :
    Calls Try.prog 97 #[.slice (some ⟨w.heap.size, 0, none⟩) 2 2] (w.alloc (.cells #[.int .i64 a, .int .i64 b] t)) fun e w' => e = .returned (.bool (pairB a b)) ∧ w' = w.alloc (.cells #[.int .i64 a, .int .i64 b] t) := by
  have h := elements_any [a, b] w.heap.size (w.alloc (.cells #[.int .i64 a, .int .i64 b] t)) (by simp) (by simp) (by
    intro i hi
    rw [World.cell?_alloc_new]
    match i, hi with
    | 0, _ => rfl
    | 1, _ => rfl)
  have e : [a, b].all elB = pairB a b := by simp [pairB]
  rw [e] at h
  exact h
theorem elements_one (a : Int) (t : TypeId) (w : World) :
    Calls Try.prog 97 #[.slice (some ⟨w.heap.size, 0, none⟩) 1 1] (w.alloc (.cells #[.int .i64 a] t)) fun e w' => e = .returned (.bool (elB a)) ∧ w' = w.alloc (.cells #[.int .i64 a] t) := by
  have h := elements_any [a] w.heap.size (w.alloc (.cells #[.int .i64 a] t)) (by simp) (by simp) (by
    intro i hi
    rw [World.cell?_alloc_new]
    match i, hi with
    | 0, _ => rfl)
  have e : [a].all elB = elB a := by simp
  rw [e] at h
  exact h

def rangeE (a b : Int) : Int := if pairB a b then 0 else 2
def addV (a b : Int) : Int := if pairB a b then ((a.toNat ^^^ b.toNat : Nat) : Int) else 0
def mulV (a b : Int) : Int := if pairB a b then ((Gf.gmul a.toNat b.toNat : Nat) : Int) else 0
def divV (a b : Int) : Int := if pairB a b then (if b = 0 then 0 else ((Gf.gmul a.toNat (Gf.inv b.toNat) : Nat) : Int)) else 0
def divE (a b : Int) : Int := if pairB a b then (if b = 0 then 10 else 0) else 2
theorem ret2 {k l : IntKind} {a b c d : Int} (h : a = b) (g : c = d) : Ending.returned (.tuple #[.int k a, .int l c]) = .returned (.tuple #[.int k b, .int l d]) := by rw [h, g]

set_option maxRecDepth 100000 in
theorem Add_any (a b : Int) (w : World) :
    Calls Try.prog 108 #[.int .i64 a, .int .i64 b] w fun e w' => e = .returned (.tuple #[.int .i64 (addV a b), .int .i64 (rangeE a b)]) ∧ Ext w w' := by
  cases hB : pairB a b
  · go_enter Try.func108, Try.ntmps108
    go_wp2_with fail
    refine (elements_two a b _ w).mono ?_
    rintro e w' ⟨rfl, rfl⟩
    go_wp2_with fail
    go_ret2
    exact ⟨ret2 (by simp [addV, hB]) (by simp [rangeE, hB]), (Ext.refl _).alloc _ _⟩
  · have hd := pair_bd a b hB
    obtain ⟨x, rfl⟩ := Int.eq_ofNat_of_zero_le hd.1.1
    obtain ⟨y, rfl⟩ := Int.eq_ofNat_of_zero_le hd.2.1
    go_enter Try.func108, Try.ntmps108
    go_wp2_with fail
    refine (elements_two x y _ w).mono ?_
    rintro e w' ⟨rfl, rfl⟩
    go_wp2_with fail
    go_ret2
    exact ⟨ret2 (by simp [addV, hB, i64_xor x y (by omega) (by omega)]) (by simp [rangeE, hB]), (Ext.refl _).alloc _ _⟩

set_option maxRecDepth 100000 in
theorem Mul_any (a b : Int) (w : World) :
    Calls Try.prog 89 #[.int .i64 a, .int .i64 b] w fun e w' => e = .returned (.tuple #[.int .i64 (mulV a b), .int .i64 (rangeE a b)]) ∧ Ext w w' := by
  cases hB : pairB a b
  · go_enter Try.func89, Try.ntmps89
    go_wp2_with fail
    refine (elements_two a b _ w).mono ?_
    rintro e w' ⟨rfl, rfl⟩
    go_wp2_with fail
    go_ret2
    exact ⟨ret2 (by simp [mulV, hB]) (by simp [rangeE, hB]), (Ext.refl _).alloc _ _⟩
  · have hd := pair_bd a b hB
    go_enter Try.func89, Try.ntmps89
    go_wp2_with fail
    refine (elements_two a b _ w).mono ?_
    rintro e w' ⟨rfl, rfl⟩
    go_wp2_with fail
    refine (product_int a b _ hd.1.1 hd.1.2 hd.2.1 hd.2.2).mono ?_
    rintro e w' ⟨rfl, rfl⟩
    go_wp2_with fail
    go_ret2
    exact ⟨ret2 (by simp [mulV, hB]) (by simp [rangeE, hB]), (Ext.refl _).alloc _ _⟩

set_option maxRecDepth 100000 in
theorem Div_any (a b : Int) (w : World) :
    Calls Try.prog 112 #[.int .i64 a, .int .i64 b] w fun e w' => e = .returned (.tuple #[.int .i64 (divV a b), .int .i64 (divE a b)]) ∧ Ext w w' := by
  cases hB : pairB a b
  · go_enter Try.func112, Try.ntmps112
    go_wp2_with fail
    refine (elements_two a b _ w).mono ?_
    rintro e w' ⟨rfl, rfl⟩
    go_wp2_with fail
    go_ret2
    exact ⟨ret2 (by simp [divV, hB]) (by simp [divE, hB]), (Ext.refl _).alloc _ _⟩
  · have hd := pair_bd a b hB
    by_cases h0 : b = 0
    · subst h0
      go_enter Try.func112, Try.ntmps112
      go_wp2_with fail
      refine (elements_two a 0 _ w).mono ?_
      rintro e w' ⟨rfl, rfl⟩
      go_wp2_with fail
      go_ret2
      exact ⟨ret2 (by simp [divV]) (by simp [divE, hB]), (Ext.refl _).alloc _ _⟩
    · obtain ⟨y, rfl⟩ := Int.eq_ofNat_of_zero_le hd.2.1
      have hz : ((y : Int) == 0) = false := beq_eq_false_iff_ne.2 h0
      have H0 : Hid (¬ (y : Int) = 0) := h0
      clear h0
      have hl := Gf.inv_lt y
      go_enter Try.func112, Try.ntmps112
      go_wp2_with fail
      refine (elements_two a y _ w).mono ?_
      rintro e w' ⟨rfl, rfl⟩
      go_wp2_with fail
      refine (inverse_any y _ (by omega)).mono ?_
      rintro e w' ⟨rfl, rfl⟩
      go_wp2_with fail
      refine (product_int a _ _ hd.1.1 hd.1.2 (by omega) (by omega)).mono ?_
      rintro e w' ⟨rfl, rfl⟩
      go_wp2_with fail
      go_ret2
      exact ⟨ret2 (by rw [divV, if_pos hB, if_neg H0.out]; simp) (by rw [divE, if_pos hB, if_neg H0.out]), (Ext.refl _).alloc _ _⟩

set_option maxRecDepth 100000 in
theorem Inv_any (a : Int) (w : World) :
    Calls Try.prog 110 #[.int .i64 a] w fun e w' => e = .returned (.tuple #[.int .i64 (divV 1 a), .int .i64 (divE 1 a)]) ∧ Ext w w' := by
  go_enter Try.func110, Try.ntmps110
  go_wp2_with fail
  refine (Div_any 1 a w).mono ?_
  rintro e w' ⟨rfl, hx⟩
  go_wp2_with fail
  go_ret2
  exact ⟨rfl, hx⟩
end Go.Proofs.Ythgbfakmkdifbaa
/-
  gf.Pow at every argument, as a plain function; the world only grows.
-/
namespace Go.Proofs.Ythgbfakmkdifbaa
open Go.RowKit
def powB (a n : Int) : Bool := elB a && decide (0 ≤ n)
def powV (a n : Int) : Int := if powB a n then ((Gf.gpow a.toNat n.toNat : Nat) : Int) else 0
def powE (a n : Int) : Int := if powB a n then 0 else 2
theorem power_int (a n : Int) (w : World) (ha : 0 ≤ a) (ha2 : a < 256) (hn : 0 ≤ n) (hn2 : n < 9223372036854775808) :
    Calls Try.prog 99 #[.int .i64 a, .int .i64 n] w fun e w' => e = .returned (.int .i64 (Gf.gpow a.toNat n.toNat)) ∧ w' = w := by
  obtain ⟨x, rfl⟩ := Int.eq_ofNat_of_zero_le ha
  obtain ⟨y, rfl⟩ := Int.eq_ofNat_of_zero_le hn
  exact power_any x y w (by omega) (by omega)
set_option maxRecDepth 100000 in
theorem Pow_any (a n : Int) (w : World) (hn : n < 9223372036854775808) :
    Calls Try.prog 90 #[.int .i64 a, .int .i64 n] w fun e w' => e = .returned (.tuple #[.int .i64 (powV a n), .int .i64 (powE a n)]) ∧ Ext w w' := by
  cases ha : elB a
  · go_enter Try.func90, Try.ntmps90
    go_wp2_with fail
    refine (elements_one a _ w).mono ?_
    rintro e w' ⟨rfl, rfl⟩
    go_wp2_with fail
    go_ret2
    exact ⟨ret2 (by simp [powV, powB, ha]) (by simp [powE, powB, ha]), (Ext.refl _).alloc _ _⟩
  · have hd := elB_bd a ha
    by_cases h0 : n < 0
    · go_enter Try.func90, Try.ntmps90
      go_wp2_with fail
      refine (elements_one a _ w).mono ?_
      rintro e w' ⟨rfl, rfl⟩
      go_wp2_with fail
      go_ret2
      exact ⟨ret2 (by simp [powV, powB]; omega) (by simp [powE, powB]; omega), (Ext.refl _).alloc _ _⟩
    · have hB : powB a n = true := by unfold powB; rw [ha]; simp; omega
      have h1 : 0 ≤ n := by omega
      go_enter Try.func90, Try.ntmps90
      go_wp2_with fail
      refine (elements_one a _ w).mono ?_
      rintro e w' ⟨rfl, rfl⟩
      go_wp2_with fail
      refine (power_int a n _ hd.1 hd.2 h1 hn).mono ?_
      rintro e w' ⟨rfl, rfl⟩
      go_wp2_with fail
      go_ret2
      exact ⟨ret2 (by rw [powV, if_pos hB]) (by rw [powE, if_pos hB]), (Ext.refl _).alloc _ _⟩
end Go.Proofs.Ythgbfakmkdifbaa
/-
  gf.Exp at every argument, as a plain function; the world only grows.
-/
namespace Go.Proofs.Ythgbfakmkdifbaa
open Go.RowKit
set_option maxRecDepth 100000 in
theorem Exp_any (n : Int) (w : World) (hn : n < 9223372036854775808) :
    Calls Try.prog 80 #[.int .i64 n] w fun e w' => e = .returned (.tuple #[.int .i64 (powV 2 n), .int .i64 (powE 2 n)]) ∧ Ext w w' := by
  go_enter Try.func80, Try.ntmps80
  go_wp2_with fail
  refine (Pow_any 2 n w hn).mono ?_
  rintro e w' ⟨rfl, hx⟩
  go_wp2_with fail
  go_ret2
  exact ⟨rfl, hx⟩
end Go.Proofs.Ythgbfakmkdifbaa
