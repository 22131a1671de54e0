/-
  gf.Add, gf.Mul, gf.Div and gf.Inv at every argument, as plain functions; the world only grows.
-/
import Derived.Test.YtfdgacpmdlmjnaaChecked
import Derived.WalkKit
import Derived.Test.YtfdgacpmdlmjnaaMm
import Derived.Test.YtfdgacpmdlmjnaaGfElements
import Derived.Test.YtfdgacpmdlmjnaaGfPower
namespace Go.Proofs.Ytfdgacpmdlmjnaa
open Go.RowKit
def pairB (a b : Int) : Bool := elB a && elB b
theorem pair_bd (a b : Int) (h : pairB a b = true) : (0 ≤ a ∧ a < 256) ∧ (0 ≤ b ∧ b < 256) := by
  unfold pairB elB at h; simp at h; omega
theorem elB_bd (a : Int) (h : elB a = true) : 0 ≤ a ∧ a < 256 := by
  unfold elB at h; simp at h; omega
theorem elements_two (a b : Int) (t : TypeId) (w : World) :
    Calls Try.prog 81 #[.slice (some ⟨w.heap.size, 0, none⟩) 2 2] (w.alloc (.cells #[.int .i64 a, .int .i64 b] t)) fun e w' => e = .returned (.bool (pairB a b)) ∧ w' = w.alloc (.cells #[.int .i64 a, .int .i64 b] t) := by
  have h := elements_any [a, b] w.heap.size (w.alloc (.cells #[.int .i64 a, .int .i64 b] t)) (by simp) (by simp) (by
    intro i hi
    rw [World.cell?_alloc_new]
    match i, hi with
    | 0, _ => rfl
    | 1, _ => rfl)
  have e : [a, b].all elB = pairB a b := by simp [pairB]
  rw [e] at h
  exact h
theorem elements_one (a : Int) (t : TypeId) (w : World) :
    Calls Try.prog 81 #[.slice (some ⟨w.heap.size, 0, none⟩) 1 1] (w.alloc (.cells #[.int .i64 a] t)) fun e w' => e = .returned (.bool (elB a)) ∧ w' = w.alloc (.cells #[.int .i64 a] t) := by
  have h := elements_any [a] w.heap.size (w.alloc (.cells #[.int .i64 a] t)) (by simp) (by simp) (by
    intro i hi
    rw [World.cell?_alloc_new]
    match i, hi with
    | 0, _ => rfl)
  have e : [a].all elB = elB a := by simp
  rw [e] at h
  exact h

def rangeE (a b : Int) : Int := if pairB a b then 0 else 2
def addV (a b : Int) : Int := if pairB a b then ((a.toNat ^^^ b.toNat : Nat) : Int) else 0
def mulV (a b : Int) : Int := if pairB a b then ((Gf.gmul a.toNat b.toNat : Nat) : Int) else 0
def divV (a b : Int) : Int := if pairB a b then (if b = 0 then 0 else ((Gf.gmul a.toNat (Gf.inv b.toNat) : Nat) : Int)) else 0
def divE (a b : Int) : Int := if pairB a b then (if b = 0 then 10 else 0) else 2
theorem ret2 {k l : IntKind} {a b c d : Int} (h : a = b) (g : c = d) : Ending.returned (.tuple #[.int k a, .int l c]) = .returned (.tuple #[.int k b, .int l d]) := by rw [h, g]

set_option maxRecDepth 100000 in
theorem Add_any (a b : Int) (w : World) :
    Calls Try.prog 85 #[.int .i64 a, .int .i64 b] w fun e w' => e = .returned (.tuple #[.int .i64 (addV a b), .int .i64 (rangeE a b)]) ∧ Ext w w' := by
  cases hB : pairB a b
  · go_enter Try.func85, Try.ntmps85
    go_wp2_with fail
    refine (elements_two a b _ w).mono ?_
    rintro e w' ⟨rfl, rfl⟩
    go_wp2_with fail
    go_ret2
    exact ⟨ret2 (by simp [addV, hB]) (by simp [rangeE, hB]), (Ext.refl _).alloc _ _⟩
  · have hd := pair_bd a b hB
    obtain ⟨x, rfl⟩ := Int.eq_ofNat_of_zero_le hd.1.1
    obtain ⟨y, rfl⟩ := Int.eq_ofNat_of_zero_le hd.2.1
    go_enter Try.func85, Try.ntmps85
    go_wp2_with fail
    refine (elements_two x y _ w).mono ?_
    rintro e w' ⟨rfl, rfl⟩
    go_wp2_with fail
    go_ret2
    exact ⟨ret2 (by simp [addV, hB, i64_xor x y (by omega) (by omega)]) (by simp [rangeE, hB]), (Ext.refl _).alloc _ _⟩

set_option maxRecDepth 100000 in
theorem Mul_any (a b : Int) (w : World) :
    Calls Try.prog 73 #[.int .i64 a, .int .i64 b] w fun e w' => e = .returned (.tuple #[.int .i64 (mulV a b), .int .i64 (rangeE a b)]) ∧ Ext w w' := by
  cases hB : pairB a b
  · go_enter Try.func73, Try.ntmps73
    go_wp2_with fail
    refine (elements_two a b _ w).mono ?_
    rintro e w' ⟨rfl, rfl⟩
    go_wp2_with fail
    go_ret2
    exact ⟨ret2 (by simp [mulV, hB]) (by simp [rangeE, hB]), (Ext.refl _).alloc _ _⟩
  · have hd := pair_bd a b hB
    go_enter Try.func73, Try.ntmps73
    go_wp2_with fail
    refine (elements_two a b _ w).mono ?_
    rintro e w' ⟨rfl, rfl⟩
    go_wp2_with fail
    refine (product_int a b _ hd.1.1 hd.1.2 hd.2.1 hd.2.2).mono ?_
    rintro e w' ⟨rfl, rfl⟩
    go_wp2_with fail
    go_ret2
    exact ⟨ret2 (by simp [mulV, hB]) (by simp [rangeE, hB]), (Ext.refl _).alloc _ _⟩

set_option maxRecDepth 100000 in
theorem Div_any (a b : Int) (w : World) :
    Calls Try.prog 89 #[.int .i64 a, .int .i64 b] w fun e w' => e = .returned (.tuple #[.int .i64 (divV a b), .int .i64 (divE a b)]) ∧ Ext w w' := by
  cases hB : pairB a b
  · go_enter Try.func89, Try.ntmps89
    go_wp2_with fail
    refine (elements_two a b _ w).mono ?_
    rintro e w' ⟨rfl, rfl⟩
    go_wp2_with fail
    go_ret2
    exact ⟨ret2 (by simp [divV, hB]) (by simp [divE, hB]), (Ext.refl _).alloc _ _⟩
  · have hd := pair_bd a b hB
    by_cases h0 : b = 0
    · subst h0
      go_enter Try.func89, Try.ntmps89
      go_wp2_with fail
      refine (elements_two a 0 _ w).mono ?_
      rintro e w' ⟨rfl, rfl⟩
      go_wp2_with fail
      go_ret2
      exact ⟨ret2 (by simp [divV]) (by simp [divE, hB]), (Ext.refl _).alloc _ _⟩
    · obtain ⟨y, rfl⟩ := Int.eq_ofNat_of_zero_le hd.2.1
      have hz : ((y : Int) == 0) = false := beq_eq_false_iff_ne.2 h0
      have H0 : Hid (¬ (y : Int) = 0) := h0
      clear h0
      have hl := Gf.inv_lt y
      go_enter Try.func89, Try.ntmps89
      go_wp2_with fail
      refine (elements_two a y _ w).mono ?_
      rintro e w' ⟨rfl, rfl⟩
      go_wp2_with fail
      refine (inverse_any y _ (by omega)).mono ?_
      rintro e w' ⟨rfl, rfl⟩
      go_wp2_with fail
      refine (product_int a _ _ hd.1.1 hd.1.2 (by omega) (by omega)).mono ?_
      rintro e w' ⟨rfl, rfl⟩
      go_wp2_with fail
      go_ret2
      exact ⟨ret2 (by rw [divV, if_pos hB, if_neg H0.out]; simp) (by rw [divE, if_pos hB, if_neg H0.out]), (Ext.refl _).alloc _ _⟩

set_option maxRecDepth 100000 in
theorem Inv_any (a : Int) (w : World) :
    Calls Try.prog 87 #[.int .i64 a] w fun e w' => e = .returned (.tuple #[.int .i64 (divV 1 a), .int .i64 (divE 1 a)]) ∧ Ext w w' := by
  go_enter Try.func87, Try.ntmps87
  go_wp2_with fail
  refine (Div_any 1 a w).mono ?_
  rintro e w' ⟨rfl, hx⟩
  go_wp2_with fail
  go_ret2
  exact ⟨rfl, hx⟩
end Go.Proofs.Ytfdgacpmdlmjnaa
