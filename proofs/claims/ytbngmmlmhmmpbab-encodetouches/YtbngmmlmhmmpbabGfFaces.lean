/-
  gf.Add, gf.Mul, gf.Div and gf.Inv at every argument, as plain functions; the world only grows.
-/
import Derived.Test.YtbngmmlmhmmpbabChecked
import Derived.WalkKit
import Derived.Test.YtbngmmlmhmmpbabExt
import Derived.Test.YtbngmmlmhmmpbabGfElements
import Derived.Test.YtbngmmlmhmmpbabGfPower
namespace Go.Proofs.Ytbngmmlmhmmpbab
open Go.RowKit
def pairB (a b : Int) : Bool := elB a && elB b
theorem pair_bd (a b : Int) (h : pairB a b = true) : (0 ≤ a ∧ a < 256) ∧ (0 ≤ b ∧ b < 256) := by
  unfold pairB elB at h; simp at h; omega
theorem elB_bd (a : Int) (h : elB a = true) : 0 ≤ a ∧ a < 256 := by
  unfold elB at h; simp at h; omega
theorem elements_two (a b : Int) (t : TypeId) (w : World) :
    Calls Try.prog 21 #[.slice (some ⟨w.heap.size, 0, none⟩) 2 2] (w.alloc (.cells #[.int .i64 a, .int .i64 b] t)) fun e w' => e = .returned (.bool (pairB a b)) ∧ w' = w.alloc (.cells #[.int .i64 a, .int .i64 b] t) := by
  have h := elements_any [a, b] w.heap.size (w.alloc (.cells #[.int .i64 a, .int .i64 b] t)) (by simp) (by simp) (by
    intro i hi
    rw [World.cell?_alloc_new]
    match i, hi with
    | 0, _ => rfl
    | 1, _ => rfl)
  have e : [a, b].all elB = pairB a b := by simp [pairB]
  rw [e] at h
  exact h
theorem elements_one (a : Int) (t : TypeId) (w : World) :
    Calls Try.prog 21 #[.slice (some ⟨w.heap.size, 0, none⟩) 1 1] (w.alloc (.cells #[.int .i64 a] t)) fun e w' => e = .returned (.bool (elB a)) ∧ w' = w.alloc (.cells #[.int .i64 a] t) := by
  have h := elements_any [a] w.heap.size (w.alloc (.cells #[.int .i64 a] t)) (by simp) (by simp) (by
    intro i hi
    rw [World.cell?_alloc_new]
    match i, hi with
    | 0, _ => rfl)
  have e : [a].all elB = elB a := by simp
  rw [e] at h
  exact h

def rangeE (a b : Int) : Int := if pairB a b then 0 else 2
def addV (a b : Int) : Int := if pairB a b then ((a.toNat ^^^ b.toNat : Nat) : Int) else 0
def mulV (a b : Int) : Int := if pairB a b then ((Gf.gmul a.toNat b.toNat : Nat) : Int) else 0
def divV (a b : Int) : Int := if pairB a b then (if b = 0 then 0 else ((Gf.gmul a.toNat (Gf.inv b.toNat) : Nat) : Int)) else 0
def divE (a b : Int) : Int := if pairB a b then (if b = 0 then 10 else 0) else 2
theorem ret2 {k l : IntKind} {a b c d : Int} (h : a = b) (g : c = d) : Ending.returned (.tuple #[.int k a, .int l c]) = .returned (.tuple #[.int k b, .int l d]) := by rw [h, g]

set_option maxRecDepth 100000 in
theorem Mul_any (a b : Int) (w : World) :
    Calls Try.prog 19 #[.int .i64 a, .int .i64 b] w fun e w' => e = .returned (.tuple #[.int .i64 (mulV a b), .int .i64 (rangeE a b)]) ∧ Ext w w' := by
  cases hB : pairB a b
  · go_enter Try.func19, Try.ntmps19
    go_wp2_with fail
    refine (elements_two a b _ w).mono ?_
    rintro e w' ⟨rfl, rfl⟩
    go_wp2_with fail
    go_ret2
    exact ⟨ret2 (by simp [mulV, hB]) (by simp [rangeE, hB]), (Ext.refl _).alloc _ _⟩
  · have hd := pair_bd a b hB
    go_enter Try.func19, Try.ntmps19
    go_wp2_with fail
    refine (elements_two a b _ w).mono ?_
    rintro e w' ⟨rfl, rfl⟩
    go_wp2_with fail
    refine (product_int a b _ hd.1.1 hd.1.2 hd.2.1 hd.2.2).mono ?_
    rintro e w' ⟨rfl, rfl⟩
    go_wp2_with fail
    go_ret2
    exact ⟨ret2 (by simp [mulV, hB]) (by simp [rangeE, hB]), (Ext.refl _).alloc _ _⟩

end Go.Proofs.Ytbngmmlmhmmpbab
