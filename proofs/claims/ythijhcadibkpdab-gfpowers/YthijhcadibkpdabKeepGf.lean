/-
  quicksetkeep.Picked, mul and add at the arguments that they are called with; the world only grows.
-/
import Derived.Test.YthijhcadibkpdabChecked
import Derived.WalkKit
import Derived.OpenShut
import Derived.Test.YthijhcadibkpdabGfFaces
namespace Go.Proofs.Ythijhcadibkpdab
open Go.RowKit
theorem tmod_emod (a n : Int) (hn : 0 < n) : (a.tmod n < 0 → a.tmod n + n = a % n) ∧ (¬ a.tmod n < 0 → a.tmod n = a % n) ∧ -n < a.tmod n ∧ a.tmod n < n := by
  rw [Int.tmod_eq_emod]
  have h1 := Int.emod_nonneg a (show n ≠ 0 by omega)
  have h2 := Int.emod_lt_of_pos a hn
  split
  · omega
  · rename_i h
    have h3 : a % n ≠ 0 := fun e => h (Or.inr (Int.dvd_of_emod_eq_zero e))
    omega
set_option maxRecDepth 100000 in
theorem Picked_any (a n : Int) (w : World) (h0 : 0 < n) (h1 : n ≤ 1073741824) (ha : -9223372036854775808 ≤ a) (ha2 : a ≤ 9223372036854775807) :
    Calls Try.prog 10 #[.int .i64 a, .int .i64 n] w fun e w' => e = .returned (.int .i64 (a % n)) ∧ w' = w := by
  obtain ⟨t1, t2, t3, t4⟩ := tmod_emod a n h0
  have T1 : Hid (a.tmod n < 0 → a.tmod n + n = a % n) := t1
  have T2 : Hid (¬ a.tmod n < 0 → a.tmod n = a % n) := t2
  clear t1 t2
  have hz : (n == 0) = false := by rw [beq_eq_false_iff_ne]; omega
  have g1 := Int.emod_nonneg a (show n ≠ 0 by omega)
  have g2 := Int.emod_lt_of_pos a h0
  by_cases hp : 0 ≤ a
  · go_enter Try.func10, Try.ntmps10
    go_wp2
    go_ret
    exact ⟨rfl, rfl⟩
  · by_cases ht : a.tmod n < 0
    · go_enter Try.func10, Try.ntmps10
      go_wp2
      go_ret
      exact ⟨ret_int (T1.out ht), rfl⟩
    · go_enter Try.func10, Try.ntmps10
      go_wp2
      go_ret
      exact ⟨ret_int (T2.out ht), rfl⟩
theorem Picked_nat (a n : Int) (x : Nat) (w : World) (h0 : 0 < n) (h1 : n ≤ 1073741824) (hw : (Lit.int .i64 a).wf = true) (hx : a % n = x) :
    Calls Try.prog 10 #[.int .i64 a, .int .i64 n] w fun e w' => e = .returned (.int .i64 x) ∧ w' = w := by
  have hb := bounds_i64 hw
  rw [← hx]
  exact Picked_any a n w h0 h1 hb.1 hb.2
theorem pair_of (x y : Nat) (hx : x < 256) (hy : y < 256) : pairB x y = true := by
  unfold pairB; rw [elB_of x (by omega) (by omega), elB_of y (by omega) (by omega)]; rfl
theorem Mul_nat (x y : Nat) (w : World) (hx : x < 256) (hy : y < 256) :
    Calls Try.prog 21 #[.int .i64 x, .int .i64 y] w fun e w' => e = .returned (.tuple #[.int .i64 (Gf.gmul x y), .int .i64 0]) ∧ Ext w w' := by
  have h := Mul_any x y w
  rw [mulV, rangeE, if_pos (pair_of x y hx hy), if_pos (pair_of x y hx hy), Int.toNat_natCast, Int.toNat_natCast] at h
  exact h
theorem Add_nat (x y : Nat) (w : World) (hx : x < 256) (hy : y < 256) :
    Calls Try.prog 22 #[.int .i64 x, .int .i64 y] w fun e w' => e = .returned (.tuple #[.int .i64 ((x ^^^ y : Nat) : Int), .int .i64 0]) ∧ Ext w w' := by
  have h := Add_any x y w
  rw [addV, rangeE, if_pos (pair_of x y hx hy), if_pos (pair_of x y hx hy), Int.toNat_natCast, Int.toNat_natCast] at h
  exact h
set_option maxRecDepth 100000 in
theorem kmul (x y : Nat) (w : World) (hx : x < 256) (hy : y < 256) :
    Calls Try.prog 11 #[.int .i64 x, .int .i64 y] w fun e w' => e = .returned (.int .i64 (Gf.gmul x y)) ∧ Ext w w' := by
  go_enter Try.func11, Try.ntmps11
  go_wp2_with fail
  refine (Mul_nat x y w hx hy).mono ?_
  rintro e w' ⟨rfl, h⟩
  go_wp2_with fail
  go_ret
  exact ⟨rfl, h⟩
set_option maxRecDepth 100000 in
theorem kadd (x y : Nat) (w : World) (hx : x < 256) (hy : y < 256) :
    Calls Try.prog 12 #[.int .i64 x, .int .i64 y] w fun e w' => e = .returned (.int .i64 ((x ^^^ y : Nat) : Int)) ∧ Ext w w' := by
  go_enter Try.func12, Try.ntmps12
  go_wp2_with fail
  refine (Add_nat x y w hx hy).mono ?_
  rintro e w' ⟨rfl, h⟩
  go_wp2_with fail
  go_ret
  exact ⟨rfl, h⟩
theorem picked_is (a n : Int) (hn : 0 < n) : ∃ x : Nat, a % n = x ∧ (x : Int) < n := by
  have g1 := Int.emod_nonneg a (show n ≠ 0 by omega)
  have g2 := Int.emod_lt_of_pos a hn
  exact ⟨(a % n).toNat, by omega, by omega⟩
end Go.Proofs.Ythijhcadibkpdab
