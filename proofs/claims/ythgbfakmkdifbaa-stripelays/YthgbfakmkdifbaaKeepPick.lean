/-
  quicksetkeep.Picked at the arguments that it is called with; the memory stays as it was.
-/
import Derived.Test.YthgbfakmkdifbaaChecked
import Derived.WalkKit
import Derived.OpenShut
import Derived.Test.YthgbfakmkdifbaaGfs
namespace Go.Proofs.Ythgbfakmkdifbaa
open Go.RowKit
theorem tmod_emod (a n : Int) (hn : 0 < n) : (a.tmod n < 0 → a.tmod n + n = a % n) ∧ (¬ a.tmod n < 0 → a.tmod n = a % n) ∧ -n < a.tmod n ∧ a.tmod n < n := by
  rw [Int.tmod_eq_emod]
  have h1 := Int.emod_nonneg a (show n ≠ 0 by omega)
  have h2 := Int.emod_lt_of_pos a hn
  split
  · omega
  · rename_i h
    have h3 : a % n ≠ 0 := fun e => h (Or.inr (Int.dvd_of_emod_eq_zero e))
    omega
set_option maxRecDepth 100000 in
theorem Picked_any (a n : Int) (w : World) (h0 : 0 < n) (h1 : n ≤ 1073741824) (ha : -9223372036854775808 ≤ a) (ha2 : a ≤ 9223372036854775807) :
    Calls Try.prog 13 #[.int .i64 a, .int .i64 n] w fun e w' => e = .returned (.int .i64 (a % n)) ∧ w' = w := by
  obtain ⟨t1, t2, t3, t4⟩ := tmod_emod a n h0
  have T1 : Hid (a.tmod n < 0 → a.tmod n + n = a % n) := t1
  have T2 : Hid (¬ a.tmod n < 0 → a.tmod n = a % n) := t2
  clear t1 t2
  have hz : (n == 0) = false := by rw [beq_eq_false_iff_ne]; omega
  have g1 := Int.emod_nonneg a (show n ≠ 0 by omega)
  have g2 := Int.emod_lt_of_pos a h0
  by_cases hp : 0 ≤ a
  · go_enter Try.func13, Try.ntmps13
    go_wp2
    go_ret
    exact ⟨rfl, rfl⟩
  · by_cases ht : a.tmod n < 0
    · go_enter Try.func13, Try.ntmps13
      go_wp2
      go_ret
      exact ⟨ret_int (T1.out ht), rfl⟩
    · go_enter Try.func13, Try.ntmps13
      go_wp2
      go_ret
      exact ⟨ret_int (T2.out ht), rfl⟩
theorem Picked_nat (a n : Int) (x : Nat) (w : World) (h0 : 0 < n) (h1 : n ≤ 1073741824) (hw : (Lit.int .i64 a).wf = true) (hx : a % n = x) :
    Calls Try.prog 13 #[.int .i64 a, .int .i64 n] w fun e w' => e = .returned (.int .i64 x) ∧ w' = w := by
  have hb := bounds_i64 hw
  rw [← hx]
  exact Picked_any a n w h0 h1 hb.1 hb.2
theorem Picked_bd (a n : Int) (x : Nat) (w : World) (h0 : 0 < n) (h1 : n ≤ 1073741824) (hb : -9223372036854775808 ≤ a ∧ a ≤ 9223372036854775807) (hx : a % n = x) :
    Calls Try.prog 13 #[.int .i64 a, .int .i64 n] w fun e w' => e = .returned (.int .i64 x) ∧ w' = w := by
  rw [← hx]
  exact Picked_any a n w h0 h1 hb.1 hb.2
theorem picked_is (a n : Int) (hn : 0 < n) : ∃ x : Nat, a % n = x ∧ (x : Int) < n := by
  have g1 := Int.emod_nonneg a (show n ≠ 0 by omega)
  have g2 := Int.emod_lt_of_pos a hn
  exact ⟨(a % n).toNat, by omega, by omega⟩
end Go.Proofs.Ythgbfakmkdifbaa
