/-
  gf.Pow at every argument, as a plain function; the world only grows.
-/
import Derived.Test.YtfdgacpmdlmjnaaChecked
import Derived.WalkKit
import Derived.Test.YtfdgacpmdlmjnaaGfFaces
namespace Go.Proofs.Ytfdgacpmdlmjnaa
open Go.RowKit
def powB (a n : Int) : Bool := elB a && decide (0 ≤ n)
def powV (a n : Int) : Int := if powB a n then ((Gf.gpow a.toNat n.toNat : Nat) : Int) else 0
def powE (a n : Int) : Int := if powB a n then 0 else 2
theorem power_int (a n : Int) (w : World) (ha : 0 ≤ a) (ha2 : a < 256) (hn : 0 ≤ n) (hn2 : n < 9223372036854775808) :
    Calls Try.prog 82 #[.int .i64 a, .int .i64 n] w fun e w' => e = .returned (.int .i64 (Gf.gpow a.toNat n.toNat)) ∧ w' = w := by
  obtain ⟨x, rfl⟩ := Int.eq_ofNat_of_zero_le ha
  obtain ⟨y, rfl⟩ := Int.eq_ofNat_of_zero_le hn
  exact power_any x y w (by omega) (by omega)
set_option maxRecDepth 100000 in
theorem Pow_any (a n : Int) (w : World) (hn : n < 9223372036854775808) :
    Calls Try.prog 72 #[.int .i64 a, .int .i64 n] w fun e w' => e = .returned (.tuple #[.int .i64 (powV a n), .int .i64 (powE a n)]) ∧ Ext w w' := by
  cases ha : elB a
  · go_enter Try.func72, Try.ntmps72
    go_wp2_with fail
    refine (elements_one a _ w).mono ?_
    rintro e w' ⟨rfl, rfl⟩
    go_wp2_with fail
    go_ret2
    exact ⟨ret2 (by simp [powV, powB, ha]) (by simp [powE, powB, ha]), (Ext.refl _).alloc _ _⟩
  · have hd := elB_bd a ha
    by_cases h0 : n < 0
    · go_enter Try.func72, Try.ntmps72
      go_wp2_with fail
      refine (elements_one a _ w).mono ?_
      rintro e w' ⟨rfl, rfl⟩
      go_wp2_with fail
      go_ret2
      exact ⟨ret2 (by simp [powV, powB]; omega) (by simp [powE, powB]; omega), (Ext.refl _).alloc _ _⟩
    · have hB : powB a n = true := by unfold powB; rw [ha]; simp; omega
      have h1 : 0 ≤ n := by omega
      go_enter Try.func72, Try.ntmps72
      go_wp2_with fail
      refine (elements_one a _ w).mono ?_
      rintro e w' ⟨rfl, rfl⟩
      go_wp2_with fail
      refine (power_int a n _ hd.1 hd.2 h1 hn).mono ?_
      rintro e w' ⟨rfl, rfl⟩
      go_wp2_with fail
      go_ret2
      exact ⟨ret2 (by rw [powV, if_pos hB]) (by rw [powE, if_pos hB]), (Ext.refl _).alloc _ _⟩
end Go.Proofs.Ytfdgacpmdlmjnaa
