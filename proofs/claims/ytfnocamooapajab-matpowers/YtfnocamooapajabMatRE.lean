/-
  mat.Rank and mat.Invert of square matrices of elements.
-/
import Derived.Test.YtfnocamooapajabChecked
import Derived.WalkKit
import Derived.Test.YtfnocamooapajabMatE
import Derived.Test.YtfnocamooapajabMatRank
import Derived.Test.YtfnocamooapajabKeepMat
namespace Go.Proofs.Ytfnocamooapajab
open Go.RowKit Go.Deep E
theorem elsOf_ev (M : Nat → Nat → E) : elsOf (fun r i => ev (M r i)) = M := funext fun _ => funext fun _ => of_ev _
theorem Rank_E (a : Option Addr) (n c : Nat) (A : Nat → Option Addr) (C : Nat → Nat) (M : Nat → Nat → E) (w : World) (hn : 1 ≤ n ∧ n ≤ 8) (h : Mat w a n A (fun _ => n) C fun r i => ev (M r i)) :
    Calls Try.prog 9 #[.slice a n c] w fun e w' => e = .returned (.tuple #[.int .i64 (redTo n M n).2, .int .i64 0]) ∧ Ext w w' := by
  have k := Rank_any a n c A (fun _ => n) C _ w h
  unfold rankV rankE at k
  rw [mayB_E n n M hn hn, elsOf_ev] at k
  exact k
theorem Invert_yes (a : Option Addr) (n c : Nat) (A : Nat → Option Addr) (C : Nat → Nat) (M : Nat → Nat → E) (w : World) (hn : 1 ≤ n ∧ n ≤ 8) (h : Mat w a n A (fun _ => n) C fun r i => ev (M r i)) (hr : (redTo n M n).2 = n) :
    Calls Try.prog 8 #[.slice a n c] w fun e w' => MatRes w' e n n (invM n M) 0 ∧ Ext w w' := by
  have k := Invert_any a n c A (fun _ => n) C _ w (by omega) h
  have hz : ¬ (redTo n (wide n (elsOf fun r i => ev (M r i))) n).2 < n := by rw [elsOf_ev, wide_rank, hr]; omega
  rw [(inv_ok (mayB_E n n M hn hn) rfl hz).1, (inv_ok (mayB_E n n M hn hn) rfl hz).2, elsOf_ev] at k
  exact k
theorem Invert_no (a : Option Addr) (n c : Nat) (A : Nat → Option Addr) (C : Nat → Nat) (M : Nat → Nat → E) (w : World) (hn : 1 ≤ n ∧ n ≤ 8) (h : Mat w a n A (fun _ => n) C fun r i => ev (M r i)) (hr : (redTo n M n).2 < n) :
    Calls Try.prog 8 #[.slice a n c] w fun e w' => MatRes w' e 0 n (invM n M) 10 ∧ Ext w w' := by
  have k := Invert_any a n c A (fun _ => n) C _ w (by omega) h
  have hz : (redTo n (wide n (elsOf fun r i => ev (M r i))) n).2 < n := by rw [elsOf_ev, wide_rank]; exact hr
  rw [(inv_zero (mayB_E n n M hn hn) rfl hz).1, (inv_zero (mayB_E n n M hn hn) rfl hz).2, elsOf_ev] at k
  exact k
theorem side_nat (a : Int) (x : Nat) (w : World) (ha : -9223372036854775808 ≤ a ∧ a ≤ 9223372036854775807) (hx : 1 + (a % 8).toNat = x) :
    Calls Try.prog 7 #[.int .i64 a] w fun e w' => e = .returned (.int .i64 x) ∧ w' = w := by
  rw [← hx]; exact kside_any a w ha
theorem side_bd (a : Int) : 1 ≤ 1 + (a % 8).toNat ∧ 1 + (a % 8).toNat ≤ 8 := by
  have h2 := Int.emod_lt_of_pos a (show (0 : Int) < 8 by omega)
  omega
end Go.Proofs.Ytfnocamooapajab
