/-
  mat.Rank and mat.Invert of square matrices of elements.
-/
import Derived.Test.YthgbfakmkdifbaaChecked
import Derived.WalkKit
import Derived.Test.YthgbfakmkdifbaaMatE
import Derived.Test.YthgbfakmkdifbaaMatRank
import Derived.Test.YthgbfakmkdifbaaKeeps
namespace Go.Proofs.Ythgbfakmkdifbaa
open Go.RowKit Go.Deep E
theorem elsOf_ev (M : Nat → Nat → E) : elsOf (fun r i => ev (M r i)) = M := funext fun _ => funext fun _ => of_ev _
theorem Invert_yes (a : Option Addr) (n c : Nat) (A : Nat → Option Addr) (C : Nat → Nat) (M : Nat → Nat → E) (w : World) (hn : 1 ≤ n ∧ n ≤ 8) (h : Mat w a n A (fun _ => n) C fun r i => ev (M r i)) (hr : (redTo n M n).2 = n) :
    Calls Try.prog 87 #[.slice a n c] w fun e w' => MatRes w' e n n (invM n M) 0 ∧ Ext w w' := by
  have k := Invert_any a n c A (fun _ => n) C _ w (by omega) h
  have hz : ¬ (redTo n (wide n (elsOf fun r i => ev (M r i))) n).2 < n := by rw [elsOf_ev, wide_rank, hr]; omega
  rw [(inv_ok (mayB_E n n M hn hn) rfl hz).1, (inv_ok (mayB_E n n M hn hn) rfl hz).2, elsOf_ev] at k
  exact k
theorem Invert_no (a : Option Addr) (n c : Nat) (A : Nat → Option Addr) (C : Nat → Nat) (M : Nat → Nat → E) (w : World) (hn : 1 ≤ n ∧ n ≤ 8) (h : Mat w a n A (fun _ => n) C fun r i => ev (M r i)) (hr : (redTo n M n).2 < n) :
    Calls Try.prog 87 #[.slice a n c] w fun e w' => MatRes w' e 0 n (invM n M) 10 ∧ Ext w w' := by
  have k := Invert_any a n c A (fun _ => n) C _ w (by omega) h
  have hz : (redTo n (wide n (elsOf fun r i => ev (M r i))) n).2 < n := by rw [elsOf_ev, wide_rank]; exact hr
  rw [(inv_zero (mayB_E n n M hn hn) rfl hz).1, (inv_zero (mayB_E n n M hn hn) rfl hz).2, elsOf_ev] at k
  exact k
theorem side_bd (a : Int) : 1 ≤ 1 + (a % 8).toNat ∧ 1 + (a % 8).toNat ≤ 8 := by
  have h2 := Int.emod_lt_of_pos a (show (0 : Int) < 8 by omega)
  omega
end Go.Proofs.Ythgbfakmkdifbaa
