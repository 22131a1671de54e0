/-
  mat.Apply of a matrix of elements and a list that fits.
-/
import Derived.Test.YtfnocamooapajaaChecked
import Derived.WalkKit
import Derived.Test.YtfnocamooapajaaMatE
import Derived.Test.YtfnocamooapajaaMatApply
namespace Go.Proofs.Ytfnocamooapajaa
open Go.RowKit Go.Deep E
theorem Apply_E (a a' : Option Addr) (n c m c' : Nat) (A : Nat → Option Addr) (C : Nat → Nat) (M : Nat → Nat → E) (g : Nat → E) (w : World) (hn : 1 ≤ n ∧ n ≤ 8) (hm : 1 ≤ m ∧ m ≤ 8)
    (h : Mat w a n A (fun _ => m) C fun r i => ev (M r i)) (h' : Ints w a' m fun i => ev (g i)) :
    Calls Try.prog 14 #[.slice a n c, .slice a' m c'] w fun e w' => IntsRes w' e n (fun r => ev (dot m (M r) g)) 0 ∧ Ext w w' := by
  have k := Apply_any a n c A (fun _ => m) C _ a' m c' _ w h h' (by omega)
  have e : appF (fun _ => m) (fun r i => ev (M r i)) (fun i => ev (g i)) = fun r => ev (dot m (M r) g) := by
    funext r
    exact congrArg ev (dot_congr (fun i _ => of_ev _) (fun i _ => of_ev _))
  rw [(app_ok (mayB_E n m M hn hm) (allB_E m g) rfl).1, (app_ok (mayB_E n m M hn hm) (allB_E m g) rfl).2, e] at k
  exact k
end Go.Proofs.Ytfnocamooapajaa
