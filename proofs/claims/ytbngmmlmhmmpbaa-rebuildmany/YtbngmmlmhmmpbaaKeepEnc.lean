/-
  par.Encode of columns that may be, all of one length.
-/
import Derived.Test.YtbngmmlmhmmpbaaChecked
import Derived.WalkKit
import Derived.Test.YtbngmmlmhmmpbaaParEncode
namespace Go.Proofs.Ytbngmmlmhmmpbaa
open Go.RowKit Go.Deep E
theorem enc_const {N m q : Nat} (hN : 1 ≤ N ∧ N ≤ 12) (hm : m ≤ 4096) (hq : 1 ≤ q ∧ q ≤ 3) : encN N (fun _ => m) q = q ∧ encE N (fun _ => m) q = 0 := by
  have h1 : pmayB N (fun _ => m) = true := by
    unfold pmayB
    rw [fromTo_true (by omega), alikeB_true fun r _ => by unfold colB; simp; exact hm]
    rfl
  have h2 : fromTo 1 3 (q : Int) = true := fromTo_true (by omega)
  unfold encN encE encOk
  rw [h1, h2]
  exact ⟨rfl, rfl⟩
theorem Encode_E (a : Option Addr) (N c : Nat) (A : Nat → Option Addr) (C : Nat → Nat) (D : Nat → Nat → E) (m q : Nat) (w : World) (hN : 1 ≤ N ∧ N ≤ 12) (hm : m ≤ 4096) (hq : 1 ≤ q ∧ q ≤ 3) (h : Cols w a N A (fun _ => m) C D) :
    Calls Try.prog 11 #[.slice a N c, .int .i64 q] w fun e w' => ColsRes w' e q m (enc N D) 0 ∧ Ext w w' := by
  have k := Encode_any a N c A (fun _ => m) C D q w (by omega) h
  rw [(enc_const hN hm hq).1, (enc_const hN hm hq).2] at k
  exact k
theorem sm_enc (n : Nat) (X Y : Nat → Nat → E) (j k : Nat) : enc n (fun i k => ad (X i k) (Y i k)) j k = ad (enc n X j k) (enc n Y j k) := by
  unfold enc
  rw [← sm_ad]
  exact sm_congr fun i _ => mu_ad _ _ _
end Go.Proofs.Ytbngmmlmhmmpbaa
