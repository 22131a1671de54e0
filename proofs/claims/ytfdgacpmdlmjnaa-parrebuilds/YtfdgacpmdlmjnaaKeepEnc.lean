/-
  par.Encode of columns that may be, all of one length.
-/
import Derived.Test.YtfdgacpmdlmjnaaChecked
import Derived.WalkKit
import Derived.Test.YtfdgacpmdlmjnaaParEncode
namespace Go.Proofs.Ytfdgacpmdlmjnaa
open Go.RowKit Go.Deep E
theorem enc_const {N m q : Nat} (hN : 1 ≤ N ∧ N ≤ 12) (hm : m ≤ 4096) (hq : 1 ≤ q ∧ q ≤ 3) : encN N (fun _ => m) q = q ∧ encE N (fun _ => m) q = 0 := by
  have h1 : pmayB N (fun _ => m) = true := by
    unfold pmayB
    rw [fromTo_true (by omega), alikeB_true fun r _ => by unfold colB; simp; exact hm]
    rfl
  have h2 : fromTo 1 3 (q : Int) = true := fromTo_true (by omega)
  unfold encN encE encOk
  rw [h1, h2]
  exact ⟨rfl, rfl⟩
theorem sm_enc (n : Nat) (X Y : Nat → Nat → E) (j k : Nat) : enc n (fun i k => ad (X i k) (Y i k)) j k = ad (enc n X j k) (enc n Y j k) := by
  unfold enc
  rw [← sm_ad]
  exact sm_congr fun i _ => mu_ad _ _ _
end Go.Proofs.Ytfdgacpmdlmjnaa
