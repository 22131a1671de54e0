/-
  span.Both answers what the document's own function answers, list and error, at every two lists of ranges; no condition.
-/
import Derived.Test.YtfekiccjcfdmkaaRows
import Derived.WalkKit
import Derived.ProofKit
import Derived.OpenShut
import Derived.ChangeOld
import Derived.Below
import Derived.BigQuiet
import Derived.Deep.CutRange
import Derived.Deep.QuietTactic
import Derived.Deep.RegionLaw
import Derived.Test.YtfekiccjcfdmkaaOpn
import Derived.Test.YtfekiccjcfdmkaaChecked
import Derived.Test.YtfekiccjcfdmkaaSpanOpen
import Derived.Test.YtfekiccjcfdmkaaRefSpan
import Derived.Test.YtfekiccjcfdmkaaSameR
import Derived.Test.YtfekiccjcfdmkaaSpanOps2
namespace Go.Proofs.Ytfekiccjcfdmkaa.spanBoths
open Go.ChangeShapes Go.WideShapes Go.ChangeAt Go.RowKit
set_option linter.unusedVariables false
theorem op_both (L M : List (Int × Int)) (k : Int) : (memL k L ∧ memL k M) ↔ opBoth (memB k L) (memB k M) = true := by
  rw [← memB_iff, ← memB_iff]
  unfold opBoth
  cases memB k L <;> cases memB k M <;> simp
set_option maxRecDepth 100000 in
set_option maxHeartbeats 4000000 in
theorem walk (a0 : Option Addr) (n0 c0 : Nat) (L0 : List (Int × Int)) (a1 : Option Addr) (n1 c1 : Nat) (L1 : List (Int × Int)) (w : World) (l0 : L0.length = n0) (h0 : Rngs w a0 L0) (b0 : Bdd L0) (k0 : n0 ≤ c0 ∧ c0 ≤ 9223372036854775807) (l1 : L1.length = n1) (h1 : Rngs w a1 L1) (b1 : Bdd L1) (k1 : n1 ≤ c1 ∧ c1 ≤ 9223372036854775807) :
    Calls Try.prog 5 #[.slice a0 n0 c0, .slice a1 n1 c1] w fun e w' => e = .returned (.bool true) ∧ Ext w w' := by
  have HR : Hid (∀ w', Ext w w' → Rngs w' a0 L0) := fun w' q => h0.ext q
  have HA := SpBoth_any a0 a1 n0 n1 c0 c1 L0 L1 w l0 (by omega) l1 (by omega) h0 h1 b0 b1
  have HL : Hid (L0.length = n0) := l0
  have hn0 : n0 ≤ 9223372036854775807 := by omega
  have HR1 : Hid (∀ w', Ext w w' → Rngs w' a1 L1) := fun w' q => h1.ext q
  have HL1 : Hid (L1.length = n1) := l1
  have hn1 : n1 ≤ 9223372036854775807 := by omega
  clear h0 l0 h1 l1
  go_enter Try.func5, Try.ntmps5
  go_wp2_with fail
  refine HA.mono ?_
  rintro e w1 ⟨v1, er1, rfl, hs1, hx1⟩
  have HS1 : Hid (SetRes (mayB L0 && mayB L1) (fun q => memL q L0 ∧ memL q L1) v1 er1 w1) := hs1
  have HB := RSpanBoth_any a0 a1 n0 n1 c0 c1 L0 L1 w1 HL.out hn0 HL1.out hn1 (HR.out _ hx1) (HR1.out _ hx1)
  clear hs1 HA
  go_wp2_with fail
  refine HB.mono ?_
  rintro e w2 ⟨v2, er2, rfl, hs2, hx2⟩
  obtain ⟨rfl, a, b, c, d, L, rfl, rfl, hL, hr1, hr2⟩ := HS1.out.same hs2 hx2 (Ext.refl _) (fun _ k => op_both L0 _ k)
  have HC := lawSameR_any a b L.length c d L w2 rfl (by omega) hr1 hr2
  clear hs2 HB HS1 hr1 hr2
  go_wp2_with fail
  refine HC.mono ?_
  rintro e w3 ⟨rfl, hx3⟩
  go_wp2_with fail
  go_ret
  exact ⟨ret_boolS (by simp), (hx1.trans hx2).trans hx3⟩
end Go.Proofs.Ytfekiccjcfdmkaa.spanBoths
