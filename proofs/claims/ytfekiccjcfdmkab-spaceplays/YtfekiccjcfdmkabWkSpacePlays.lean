/-
  space.Play answers what the document's own function answers: what is told of each deed, the log and the error, at every number and every list of deeds; no condition.
-/
import Derived.Test.YtfekiccjcfdmkabRows
import Derived.WalkKit
import Derived.ProofKit
import Derived.OpenShut
import Derived.ChangeOld
import Derived.Below
import Derived.BigQuiet
import Derived.Deep.CutRange
import Derived.Deep.QuietTactic
import Derived.Deep.RegionLaw
import Derived.Test.YtfekiccjcfdmkabOpn
import Derived.Test.YtfekiccjcfdmkabChecked
import Derived.Test.YtfekiccjcfdmkabSpaceOpen
import Derived.Test.YtfekiccjcfdmkabSpaceP
import Derived.Test.YtfekiccjcfdmkabSameF
import Derived.Test.YtfekiccjcfdmkabRefPlayed
namespace Go.Proofs.Ytfekiccjcfdmkab.spacePlays
open Go.ChangeShapes Go.WideShapes Go.ChangeAt Go.RowKit
set_option linter.unusedVariables false

set_option maxRecDepth 100000 in
set_option maxHeartbeats 4000000 in
theorem walk (a0 : Int) (a1 : Option Addr) (n1 c1 : Nat) (L1 : List (Int × Int × Int)) (w : World) (w0 : -9223372036854775808 ≤ a0 ∧ a0 ≤ 9223372036854775807) (l1 : L1.length = n1) (h1 : Tri w a1 (L1.map int3)) (b1 : ∀ r, r ∈ L1 → InI64 r.1 ∧ InI64 r.2.1 ∧ InI64 r.2.2) (k1 : n1 ≤ c1 ∧ c1 ≤ 9223372036854775807) :
    Calls Try.prog 4 #[.int .i64 a0, .slice a1 n1 c1] w fun e w' => e = .returned (.bool true) ∧ Ext w w' := by
  have HR : Hid (∀ w', Ext w w' → Tri w' a1 (fndV L1)) := fun w' q => h1.ext q
  have HBd : Hid (BddD L1) := fun r hr => (b1 r hr).2
  have HA := Play_any a0 a1 n1 c1 L1 w l1 (by omega) h1 HBd.out
  have HL : Hid (L1.length = n1) := l1
  have hn1 : n1 ≤ 9223372036854775807 := by omega
  clear h1 l1
  go_enter Try.func4, Try.ntmps4
  go_wp2_with fail
  refine HA.mono ?_
  rintro e z1 ⟨v1, u1, er1, rfl, hs1, hx1⟩
  have HS1 : Hid (PlayRes (playQ a0 L1) v1 u1 er1 z1) := hs1
  have HB := Played_any a0 a1 n1 c1 L1 z1 HL.out hn1 (HR.out _ hx1) HBd.out
  clear hs1 HA
  go_wp2_with fail
  refine HB.mono ?_
  rintro e z2 ⟨v2, u2, er2, rfl, hs2, hx2⟩
  obtain ⟨rfl, a, b, a', b', c, d, c', d', F, R, rfl, rfl, rfl, rfl, hF, hRl, t1, t2, t3, t4⟩ := playSame HS1.out hs2 hx2 (Ext.refl _)
  have HC := lawSameF_any a a' F.length c c' F z2 rfl (by omega) t1 t2
  have HD : Hid (∀ w', Ext z2 w' → Calls Try.prog 16 #[.slice b R.length d, .slice b' R.length d'] w' fun e w'' => e = .returned (.bool true) ∧ Ext w' w'') := fun w' q => lawSameRec_any b b' R.length d d' R w' rfl (by omega) (t3.ext q) (t4.ext q)
  clear hs2 HB HS1 t1 t2 t3 t4
  go_wp2_with fail
  refine HC.mono ?_
  rintro e z3 ⟨rfl, hx3⟩
  go_wp2_with fail
  refine (HD.out _ hx3).mono ?_
  rintro e z4 ⟨rfl, hx4⟩
  go_wp2_with fail
  go_ret
  exact ⟨ret_boolS (by simp), ((hx1.trans hx2).trans hx3).trans hx4⟩
end Go.Proofs.Ytfekiccjcfdmkab.spacePlays
