/-
  At every list of columns, every number and every list of places par.Rebuild and the document's own answer are the same; no condition.
-/
import Derived.Test.YtfdgacpmdlmjnaaRows
import Derived.WalkKit
import Derived.ProofKit
import Derived.OpenShut
import Derived.ChangeOld
import Derived.Below
import Derived.BigQuiet
import Derived.Deep.CutRange
import Derived.Deep.QuietTactic
import Derived.Deep.RegionLaw
import Derived.Test.YtfdgacpmdlmjnaaOpn
import Derived.Test.YtfdgacpmdlmjnaaChecked
import Derived.Test.YtfdgacpmdlmjnaaRefReb
import Derived.Test.YtfdgacpmdlmjnaaSameB
namespace Go.Proofs.Ytfdgacpmdlmjnaa.parRebuilds
open Go.ChangeShapes Go.WideShapes Go.ChangeAt Go.RowKit Go.Deep E
set_option linter.unusedVariables false
theorem kept_size {n : Nat} {L : Nat → Nat} {nl : Nat} {fl : Nat → Int} (h : 0 < (KL n fun k => hasB nl fl k).length) (hL : ∀ r, r < n → L r ≤ 9223372036854775807) : sizeOfKept n L nl fl ≤ 9223372036854775807 := hL _ (KL_at h).1
set_option maxRecDepth 100000 in
set_option maxHeartbeats 4000000 in
theorem walk (a0 : Option Addr) (n0 c0 : Nat) (A0 : Nat → Option Addr) (L0 C0 : Nat → Nat) (F0 : Nat → Nat → E) (a1 : Int) (a2 : Option Addr) (n2 c2 : Nat) (f2 : Nat → Int) (w : World) (h0 : Cols w a0 n0 A0 L0 C0 F0) (b0 : n0 ≤ c0 ∧ c0 ≤ 9223372036854775807 ∧ ∀ r, r < n0 → L0 r ≤ C0 r ∧ C0 r ≤ 9223372036854775807) (w1 : -9223372036854775808 ≤ a1 ∧ a1 ≤ 9223372036854775807) (h2 : Ints w a2 n2 f2) (b2 : n2 ≤ 9223372036854775807 ∧ ∀ i, i < n2 → -9223372036854775808 ≤ f2 i ∧ f2 i ≤ 9223372036854775807) (z2 : n2 ≤ c2 ∧ c2 * 8 ≤ 140737488351232) :
    Calls Try.prog 3 #[.slice a0 n0 c0, .int .i64 a1, .slice a2 n2 c2] w fun e w' => e = .returned (.bool true) ∧ Ext w w' := by
  have HH : Hid (Cols w a0 n0 A0 L0 C0 F0) := h0
  have HL : Hid (Ints w a2 n2 f2) := h2
  have hn : n0 ≤ 9223372036854775807 := Nat.le_trans b0.1 b0.2.1
  have HLB : Hid (∀ r, r < n0 → L0 r ≤ 9223372036854775807) := fun r hr => Nat.le_trans (b0.2.2 r hr).1 (b0.2.2 r hr).2
  have hn2 : n2 ≤ c2 ∧ c2 ≤ 9223372036854775807 := ⟨z2.1, by omega⟩
  clear h0 b0 h2 b2 z2
  by_cases he : rebE n0 L0 a1 n2 f2 = 0
  · obtain ⟨q, N, rfl, rfl, hq1, hq3, hN1, hN2, hal, _, _, hnq⟩ := rebE_ok he
    have HE : Hid (rebE (N + q) L0 q n2 f2 = 0) := he
    have HA : Hid (keptAlike (N + q) L0 n2 f2 = true) := hal
    have hsz : sizeOfKept (N + q) L0 n2 f2 ≤ 9223372036854775807 := by
      refine kept_size ?_ HLB.out
      have hsp := split_len (N + q) fun k => hasB n2 f2 k
      have hgl := gone_len (N + q) n2 f2
      omega
    have HZ : Hid (sizeOfKept (N + q) L0 n2 f2 ≤ 9223372036854775807) := hsz
    clear he hal hsz
    go_enter Try.func3, Try.ntmps3
    go_wp2_with fail
    refine (Rebuild_ok a0 (N + q) c0 A0 L0 C0 F0 q N a2 n2 c2 f2 _ rfl ⟨hq1, hq3⟩ ⟨hN1, hN2⟩ HA.out hnq HH.out HL.out HE.out).mono ?_
    rintro e w1 ⟨⟨x, cx, Ax, Cx, rfl, hX⟩, hx1⟩
    have HX : Hid (Cols w1 x (N + q) Ax (fun _ => sizeOfKept (N + q) L0 n2 f2) Cx (rebD N q n2 f2 F0)) := hX
    clear hX
    go_wp2_with fail
    refine (ParRebuild_any a0 (N + q) c0 A0 L0 C0 F0 q a2 n2 c2 f2 _ hn hn2 HLB.out ⟨by omega, by omega⟩ (HH.out.ext hx1) (HL.out.ext hx1)).mono ?_
    rintro e w2 ⟨hr, hx2⟩
    unfold RebRes at hr
    rw [if_pos HE.out, Int.toNat_natCast, Nat.add_sub_cancel] at hr
    obtain ⟨y, cy, Ay, Cy, rfl, hY⟩ := hr
    have HY : Hid (Cols w2 y (N + q) Ay (fun _ => sizeOfKept (N + q) L0 n2 f2) Cy (rebD N q n2 f2 F0)) := hY
    clear hY
    go_wp2_with fail
    refine (sameListsL_any x y (N + q) cx cy Ax Ay _ _ Cx Cy _ _ _ (by omega) (HX.out.ext hx2) HY.out (fun r hr => ⟨rfl, HZ.out, fun i _ => rfl⟩)).mono ?_
    rintro e w3 ⟨rfl, hx3⟩
    go_wp2_with fail
    go_ret
    exact ⟨ret_boolB (by simp), (hx1.trans hx2).trans hx3⟩
  · have HE : Hid (¬ rebE n0 L0 a1 n2 f2 = 0) := he
    clear he
    go_enter Try.func3, Try.ntmps3
    go_wp2_with fail
    refine (Rebuild_no a0 n0 c0 A0 L0 C0 F0 a1 a2 n2 c2 f2 _ hn (by omega) HH.out HL.out HE.out).mono ?_
    rintro e w1 ⟨rfl, hx1⟩
    go_wp2_with fail
    refine (ParRebuild_any a0 n0 c0 A0 L0 C0 F0 a1 a2 n2 c2 f2 _ hn hn2 HLB.out ⟨by omega, by omega⟩ (HH.out.ext hx1) (HL.out.ext hx1)).mono ?_
    rintro e w2 ⟨hr, hx2⟩
    unfold RebRes at hr
    rw [if_neg HE.out] at hr
    subst hr
    go_wp2_with fail
    refine (sameListsL_any none none 0 0 0 (fun _ => none) (fun _ => none) (fun _ => 0) (fun _ => 0) (fun _ => 0) (fun _ => 0) F0 F0 _ (by omega) (fun r hr => by omega) (fun r hr => by omega) (fun r hr => by omega)).mono ?_
    rintro e w3 ⟨rfl, hx3⟩
    go_wp2_with fail
    go_ret
    exact ⟨ret_boolB (by simp), (hx1.trans hx2).trans hx3⟩
end Go.Proofs.Ytfdgacpmdlmjnaa.parRebuilds
