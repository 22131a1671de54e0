/-
  At every list of columns and every number par.Encode and the document's own answer are the same; no condition.
-/
import Derived.Test.YtbngmmlmhmmpbaaRows
import Derived.WalkKit
import Derived.ProofKit
import Derived.OpenShut
import Derived.ChangeOld
import Derived.Below
import Derived.BigQuiet
import Derived.Deep.CutRange
import Derived.Deep.QuietTactic
import Derived.Deep.RegionLaw
import Derived.Test.YtbngmmlmhmmpbaaOpn
import Derived.Test.YtbngmmlmhmmpbaaChecked
import Derived.Test.YtbngmmlmhmmpbaaRefEncode
import Derived.Test.YtbngmmlmhmmpbaaSameB
namespace Go.Proofs.Ytbngmmlmhmmpbaa.parEncodes
open Go.ChangeShapes Go.WideShapes Go.ChangeAt Go.RowKit Go.Deep E
set_option linter.unusedVariables false
theorem encN_le (n : Nat) (L : Nat → Nat) (p : Int) : encN n L p ≤ 3 := by
  unfold encN encOk
  cases h : pmayB n L && fromTo 1 3 p
  · rw [if_neg (by simp)]; omega
  · rw [if_pos rfl]
    rw [Bool.and_eq_true] at h
    have := fromTo_bd h.2
    omega
theorem encN_len (n : Nat) (L : Nat → Nat) (p : Int) (h : 0 < encN n L p) : L 0 ≤ 4096 := by
  unfold encN encOk at h
  cases hb : pmayB n L && fromTo 1 3 p
  · rw [if_neg (by rw [hb]; simp)] at h; omega
  · rw [Bool.and_eq_true] at hb
    have h1 := hb.1
    unfold pmayB at h1
    rw [Bool.and_eq_true] at h1
    have h2 := fromTo_bd h1.1
    exact (alikeB_of h1.2 (r := 0) (by omega)).2
set_option maxRecDepth 100000 in
set_option maxHeartbeats 4000000 in
theorem walk (a0 : Option Addr) (n0 c0 : Nat) (A0 : Nat → Option Addr) (L0 C0 : Nat → Nat) (F0 : Nat → Nat → E) (a1 : Int) (w : World) (h0 : Cols w a0 n0 A0 L0 C0 F0) (b0 : n0 ≤ c0 ∧ c0 ≤ 9223372036854775807 ∧ ∀ r, r < n0 → L0 r ≤ C0 r ∧ C0 r ≤ 9223372036854775807) (w1 : -9223372036854775808 ≤ a1 ∧ a1 ≤ 9223372036854775807) :
    Calls Try.prog 4 #[.slice a0 n0 c0, .int .i64 a1] w fun e w' => e = .returned (.bool true) ∧ Ext w w' := by
  have HH : Hid (Cols w a0 n0 A0 L0 C0 F0) := h0
  have hn : n0 ≤ 9223372036854775807 := Nat.le_trans b0.1 b0.2.1
  clear h0 b0
  go_enter Try.func4, Try.ntmps4
  go_wp2_with fail
  refine (Encode_any a0 n0 c0 A0 L0 C0 F0 a1 _ hn HH.out).mono ?_
  rintro e w1 ⟨⟨x, cx, Ax, Cx, rfl, hX⟩, hx1⟩
  have HX : Hid (Cols w1 x (encN n0 L0 a1) Ax (fun _ => L0 0) Cx (enc n0 F0)) := hX
  clear hX
  go_wp2_with fail
  refine (ParEncode_any a0 n0 c0 A0 L0 C0 F0 a1 _ hn (HH.out.ext hx1)).mono ?_
  rintro e w2 ⟨⟨y, cy, Ay, Cy, rfl, hY⟩, hx2⟩
  have HY : Hid (Cols w2 y (encN n0 L0 a1) Ay (fun _ => L0 0) Cy (enc n0 F0)) := hY
  clear hY
  have hle := encN_le n0 L0 a1
  go_wp2_with fail
  refine (sameListsL_any x y (encN n0 L0 a1) cx cy Ax Ay _ _ Cx Cy _ _ _ (by omega) (HX.out.ext hx2) HY.out (fun r hr => ⟨rfl, ?_, fun i _ => rfl⟩)).mono ?_
  · have := encN_len n0 L0 a1 (by omega)
    show L0 0 ≤ _
    omega
  rintro e w3 ⟨rfl, hx3⟩
  go_wp2_with fail
  go_ret
  exact ⟨ret_boolB (by simp), (hx1.trans hx2).trans hx3⟩
end Go.Proofs.Ytbngmmlmhmmpbaa.parEncodes
