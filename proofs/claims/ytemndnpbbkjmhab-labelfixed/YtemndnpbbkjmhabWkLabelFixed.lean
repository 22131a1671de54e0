/-
  What is read as a label is the sector of what was read; what is not is told as nothing: at every list of bytes; no condition.
-/
import Derived.Test.YtemndnpbbkjmhabRows
import Derived.WalkKit
import Derived.ProofKit
import Derived.OpenShut
import Derived.ChangeOld
import Derived.Below
import Derived.BigQuiet
import Derived.Deep.CutRange
import Derived.Deep.QuietTactic
import Derived.Deep.RegionLaw
import Derived.Test.YtemndnpbbkjmhabOpn
import Derived.Test.YtemndnpbbkjmhabChecked
import Derived.Test.YtemndnpbbkjmhabLabOf
import Derived.Test.YtemndnpbbkjmhabLabDec2
import Derived.Test.YtemndnpbbkjmhabKeepFlet
import Derived.Test.YtemndnpbbkjmhabSameB
namespace Go.Proofs.Ytemndnpbbkjmhab.labelFixed
open Go.ChangeShapes Go.WideShapes Go.ChangeAt Go.RowKit Go.Deep E
set_option linter.unusedVariables false

set_option maxRecDepth 100000 in
set_option maxHeartbeats 4000000 in
theorem walk (a0 : Option Addr) (n0 c0 : Nat) (f0 : Nat → E) (w : World) (h0 : Byts w a0 n0 f0) (b0 : n0 ≤ c0 ∧ c0 ≤ 9223372036854775807) (z0 : c0 * 1 ≤ 140737488351232) :
    Calls Try.prog 6 #[.slice a0 n0 c0] w fun e w' => e = .returned (.bool true) ∧ Ext w w' := by
  have HB : Hid (Byts w a0 n0 f0) := h0
  clear h0
  go_enter Try.func6, Try.ntmps6
  go_wp2_with (first | (at_builtin; refine append_vals w rfl (.const (.slice none 0 0)) (.tmp 8) 22 rfl w.heap.size 5 (.int .u8 0) 1 Try.underlying22 infoByte rfl (.slice none 0 0) 0 [] rfl (World.ownsRow_nil _ _ _ _) a0 n0 c0 (bvs f0) rfl HB.out (fun _ _ => rfl) (by omega) (by omega) (Nat.le_refl _) ?_) | go_in)
  intro v' w1 hown hgrow
  have hown' : w1.ownsRow w.heap.size 5 1 v' n0 ((List.range n0).map (bvs f0)) := by simpa using hown
  obtain ⟨ax, cx, rfl, hbx, hcx⟩ := own_room hown'
  have X1 : Hid (Ext w w1) := (Ext.refl w).grow hgrow fun _ hk => by cases hk
  have HX : Hid (Byts w1 ax n0 f0) := hbx
  clear hown hown' hgrow hbx
  go_wp2_with fail
  refine (Decode_any ax n0 cx f0 _ hcx HX.out).mono ?_
  rintro e w2 ⟨rfl, hx2⟩
  have X2 : Hid (Ext w w2) := X1.out.trans hx2
  clear hx2 X1 HX hcx
  by_cases hz : decE n0 f0 = 0
  · obtain ⟨h128, hs, hm, ho⟩ := decE_0 hz
    subst h128
    have hv : ∀ k, decV 128 f0 k = prs f0 k := fun k => by unfold decV; rw [if_pos hz]
    rw [hz, hv, hv, hv, hv, hv, hv, hv, hv, hv, hv, hv, hv, hv]
    have HSEC : Hid (∀ i, i < 128 → sec (prs f0) i = f0 i) := (own_all hs).2 ho
    have HM : Hid (mayL (prs f0) = true) := hm
    generalize hV : prs f0 = V at *
    clear hs hm ho hz hv hV
    have X3 : Hid (Ext w (w2.alloc (.cells #[.int .i64 (V 0), .int .i64 (V 1), .int .i64 (V 2), .int .i64 (V 3), .int .i64 (V 4), .int .i64 (V 5), .int .i64 (V 6), .int .i64 (V 7), .int .i64 (V 8), .int .i64 (V 9), .int .i64 (V 10), .int .i64 (V 11), .int .i64 (V 12)] 28))) := X2.out.alloc _ _
    have R3 : Hid ((w2.alloc (.cells #[.int .i64 (V 0), .int .i64 (V 1), .int .i64 (V 2), .int .i64 (V 3), .int .i64 (V 4), .int .i64 (V 5), .int .i64 (V 6), .int .i64 (V 7), .int .i64 (V 8), .int .i64 (V 9), .int .i64 (V 10), .int .i64 (V 11), .int .i64 (V 12)] 28)).rowIs w2.heap.size 28 13 (ivs V)) := row13_alloc w2 28 (ivs V)
    go_upto_region 2 with fail
    generalize w2.alloc (.cells #[.int .i64 (V 0), .int .i64 (V 1), .int .i64 (V 2), .int .i64 (V 3), .int .i64 (V 4), .int .i64 (V 5), .int .i64 (V 6), .int .i64 (V 7), .int .i64 (V 8), .int .i64 (V 9), .int .i64 (V 10), .int .i64 (V 11), .int .i64 (V 12)] 28) = w3 at *
    generalize w2.heap.size = gx at *
    go_wp2_with fail
    refine (LabelOf_any (fun _ => 0) (fun _ _ => by omega) _).mono ?_
    rintro e w4 ⟨rfl, hx4⟩
    go_wp2_with fail
    refine (LMay_any (lof fun _ => 0) _).mono ?_
    rintro e w5 ⟨rfl, hx5⟩
    rw [lof_may]
    have X5 : Hid (Ext w w5) := (X3.out.trans hx4).trans hx5
    have R5 : Hid (w5.rowIs gx 28 13 (ivs V)) := hx5.rowIs (hx4.rowIs R3.out)
    clear hx4 hx5 X3 R3 X2
    have c0 := R5.out.cell (i := 0) (by omega)
    have c1 := R5.out.cell (i := 1) (by omega)
    have c2 := R5.out.cell (i := 2) (by omega)
    have c3 := R5.out.cell (i := 3) (by omega)
    have c4 := R5.out.cell (i := 4) (by omega)
    have c5 := R5.out.cell (i := 5) (by omega)
    have c6 := R5.out.cell (i := 6) (by omega)
    have c7 := R5.out.cell (i := 7) (by omega)
    have c8 := R5.out.cell (i := 8) (by omega)
    have c9 := R5.out.cell (i := 9) (by omega)
    have c10 := R5.out.cell (i := 10) (by omega)
    have c11 := R5.out.cell (i := 11) (by omega)
    have c12 := R5.out.cell (i := 12) (by omega)
    unfold ivs at c0 c1 c2 c3 c4 c5 c6 c7 c8 c9 c10 c11 c12
    go_wp2_with fail
    clear c0 c1 c2 c3 c4 c5 c6 c7 c8 c9 c10 c11 c12
    refine (Encode_t V _ HM.out).mono ?_
    rintro e w6 ⟨⟨g, hg, rfl, hr⟩, hx6⟩
    have X6 : Hid (Ext w w6) := X5.out.trans hx6
    have B6 : Hid (Byts w6 (some ⟨g, 0, none⟩) 128 (sec V)) := Byts.row hr (Nat.le_refl _)
    clear hx6 hr hg X5 R5
    go_wp2_with fail
    refine (sameBytesK_any a0 (some ⟨g, 0, none⟩) 128 c0 128 f0 (sec V) _ (by omega) (HB.out.ext X6.out) B6.out fun i hi => (HSEC.out i hi).symm).mono ?_
    rintro e w7 ⟨rfl, hx7⟩
    have X7 : Hid (Ext w w7) := X6.out.trans hx7
    clear hx7
    go_wp2_with fail
    go_ret
    exact ⟨rfl, X7.out⟩
  · have hv : ∀ k, decV n0 f0 k = 0 := fun k => by unfold decV; rw [if_neg hz]
    rw [hv, hv, hv, hv, hv, hv, hv, hv, hv, hv, hv, hv, hv]
    have hne : (decE n0 f0 != 0) = true := by rw [bne_iff_ne]; exact hz
    generalize decE n0 f0 = E0 at *
    clear hz hv
    have X3 : Hid (Ext w (w2.alloc (.cells #[.int .i64 ((fun _ => (0 : Int)) 0), .int .i64 ((fun _ => (0 : Int)) 1), .int .i64 ((fun _ => (0 : Int)) 2), .int .i64 ((fun _ => (0 : Int)) 3), .int .i64 ((fun _ => (0 : Int)) 4), .int .i64 ((fun _ => (0 : Int)) 5), .int .i64 ((fun _ => (0 : Int)) 6), .int .i64 ((fun _ => (0 : Int)) 7), .int .i64 ((fun _ => (0 : Int)) 8), .int .i64 ((fun _ => (0 : Int)) 9), .int .i64 ((fun _ => (0 : Int)) 10), .int .i64 ((fun _ => (0 : Int)) 11), .int .i64 ((fun _ => (0 : Int)) 12)] 28))) := X2.out.alloc _ _
    have R3 : Hid ((w2.alloc (.cells #[.int .i64 ((fun _ => (0 : Int)) 0), .int .i64 ((fun _ => (0 : Int)) 1), .int .i64 ((fun _ => (0 : Int)) 2), .int .i64 ((fun _ => (0 : Int)) 3), .int .i64 ((fun _ => (0 : Int)) 4), .int .i64 ((fun _ => (0 : Int)) 5), .int .i64 ((fun _ => (0 : Int)) 6), .int .i64 ((fun _ => (0 : Int)) 7), .int .i64 ((fun _ => (0 : Int)) 8), .int .i64 ((fun _ => (0 : Int)) 9), .int .i64 ((fun _ => (0 : Int)) 10), .int .i64 ((fun _ => (0 : Int)) 11), .int .i64 ((fun _ => (0 : Int)) 12)] 28)).rowIs w2.heap.size 28 13 (ivs fun _ => 0)) := row13_alloc w2 28 (ivs fun _ => 0)
    go_upto_region 2 with fail
    generalize w2.alloc (.cells #[.int .i64 ((fun _ => (0 : Int)) 0), .int .i64 ((fun _ => (0 : Int)) 1), .int .i64 ((fun _ => (0 : Int)) 2), .int .i64 ((fun _ => (0 : Int)) 3), .int .i64 ((fun _ => (0 : Int)) 4), .int .i64 ((fun _ => (0 : Int)) 5), .int .i64 ((fun _ => (0 : Int)) 6), .int .i64 ((fun _ => (0 : Int)) 7), .int .i64 ((fun _ => (0 : Int)) 8), .int .i64 ((fun _ => (0 : Int)) 9), .int .i64 ((fun _ => (0 : Int)) 10), .int .i64 ((fun _ => (0 : Int)) 11), .int .i64 ((fun _ => (0 : Int)) 12)] 28) = w3 at *
    generalize w2.heap.size = gx at *
    go_wp2_with fail
    refine (LabelOf_any (fun _ => 0) (fun _ _ => by omega) _).mono ?_
    rintro e w4 ⟨rfl, hx4⟩
    go_wp2_with fail
    refine (LMay_any (lof fun _ => 0) _).mono ?_
    rintro e w5 ⟨rfl, hx5⟩
    rw [lof_may]
    have X5 : Hid (Ext w w5) := (X3.out.trans hx4).trans hx5
    have R5 : Hid (w5.rowIs gx 28 13 (ivs fun _ => 0)) := hx5.rowIs (hx4.rowIs R3.out)
    clear hx4 hx5 X3 R3 X2
    have c0 := R5.out.cell (i := 0) (by omega)
    have c1 := R5.out.cell (i := 1) (by omega)
    have c2 := R5.out.cell (i := 2) (by omega)
    have c3 := R5.out.cell (i := 3) (by omega)
    have c4 := R5.out.cell (i := 4) (by omega)
    have c5 := R5.out.cell (i := 5) (by omega)
    have c6 := R5.out.cell (i := 6) (by omega)
    have c7 := R5.out.cell (i := 7) (by omega)
    have c8 := R5.out.cell (i := 8) (by omega)
    have c9 := R5.out.cell (i := 9) (by omega)
    have c10 := R5.out.cell (i := 10) (by omega)
    have c11 := R5.out.cell (i := 11) (by omega)
    have c12 := R5.out.cell (i := 12) (by omega)
    unfold ivs at c0 c1 c2 c3 c4 c5 c6 c7 c8 c9 c10 c11 c12
    go_wp2_with fail
    go_ret
    exact ⟨rfl, X5.out⟩
end Go.Proofs.Ytemndnpbbkjmhab.labelFixed
