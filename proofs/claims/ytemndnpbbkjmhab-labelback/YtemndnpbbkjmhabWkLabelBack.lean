/-
  A label is read back from its sector: at whatever numbers a label is made of; no condition.
-/
import Derived.Test.YtemndnpbbkjmhabRows
import Derived.WalkKit
import Derived.ProofKit
import Derived.OpenShut
import Derived.ChangeOld
import Derived.Below
import Derived.BigQuiet
import Derived.Deep.CutRange
import Derived.Deep.QuietTactic
import Derived.Deep.RegionLaw
import Derived.Test.YtemndnpbbkjmhabOpn
import Derived.Test.YtemndnpbbkjmhabChecked
import Derived.Test.YtemndnpbbkjmhabFlat
import Derived.Test.YtemndnpbbkjmhabLabOf
import Derived.Test.YtemndnpbbkjmhabLabDec2
namespace Go.Proofs.Ytemndnpbbkjmhab.labelBack
open Go.ChangeShapes Go.WideShapes Go.ChangeAt Go.RowKit
set_option linter.unusedVariables false

set_option maxRecDepth 100000 in
set_option maxHeartbeats 4000000 in
theorem walk (s0 : Nat → Int) (w : World) (b0 : ∀ i, i < 12 → I64 (s0 i)) :
    Calls Try.prog 5 #[.agg #[.int .i64 (s0 0), .int .i64 (s0 1), .int .i64 (s0 2), .int .i64 (s0 3), .int .i64 (s0 4), .int .i64 (s0 5), .int .i64 (s0 6), .int .i64 (s0 7), .int .i64 (s0 8), .int .i64 (s0 9), .int .i64 (s0 10), .int .i64 (s0 11)]] w fun e w' => e = .returned (.bool true) ∧ Ext w w' := by
  obtain ⟨V, hV⟩ : ∃ V, lof s0 = V := ⟨_, rfl⟩
  have HM : Hid (mayL V = true) := by rw [← hV]; exact lof_may s0
  have HS : Hid (∀ k, 9 ≤ k → k < 13 → -9223372036854775808 ≤ V k ∧ V k ≤ 9223372036854775807) := fun k h9 hk => by
    rw [← hV]
    obtain ⟨j, rfl⟩ : ∃ j, k = j + 9 := ⟨k - 9, by omega⟩
    exact b0 (8 + j) (by omega)
  have HLO : Hid (∀ v, Calls Try.prog 14 #[.agg #[.int .i64 (s0 0), .int .i64 (s0 1), .int .i64 (s0 2), .int .i64 (s0 3), .int .i64 (s0 4), .int .i64 (s0 5), .int .i64 (s0 6), .int .i64 (s0 7), .int .i64 (s0 8), .int .i64 (s0 9), .int .i64 (s0 10), .int .i64 (s0 11)]] v fun e w' => e = .returned (.agg #[.int .i64 (V 0), .int .i64 (V 1), .int .i64 (V 2), .int .i64 (V 3), .int .i64 (V 4), .int .i64 (V 5), .int .i64 (V 6), .int .i64 (V 7), .int .i64 (V 8), .int .i64 (V 9), .int .i64 (V 10), .int .i64 (V 11), .int .i64 (V 12)]) ∧ Ext v w') := fun v => by
    rw [← hV]
    exact LabelOf_any s0 (fun i hi => b0 i hi) v
  clear hV b0
  go_enter Try.func5, Try.ntmps5
  go_wp2_with fail
  refine (HLO.out _).mono ?_
  rintro e w1 ⟨rfl, hx1⟩
  have X1 : Hid (Ext w w1) := ((Ext.refl _).alloc _ _).trans hx1
  have R2 : Hid ((w1.alloc (.cells #[.int .i64 (V 0), .int .i64 (V 1), .int .i64 (V 2), .int .i64 (V 3), .int .i64 (V 4), .int .i64 (V 5), .int .i64 (V 6), .int .i64 (V 7), .int .i64 (V 8), .int .i64 (V 9), .int .i64 (V 10), .int .i64 (V 11), .int .i64 (V 12)] 28)).rowIs w1.heap.size 28 13 (ivs V)) := row13_alloc w1 28 (ivs V)
  have X2 : Hid (Ext w (w1.alloc (.cells #[.int .i64 (V 0), .int .i64 (V 1), .int .i64 (V 2), .int .i64 (V 3), .int .i64 (V 4), .int .i64 (V 5), .int .i64 (V 6), .int .i64 (V 7), .int .i64 (V 8), .int .i64 (V 9), .int .i64 (V 10), .int .i64 (V 11), .int .i64 (V 12)] 28))) := X1.out.alloc _ _
  clear hx1 X1 HLO
  go_wp2_with fail
  generalize w1.alloc (.cells #[.int .i64 (V 0), .int .i64 (V 1), .int .i64 (V 2), .int .i64 (V 3), .int .i64 (V 4), .int .i64 (V 5), .int .i64 (V 6), .int .i64 (V 7), .int .i64 (V 8), .int .i64 (V 9), .int .i64 (V 10), .int .i64 (V 11), .int .i64 (V 12)] 28) = w2 at *
  generalize w1.heap.size = gx at *
  refine (Encode_t V _ HM.out).mono ?_
  rintro e w3 ⟨⟨g, hg, rfl, hr⟩, hx3⟩
  have X3 : Hid (Ext w w3) := X2.out.trans hx3
  have R3 : Hid (w3.rowIs gx 28 13 (ivs V)) := hx3.rowIs R2.out
  have B3 : Hid (Byts w3 (some ⟨g, 0, none⟩) 128 (sec V)) := Byts.row hr (Nat.le_refl _)
  clear hx3 hr hg R2 X2
  go_wp2_with fail
  refine (Decode_any (some ⟨g, 0, none⟩) 128 128 (sec V) _ (by omega) B3.out).mono ?_
  rintro e w4 ⟨rfl, hx4⟩
  have hd := decE_sec (fun _ _ => rfl) HM.out HS.out
  rw [hd.1, hd.2 0 (by omega), hd.2 1 (by omega), hd.2 2 (by omega), hd.2 3 (by omega), hd.2 4 (by omega), hd.2 5 (by omega), hd.2 6 (by omega), hd.2 7 (by omega), hd.2 8 (by omega), hd.2 9 (by omega), hd.2 10 (by omega), hd.2 11 (by omega), hd.2 12 (by omega)]
  clear hd
  have X5 : Hid (Ext w (w4.alloc (.cells #[.int .i64 (V 0), .int .i64 (V 1), .int .i64 (V 2), .int .i64 (V 3), .int .i64 (V 4), .int .i64 (V 5), .int .i64 (V 6), .int .i64 (V 7), .int .i64 (V 8), .int .i64 (V 9), .int .i64 (V 10), .int .i64 (V 11), .int .i64 (V 12)] 28))) := (X3.out.trans hx4).alloc _ _
  have R5 : Hid ((w4.alloc (.cells #[.int .i64 (V 0), .int .i64 (V 1), .int .i64 (V 2), .int .i64 (V 3), .int .i64 (V 4), .int .i64 (V 5), .int .i64 (V 6), .int .i64 (V 7), .int .i64 (V 8), .int .i64 (V 9), .int .i64 (V 10), .int .i64 (V 11), .int .i64 (V 12)] 28)).rowIs gx 28 13 (ivs V)) := (hx4.rowIs R3.out).alloc _
  have S5 : Hid ((w4.alloc (.cells #[.int .i64 (V 0), .int .i64 (V 1), .int .i64 (V 2), .int .i64 (V 3), .int .i64 (V 4), .int .i64 (V 5), .int .i64 (V 6), .int .i64 (V 7), .int .i64 (V 8), .int .i64 (V 9), .int .i64 (V 10), .int .i64 (V 11), .int .i64 (V 12)] 28)).rowIs w4.heap.size 28 13 (ivs V)) := row13_alloc w4 28 (ivs V)
  clear hx4 R3 X3 B3
  go_upto_region 4 with fail
  generalize w4.alloc (.cells #[.int .i64 (V 0), .int .i64 (V 1), .int .i64 (V 2), .int .i64 (V 3), .int .i64 (V 4), .int .i64 (V 5), .int .i64 (V 6), .int .i64 (V 7), .int .i64 (V 8), .int .i64 (V 9), .int .i64 (V 10), .int .i64 (V 11), .int .i64 (V 12)] 28) = w5 at *
  generalize w4.heap.size = gy at *
  have c0 := R5.out.cell (i := 0) (by omega)
  have c1 := R5.out.cell (i := 1) (by omega)
  have c2 := R5.out.cell (i := 2) (by omega)
  have c3 := R5.out.cell (i := 3) (by omega)
  have c4 := R5.out.cell (i := 4) (by omega)
  have c5 := R5.out.cell (i := 5) (by omega)
  have c6 := R5.out.cell (i := 6) (by omega)
  have c7 := R5.out.cell (i := 7) (by omega)
  have c8 := R5.out.cell (i := 8) (by omega)
  have c9 := R5.out.cell (i := 9) (by omega)
  have c10 := R5.out.cell (i := 10) (by omega)
  have c11 := R5.out.cell (i := 11) (by omega)
  have c12 := R5.out.cell (i := 12) (by omega)
  unfold ivs at c0 c1 c2 c3 c4 c5 c6 c7 c8 c9 c10 c11 c12
  go_wp2_with fail
  clear c0 c1 c2 c3 c4 c5 c6 c7 c8 c9 c10 c11 c12
  refine (LMay_any V _).mono ?_
  rintro e w6 ⟨rfl, hx6⟩
  rw [HM.out]
  have c0 := (hx6.rowIs R5.out).cell (i := 0) (by omega)
  have d0 := (hx6.rowIs S5.out).cell (i := 0) (by omega)
  have c1 := (hx6.rowIs R5.out).cell (i := 1) (by omega)
  have d1 := (hx6.rowIs S5.out).cell (i := 1) (by omega)
  have c2 := (hx6.rowIs R5.out).cell (i := 2) (by omega)
  have d2 := (hx6.rowIs S5.out).cell (i := 2) (by omega)
  have c3 := (hx6.rowIs R5.out).cell (i := 3) (by omega)
  have d3 := (hx6.rowIs S5.out).cell (i := 3) (by omega)
  have c4 := (hx6.rowIs R5.out).cell (i := 4) (by omega)
  have d4 := (hx6.rowIs S5.out).cell (i := 4) (by omega)
  have c5 := (hx6.rowIs R5.out).cell (i := 5) (by omega)
  have d5 := (hx6.rowIs S5.out).cell (i := 5) (by omega)
  have c6 := (hx6.rowIs R5.out).cell (i := 6) (by omega)
  have d6 := (hx6.rowIs S5.out).cell (i := 6) (by omega)
  have c7 := (hx6.rowIs R5.out).cell (i := 7) (by omega)
  have d7 := (hx6.rowIs S5.out).cell (i := 7) (by omega)
  have c8 := (hx6.rowIs R5.out).cell (i := 8) (by omega)
  have d8 := (hx6.rowIs S5.out).cell (i := 8) (by omega)
  have c9 := (hx6.rowIs R5.out).cell (i := 9) (by omega)
  have d9 := (hx6.rowIs S5.out).cell (i := 9) (by omega)
  have c10 := (hx6.rowIs R5.out).cell (i := 10) (by omega)
  have d10 := (hx6.rowIs S5.out).cell (i := 10) (by omega)
  have c11 := (hx6.rowIs R5.out).cell (i := 11) (by omega)
  have d11 := (hx6.rowIs S5.out).cell (i := 11) (by omega)
  have c12 := (hx6.rowIs R5.out).cell (i := 12) (by omega)
  have d12 := (hx6.rowIs S5.out).cell (i := 12) (by omega)
  unfold ivs at c0 c1 c2 c3 c4 c5 c6 c7 c8 c9 c10 c11 c12 d0 d1 d2 d3 d4 d5 d6 d7 d8 d9 d10 d11 d12
  have X6 : Hid (Ext w w6) := X5.out.trans hx6
  clear hx6 R5 S5 X5
  go_wp2_with fail
  go_ret
  exact ⟨rfl, X6.out⟩
end Go.Proofs.Ytemndnpbbkjmhab.labelBack
