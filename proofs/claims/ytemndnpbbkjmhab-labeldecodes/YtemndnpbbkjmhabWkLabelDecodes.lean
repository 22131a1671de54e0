/-
  label.Decode answers what the document's own function answers, label and error, at every list of bytes; no condition.
-/
import Derived.Test.YtemndnpbbkjmhabRows
import Derived.WalkKit
import Derived.ProofKit
import Derived.OpenShut
import Derived.ChangeOld
import Derived.Below
import Derived.BigQuiet
import Derived.Deep.CutRange
import Derived.Deep.QuietTactic
import Derived.Deep.RegionLaw
import Derived.Test.YtemndnpbbkjmhabOpn
import Derived.Test.YtemndnpbbkjmhabChecked
import Derived.Test.YtemndnpbbkjmhabLabOct
import Derived.Test.YtemndnpbbkjmhabLabDec2
import Derived.Test.YtemndnpbbkjmhabRefDcd2
namespace Go.Proofs.Ytemndnpbbkjmhab.labelDecodes
open Go.ChangeShapes Go.WideShapes Go.ChangeAt Go.RowKit Go.Deep E
set_option linter.unusedVariables false

set_option maxRecDepth 100000 in
set_option maxHeartbeats 4000000 in
theorem walk (a0 : Option Addr) (n0 c0 : Nat) (f0 : Nat → E) (w : World) (h0 : Byts w a0 n0 f0) (b0 : n0 ≤ c0 ∧ c0 ≤ 9223372036854775807) (z0 : c0 * 1 ≤ 140737488351232) :
    Calls Try.prog 3 #[.slice a0 n0 c0] w fun e w' => e = .returned (.bool true) ∧ Ext w w' := by
  have HB : Hid (Byts w a0 n0 f0) := h0
  clear h0
  go_enter Try.func3, Try.ntmps3
  go_wp2_with fail
  refine (octets_any a0 n0 c0 f0 _ (by omega) HB.out).mono ?_
  rintro e w1 ⟨⟨ax, cx, rfl, hbx, hcx⟩, hx1⟩
  have HX : Hid (Byts w1 ax n0 f0) := hbx
  have X1 : Hid (Ext w w1) := hx1
  clear hbx hx1
  go_wp2_with fail
  refine (Decode_any ax n0 cx f0 _ hcx HX.out).mono ?_
  rintro e w2 ⟨rfl, hx2⟩
  have X2 : Hid (Ext w w2) := X1.out.trans hx2
  have HLD := fun v (y : Ext w2 v) => LabelDecoded_any a0 n0 c0 f0 v b0 ((HB.out.ext X2.out).ext y)
  generalize decV n0 f0 = V at *
  generalize decE n0 f0 = EE at *
  have HL : Hid (∀ v, Ext w2 v → Calls Try.prog 11 #[.slice a0 n0 c0] v fun e w' => e = .returned (.tuple #[.agg #[.int .i64 (V 0), .int .i64 (V 1), .int .i64 (V 2), .int .i64 (V 3), .int .i64 (V 4), .int .i64 (V 5), .int .i64 (V 6), .int .i64 (V 7), .int .i64 (V 8), .int .i64 (V 9), .int .i64 (V 10), .int .i64 (V 11), .int .i64 (V 12)], .int .i64 EE]) ∧ Ext v w') := HLD
  have X3 : Hid (Ext w2 (w2.alloc (.cells #[.int .i64 (V 0), .int .i64 (V 1), .int .i64 (V 2), .int .i64 (V 3), .int .i64 (V 4), .int .i64 (V 5), .int .i64 (V 6), .int .i64 (V 7), .int .i64 (V 8), .int .i64 (V 9), .int .i64 (V 10), .int .i64 (V 11), .int .i64 (V 12)] 28))) := (Ext.refl _).alloc _ _
  have R3 : Hid ((w2.alloc (.cells #[.int .i64 (V 0), .int .i64 (V 1), .int .i64 (V 2), .int .i64 (V 3), .int .i64 (V 4), .int .i64 (V 5), .int .i64 (V 6), .int .i64 (V 7), .int .i64 (V 8), .int .i64 (V 9), .int .i64 (V 10), .int .i64 (V 11), .int .i64 (V 12)] 28)).rowIs w2.heap.size 28 13 (ivs V)) := row13_alloc w2 28 (ivs V)
  clear HLD hx2 X1 HX hcx
  go_upto_region 2 with fail
  generalize w2.alloc (.cells #[.int .i64 (V 0), .int .i64 (V 1), .int .i64 (V 2), .int .i64 (V 3), .int .i64 (V 4), .int .i64 (V 5), .int .i64 (V 6), .int .i64 (V 7), .int .i64 (V 8), .int .i64 (V 9), .int .i64 (V 10), .int .i64 (V 11), .int .i64 (V 12)] 28) = w3 at *
  generalize w2.heap.size = g3 at *
  go_wp2_with fail
  refine (HL.out _ X3.out).mono ?_
  rintro e w4 ⟨rfl, hx4⟩
  have X5 : Hid (Ext w (w4.alloc (.cells #[.int .i64 (V 0), .int .i64 (V 1), .int .i64 (V 2), .int .i64 (V 3), .int .i64 (V 4), .int .i64 (V 5), .int .i64 (V 6), .int .i64 (V 7), .int .i64 (V 8), .int .i64 (V 9), .int .i64 (V 10), .int .i64 (V 11), .int .i64 (V 12)] 28))) := ((X2.out.trans X3.out).trans hx4).alloc _ _
  have R5 : Hid ((w4.alloc (.cells #[.int .i64 (V 0), .int .i64 (V 1), .int .i64 (V 2), .int .i64 (V 3), .int .i64 (V 4), .int .i64 (V 5), .int .i64 (V 6), .int .i64 (V 7), .int .i64 (V 8), .int .i64 (V 9), .int .i64 (V 10), .int .i64 (V 11), .int .i64 (V 12)] 28)).rowIs g3 28 13 (ivs V)) := (hx4.rowIs R3.out).alloc _
  have S5 : Hid ((w4.alloc (.cells #[.int .i64 (V 0), .int .i64 (V 1), .int .i64 (V 2), .int .i64 (V 3), .int .i64 (V 4), .int .i64 (V 5), .int .i64 (V 6), .int .i64 (V 7), .int .i64 (V 8), .int .i64 (V 9), .int .i64 (V 10), .int .i64 (V 11), .int .i64 (V 12)] 28)).rowIs w4.heap.size 28 13 (ivs V)) := row13_alloc w4 28 (ivs V)
  clear hx4 X3 R3 HL
  go_upto_region 3 with fail
  generalize w4.alloc (.cells #[.int .i64 (V 0), .int .i64 (V 1), .int .i64 (V 2), .int .i64 (V 3), .int .i64 (V 4), .int .i64 (V 5), .int .i64 (V 6), .int .i64 (V 7), .int .i64 (V 8), .int .i64 (V 9), .int .i64 (V 10), .int .i64 (V 11), .int .i64 (V 12)] 28) = w5 at *
  generalize w4.heap.size = g5 at *
  have c0 := R5.out.cell (i := 0) (by omega)
  have d0 := S5.out.cell (i := 0) (by omega)
  have c1 := R5.out.cell (i := 1) (by omega)
  have d1 := S5.out.cell (i := 1) (by omega)
  have c2 := R5.out.cell (i := 2) (by omega)
  have d2 := S5.out.cell (i := 2) (by omega)
  have c3 := R5.out.cell (i := 3) (by omega)
  have d3 := S5.out.cell (i := 3) (by omega)
  have c4 := R5.out.cell (i := 4) (by omega)
  have d4 := S5.out.cell (i := 4) (by omega)
  have c5 := R5.out.cell (i := 5) (by omega)
  have d5 := S5.out.cell (i := 5) (by omega)
  have c6 := R5.out.cell (i := 6) (by omega)
  have d6 := S5.out.cell (i := 6) (by omega)
  have c7 := R5.out.cell (i := 7) (by omega)
  have d7 := S5.out.cell (i := 7) (by omega)
  have c8 := R5.out.cell (i := 8) (by omega)
  have d8 := S5.out.cell (i := 8) (by omega)
  have c9 := R5.out.cell (i := 9) (by omega)
  have d9 := S5.out.cell (i := 9) (by omega)
  have c10 := R5.out.cell (i := 10) (by omega)
  have d10 := S5.out.cell (i := 10) (by omega)
  have c11 := R5.out.cell (i := 11) (by omega)
  have d11 := S5.out.cell (i := 11) (by omega)
  have c12 := R5.out.cell (i := 12) (by omega)
  have d12 := S5.out.cell (i := 12) (by omega)
  unfold ivs at c0 c1 c2 c3 c4 c5 c6 c7 c8 c9 c10 c11 c12 d0 d1 d2 d3 d4 d5 d6 d7 d8 d9 d10 d11 d12
  go_wp2_with fail
  go_ret
  exact ⟨by simp, X5.out⟩
end Go.Proofs.Ytemndnpbbkjmhab.labelDecodes
