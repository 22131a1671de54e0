/-
  label.Encode answers what the document's own function answers, bytes and error, at every label; no condition.
-/
import Derived.Test.YtemndnpbbkjmhaaRows
import Derived.WalkKit
import Derived.ProofKit
import Derived.OpenShut
import Derived.ChangeOld
import Derived.Below
import Derived.BigQuiet
import Derived.Deep.CutRange
import Derived.Deep.QuietTactic
import Derived.Deep.RegionLaw
import Derived.Test.YtemndnpbbkjmhaaOpn
import Derived.Test.YtemndnpbbkjmhaaChecked
import Derived.Test.YtemndnpbbkjmhaaFlat
import Derived.Test.YtemndnpbbkjmhaaLabEnc
import Derived.Test.YtemndnpbbkjmhaaRefEnc
import Derived.Test.YtemndnpbbkjmhaaSameB
namespace Go.Proofs.Ytemndnpbbkjmhaa.labelEncodes
open Go.ChangeShapes Go.WideShapes Go.ChangeAt Go.RowKit
set_option linter.unusedVariables false

set_option maxRecDepth 100000 in
set_option maxHeartbeats 4000000 in
theorem walk (s0 : Nat → Int) (w : World) (b0 : ∀ i, i < 13 → I64 (s0 i)) :
    Calls Try.prog 8 #[.agg #[.int .i64 (s0 0), .int .i64 (s0 1), .int .i64 (s0 2), .int .i64 (s0 3), .int .i64 (s0 4), .int .i64 (s0 5), .int .i64 (s0 6), .int .i64 (s0 7), .int .i64 (s0 8), .int .i64 (s0 9), .int .i64 (s0 10), .int .i64 (s0 11), .int .i64 (s0 12)]] w fun e w' => e = .returned (.bool true) ∧ Ext w w' := by
  have R1 : Hid ((w.alloc (.cells #[.int .i64 (s0 0), .int .i64 (s0 1), .int .i64 (s0 2), .int .i64 (s0 3), .int .i64 (s0 4), .int .i64 (s0 5), .int .i64 (s0 6), .int .i64 (s0 7), .int .i64 (s0 8), .int .i64 (s0 9), .int .i64 (s0 10), .int .i64 (s0 11), .int .i64 (s0 12)] 55)).rowIs w.heap.size 55 13 (ivs s0)) := row13_alloc w 55 (ivs s0)
  have X1 : Hid (Ext w (w.alloc (.cells #[.int .i64 (s0 0), .int .i64 (s0 1), .int .i64 (s0 2), .int .i64 (s0 3), .int .i64 (s0 4), .int .i64 (s0 5), .int .i64 (s0 6), .int .i64 (s0 7), .int .i64 (s0 8), .int .i64 (s0 9), .int .i64 (s0 10), .int .i64 (s0 11), .int .i64 (s0 12)] 55))) := (Ext.refl _).alloc _ _
  go_enter Try.func8, Try.ntmps8
  go_wp2_with fail
  generalize w.alloc (.cells #[.int .i64 (s0 0), .int .i64 (s0 1), .int .i64 (s0 2), .int .i64 (s0 3), .int .i64 (s0 4), .int .i64 (s0 5), .int .i64 (s0 6), .int .i64 (s0 7), .int .i64 (s0 8), .int .i64 (s0 9), .int .i64 (s0 10), .int .i64 (s0 11), .int .i64 (s0 12)] 55) = w1 at *
  by_cases hm : mayL s0 = true
  · refine (Encode_t s0 _ hm).mono ?_
    rintro e w2 ⟨⟨g, hg, rfl, hr⟩, hx2⟩
    have X2 : Hid (Ext w w2) := X1.out.trans hx2
    have B2 : Hid (Byts w2 (some ⟨g, 0, none⟩) 128 (sec s0)) := Byts.row hr (Nat.le_refl _)
    have c0 := (hx2.rowIs R1.out).cell (i := 0) (by omega)
    have c1 := (hx2.rowIs R1.out).cell (i := 1) (by omega)
    have c2 := (hx2.rowIs R1.out).cell (i := 2) (by omega)
    have c3 := (hx2.rowIs R1.out).cell (i := 3) (by omega)
    have c4 := (hx2.rowIs R1.out).cell (i := 4) (by omega)
    have c5 := (hx2.rowIs R1.out).cell (i := 5) (by omega)
    have c6 := (hx2.rowIs R1.out).cell (i := 6) (by omega)
    have c7 := (hx2.rowIs R1.out).cell (i := 7) (by omega)
    have c8 := (hx2.rowIs R1.out).cell (i := 8) (by omega)
    have c9 := (hx2.rowIs R1.out).cell (i := 9) (by omega)
    have c10 := (hx2.rowIs R1.out).cell (i := 10) (by omega)
    have c11 := (hx2.rowIs R1.out).cell (i := 11) (by omega)
    have c12 := (hx2.rowIs R1.out).cell (i := 12) (by omega)
    unfold ivs at c0 c1 c2 c3 c4 c5 c6 c7 c8 c9 c10 c11 c12
    clear hx2 hr hg
    go_wp2_with fail
    clear c0 c1 c2 c3 c4 c5 c6 c7 c8 c9 c10 c11 c12
    refine (LabelEncoded_t s0 _ hm).mono ?_
    rintro e w3 ⟨⟨v, rfl, ho⟩, hx3⟩
    obtain ⟨av, cv, rfl, hbv⟩ := own_byts ho
    have B3 : Hid (Byts w3 av 128 (sec s0)) := hbv
    have B2' : Hid (Byts w3 (some ⟨g, 0, none⟩) 128 (sec s0)) := B2.out.ext hx3
    have X3 : Hid (Ext w w3) := X2.out.trans hx3
    clear ho hbv hx3
    go_wp2_with fail
    refine (sameBytesL_any (some ⟨g, 0, none⟩) av 128 128 cv (sec s0) (sec s0) _ (by omega) B2'.out B3.out fun _ _ => rfl).mono ?_
    rintro e w4 ⟨rfl, hx4⟩
    have X4 : Hid (Ext w w4) := X3.out.trans hx4
    clear hx4
    go_wp2_with fail
    go_ret
    exact ⟨rfl, X4.out⟩
  · have hm' : mayL s0 = false := by simpa using hm
    refine (Encode_f s0 _ hm').mono ?_
    rintro e w2 ⟨rfl, hx2⟩
    have X2 : Hid (Ext w w2) := X1.out.trans hx2
    have c0 := (hx2.rowIs R1.out).cell (i := 0) (by omega)
    have c1 := (hx2.rowIs R1.out).cell (i := 1) (by omega)
    have c2 := (hx2.rowIs R1.out).cell (i := 2) (by omega)
    have c3 := (hx2.rowIs R1.out).cell (i := 3) (by omega)
    have c4 := (hx2.rowIs R1.out).cell (i := 4) (by omega)
    have c5 := (hx2.rowIs R1.out).cell (i := 5) (by omega)
    have c6 := (hx2.rowIs R1.out).cell (i := 6) (by omega)
    have c7 := (hx2.rowIs R1.out).cell (i := 7) (by omega)
    have c8 := (hx2.rowIs R1.out).cell (i := 8) (by omega)
    have c9 := (hx2.rowIs R1.out).cell (i := 9) (by omega)
    have c10 := (hx2.rowIs R1.out).cell (i := 10) (by omega)
    have c11 := (hx2.rowIs R1.out).cell (i := 11) (by omega)
    have c12 := (hx2.rowIs R1.out).cell (i := 12) (by omega)
    unfold ivs at c0 c1 c2 c3 c4 c5 c6 c7 c8 c9 c10 c11 c12
    clear hx2
    go_wp2_with fail
    clear c0 c1 c2 c3 c4 c5 c6 c7 c8 c9 c10 c11 c12
    refine (LabelEncoded_f s0 _ hm').mono ?_
    rintro e w3 ⟨rfl, hx3⟩
    have X3 : Hid (Ext w w3) := X2.out.trans hx3
    clear hx3
    go_wp2_with fail
    refine (sameBytesL_any none none 0 0 0 (sec s0) (sec s0) _ (by omega) (fun i hi => by omega) (fun i hi => by omega) fun _ _ => rfl).mono ?_
    rintro e w4 ⟨rfl, hx4⟩
    have X4 : Hid (Ext w w4) := X3.out.trans hx4
    clear hx4
    go_wp2_with fail
    go_ret
    exact ⟨rfl, X4.out⟩
end Go.Proofs.Ytemndnpbbkjmhaa.labelEncodes
