/-
  label.May answers what the document's own function answers, at every label; no condition.
-/
import Derived.Test.YtemndnpbbkjmhaaRows
import Derived.WalkKit
import Derived.ProofKit
import Derived.OpenShut
import Derived.ChangeOld
import Derived.Below
import Derived.BigQuiet
import Derived.Deep.CutRange
import Derived.Deep.QuietTactic
import Derived.Deep.RegionLaw
import Derived.Test.YtemndnpbbkjmhaaOpn
import Derived.Test.YtemndnpbbkjmhaaChecked
import Derived.Test.YtemndnpbbkjmhaaFlat
import Derived.Test.YtemndnpbbkjmhaaLabMayR
import Derived.Test.YtemndnpbbkjmhaaLabEnc
namespace Go.Proofs.Ytemndnpbbkjmhaa.labelMays
open Go.ChangeShapes Go.WideShapes Go.ChangeAt Go.RowKit
set_option linter.unusedVariables false

set_option maxRecDepth 100000 in
set_option maxHeartbeats 4000000 in
theorem walk (s0 : Nat → Int) (w : World) (b0 : ∀ i, i < 13 → I64 (s0 i)) :
    Calls Try.prog 7 #[.agg #[.int .i64 (s0 0), .int .i64 (s0 1), .int .i64 (s0 2), .int .i64 (s0 3), .int .i64 (s0 4), .int .i64 (s0 5), .int .i64 (s0 6), .int .i64 (s0 7), .int .i64 (s0 8), .int .i64 (s0 9), .int .i64 (s0 10), .int .i64 (s0 11), .int .i64 (s0 12)]] w fun e w' => e = .returned (.bool true) ∧ Ext w w' := by
  have R1 : Hid ((w.alloc (.cells #[.int .i64 (s0 0), .int .i64 (s0 1), .int .i64 (s0 2), .int .i64 (s0 3), .int .i64 (s0 4), .int .i64 (s0 5), .int .i64 (s0 6), .int .i64 (s0 7), .int .i64 (s0 8), .int .i64 (s0 9), .int .i64 (s0 10), .int .i64 (s0 11), .int .i64 (s0 12)] 55)).rowIs w.heap.size 55 13 (ivs s0)) := row13_alloc w 55 (ivs s0)
  have X1 : Hid (Ext w (w.alloc (.cells #[.int .i64 (s0 0), .int .i64 (s0 1), .int .i64 (s0 2), .int .i64 (s0 3), .int .i64 (s0 4), .int .i64 (s0 5), .int .i64 (s0 6), .int .i64 (s0 7), .int .i64 (s0 8), .int .i64 (s0 9), .int .i64 (s0 10), .int .i64 (s0 11), .int .i64 (s0 12)] 55))) := (Ext.refl _).alloc _ _
  go_enter Try.func7, Try.ntmps7
  go_wp2_with fail
  generalize w.alloc (.cells #[.int .i64 (s0 0), .int .i64 (s0 1), .int .i64 (s0 2), .int .i64 (s0 3), .int .i64 (s0 4), .int .i64 (s0 5), .int .i64 (s0 6), .int .i64 (s0 7), .int .i64 (s0 8), .int .i64 (s0 9), .int .i64 (s0 10), .int .i64 (s0 11), .int .i64 (s0 12)] 55) = w1 at *
  have c0 : ∀ y : Gr w1, y.w'.cell? ⟨w.heap.size, 0, none⟩ = some (.int .i64 (s0 0)) := fun y => (y.ext.rowIs R1.out).cell (i := 0) (by omega)
  have c1 : ∀ y : Gr w1, y.w'.cell? ⟨w.heap.size, 1, none⟩ = some (.int .i64 (s0 1)) := fun y => (y.ext.rowIs R1.out).cell (i := 1) (by omega)
  have c2 : ∀ y : Gr w1, y.w'.cell? ⟨w.heap.size, 2, none⟩ = some (.int .i64 (s0 2)) := fun y => (y.ext.rowIs R1.out).cell (i := 2) (by omega)
  have c3 : ∀ y : Gr w1, y.w'.cell? ⟨w.heap.size, 3, none⟩ = some (.int .i64 (s0 3)) := fun y => (y.ext.rowIs R1.out).cell (i := 3) (by omega)
  have c4 : ∀ y : Gr w1, y.w'.cell? ⟨w.heap.size, 4, none⟩ = some (.int .i64 (s0 4)) := fun y => (y.ext.rowIs R1.out).cell (i := 4) (by omega)
  have c5 : ∀ y : Gr w1, y.w'.cell? ⟨w.heap.size, 5, none⟩ = some (.int .i64 (s0 5)) := fun y => (y.ext.rowIs R1.out).cell (i := 5) (by omega)
  have c6 : ∀ y : Gr w1, y.w'.cell? ⟨w.heap.size, 6, none⟩ = some (.int .i64 (s0 6)) := fun y => (y.ext.rowIs R1.out).cell (i := 6) (by omega)
  have c7 : ∀ y : Gr w1, y.w'.cell? ⟨w.heap.size, 7, none⟩ = some (.int .i64 (s0 7)) := fun y => (y.ext.rowIs R1.out).cell (i := 7) (by omega)
  have c8 : ∀ y : Gr w1, y.w'.cell? ⟨w.heap.size, 8, none⟩ = some (.int .i64 (s0 8)) := fun y => (y.ext.rowIs R1.out).cell (i := 8) (by omega)
  have c9 : ∀ y : Gr w1, y.w'.cell? ⟨w.heap.size, 9, none⟩ = some (.int .i64 (s0 9)) := fun y => (y.ext.rowIs R1.out).cell (i := 9) (by omega)
  have c10 : ∀ y : Gr w1, y.w'.cell? ⟨w.heap.size, 10, none⟩ = some (.int .i64 (s0 10)) := fun y => (y.ext.rowIs R1.out).cell (i := 10) (by omega)
  have c11 : ∀ y : Gr w1, y.w'.cell? ⟨w.heap.size, 11, none⟩ = some (.int .i64 (s0 11)) := fun y => (y.ext.rowIs R1.out).cell (i := 11) (by omega)
  have c12 : ∀ y : Gr w1, y.w'.cell? ⟨w.heap.size, 12, none⟩ = some (.int .i64 (s0 12)) := fun y => (y.ext.rowIs R1.out).cell (i := 12) (by omega)
  refine wp_region_grows 5 (by kernel_rfl) (by kernel_rfl) (fun hne => ?_)
  simp only [List.take_succ_cons, List.take_zero, List.drop_succ_cons, List.drop_zero]
  repeat (go_big_quiet_step (first | (go_at_call 18; exact Calls.grown (LMay_any s0 _)) | (go_at_call 19; exact Calls.grown (LabelMay_any s0 _))))
  refine wpQuiet_nil ?_
  intro w9 hw9
  obtain ⟨y, rfl⟩ := hw9
  go_wp2_with fail
  go_ret
  exact ⟨by simp, X1.out.trans y.ext⟩
end Go.Proofs.Ytemndnpbbkjmhaa.labelMays
