/-
  flet.More answers what the document's own function answers, sum and error, at every four numbers and every list of bytes; condition: the form's own bound on how much comes in (the document's function makes eight bytes for each four).
-/
import Derived.Test.YtlmnkakjmhgiaaaRows
import Derived.WalkKit
import Derived.ProofKit
import Derived.OpenShut
import Derived.ChangeOld
import Derived.Below
import Derived.BigQuiet
import Derived.Deep.CutRange
import Derived.Deep.QuietTactic
import Derived.Deep.RegionLaw
import Derived.Test.YtlmnkakjmhgiaaaOpn
import Derived.Test.YtlmnkakjmhgiaaaChecked
import Derived.Test.YtlmnkakjmhgiaaaBulk
import Derived.Test.YtlmnkakjmhgiaaaRefSum
import Derived.Test.YtlmnkakjmhgiaaaFletMore
namespace Go.Proofs.Ytlmnkakjmhgiaaa.fletMores
open Go.ChangeShapes Go.WideShapes Go.ChangeAt Go.RowKit Go.Deep E
set_option linter.unusedVariables false

set_option maxRecDepth 100000 in
set_option maxHeartbeats 4000000 in
theorem walk (s0 : Nat → Int) (a1 : Option Addr) (n1 c1 : Nat) (f1 : Nat → E) (w : World) (b0 : ∀ i, i < 4 → -9223372036854775808 ≤ s0 i ∧ s0 i ≤ 9223372036854775807) (h1 : Byts w a1 n1 f1) (b1 : n1 ≤ c1 ∧ c1 ≤ 9223372036854775807) (z1 : c1 ≤ 1048576) :
    Calls Try.prog 5 #[.agg #[.int .i64 (s0 0), .int .i64 (s0 1), .int .i64 (s0 2), .int .i64 (s0 3)], .slice a1 n1 c1] w fun e w' => e = .returned (.bool true) ∧ Ext w w' := by
  have HB : Hid (Byts w a1 n1 f1) := h1
  clear h1
  go_enter Try.func5, Try.ntmps5
  go_wp2_with fail
  refine (More_any s0 a1 n1 c1 f1 _ b1.1 b1.2 (HB.out.ext ((Ext.refl _).alloc _ _))).mono ?_
  rintro e w1 ⟨rfl, hx1⟩
  have hs := hx1.rowIs (row4_alloc w 31 (ivs s0))
  have HS : Hid (w1.rowIs w.heap.size 31 4 (ivs s0)) := hs
  have hs' := hs.alloc (.cells #[.int .i64 (moreV n1 s0 f1 0), .int .i64 (moreV n1 s0 f1 1), .int .i64 (moreV n1 s0 f1 2), .int .i64 (moreV n1 s0 f1 3)] 31)
  have d0 := hs'.cell (i := 0) (by omega)
  have d1 := hs'.cell (i := 1) (by omega)
  have d2 := hs'.cell (i := 2) (by omega)
  have d3 := hs'.cell (i := 3) (by omega)
  unfold ivs at d0 d1 d2 d3
  clear hs hs'
  go_wp2_with fail
  clear d0 d1 d2 d3
  have X1 : Hid (Ext w (w1.alloc (.cells #[.int .i64 (moreV n1 s0 f1 0), .int .i64 (moreV n1 s0 f1 1), .int .i64 (moreV n1 s0 f1 2), .int .i64 (moreV n1 s0 f1 3)] 31))) := ((((Ext.refl _).alloc _ _).trans hx1)).alloc _ _
  refine (SumMore_any s0 a1 n1 c1 f1 _ (by omega) (HB.out.ext X1.out)).mono ?_
  rintro e w2 ⟨rfl, hx2⟩
  have hnew := row4_alloc w1 31 (ivs (moreV n1 s0 f1))
  have h2 := (hx2.alloc #[.int .i64 (moreV n1 s0 f1 0), .int .i64 (moreV n1 s0 f1 1), .int .i64 (moreV n1 s0 f1 2), .int .i64 (moreV n1 s0 f1 3)] 31).rowIs hnew
  have c0 := h2.cell (i := 0) (by omega)
  have c1 := h2.cell (i := 1) (by omega)
  have c2 := h2.cell (i := 2) (by omega)
  have c3 := h2.cell (i := 3) (by omega)
  unfold ivs at c0 c1 c2 c3
  clear hnew h2
  go_wp2_with fail
  go_ret
  exact ⟨rfl, X1.out.trans (hx2.alloc _ _)⟩
end Go.Proofs.Ytlmnkakjmhgiaaa.fletMores
