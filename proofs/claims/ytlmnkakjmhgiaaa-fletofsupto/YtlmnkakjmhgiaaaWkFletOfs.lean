/-
  flet.Of answers what the document's own function answers, sum and error, at every list of bytes; condition: the form's own bound on how much comes in (the document's function makes eight bytes for each four).
-/
import Derived.Test.YtlmnkakjmhgiaaaRows
import Derived.WalkKit
import Derived.ProofKit
import Derived.OpenShut
import Derived.ChangeOld
import Derived.Below
import Derived.BigQuiet
import Derived.Deep.CutRange
import Derived.Deep.QuietTactic
import Derived.Deep.RegionLaw
import Derived.Test.YtlmnkakjmhgiaaaOpn
import Derived.Test.YtlmnkakjmhgiaaaChecked
import Derived.Test.YtlmnkakjmhgiaaaBulk
import Derived.Test.YtlmnkakjmhgiaaaRefSum
import Derived.Test.YtlmnkakjmhgiaaaFletMore
namespace Go.Proofs.Ytlmnkakjmhgiaaa.fletOfs
open Go.ChangeShapes Go.WideShapes Go.ChangeAt Go.RowKit Go.Deep E
set_option linter.unusedVariables false

set_option maxRecDepth 100000 in
set_option maxHeartbeats 4000000 in
theorem walk (a0 : Option Addr) (n0 c0 : Nat) (f0 : Nat → E) (w : World) (h0 : Byts w a0 n0 f0) (b0 : n0 ≤ c0 ∧ c0 ≤ 9223372036854775807) (z0 : c0 ≤ 1048576) :
    Calls Try.prog 4 #[.slice a0 n0 c0] w fun e w' => e = .returned (.bool true) ∧ Ext w w' := by
  have HB : Hid (Byts w a0 n0 f0) := h0
  clear h0
  go_enter Try.func4, Try.ntmps4
  go_wp2_with fail
  refine (Of_any a0 n0 c0 f0 _ b0.1 b0.2 HB.out).mono ?_
  rintro e w1 ⟨rfl, hx1⟩
  go_wp2_with fail
  have X1 : Hid (Ext w (w1.alloc (.cells #[.int .i64 (moreV n0 (fun _ => 0) f0 0), .int .i64 (moreV n0 (fun _ => 0) f0 1), .int .i64 (moreV n0 (fun _ => 0) f0 2), .int .i64 (moreV n0 (fun _ => 0) f0 3)] 31))) := hx1.alloc _ _
  refine (SumMore_any (fun _ => 0) a0 n0 c0 f0 _ (by omega) (HB.out.ext X1.out)).mono ?_
  rintro e w2 ⟨rfl, hx2⟩
  have hnew := row4_alloc w1 31 (ivs (moreV n0 (fun _ => 0) f0))
  have h2 := (hx2.alloc #[.int .i64 (moreV n0 (fun _ => 0) f0 0), .int .i64 (moreV n0 (fun _ => 0) f0 1), .int .i64 (moreV n0 (fun _ => 0) f0 2), .int .i64 (moreV n0 (fun _ => 0) f0 3)] 31).rowIs hnew
  have c0 := h2.cell (i := 0) (by omega)
  have c1 := h2.cell (i := 1) (by omega)
  have c2 := h2.cell (i := 2) (by omega)
  have c3 := h2.cell (i := 3) (by omega)
  unfold ivs at c0 c1 c2 c3
  clear hnew h2
  go_wp2_with fail
  go_ret
  exact ⟨rfl, X1.out.trans (hx2.alloc _ _)⟩
end Go.Proofs.Ytlmnkakjmhgiaaa.fletOfs
