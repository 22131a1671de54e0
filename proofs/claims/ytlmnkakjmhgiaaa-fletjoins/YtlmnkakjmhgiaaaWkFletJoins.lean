/-
  flet.Join answers what the document's own function answers, sum and error, at every two sums of any four numbers each and every number of words; no condition.
-/
import Derived.Test.YtlmnkakjmhgiaaaRows
import Derived.WalkKit
import Derived.ProofKit
import Derived.OpenShut
import Derived.ChangeOld
import Derived.Below
import Derived.BigQuiet
import Derived.Deep.CutRange
import Derived.Deep.QuietTactic
import Derived.Deep.RegionLaw
import Derived.Test.YtlmnkakjmhgiaaaOpn
import Derived.Test.YtlmnkakjmhgiaaaChecked
import Derived.Test.YtlmnkakjmhgiaaaRefSum
import Derived.Test.YtlmnkakjmhgiaaaFletJoin
namespace Go.Proofs.Ytlmnkakjmhgiaaa.fletJoins
open Go.ChangeShapes Go.WideShapes Go.ChangeAt Go.RowKit Go.Deep E
set_option linter.unusedVariables false

set_option maxRecDepth 100000 in
set_option maxHeartbeats 4000000 in
theorem walk (s0 : Nat → Int) (s1 : Nat → Int) (a2 : Int) (w : World) (b0 : ∀ i, i < 4 → -9223372036854775808 ≤ s0 i ∧ s0 i ≤ 9223372036854775807) (b1 : ∀ i, i < 4 → -9223372036854775808 ≤ s1 i ∧ s1 i ≤ 9223372036854775807) (w2 : -9223372036854775808 ≤ a2 ∧ a2 ≤ 9223372036854775807) :
    Calls Try.prog 6 #[.agg #[.int .i64 (s0 0), .int .i64 (s0 1), .int .i64 (s0 2), .int .i64 (s0 3)], .agg #[.int .i64 (s1 0), .int .i64 (s1 1), .int .i64 (s1 2), .int .i64 (s1 3)], .int .i64 a2] w fun e w' => e = .returned (.bool true) ∧ Ext w w' := by
  go_enter Try.func6, Try.ntmps6
  go_wp2_with fail
  have X0 : Hid (Ext w ((w.alloc (.cells #[.int .i64 (s0 0), .int .i64 (s0 1), .int .i64 (s0 2), .int .i64 (s0 3)] 31)).alloc (.cells #[.int .i64 (s1 0), .int .i64 (s1 1), .int .i64 (s1 2), .int .i64 (s1 3)] 31))) := ((Ext.refl _).alloc _ _).alloc _ _
  refine (Join_any s0 s1 a2 _).mono ?_
  rintro e w1 ⟨rfl, hx1⟩
  have hs := (hx1.rowIs ((row4_alloc w 31 (ivs s0)).alloc (.cells #[.int .i64 (s1 0), .int .i64 (s1 1), .int .i64 (s1 2), .int .i64 (s1 3)] 31))).alloc (.cells #[.int .i64 (joinV s0 s1 a2 0), .int .i64 (joinV s0 s1 a2 1), .int .i64 (joinV s0 s1 a2 2), .int .i64 (joinV s0 s1 a2 3)] 31)
  have ht0 := row4_alloc (w.alloc (.cells #[.int .i64 (s0 0), .int .i64 (s0 1), .int .i64 (s0 2), .int .i64 (s0 3)] 31)) 31 (ivs s1)
  simp only [World.size_alloc] at ht0
  have ht := (hx1.rowIs ht0).alloc (.cells #[.int .i64 (joinV s0 s1 a2 0), .int .i64 (joinV s0 s1 a2 1), .int .i64 (joinV s0 s1 a2 2), .int .i64 (joinV s0 s1 a2 3)] 31)
  have d0 := hs.cell (i := 0) (by omega)
  have d1 := hs.cell (i := 1) (by omega)
  have d2 := hs.cell (i := 2) (by omega)
  have d3 := hs.cell (i := 3) (by omega)
  have t0 := ht.cell (i := 0) (by omega)
  have t1 := ht.cell (i := 1) (by omega)
  have t2 := ht.cell (i := 2) (by omega)
  have t3 := ht.cell (i := 3) (by omega)
  unfold ivs at d0 d1 d2 d3 t0 t1 t2 t3
  clear hs ht0 ht
  go_wp2_with fail
  clear d0 d1 d2 d3 t0 t1 t2 t3
  refine (SumJoin_any s0 s1 a2 _).mono ?_
  rintro e w2 ⟨rfl, hx2⟩
  have hnew := row4_alloc w1 31 (ivs (joinV s0 s1 a2))
  have h2 := (hx2.alloc #[.int .i64 (joinV s0 s1 a2 0), .int .i64 (joinV s0 s1 a2 1), .int .i64 (joinV s0 s1 a2 2), .int .i64 (joinV s0 s1 a2 3)] 31).rowIs hnew
  have c0 := h2.cell (i := 0) (by omega)
  have c1 := h2.cell (i := 1) (by omega)
  have c2 := h2.cell (i := 2) (by omega)
  have c3 := h2.cell (i := 3) (by omega)
  unfold ivs at c0 c1 c2 c3
  clear hnew h2
  go_wp2_with fail
  go_ret
  exact ⟨rfl, (X0.out.trans (hx1.alloc _ _)).trans (hx2.alloc _ _)⟩
end Go.Proofs.Ytlmnkakjmhgiaaa.fletJoins
