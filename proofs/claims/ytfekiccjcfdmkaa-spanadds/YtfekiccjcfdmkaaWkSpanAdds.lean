/-
  span.Add answers what the document's own function answers, list and error, at every list of ranges and every range; no condition.
-/
import Derived.Test.YtfekiccjcfdmkaaRows
import Derived.WalkKit
import Derived.ProofKit
import Derived.OpenShut
import Derived.ChangeOld
import Derived.Below
import Derived.BigQuiet
import Derived.Deep.CutRange
import Derived.Deep.QuietTactic
import Derived.Deep.RegionLaw
import Derived.Test.YtfekiccjcfdmkaaOpn
import Derived.Test.YtfekiccjcfdmkaaChecked
import Derived.Test.YtfekiccjcfdmkaaSpanOpen
import Derived.Test.YtfekiccjcfdmkaaRefSpan
import Derived.Test.YtfekiccjcfdmkaaSameR
import Derived.Test.YtfekiccjcfdmkaaSpanOps2
namespace Go.Proofs.Ytfekiccjcfdmkaa.spanAdds
open Go.ChangeShapes Go.WideShapes Go.ChangeAt Go.RowKit
set_option linter.unusedVariables false
theorem op_add (L M : List (Int × Int)) (k : Int) : (memL k L ∨ memL k M) ↔ opAdd (memB k L) (memB k M) = true := by
  rw [← memB_iff, ← memB_iff]
  unfold opAdd
  cases memB k L <;> cases memB k M <;> simp
set_option maxRecDepth 100000 in
set_option maxHeartbeats 4000000 in
theorem walk (a0 : Option Addr) (n0 c0 : Nat) (L0 : List (Int × Int)) (x1 y1 : Int) (w : World) (l0 : L0.length = n0) (h0 : Rngs w a0 L0) (b0 : Bdd L0) (k0 : n0 ≤ c0 ∧ c0 ≤ 9223372036854775807) (b1 : (-9223372036854775808 ≤ x1 ∧ x1 ≤ 9223372036854775807) ∧ -9223372036854775808 ≤ y1 ∧ y1 ≤ 9223372036854775807) :
    Calls Try.prog 3 #[.slice a0 n0 c0, .agg #[.int .i64 x1, .int .i64 y1]] w fun e w' => e = .returned (.bool true) ∧ Ext w w' := by
  have HR : Hid (∀ w', Ext w w' → Rngs w' a0 L0) := fun w' q => h0.ext q
  have x0 : Ext w (w.alloc (.cells #[.int .i64 x1, .int .i64 y1] 24)) := (Ext.refl w).alloc _ _
  have HC0 : Hid ((w.alloc (.cells #[.int .i64 x1, .int .i64 y1] 24)).cell? ⟨w.heap.size, 0, none⟩ = some (.int .i64 x1)) := new_cell w #[.int .i64 x1, .int .i64 y1] 24 0
  have HC1 : Hid ((w.alloc (.cells #[.int .i64 x1, .int .i64 y1] 24)).cell? ⟨w.heap.size, 1, none⟩ = some (.int .i64 y1)) := new_cell w #[.int .i64 x1, .int .i64 y1] 24 1
  have HA := SpAdd_any a0 n0 c0 L0 x1 y1 _ l0 (by omega) (h0.ext x0) b0 b1
  have HL : Hid (L0.length = n0) := l0
  have hn0 : n0 ≤ 9223372036854775807 := by omega
  clear h0 l0
  go_enter Try.func3, Try.ntmps3
  go_wp2_with fail
  refine HA.mono ?_
  rintro e w1 ⟨v1, er1, rfl, hs1, hx1⟩
  have HS1 : Hid (SetRes (mayB L0 && mayB [(x1, y1)]) (fun q => memL q L0 ∨ memL q [(x1, y1)]) v1 er1 w1) := hs1
  have HB := RSpanAdd_any a0 n0 c0 L0 x1 y1 w1 HL.out hn0 (HR.out _ (x0.trans hx1))
  have d0 := hx1.keeps HC0.out
  have d1 := hx1.keeps HC1.out
  clear hs1 HA
  go_wp2_with fail
  refine HB.mono ?_
  rintro e w2 ⟨v2, er2, rfl, hs2, hx2⟩
  obtain ⟨rfl, a, b, c, d, L, rfl, rfl, hL, hr1, hr2⟩ := HS1.out.same hs2 hx2 (Ext.refl _) (fun _ k => op_add L0 _ k)
  have HC := lawSameR_any a b L.length c d L w2 rfl (by omega) hr1 hr2
  clear hs2 HB HS1 hr1 hr2
  go_wp2_with fail
  refine HC.mono ?_
  rintro e w3 ⟨rfl, hx3⟩
  go_wp2_with fail
  go_ret
  exact ⟨ret_boolS (by simp), ((x0.trans hx1).trans hx2).trans hx3⟩
end Go.Proofs.Ytfekiccjcfdmkaa.spanAdds
