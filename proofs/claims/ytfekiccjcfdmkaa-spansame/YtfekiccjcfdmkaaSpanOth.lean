/-
  span.others: the set of all numbers that a range has not; in new memory.
-/
import Derived.Test.YtfekiccjcfdmkaaChecked
import Derived.WalkKit
import Derived.BigQuiet
import Derived.Test.YtfekiccjcfdmkaaSpanBtw
namespace Go.Proofs.Ytfekiccjcfdmkaa
open Go.RowKit Go.Deep
def othA (x : Int) : List (Int × Int) := if 0 < x then [(0, x)] else []
def othL (x y : Int) : List (Int × Int) := othA x ++ (if y < 1048576 then [(y, 1048576)] else [])
def OthRes (w : World) (x y : Int) (v : Value) (w' : World) : Prop := w'.ownsRow w.heap.size 24 2 v (othL x y).length (fl (othL x y)) ∧ Ext w w'
set_option maxRecDepth 100000 in
set_option maxHeartbeats 400000 in
theorem others_any (x y : Int) (w : World) (hr : 0 ≤ x ∧ x < y ∧ y ≤ 1048576) :
    Calls Try.prog 31 #[.agg #[.int .i64 x, .int .i64 y]] w fun e w' => ∃ v, e = .returned v ∧ OthRes w x y v w' := by
  have x1 : Ext w (w.alloc (.cells #[.int .i64 x, .int .i64 y] 24)) := (Ext.refl w).alloc _ _
  have HC : Hid ((w.alloc (.cells #[.int .i64 x, .int .i64 y] 24)).cell? ⟨w.heap.size, 1, none⟩ = some (.int .i64 y)) := new_cell w #[.int .i64 x, .int .i64 y] 24 1
  by_cases h1 : 0 < x
  · have e1 : Hid (othA x = [(0, x)]) := if_pos h1
    by_cases h2 : y < 1048576
    · have e2 : Hid (othL x y = [(0, x)] ++ [(y, 1048576)]) := by show _ = _; unfold othL; rw [e1.out, if_pos h2]
      clear e1
      go_enter Try.func31, Try.ntmps31
      go_wp2_with (first | (at_builtin; refine append_prs _ rfl _ _ 22 rfl w.heap.size 24 (.agg #[.int .i64 0, .int .i64 0]) 16 Try.underlying22 infoR rfl (.slice none 0 0) 0 [] rfl (World.ownsRow_nil _ _ _ _) _ 1 1 [(0, x)] rfl rfl ?_ (by omega) (by omega) (by omega) ?_ ?_) | go_in)
      · first | exact pair_news (w.alloc (.cells #[.int .i64 x, .int .i64 y] 24)) _ (by rw [World.size_alloc]) _ _ _ | exact fun _ _ h => h
      · first | exact (x1.alloc _ _).size | omega
      intro v2 w2 hown2 hgrow2
      have hx2 : Ext (w.alloc (.cells #[.int .i64 x, .int .i64 y] 24)) w2 := ((Ext.refl _).alloc _ _).grow hgrow2 fun q hq => by cases hq
      have HO2 : Hid (w2.ownsRow w.heap.size 24 2 v2 1 (fl [(0, x)])) := hown2
      have hc2 := hx2.keeps HC.out
      have HX2 : Hid (Ext w w2) := x1.trans hx2
      clear hown2 hgrow2 hx2 x1 HC
      go_wp2_with (first | (at_builtin; refine append_prs _ rfl _ _ 22 rfl w.heap.size 24 (.agg #[.int .i64 0, .int .i64 0]) 16 Try.underlying22 infoR rfl v2 1 [(0, x)] rfl (own_ext HO2.out ((Ext.refl w2).alloc _ _)) _ 1 1 [(y, 1048576)] rfl rfl ?_ (by omega) (by omega) (by omega) ?_ ?_) | go_in)
      · exact pair_news _ _ rfl _ _ _
      · exact (HX2.out.alloc _ _).size
      intro v3 w3 hown3 hgrow3
      have HO3 : Hid (w3.ownsRow w.heap.size 24 2 v3 2 (fl ([(0, x)] ++ [(y, 1048576)]))) := hown3
      have HX3 : Hid (Ext w w3) := (HX2.out.alloc _ _).grow hgrow3 fun q hq => own_geS HO2.out hq
      clear hown3 hgrow3
      go_wp2_with fail
      go_ret
      exact ⟨_, rfl, by rw [e2.out]; exact HO3.out, HX3.out⟩
    · have e2 : Hid (othL x y = [(0, x)] ++ []) := by show _ = _; unfold othL; rw [e1.out, if_neg h2]
      clear e1
      go_enter Try.func31, Try.ntmps31
      go_wp2_with (first | (at_builtin; refine append_prs _ rfl _ _ 22 rfl w.heap.size 24 (.agg #[.int .i64 0, .int .i64 0]) 16 Try.underlying22 infoR rfl (.slice none 0 0) 0 [] rfl (World.ownsRow_nil _ _ _ _) _ 1 1 [(0, x)] rfl rfl ?_ (by omega) (by omega) (by omega) ?_ ?_) | go_in)
      · first | exact pair_news (w.alloc (.cells #[.int .i64 x, .int .i64 y] 24)) _ (by rw [World.size_alloc]) _ _ _ | exact fun _ _ h => h
      · first | exact (x1.alloc _ _).size | omega
      intro v2 w2 hown2 hgrow2
      have hx2 : Ext (w.alloc (.cells #[.int .i64 x, .int .i64 y] 24)) w2 := ((Ext.refl _).alloc _ _).grow hgrow2 fun q hq => by cases hq
      have HO2 : Hid (w2.ownsRow w.heap.size 24 2 v2 1 (fl [(0, x)])) := hown2
      have hc2 := hx2.keeps HC.out
      have HX2 : Hid (Ext w w2) := x1.trans hx2
      clear hown2 hgrow2 hx2 x1 HC
      go_wp2_with fail
      go_ret
      exact ⟨_, rfl, by rw [e2.out]; exact HO2.out, HX2.out⟩
  · have e1 : Hid (othA x = []) := if_neg h1
    by_cases h2 : y < 1048576
    · have e2 : Hid (othL x y = [] ++ [(y, 1048576)]) := by show _ = _; unfold othL; rw [e1.out, if_pos h2]
      clear e1
      go_enter Try.func31, Try.ntmps31
      go_wp2_with (first | (at_builtin; refine append_prs _ rfl _ _ 22 rfl w.heap.size 24 (.agg #[.int .i64 0, .int .i64 0]) 16 Try.underlying22 infoR rfl (.slice none 0 0) 0 [] rfl (World.ownsRow_nil _ _ _ _) _ 1 1 [(y, 1048576)] rfl rfl ?_ (by omega) (by omega) (by omega) ?_ ?_) | go_in)
      · first | exact pair_news (w.alloc (.cells #[.int .i64 x, .int .i64 y] 24)) _ (by rw [World.size_alloc]) _ _ _ | exact fun _ _ h => h
      · first | exact (x1.alloc _ _).size | omega
      intro v2 w2 hown2 hgrow2
      have HX2 : Hid (Ext w w2) := (x1.alloc _ _).grow hgrow2 fun q hq => by cases hq
      have HO2 : Hid (w2.ownsRow w.heap.size 24 2 v2 1 (fl [(y, 1048576)])) := hown2
      clear hown2 hgrow2
      go_wp2_with fail
      go_ret
      exact ⟨_, rfl, by rw [e2.out]; exact HO2.out, HX2.out⟩
    · have e2 : Hid (othL x y = [] ++ []) := by show _ = _; unfold othL; rw [e1.out, if_neg h2]
      clear e1
      go_enter Try.func31, Try.ntmps31
      go_wp2_with fail
      go_ret
      exact ⟨_, rfl, by rw [e2.out]; exact World.ownsRow_nil _ _ _ _, x1⟩
end Go.Proofs.Ytfekiccjcfdmkaa
