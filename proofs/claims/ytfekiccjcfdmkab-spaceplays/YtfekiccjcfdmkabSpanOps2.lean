/-
  span.Add, others, Cut: the set with all of a range, and without it: not of the form, or the one list of the set; in new memory.
-/
import Derived.Test.YtfekiccjcfdmkabChecked
import Derived.WalkKit
import Derived.BigQuiet
import Derived.Test.YtfekiccjcfdmkabSpanOps
namespace Go.Proofs.Ytfekiccjcfdmkab
open Go.RowKit Go.Deep
theorem rngs_one {w : World} {g : Nat} {x y : Int} (h0 : w.cell? ⟨g, 0, none⟩ = some (.int .i64 x)) (h1 : w.cell? ⟨g, 1, none⟩ = some (.int .i64 y)) : Rngs w (some ⟨g, 0, none⟩) [(x, y)] := by
  intro i a b hi
  have hl := lt_of_get hi
  obtain rfl : i = 0 := by simp at hl; omega
  simp at hi
  obtain ⟨rfl, rfl⟩ := hi
  exact ⟨g, 0, rfl, by simpa using h0, by simpa using h1⟩
theorem bdd_one {x y : Int} (h : (-9223372036854775808 ≤ x ∧ x ≤ 9223372036854775807) ∧ -9223372036854775808 ≤ y ∧ y ≤ 9223372036854775807) : Bdd [(x, y)] := by
  intro r hr
  rw [List.mem_singleton] at hr
  subst hr
  exact h
set_option maxRecDepth 100000 in
set_option maxHeartbeats 400000 in
theorem SpAdd_any (a : Option Addr) (n c : Nat) (L : List (Int × Int)) (x y : Int) (w : World) (hn : L.length = n) (hn' : n ≤ 9223372036854775807) (h : Rngs w a L) (hb : Bdd L) (hr : (-9223372036854775808 ≤ x ∧ x ≤ 9223372036854775807) ∧ -9223372036854775808 ≤ y ∧ y ≤ 9223372036854775807) :
    Calls Try.prog 26 #[.slice a n c, .agg #[.int .i64 x, .int .i64 y]] w fun e w' => OpRes w (mayB L && mayB [(x, y)]) (fun q => memL q L ∨ memL q [(x, y)]) e w' := by
  obtain ⟨w1, hw1⟩ : ∃ w1, w1 = (w.alloc (.cells #[.int .i64 x, .int .i64 y] 58)).alloc (.cells #[.int .i64 x, .int .i64 y] 58) := ⟨_, rfl⟩
  have x1 : Ext w w1 := by rw [hw1]; exact ((Ext.refl w).alloc _ _).alloc _ _
  have s1 : w1.heap.size = w.heap.size + 2 := by rw [hw1]; simp only [World.size_alloc]
  have hc0 : w1.cell? ⟨w.heap.size + 1, 0, none⟩ = some (.int .i64 x) := by
    have := new_cell (w.alloc (.cells #[.int .i64 x, .int .i64 y] 58)) #[.int .i64 x, .int .i64 y] 58 0
    rw [World.size_alloc] at this
    rw [hw1, this]; rfl
  have hc1 : w1.cell? ⟨w.heap.size + 1, 1, none⟩ = some (.int .i64 y) := by
    have := new_cell (w.alloc (.cells #[.int .i64 x, .int .i64 y] 58)) #[.int .i64 x, .int .i64 y] 58 1
    rw [World.size_alloc] at this
    rw [hw1, this]; rfl
  have x0 : Ext w1 (w1.alloc (.cells #[.slice a n c, .slice (some ⟨w.heap.size + 1, 0, none⟩) 1 1] 23)) := (Ext.refl w1).alloc _ _
  have eg : ∀ args w, (callFunc 42 args).run Try.prog w = .ok (.enter 42 args) w := enters_of Try.func42 (by kernel_rfl) rfl
  have hs := sift_any 42 wAny eg Add1_any rfl w1.heap.size 2 2 (two a (some ⟨w.heap.size + 1, 0, none⟩)) (two n 1) (two c 1) (two L [(x, y)]) (w1.alloc (.cells #[.slice a n c, .slice (some ⟨w.heap.size + 1, 0, none⟩) 1 1] 23)) (Nat.le_refl _)
    (fun j hj => match j, hj with | 0, _ => ⟨hn, hn'⟩ | 1, _ => ⟨rfl, by show 1 ≤ _; omega⟩) (fun j hj => match j, hj with | 0, _ => new_cell _ _ _ 0 | 1, _ => new_cell _ _ _ 1)
    (fun j hj => match j, hj with | 0, _ => h.ext (x1.trans x0) | 1, _ => (rngs_one hc0 hc1).ext x0) (fun j hj => match j, hj with | 0, _ => hb | 1, _ => bdd_one hr)
  clear h hb hn eg hc0 hc1
  rw [s1] at hs
  have HX : Hid (Ext w (w1.alloc (.cells #[.slice a n c, .slice (some ⟨w.heap.size + 1, 0, none⟩) 1 1] 23))) := x1.trans x0
  clear x1 x0 s1
  subst hw1
  go_enter Try.func26, Try.ntmps26
  go_wp2_with fail
  refine hs.mono ?_
  rintro e w2 ⟨v, er, rfl, hr2, hx1⟩
  have HR : Hid (SetRes (mayB L && mayB [(x, y)]) (fun q => memL q L ∨ memL q [(x, y)]) v er w2) := hr2.congr rfl (fun q k => two_any L _ q k)
  clear hr2 hs
  go_wp2_with fail
  go_ret2
  exact ⟨_, _, rfl, HR.out, HX.out.trans hx1⟩
end Go.Proofs.Ytfekiccjcfdmkab
