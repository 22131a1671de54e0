/-
  The document's own LabelMay at every label; the world only grows.
-/
import Derived.Test.YtemndnpbbkjmhabLabMay
namespace Go.Proofs.Ytemndnpbbkjmhab
open Go.RowKit Go.Deep E
set_option maxRecDepth 100000 in
set_option maxHeartbeats 16000000 in
theorem LabelMay_any (x : Nat → Int) (w : World) : Calls Try.prog 30 #[.agg #[.int .i64 (x 0), .int .i64 (x 1), .int .i64 (x 2), .int .i64 (x 3), .int .i64 (x 4), .int .i64 (x 5), .int .i64 (x 6), .int .i64 (x 7), .int .i64 (x 8), .int .i64 (x 9), .int .i64 (x 10), .int .i64 (x 11), .int .i64 (x 12)]] w fun e w' => e = .returned (.bool (mayL x)) ∧ Ext w w' := by
  have X : Hid (Ext w (w.alloc (.cells #[.int .i64 (x 0), .int .i64 (x 1), .int .i64 (x 2), .int .i64 (x 3), .int .i64 (x 4), .int .i64 (x 5), .int .i64 (x 6), .int .i64 (x 7), .int .i64 (x 8), .int .i64 (x 9), .int .i64 (x 10), .int .i64 (x 11), .int .i64 (x 12)] 28))) := (Ext.refl _).alloc _ _
  have Y : Hid (Ext w ((w.alloc (.cells #[.int .i64 (x 0), .int .i64 (x 1), .int .i64 (x 2), .int .i64 (x 3), .int .i64 (x 4), .int .i64 (x 5), .int .i64 (x 6), .int .i64 (x 7), .int .i64 (x 8), .int .i64 (x 9), .int .i64 (x 10), .int .i64 (x 11), .int .i64 (x 12)] 28)).alloc (.cells #[.int .i64 ((fun i => x (i + 5)) 0), .int .i64 ((fun i => x (i + 5)) 1), .int .i64 ((fun i => x (i + 5)) 2), .int .i64 ((fun i => x (i + 5)) 3), .int .i64 ((fun i => x (i + 5)) 4), .int .i64 ((fun i => x (i + 5)) 5), .int .i64 ((fun i => x (i + 5)) 6), .int .i64 ((fun i => x (i + 5)) 7)] 26))) := ((Ext.refl _).alloc _ _).alloc _ _
  by_cases d0 : 1 ≤ x 0
  rotate_left
  · go_enter Try.func30, Try.ntmps30
    go_wp2_with fail
    go_ret
    exact ⟨by rw [show mayL x = false from decide_eq_false (by omega)]; rfl, X.out⟩
  by_cases d1 : x 0 ≤ 1048576
  rotate_left
  · go_enter Try.func30, Try.ntmps30
    go_wp2_with fail
    go_ret
    exact ⟨by rw [show mayL x = false from decide_eq_false (by omega)]; rfl, X.out⟩
  by_cases d2 : 2 ≤ x 2
  rotate_left
  · go_enter Try.func30, Try.ntmps30
    go_wp2_with fail
    go_ret
    exact ⟨by rw [show mayL x = false from decide_eq_false (by omega)]; rfl, X.out⟩
  by_cases d3 : x 2 ≤ 8
  rotate_left
  · go_enter Try.func30, Try.ntmps30
    go_wp2_with fail
    go_ret
    exact ⟨by rw [show mayL x = false from decide_eq_false (by omega)]; rfl, X.out⟩
  by_cases d4 : 0 ≤ x 1
  rotate_left
  · go_enter Try.func30, Try.ntmps30
    go_wp2_with fail
    go_ret
    exact ⟨by rw [show mayL x = false from decide_eq_false (by omega)]; rfl, X.out⟩
  by_cases d5 : x 1 < x 2
  rotate_left
  · go_enter Try.func30, Try.ntmps30
    go_wp2_with fail
    go_ret
    exact ⟨by rw [show mayL x = false from decide_eq_false (by omega)]; rfl, X.out⟩
  by_cases d6 : 1 ≤ x 3
  rotate_left
  · go_enter Try.func30, Try.ntmps30
    go_wp2_with fail
    go_ret
    exact ⟨by rw [show mayL x = false from decide_eq_false (by omega)]; rfl, X.out⟩
  by_cases d7 : x 3 ≤ 3
  rotate_left
  · go_enter Try.func30, Try.ntmps30
    go_wp2_with fail
    go_ret
    exact ⟨by rw [show mayL x = false from decide_eq_false (by omega)]; rfl, X.out⟩
  by_cases d8 : x 3 < x 2
  rotate_left
  · go_enter Try.func30, Try.ntmps30
    go_wp2_with fail
    go_ret
    exact ⟨by rw [show mayL x = false from decide_eq_false (by omega)]; rfl, X.out⟩
  by_cases d9 : 0 ≤ x 4
  rotate_left
  · go_enter Try.func30, Try.ntmps30
    go_wp2_with fail
    go_ret
    exact ⟨by rw [show mayL x = false from decide_eq_false (by omega)]; rfl, X.out⟩
  by_cases d10 : x 4 ≤ 1048576
  rotate_left
  · go_enter Try.func30, Try.ntmps30
    go_wp2_with fail
    go_ret
    exact ⟨by rw [show mayL x = false from decide_eq_false (by omega)]; rfl, X.out⟩
  by_cases d11 : 0 ≤ x 5
  rotate_left
  · go_enter Try.func30, Try.ntmps30
    go_wp2_with fail
    go_ret
    exact ⟨by rw [show mayL x = false from decide_eq_false (by omega)]; rfl, Y.out⟩
  by_cases d12 : x 5 ≤ 65536
  rotate_left
  · go_enter Try.func30, Try.ntmps30
    go_wp2_with fail
    go_ret
    exact ⟨by rw [show mayL x = false from decide_eq_false (by omega)]; rfl, Y.out⟩
  by_cases d13 : 0 ≤ x 6
  rotate_left
  · go_enter Try.func30, Try.ntmps30
    go_wp2_with fail
    go_ret
    exact ⟨by rw [show mayL x = false from decide_eq_false (by omega)]; rfl, Y.out⟩
  by_cases d14 : x 6 ≤ 32
  rotate_left
  · go_enter Try.func30, Try.ntmps30
    go_wp2_with fail
    go_ret
    exact ⟨by rw [show mayL x = false from decide_eq_false (by omega)]; rfl, Y.out⟩
  by_cases d15 : 0 ≤ x 7
  rotate_left
  · go_enter Try.func30, Try.ntmps30
    go_wp2_with fail
    go_ret
    exact ⟨by rw [show mayL x = false from decide_eq_false (by omega)]; rfl, Y.out⟩
  by_cases d16 : x 7 ≤ 128 * x 6
  rotate_left
  · go_enter Try.func30, Try.ntmps30
    go_wp2_with fail
    go_ret
    exact ⟨by rw [show mayL x = false from decide_eq_false (by omega)]; rfl, Y.out⟩
  by_cases d17 : 0 ≤ x 8
  rotate_left
  · go_enter Try.func30, Try.ntmps30
    go_wp2_with fail
    go_ret
    exact ⟨by rw [show mayL x = false from decide_eq_false (by omega)]; rfl, Y.out⟩
  by_cases d18 : x 8 ≤ x 4
  rotate_left
  · go_enter Try.func30, Try.ntmps30
    go_wp2_with fail
    go_ret
    exact ⟨by rw [show mayL x = false from decide_eq_false (by omega)]; rfl, Y.out⟩
  go_enter Try.func30, Try.ntmps30
  go_wp2_with fail
  go_ret
  exact ⟨by rw [show mayL x = true from decide_eq_true (by omega)]; rfl, Y.out⟩
end Go.Proofs.Ytemndnpbbkjmhab
