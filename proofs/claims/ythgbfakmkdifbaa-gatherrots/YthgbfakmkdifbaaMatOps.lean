/-
  mat.plus, mat.times, mat.inverse of elements; mat.combined with a closure of which it is known what it tells; the world only grows.
-/
import Derived.Test.YthgbfakmkdifbaaChecked
import Derived.WalkKit
import Derived.Test.YthgbfakmkdifbaaGfs
import Derived.Test.YthgbfakmkdifbaaMm
import Derived.Test.YthgbfakmkdifbaaAlg
namespace Go.Proofs.Ythgbfakmkdifbaa
open Go.RowKit E
theorem pair_ev (x y : E) : pairB (ev x) (ev y) = true := by
  have hx := ev_bd x
  have hy := ev_bd y
  unfold pairB; rw [elB_of _ (by omega) (by omega), elB_of _ (by omega) (by omega)]; rfl
theorem addV_ev (x y : E) : addV (ev x) (ev y) = ev (ad x y) := by rw [addV, if_pos (pair_ev x y)]; rfl
theorem mulV_ev (x y : E) : mulV (ev x) (ev y) = ev (mu x y) := by rw [mulV, if_pos (pair_ev x y)]; rfl
theorem rangeE_ev (x y : E) : rangeE (ev x) (ev y) = 0 := by rw [rangeE, if_pos (pair_ev x y)]
theorem divV_ev (x y : E) (h : y ≠ ze) : divV (ev x) (ev y) = ev (mu x (iv y)) := by
  rw [divV, if_pos (pair_ev x y), if_neg (fun e => h (ev_inj (e.trans ev_ze.symm)))]; rfl
set_option maxRecDepth 100000 in
theorem plus_any (x y : E) (w : World) : Calls Try.prog 111 #[.int .i64 (ev x), .int .i64 (ev y)] w fun e w' => e = .returned (.int .i64 (ev (ad x y))) ∧ Ext w w' := by
  go_enter Try.func111, Try.ntmps111
  go_wp2_with fail
  refine (Add_any (ev x) (ev y) w).mono ?_
  rintro e w' ⟨rfl, hx⟩
  go_wp2_with fail
  go_ret
  exact ⟨ret_int (addV_ev x y), hx⟩
set_option maxRecDepth 100000 in
theorem times_any (x y : E) (w : World) : Calls Try.prog 109 #[.int .i64 (ev x), .int .i64 (ev y)] w fun e w' => e = .returned (.int .i64 (ev (mu x y))) ∧ Ext w w' := by
  go_enter Try.func109, Try.ntmps109
  go_wp2_with fail
  refine (Mul_any (ev x) (ev y) w).mono ?_
  rintro e w' ⟨rfl, hx⟩
  go_wp2_with fail
  go_ret
  exact ⟨ret_int (mulV_ev x y), hx⟩
set_option maxRecDepth 100000 in
theorem minverse_any (x : E) (h : x ≠ ze) (w : World) : Calls Try.prog 105 #[.int .i64 (ev x)] w fun e w' => e = .returned (.int .i64 (ev (iv x))) ∧ Ext w w' := by
  have H0 : Hid (x ≠ ze) := h
  clear h
  go_enter Try.func105, Try.ntmps105
  go_wp2_with fail
  refine (Inv_any (ev x) w).mono ?_
  rintro e w' ⟨rfl, hx⟩
  go_wp2_with fail
  go_ret
  exact ⟨ret_int ((divV_ev on x H0.out).trans (by rw [on_mu])), hx⟩
/-- the sum of the products of the row and what g tells, place by place: the first n -/
def dot (n : Nat) (f g : Nat → E) : E := sm n fun i => mu (f i) (g i)
end Go.Proofs.Ythgbfakmkdifbaa
