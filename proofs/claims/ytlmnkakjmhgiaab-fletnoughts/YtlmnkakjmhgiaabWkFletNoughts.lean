/-
  Words 0 ahead of all are not seen, behind them all but the first sum go on: at every list of bytes and every number; no condition.
-/
import Derived.Test.YtlmnkakjmhgiaabRows
import Derived.WalkKit
import Derived.ProofKit
import Derived.OpenShut
import Derived.ChangeOld
import Derived.Below
import Derived.BigQuiet
import Derived.Deep.CutRange
import Derived.Deep.QuietTactic
import Derived.Deep.RegionLaw
import Derived.Test.YtlmnkakjmhgiaabOpn
import Derived.Test.YtlmnkakjmhgiaabChecked
import Derived.Test.YtlmnkakjmhgiaabKeepFlet
import Derived.Test.YtlmnkakjmhgiaabFletJoin
namespace Go.Proofs.Ytlmnkakjmhgiaab.fletNoughts
open Go.ChangeShapes Go.WideShapes Go.ChangeAt Go.RowKit Go.Deep E
set_option linter.unusedVariables false

set_option maxRecDepth 100000 in
set_option maxHeartbeats 4000000 in
theorem walk (a0 : Option Addr) (n0 c0 : Nat) (f0 : Nat → E) (a1 : Int) (w : World) (h0 : Byts w a0 n0 f0) (b0 : n0 ≤ c0 ∧ c0 ≤ 9223372036854775807) (w1 : -9223372036854775808 ≤ a1 ∧ a1 ≤ 9223372036854775807) :
    Calls Try.prog 4 #[.slice a0 n0 c0, .int .i64 a1] w fun e w' => e = .returned (.bool true) ∧ Ext w w' := by
  have HB : Hid (Byts w a0 n0 f0) := h0
  clear h0
  obtain ⟨z, hz, hz2⟩ := picked_is a1 60 (by omega)
  have HZ : Hid (a1 % 60 = z) := hz
  clear hz
  have hwk := wk_le n0
  have hmk := make_bytes (4 * z) (by omega)
  rw [show ((4 * z : Nat) : Int) = 4 * (z : Int) by omega] at hmk
  go_enter Try.func4, Try.ntmps4
  go_wp2_with fail
  refine (Words_any a0 n0 c0 f0 _ b0.1 b0.2 HB.out).mono ?_
  rintro e v1 ⟨⟨vx, rfl, hox⟩, hx1⟩
  obtain ⟨k, hk⟩ : ∃ k, wk n0 = k := ⟨_, rfl⟩
  rw [hk] at hox hwk
  clear hk HB
  obtain ⟨ax, cx, rfl, hbx, hcx⟩ := own_room hox
  have HX : Hid (Byts v1 ax (4 * k) f0) := hbx
  clear hox hbx
  go_wp2_with fail
  refine (Picked_bd a1 60 z _ (by omega) (by omega) w1 HZ.out).mono ?_
  rintro e v2 ⟨rfl, rfl⟩
  go_wp2_with fail
  have Z3 : Hid (Byts (v2.alloc (.cells (madeCells #[.int .u8 0] (4 * z)) 5)) (some ⟨v2.heap.size, 0, none⟩) (4 * z) (fun _ => ze)) := Byts.row (World.rowIs_made v2 (.int .u8 0) (4 * z) 5) (Nat.le_refl _)
  have X3 : Hid (Ext w (v2.alloc (.cells (madeCells #[.int .u8 0] (4 * z)) 5))) := hx1.alloc _ _
  have HX3 : Hid (Byts (v2.alloc (.cells (madeCells #[.int .u8 0] (4 * z)) 5)) ax (4 * k) f0) := HX.out.ext ((Ext.refl _).alloc _ _)
  generalize v2.alloc (.cells (madeCells #[.int .u8 0] (4 * z)) 5) = v3 at *
  generalize v2.heap.size = gz at *
  clear hmk HX HZ hx1
  obtain ⟨S, hS⟩ : ∃ S : Nat → Int, mw (fun _ => 0) (wrdOf f0) k = S := ⟨_, rfl⟩
  have HSI : Hid (∀ i, -9223372036854775808 ≤ S i ∧ S i ≤ 9223372036854775807) := fun i => by rw [← hS]; exact mw0_in _ _ _
  have HS : Hid (mw (fun _ => 0) (wrdOf f0) k = S) := hS
  refine (Of_words ax k cx f0 _ hcx.1 hcx.2 HX3.out).mono ?_
  rintro e v4 ⟨rfl, hx4⟩
  rw [hS]
  clear hS
  have ROW7 : Hid ((v4.alloc (.cells #[.int .i64 (S 0), .int .i64 (S 1), .int .i64 (S 2), .int .i64 (S 3)] 27)).rowIs v4.heap.size 27 4 (ivs S)) := row4_alloc v4 27 (ivs S)
  have X5 : Hid (Ext v3 (v4.alloc (.cells #[.int .i64 (S 0), .int .i64 (S 1), .int .i64 (S 2), .int .i64 (S 3)] 27))) := hx4.alloc _ _
  go_upto_region 4 with fail
  generalize v4.alloc (.cells #[.int .i64 (S 0), .int .i64 (S 1), .int .i64 (S 2), .int .i64 (S 3)] 27) = v5 at *
  generalize v4.heap.size = g7 at *
  clear hx4
  have HZF : Hid (∀ i, i < 4 * z → ∃ b o, (some ⟨gz, 0, none⟩ : Option Addr) = some ⟨b, o, none⟩ ∧ v5.cell? ⟨b, o + i, none⟩ = some (bvs (fun _ => ze) i)) := Z3.out.ext X5.out
  go_wp2_with (first | (at_builtin; refine append_vals v5 rfl (.const (.slice none 0 0)) (.tmp 27) 22 rfl v5.heap.size 5 (.int .u8 0) 1 Try.underlying22 infoByte rfl (.slice none 0 0) 0 [] rfl (World.ownsRow_nil _ _ _ _) (some ⟨gz, 0, none⟩) (4 * z) (4 * z) (bvs fun _ => ze) rfl HZF.out (fun _ _ => rfl) (by omega) (by omega) (Nat.le_refl _) ?_) | fail)
  intro va v6 hown6 hgrow6
  have X6 : Hid (Ext v5 v6) := (Ext.refl v5).grow hgrow6 fun _ hk => by cases hk
  have HO6 : Hid (v6.ownsRow v5.heap.size 5 1 va (4 * z) ((List.range (4 * z)).map (bvs fun _ => ze))) := hown6
  have HX6 : Hid (Byts v6 ax (4 * k) f0) := HX3.out.ext (X5.out.trans X6.out)
  have hs6 := X6.out.size
  clear hown6 hgrow6 HZF
  go_wp2_with (first | (at_builtin; refine append_vals v6 rfl (.tmp 28) (.tmp 29) 22 rfl v5.heap.size 5 (.int .u8 0) 1 Try.underlying22 infoByte rfl va (4 * z) _ rfl HO6.out ax (4 * k) cx (bvs f0) rfl HX6.out (fun _ _ => rfl) (by omega) (by omega) hs6 ?_) | go_in)
  intro vb v7 hown7 hgrow7
  have X7 : Hid (Ext v5 v7) := X6.out.grow hgrow7 fun b hb => (own_ge HO6.out hb).1
  rw [cat_map, show 4 * z + 4 * k = 4 * (z + k) by omega] at hown7
  obtain ⟨ab, cb, rfl, hbb, hcb⟩ := own_room hown7
  have HB7 : Hid (Byts v7 ab (4 * (z + k)) (catB (4 * z) (fun _ => ze) f0)) := hbb
  clear hown7 hgrow7 hbb HO6 HX6 X6 hs6
  go_wp2_with fail
  refine (Of_words ab (z + k) cb _ _ hcb.1 hcb.2 HB7.out).mono ?_
  rintro e v8 ⟨rfl, hx8⟩
  rw [mw_catB, show mw (fun _ => 0) (wrdOf fun _ => ze) z = fun _ => 0 from funext fun i => mw_no z (fun i _ => wrd_no i) i, HS.out]
  have X8 : Hid (Ext v5 (v8.alloc (.cells #[.int .i64 (S 0), .int .i64 (S 1), .int .i64 (S 2), .int .i64 (S 3)] 27))) := (X7.out.trans hx8).alloc _ _
  have ROW9 : Hid ((v8.alloc (.cells #[.int .i64 (S 0), .int .i64 (S 1), .int .i64 (S 2), .int .i64 (S 3)] 27)).rowIs v8.heap.size 27 4 (ivs S)) := row4_alloc v8 27 (ivs S)
  go_upto_region 5 with fail
  generalize v8.alloc (.cells #[.int .i64 (S 0), .int .i64 (S 1), .int .i64 (S 2), .int .i64 (S 3)] 27) = v9 at *
  generalize v8.heap.size = g9 at *
  clear hx8 HB7 X7
  have r7 := X8.out.rowIs ROW7.out
  have d0 := r7.cell (i := 0) (by omega)
  have d1 := r7.cell (i := 1) (by omega)
  have d2 := r7.cell (i := 2) (by omega)
  have d3 := r7.cell (i := 3) (by omega)
  unfold ivs at d0 d1 d2 d3
  clear r7
  go_wp2_with fail
  clear d0 d1 d2 d3
  refine (More_words S (some ⟨gz, 0, none⟩) z (4 * z) (fun _ => ze) _ (Nat.le_refl _) (by omega) (Z3.out.ext (X5.out.trans X8.out))).mono ?_
  rintro e v10 ⟨rfl, hx10⟩
  obtain ⟨U, hU⟩ : ∃ U : Nat → Int, mw S (wrdOf fun _ => ze) z = U := ⟨_, rfl⟩
  have HUA : Hid (U 0 = S 0) := by show U 0 = S 0; rw [← hU]; exact mw_A0 HSI.out z fun i _ => wrd_no i
  have HUJ : Hid (∀ i, joinV S (fun _ => 0) z i = U i) := fun i => by
    rw [← hU, mw_joinV HSI.out z (by omega) i, show mw (fun _ => 0) (wrdOf fun _ => ze) z = fun _ => 0 from funext fun i => mw_no z (fun i _ => wrd_no i) i]
  rw [hU]
  clear hU
  have X11 : Hid (Ext v9 (v10.alloc (.cells #[.int .i64 (U 0), .int .i64 (U 1), .int .i64 (U 2), .int .i64 (U 3)] 27))) := hx10.alloc _ _
  have ROW11 : Hid ((v10.alloc (.cells #[.int .i64 (U 0), .int .i64 (U 1), .int .i64 (U 2), .int .i64 (U 3)] 27)).rowIs v10.heap.size 27 4 (ivs U)) := row4_alloc v10 27 (ivs U)
  go_upto_region 6 with fail
  generalize v10.alloc (.cells #[.int .i64 (U 0), .int .i64 (U 1), .int .i64 (U 2), .int .i64 (U 3)] 27) = v11 at *
  generalize v10.heap.size = g11 at *
  clear hx10
  have r7 := X11.out.rowIs (X8.out.rowIs ROW7.out)
  have d0 := r7.cell (i := 0) (by omega)
  have d1 := r7.cell (i := 1) (by omega)
  have d2 := r7.cell (i := 2) (by omega)
  have d3 := r7.cell (i := 3) (by omega)
  unfold ivs at d0 d1 d2 d3
  clear r7
  go_wp2_with fail
  clear d0 d1 d2 d3
  refine (Join_any S (fun _ => 0) z _).mono ?_
  rintro e v12 ⟨rfl, hx12⟩
  rw [HUJ.out 0, HUJ.out 1, HUJ.out 2, HUJ.out 3, show joinE (z : Int) = 0 by unfold joinE joinB; rw [if_pos (by simp; omega)]]
  have X13 : Hid (Ext v11 (v12.alloc (.cells #[.int .i64 (U 0), .int .i64 (U 1), .int .i64 (U 2), .int .i64 (U 3)] 27))) := hx12.alloc _ _
  have ROW13 : Hid ((v12.alloc (.cells #[.int .i64 (U 0), .int .i64 (U 1), .int .i64 (U 2), .int .i64 (U 3)] 27)).rowIs v12.heap.size 27 4 (ivs U)) := row4_alloc v12 27 (ivs U)
  go_upto_region 7 with fail
  generalize v12.alloc (.cells #[.int .i64 (U 0), .int .i64 (U 1), .int .i64 (U 2), .int .i64 (U 3)] 27) = v13 at *
  generalize v12.heap.size = g13 at *
  clear hx12
  go_wp2_with fail
  refine (sure_any _).mono ?_
  rintro e v14 ⟨rfl, hx14⟩
  have r7 := hx14.rowIs (X13.out.rowIs (X11.out.rowIs (X8.out.rowIs ROW7.out)))
  have r9 := hx14.rowIs (X13.out.rowIs (X11.out.rowIs ROW9.out))
  have r11 := hx14.rowIs (X13.out.rowIs ROW11.out)
  have r13 := hx14.rowIs ROW13.out
  have d0 := r7.cell (i := 0) (by omega)
  have d1 := r7.cell (i := 1) (by omega)
  have d2 := r7.cell (i := 2) (by omega)
  have d3 := r7.cell (i := 3) (by omega)
  unfold ivs at d0 d1 d2 d3
  have q0 := r9.cell (i := 0) (by omega)
  have q1 := r9.cell (i := 1) (by omega)
  have q2 := r9.cell (i := 2) (by omega)
  have q3 := r9.cell (i := 3) (by omega)
  unfold ivs at q0 q1 q2 q3
  have k0 := r11.cell (i := 0) (by omega)
  have k1 := r11.cell (i := 1) (by omega)
  have k2 := r11.cell (i := 2) (by omega)
  have k3 := r11.cell (i := 3) (by omega)
  unfold ivs at k0 k1 k2 k3
  have g0 := r13.cell (i := 0) (by omega)
  have g1 := r13.cell (i := 1) (by omega)
  have g2 := r13.cell (i := 2) (by omega)
  have g3 := r13.cell (i := 3) (by omega)
  unfold ivs at g0 g1 g2 g3
  have hUA := HUA.out
  rw [hUA] at k0 g0
  clear r7 r9 r11 r13
  have hend : Ext w v14 := X3.out.trans (X5.out.trans (X8.out.trans (X11.out.trans (X13.out.trans hx14))))
  have HEND : Hid (Ext w v14) := hend
  clear hend
  go_wp2_with fail
  go_ret
  exact ⟨by simp, HEND.out⟩
end Go.Proofs.Ytlmnkakjmhgiaab.fletNoughts
