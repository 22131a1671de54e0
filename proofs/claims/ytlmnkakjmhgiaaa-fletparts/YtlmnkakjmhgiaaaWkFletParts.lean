/-
  In parts the sum is the same, one behind the other, or joined: at every two lists of bytes; no condition.
-/
import Derived.Test.YtlmnkakjmhgiaaaRows
import Derived.WalkKit
import Derived.ProofKit
import Derived.OpenShut
import Derived.ChangeOld
import Derived.Below
import Derived.BigQuiet
import Derived.Deep.CutRange
import Derived.Deep.QuietTactic
import Derived.Deep.RegionLaw
import Derived.Test.YtlmnkakjmhgiaaaOpn
import Derived.Test.YtlmnkakjmhgiaaaChecked
import Derived.Test.YtlmnkakjmhgiaaaKeepFlet
import Derived.Test.YtlmnkakjmhgiaaaFletJoin
namespace Go.Proofs.Ytlmnkakjmhgiaaa.fletParts
open Go.ChangeShapes Go.WideShapes Go.ChangeAt Go.RowKit Go.Deep E
set_option linter.unusedVariables false

set_option maxRecDepth 100000 in
set_option maxHeartbeats 4000000 in
theorem walk (a0 : Option Addr) (n0 c0 : Nat) (f0 : Nat → E) (a1 : Option Addr) (n1 c1 : Nat) (f1 : Nat → E) (w : World) (h0 : Byts w a0 n0 f0) (b0 : n0 ≤ c0 ∧ c0 ≤ 9223372036854775807) (h1 : Byts w a1 n1 f1) (b1 : n1 ≤ c1 ∧ c1 ≤ 9223372036854775807) :
    Calls Try.prog 7 #[.slice a0 n0 c0, .slice a1 n1 c1] w fun e w' => e = .returned (.bool true) ∧ Ext w w' := by
  have HA : Hid (Byts w a0 n0 f0) := h0
  have HB : Hid (Byts w a1 n1 f1) := h1
  clear h0 h1
  have hwa := wk_le n0
  have hwb := wk_le n1
  go_enter Try.func7, Try.ntmps7
  go_wp2_with fail
  refine (Words_any a0 n0 c0 f0 _ b0.1 b0.2 HA.out).mono ?_
  rintro e v1 ⟨⟨vx, rfl, hox⟩, hx1⟩
  obtain ⟨j, hj⟩ : ∃ j, wk n0 = j := ⟨_, rfl⟩
  rw [hj] at hox hwa
  clear hj HA
  obtain ⟨ax, cx, rfl, hbx, hcx⟩ := own_room hox
  have HX1 : Hid (Byts v1 ax (4 * j) f0) := hbx
  clear hox hbx
  go_wp2_with fail
  refine (Words_any a1 n1 c1 f1 _ b1.1 b1.2 (HB.out.ext hx1)).mono ?_
  rintro e v2 ⟨⟨vy, rfl, hoy⟩, hx2⟩
  obtain ⟨k, hk⟩ : ∃ k, wk n1 = k := ⟨_, rfl⟩
  rw [hk] at hoy hwb
  clear hk HB
  obtain ⟨ay, cy, rfl, hby, hcy⟩ := own_room hoy
  have HY : Hid (Byts v2 ay (4 * k) f1) := hby
  have HX : Hid (Byts v2 ax (4 * j) f0) := HX1.out.ext hx2
  have X2 : Hid (Ext w v2) := hx1.trans hx2
  clear hoy hby hx1 hx2 HX1
  obtain ⟨S, hS⟩ : ∃ S : Nat → Int, mw (fun _ => 0) (wrdOf f0) j = S := ⟨_, rfl⟩
  obtain ⟨T, hT⟩ : ∃ T : Nat → Int, mw (fun _ => 0) (wrdOf f1) k = T := ⟨_, rfl⟩
  obtain ⟨U, hU⟩ : ∃ U : Nat → Int, mw S (wrdOf f1) k = U := ⟨_, rfl⟩
  have HS : Hid (mw (fun _ => 0) (wrdOf f0) j = S) := hS
  have HT : Hid (mw (fun _ => 0) (wrdOf f1) k = T) := hT
  have HU : Hid (mw S (wrdOf f1) k = U) := hU
  have HUJ : Hid (∀ i, joinV S T k i = U i) := fun i => by
    rw [← hU, mw_joinV (fun i => by rw [← hS]; exact mw0_in _ _ _) k (by omega) i, hT]
  clear hS hT hU
  go_wp2_with fail
  refine (Of_words ax j cx f0 _ hcx.1 hcx.2 HX.out).mono ?_
  rintro e v4 ⟨rfl, hx4⟩
  rw [HS.out]
  have ROW7 : Hid ((v4.alloc (.cells #[.int .i64 (S 0), .int .i64 (S 1), .int .i64 (S 2), .int .i64 (S 3)] 31)).rowIs v4.heap.size 31 4 (ivs S)) := row4_alloc v4 31 (ivs S)
  have X5 : Hid (Ext v2 (v4.alloc (.cells #[.int .i64 (S 0), .int .i64 (S 1), .int .i64 (S 2), .int .i64 (S 3)] 31))) := hx4.alloc _ _
  go_upto_region 4 with fail
  generalize v4.alloc (.cells #[.int .i64 (S 0), .int .i64 (S 1), .int .i64 (S 2), .int .i64 (S 3)] 31) = v5 at *
  generalize v4.heap.size = g7 at *
  clear hx4
  go_wp2_with fail
  refine (Of_words ay k cy f1 _ hcy.1 hcy.2 (HY.out.ext X5.out)).mono ?_
  rintro e v6 ⟨rfl, hx6⟩
  rw [HT.out]
  have ROW9 : Hid ((v6.alloc (.cells #[.int .i64 (T 0), .int .i64 (T 1), .int .i64 (T 2), .int .i64 (T 3)] 31)).rowIs v6.heap.size 31 4 (ivs T)) := row4_alloc v6 31 (ivs T)
  have X7 : Hid (Ext v5 (v6.alloc (.cells #[.int .i64 (T 0), .int .i64 (T 1), .int .i64 (T 2), .int .i64 (T 3)] 31))) := hx6.alloc _ _
  go_upto_region 5 with fail
  generalize v6.alloc (.cells #[.int .i64 (T 0), .int .i64 (T 1), .int .i64 (T 2), .int .i64 (T 3)] 31) = v7 at *
  generalize v6.heap.size = g9 at *
  clear hx6
  have HX7 : Hid (Byts v7 ax (4 * j) f0) := HX.out.ext (X5.out.trans X7.out)
  go_wp2_with (first | (at_builtin; refine append_vals v7 rfl (.const (.slice none 0 0)) (.tmp 32) 29 rfl v7.heap.size 5 (.int .u8 0) 1 Try.underlying29 infoByte rfl (.slice none 0 0) 0 [] rfl (World.ownsRow_nil _ _ _ _) ax (4 * j) cx (bvs f0) rfl HX7.out (fun _ _ => rfl) (by omega) (by omega) (Nat.le_refl _) ?_) | fail)
  intro va v8 hown8 hgrow8
  have X8 : Hid (Ext v7 v8) := (Ext.refl v7).grow hgrow8 fun _ hk => by cases hk
  have HO8 : Hid (v8.ownsRow v7.heap.size 5 1 va (4 * j) ((List.range (4 * j)).map (bvs f0))) := hown8
  have HY8 : Hid (Byts v8 ay (4 * k) f1) := HY.out.ext (X5.out.trans (X7.out.trans X8.out))
  have hs8 := X8.out.size
  clear hown8 hgrow8 HX7
  go_wp2_with (first | (at_builtin; refine append_vals v8 rfl (.tmp 33) (.tmp 34) 29 rfl v7.heap.size 5 (.int .u8 0) 1 Try.underlying29 infoByte rfl va (4 * j) _ rfl HO8.out ay (4 * k) cy (bvs f1) rfl HY8.out (fun _ _ => rfl) (by omega) (by omega) hs8 ?_) | go_in)
  intro vb v9 hown9 hgrow9
  have X9 : Hid (Ext v7 v9) := X8.out.grow hgrow9 fun b hb => (own_ge HO8.out hb).1
  rw [cat_map, show 4 * j + 4 * k = 4 * (j + k) by omega] at hown9
  obtain ⟨ab, cb, rfl, hbb, hcb⟩ := own_room hown9
  have HB9 : Hid (Byts v9 ab (4 * (j + k)) (catB (4 * j) f0 f1)) := hbb
  clear hown9 hgrow9 hbb HO8 HY8 X8 hs8
  go_wp2_with fail
  refine (Of_words ab (j + k) cb _ _ hcb.1 hcb.2 HB9.out).mono ?_
  rintro e v10 ⟨rfl, hx10⟩
  rw [mw_catB, HS.out, HU.out]
  have X11 : Hid (Ext v7 (v10.alloc (.cells #[.int .i64 (U 0), .int .i64 (U 1), .int .i64 (U 2), .int .i64 (U 3)] 31))) := (X9.out.trans hx10).alloc _ _
  have ROW11 : Hid ((v10.alloc (.cells #[.int .i64 (U 0), .int .i64 (U 1), .int .i64 (U 2), .int .i64 (U 3)] 31)).rowIs v10.heap.size 31 4 (ivs U)) := row4_alloc v10 31 (ivs U)
  go_upto_region 6 with fail
  generalize v10.alloc (.cells #[.int .i64 (U 0), .int .i64 (U 1), .int .i64 (U 2), .int .i64 (U 3)] 31) = v11 at *
  generalize v10.heap.size = g11 at *
  clear hx10 HB9 X9
  have r7 := X11.out.rowIs (X7.out.rowIs ROW7.out)
  have d0 := r7.cell (i := 0) (by omega)
  have d1 := r7.cell (i := 1) (by omega)
  have d2 := r7.cell (i := 2) (by omega)
  have d3 := r7.cell (i := 3) (by omega)
  unfold ivs at d0 d1 d2 d3
  clear r7
  go_wp2_with fail
  clear d0 d1 d2 d3
  refine (More_words S ay k cy f1 _ hcy.1 hcy.2 (HY.out.ext (X5.out.trans (X7.out.trans X11.out)))).mono ?_
  rintro e v12 ⟨rfl, hx12⟩
  rw [HU.out]
  have X13 : Hid (Ext v11 (v12.alloc (.cells #[.int .i64 (U 0), .int .i64 (U 1), .int .i64 (U 2), .int .i64 (U 3)] 31))) := hx12.alloc _ _
  have ROW13 : Hid ((v12.alloc (.cells #[.int .i64 (U 0), .int .i64 (U 1), .int .i64 (U 2), .int .i64 (U 3)] 31)).rowIs v12.heap.size 31 4 (ivs U)) := row4_alloc v12 31 (ivs U)
  go_upto_region 7 with fail
  generalize v12.alloc (.cells #[.int .i64 (U 0), .int .i64 (U 1), .int .i64 (U 2), .int .i64 (U 3)] 31) = v13 at *
  generalize v12.heap.size = g13 at *
  clear hx12
  have r7 := X13.out.rowIs (X11.out.rowIs (X7.out.rowIs ROW7.out))
  have r9 := X13.out.rowIs (X11.out.rowIs ROW9.out)
  have d0 := r7.cell (i := 0) (by omega)
  have d1 := r7.cell (i := 1) (by omega)
  have d2 := r7.cell (i := 2) (by omega)
  have d3 := r7.cell (i := 3) (by omega)
  unfold ivs at d0 d1 d2 d3
  have q0 := r9.cell (i := 0) (by omega)
  have q1 := r9.cell (i := 1) (by omega)
  have q2 := r9.cell (i := 2) (by omega)
  have q3 := r9.cell (i := 3) (by omega)
  unfold ivs at q0 q1 q2 q3
  clear r7 r9
  have hdiv : ((4 * k : Nat) : Int) / 4 = (k : Int) := by omega
  go_wp2_with fail
  clear d0 d1 d2 d3 q0 q1 q2 q3
  try rw [hdiv]
  refine (Join_any S T k _).mono ?_
  rintro e v14 ⟨rfl, hx14⟩
  rw [HUJ.out 0, HUJ.out 1, HUJ.out 2, HUJ.out 3, show joinE (k : Int) = 0 by unfold joinE joinB; rw [if_pos (by simp; omega)]]
  have X15 : Hid (Ext v13 (v14.alloc (.cells #[.int .i64 (U 0), .int .i64 (U 1), .int .i64 (U 2), .int .i64 (U 3)] 31))) := hx14.alloc _ _
  have ROW15 : Hid ((v14.alloc (.cells #[.int .i64 (U 0), .int .i64 (U 1), .int .i64 (U 2), .int .i64 (U 3)] 31)).rowIs v14.heap.size 31 4 (ivs U)) := row4_alloc v14 31 (ivs U)
  go_upto_region 8 with fail
  generalize v14.alloc (.cells #[.int .i64 (U 0), .int .i64 (U 1), .int .i64 (U 2), .int .i64 (U 3)] 31) = v15 at *
  generalize v14.heap.size = g15 at *
  clear hx14
  go_wp2_with fail
  refine (sure_any _).mono ?_
  rintro e v16 ⟨rfl, hx16⟩
  have r11 := hx16.rowIs (X15.out.rowIs (X13.out.rowIs ROW11.out))
  have r13 := hx16.rowIs (X15.out.rowIs ROW13.out)
  have r15 := hx16.rowIs ROW15.out
  have d0 := r11.cell (i := 0) (by omega)
  have d1 := r11.cell (i := 1) (by omega)
  have d2 := r11.cell (i := 2) (by omega)
  have d3 := r11.cell (i := 3) (by omega)
  unfold ivs at d0 d1 d2 d3
  have q0 := r13.cell (i := 0) (by omega)
  have q1 := r13.cell (i := 1) (by omega)
  have q2 := r13.cell (i := 2) (by omega)
  have q3 := r13.cell (i := 3) (by omega)
  unfold ivs at q0 q1 q2 q3
  have g0 := r15.cell (i := 0) (by omega)
  have g1 := r15.cell (i := 1) (by omega)
  have g2 := r15.cell (i := 2) (by omega)
  have g3 := r15.cell (i := 3) (by omega)
  unfold ivs at g0 g1 g2 g3
  clear r11 r13 r15
  have HEND : Hid (Ext w v16) := X2.out.trans (X5.out.trans (X7.out.trans (X11.out.trans (X13.out.trans (X15.out.trans hx16)))))
  go_wp2_with fail
  go_ret
  exact ⟨by simp, HEND.out⟩
end Go.Proofs.Ytlmnkakjmhgiaaa.fletParts
