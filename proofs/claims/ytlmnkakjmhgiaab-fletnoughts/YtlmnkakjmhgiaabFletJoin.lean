/-
  flet.Join: the sums of two parts, put together; the world only grows.
-/
import Derived.Test.YtlmnkakjmhgiaabFletMore
import Derived.Test.YtlmnkakjmhgiaabRegInv
import Derived.Test.YtlmnkakjmhgiaabFletMath
import Derived.Test.YtlmnkakjmhgiaabQuiets
import Derived.Deep.QuietTactic
import Derived.Deep.CutRange
import Derived.Deep.RegionLaw
namespace Go.Proofs.Ytlmnkakjmhgiaab
open Go.RowKit Go.Deep E
def blkAt (w0 w : World) (T : TypeId) (v : Value) : Prop := ∃ b, v = .pointer (some ⟨b, 0, none⟩) ∧ w0.heap.size ≤ b ∧ w.rowIs b T 4 (ivs fun _ => 0)
theorem blkAt.ext {w0 w w' : World} {T : TypeId} {v : Value} (h : blkAt w0 w T v) (x : Ext w w') : blkAt w0 w' T v := by
  obtain ⟨b, h1, h2, h3⟩ := h
  exact ⟨b, h1, h2, x.rowIs h3⟩
theorem blkAt.ne {w0 w : World} {T : TypeId} {v : Value} (h : blkAt w0 w T v) : v ≠ .pointer (some ⟨w.heap.size, 0, none⟩) := by
  obtain ⟨b, h1, h2, h3⟩ := h
  have := h3.lt
  intro e
  rw [h1] at e
  cases e
  omega
theorem row4_of {w : World} {g : Nat} {t : TypeId} {f : Nat → Value} (h : w.heap[g]? = some (.cells #[f 0, f 1, f 2, f 3] t (0, 0))) : w.rowIs g t 4 f := ⟨_, h, rfl, fun i hi => by
  match i, hi with
  | 0, _ => rfl
  | 1, _ => rfl
  | 2, _ => rfl
  | 3, _ => rfl⟩
theorem Ext.setRow {a w : World} (h : Ext a w) (g : Nat) (cs : Array Value) (hg : a.heap.size ≤ g) : Ext a (w.setRow g cs) :=
  h.grow (row := some g) ⟨rfl, rfl, rfl, by simp, fun k _ hk => setRow_other _ _ k _ (fun e => hk (by rw [e]))⟩ (fun k hk => by cases hk; exact hg)
/-- where a statement 'x, y, z := f(), g(), h()' with three arrays stands, in whatever order its operations come -/
structure JI (w0 : World) (T : TypeId) (V : Nat → Value) (L : Nat → Bool) (v8 v9 v10 v20 v21 v22 v23 v24 v25 : Value) (w : World) : Prop where
  ext : Ext w0 w
  e0 : L 0 = true → v20 = V 0
  e1 : L 1 = true → v21 = V 0
  e2 : L 2 = true → v22 = V 1
  e3 : L 3 = true → v23 = V 1
  e4 : L 4 = true → v24 = V 2
  e5 : L 5 = true → v25 = V 3
  b6 : L 6 = true → blkAt w0 w T v8
  b7 : L 7 = true → blkAt w0 w T v9
  b8 : L 8 = true → blkAt w0 w T v10
  n67 : L 6 = true → L 7 = true → v8 ≠ v9
  n68 : L 6 = true → L 8 = true → v8 ≠ v10
  n78 : L 7 = true → L 8 = true → v9 ≠ v10
section
variable {w0 w w' : World} {T : TypeId} {V : Nat → Value} {L : Nat → Bool} {v8 v9 v10 v20 v21 v22 v23 v24 v25 : Value}
theorem JI.s0 (h : JI w0 T V L v8 v9 v10 v20 v21 v22 v23 v24 v25 w) : JI w0 T V (updB L 0) v8 v9 v10 (V 0) v21 v22 v23 v24 v25 w := ⟨h.ext, fun _ => rfl, h.e1, h.e2, h.e3, h.e4, h.e5, h.b6, h.b7, h.b8, h.n67, h.n68, h.n78⟩
theorem JI.s1 (h : JI w0 T V L v8 v9 v10 v20 v21 v22 v23 v24 v25 w) (x : Ext w w') : JI w0 T V (updB L 1) v8 v9 v10 v20 (V 0) v22 v23 v24 v25 w' := ⟨h.ext.trans x, h.e0, fun _ => rfl, h.e2, h.e3, h.e4, h.e5, fun k => (h.b6 k).ext x, fun k => (h.b7 k).ext x, fun k => (h.b8 k).ext x, h.n67, h.n68, h.n78⟩
theorem JI.s2 (h : JI w0 T V L v8 v9 v10 v20 v21 v22 v23 v24 v25 w) : JI w0 T V (updB L 2) v8 v9 v10 v20 v21 (V 1) v23 v24 v25 w := ⟨h.ext, h.e0, h.e1, fun _ => rfl, h.e3, h.e4, h.e5, h.b6, h.b7, h.b8, h.n67, h.n68, h.n78⟩
theorem JI.s3 (h : JI w0 T V L v8 v9 v10 v20 v21 v22 v23 v24 v25 w) (x : Ext w w') : JI w0 T V (updB L 3) v8 v9 v10 v20 v21 v22 (V 1) v24 v25 w' := ⟨h.ext.trans x, h.e0, h.e1, h.e2, fun _ => rfl, h.e4, h.e5, fun k => (h.b6 k).ext x, fun k => (h.b7 k).ext x, fun k => (h.b8 k).ext x, h.n67, h.n68, h.n78⟩
theorem JI.s4 (h : JI w0 T V L v8 v9 v10 v20 v21 v22 v23 v24 v25 w) : JI w0 T V (updB L 4) v8 v9 v10 v20 v21 v22 v23 (V 2) v25 w := ⟨h.ext, h.e0, h.e1, h.e2, h.e3, fun _ => rfl, h.e5, h.b6, h.b7, h.b8, h.n67, h.n68, h.n78⟩
theorem JI.s5 (h : JI w0 T V L v8 v9 v10 v20 v21 v22 v23 v24 v25 w) (x : Ext w w') : JI w0 T V (updB L 5) v8 v9 v10 v20 v21 v22 v23 v24 (V 3) w' := ⟨h.ext.trans x, h.e0, h.e1, h.e2, h.e3, h.e4, fun _ => rfl, fun k => (h.b6 k).ext x, fun k => (h.b7 k).ext x, fun k => (h.b8 k).ext x, h.n67, h.n68, h.n78⟩
theorem blkAt.new (x : Ext w0 w) : blkAt w0 (w.alloc (.cells #[.int .i64 0, .int .i64 0, .int .i64 0, .int .i64 0] T)) T (.pointer (some ⟨w.heap.size, 0, none⟩)) := ⟨_, rfl, x.size, row4_alloc w T (ivs fun _ => 0)⟩
theorem JI.s6 (h : JI w0 T V L v8 v9 v10 v20 v21 v22 v23 v24 v25 w) : JI w0 T V (updB L 6) (.pointer (some ⟨w.heap.size, 0, none⟩)) v9 v10 v20 v21 v22 v23 v24 v25 (w.alloc (.cells #[.int .i64 0, .int .i64 0, .int .i64 0, .int .i64 0] T)) :=
  ⟨h.ext.alloc _ _, h.e0, h.e1, h.e2, h.e3, h.e4, h.e5, fun _ => blkAt.new h.ext, fun k => (h.b7 k).ext ((Ext.refl _).alloc _ _), fun k => (h.b8 k).ext ((Ext.refl _).alloc _ _), fun _ k => (h.b7 k).ne.symm, fun _ k => (h.b8 k).ne.symm, h.n78⟩
theorem JI.s7 (h : JI w0 T V L v8 v9 v10 v20 v21 v22 v23 v24 v25 w) : JI w0 T V (updB L 7) v8 (.pointer (some ⟨w.heap.size, 0, none⟩)) v10 v20 v21 v22 v23 v24 v25 (w.alloc (.cells #[.int .i64 0, .int .i64 0, .int .i64 0, .int .i64 0] T)) :=
  ⟨h.ext.alloc _ _, h.e0, h.e1, h.e2, h.e3, h.e4, h.e5, fun k => (h.b6 k).ext ((Ext.refl _).alloc _ _), fun _ => blkAt.new h.ext, fun k => (h.b8 k).ext ((Ext.refl _).alloc _ _), fun k _ => (h.b6 k).ne, h.n68, fun _ k => (h.b8 k).ne.symm⟩
theorem JI.s8 (h : JI w0 T V L v8 v9 v10 v20 v21 v22 v23 v24 v25 w) : JI w0 T V (updB L 8) v8 v9 (.pointer (some ⟨w.heap.size, 0, none⟩)) v20 v21 v22 v23 v24 v25 (w.alloc (.cells #[.int .i64 0, .int .i64 0, .int .i64 0, .int .i64 0] T)) :=
  ⟨h.ext.alloc _ _, h.e0, h.e1, h.e2, h.e3, h.e4, h.e5, fun k => (h.b6 k).ext ((Ext.refl _).alloc _ _), fun k => (h.b7 k).ext ((Ext.refl _).alloc _ _), fun _ => blkAt.new h.ext, h.n67, fun k _ => (h.b6 k).ne, fun k _ => (h.b7 k).ne⟩
end
def quadV (a b c d : Value) : Nat → Value
  | 0 => a
  | 1 => b
  | 2 => c
  | _ => d
theorem zero4 : (Try.prog.info? 35).map (fun i => (i.zero, i.size)) = some (some (.agg #[.int .i64 0, .int .i64 0, .int .i64 0, .int .i64 0]), 4) := by kernel_rfl
set_option maxRecDepth 100000 in
set_option maxHeartbeats 1600000 in
theorem Join_ok (s t : Nat → Int) (m : Nat) (w : World) (hm : (m : Int) ≤ 1048576) :
    Calls Try.prog 11 #[.agg #[.int .i64 (s 0), .int .i64 (s 1), .int .i64 (s 2), .int .i64 (s 3)], .agg #[.int .i64 (t 0), .int .i64 (t 1), .int .i64 (t 2), .int .i64 (t 3)], .int .i64 m] w fun e w' => e = .returned (.tuple #[.agg #[.int .i64 (joinV s t m 0), .int .i64 (joinV s t m 1), .int .i64 (joinV s t m 2), .int .i64 (joinV s t m 3)], .int .i64 0]) ∧ Ext w w' := by
  have hfa : (Try.f12.name == "runtime.NumGoroutine") = false ∧ Try.f12.body.isNone = false := ⟨by kernel_rfl, by kernel_rfl⟩
  have hfc : (Try.f16.name == "runtime.NumGoroutine") = false ∧ Try.f16.body.isNone = false := ⟨by kernel_rfl, by kernel_rfl⟩
  have HF : Hid (((Try.f12.name == "runtime.NumGoroutine") = false ∧ Try.f12.body.isNone = false) ∧ (Try.f16.name == "runtime.NumGoroutine") = false ∧ Try.f16.body.isNone = false) := ⟨hfa, hfc⟩
  clear hfa hfc
  go_enter Try.func11, Try.ntmps11
  go_upto_region 3 with fail
  have X0 : Hid (Ext w (((w.alloc (.cells #[.int .i64 (s 0), .int .i64 (s 1), .int .i64 (s 2), .int .i64 (s 3)] 27)).alloc (.cells #[.int .i64 (t 0), .int .i64 (t 1), .int .i64 (t 2), .int .i64 (t 3)] 27)).alloc (.cells #[.int .i64 0, .int .i64 0, .int .i64 0, .int .i64 0] 27))) := (((Ext.refl _).alloc _ _).alloc _ _).alloc _ _
  have S0 : Hid ((((w.alloc (.cells #[.int .i64 (s 0), .int .i64 (s 1), .int .i64 (s 2), .int .i64 (s 3)] 27)).alloc (.cells #[.int .i64 (t 0), .int .i64 (t 1), .int .i64 (t 2), .int .i64 (t 3)] 27)).alloc (.cells #[.int .i64 0, .int .i64 0, .int .i64 0, .int .i64 0] 27)).rowIs w.heap.size 27 4 (ivs s)) := ((row4_alloc w 27 (ivs s)).alloc _).alloc _
  have T0 : Hid ((((w.alloc (.cells #[.int .i64 (s 0), .int .i64 (s 1), .int .i64 (s 2), .int .i64 (s 3)] 27)).alloc (.cells #[.int .i64 (t 0), .int .i64 (t 1), .int .i64 (t 2), .int .i64 (t 3)] 27)).alloc (.cells #[.int .i64 0, .int .i64 0, .int .i64 0, .int .i64 0] 27)).rowIs (w.heap.size + 1) 27 4 (ivs t)) := by
    have := (row4_alloc (w.alloc (.cells #[.int .i64 (s 0), .int .i64 (s 1), .int .i64 (s 2), .int .i64 (s 3)] 27)) 27 (ivs t)).alloc (.cells #[.int .i64 0, .int .i64 0, .int .i64 0, .int .i64 0] 27)
    simp only [World.size_alloc] at this
    exact this
  have R0 : Hid ((((w.alloc (.cells #[.int .i64 (s 0), .int .i64 (s 1), .int .i64 (s 2), .int .i64 (s 3)] 27)).alloc (.cells #[.int .i64 (t 0), .int .i64 (t 1), .int .i64 (t 2), .int .i64 (t 3)] 27)).alloc (.cells #[.int .i64 0, .int .i64 0, .int .i64 0, .int .i64 0] 27)).rowIs (w.heap.size + 1 + 1) 27 4 (ivs fun _ => 0)) := by
    have := row4_alloc ((w.alloc (.cells #[.int .i64 (s 0), .int .i64 (s 1), .int .i64 (s 2), .int .i64 (s 3)] 27)).alloc (.cells #[.int .i64 (t 0), .int .i64 (t 1), .int .i64 (t 2), .int .i64 (t 3)] 27)) 27 (ivs fun _ => 0)
    simp only [World.size_alloc] at this
    exact this
  generalize (((w.alloc (.cells #[.int .i64 (s 0), .int .i64 (s 1), .int .i64 (s 2), .int .i64 (s 3)] 27)).alloc (.cells #[.int .i64 (t 0), .int .i64 (t 1), .int .i64 (t 2), .int .i64 (t 3)] 27)).alloc (.cells #[.int .i64 0, .int .i64 0, .int .i64 0, .int .i64 0] 27)) = w0 at *
  have hinS : (Try.prog.info? 27).map (·.size) = some 4 := by kernel_rfl
  have hinA : (Try.prog.info? 35).map (·.size) = some 4 := by kernel_rfl
  go_cut [8, 9, 10] from 20 (fun v8 v9 v10 wc => ∃ b8 b9 b10, v8 = .pointer (some ⟨b8, 0, none⟩) ∧ v9 = .pointer (some ⟨b9, 0, none⟩) ∧ v10 = .pointer (some ⟨b10, 0, none⟩) ∧ Ext w0 wc ∧ w0.heap.size ≤ b9 ∧ b8 ≠ b9 ∧ b9 ≠ b10 ∧ wc.rowIs b8 35 4 (ivs s) ∧ wc.rowIs b9 35 4 (ivs t) ∧ wc.rowIs b10 35 4 (ivs (car m)))
  case first =>
    refine wp_region_inv 9 (by kernel_rfl) (by kernel_rfl) (fun L a' w' => ∃ v8 v9 v10 v20 v21 v22 v23 v24 v25, a' = { tmps := #[.agg #[.int .i64 (s 0), .int .i64 (s 1), .int .i64 (s 2), .int .i64 (s 3)], .agg #[.int .i64 (t 0), .int .i64 (t 1), .int .i64 (t 2), .int .i64 (t 3)], .int .i64 (m : Int), .pointer (some ⟨w.heap.size, 0, none⟩), .pointer (some ⟨w.heap.size + 1, 0, none⟩), undef, .pointer (some ⟨w.heap.size + 1 + 1, 0, none⟩), .int .i64 0, v8, v9, v10, undef, undef, .int .i64 (m : Int), .bool (decide ((m : Int) < 0)), .bool (decide ((m : Int) < 0)), .int .i64 (m : Int), .bool (decide (1048576 < (m : Int))), .bool (decide ((m : Int) < 0) || decide (1048576 < (m : Int))), undef, v20, v21, v22, v23, v24, v25, undef, undef, undef, undef, undef, undef, undef, undef, undef, undef, undef, undef, undef, undef, undef, undef, undef, undef, undef, undef, undef, undef, undef, undef, undef, undef], defers := [] } ∧ JI w0 35 (quadV (.agg #[.int .i64 (s 0), .int .i64 (s 1), .int .i64 (s 2), .int .i64 (s 3)]) (.agg #[.int .i64 (t 0), .int .i64 (t 1), .int .i64 (t 2), .int .i64 (t 3)]) (.int .i64 m) (.agg #[.int .i64 (car m 0), .int .i64 (car m 1), .int .i64 (car m 2), .int .i64 (car m 3)])) L v8 v9 v10 v20 v21 v22 v23 v24 v25 w') ?_ ?_ ?_
    · refine ⟨undef, undef, undef, undef, undef, undef, undef, undef, undef, rfl, ?_⟩
      exact ⟨(Ext.refl _).drew, by simp, by simp, by simp, by simp, by simp, by simp, by simp, by simp, by simp, by simp, by simp, by simp⟩
    · intro L a' w' i hi hd hI
      obtain ⟨v8, v9, v10, v20, v21, v22, v23, v24, v25, rfl, h⟩ := hI
      match i, hi with
      | 0, _ =>
        refine wpOp_of rfl rfl (wp_load_row 27 (.tmp 3) rfl w.heap.size rfl 27 _ (0, 0) _ (row4 (h.ext.rowIs S0.out)) Try.underlying27 rfl (in4 hinS (ivs s)) ?_)
        exact ⟨v8, v9, v10, _, v21, v22, v23, v24, v25, rfl, h.s0⟩
      | 1, _ =>
        have e20 := h.e0 (hd 0 (by kernel_rfl))
        refine wpOp_of rfl rfl (wp_calls rfl 12 Try.func12 HF.out.1.1 HF.out.1.2 [.tmp 20] _ rfl [.agg #[.int .i64 (s 0), .int .i64 (s 1), .int .i64 (s 2), .int .i64 (s 3)]] (by rw [e20]; rfl) (.agg #[.int .i64 (s 0), .int .i64 (s 1), .int .i64 (s 2), .int .i64 (s 3)]) (fun w'' => Ext w' w'') (apart_any (s 0) (s 1) (s 2) (s 3) w') fun w'' x => ?_)
        exact ⟨v8, v9, v10, v20, _, v22, v23, v24, v25, rfl, h.s1 x⟩
      | 2, _ =>
        refine wpOp_of rfl rfl (wp_load_row 27 (.tmp 4) rfl (w.heap.size + 1) rfl 27 _ (0, 0) _ (row4 (h.ext.rowIs T0.out)) Try.underlying27 rfl (in4 hinS (ivs t)) ?_)
        exact ⟨v8, v9, v10, v20, v21, _, v23, v24, v25, rfl, h.s2⟩
      | 3, _ =>
        have e22 := h.e2 (hd 2 (by kernel_rfl))
        refine wpOp_of rfl rfl (wp_calls rfl 12 Try.func12 HF.out.1.1 HF.out.1.2 [.tmp 22] _ rfl [.agg #[.int .i64 (t 0), .int .i64 (t 1), .int .i64 (t 2), .int .i64 (t 3)]] (by rw [e22]; rfl) (.agg #[.int .i64 (t 0), .int .i64 (t 1), .int .i64 (t 2), .int .i64 (t 3)]) (fun w'' => Ext w' w'') (apart_any (t 0) (t 1) (t 2) (t 3) w') fun w'' x => ?_)
        exact ⟨v8, v9, v10, v20, v21, v22, _, v24, v25, rfl, h.s3 x⟩
      | 4, _ =>
        refine wpOp_of rfl rfl (Go.BigFrame.wp_move (.tmp 2) rfl ?_)
        exact ⟨v8, v9, v10, v20, v21, v22, v23, _, v25, rfl, h.s4⟩
      | 5, _ =>
        have e24 := h.e4 (hd 4 (by kernel_rfl))
        refine wpOp_of rfl rfl (wp_calls rfl 16 Try.func16 HF.out.2.1 HF.out.2.2 [.tmp 24] _ rfl [.int .i64 m] (by rw [e24]; rfl) (.agg #[.int .i64 (car m 0), .int .i64 (car m 1), .int .i64 (car m 2), .int .i64 (car m 3)]) (fun w'' => Ext w' w'') (carried_any m (by omega) w') fun w'' x => ?_)
        exact ⟨v8, v9, v10, v20, v21, v22, v23, v24, _, rfl, h.s5 x⟩
      | 6, _ =>
        refine wpOp_of rfl rfl (wp_allocs 35 rfl _ (zero_of_info zero4).1 ?_)
        exact ⟨_, v9, v10, v20, v21, v22, v23, v24, v25, rfl, h.s6⟩
      | 7, _ =>
        refine wpOp_of rfl rfl (wp_allocs 35 rfl _ (zero_of_info zero4).1 ?_)
        exact ⟨v8, _, v10, v20, v21, v22, v23, v24, v25, rfl, h.s7⟩
      | 8, _ =>
        refine wpOp_of rfl rfl (wp_allocs 35 rfl _ (zero_of_info zero4).1 ?_)
        exact ⟨v8, v9, _, v20, v21, v22, v23, v24, v25, rfl, h.s8⟩
    · intro L a' w' hL hI
      obtain ⟨v8, v9, v10, v20, v21, v22, v23, v24, v25, rfl, h⟩ := hI
      obtain ⟨b8, rfl, g8, r8⟩ := h.b6 (hL 6 (by omega))
      obtain ⟨b9, rfl, g9, r9⟩ := h.b7 (hL 7 (by omega))
      obtain ⟨b10, rfl, g10, r10⟩ := h.b8 (hL 8 (by omega))
      have n1 : b8 ≠ b9 := fun e => h.n67 (hL 6 (by omega)) (hL 7 (by omega)) (by rw [e])
      have n2 : b8 ≠ b10 := fun e => h.n68 (hL 6 (by omega)) (hL 8 (by omega)) (by rw [e])
      have n3 : b9 ≠ b10 := fun e => h.n78 (hL 7 (by omega)) (hL 8 (by omega)) (by rw [e])
      obtain rfl := h.e1 (hL 1 (by omega))
      obtain rfl := h.e3 (hL 3 (by omega))
      obtain rfl := h.e5 (hL 5 (by omega))
      have hx : Hid (Ext w0 w') := h.ext
      clear h hL
      have o8 := row4 r8
      have o9 : (w'.setRow b8 #[ivs s 0, ivs s 1, ivs s 2, ivs s 3]).heap[b9]? = some (.cells #[ivs (fun _ => 0) 0, ivs (fun _ => 0) 1, ivs (fun _ => 0) 2, ivs (fun _ => 0) 3] 35 (0, 0)) := by rw [setRow_other _ _ b9 _ (Ne.symm n1)]; exact row4 r9
      have o10 : ((w'.setRow b8 #[ivs s 0, ivs s 1, ivs s 2, ivs s 3]).setRow b9 #[ivs t 0, ivs t 1, ivs t 2, ivs t 3]).heap[b10]? = some (.cells #[ivs (fun _ => 0) 0, ivs (fun _ => 0) 1, ivs (fun _ => 0) 2, ivs (fun _ => 0) 3] 35 (0, 0)) := by rw [setRow_other _ _ b10 _ (Ne.symm n3), setRow_other _ _ b10 _ (Ne.symm n2)]; exact row4 r10
      have F8 : Hid ((((w'.setRow b8 #[ivs s 0, ivs s 1, ivs s 2, ivs s 3]).setRow b9 #[ivs t 0, ivs t 1, ivs t 2, ivs t 3]).setRow b10 #[ivs (car m) 0, ivs (car m) 1, ivs (car m) 2, ivs (car m) 3]).rowIs b8 35 4 (ivs s)) := row4_of (by rw [setRow_other _ _ b8 _ n2, setRow_other _ _ b8 _ n1]; exact setRow_heap _ _ _ _ _ _ o8)
      have F9 : Hid ((((w'.setRow b8 #[ivs s 0, ivs s 1, ivs s 2, ivs s 3]).setRow b9 #[ivs t 0, ivs t 1, ivs t 2, ivs t 3]).setRow b10 #[ivs (car m) 0, ivs (car m) 1, ivs (car m) 2, ivs (car m) 3]).rowIs b9 35 4 (ivs t)) := row4_of (by rw [setRow_other _ _ b9 _ n3]; exact setRow_heap _ _ _ _ _ _ o9)
      have F10 : Hid ((((w'.setRow b8 #[ivs s 0, ivs s 1, ivs s 2, ivs s 3]).setRow b9 #[ivs t 0, ivs t 1, ivs t 2, ivs t 3]).setRow b10 #[ivs (car m) 0, ivs (car m) 1, ivs (car m) 2, ivs (car m) 3]).rowIs b10 35 4 (ivs (car m))) := row4_of (setRow_heap _ _ _ _ _ _ o10)
      have FX : Hid (Ext w0 (((w'.setRow b8 #[ivs s 0, ivs s 1, ivs s 2, ivs s 3]).setRow b9 #[ivs t 0, ivs t 1, ivs t 2, ivs t 3]).setRow b10 #[ivs (car m) 0, ivs (car m) 1, ivs (car m) 2, ivs (car m) 3])) := ((hx.out.setRow _ _ g8).setRow _ _ g9).setRow _ _ g10
      have i1 := in4 hinA (ivs s)
      have i2 := in4 hinA (ivs t)
      have i3 := in4 hinA (ivs (car m))
      have q1 := one4 s
      have q2 := one4 t
      have q3 := one4 (car m)
      clear r8 r9 r10
      simp only [List.drop_succ_cons, List.drop_zero]
      go_wp2_with (first
        | (refine wpList_store_row rfl 35 _ _ rfl b8 #[ivs s 0, ivs s 1, ivs s 2, ivs s 3] rfl rfl 35 _ o8 i1 rfl q1 ?_)
        | (refine wpList_store_row rfl 35 _ _ rfl b9 #[ivs t 0, ivs t 1, ivs t 2, ivs t 3] rfl rfl 35 _ o9 i2 rfl q2 ?_)
        | (refine wpList_store_row rfl 35 _ _ rfl b10 #[ivs (car m) 0, ivs (car m) 1, ivs (car m) 2, ivs (car m) 3] rfl rfl 35 _ o10 i3 rfl q3 ?_))
      go_meet
      case rel => exact ⟨b8, b9, b10, rfl, rfl, rfl, FX.out, g9, n1, n3, F8.out, F9.out, F10.out⟩
  case rest =>
    obtain ⟨b8, b9, b10, rfl, rfl, rfl, hxc, g9, n1, n3, r8, r9, r10⟩ := hcut
    have XC : Hid (Ext w wc) := X0.out.trans hxc
    have RC : Hid (wc.rowIs (w.heap.size + 1 + 1) 27 4 (ivs fun _ => 0)) := hxc.rowIs R0.out
    have R8 : Hid (wc.rowIs b8 35 4 (ivs s)) := r8
    have R10 : Hid (wc.rowIs b10 35 4 (ivs (car m))) := r10
    have R9 : Hid (wc.rowIs b9 35 4 (ivs (jK s t m 0 0))) := r9.congr fun i _ => by unfold ivs; rw [jK_start]
    have hne : w.heap.size + 1 + 1 < b9 := by have := R0.out.lt; omega
    clear r8 r9 r10 hxc S0 T0 R0 X0 HF
    go_wp2_with fail
    go_loopw [26] (fun i wr => ∃ k : Nat, k ≤ 4 ∧ i = .int .i64 k ∧ Wro (· = b9) wc wr ∧ wr.rowIs b9 35 4 (ivs (jK s t m k 0))) (fun i _ => 4 - (intOf i).toNat)
    case atStart => exact ⟨0, by omega, rfl, Wro.refl _ _, R9.out⟩
    case round =>
      obtain ⟨k, hk, rfl, hx, hr⟩ := hrel
      have HR : Hid (wr.rowIs b9 35 4 (ivs (jK s t m k 0))) := hr
      clear hr R9
      by_cases hlt : k < 4
      · go_wp2_with fail
        go_loopw [31] (fun i wi => ∃ j : Nat, j ≤ k + 1 ∧ i = .int .i64 j ∧ Wro (· = b9) wc wi ∧ wi.rowIs b9 35 4 (ivs (jK s t m k j))) (fun i _ => k + 1 - (intOf i).toNat)
        case atStart => exact ⟨0, by omega, rfl, hx, HR.out⟩
        case round =>
          clear hx HR
          obtain ⟨j, hj, rfl, hxj, hrj⟩ := hrel
          have HRJ : Hid (wr.rowIs b9 35 4 (ivs (jK s t m k j))) := hrj
          by_cases hjt : j < k + 1
          · have hck := hrj.cell (i := k) hlt
            have hfk := hrj.frozen k
            have h8 := (hxj.rowIs R8.out n1).cell (i := j) (by omega)
            have h10 := (hxj.rowIs R10.out (Ne.symm n3)).cell (i := k - j) (by omega)
            rw [show ivs (jK s t m k j) k = .int .i64 (jp s t m k j) by unfold ivs jK; rw [if_neg (by omega), if_pos rfl]] at hck
            rw [show ivs s j = .int .i64 (s j) from rfl] at h8
            rw [show ivs (car m) (k - j) = .int .i64 (car m (k - j)) from rfl] at h10
            have hw1 : IntKind.i64.wrap ((k : Int) - (j : Int)) = ((k - j : Nat) : Int) := by rw [IntKind.wrap_i64]; omega
            have hl1 : ((k - j : Nat) : Int) < 4 := by omega
            have hl2 : (j : Int) < 4 := by omega
            have hl4 : (j : Int) < (k : Int) + 1 := by omega
            clear hrj
            go_wp2_with fail
            refine wp_region_still_tail 13 (by kernel_rfl) (by kernel_rfl) ?_
            simp only [List.take_succ_cons, List.take_zero, List.drop_succ_cons, List.drop_zero]
            repeat still_step
            refine wpStill_nil ?_
            go_wp2_with fail
            go_roundw
            case rel =>
              have hdk : decide ((k : Int) < 4) = true := decide_eq_true (by omega)
              rw [hdk]
              refine ⟨_, _, _, _, _, _, _, _, _, _, _, _, _, _, _, _, _, _, _, ?_, rfl⟩
              refine ⟨j + 1, by omega, by go_num, (hxj.setCell (p := ⟨b9, k, none⟩) rfl _).drew, ((HRJ.out.set k _).congr fun i _ => jK_put s t m k j _ rfl i).drew⟩
            case measure => simp [intOf]; omega
          · obtain rfl : j = k + 1 := by omega
            go_wp2_with fail
            go_roundw
            case rel => exact ⟨k + 1, by omega, by go_num, hxj, HRJ.out.congr fun i _ => by unfold ivs; rw [jK_next]⟩
            case measure => simp [intOf]; omega
      · obtain rfl : k = 4 := by omega
        have r4 := HR.out.congr (g := ivs (joinV s t m)) fun i hi => by unfold ivs jK; rw [if_pos hi, jp_join s t m (by omega) i hi]
        have hheap := row4 r4
        have i1 := in4 hinA (ivs (joinV s t m))
        go_wp2_with (refine wpList_load_row rfl 35 _ rfl b9 rfl 35 _ (0, 0) _ hheap Try.underlying35 rfl i1 ?_)
        refine (together_any (joinV s t m 0) (joinV s t m 1) (joinV s t m 2) (joinV s t m 3) _).mono ?_
        rintro e w5 ⟨rfl, hx5⟩
        have hold := row4 (hx5.rowIs (hx.rowIs RC.out (by omega)))
        have i2 := in4 hinS (ivs (joinV s t m))
        have q1 := one4 (joinV s t m)
        go_wp2_with (refine wpList_store_row rfl 27 _ _ rfl (w.heap.size + 1 + 1) #[ivs (joinV s t m) 0, ivs (joinV s t m) 1, ivs (joinV s t m) 2, ivs (joinV s t m) 3] rfl rfl 27 _ hold i2 rfl q1 ?_)
        refine bodyPost_ret (results_cell2 rfl _ _ (w.heap.size + 1 + 1) 27 #[ivs (joinV s t m) 0, ivs (joinV s t m) 1, ivs (joinV s t m) 2, ivs (joinV s t m) 3] (0, 0) _ (.int .i64 0) rfl rfl (setRow_heap _ _ _ _ _ _ hold) Try.underlying27 rfl i2) rfl ?_
        exact ⟨rfl, ((Wro.after XC.out hx (fun i hi => by omega)).trans hx5).setRow _ _ (by omega)⟩
set_option maxRecDepth 100000 in
set_option maxHeartbeats 1600000 in
theorem Join_any (s t : Nat → Int) (n : Int) (w : World) :
    Calls Try.prog 11 #[.agg #[.int .i64 (s 0), .int .i64 (s 1), .int .i64 (s 2), .int .i64 (s 3)], .agg #[.int .i64 (t 0), .int .i64 (t 1), .int .i64 (t 2), .int .i64 (t 3)], .int .i64 n] w fun e w' =>
      e = .returned (.tuple #[.agg #[.int .i64 (joinV s t n 0), .int .i64 (joinV s t n 1), .int .i64 (joinV s t n 2), .int .i64 (joinV s t n 3)], .int .i64 (joinE n)]) ∧ Ext w w' := by
  by_cases hn : 0 ≤ n ∧ n ≤ 1048576
  · have hB : joinB n = true := by unfold joinB; simp; exact hn
    obtain ⟨m, rfl⟩ : ∃ m : Nat, n = (m : Int) := ⟨n.toNat, by omega⟩
    rw [show joinE (m : Int) = 0 by unfold joinE; rw [if_pos hB]]
    exact Join_ok s t m w hn.2
  · have hB : ¬ joinB n = true := by unfold joinB; simp; omega
    have hends : (joinV s t n 0 = 0 ∧ joinV s t n 1 = 0 ∧ joinV s t n 2 = 0 ∧ joinV s t n 3 = 0) ∧ joinE n = 2 := by
      unfold joinV joinE
      simp only [if_neg hB, and_self]
    rw [hends.1.1, hends.1.2.1, hends.1.2.2.1, hends.1.2.2.2, hends.2]
    clear hends hB
    go_enter Try.func11, Try.ntmps11
    by_cases h0 : n < 0
    · go_wp2_with fail
      refine bodyPost_ret (v := .tuple #[.agg #[.int .i64 0, .int .i64 0, .int .i64 0, .int .i64 0], .int .i64 2]) (by simp [results, Try.results11, go_sem]) rfl ⟨rfl, ?_⟩
      exact (((Ext.refl _).alloc _ _).alloc _ _).alloc _ _
    · have h1 : 1048576 < n := by omega
      clear hn
      go_wp2_with fail
      refine bodyPost_ret (v := .tuple #[.agg #[.int .i64 0, .int .i64 0, .int .i64 0, .int .i64 0], .int .i64 2]) (by simp [results, Try.results11, go_sem]) rfl ⟨rfl, ?_⟩
      exact (((Ext.refl _).alloc _ _).alloc _ _).alloc _ _
end Go.Proofs.Ytlmnkakjmhgiaab
