/-
  A dead drive says nothing; a new one has nothing; one sector that is broken is lost till it is put anew; no condition.
-/
import Derived.Test.YtgboboojjboocaaRows
import Derived.WalkKit
import Derived.ProofKit
import Derived.OpenShut
import Derived.ChangeOld
import Derived.Below
import Derived.BigQuiet
import Derived.Deep.CutRange
import Derived.Deep.QuietTactic
import Derived.Deep.RegionLaw
import Derived.Test.YtgboboojjboocaaOpn
import Derived.Test.YtgboboojjboocaaChecked
import Derived.Test.YtgboboojjboocaaFlat
import Derived.Test.YtgboboojjboocaaDrKeep
import Derived.Test.YtgboboojjboocaaDrKeep2
import Derived.Test.YtgboboojjboocaaDrDead
import Derived.Test.YtgboboojjboocaaKeepPick
import Derived.Test.YtgboboojjboocaaMk
import Derived.Test.YtgboboojjboocaaDrSec
import Derived.Test.YtgboboojjboocaaRegFix3
namespace Go.Proofs.Ytgboboojjboocaa.driveDead
open Go.ChangeShapes Go.WideShapes Go.ChangeAt Go.RowKit Go.Deep E
set_option linter.unusedVariables false
theorem rep_code {w : World} {a : Option Addr} {T : List (Int × Option (Nat → E))} (h : Replies w a T) {q : Nat} {c : Int} {f : Option (Nat → E)} (hq : T[q]? = some (c, f)) :
    ∃ b o, a = some ⟨b, o, none⟩ ∧ w.cell? ⟨b, o + q * 2, none⟩ = some (.int .i64 c) := by
  obtain ⟨R, hl, hE, he⟩ := h
  have hlt : q < R.length := by rw [hl]; exact lt_of_get hq
  have hr := List.getElem?_eq_getElem hlt
  obtain ⟨h1, _⟩ := he q _ _ hr hq
  obtain ⟨b, o, ha, hc⟩ := hE q (rpC R[q]) (by rw [List.getElem?_map, hr]; rfl)
  have c0 := hc 0 _ rfl
  rw [h1] at c0
  exact ⟨b, o, ha, c0⟩
def ddT (b o q cr : Nat) (a2 : Int) (ad5 : Option Addr) (kk5 : Nat) (ad10 : Option Addr) (kk10 : Nat) : Nat → Value
  | 0 => .slice (some ⟨b, o, none⟩) (q + 11) cr
  | 1 => .int .i64 (q : Int)
  | 2 => .int .i64 ((q : Int) + 2)
  | 3 => .pointer (some ⟨b, o + (q + 2) * 2, none⟩)
  | 4 => .pointer (some ⟨b, o + (q + 2) * 2, none⟩)
  | 5 => .int .i64 12
  | 6 => .bool true
  | 7 => .bool true
  | 8 => .slice (some ⟨b, o, none⟩) (q + 11) cr
  | 9 => .int .i64 (q : Int)
  | 10 => .int .i64 ((q : Int) + 5)
  | 11 => .pointer (some ⟨b, o + (q + 5) * 2, none⟩)
  | 12 => .pointer (some ⟨b, o + (q + 5) * 2 + 1, none⟩)
  | 13 => .slice ad5 128 kk5
  | 14 => .int .i64 a2
  | 15 => undef
  | 16 => .bool true
  | 17 => .bool true
  | 18 => .bool true
  | 19 => .slice (some ⟨b, o, none⟩) (q + 11) cr
  | 20 => .int .i64 (q : Int)
  | 21 => .int .i64 ((q : Int) + 7)
  | 22 => .pointer (some ⟨b, o + (q + 7) * 2, none⟩)
  | 23 => .pointer (some ⟨b, o + (q + 7) * 2, none⟩)
  | 24 => .int .i64 13
  | 25 => .bool true
  | 26 => .bool true
  | 27 => .bool true
  | 28 => .slice (some ⟨b, o, none⟩) (q + 11) cr
  | 29 => .int .i64 (q : Int)
  | 30 => .int .i64 ((q : Int) + 8)
  | 31 => .pointer (some ⟨b, o + (q + 8) * 2, none⟩)
  | 32 => .pointer (some ⟨b, o + (q + 8) * 2, none⟩)
  | 33 => .int .i64 13
  | 34 => .bool true
  | 35 => .bool true
  | 36 => .bool true
  | 37 => .slice (some ⟨b, o, none⟩) (q + 11) cr
  | 38 => .int .i64 (q : Int)
  | 39 => .int .i64 ((q : Int) + 10)
  | 40 => .pointer (some ⟨b, o + (q + 10) * 2, none⟩)
  | 41 => .pointer (some ⟨b, o + (q + 10) * 2, none⟩)
  | 42 => .int .i64 0
  | 43 => .bool true
  | 44 => .bool true
  | 45 => .bool true
  | 46 => .slice (some ⟨b, o, none⟩) (q + 11) cr
  | 47 => .int .i64 (q : Int)
  | 48 => .int .i64 ((q : Int) + 10)
  | 49 => .pointer (some ⟨b, o + (q + 10) * 2, none⟩)
  | 50 => .pointer (some ⟨b, o + (q + 10) * 2 + 1, none⟩)
  | 51 => .slice ad10 128 kk10
  | 52 => undef
  | 53 => .bool true
  | 54 => .bool true
  | _ => undef
def ddV (T : Nat → Value) (p : Nat × Nat) (i : Nat) : Value := if i = 15 then .slice (some ⟨p.1, 0, none⟩) 128 128 else if i = 52 then .slice (some ⟨p.2, 0, none⟩) 128 128 else T i
/-- what the two calls that make bytes have left -/
structure ddJ (w6 : World) (S Z : Nat → E) (p : Nat × Nat) (L : Nat → Bool) (w' : World) : Prop where
  ext : Ext w6 w'
  sec : L 15 = true → w'.rowIs p.1 5 128 (bvs S)
  zer : L 52 = true → w'.rowIs p.2 5 128 (bvs Z)
theorem ddJ.next {w6 : World} {S Z : Nat → E} {p : Nat × Nat} {L : Nat → Bool} {w' w'' : World} (h : ddJ w6 S Z p L w') (x : Ext w' w'') {i : Nat} (h1 : i ≠ 15) (h2 : i ≠ 52) : ddJ w6 S Z p (updB L i) w'' :=
  ⟨h.ext.trans x, fun hl => x.rowIs (h.sec (by unfold updB at hl; rw [if_neg (Ne.symm h1)] at hl; exact hl)), fun hl => x.rowIs (h.zer (by unfold updB at hl; rw [if_neg (Ne.symm h2)] at hl; exact hl))⟩
theorem sizeRep : (Try.prog.info? 46).map (·.size) = some 2 := by kernel_rfl
theorem exec_mk {a : Act} {o : Oper} {w : World} (l c : Operand) (ho : o.op = .makeSlice 32 l c) (hl : a.eval l = .int .i64 128) (hc : a.eval c = .int .i64 128) : (execOp a.eval o).run Try.prog w = .ok (.value (.slice (some ⟨w.heap.size, 0, none⟩) 128 128)) (w.alloc (.cells (madeCells #[.int .u8 0] 128) 5)) := by
  have h : (Instr.makeSlice 32 (.int .i64 128) (.int .i64 128)).run Try.prog w = .ok (.slice (some ⟨w.heap.size, 0, none⟩) 128 128) (w.alloc (.cells (madeCells #[.int .u8 0] 128) 5)) := make_bytes 128 (by omega) w
  unfold execOp
  simp only [ho, hl, hc, Sem.run_bind, h, Result.andThen_ok, Sem.run_pure]
theorem idx_rep {b o m c q : Nat} {z : Int} (w : World) (hz : z = q) (h : q < m) : (Instr.indexAt 23 (.slice (some ⟨b, o, none⟩) m c) (.int .i64 z)).run Try.prog w = .ok (.pointer (some ⟨b, o + q * 2, none⟩)) w := by
  subst hz
  have h1 : (q : Int) < (m : Int) := by omega
  have h2 : (0 : Int) ≤ (q : Int) := by omega
  rw [run_indexAt_slice (h := Try.underlying23)]
  rw [if_pos ⟨h2, h1⟩]
  rw [show Try.prog.elem 23 = 46 from rfl, sizeOf_of sizeRep]
  simp [Go.WideShapes.add_plain]
theorem field_rep (b o : Nat) (w : World) : (Instr.fieldAt 46 (.pointer (some ⟨b, o, none⟩)) 0).run Try.prog w = .ok (.pointer (some ⟨b, o, none⟩)) w := by
  simp [Instr.fieldAt, run_underlying Try.underlying46, go_sem]
theorem field_rep1 (b o : Nat) (w : World) : (Instr.fieldAt 46 (.pointer (some ⟨b, o, none⟩)) 1).run Try.prog w = .ok (.pointer (some ⟨b, o + 1, none⟩)) w := by
  simp [Instr.fieldAt, run_underlying Try.underlying46, go_sem]
theorem add_int (z c : Int) (w : World) (h : -9223372036854775808 ≤ z + c ∧ z + c ≤ 9223372036854775807) : (binOp .add 3 (.int .i64 z) (.int .i64 c)).run Try.prog w = .ok (.int .i64 (z + c)) w := by
  have hw : IntKind.i64.wrap (z + c) = z + c := by rw [IntKind.wrap_i64]; omega
  simp [binOp, go_sem, hw]
theorem eql_err (z : Int) (w : World) : (binOp .eql 24 (.int .i64 z) (.int .i64 z)).run Try.prog w = .ok (.bool true) w := by
  simp [binOp, go_sem]
set_option maxRecDepth 100000 in
set_option maxHeartbeats 40000000 in
theorem walk (a0 : Option Addr) (n0 c0 : Nat) (F0 : Nat → Nat → Int) (a1 : Int) (a2 : Int) (w : World) (h0 : Flt w a0 n0 4 F0) (b0 : ∀ r k, r < n0 → k < 4 → I64 (F0 r k)) (k0 : n0 ≤ c0 ∧ c0 ≤ 9223372036854775807) (w1 : -9223372036854775808 ≤ a1 ∧ a1 ≤ 9223372036854775807) (w2 : -9223372036854775808 ≤ a2 ∧ a2 ≤ 9223372036854775807) :
    Calls Try.prog 7 #[.slice a0 n0 c0, .int .i64 a1, .int .i64 a2] w fun e w' => e = .returned (.bool true) ∧ Ext w w' := by
  obtain ⟨K, hK, hK1⟩ := picked_is a1 8 (by omega)
  have HPk : Hid (∀ w, Calls Try.prog 15 #[.int .i64 a1, .int .i64 8] w fun e w' => e = .returned (.int .i64 K) ∧ w' = w) := fun w => Picked_bd a1 8 K w (by omega) (by omega) (by omega) hK
  have HAc : Hid (∀ w', Ext w w' → ∀ g, g = w'.heap.size → Calls Try.prog 11 #[.slice a0 n0 c0, .int .i64 40, .slice (some ⟨g, 0, none⟩) 4 4] (w'.alloc (.cells #[.int .i64 1, .int .i64 3, .int .i64 4, .int .i64 6] 3)) fun e w2 => (∃ D ad c, e = .returned (.slice ad (min n0 40) c) ∧ D.length = min n0 40 ∧ OwnJ w' (.slice ad (min n0 40) c) D w2 ∧ (∀ J, J ∈ D → JOk w2 J) ∧ ∀ J, J ∈ D → Plain 8 J ∨ (J.k = 6 ∧ J.l = 128 ∧ 0 ≤ J.at' ∧ J.at' < 8)) ∧ Ext w' w2) := fun w' x g hg => by
    refine (Acts_any a0 n0 c0 (actL n0 F0) 40 (some ⟨g, 0, none⟩) 4 4 _ _ (actL_len _ _) (by omega) ((act_els h0).ext (x.alloc _ _)) (act_bd b0) (by omega) (by omega) (ints4 w' 1 3 4 6 3 g hg)).mono ?_
    rintro e w2 ⟨D, v, rfl, hDl, hD⟩
    rw [actL_len] at hDl hD
    obtain ⟨ad, c, hA⟩ := hD.made (by rw [actL_len]; omega) (by omega) (ks := [1, 3, 4, 6]) (fun i hi => by
      match i, hi with
      | 0, _ => simp
      | 1, _ => simp
      | 2, _ => simp
      | 3, _ => simp)
    have hv := hA.val
    subst hv
    refine ⟨⟨D, ad, c, rfl, hDl, hD.ownJ.back ((Ext.refl w').alloc _ _), hD.ok, fun J hJ => ?_⟩, ((Ext.refl w').alloc _ _).trans hD.ext⟩
    obtain ⟨h1, h2, h3, h4⟩ := hA.plain J hJ
    simp only [List.mem_cons, List.not_mem_nil, or_false] at h1
    rcases h1 with h1 | h1 | h1 | h1
    · exact Or.inl ⟨Or.inl ⟨h1, h4 (Or.inl h1)⟩, h2, h3⟩
    · exact Or.inl ⟨Or.inr (Or.inr (Or.inl h1)), h2, h3⟩
    · exact Or.inl ⟨Or.inr (Or.inr (Or.inr h1)), h2, h3⟩
    · exact Or.inr ⟨h1, h4 (Or.inr h1), h2, h3⟩
  obtain ⟨q, hq⟩ : ∃ q : Nat, q = min n0 40 := ⟨_, rfl⟩
  have hq40 : q ≤ 40 := by omega
  rw [← hq] at HAc
  clear h0 hK hq
  have hb1 : ∀ (k : Int) (w : World), (Instr.build 34 #[(0, .int .i64 k)]).run Try.prog w = .ok (.agg #[.int .i64 k, .int .i64 0, .int .i64 0, .slice none 0 0]) w := fun k w => by simp [Instr.build, run_underlying Try.underlying34, go_sem]
  have hb2 := build_job
  have hb3 : ∀ (k at' : Int) (a : Option Addr) (n c : Nat) (w : World), (Instr.build 34 #[(0, .int .i64 k), (1, .int .i64 at'), (3, .slice a n c)]).run Try.prog w = .ok (.agg #[.int .i64 k, .int .i64 at', .int .i64 0, .slice a n c]) w := fun k at' a n c w => by simp [Instr.build, run_underlying Try.underlying34, go_sem]
  go_enter Try.func7, Try.ntmps7
  go_wp2_with fail
  refine (HAc.out _ (Ext.refl w) _ rfl).mono ?_
  rintro e w1 ⟨⟨D, ad, c, rfl, hDl, hO1, hok1, hp⟩, hx1⟩
  have HP : Hid (∀ J, J ∈ D → Plain 8 J ∨ (J.k = 6 ∧ J.l = 128 ∧ 0 ≤ J.at' ∧ J.at' < 8)) := hp
  have HO1 : Hid (OwnJ w (.slice ad q c) D w1) := hO1
  have HOk : Hid (∀ J, J ∈ D → JOk w1 J) := hok1
  have HDl : Hid (D.length = q) := hDl
  clear HAc hp hO1 hok1 hDl
  go_wp2_with fail
  refine (HPk.out _).mono ?_
  rintro e w2 ⟨rfl, rfl⟩
  clear HPk
  go_wp2_with fail
  refine (SectorOf_any a2 _).mono ?_
  rintro e w3 ⟨⟨rfl, hrow⟩, hx3⟩
  have HR3 : Hid (w3.rowIs w2.heap.size 5 128 (bvs (secB a2))) := hrow
  have HX3 : Hid (Ext w2 w3) := hx3
  clear hrow hx3
  go_wp2_with (first | (at_builtin; refine append_moreG w _ rfl (.tmp 19) (.tmp 39) rfl D (deadJs K (some ⟨w2.heap.size, 0, none⟩) 128 (secB a2)) (.slice ad q c) rfl (HO1.out.grown (HX3.out.alloc _ _)) (by rw [HDl.out]; omega) (some ⟨w3.heap.size, 0, none⟩) 11 11 rfl rfl (by omega) (els_flat _ _ rfl _ _ 4 (jobs_szd _) _ rfl) ?_) | go_in)
  intro v5 w5 hO5 hkeep
  have HJok : Hid (∀ J, J ∈ D ++ deadJs K (some ⟨w2.heap.size, 0, none⟩) 128 (secB a2) → Byts w5 J.ad J.l J.f ∧ J.l ≤ 9223372036854775807) := fun J hJ => by
    rcases List.mem_append.1 hJ with h1 | h1
    · exact (hkeep J ((HOk.out J h1).ext (HX3.out.alloc _ _))).fine
    · have hb : ∀ k a p, Byts w5 (bareJ k a p).ad (bareJ k a p).l (bareJ k a p).f ∧ (bareJ k a p).l ≤ 9223372036854775807 := fun k a p => bare_byts w5 k a p
      unfold deadJs at h1
      simp only [List.mem_cons, List.not_mem_nil, or_false] at h1
      rcases h1 with rfl | rfl | rfl | rfl | rfl | rfl | rfl | rfl | rfl | rfl | rfl
      · exact hb _ _ _
      · exact hb _ _ _
      · exact hb _ _ _
      · exact (hkeep _ (Or.inr ⟨w2.heap.size, rfl, rfl, rfl, ((Ext.refl w3).alloc _ _).rowIs HR3.out⟩)).fine
      · exact hb _ _ _
      · exact hb _ _ _
      · exact hb _ _ _
      · exact hb _ _ _
      · exact hb _ _ _
      · exact hb _ _ _
      · exact hb _ _ _
  have hxw := hO5.ext
  obtain ⟨a5, c5, hv5, hJ5⟩ := hO5.jobs HJok.out
  have hl5 : (D ++ deadJs K (some ⟨w2.heap.size, 0, none⟩) 128 (secB a2)).length = q + 11 := by rw [List.length_append, HDl.out]; rfl
  rw [hl5] at hv5
  subst hv5
  have hdp := drPlay_any 8 a5 (q + 11) c5 _ w5 hl5 (by omega) hJ5
  obtain ⟨T, hT⟩ : ∃ T, T = playV 8 (D ++ deadJs K (some ⟨w2.heap.size, 0, none⟩) 128 (secB a2)) := ⟨_, rfl⟩
  have hT2 : T = (dplay 8 (newS 8) D ++ [(0, none), (0, none), (12, none), (0, none), (0, none), (0, some (secB a2)), (0, none), (13, none), (13, none), (0, none), (0, some fun _ => ze)], 0) := by
    rw [hT]
    unfold playV
    rw [if_neg (by omega), if_neg (by rw [hl5]; omega)]
    show (dplay 8 (newS 8) (D ++ _), (0 : Int)) = _
    rw [dplay_append, dead_play (dend_good6 (new_good 8) HP.out) (by omega)]
  rw [← hT] at hdp
  have HDP : Hid (Calls Try.prog 8 #[.int .i64 8, .slice a5 (q + 11) c5] w5 fun e w' => DpRes T e w' ∧ Ext w5 w') := hdp
  have HT2 : Hid (T = (dplay 8 (newS 8) D ++ [(0, none), (0, none), (12, none), (0, none), (0, none), (0, some (secB a2)), (0, none), (13, none), (13, none), (0, none), (0, some fun _ => ze)], 0)) := hT2
  have X5 : Hid (Ext w w5) := hxw
  clear hdp hT hT2 hJ5 hO5 hkeep hl5 hxw HO1 HJok hb1 hb2 hb3
  go_wp2_with fail
  refine HDP.out.mono ?_
  rintro e w6 ⟨⟨ar, cr, he, hrep⟩, hx6⟩
  have hTl : T.1.length = q + 11 := by rw [HT2.out, List.length_append, dplay_len, HDl.out]; rfl
  have hTe : T.2 = 0 := by rw [HT2.out]
  rw [hTl, hTe] at he
  subst he
  have hrep2 : Replies w6 ar (dplay 8 (newS 8) D ++ [(0, none), (0, none), (12, none), (0, none), (0, none), (0, some (secB a2)), (0, none), (13, none), (13, none), (0, none), (0, some fun _ => ze)]) := by
    rw [HT2.out] at hrep
    exact hrep
  have hat : ∀ j, j < 11 → (dplay 8 (newS 8) D ++ [((0 : Int), (none : Option (Nat → E))), (0, none), (12, none), (0, none), (0, none), (0, some (secB a2)), (0, none), (13, none), (13, none), (0, none), (0, some fun _ => ze)])[q + j]? = [((0 : Int), (none : Option (Nat → E))), (0, none), (12, none), (0, none), (0, none), (0, some (secB a2)), (0, none), (13, none), (13, none), (0, none), (0, some fun _ => ze)][j]? := fun j hj => by
    rw [List.getElem?_append_right (by rw [dplay_len, HDl.out]; omega), dplay_len, HDl.out, Nat.add_sub_cancel_left]
  obtain ⟨b, o, hr2, k2⟩ := rep_code hrep2 (q := q + 2) (hat 2 (by omega))
  obtain ⟨b', o', ad5, kk5, hr5, _, k5, hB5⟩ := rep_get hrep2 (q := q + 5) (hat 5 (by omega))
  rw [hr2] at hr5
  cases hr5
  obtain ⟨b', o', hr7, k7⟩ := rep_code hrep2 (q := q + 7) (hat 7 (by omega))
  rw [hr2] at hr7
  cases hr7
  obtain ⟨b', o', hr8, k8⟩ := rep_code hrep2 (q := q + 8) (hat 8 (by omega))
  rw [hr2] at hr8
  cases hr8
  obtain ⟨b', o', ad10, kk10, hr10, k10, k11, hB10⟩ := rep_get hrep2 (q := q + 10) (hat 10 (by omega))
  rw [hr2] at hr10
  cases hr10
  subst hr2
  have X6 : Hid (Ext w w6) := X5.out.trans hx6
  clear hrep hrep2 hat HDP HT2 hTl hTe hx6
  go_wp2_with fail
  -- THE LAST REGION
  have HC2 : Hid (w6.cell? ⟨b, o + (q + 2) * 2, none⟩ = some (.int .i64 12)) := k2
  have HC5 : Hid (w6.cell? ⟨b, o + (q + 5) * 2 + 1, none⟩ = some (.slice ad5 128 kk5)) := k5
  have HC7 : Hid (w6.cell? ⟨b, o + (q + 7) * 2, none⟩ = some (.int .i64 13)) := k7
  have HC8 : Hid (w6.cell? ⟨b, o + (q + 8) * 2, none⟩ = some (.int .i64 13)) := k8
  have HC10 : Hid (w6.cell? ⟨b, o + (q + 10) * 2, none⟩ = some (.int .i64 0)) := k10
  have HC11 : Hid (w6.cell? ⟨b, o + (q + 10) * 2 + 1, none⟩ = some (.slice ad10 128 kk10)) := k11
  have HB5 : Hid (Byts w6 ad5 128 (secB a2)) := hB5
  have HB10 : Hid (Byts w6 ad10 128 (fun _ => ze)) := hB10
  have HF1 : Hid ((Try.f16.name == "runtime.NumGoroutine") = false ∧ Try.f16.body.isNone = false) := ⟨by kernel_rfl, by kernel_rfl⟩
  have HF2 : Hid ((Try.f13.name == "runtime.NumGoroutine") = false ∧ Try.f13.body.isNone = false) := ⟨by kernel_rfl, by kernel_rfl⟩
  clear k2 k5 k7 k8 k10 k11 hB5 hB10
  refine wp_region_fixed3 (P := Try.prog) 55 (by kernel_rfl) (by kernel_rfl) (fun i => 55 + i) (ddV (ddT b o q cr a2 ad5 kk5 ad10 kk10)) (ddJ w6 (secB a2) (fun _ => ze)) (by kernel_rfl) (by kernel_rfl) [7, 18, 27, 36, 45] (by kernel_rfl) (fun p g hg => by
    simp only [List.mem_cons, List.not_mem_nil, or_false] at hg
    rcases hg with rfl | rfl | rfl | rfl | rfl <;> rfl) (fun i j _ _ h => by have h : 55 + i = 55 + j := h; omega) (fun i hi => by show 55 + i < 110; omega) (0, 0) ⟨(Ext.refl _).drew, (fun h => by cases h), (fun h => by cases h)⟩ ?_ ?_
  · intro p L i a' w' hi55 hLi hde hcl hA hJ
    match i, hi55, hLi, hde with
    | 0, _, hLi, hde =>
      have e10 : a'.eval (.tmp 10) = .slice (some ⟨b, o, none⟩) (q + 11) cr := hA.eval 10 (fun j _ => by show 55 + j ≠ 10; omega)
      exact ⟨_, rfl, fun K' hk => wp_runs (exec_move (.tmp 10) rfl e10) (hk p w' (fun _ _ _ => rfl) (hJ.next (Ext.refl _) (by omega) (by omega)))⟩
    | 1, _, hLi, hde =>
      have e9 : a'.eval (.tmp 9) = .int .i64 (q : Int) := hA.eval 9 (fun j _ => by show 55 + j ≠ 9; omega)
      exact ⟨_, rfl, fun K' hk => wp_runs (exec_move (.tmp 9) rfl e9) (hk p w' (fun _ _ _ => rfl) (hJ.next (Ext.refl _) (by omega) (by omega)))⟩
    | 2, _, hLi, hde =>
      have e56 : a'.eval (.tmp 56) = .int .i64 (q : Int) := hA.at 1 (by omega) (hde 1 (by kernel_rfl))
      exact ⟨_, rfl, fun K' hk => wp_runs (exec_addc _ (.tmp 56) 2 _ rfl e56 (add_int _ _ _ (by omega))) (hk p w' (fun _ _ _ => rfl) (hJ.next (Ext.refl _) (by omega) (by omega)))⟩
    | 3, _, hLi, hde =>
      have e55 : a'.eval (.tmp 55) = .slice (some ⟨b, o, none⟩) (q + 11) cr := hA.at 0 (by omega) (hde 0 (by kernel_rfl))
      have e57 : a'.eval (.tmp 57) = .int .i64 ((q : Int) + 2) := hA.at 2 (by omega) (hde 2 (by kernel_rfl))
      exact ⟨_, rfl, fun K' hk => wp_runs (exec_index _ (.tmp 55) (.tmp 57) rfl e55 e57 (idx_rep (q := q + 2) _ (by omega) (by omega))) (hk p w' (fun _ _ _ => rfl) (hJ.next (Ext.refl _) (by omega) (by omega)))⟩
    | 4, _, hLi, hde =>
      have e58 : a'.eval (.tmp 58) = .pointer (some ⟨b, o + (q + 2) * 2, none⟩) := hA.at 3 (by omega) (hde 3 (by kernel_rfl))
      exact ⟨_, rfl, fun K' hk => wp_runs (exec_field _ (.tmp 58) 0 rfl e58 (field_rep _ _ _)) (hk p w' (fun _ _ _ => rfl) (hJ.next (Ext.refl _) (by omega) (by omega)))⟩
    | 5, _, hLi, hde =>
      have e59 : a'.eval (.tmp 59) = .pointer (some ⟨b, o + (q + 2) * 2, none⟩) := hA.at 4 (by omega) (hde 4 (by kernel_rfl))
      exact ⟨_, rfl, fun K' hk => wp_runs (exec_load _ (.tmp 59) rfl e59 (load_one Try.underlying24 rfl (hJ.ext.keeps HC2.out))) (hk p w' (fun _ _ _ => rfl) (hJ.next (Ext.refl _) (by omega) (by omega)))⟩
    | 6, _, hLi, hde =>
      have e60 : a'.eval (.tmp 60) = .int .i64 12 := hA.at 5 (by omega) (hde 5 (by kernel_rfl))
      exact ⟨_, rfl, fun K' hk => wp_runs (exec_eqlc _ (.tmp 60) 12 12 rfl e60 (eql_err _ _)) (hk p w' (fun _ _ _ => rfl) (hJ.next (Ext.refl _) (by omega) (by omega)))⟩
    | 7, _, hLi, hde =>
      have e61 : a'.eval (.tmp 61) = .bool true := hA.at 6 (by omega) (hde 6 (by kernel_rfl))
      exact ⟨_, rfl, fun K' hk => wp_runs (exec_move (.tmp 61) rfl e61) (hk p w' (fun _ _ _ => rfl) (hJ.next (Ext.refl _) (by omega) (by omega)))⟩
    | 8, _, hLi, hde =>
      have e10 : a'.eval (.tmp 10) = .slice (some ⟨b, o, none⟩) (q + 11) cr := hA.eval 10 (fun j _ => by show 55 + j ≠ 10; omega)
      exact ⟨_, rfl, fun K' hk => wp_runs (exec_move (.tmp 10) rfl e10) (hk p w' (fun _ _ _ => rfl) (hJ.next (Ext.refl _) (by omega) (by omega)))⟩
    | 9, _, hLi, hde =>
      have e9 : a'.eval (.tmp 9) = .int .i64 (q : Int) := hA.eval 9 (fun j _ => by show 55 + j ≠ 9; omega)
      exact ⟨_, rfl, fun K' hk => wp_runs (exec_move (.tmp 9) rfl e9) (hk p w' (fun _ _ _ => rfl) (hJ.next (Ext.refl _) (by omega) (by omega)))⟩
    | 10, _, hLi, hde =>
      have e64 : a'.eval (.tmp 64) = .int .i64 (q : Int) := hA.at 9 (by omega) (hde 9 (by kernel_rfl))
      exact ⟨_, rfl, fun K' hk => wp_runs (exec_addc _ (.tmp 64) 5 _ rfl e64 (add_int _ _ _ (by omega))) (hk p w' (fun _ _ _ => rfl) (hJ.next (Ext.refl _) (by omega) (by omega)))⟩
    | 11, _, hLi, hde =>
      have e63 : a'.eval (.tmp 63) = .slice (some ⟨b, o, none⟩) (q + 11) cr := hA.at 8 (by omega) (hde 8 (by kernel_rfl))
      have e65 : a'.eval (.tmp 65) = .int .i64 ((q : Int) + 5) := hA.at 10 (by omega) (hde 10 (by kernel_rfl))
      exact ⟨_, rfl, fun K' hk => wp_runs (exec_index _ (.tmp 63) (.tmp 65) rfl e63 e65 (idx_rep (q := q + 5) _ (by omega) (by omega))) (hk p w' (fun _ _ _ => rfl) (hJ.next (Ext.refl _) (by omega) (by omega)))⟩
    | 12, _, hLi, hde =>
      have e66 : a'.eval (.tmp 66) = .pointer (some ⟨b, o + (q + 5) * 2, none⟩) := hA.at 11 (by omega) (hde 11 (by kernel_rfl))
      exact ⟨_, rfl, fun K' hk => wp_runs (exec_field _ (.tmp 66) 1 rfl e66 (field_rep1 _ _ _)) (hk p w' (fun _ _ _ => rfl) (hJ.next (Ext.refl _) (by omega) (by omega)))⟩
    | 13, _, hLi, hde =>
      have e67 : a'.eval (.tmp 67) = .pointer (some ⟨b, o + (q + 5) * 2 + 1, none⟩) := hA.at 12 (by omega) (hde 12 (by kernel_rfl))
      exact ⟨_, rfl, fun K' hk => wp_runs (exec_load _ (.tmp 67) rfl e67 (load_one Try.underlying32 rfl (hJ.ext.keeps HC5.out))) (hk p w' (fun _ _ _ => rfl) (hJ.next (Ext.refl _) (by omega) (by omega)))⟩
    | 14, _, hLi, hde =>
      have e2 : a'.eval (.tmp 2) = .int .i64 a2 := hA.eval 2 (fun j _ => by show 55 + j ≠ 2; omega)
      exact ⟨_, rfl, fun K' hk => wp_runs (exec_move (.tmp 2) rfl e2) (hk p w' (fun _ _ _ => rfl) (hJ.next (Ext.refl _) (by omega) (by omega)))⟩
    | 15, _, hLi, hde =>
      have e69 : a'.eval (.tmp 69) = .int .i64 a2 := hA.at 14 (by omega) (hde 14 (by kernel_rfl))
      refine ⟨_, rfl, fun K' hk => wp_callsG 16 Try.func16 HF1.out.1 HF1.out.2 [.tmp 69] _ rfl [.int .i64 a2] (by simp only [List.map_cons, List.map_nil, e69]) (.slice (some ⟨w'.heap.size, 0, none⟩) 128 128) (fun w'' => Ext w' w'' ∧ w''.rowIs w'.heap.size 5 128 (bvs (secB a2))) ((SectorOf_any a2 w').mono fun e w'' h => ⟨h.1.1, h.2, h.1.2⟩) fun w'' hw'' => ?_⟩
      refine hk (w'.heap.size, p.2) w'' (fun j hj hl => ?_) ⟨hJ.ext.trans hw''.1, fun _ => hw''.2, fun hl => hw''.1.rowIs (hJ.zer (by unfold updB at hl; rw [if_neg (by omega)] at hl; exact hl))⟩
      have e : j ≠ 15 := fun h => by rw [h, hLi] at hl; cases hl
      unfold ddV
      rw [if_neg e, if_neg e]
    | 16, _, hLi, hde =>
      have e68 : a'.eval (.tmp 68) = .slice ad5 128 kk5 := hA.at 13 (by omega) (hde 13 (by kernel_rfl))
      have e70 : a'.eval (.tmp 70) = .slice (some ⟨p.1, 0, none⟩) 128 128 := hA.at 15 (by omega) (hde 15 (by kernel_rfl))
      have hrw := hJ.sec (hde 15 (by kernel_rfl))
      refine ⟨_, rfl, fun K' hk => wp_callsG 13 Try.func13 HF2.out.1 HF2.out.2 [.tmp 68, .tmp 70] _ rfl [.slice ad5 128 kk5, .slice (some ⟨p.1, 0, none⟩) 128 128] (by simp only [List.map_cons, List.map_nil, e68, e70]) (.bool true) (fun w'' => Ext w' w'') (sameBytesK_any ad5 (some ⟨p.1, 0, none⟩) 128 kk5 128 _ _ w' (by omega) (HB5.out.ext hJ.ext) (Byts.row hrw (Nat.le_refl _)) (fun _ _ => rfl)) fun w'' hw'' => ?_⟩
      exact hk p w'' (fun _ _ _ => rfl) (hJ.next hw'' (by omega) (by omega))
    | 17, _, hLi, hde =>
      have e62 : a'.eval (.tmp 62) = .bool true := hA.at 7 (by omega) (hde 7 (by kernel_rfl))
      have e71 : a'.eval (.tmp 71) = .bool true := hA.at 16 (by omega) (hde 16 (by kernel_rfl))
      exact ⟨_, rfl, fun K' hk => wp_runs (exec_pickt (.tmp 62) (.tmp 71) _ rfl e62 e71) (hk p w' (fun _ _ _ => rfl) (hJ.next (Ext.refl _) (by omega) (by omega)))⟩
    | 18, _, hLi, hde =>
      have e72 : a'.eval (.tmp 72) = .bool true := hA.at 17 (by omega) (hde 17 (by kernel_rfl))
      exact ⟨_, rfl, fun K' hk => wp_runs (exec_move (.tmp 72) rfl e72) (hk p w' (fun _ _ _ => rfl) (hJ.next (Ext.refl _) (by omega) (by omega)))⟩
    | 19, _, hLi, hde =>
      have e10 : a'.eval (.tmp 10) = .slice (some ⟨b, o, none⟩) (q + 11) cr := hA.eval 10 (fun j _ => by show 55 + j ≠ 10; omega)
      exact ⟨_, rfl, fun K' hk => wp_runs (exec_move (.tmp 10) rfl e10) (hk p w' (fun _ _ _ => rfl) (hJ.next (Ext.refl _) (by omega) (by omega)))⟩
    | 20, _, hLi, hde =>
      have e9 : a'.eval (.tmp 9) = .int .i64 (q : Int) := hA.eval 9 (fun j _ => by show 55 + j ≠ 9; omega)
      exact ⟨_, rfl, fun K' hk => wp_runs (exec_move (.tmp 9) rfl e9) (hk p w' (fun _ _ _ => rfl) (hJ.next (Ext.refl _) (by omega) (by omega)))⟩
    | 21, _, hLi, hde =>
      have e75 : a'.eval (.tmp 75) = .int .i64 (q : Int) := hA.at 20 (by omega) (hde 20 (by kernel_rfl))
      exact ⟨_, rfl, fun K' hk => wp_runs (exec_addc _ (.tmp 75) 7 _ rfl e75 (add_int _ _ _ (by omega))) (hk p w' (fun _ _ _ => rfl) (hJ.next (Ext.refl _) (by omega) (by omega)))⟩
    | 22, _, hLi, hde =>
      have e74 : a'.eval (.tmp 74) = .slice (some ⟨b, o, none⟩) (q + 11) cr := hA.at 19 (by omega) (hde 19 (by kernel_rfl))
      have e76 : a'.eval (.tmp 76) = .int .i64 ((q : Int) + 7) := hA.at 21 (by omega) (hde 21 (by kernel_rfl))
      exact ⟨_, rfl, fun K' hk => wp_runs (exec_index _ (.tmp 74) (.tmp 76) rfl e74 e76 (idx_rep (q := q + 7) _ (by omega) (by omega))) (hk p w' (fun _ _ _ => rfl) (hJ.next (Ext.refl _) (by omega) (by omega)))⟩
    | 23, _, hLi, hde =>
      have e77 : a'.eval (.tmp 77) = .pointer (some ⟨b, o + (q + 7) * 2, none⟩) := hA.at 22 (by omega) (hde 22 (by kernel_rfl))
      exact ⟨_, rfl, fun K' hk => wp_runs (exec_field _ (.tmp 77) 0 rfl e77 (field_rep _ _ _)) (hk p w' (fun _ _ _ => rfl) (hJ.next (Ext.refl _) (by omega) (by omega)))⟩
    | 24, _, hLi, hde =>
      have e78 : a'.eval (.tmp 78) = .pointer (some ⟨b, o + (q + 7) * 2, none⟩) := hA.at 23 (by omega) (hde 23 (by kernel_rfl))
      exact ⟨_, rfl, fun K' hk => wp_runs (exec_load _ (.tmp 78) rfl e78 (load_one Try.underlying24 rfl (hJ.ext.keeps HC7.out))) (hk p w' (fun _ _ _ => rfl) (hJ.next (Ext.refl _) (by omega) (by omega)))⟩
    | 25, _, hLi, hde =>
      have e79 : a'.eval (.tmp 79) = .int .i64 13 := hA.at 24 (by omega) (hde 24 (by kernel_rfl))
      exact ⟨_, rfl, fun K' hk => wp_runs (exec_eqlc _ (.tmp 79) 13 13 rfl e79 (eql_err _ _)) (hk p w' (fun _ _ _ => rfl) (hJ.next (Ext.refl _) (by omega) (by omega)))⟩
    | 26, _, hLi, hde =>
      have e73 : a'.eval (.tmp 73) = .bool true := hA.at 18 (by omega) (hde 18 (by kernel_rfl))
      have e80 : a'.eval (.tmp 80) = .bool true := hA.at 25 (by omega) (hde 25 (by kernel_rfl))
      exact ⟨_, rfl, fun K' hk => wp_runs (exec_pickt (.tmp 73) (.tmp 80) _ rfl e73 e80) (hk p w' (fun _ _ _ => rfl) (hJ.next (Ext.refl _) (by omega) (by omega)))⟩
    | 27, _, hLi, hde =>
      have e81 : a'.eval (.tmp 81) = .bool true := hA.at 26 (by omega) (hde 26 (by kernel_rfl))
      exact ⟨_, rfl, fun K' hk => wp_runs (exec_move (.tmp 81) rfl e81) (hk p w' (fun _ _ _ => rfl) (hJ.next (Ext.refl _) (by omega) (by omega)))⟩
    | 28, _, hLi, hde =>
      have e10 : a'.eval (.tmp 10) = .slice (some ⟨b, o, none⟩) (q + 11) cr := hA.eval 10 (fun j _ => by show 55 + j ≠ 10; omega)
      exact ⟨_, rfl, fun K' hk => wp_runs (exec_move (.tmp 10) rfl e10) (hk p w' (fun _ _ _ => rfl) (hJ.next (Ext.refl _) (by omega) (by omega)))⟩
    | 29, _, hLi, hde =>
      have e9 : a'.eval (.tmp 9) = .int .i64 (q : Int) := hA.eval 9 (fun j _ => by show 55 + j ≠ 9; omega)
      exact ⟨_, rfl, fun K' hk => wp_runs (exec_move (.tmp 9) rfl e9) (hk p w' (fun _ _ _ => rfl) (hJ.next (Ext.refl _) (by omega) (by omega)))⟩
    | 30, _, hLi, hde =>
      have e84 : a'.eval (.tmp 84) = .int .i64 (q : Int) := hA.at 29 (by omega) (hde 29 (by kernel_rfl))
      exact ⟨_, rfl, fun K' hk => wp_runs (exec_addc _ (.tmp 84) 8 _ rfl e84 (add_int _ _ _ (by omega))) (hk p w' (fun _ _ _ => rfl) (hJ.next (Ext.refl _) (by omega) (by omega)))⟩
    | 31, _, hLi, hde =>
      have e83 : a'.eval (.tmp 83) = .slice (some ⟨b, o, none⟩) (q + 11) cr := hA.at 28 (by omega) (hde 28 (by kernel_rfl))
      have e85 : a'.eval (.tmp 85) = .int .i64 ((q : Int) + 8) := hA.at 30 (by omega) (hde 30 (by kernel_rfl))
      exact ⟨_, rfl, fun K' hk => wp_runs (exec_index _ (.tmp 83) (.tmp 85) rfl e83 e85 (idx_rep (q := q + 8) _ (by omega) (by omega))) (hk p w' (fun _ _ _ => rfl) (hJ.next (Ext.refl _) (by omega) (by omega)))⟩
    | 32, _, hLi, hde =>
      have e86 : a'.eval (.tmp 86) = .pointer (some ⟨b, o + (q + 8) * 2, none⟩) := hA.at 31 (by omega) (hde 31 (by kernel_rfl))
      exact ⟨_, rfl, fun K' hk => wp_runs (exec_field _ (.tmp 86) 0 rfl e86 (field_rep _ _ _)) (hk p w' (fun _ _ _ => rfl) (hJ.next (Ext.refl _) (by omega) (by omega)))⟩
    | 33, _, hLi, hde =>
      have e87 : a'.eval (.tmp 87) = .pointer (some ⟨b, o + (q + 8) * 2, none⟩) := hA.at 32 (by omega) (hde 32 (by kernel_rfl))
      exact ⟨_, rfl, fun K' hk => wp_runs (exec_load _ (.tmp 87) rfl e87 (load_one Try.underlying24 rfl (hJ.ext.keeps HC8.out))) (hk p w' (fun _ _ _ => rfl) (hJ.next (Ext.refl _) (by omega) (by omega)))⟩
    | 34, _, hLi, hde =>
      have e88 : a'.eval (.tmp 88) = .int .i64 13 := hA.at 33 (by omega) (hde 33 (by kernel_rfl))
      exact ⟨_, rfl, fun K' hk => wp_runs (exec_eqlc _ (.tmp 88) 13 13 rfl e88 (eql_err _ _)) (hk p w' (fun _ _ _ => rfl) (hJ.next (Ext.refl _) (by omega) (by omega)))⟩
    | 35, _, hLi, hde =>
      have e82 : a'.eval (.tmp 82) = .bool true := hA.at 27 (by omega) (hde 27 (by kernel_rfl))
      have e89 : a'.eval (.tmp 89) = .bool true := hA.at 34 (by omega) (hde 34 (by kernel_rfl))
      exact ⟨_, rfl, fun K' hk => wp_runs (exec_pickt (.tmp 82) (.tmp 89) _ rfl e82 e89) (hk p w' (fun _ _ _ => rfl) (hJ.next (Ext.refl _) (by omega) (by omega)))⟩
    | 36, _, hLi, hde =>
      have e90 : a'.eval (.tmp 90) = .bool true := hA.at 35 (by omega) (hde 35 (by kernel_rfl))
      exact ⟨_, rfl, fun K' hk => wp_runs (exec_move (.tmp 90) rfl e90) (hk p w' (fun _ _ _ => rfl) (hJ.next (Ext.refl _) (by omega) (by omega)))⟩
    | 37, _, hLi, hde =>
      have e10 : a'.eval (.tmp 10) = .slice (some ⟨b, o, none⟩) (q + 11) cr := hA.eval 10 (fun j _ => by show 55 + j ≠ 10; omega)
      exact ⟨_, rfl, fun K' hk => wp_runs (exec_move (.tmp 10) rfl e10) (hk p w' (fun _ _ _ => rfl) (hJ.next (Ext.refl _) (by omega) (by omega)))⟩
    | 38, _, hLi, hde =>
      have e9 : a'.eval (.tmp 9) = .int .i64 (q : Int) := hA.eval 9 (fun j _ => by show 55 + j ≠ 9; omega)
      exact ⟨_, rfl, fun K' hk => wp_runs (exec_move (.tmp 9) rfl e9) (hk p w' (fun _ _ _ => rfl) (hJ.next (Ext.refl _) (by omega) (by omega)))⟩
    | 39, _, hLi, hde =>
      have e93 : a'.eval (.tmp 93) = .int .i64 (q : Int) := hA.at 38 (by omega) (hde 38 (by kernel_rfl))
      exact ⟨_, rfl, fun K' hk => wp_runs (exec_addc _ (.tmp 93) 10 _ rfl e93 (add_int _ _ _ (by omega))) (hk p w' (fun _ _ _ => rfl) (hJ.next (Ext.refl _) (by omega) (by omega)))⟩
    | 40, _, hLi, hde =>
      have e92 : a'.eval (.tmp 92) = .slice (some ⟨b, o, none⟩) (q + 11) cr := hA.at 37 (by omega) (hde 37 (by kernel_rfl))
      have e94 : a'.eval (.tmp 94) = .int .i64 ((q : Int) + 10) := hA.at 39 (by omega) (hde 39 (by kernel_rfl))
      exact ⟨_, rfl, fun K' hk => wp_runs (exec_index _ (.tmp 92) (.tmp 94) rfl e92 e94 (idx_rep (q := q + 10) _ (by omega) (by omega))) (hk p w' (fun _ _ _ => rfl) (hJ.next (Ext.refl _) (by omega) (by omega)))⟩
    | 41, _, hLi, hde =>
      have e95 : a'.eval (.tmp 95) = .pointer (some ⟨b, o + (q + 10) * 2, none⟩) := hA.at 40 (by omega) (hde 40 (by kernel_rfl))
      exact ⟨_, rfl, fun K' hk => wp_runs (exec_field _ (.tmp 95) 0 rfl e95 (field_rep _ _ _)) (hk p w' (fun _ _ _ => rfl) (hJ.next (Ext.refl _) (by omega) (by omega)))⟩
    | 42, _, hLi, hde =>
      have e96 : a'.eval (.tmp 96) = .pointer (some ⟨b, o + (q + 10) * 2, none⟩) := hA.at 41 (by omega) (hde 41 (by kernel_rfl))
      exact ⟨_, rfl, fun K' hk => wp_runs (exec_load _ (.tmp 96) rfl e96 (load_one Try.underlying24 rfl (hJ.ext.keeps HC10.out))) (hk p w' (fun _ _ _ => rfl) (hJ.next (Ext.refl _) (by omega) (by omega)))⟩
    | 43, _, hLi, hde =>
      have e97 : a'.eval (.tmp 97) = .int .i64 0 := hA.at 42 (by omega) (hde 42 (by kernel_rfl))
      exact ⟨_, rfl, fun K' hk => wp_runs (exec_eqlc _ (.tmp 97) 0 0 rfl e97 (eql_err _ _)) (hk p w' (fun _ _ _ => rfl) (hJ.next (Ext.refl _) (by omega) (by omega)))⟩
    | 44, _, hLi, hde =>
      have e91 : a'.eval (.tmp 91) = .bool true := hA.at 36 (by omega) (hde 36 (by kernel_rfl))
      have e98 : a'.eval (.tmp 98) = .bool true := hA.at 43 (by omega) (hde 43 (by kernel_rfl))
      exact ⟨_, rfl, fun K' hk => wp_runs (exec_pickt (.tmp 91) (.tmp 98) _ rfl e91 e98) (hk p w' (fun _ _ _ => rfl) (hJ.next (Ext.refl _) (by omega) (by omega)))⟩
    | 45, _, hLi, hde =>
      have e99 : a'.eval (.tmp 99) = .bool true := hA.at 44 (by omega) (hde 44 (by kernel_rfl))
      exact ⟨_, rfl, fun K' hk => wp_runs (exec_move (.tmp 99) rfl e99) (hk p w' (fun _ _ _ => rfl) (hJ.next (Ext.refl _) (by omega) (by omega)))⟩
    | 46, _, hLi, hde =>
      have e10 : a'.eval (.tmp 10) = .slice (some ⟨b, o, none⟩) (q + 11) cr := hA.eval 10 (fun j _ => by show 55 + j ≠ 10; omega)
      exact ⟨_, rfl, fun K' hk => wp_runs (exec_move (.tmp 10) rfl e10) (hk p w' (fun _ _ _ => rfl) (hJ.next (Ext.refl _) (by omega) (by omega)))⟩
    | 47, _, hLi, hde =>
      have e9 : a'.eval (.tmp 9) = .int .i64 (q : Int) := hA.eval 9 (fun j _ => by show 55 + j ≠ 9; omega)
      exact ⟨_, rfl, fun K' hk => wp_runs (exec_move (.tmp 9) rfl e9) (hk p w' (fun _ _ _ => rfl) (hJ.next (Ext.refl _) (by omega) (by omega)))⟩
    | 48, _, hLi, hde =>
      have e102 : a'.eval (.tmp 102) = .int .i64 (q : Int) := hA.at 47 (by omega) (hde 47 (by kernel_rfl))
      exact ⟨_, rfl, fun K' hk => wp_runs (exec_addc _ (.tmp 102) 10 _ rfl e102 (add_int _ _ _ (by omega))) (hk p w' (fun _ _ _ => rfl) (hJ.next (Ext.refl _) (by omega) (by omega)))⟩
    | 49, _, hLi, hde =>
      have e101 : a'.eval (.tmp 101) = .slice (some ⟨b, o, none⟩) (q + 11) cr := hA.at 46 (by omega) (hde 46 (by kernel_rfl))
      have e103 : a'.eval (.tmp 103) = .int .i64 ((q : Int) + 10) := hA.at 48 (by omega) (hde 48 (by kernel_rfl))
      exact ⟨_, rfl, fun K' hk => wp_runs (exec_index _ (.tmp 101) (.tmp 103) rfl e101 e103 (idx_rep (q := q + 10) _ (by omega) (by omega))) (hk p w' (fun _ _ _ => rfl) (hJ.next (Ext.refl _) (by omega) (by omega)))⟩
    | 50, _, hLi, hde =>
      have e104 : a'.eval (.tmp 104) = .pointer (some ⟨b, o + (q + 10) * 2, none⟩) := hA.at 49 (by omega) (hde 49 (by kernel_rfl))
      exact ⟨_, rfl, fun K' hk => wp_runs (exec_field _ (.tmp 104) 1 rfl e104 (field_rep1 _ _ _)) (hk p w' (fun _ _ _ => rfl) (hJ.next (Ext.refl _) (by omega) (by omega)))⟩
    | 51, _, hLi, hde =>
      have e105 : a'.eval (.tmp 105) = .pointer (some ⟨b, o + (q + 10) * 2 + 1, none⟩) := hA.at 50 (by omega) (hde 50 (by kernel_rfl))
      exact ⟨_, rfl, fun K' hk => wp_runs (exec_load _ (.tmp 105) rfl e105 (load_one Try.underlying32 rfl (hJ.ext.keeps HC11.out))) (hk p w' (fun _ _ _ => rfl) (hJ.next (Ext.refl _) (by omega) (by omega)))⟩
    | 52, _, hLi, hde =>
      refine ⟨_, rfl, fun K' hk => wp_runs (w' := w'.alloc (.cells (madeCells #[.int .u8 0] 128) 5)) (v := .slice (some ⟨w'.heap.size, 0, none⟩) 128 128) (exec_mk (.const (.int .i64 128)) (.const (.int .i64 128)) rfl rfl rfl) ?_⟩
      refine hk (p.1, w'.heap.size) _ (fun j hj hl => ?_) ⟨hJ.ext.alloc _ _, fun hl => ((Ext.refl w').alloc _ _).rowIs (hJ.sec (by unfold updB at hl; rw [if_neg (by omega)] at hl; exact hl)), fun _ => (World.rowIs_made w' (.int .u8 0) 128 5).congr fun i _ => rfl⟩
      have e : j ≠ 52 := fun h => by rw [h, hLi] at hl; cases hl
      unfold ddV
      by_cases e15 : j = 15
      · rw [if_pos e15, if_pos e15]
      · rw [if_neg e15, if_neg e15, if_neg e, if_neg e]
    | 53, _, hLi, hde =>
      have e106 : a'.eval (.tmp 106) = .slice ad10 128 kk10 := hA.at 51 (by omega) (hde 51 (by kernel_rfl))
      have e107 : a'.eval (.tmp 107) = .slice (some ⟨p.2, 0, none⟩) 128 128 := hA.at 52 (by omega) (hde 52 (by kernel_rfl))
      have hrw := hJ.zer (hde 52 (by kernel_rfl))
      refine ⟨_, rfl, fun K' hk => wp_callsG 13 Try.func13 HF2.out.1 HF2.out.2 [.tmp 106, .tmp 107] _ rfl [.slice ad10 128 kk10, .slice (some ⟨p.2, 0, none⟩) 128 128] (by simp only [List.map_cons, List.map_nil, e106, e107]) (.bool true) (fun w'' => Ext w' w'') (sameBytesK_any ad10 (some ⟨p.2, 0, none⟩) 128 kk10 128 _ _ w' (by omega) (HB10.out.ext hJ.ext) (Byts.row hrw (Nat.le_refl _)) (fun _ _ => rfl)) fun w'' hw'' => ?_⟩
      exact hk p w'' (fun _ _ _ => rfl) (hJ.next hw'' (by omega) (by omega))
    | 54, _, hLi, hde =>
      have e100 : a'.eval (.tmp 100) = .bool true := hA.at 45 (by omega) (hde 45 (by kernel_rfl))
      have e108 : a'.eval (.tmp 108) = .bool true := hA.at 53 (by omega) (hde 53 (by kernel_rfl))
      exact ⟨_, rfl, fun K' hk => wp_runs (exec_pickt (.tmp 100) (.tmp 108) _ rfl e100 e108) (hk p w' (fun _ _ _ => rfl) (hJ.next (Ext.refl _) (by omega) (by omega)))⟩
    | x + 55, h, _, _ => exact absurd h (by omega)
  · intro p L w' hL hJ
    have X9 : Hid (Ext w w') := X6.out.trans hJ.ext
    clear HC2 HC5 HC7 HC8 HC10 HC11 HB5 HB10 HF1 HF2 hJ hL
    simp only [List.drop_succ_cons, List.drop_zero]
    have hput : ∀ a0 : Act, putAll (fun i => 55 + i) (ddV (ddT b o q cr a2 ad5 kk5 ad10 kk10) p) a0 55 = (((((((((((((((((((((((((((((((((((((((((((((((((((((((a0.put (some 55) (.slice (some ⟨b, o, none⟩) (q + 11) cr)).put (some 56) (.int .i64 (q : Int))).put (some 57) (.int .i64 ((q : Int) + 2))).put (some 58) (.pointer (some ⟨b, o + (q + 2) * 2, none⟩))).put (some 59) (.pointer (some ⟨b, o + (q + 2) * 2, none⟩))).put (some 60) (.int .i64 12)).put (some 61) (.bool true)).put (some 62) (.bool true)).put (some 63) (.slice (some ⟨b, o, none⟩) (q + 11) cr)).put (some 64) (.int .i64 (q : Int))).put (some 65) (.int .i64 ((q : Int) + 5))).put (some 66) (.pointer (some ⟨b, o + (q + 5) * 2, none⟩))).put (some 67) (.pointer (some ⟨b, o + (q + 5) * 2 + 1, none⟩))).put (some 68) (.slice ad5 128 kk5)).put (some 69) (.int .i64 a2)).put (some 70) (.slice (some ⟨p.1, 0, none⟩) 128 128)).put (some 71) (.bool true)).put (some 72) (.bool true)).put (some 73) (.bool true)).put (some 74) (.slice (some ⟨b, o, none⟩) (q + 11) cr)).put (some 75) (.int .i64 (q : Int))).put (some 76) (.int .i64 ((q : Int) + 7))).put (some 77) (.pointer (some ⟨b, o + (q + 7) * 2, none⟩))).put (some 78) (.pointer (some ⟨b, o + (q + 7) * 2, none⟩))).put (some 79) (.int .i64 13)).put (some 80) (.bool true)).put (some 81) (.bool true)).put (some 82) (.bool true)).put (some 83) (.slice (some ⟨b, o, none⟩) (q + 11) cr)).put (some 84) (.int .i64 (q : Int))).put (some 85) (.int .i64 ((q : Int) + 8))).put (some 86) (.pointer (some ⟨b, o + (q + 8) * 2, none⟩))).put (some 87) (.pointer (some ⟨b, o + (q + 8) * 2, none⟩))).put (some 88) (.int .i64 13)).put (some 89) (.bool true)).put (some 90) (.bool true)).put (some 91) (.bool true)).put (some 92) (.slice (some ⟨b, o, none⟩) (q + 11) cr)).put (some 93) (.int .i64 (q : Int))).put (some 94) (.int .i64 ((q : Int) + 10))).put (some 95) (.pointer (some ⟨b, o + (q + 10) * 2, none⟩))).put (some 96) (.pointer (some ⟨b, o + (q + 10) * 2, none⟩))).put (some 97) (.int .i64 0)).put (some 98) (.bool true)).put (some 99) (.bool true)).put (some 100) (.bool true)).put (some 101) (.slice (some ⟨b, o, none⟩) (q + 11) cr)).put (some 102) (.int .i64 (q : Int))).put (some 103) (.int .i64 ((q : Int) + 10))).put (some 104) (.pointer (some ⟨b, o + (q + 10) * 2, none⟩))).put (some 105) (.pointer (some ⟨b, o + (q + 10) * 2 + 1, none⟩))).put (some 106) (.slice ad10 128 kk10)).put (some 107) (.slice (some ⟨p.2, 0, none⟩) 128 128)).put (some 108) (.bool true)).put (some 109) (.bool true)) := fun _ => rfl
    rw [hput]
    simp only [Act.put, List.setIfInBounds_toArray, List.set_cons_succ, List.set_cons_zero]
    clear hput
    go_wp2_with fail
    go_ret
    exact ⟨rfl, X9.out⟩
end Go.Proofs.Ytgboboojjboocaa.driveDead
