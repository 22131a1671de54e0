/-
  Where all that waits is kept, power does not matter; where nothing is, it is as at the last flush; no condition.
-/
import Derived.Test.YtgboboojjboocaaRows
import Derived.WalkKit
import Derived.ProofKit
import Derived.OpenShut
import Derived.ChangeOld
import Derived.Below
import Derived.BigQuiet
import Derived.Deep.CutRange
import Derived.Deep.QuietTactic
import Derived.Deep.RegionLaw
import Derived.Test.YtgboboojjboocaaOpn
import Derived.Test.YtgboboojjboocaaChecked
import Derived.Test.YtgboboojjboocaaFlat
import Derived.Test.YtgboboojjboocaaDrKeep
import Derived.Test.YtgboboojjboocaaDrKeep2
namespace Go.Proofs.Ytgboboojjboocaa.driveAll
open Go.ChangeShapes Go.WideShapes Go.ChangeAt Go.RowKit Go.Deep E
set_option linter.unusedVariables false

set_option maxRecDepth 100000 in
set_option maxHeartbeats 40000000 in
theorem walk (a0 : Option Addr) (n0 c0 : Nat) (F0 : Nat → Nat → Int) (w : World) (h0 : Flt w a0 n0 4 F0) (b0 : ∀ r k, r < n0 → k < 4 → I64 (F0 r k)) (k0 : n0 ≤ c0 ∧ c0 ≤ 9223372036854775807) :
    Calls Try.prog 5 #[.slice a0 n0 c0] w fun e w' => e = .returned (.bool true) ∧ Ext w w' := by
  have HAc : Hid (∀ w', Ext w w' → ∀ g, g = w'.heap.size → Calls Try.prog 11 #[.slice a0 n0 c0, .int .i64 60, .slice (some ⟨g, 0, none⟩) 4 4] (w'.alloc (.cells #[.int .i64 1, .int .i64 1, .int .i64 3, .int .i64 2] 3)) fun e w2 => (∃ D ad c, e = .returned (.slice ad (min n0 60) c) ∧ AJobs w2 (.slice ad (min n0 60) c) (min n0 60) D [1, 3, 2] ad c) ∧ Ext w' w2) := fun w' x g hg => by
    refine (Acts_any a0 n0 c0 (actL n0 F0) 60 (some ⟨g, 0, none⟩) 4 4 _ _ (actL_len _ _) (by omega) ((act_els h0).ext (x.alloc _ _)) (act_bd b0) (by omega) (by omega) (ints4 w' 1 1 3 2 3 g hg)).mono ?_
    rintro e w2 ⟨D, v, rfl, hDl, hD⟩
    rw [actL_len] at hDl hD
    obtain ⟨ad, c, hA⟩ := hD.made (by rw [actL_len]; omega) (by omega) (ks := [1, 3, 2]) (fun i hi => by
      match i, hi with
      | 0, _ => simp
      | 1, _ => simp
      | 2, _ => simp
      | 3, _ => simp)
    have hv := hA.val
    subst hv
    exact ⟨⟨D, ad, c, rfl, hA⟩, ((Ext.refl w').alloc _ _).trans hD.ext⟩
  obtain ⟨q, hq⟩ : ∃ q : Nat, q = min n0 60 := ⟨_, rfl⟩
  have hq60 : q ≤ 60 := by omega
  rw [← hq] at HAc
  clear h0 hq
  have hb1 : ∀ w : World, (Instr.build 34 #[(0, .int .i64 3)]).run Try.prog w = .ok (.agg #[.int .i64 3, .int .i64 0, .int .i64 0, .slice none 0 0]) w := fun w => by simp [Instr.build, run_underlying Try.underlying34, go_sem]
  have hb2 : ∀ w : World, (Instr.build 34 #[(0, .int .i64 4), (2, .int .i64 (-1))]).run Try.prog w = .ok (.agg #[.int .i64 4, .int .i64 0, .int .i64 (-1), .slice none 0 0]) w := fun w => by simp [Instr.build, run_underlying Try.underlying34, go_sem]
  have hb3 : ∀ w : World, (Instr.build 34 #[(0, .int .i64 4)]).run Try.prog w = .ok (.agg #[.int .i64 4, .int .i64 0, .int .i64 0, .slice none 0 0]) w := fun w => by simp [Instr.build, run_underlying Try.underlying34, go_sem]
  go_enter Try.func5, Try.ntmps5
  go_wp2_with fail
  refine (HAc.out _ (Ext.refl w) _ rfl).mono ?_
  rintro e w1 ⟨⟨D, ad, c, rfl, hA⟩, hx1⟩
  have HA : Hid (AJobs w1 (.slice ad q c) q D [1, 3, 2] ad c) := hA
  have HP : Hid (∀ J, J ∈ D → Plain 8 J) := hA.good (by simp)
  have HB : Hid (∀ {w2 : World}, Ext w1 w2 → ∀ J, J ∈ D → Byts w2 J.ad J.l J.f ∧ J.l ≤ 9223372036854775807) := fun x J hJ => (hA.jobs.ext x).2 J hJ
  have HGd : Hid (Good 8 (dend 8 (newS 8) D)) := dend_good (new_good 8) HP.out
  clear HAc hA
  go_wp2_with (first | (at_builtin; refine append_copyJ _ rfl (.tmp 20) rfl D ad q c rfl HA.out.len (by omega) HA.out.jobs.1 ?_) | go_in)
  intro v2 w2 hO2
  have HO2 : Hid (OwnJ w1 v2 D w2) := hO2
  have HD150 : Hid (D.length ≤ 150) := (by rw [HA.out.len]; omega : D.length ≤ 150)
  clear hO2
  go_wp2_with (first | (at_builtin; refine append_moreJ w1 _ rfl (.tmp 21) (.tmp 23) rfl D [bareJ 3 0 0] v2 rfl (HO2.out.grown ((Ext.refl _).alloc _ _)) (by have := HD150.out; omega) (some ⟨w2.heap.size, 0, none⟩) 1 1 rfl rfl (by omega) (bare_els _ _ rfl _ _ _ _) ?_) | go_in)
  intro v3 w3 hO3
  have HG3 : Hid (Calls Try.prog 12 #[v3] w3 fun e w' => (∃ v, e = .returned (.tuple #[v, .bool true]) ∧ Rows8 w' v (fun i => has (jobR 8 (dend 8 (newS 8) D) (bareJ 3 0 0)).2 i)) ∧ Ext w3 w') := gets_more hO3 (HB.out hO3.ext) (bare_byts _ _ _ _) HP.out (bare_plain (by omega) (by omega)) HD150.out
  have hx3 := hO3.ext
  clear hO3
  go_wp2_with fail
  refine HG3.out.mono ?_
  rintro e w4 ⟨⟨va, rfl, hRa⟩, hx4⟩
  have HRa : Hid (Rows8 w4 va (fun i => has (jobR 8 (dend 8 (newS 8) D) (bareJ 3 0 0)).2 i)) := hRa
  have X4 : Hid (Ext w1 w4) := hx3.trans hx4
  clear hRa HG3 hx3 hx4 HO2
  go_wp2_with (first | (at_builtin; refine append_copyJ _ rfl (.tmp 29) rfl D ad q c rfl HA.out.len (by omega) (HA.out.jobs.ext X4.out).1 ?_) | go_in)
  intro v5 w5 hOw5
  have HOw5 : Hid (OwnJ w4 v5 D w5) := hOw5
  clear hOw5
  go_wp2_with (first | (at_builtin; refine append_moreJ w4 _ rfl (.tmp 30) (.tmp 32) rfl D [bareJ 4 0 (-1)] v5 rfl (HOw5.out.grown ((Ext.refl _).alloc _ _)) (by have := HD150.out; omega) (some ⟨w5.heap.size, 0, none⟩) 1 1 rfl rfl (by omega) (bare_els _ _ rfl _ _ _ _) ?_) | go_in)
  intro v6 w6 hOw6
  have HGw6 : Hid (Calls Try.prog 12 #[v6] w6 fun e w' => (∃ v, e = .returned (.tuple #[v, .bool true]) ∧ Rows8 w' v (fun i => has (jobR 8 (dend 8 (newS 8) D) (bareJ 4 0 (-1))).2 i)) ∧ Ext w6 w') := gets_more hOw6 (HB.out (X4.out.trans hOw6.ext)) (bare_byts _ _ _ _) HP.out (bare_plain (by omega) (by omega)) HD150.out
  have hxw6 := X4.out.trans hOw6.ext
  have hyw6 := hOw6.ext
  clear hOw6
  go_wp2_with fail
  refine HGw6.out.mono ?_
  rintro e w7 ⟨⟨vb, rfl, hRvb⟩, hx7x⟩
  have HRvb : Hid (Rows8 w7 vb (fun i => has (jobR 8 (dend 8 (newS 8) D) (bareJ 4 0 (-1))).2 i)) := hRvb
  have X7 : Hid (Ext w1 w7) := hxw6.trans hx7x
  have Y7 : Hid (Ext w4 w7) := hyw6.trans hx7x
  clear hRvb HGw6 hxw6 HOw5 hyw6
  have HGc : Hid (Calls Try.prog 12 #[.slice ad q c] w7 fun e w' => (∃ v, e = .returned (.tuple #[v, .bool true]) ∧ Rows8 w' v (fun i => has (dend 8 (newS 8) D) i)) ∧ Ext w7 w') := gets_any ad q c D w7 HA.out.len (by omega) (HA.out.jobs.ext X7.out) HP.out
  go_wp2_with fail
  refine HGc.out.mono ?_
  rintro e w8 ⟨⟨vc, rfl, hRc⟩, hx8⟩
  have HRc : Hid (Rows8 w8 vc (fun i => has (dend 8 (newS 8) D) i)) := hRc
  have X8 : Hid (Ext w1 w8) := X7.out.trans hx8
  clear hRc HGc
  go_wp2_with fail
  go_loopw [10, 11] (fun l i wr => ∃ (k l' : Nat), k ≤ q ∧ i = .int .i64 k ∧ l = .int .i64 l' ∧ l' ≤ k ∧ Hid (∀ i, i < 8 → plat (dend 8 (newS 8) (D.take k)) i = has (dend 8 (newS 8) (D.take l')) i) ∧ Ext w8 wr) (fun _ i _ => q - (intOf i).toNat)
  case atStart => exact ⟨0, 0, Nat.zero_le _, rfl, rfl, Nat.le_refl _, fun i _ => rfl, Ext.refl _⟩
  case round =>
    obtain ⟨k, l, hk, rfl, rfl, hl, HPl, hx⟩ := hrel
    by_cases hlt : k < q
    · obtain ⟨J, hJ⟩ : ∃ J, D[k]? = some J := ⟨_, List.getElem?_eq_getElem (by rw [HA.out.len]; exact hlt)⟩
      have hJm : J ∈ D := List.mem_of_getElem? hJ
      have hpl := HP.out J hJm
      have hgd : Good 8 (dend 8 (newS 8) (D.take k)) := dend_good (new_good 8) fun M hM => HP.out M (List.mem_of_mem_take hM)
      have hk4 : J.k ≠ 4 := fun h => by
        have := (HA.out.plain J hJm).1
        rw [h] at this
        simp at this
      have HS : Hid (∀ i, i < 8 → plat (dend 8 (newS 8) (D.take (k + 1))) i = has (dend 8 (newS 8) (D.take (if J.k = 3 then k + 1 else l))) i) := fun i hi => by
        rw [take_snoc hJ, dend_snoc]
        by_cases e : J.k = 3
        · rw [if_pos e, job_flat hgd hpl e, take_snoc hJ, dend_snoc]
        · rw [if_neg e, job_plat hgd hpl hk4 e]
          exact HPl.out i hi
      obtain ⟨b, o, hb, hc0, _, _, _⟩ := jobs_at (HA.out.jobs.ext (X8.out.trans hx)) hJ
      subst hb
      clear hgd hpl hJ hJm
      obtain ⟨jk, ja, kp, jd, jl, jc, jf⟩ := J
      simp only at hk4 hc0 HS
      have i1 : (k : Int) < (q : Int) := by omega
      by_cases e1 : jk = 3
      · subst e1
        rw [if_pos rfl] at HS
        go_wp2_with fail
        go_roundw
        case rel => exact ⟨k + 1, k + 1, by omega, by go_num, by go_num, Nat.le_refl _, HS.out, hx⟩
        case measure => simp [intOf]; omega
      · rw [if_neg e1] at HS
        have q2 : (jk == 3) = false := by rw [beq_eq_false_iff_ne]; exact e1
        go_wp2_with fail
        go_roundw
        case rel => exact ⟨k + 1, l, by omega, by go_num, rfl, by omega, HS.out, hx⟩
        case measure => simp [intOf]; omega
    · obtain rfl : k = q := by omega
      have HPl2 : Hid (∀ i, i < 8 → plat (dend 8 (newS 8) D) i = has (dend 8 (newS 8) (D.take l)) i) := fun i hi => by
        have := HPl.out i hi
        rw [List.take_of_length_le (by rw [HA.out.len]; omega)] at this
        exact this
      have X9 : Hid (Ext w1 wr) := X8.out.trans hx
      have Hx : Hid (Ext w8 wr) := hx
      clear hlt HPl hk hx
      go_wp2_with (first | (at_builtin; refine append_copyJ _ rfl (.tmp 57) rfl D ad k c rfl HA.out.len (by omega) (HA.out.jobs.ext X9.out).1 ?_) | go_in)
      intro v9 w9 hOw9
      have HOw9 : Hid (OwnJ wr v9 D w9) := hOw9
      clear hOw9
      go_wp2_with (first | (at_builtin; refine append_moreJ wr _ rfl (.tmp 58) (.tmp 60) rfl D [bareJ 4 0 0] v9 rfl (HOw9.out.grown ((Ext.refl _).alloc _ _)) (by have := HD150.out; omega) (some ⟨w9.heap.size, 0, none⟩) 1 1 rfl rfl (by omega) (bare_els _ _ rfl _ _ _ _) ?_) | go_in)
      intro v10 w10 hOw10
      have HGw10 : Hid (Calls Try.prog 12 #[v10] w10 fun e w' => (∃ v, e = .returned (.tuple #[v, .bool true]) ∧ Rows8 w' v (fun i => has (jobR 8 (dend 8 (newS 8) D) (bareJ 4 0 0)).2 i)) ∧ Ext w10 w') := gets_more hOw10 (HB.out (X9.out.trans hOw10.ext)) (bare_byts _ _ _ _) HP.out (bare_plain (by omega) (by omega)) HD150.out
      have hxw10 := X9.out.trans hOw10.ext
      have hyw10 := hOw10.ext
      clear hOw10
      go_wp2_with fail
      refine HGw10.out.mono ?_
      rintro e w11 ⟨⟨vd, rfl, hRvd⟩, hxw11⟩
      have HRvd : Hid (Rows8 w11 vd (fun i => has (jobR 8 (dend 8 (newS 8) D) (bareJ 4 0 0)).2 i)) := hRvd
      have X11 : Hid (Ext w1 w11) := hxw10.trans hxw11
      have Y11 : Hid (Ext wr w11) := hyw10.trans hxw11
      clear hRvd HGw10 hxw10 HOw9 hyw10
      have HGe : Hid (Calls Try.prog 12 #[.slice ad l c] w11 fun e w' => (∃ v, e = .returned (.tuple #[v, .bool true]) ∧ Rows8 w' v (fun i => has (dend 8 (newS 8) (D.take l)) i)) ∧ Ext w11 w') := gets_any ad l c (D.take l) w11 (by rw [List.length_take, HA.out.len]; omega) (by omega) ((HA.out.jobs.ext X11.out).take l) (fun M hM => HP.out M (List.mem_of_mem_take hM))
      have hcap := HA.out.cap
      have i5 : (l : Int) ≤ (c : Int) := by omega
      go_wp2_with fail
      refine HGe.out.mono ?_
      rintro e w12 ⟨⟨ve, rfl, hRe⟩, hx12⟩
      have x8 : Ext w8 w12 := (Hx.out.trans Y11.out).trans hx12
      have x7 := hx8.trans x8
      have x4 := Y7.out.trans x7
      have RA : Hid (Rows8 w12 va (fun i => has (jobR 8 (dend 8 (newS 8) D) (bareJ 3 0 0)).2 i)) := HRa.out.ext x4
      have RB : Hid (Rows8 w12 vb (fun i => has (jobR 8 (dend 8 (newS 8) D) (bareJ 4 0 (-1))).2 i)) := HRvb.out.ext x7
      have RC : Hid (Rows8 w12 vc (fun i => has (dend 8 (newS 8) D) i)) := HRc.out.ext x8
      have RD : Hid (Rows8 w12 vd (fun i => has (jobR 8 (dend 8 (newS 8) D) (bareJ 4 0 0)).2 i)) := HRvd.out.ext hx12
      have RE : Hid (Rows8 w12 ve (fun i => has (dend 8 (newS 8) (D.take l)) i)) := hRe
      have X12 : Hid (Ext w1 w12) := X11.out.trans hx12
      clear x8 x7 x4 hRe hx12 hx8 HGe
      go_wp2_with fail
      refine (sameRows_any RA.out RB.out (fun i hi => by show has _ i = has _ i; rw [flush_same HGd.out hi, crash_all HGd.out hi]) (Ext.refl _)).mono ?_
      rintro e w13 ⟨rfl, hx13⟩
      go_wp2_with fail
      refine (sameRows_any RA.out RC.out (fun i hi => by show has _ i = has _ i; rw [flush_same HGd.out hi]) hx13).mono ?_
      rintro e w14 ⟨rfl, hx14⟩
      go_wp2_with fail
      refine (sameRows_any RD.out RE.out (fun i hi => by show has _ i = has _ i; rw [crash_none HGd.out hi]; exact HPl2.out i hi) (hx13.trans hx14)).mono ?_
      rintro e w15 ⟨rfl, hx15⟩
      go_wp2_with fail
      go_ret
      exact ⟨rfl, (hx1.trans X12.out).trans ((hx13.trans hx14).trans hx15)⟩
end Go.Proofs.Ytgboboojjboocaa.driveAll
