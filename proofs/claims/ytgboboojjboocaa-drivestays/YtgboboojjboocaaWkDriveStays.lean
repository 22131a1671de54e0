/-
  What was flushed stays, whatever power does: where nothing was put since, a sector is as it was; no condition.
-/
import Derived.Test.YtgboboojjboocaaRows
import Derived.WalkKit
import Derived.ProofKit
import Derived.OpenShut
import Derived.ChangeOld
import Derived.Below
import Derived.BigQuiet
import Derived.Deep.CutRange
import Derived.Deep.QuietTactic
import Derived.Deep.RegionLaw
import Derived.Test.YtgboboojjboocaaOpn
import Derived.Test.YtgboboojjboocaaChecked
import Derived.Test.YtgboboojjboocaaFlat
import Derived.Test.YtgboboojjboocaaDrKeep
import Derived.Test.YtgboboojjboocaaDrKeep2
import Derived.Test.YtgboboojjboocaaDrStay
namespace Go.Proofs.Ytgboboojjboocaa.driveStays
open Go.ChangeShapes Go.WideShapes Go.ChangeAt Go.RowKit Go.Deep E
set_option linter.unusedVariables false

set_option maxRecDepth 100000 in
set_option maxHeartbeats 40000000 in
theorem walk (a0 : Option Addr) (n0 c0 : Nat) (F0 : Nat → Nat → Int) (a1 : Option Addr) (n1 c1 : Nat) (F1 : Nat → Nat → Int) (a2 : Int) (w : World) (h0 : Flt w a0 n0 4 F0) (b0 : ∀ r k, r < n0 → k < 4 → I64 (F0 r k)) (k0 : n0 ≤ c0 ∧ c0 ≤ 9223372036854775807) (h1 : Flt w a1 n1 4 F1) (b1 : ∀ r k, r < n1 → k < 4 → I64 (F1 r k)) (k1 : n1 ≤ c1 ∧ c1 ≤ 9223372036854775807) (w2 : -9223372036854775808 ≤ a2 ∧ a2 ≤ 9223372036854775807) :
    Calls Try.prog 4 #[.slice a0 n0 c0, .slice a1 n1 c1, .int .i64 a2] w fun e w' => e = .returned (.bool true) ∧ Ext w w' := by
  have HAc : Hid (∀ w', Ext w w' → ∀ g, g = w'.heap.size → Calls Try.prog 11 #[.slice a0 n0 c0, .int .i64 40, .slice (some ⟨g, 0, none⟩) 3 3] (w'.alloc (.cells #[.int .i64 1, .int .i64 3, .int .i64 4] 3)) fun e w2 => (∃ D v, e = .returned v ∧ D.length ≤ 40 ∧ OwnJ w' v D w2 ∧ (∀ J, J ∈ D → JOk w2 J) ∧ ∀ J, J ∈ D → Plain 8 J) ∧ Ext w' w2) := fun w' x g hg => by
    refine (Acts_any a0 n0 c0 (actL n0 F0) 40 (some ⟨g, 0, none⟩) 3 3 _ _ (actL_len _ _) (by omega) ((act_els h0).ext (x.alloc _ _)) (act_bd b0) (by omega) (by omega) (ints3 w' 1 3 4 3 g hg)).mono ?_
    rintro e w2 ⟨D, v, rfl, hDl, hD⟩
    rw [actL_len] at hDl hD
    obtain ⟨ad, c, hA⟩ := hD.made (by rw [actL_len]; omega) (by omega) (ks := [1, 3, 4]) (fun i hi => by
      match i, hi with
      | 0, _ => simp
      | 1, _ => simp
      | 2, _ => simp)
    exact ⟨⟨D, v, rfl, by omega, hD.ownJ.back ((Ext.refl w').alloc _ _), hD.ok, hA.good (by simp)⟩, ((Ext.refl w').alloc _ _).trans hD.ext⟩
  have HAk : Hid (∀ w', Ext w w' → ∀ g, g = w'.heap.size → Calls Try.prog 11 #[.slice a1 n1 c1, .int .i64 20, .slice (some ⟨g, 0, none⟩) 2 2] (w'.alloc (.cells #[.int .i64 1, .int .i64 2] 3)) fun e w2 => (∃ D ad c, e = .returned (.slice ad (min n1 20) c) ∧ AJobs w2 (.slice ad (min n1 20) c) (min n1 20) D [1, 2] ad c) ∧ Ext w' w2) := fun w' x g hg => by
    refine (Acts_any a1 n1 c1 (actL n1 F1) 20 (some ⟨g, 0, none⟩) 2 2 _ _ (actL_len _ _) (by omega) ((act_els h1).ext (x.alloc _ _)) (act_bd b1) (by omega) (by omega) (ints2 w' 1 2 3 g hg)).mono ?_
    rintro e w2 ⟨D, v, rfl, hDl, hD⟩
    rw [actL_len] at hDl hD
    obtain ⟨ad, c, hA⟩ := hD.made (by rw [actL_len]; omega) (by omega) (ks := [1, 2]) (fun i hi => by
      match i, hi with
      | 0, _ => simp
      | 1, _ => simp)
    have hv := hA.val
    subst hv
    exact ⟨⟨D, ad, c, rfl, hA⟩, ((Ext.refl w').alloc _ _).trans hD.ext⟩
  obtain ⟨q, hq⟩ : ∃ q : Nat, q = min n1 20 := ⟨_, rfl⟩
  have hq20 : q ≤ 20 := by omega
  rw [← hq] at HAk
  clear h0 h1 hq
  have hb1 : ∀ w : World, (Instr.build 34 #[(0, .int .i64 3)]).run Try.prog w = .ok (.agg #[.int .i64 3, .int .i64 0, .int .i64 0, .slice none 0 0]) w := fun w => by simp [Instr.build, run_underlying Try.underlying34, go_sem]
  have hb2 : ∀ w : World, (Instr.build 34 #[(0, .int .i64 4), (2, .int .i64 a2)]).run Try.prog w = .ok (.agg #[.int .i64 4, .int .i64 0, .int .i64 a2, .slice none 0 0]) w := fun w => by simp [Instr.build, run_underlying Try.underlying34, go_sem]
  go_enter Try.func4, Try.ntmps4
  go_wp2_with fail
  refine (HAc.out _ (Ext.refl w) _ rfl).mono ?_
  rintro e w1 ⟨⟨D, v1, rfl, hDl, hO1, hok1, hp⟩, hx1⟩
  have HP : Hid (∀ J, J ∈ D → Plain 8 J) := hp
  have HO1 : Hid (OwnJ w v1 D w1) := hO1
  have HOk : Hid (∀ J, J ∈ D → JOk w1 J) := hok1
  have HDl : Hid (D.length ≤ 40) := hDl
  have HGd : Hid (Good 8 (dend 8 (newS 8) D)) := dend_good (new_good 8) HP.out
  clear HAc hp hO1 hok1 hDl
  go_wp2_with (first | (at_builtin; refine append_moreG w _ rfl (.tmp 19) (.tmp 21) rfl D [bareJ 3 0 0] v1 rfl (HO1.out.grown ((Ext.refl _).alloc _ _)) (by have := HDl.out; omega) (some ⟨w1.heap.size, 0, none⟩) 1 1 rfl rfl (by omega) (bare_els _ _ rfl _ _ _ _) ?_) | go_in)
  intro v3 w3 hO3 hkeep
  have HB : Hid (∀ J, J ∈ D → Byts w3 J.ad J.l J.f ∧ J.l ≤ 9223372036854775807) := fun J hJ => (hkeep J ((HOk.out J hJ).ext ((Ext.refl _).alloc _ _))).fine
  have HO3 : Hid (OwnJ w v3 (D ++ [bareJ 3 0 0]) w3) := hO3
  clear hkeep HO1 HOk hO3 hx1
  go_wp2_with fail
  refine (HAk.out _ HO3.out.ext _ rfl).mono ?_
  rintro e w4 ⟨⟨K, ad, c, rfl, hA⟩, hx4⟩
  have HA : Hid (AJobs w4 (.slice ad q c) q K [1, 2] ad c) := hA
  have HKp : Hid (∀ J, J ∈ K → Plain 8 J ∧ J.k ≠ 3 ∧ J.k ≠ 4) := fun J hJ => by
    have hk := (hA.plain J hJ).1
    simp at hk
    refine ⟨hA.good (by simp) J hJ, by omega, by omega⟩
  clear hA HAk
  have X4 : Hid (Ext w3 w4) := hx4
  have HG3 : Hid (Calls Try.prog 12 #[v3] w4 fun e w' => (∃ v, e = .returned (.tuple #[v, .bool true]) ∧ Rows8 w' v (fun i => has (jobR 8 (dend 8 (newS 8) D) (bareJ 3 0 0)).2 i)) ∧ Ext w4 w') := gets_more (HO3.out.grown hx4) (fun J hJ => ⟨(HB.out J hJ).1.ext hx4, (HB.out J hJ).2⟩) (bare_byts _ _ _ _) HP.out (bare_plain (by omega) (by omega)) (by have := HDl.out; omega)
  clear hx4
  go_wp2_with fail
  refine HG3.out.mono ?_
  rintro e w5 ⟨⟨va, rfl, hRa⟩, hx5⟩
  have HRa : Hid (Rows8 w5 va (fun i => has (jobR 8 (dend 8 (newS 8) D) (bareJ 3 0 0)).2 i)) := hRa
  have X5 : Hid (Ext w4 w5) := hx5
  clear hRa HG3 hx5
  have hJ3 := (HO3.out.grown (X4.out.trans X5.out)).jobs (fun J hJ => by
    rcases List.mem_append.1 hJ with h1 | h1
    · exact ⟨(HB.out J h1).1.ext (X4.out.trans X5.out), (HB.out J h1).2⟩
    · rw [List.mem_singleton.1 h1]; exact bare_byts _ _ _ _)
  obtain ⟨a3, c3, hv3, hJ3⟩ := hJ3
  have HJ3 : Hid (Jobs w5 a3 (D ++ [bareJ 3 0 0])) := hJ3
  obtain ⟨n3, hn3⟩ : ∃ n3 : Nat, n3 = (D ++ [bareJ 3 0 0]).length := ⟨_, rfl⟩
  rw [← hn3] at hv3
  have HN3 : Hid ((D ++ [bareJ 3 0 0]).length = n3) := hn3.symm
  have hn3b : n3 ≤ 41 := by
    have := HDl.out
    rw [hn3, List.length_append]
    show D.length + 1 ≤ 41
    omega
  subst hv3
  obtain ⟨DF, hDF⟩ : ∃ DF, DF = D ++ [bareJ 3 0 0] := ⟨_, rfl⟩
  have HDF : Hid (DF = D ++ [bareJ 3 0 0]) := hDF
  rw [← hDF] at HJ3 HN3
  clear hJ3 hn3 hDF
  go_wp2_with (first | (at_builtin; refine append_copyJ _ rfl (.tmp 32) rfl DF a3 n3 c3 rfl HN3.out (by omega) HJ3.out.1 ?_) | go_in)
  intro v6 w6 hO6
  have HO6 : Hid (OwnJ w5 v6 DF w6) := hO6
  clear hO6
  go_wp2_with (first | (at_builtin; refine append_moreJ w5 _ rfl (.tmp 33) (.tmp 34) rfl DF K v6 rfl HO6.out (by rw [HN3.out]; omega) ad q c rfl HA.out.len (by omega) (HA.out.jobs.ext (X5.out.trans HO6.out.ext)).1 ?_) | go_in)
  intro v7 w7 hO7
  have HO7 : Hid (OwnJ w5 v7 (DF ++ K) w7) := hO7
  have HLK : Hid ((DF ++ K).length ≤ 61) := by
    show _ ≤ _
    rw [List.length_append, HN3.out, HA.out.len]
    omega
  obtain ⟨DK, hDK⟩ : ∃ DK, DK = DF ++ K := ⟨_, rfl⟩
  have HDK : Hid (DK = DF ++ K) := hDK
  rw [← hDK] at HO7 HLK
  clear hO7 hDK
  go_wp2_with (first | (at_builtin; refine append_moreJ w5 _ rfl (.tmp 35) (.tmp 38) rfl DK [bareJ 4 0 a2] v7 rfl (HO7.out.grown ((Ext.refl _).alloc _ _)) (by have := HLK.out; omega) (some ⟨w7.heap.size, 0, none⟩) 1 1 rfl rfl (by omega) (bare_els _ _ rfl _ _ _ _) ?_) | go_in)
  intro v8 w8 hO8
  have x58 := hO8.ext
  obtain ⟨S1, hS1⟩ : ∃ S1, S1 = (jobR 8 (dend 8 (newS 8) D) (bareJ 3 0 0)).2 := ⟨_, rfl⟩
  have hSg : Good 8 S1 ∧ S1.2.1 = [] := by rw [hS1]; exact flush_good HGd.out
  have hDKe : dend 8 (newS 8) DK = dend 8 S1 K := by rw [HDK.out, HDF.out, dend_append, dend_snoc, ← hS1]
  obtain ⟨F2, hF2⟩ : ∃ F2 : Nat → Nat → E, F2 = fun i => has (jobR 8 (dend 8 S1 K) (bareJ 4 0 a2)).2 i := ⟨_, rfl⟩
  have HM : Hid (∀ i, i < 8 → F2 i = has S1 i ∨ ∃ J, J ∈ K ∧ PutAt J i ∧ F2 i = J.f) := fun i hi => by
    rw [hF2]
    exact stays hSg.1 hSg.2 HKp.out a2 hi
  have HG8 : Hid (Calls Try.prog 12 #[v8] w8 fun e w' => (∃ v, e = .returned (.tuple #[v, .bool true]) ∧ Rows8 w' v F2) ∧ Ext w8 w') := by
    have := gets_more hO8 (fun J hJ => by
      rw [HDK.out] at hJ
      rcases List.mem_append.1 hJ with h1 | h1
      · rw [HDF.out] at h1
        rcases List.mem_append.1 h1 with h2 | h2
        · exact ⟨(HB.out J h2).1.ext ((X4.out.trans X5.out).trans x58), (HB.out J h2).2⟩
        · rw [List.mem_singleton.1 h2]; exact bare_byts _ _ _ _
      · exact (HA.out.jobs.ext (X5.out.trans x58)).2 J h1) (bare_byts _ _ _ _) (fun J hJ => by
      rw [HDK.out] at hJ
      rcases List.mem_append.1 hJ with h1 | h1
      · rw [HDF.out] at h1
        rcases List.mem_append.1 h1 with h2 | h2
        · exact HP.out J h2
        · rw [List.mem_singleton.1 h2]; exact bare_plain (by omega) (by omega)
      · exact (HKp.out J h1).1) (bare_plain (by omega) (by omega)) (by have := HLK.out; omega)
    rw [hDKe, ← hF2] at this
    exact this
  rw [← hS1] at HRa
  clear hO8 hS1 hSg hDKe hF2 HO6 HO7
  go_wp2_with fail
  refine HG8.out.mono ?_
  rintro e w9 ⟨⟨vb, rfl, hRb⟩, hx9⟩
  have X9 : Hid (Ext w5 w9) := x58.trans hx9
  obtain ⟨aA, cA, hva, hA8⟩ := HRa.out.ext X9.out
  obtain ⟨aB, cB, hvb, hB8⟩ := hRb
  have HA8 : Hid (∀ i, i < 8 → ∃ b o ad k, aA = some ⟨b, o, none⟩ ∧ w9.cell? ⟨b, o + i, none⟩ = some (.slice ad 128 k) ∧ Byts w9 ad 128 (has S1 i)) := hA8
  have HB8 : Hid (∀ i, i < 8 → ∃ b o ad k, aB = some ⟨b, o, none⟩ ∧ w9.cell? ⟨b, o + i, none⟩ = some (.slice ad 128 k) ∧ Byts w9 ad 128 (F2 i)) := hB8
  have HKa : Hid (Jobs w9 ad K) := HA.out.jobs.ext (X5.out.trans X9.out)
  have HKl : Hid (K.length = q) := HA.out.len
  have HK1 : Hid (∀ J, J ∈ K → J.k = 1 → J.l = 128) := fun J hJ h => (HA.out.plain J hJ).2.2.2 (Or.inl h)
  have X10 : Hid (Ext w w9) := (HO3.out.ext.trans X4.out).trans (X5.out.trans X9.out)
  subst hva
  subst hvb
  clear hA8 hB8 HG8 hx9 x58 hb1 hb2
  go_wp2_with fail
  go_loopw [13] (fun i wr => ∃ i' : Nat, i' ≤ 8 ∧ i = .int .i64 i' ∧ Ext w9 wr) (fun i _ => 8 - (intOf i).toNat)
  case atStart => exact ⟨0, by omega, rfl, Ext.refl _⟩
  case round =>
    obtain ⟨i, hi, rfl, hx⟩ := hrel
    by_cases hi8 : i < 8
    · obtain ⟨bA, oA, adA, kA, rfl, hcA, hbA⟩ := HA8.out i hi8
      obtain ⟨bB, oB, adB, kB, rfl, hcB, hbB⟩ := HB8.out i hi8
      have HbA : Hid (Byts wr adA 128 (has S1 i)) := hbA.ext hx
      have HbB : Hid (Byts wr adB 128 (F2 i)) := hbB.ext hx
      have HcA : Hid (wr.cell? ⟨bA, oA + i, none⟩ = some (.slice adA 128 kA)) := hx.keeps hcA
      have HcB : Hid (wr.cell? ⟨bB, oB + i, none⟩ = some (.slice adB 128 kB)) := hx.keeps hcB
      have gA := fun x : Gr wr => x.ext.keeps HcA.out
      have gB := fun x : Gr wr => x.ext.keeps HcB.out
      have i8 : (i : Int) < 8 := by omega
      clear hbA hbB hcA hcB
      go_wp2_with fail
      refine wp_region_grows 9 (by kernel_rfl) (by kernel_rfl) (fun hne => ?_)
      simp only [List.take_succ_cons, List.take_zero, List.drop_succ_cons, List.drop_zero]
      repeat (go_big_quiet_step (first | (go_at_call 13; exact Calls.grown (sameD_any adA adB kA kB (has S1 i) (F2 i) _ (HbA.out.ext (Gr.ext _)) (HbB.out.ext (Gr.ext _))))))
      refine wpQuiet_nil ?_
      intro w4 hw4
      obtain ⟨u, rfl⟩ := hw4
      have Hx : Hid (Ext wr u.w') := u.ext
      have Hxr : Hid (Ext w9 wr) := hx
      clear gA gB hx
      go_wp2_with fail
      go_loopw [14, 15, 16] (fun p h k wq => ∃ (kk : Nat) (pb hb : Bool), kk ≤ q ∧ k = .int .i64 kk ∧ p = .bool pb ∧ h = .bool hb ∧ Hid (pb = false → ∀ (j : Nat) (J : Jb), j < kk → K[j]? = some J → ¬ PutAt J i) ∧ Hid ((sameD (has S1 i) (F2 i) = true ∨ ∃ (j : Nat) (J : Jb), j < kk ∧ K[j]? = some J ∧ PutAt J i ∧ sameD J.f (F2 i) = true) → hb = true) ∧ Ext wr wq) (fun _ _ k _ => q - (intOf k).toNat)
      case atStart => exact ⟨0, false, _, Nat.zero_le _, rfl, rfl, rfl, fun _ j J h => absurd h (Nat.not_lt_zero j), fun h => by
        rcases h with h | ⟨j, J, h, _⟩
        · exact h
        · exact absurd h (Nat.not_lt_zero j), Hx.out⟩
      case round =>
        obtain ⟨kk, pb, hb, hkk, rfl, rfl, rfl, HI1, HI2, hxq⟩ := hrel
        have HcB' := (HcB.out)
        by_cases hlt : kk < q
        · obtain ⟨J, hJ⟩ : ∃ J, K[kk]? = some J := ⟨_, List.getElem?_eq_getElem (by rw [HKl.out]; exact hlt)⟩
          have hJm : J ∈ K := List.mem_of_getElem? hJ
          have HJ : Hid (K[kk]? = some J) := hJ
          have hj5 := HKa.out.ext (Hxr.out.trans hxq)
          obtain ⟨b, o, hbo, hc0, hc1, _, hc3⟩ := jobs_at hj5 hJ
          have HJf0 : Hid (Byts wr J.ad J.l J.f) := (hj5.2 J hJm).1
          have HL : Hid (J.k = 1 → J.l = 128) := HK1.out J hJm
          subst hbo
          clear hj5 hJ hJm HcB'
          obtain ⟨jk, ja, kp, jd, jl, jc, jf⟩ := J
          simp only at hc0 hc1 hc3
          have i1 : (kk : Int) < (q : Int) := by omega
          have hcB := hxq.keeps HcB.out
          have gB := fun x : Gr wr => x.ext.keeps hcB
          have g3 := fun x : Gr wr => x.ext.keeps hc3
          by_cases e1 : jk = 1
          · subst e1
            have hl : jl = 128 := HL.out rfl
            subst hl
            have HJf : Hid (Byts wr jd 128 jf) := HJf0.out
            by_cases e2 : ja = (i : Int)
            · subst e2
              have q2 : ((i : Int) == (i : Int)) = true := by simp
              cases hb with
              | true =>
                go_wp2_with fail
                refine wp_region_grows 13 (by kernel_rfl) (by kernel_rfl) (fun hne => ?_)
                simp only [List.take_succ_cons, List.take_zero, List.drop_succ_cons, List.drop_zero]
                repeat (go_big_quiet_step (fail))
                refine wpQuiet_nil ?_
                intro w5 hw5
                obtain ⟨u5, rfl⟩ := hw5
                go_wp2_with fail
                go_roundw
                case rel =>
                  refine ⟨kk + 1, true, true, by omega, by go_num, rfl, rfl, (fun h => by cases h), fun _ => rfl, hxq.trans u5.ext⟩
                case measure => simp [intOf]; omega
              | false =>
                go_wp2_with fail
                refine wp_region_grows 13 (by kernel_rfl) (by kernel_rfl) (fun hne => ?_)
                simp only [List.take_succ_cons, List.take_zero, List.drop_succ_cons, List.drop_zero]
                repeat (go_big_quiet_step (first | (go_at_call 13; exact Calls.grown (sameD_any jd adB jc kB jf (F2 i) _ (HJf.out.ext (Gr.ext _)) ((HbB.out.ext hxq).ext (Gr.ext _))))))
                refine wpQuiet_nil ?_
                intro w5 hw5
                obtain ⟨u5, rfl⟩ := hw5
                go_wp2_with fail
                go_roundw
                case rel =>
                  refine ⟨kk + 1, true, sameD jf (F2 i), by omega, by go_num, rfl, rfl, (fun h => by cases h), ?_, hxq.trans u5.ext⟩
                  rintro (h | ⟨j, J', h1, h2, h3, h4⟩)
                  · exact absurd (HI2.out (Or.inl h)) (by simp)
                  · by_cases e : j = kk
                    · subst e
                      rw [HJ.out] at h2
                      cases h2
                      exact h4
                    · exact absurd (HI2.out (Or.inr ⟨j, J', by omega, h2, h3, h4⟩)) (by simp)
                case measure => simp [intOf]; omega
            · have q2 : (ja == (i : Int)) = false := by rw [beq_eq_false_iff_ne]; exact e2
              have HN : Hid (∀ J' : Jb, K[kk]? = some J' → ¬ PutAt J' i) := fun J' h1 h2 => by
                rw [HJ.out] at h1
                cases h1
                exact e2 h2.2
              clear gB g3
              go_wp2_with fail
              go_roundw
              case rel =>
                refine ⟨kk + 1, pb, hb, by omega, by go_num, rfl, rfl, fun h j J' h1 h2 => ?_, fun h => HI2.out ?_, hxq⟩
                · by_cases e : j = kk
                  · subst e
                    exact HN.out J' h2
                  · exact HI1.out h j J' (by omega) h2
                · rcases h with h | ⟨j, J', h1, h2, h3, h4⟩
                  · exact Or.inl h
                  · by_cases e : j = kk
                    · subst e
                      exact absurd h3 (HN.out J' h2)
                    · exact Or.inr ⟨j, J', by omega, h2, h3, h4⟩
              case measure => simp [intOf]; omega
          · have q2 : (jk == 1) = false := by rw [beq_eq_false_iff_ne]; exact e1
            have HN : Hid (∀ J' : Jb, K[kk]? = some J' → ¬ PutAt J' i) := fun J' h1 h2 => by
              rw [HJ.out] at h1
              cases h1
              exact e1 h2.1
            clear gB g3
            go_wp2_with fail
            go_roundw
            case rel =>
              refine ⟨kk + 1, pb, hb, by omega, by go_num, rfl, rfl, fun h j J' h1 h2 => ?_, fun h => HI2.out ?_, hxq⟩
              · by_cases e : j = kk
                · subst e
                  exact HN.out J' h2
                · exact HI1.out h j J' (by omega) h2
              · rcases h with h | ⟨j, J', h1, h2, h3, h4⟩
                · exact Or.inl h
                · by_cases e : j = kk
                  · subst e
                    exact absurd h3 (HN.out J' h2)
                  · exact Or.inr ⟨j, J', by omega, h2, h3, h4⟩
            case measure => simp [intOf]; omega
        · obtain rfl : kk = q := by omega
          have hM := HM.out i hi8
          have hh : hb = true := HI2.out (by
            rcases hM with h | ⟨J, h1, h2, h3⟩
            · exact Or.inl (by rw [h]; exact sameD_self _)
            · obtain ⟨j, hj⟩ := List.getElem?_of_mem h1
              exact Or.inr ⟨j, J, by have := lt_of_get hj; rw [HKl.out] at this; exact this, hj, h2, by rw [h3]; exact sameD_self _⟩)
          subst hh
          have hcB := hxq.keeps HcB.out
          have hcA := hxq.keeps HcA.out
          have gB := fun x : Gr wr => x.ext.keeps hcB
          have gA := fun x : Gr wr => x.ext.keeps hcA
          have HbA2 : Hid (Byts wr adA 128 (has S1 i)) := HbA.out.ext hxq
          have HbB2 : Hid (Byts wr adB 128 (F2 i)) := HbB.out.ext hxq
          cases pb with
          | true =>
            go_wp2_with fail
            refine wp_region_grows 17 (by kernel_rfl) (by kernel_rfl) (fun hne => ?_)
            simp only [List.take_succ_cons, List.take_zero, List.drop_succ_cons, List.drop_zero]
            repeat (go_big_quiet_step (fail))
            refine wpQuiet_nil ?_
            intro w5 hw5
            obtain ⟨u5, rfl⟩ := hw5
            clear gA gB
            go_wp2_with fail
            go_roundw
            case rel => exact ⟨i + 1, by omega, by go_num, (Hxr.out.trans hxq).trans u5.ext⟩
            case measure => simp [intOf]; omega
          | false =>
            have heq : F2 i = has S1 i := by
              rcases hM with h | ⟨J, h1, h2, _⟩
              · exact h
              · obtain ⟨j, hj⟩ := List.getElem?_of_mem h1
                exact absurd h2 (HI1.out rfl j J (by have := lt_of_get hj; rw [HKl.out] at this; exact this) hj)
            have HQ : Hid (∀ u : Gr wr, Calls Try.prog 13 #[.slice adA 128 kA, .slice adB 128 kB] u.w' fun e w'' => e = .returned (.bool true) ∧ Ext u.w' w'') := fun u => by
              have := sameD_any adA adB kA kB (has S1 i) (F2 i) u.w' (HbA2.out.ext u.ext) (HbB2.out.ext u.ext)
              rw [heq, sameD_self] at this
              exact this
            go_wp2_with fail
            refine wp_region_grows 17 (by kernel_rfl) (by kernel_rfl) (fun hne => ?_)
            simp only [List.take_succ_cons, List.take_zero, List.drop_succ_cons, List.drop_zero]
            repeat (go_big_quiet_step (first | (go_at_call 13; exact Calls.grown (HQ.out _))))
            refine wpQuiet_nil ?_
            intro w5 hw5
            obtain ⟨u5, rfl⟩ := hw5
            clear gA gB
            go_wp2_with fail
            go_roundw
            case rel => exact ⟨i + 1, by omega, by go_num, (Hxr.out.trans hxq).trans u5.ext⟩
            case measure => simp [intOf]; omega
    · obtain rfl : i = 8 := by omega
      go_wp2_with fail
      go_ret
      exact ⟨rfl, X10.out.trans hx⟩
end Go.Proofs.Ytgboboojjboocaa.driveStays
