/-
  A sector has what was put there last, flushed or not; no condition.
-/
import Derived.Test.YtgboboojjboocaaRows
import Derived.WalkKit
import Derived.ProofKit
import Derived.OpenShut
import Derived.ChangeOld
import Derived.Below
import Derived.BigQuiet
import Derived.Deep.CutRange
import Derived.Deep.QuietTactic
import Derived.Deep.RegionLaw
import Derived.Test.YtgboboojjboocaaOpn
import Derived.Test.YtgboboojjboocaaChecked
import Derived.Test.YtgboboojjboocaaFlat
import Derived.Test.YtgboboojjboocaaDrKeep
import Derived.Test.YtgboboojjboocaaKeepPick
import Derived.Test.YtgboboojjboocaaMk
namespace Go.Proofs.Ytgboboojjboocaa.driveLast
open Go.ChangeShapes Go.WideShapes Go.ChangeAt Go.RowKit Go.Deep E
set_option linter.unusedVariables false

set_option maxRecDepth 100000 in
set_option maxHeartbeats 40000000 in
theorem walk (a0 : Option Addr) (n0 c0 : Nat) (F0 : Nat → Nat → Int) (a1 : Int) (w : World) (h0 : Flt w a0 n0 4 F0) (b0 : ∀ r k, r < n0 → k < 4 → I64 (F0 r k)) (k0 : n0 ≤ c0 ∧ c0 ≤ 9223372036854775807) (w1 : -9223372036854775808 ≤ a1 ∧ a1 ≤ 9223372036854775807) :
    Calls Try.prog 6 #[.slice a0 n0 c0, .int .i64 a1] w fun e w' => e = .returned (.bool true) ∧ Ext w w' := by
  obtain ⟨K, hK, hK1⟩ := picked_is a1 8 (by omega)
  have HPk : Hid (∀ w, Calls Try.prog 15 #[.int .i64 a1, .int .i64 8] w fun e w' => e = .returned (.int .i64 K) ∧ w' = w) := fun w => Picked_bd a1 8 K w (by omega) (by omega) (by omega) hK
  have HAc : Hid (∀ w', Ext w w' → ∀ g, g = w'.heap.size → Calls Try.prog 11 #[.slice a0 n0 c0, .int .i64 60, .slice (some ⟨g, 0, none⟩) 3 3] (w'.alloc (.cells #[.int .i64 1, .int .i64 3, .int .i64 2] 3)) fun e w2 => (∃ D ad c, e = .returned (.slice ad (min n0 60) c) ∧ AJobs w2 (.slice ad (min n0 60) c) (min n0 60) D [1, 3, 2] ad c) ∧ Ext w' w2) := fun w' x g hg => by
    refine (Acts_any a0 n0 c0 (actL n0 F0) 60 (some ⟨g, 0, none⟩) 3 3 _ _ (actL_len _ _) (by omega) ((act_els h0).ext (x.alloc _ _)) (act_bd b0) (by omega) (by omega) (ints3 w' 1 3 2 3 g hg)).mono ?_
    rintro e w2 ⟨D, v, rfl, hDl, hD⟩
    rw [actL_len] at hDl hD
    obtain ⟨ad, c, hA⟩ := hD.made (by rw [actL_len]; omega) (by omega) (ks := [1, 3, 2]) (fun i hi => by
      match i, hi with
      | 0, _ => simp
      | 1, _ => simp
      | 2, _ => simp)
    have hv := hA.val
    subst hv
    exact ⟨⟨D, ad, c, rfl, hA⟩, ((Ext.refl w').alloc _ _).trans hD.ext⟩
  have hmk : ∀ w, (Instr.makeSlice 32 (.int .i64 128) (.int .i64 128)).run Try.prog w = .ok (.slice (some ⟨w.heap.size, 0, none⟩) 128 128) (w.alloc (.cells (madeCells #[.int .u8 0] 128) 5)) := fun w => make_bytes 128 (by omega) w
  obtain ⟨q, hq⟩ : ∃ q : Nat, q = min n0 60 := ⟨_, rfl⟩
  have hq60 : q ≤ 60 := by omega
  rw [← hq] at HAc
  clear h0 hK hq
  go_enter Try.func6, Try.ntmps6
  go_wp2_with fail
  refine (HAc.out _ (Ext.refl w) _ rfl).mono ?_
  rintro e w1 ⟨⟨D, ad, c, rfl, hA⟩, hx1⟩
  have HA : Hid (AJobs w1 (.slice ad q c) q D [1, 3, 2] ad c) := hA
  have HG := gets_any ad q c D w1 hA.len (by omega) hA.jobs (hA.good (by simp))
  have HGt : Hid (Calls Try.prog 12 #[.slice ad q c] w1 fun e w' => (∃ v, e = .returned (.tuple #[v, .bool true]) ∧ Rows8 w' v (fun i => has (dend 8 (newS 8) D) i)) ∧ Ext w1 w') := HG
  clear HG hA HAc
  go_wp2_with fail
  refine HGt.out.mono ?_
  rintro e w2 ⟨⟨v2, rfl, hR⟩, hx2⟩
  clear HGt
  obtain ⟨ao, co, rfl, hRr⟩ := hR
  have HR : Hid (∀ i, i < 8 → ∃ b o ad k, ao = some ⟨b, o, none⟩ ∧ w2.cell? ⟨b, o + i, none⟩ = some (.slice ad 128 k) ∧ Byts w2 ad 128 (has (dend 8 (newS 8) D) i)) := hRr
  clear hRr
  go_wp2_with fail
  refine (HPk.out _).mono ?_
  rintro e w3 ⟨rfl, rfl⟩
  clear HPk
  have HZ : Hid (Byts (w3.alloc (.cells (madeCells #[.int .u8 0] 128) 5)) (some ⟨w3.heap.size, 0, none⟩) 128 (has (dend 8 (newS 8) (D.take 0)) K)) := by
    show Byts _ _ _ _
    rw [List.take_zero]
    show Byts _ _ _ (has (newS 8) K)
    rw [new_has]
    exact Byts.row (f := fun _ => ze) ((World.rowIs_made w3 (.int .u8 0) 128 5).congr fun i _ => rfl) (Nat.le_refl _)
  go_wp2_with fail
  go_loopw [9, 10] (fun v i wr => ∃ (k : Nat) (wa : Option Addr) (wc : Nat), k ≤ q ∧ i = .int .i64 k ∧ v = .slice wa 128 wc ∧ Hid (Byts wr wa 128 (has (dend 8 (newS 8) (D.take k)) K)) ∧ Ext w3 wr) (fun _ i _ => q - (intOf i).toNat)
  case atStart => exact ⟨0, _, _, Nat.zero_le _, rfl, rfl, HZ.out, (Ext.refl _).alloc _ _⟩
  case round =>
    clear HZ hmk
    obtain ⟨k, wa, wc, hk, rfl, rfl, HB, hx⟩ := hrel
    by_cases hlt : k < q
    · obtain ⟨J, hJ⟩ : ∃ J, D[k]? = some J := ⟨_, List.getElem?_eq_getElem (by rw [HA.out.len]; exact hlt)⟩
      have hJm : J ∈ D := List.mem_of_getElem? hJ
      have hpl := HA.out.good (by simp) J hJm
      have hgd : Good 8 (dend 8 (newS 8) (D.take k)) := dend_good (new_good 8) fun M hM => HA.out.good (by simp) M (List.mem_of_mem_take hM)
      have hk4 : J.k ≠ 4 := fun h => by
        have := (HA.out.plain J hJm).1
        rw [h] at this
        simp at this
      have HS : Hid (has (dend 8 (newS 8) (D.take (k + 1))) K = if J.k = 1 ∧ J.at' = (K : Int) then J.f else has (dend 8 (newS 8) (D.take k)) K) := by
        show _ = _
        rw [take_snoc hJ, dend_snoc, job_has hgd hpl hk4 (by omega)]
      have hj5 := HA.out.jobs.ext (hx2.trans hx)
      obtain ⟨b, o, rfl, hc0, hc1, hc2, hc3⟩ := jobs_at hj5 hJ
      have HD : Hid (Byts wr J.ad J.l J.f) := (hj5.2 J hJm).1
      have HL : Hid (J.k = 1 → J.l = 128) := fun h => (HA.out.plain J hJm).2.2.2 (Or.inl h)
      clear hj5 hgd hpl hJ hJm hc2
      obtain ⟨jk, ja, kp, jd, jl, jc, jf⟩ := J
      simp only at hk4 hc0 hc1 hc3
      have i1 : (k : Int) < (q : Int) := by omega
      by_cases e1 : jk = 1
      · subst e1
        have hl : jl = 128 := HL.out rfl
        subst hl
        by_cases e2 : ja = (K : Int)
        · subst e2
          have HB2 : Hid (Byts wr jd 128 (has (dend 8 (newS 8) (D.take (k + 1))) K)) := by
            show Byts _ _ _ _
            rw [HS.out, if_pos ⟨rfl, rfl⟩]
            exact HD.out
          have q2 : ((K : Int) == (K : Int)) = true := by simp
          go_wp2_with fail
          go_roundw
          case rel => exact ⟨k + 1, jd, jc, by omega, by go_num, rfl, HB2.out, hx⟩
          case measure => simp [intOf]; omega
        · have HB2 : Hid (Byts wr wa 128 (has (dend 8 (newS 8) (D.take (k + 1))) K)) := by
            show Byts _ _ _ _
            rw [HS.out, if_neg (fun h => e2 h.2)]
            exact HB.out
          have q2 : (ja == (K : Int)) = false := by rw [beq_eq_false_iff_ne]; exact e2
          go_wp2_with fail
          go_roundw
          case rel => exact ⟨k + 1, wa, wc, by omega, by go_num, rfl, HB2.out, hx⟩
          case measure => simp [intOf]; omega
      · have HB2 : Hid (Byts wr wa 128 (has (dend 8 (newS 8) (D.take (k + 1))) K)) := by
          show Byts _ _ _ _
          rw [HS.out, if_neg (fun h => e1 h.1)]
          exact HB.out
        have q2 : (jk == 1) = false := by rw [beq_eq_false_iff_ne]; exact e1
        go_wp2_with fail
        go_roundw
        case rel => exact ⟨k + 1, wa, wc, by omega, by go_num, rfl, HB2.out, hx⟩
        case measure => simp [intOf]; omega
    · obtain rfl : k = q := by omega
      have hB := HB.out
      rw [List.take_of_length_le (by rw [HA.out.len]; omega)] at hB
      obtain ⟨b, o, ar, kr, rfl, hcr, hBr⟩ := HR.out K (by omega)
      replace hcr := hx.keeps hcr
      have hsb := sameBytesK_any ar wa 128 kr wc _ _ wr (by omega) (hBr.ext hx) hB (fun i _ => rfl)
      have HSb : Hid (Calls Try.prog 13 #[.slice ar 128 kr, .slice wa 128 wc] wr fun e w' => e = .returned (.bool true) ∧ Ext wr w') := hsb
      have i8 : (K : Int) < 8 := by omega
      clear hB hBr hsb hlt hk
      go_wp2_with fail
      refine HSb.out.mono ?_
      rintro e w5 ⟨rfl, hx5⟩
      go_wp2_with fail
      go_ret
      exact ⟨rfl, ((hx1.trans hx2).trans hx).trans hx5⟩
end Go.Proofs.Ytgboboojjboocaa.driveLast
