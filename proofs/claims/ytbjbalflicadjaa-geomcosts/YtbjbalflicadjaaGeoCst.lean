/-
  The document's GeomCost: rows are counted off.
-/
import Derived.Test.YtbjbalflicadjaaChecked
import Derived.WalkKit
import Derived.BigQuiet
import Derived.Test.YtbjbalflicadjaaGeoFn
namespace Go.Proofs.Ytbjbalflicadjaa
open Go.RowKit
set_option maxRecDepth 100000 in
set_option maxHeartbeats 1600000 in
theorem GeomCost_any (d p c : Int) (w : World) : Calls Try.prog 10 #[.int .i64 d, .int .i64 p, .int .i64 c] w fun e w' => e = .returned (.tuple #[.int .i64 (costV d p c), .int .i64 (costE d p c)]) ∧ Ext w w' := by
  have H1 := badShape_any d p w
  cases h1 : (okD d && okPar d p) with
  | false =>
    have HV : Hid (costV d p c = 0 ∧ costE d p c = 2) := by show _ ∧ _; simp [costV, costE, h1]
    rw [h1] at H1
    go_enter Try.func10, Try.ntmps10
    go_wp2_with fail
    refine H1.mono ?_
    rintro e w1 ⟨rfl, rfl⟩
    go_wp2_with fail
    go_ret2
    exact ⟨ret_two HV.out.1.symm HV.out.2.symm, Ext.refl _⟩
  | true =>
    rw [h1] at H1
    by_cases h2 : c < 1
    · have HV : Hid (costV d p c = 0 ∧ costE d p c = 2) := by
        have : okCnt c = false := by unfold okCnt; simp; omega
        show _ ∧ _; simp [costV, costE, this]
      go_enter Try.func10, Try.ntmps10
      go_wp2_with fail
      refine H1.mono ?_
      rintro e w1 ⟨rfl, rfl⟩
      go_wp2_with fail
      go_ret2
      exact ⟨ret_two HV.out.1.symm HV.out.2.symm, Ext.refl _⟩
    by_cases h3 : 32 < c
    · have HV : Hid (costV d p c = 0 ∧ costE d p c = 2) := by
        have : okCnt c = false := by unfold okCnt; simp; omega
        show _ ∧ _; simp [costV, costE, this]
      go_enter Try.func10, Try.ntmps10
      go_wp2_with fail
      refine H1.mono ?_
      rintro e w1 ⟨rfl, rfl⟩
      go_wp2_with fail
      go_ret2
      exact ⟨ret_two HV.out.1.symm HV.out.2.symm, Ext.refl _⟩
    · have h4 : okCnt c = true := by rw [okCnt_iff]; omega
      have h5 : okD d = true ∧ okPar d p = true := by simpa using h1
      have hd := (okD_iff d).1 h5.1
      have hp := (okPar_iff d p).1 h5.2
      have HV : Hid (costV d p c = (costN d.toNat p.toNat c.toNat : Nat) ∧ costE d p c = 0) := by show _ ∧ _; simp [costV, costE, h1, h4]
      clear h1 h4 h5
      obtain ⟨x, rfl⟩ := Int.eq_ofNat_of_zero_le (show 0 ≤ d by omega)
      obtain ⟨y, rfl⟩ := Int.eq_ofNat_of_zero_le (show 0 ≤ p by omega)
      obtain ⟨z, rfl⟩ := Int.eq_ofNat_of_zero_le (show 0 ≤ c by omega)
      go_enter Try.func10, Try.ntmps10
      go_wp2_with fail
      refine H1.mono ?_
      rintro e w1 ⟨rfl, rfl⟩
      clear H1
      go_wp2_with fail
      go_loopw [8, 9] (fun n l wr => ∃ k K PK : Nat, Hid (K = k * (x - y) ∧ PK = y * k) ∧ n = .int .i64 ((PK : Int) + (min z K : Nat)) ∧ l = .int .i64 ((z : Int) - (K : Int)) ∧ K < z + (x - y) ∧ k ≤ K ∧ PK ≤ 120 ∧ Ext w1 wr) (fun _ l _ => (intOf l).toNat)
      case atStart => exact ⟨0, 0, 0, ⟨by omega, by omega⟩, by simp, by simp, by omega, by omega, by omega, Ext.refl _⟩
      case round =>
        obtain ⟨k, K, PK, HK, rfl, rfl, hK, hkK, hPK, hx⟩ := hrel
        have hm1 : min z K ≤ z := Nat.min_le_left _ _
        by_cases hlt : K < z
        · have HK2 : Hid (K + (x - y) = (k + 1) * (x - y) ∧ PK + y = y * (k + 1)) := by
            refine ⟨?_, ?_⟩
            · rw [HK.out.1, Nat.add_mul, Nat.one_mul]
            · rw [HK.out.2, Nat.mul_add, Nat.mul_one]
          have hb : PK + y ≤ 120 := by
            rw [HK2.out.2]
            exact Nat.le_trans (Nat.mul_le_mul (show y ≤ 3 by omega) (show k + 1 ≤ 40 by omega)) (by omega)
          have hmn : min z K = K := by omega
          rw [hmn]
          by_cases hle : z - K ≤ x - y
          · have hmi : min ((z : Int) - (K : Int)) ((x : Int) - (y : Int)) = (z : Int) - (K : Int) := by omega
            have hgo : (z : Int) - (K : Int) ≤ (x : Int) - (y : Int) := by omega
            go_wp2_with fail
            go_roundw
            case rel => exact ⟨k + 1, K + (x - y), PK + y, HK2, by go_num, by go_num, by omega, by omega, hb, hx⟩
            case measure => simp [intOf]; omega
          · have hmi : min ((z : Int) - (K : Int)) ((x : Int) - (y : Int)) = (x : Int) - (y : Int) := by omega
            have hgo : ¬ (z : Int) - (K : Int) ≤ (x : Int) - (y : Int) := by omega
            go_wp2_with fail
            go_roundw
            case rel => exact ⟨k + 1, K + (x - y), PK + y, HK2, by go_num, by go_num, by omega, by omega, hb, hx⟩
            case measure => simp [intOf]; omega
        · have hmn : min z K = z := by omega
          rw [hmn]
          have hk : prt z (x - y) = k := prt_uniq _ _ _ (by rw [← HK.out.1]; omega) (by rw [← HK.out.1]; omega)
          obtain ⟨T, hT⟩ : ∃ T : Nat, T = z + y * prt z (x - y) := ⟨_, rfl⟩
          have hT2 : PK + z = T := by rw [hT, hk, HK.out.2]; omega
          have hN : costN x y z = prt T (y + 1) * (y + 1) := by rw [hT]; rfl
          have hU := prt_lt T (y + 1) (by omega)
          obtain ⟨U, hU0⟩ : ∃ U : Nat, U = prt T (y + 1) * (y + 1) := ⟨_, rfl⟩
          rw [← hU0] at hU hN
          have HU : Hid (U = prt T (y + 1) * (y + 1)) := hU0
          have HN : Hid (costN x y z = U) := hN
          clear hT hN hU0 hk hmn hm1 HK
          rw [show (PK : Int) + (z : Int) = (T : Int) by omega]
          go_wp2_with fail
          go_loopw [8] (fun n wr => ∃ q : Nat, n = .int .i64 q ∧ T ≤ q ∧ q ≤ U ∧ Ext w1 wr) (fun n _ => U - (intOf n).toNat)
          case atStart => exact ⟨T, rfl, Nat.le_refl _, hU.1, hx⟩
          case round =>
            obtain ⟨q, rfl, hq1, hq2, hx2⟩ := hrel
            have hz : ((y : Int) + 1 == 0) = false := by rw [beq_eq_false_iff_ne]; omega
            have hr : (q : Int).tmod ((y : Int) + 1) = (q % (y + 1) : Nat) := by
              rw [Int.tmod_eq_emod_of_nonneg (by omega)]
              rfl
            have hr2 := Nat.mod_lt q (show 0 < y + 1 by omega)
            have HM := Nat.div_add_mod q (y + 1)
            have HM2 : Hid ((y + 1) * (q / (y + 1)) + q % (y + 1) = q) := HM
            clear HM
            have HR : Hid (q = U → q % (y + 1) = 0) := fun h => by rw [h, HU.out, Nat.mul_mod_left]
            generalize q % (y + 1) = r at *
            by_cases hr0 : r = 0
            · subst hr0
              have hqU : q = U := by
                have h1 := HM2.out
                rw [Nat.add_zero, Nat.mul_comm] at h1
                have h2 : prt T (y + 1) = q / (y + 1) := prt_uniq _ _ _ (by omega) (by omega)
                rw [HU.out, h2, h1]
              clear HR HM2
              have hr' : (q : Int).tmod ((y : Int) + 1) = 0 := hr
              clear hr
              have HQ : Hid (q = U) := hqU
              have hbq : ((q : Int) % ((y : Int) + 1) != 0) = false := by rw [← Int.tmod_eq_emod_of_nonneg (by omega), hr']; rfl
              clear hqU
              go_wp2_with fail
              go_ret2
              exact ⟨ret_two (by rw [HV.out.1, Int.toNat_natCast, Int.toNat_natCast, Int.toNat_natCast, HN.out, HQ.out]) HV.out.2.symm, hx2⟩
            · have hne : q ≠ U := fun h => hr0 (HR.out h)
              have hb : ((r : Int) != 0) = true := by rw [bne_iff_ne]; omega
              go_wp2_with fail
              go_roundw
              case rel => exact ⟨q + 1, by go_num, by omega, by omega, hx2⟩
              case measure => simp [intOf]; omega
end Go.Proofs.Ytbjbalflicadjaa
