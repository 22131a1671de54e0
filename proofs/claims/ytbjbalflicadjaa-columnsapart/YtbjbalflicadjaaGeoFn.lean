/-
  The functions of geom that call few others, and the document's.
-/
import Derived.Test.YtbjbalflicadjaaChecked
import Derived.WalkKit
import Derived.BigQuiet
import Derived.OwnWalk
import Derived.Test.YtbjbalflicadjaaMm
import Derived.Test.YtbjbalflicadjaaGeoMath
namespace Go.Proofs.Ytbjbalflicadjaa
open Go.RowKit
theorem ret_boolG {a b : Bool} (h : a = b) : Ending.returned (.bool a) = .returned (.bool b) := by rw [h]
theorem ret_intG {a b : Int} (h : a = b) : Ending.returned (.int .i64 a) = .returned (.int .i64 b) := by rw [h]
theorem ret_two {a b c d : Int} (h : a = b) (k : c = d) : Ending.returned (.tuple #[.int .i64 a, .int .i64 c]) = .returned (.tuple #[.int .i64 b, .int .i64 d]) := by rw [h, k]
theorem ret_three {a b c d x y : Int} (h : a = b) (k : c = d) (l : x = y) : Ending.returned (.tuple #[.int .i64 a, .int .i64 c, .int .i64 x]) = .returned (.tuple #[.int .i64 b, .int .i64 d, .int .i64 y]) := by rw [h, k, l]
set_option maxRecDepth 100000 in
theorem geoDrives_any (d : Int) (w : World) : Calls Try.prog 18 #[.int .i64 d] w fun e w' => e = .returned (.bool (okD d)) ∧ w' = w := by
  by_cases h1 : 2 ≤ d
  · by_cases h2 : d ≤ 8
    · go_enter Try.func18, Try.ntmps18
      go_wp2_with fail
      go_ret
      exact ⟨ret_boolG (by unfold okD; simp; omega), rfl⟩
    · go_enter Try.func18, Try.ntmps18
      go_wp2_with fail
      go_ret
      exact ⟨ret_boolG (by unfold okD; simp; omega), rfl⟩
  · go_enter Try.func18, Try.ntmps18
    go_wp2_with fail
    go_ret
    exact ⟨ret_boolG (by unfold okD; simp; omega), rfl⟩
set_option maxRecDepth 100000 in
theorem geoParity_any (d p : Int) (w : World) : Calls Try.prog 19 #[.int .i64 d, .int .i64 p] w fun e w' => e = .returned (.bool (okPar d p)) ∧ w' = w := by
  by_cases h1 : 1 ≤ p
  · by_cases h2 : p ≤ 3
    · by_cases h3 : p < d
      · go_enter Try.func19, Try.ntmps19
        go_wp2_with fail
        go_ret
        exact ⟨ret_boolG (by unfold okPar; simp; omega), rfl⟩
      · go_enter Try.func19, Try.ntmps19
        go_wp2_with fail
        go_ret
        exact ⟨ret_boolG (by unfold okPar; simp; omega), rfl⟩
    · go_enter Try.func19, Try.ntmps19
      go_wp2_with fail
      go_ret
      exact ⟨ret_boolG (by unfold okPar; simp; omega), rfl⟩
  · go_enter Try.func19, Try.ntmps19
    go_wp2_with fail
    go_ret
    exact ⟨ret_boolG (by unfold okPar; simp; omega), rfl⟩
set_option maxRecDepth 100000 in
theorem geoCount_any (d : Int) (w : World) : Calls Try.prog 20 #[.int .i64 d] w fun e w' => e = .returned (.bool (okCnt d)) ∧ w' = w := by
  by_cases h1 : 1 ≤ d
  · by_cases h2 : d ≤ 32
    · go_enter Try.func20, Try.ntmps20
      go_wp2_with fail
      go_ret
      exact ⟨ret_boolG (by unfold okCnt; simp; omega), rfl⟩
    · go_enter Try.func20, Try.ntmps20
      go_wp2_with fail
      go_ret
      exact ⟨ret_boolG (by unfold okCnt; simp; omega), rfl⟩
  · go_enter Try.func20, Try.ntmps20
    go_wp2_with fail
    go_ret
    exact ⟨ret_boolG (by unfold okCnt; simp; omega), rfl⟩
set_option maxRecDepth 100000 in
theorem geoAddr_any (d : Int) (w : World) : Calls Try.prog 23 #[.int .i64 d] w fun e w' => e = .returned (.bool (okAd d)) ∧ w' = w := by
  by_cases h1 : 0 ≤ d
  · by_cases h2 : d ≤ 65536
    · go_enter Try.func23, Try.ntmps23
      go_wp2_with fail
      go_ret
      exact ⟨ret_boolG (by unfold okAd; simp; omega), rfl⟩
    · go_enter Try.func23, Try.ntmps23
      go_wp2_with fail
      go_ret
      exact ⟨ret_boolG (by unfold okAd; simp; omega), rfl⟩
  · go_enter Try.func23, Try.ntmps23
    go_wp2_with fail
    go_ret
    exact ⟨ret_boolG (by unfold okAd; simp; omega), rfl⟩
set_option maxRecDepth 100000 in
theorem badShape_any (d p : Int) (w : World) : Calls Try.prog 22 #[.int .i64 d, .int .i64 p] w fun e w' => e = .returned (.bool (!(okD d && okPar d p))) ∧ w' = w := by
  by_cases h1 : d < 2
  · go_enter Try.func22, Try.ntmps22
    go_wp2_with fail
    go_ret
    exact ⟨ret_boolG (by unfold okD; simp; omega), rfl⟩
  by_cases h2 : 8 < d
  · go_enter Try.func22, Try.ntmps22
    go_wp2_with fail
    go_ret
    exact ⟨ret_boolG (by unfold okD; simp; omega), rfl⟩
  by_cases h3 : p < 1
  · go_enter Try.func22, Try.ntmps22
    go_wp2_with fail
    go_ret
    exact ⟨ret_boolG (by unfold okPar; simp; omega), rfl⟩
  by_cases h4 : 3 < p
  · go_enter Try.func22, Try.ntmps22
    go_wp2_with fail
    go_ret
    exact ⟨ret_boolG (by unfold okPar; simp; omega), rfl⟩
  by_cases h5 : d ≤ p
  · go_enter Try.func22, Try.ntmps22
    go_wp2_with fail
    go_ret
    exact ⟨ret_boolG (by unfold okPar; simp; omega), rfl⟩
  · go_enter Try.func22, Try.ntmps22
    go_wp2_with fail
    go_ret
    exact ⟨ret_boolG (by unfold okD okPar; simp [show 2 ≤ d by omega, show d ≤ 8 by omega, show 1 ≤ p by omega, show p ≤ 3 by omega, show p < d by omega]), rfl⟩
set_option maxRecDepth 100000 in
theorem parts_any (n s : Nat) (w : World) (hs : 0 < s) (hs2 : s ≤ 1048576) (hn : n ≤ 1048576) : Calls Try.prog 21 #[.int .i64 n, .int .i64 s] w fun e w' => e = .returned (.int .i64 (prt n s : Nat)) ∧ w' = w := by
  have hz : ((s : Int) == 0) = false := by rw [beq_eq_false_iff_ne]; omega
  have hq : ((n : Int) + s - 1).tdiv s = (prt n s : Nat) := by
    rw [Int.tdiv_eq_ediv_of_nonneg (by omega)]
    unfold prt
    rw [show ((n : Int) + s - 1) = ((n + s - 1 : Nat) : Int) by omega]
    rfl
  have hqb : prt n s ≤ n + s - 1 := Nat.div_le_self _ _
  go_enter Try.func21, Try.ntmps21
  go_wp2_with fail
  go_ret
  exact ⟨ret_intG (by go_num), rfl⟩
set_option maxRecDepth 100000 in
theorem spot_any (d a : Nat) (w : World) (hd : 0 < d) (hd2 : d ≤ 1048576) (ha : a ≤ 1048576) : Calls Try.prog 24 #[.int .i64 d, .int .i64 a] w fun e w' => e = .returned (.tuple #[.int .i64 (a % d : Nat), .int .i64 (a / d : Nat)]) ∧ Ext w w' := by
  have hz : ((d : Int) == 0) = false := by rw [beq_eq_false_iff_ne]; omega
  have hq : (a : Int).tdiv d = (a / d : Nat) := by
    rw [Int.tdiv_eq_ediv_of_nonneg (by omega)]
    rfl
  have hr : (a : Int).tmod d = (a % d : Nat) := by
    rw [Int.tmod_eq_emod_of_nonneg (by omega)]
    rfl
  have hqb : a / d ≤ a := Nat.div_le_self _ _
  have hrb : a % d < d := Nat.mod_lt _ hd
  go_enter Try.func24, Try.ntmps24
  go_wp2_with fail
  have hq2 : wrap64 ((a : Int) / (d : Int)) = ((a / d : Nat) : Int) := by
    rw [show ((a : Int) / (d : Int)) = ((a / d : Nat) : Int) from rfl]
    have h64 : ∀ q : Nat, q ≤ 1048576 → wrap64 (q : Int) = q := fun q h => by unfold wrap64; omega
    exact h64 _ (by omega)
  go_region
  go_wp2_with fail
  go_ret2
  exact ⟨ret_two rfl hq2, (Ext.refl _).drew⟩
set_option maxRecDepth 100000 in
theorem GeSpot_any (d a : Int) (w : World) : Calls Try.prog 11 #[.int .i64 d, .int .i64 a] w fun e w' => e = .returned (.tuple #[.int .i64 (spotD d a), .int .i64 (spotA d a), .int .i64 (spotE d a)]) ∧ Ext w w' := by
  have H1 := geoDrives_any d w
  have H2 := geoAddr_any a w
  cases h1 : okD d with
  | false =>
    have HV : Hid (spotD d a = 0 ∧ spotA d a = 0 ∧ spotE d a = 2) := by show _ ∧ _ ∧ _; simp [spotD, spotA, spotE, h1]
    rw [h1] at H1
    go_enter Try.func11, Try.ntmps11
    go_wp2_with fail
    refine H1.mono ?_
    rintro e w1 ⟨rfl, rfl⟩
    go_wp2_with fail
    go_ret3
    exact ⟨ret_three HV.out.1.symm HV.out.2.1.symm HV.out.2.2.symm, Ext.refl _⟩
  | true =>
    rw [h1] at H1
    cases h2 : okAd a with
    | false =>
      have HV : Hid (spotD d a = 0 ∧ spotA d a = 0 ∧ spotE d a = 2) := by show _ ∧ _ ∧ _; simp [spotD, spotA, spotE, h2]
      rw [h2] at H2
      go_enter Try.func11, Try.ntmps11
      go_wp2_with fail
      refine H1.mono ?_
      rintro e w1 ⟨rfl, rfl⟩
      go_wp2_with fail
      refine H2.mono ?_
      rintro e w1 ⟨rfl, rfl⟩
      go_wp2_with fail
      go_ret3
      exact ⟨ret_three HV.out.1.symm HV.out.2.1.symm HV.out.2.2.symm, Ext.refl _⟩
    | true =>
      have hd := (okD_iff d).1 h1
      have ha := (okAd_iff a).1 h2
      have HV : Hid (spotD d a = a % d ∧ spotA d a = a / d ∧ spotE d a = 0) := by show _ ∧ _ ∧ _; simp [spotD, spotA, spotE, h1, h2]
      clear h1
      rw [h2] at H2
      clear h2
      obtain ⟨x, rfl⟩ := Int.eq_ofNat_of_zero_le (show 0 ≤ d by omega)
      obtain ⟨y, rfl⟩ := Int.eq_ofNat_of_zero_le (show 0 ≤ a by omega)
      go_enter Try.func11, Try.ntmps11
      go_wp2_with fail
      refine H1.mono ?_
      rintro e w1 ⟨rfl, rfl⟩
      go_wp2_with fail
      refine H2.mono ?_
      rintro e w1 ⟨rfl, rfl⟩
      go_wp2_with fail
      refine (spot_any x y _ (by omega) (by omega) (by omega)).mono ?_
      rintro e w1 ⟨rfl, hx⟩
      go_wp2_with fail
      go_ret3
      exact ⟨ret_three HV.out.1.symm HV.out.2.1.symm HV.out.2.2.symm, hx⟩
set_option maxRecDepth 100000 in
theorem GeomSpot_any (d a : Int) (w : World) : Calls Try.prog 12 #[.int .i64 d, .int .i64 a] w fun e w' => e = .returned (.tuple #[.int .i64 (spotD d a), .int .i64 (spotA d a), .int .i64 (spotE d a)]) ∧ Ext w w' := by
  by_cases h : okD d = true ∧ okAd a = true
  · have HV : Hid (spotD d a = a % d ∧ spotA d a = a / d ∧ spotE d a = 0) := by show _ ∧ _ ∧ _; simp [spotD, spotA, spotE, h.1, h.2]
    have hd := (okD_iff d).1 h.1
    have ha := (okAd_iff a).1 h.2
    clear h
    have hz : (d == 0) = false := by rw [beq_eq_false_iff_ne]; omega
    have hq : a.tdiv d = a / d := Int.tdiv_eq_ediv_of_nonneg (by omega)
    have hb := Int.ediv_nonneg (show 0 ≤ a by omega) (show 0 ≤ d by omega)
    have hm := Int.emod_add_mul_ediv a d
    have hm2 := Int.emod_nonneg a (show d ≠ 0 by omega)
    have hm3 := Int.emod_lt_of_pos a (show 0 < d by omega)
    rw [Int.mul_comm] at hm
    have hb2 : a / d ≤ a / d * d := by
      have := Int.mul_le_mul_of_nonneg_left (show 1 ≤ d by omega) hb
      omega
    have hr : a - a / d * d = a % d := by omega
    obtain ⟨hv1, hv2, hv3⟩ := HV.out
    generalize a / d = q at *
    generalize a % d = r at *
    have HR : Hid (a - q * d = r) := hr
    generalize hqd : q * d = y at *
    go_enter Try.func12, Try.ntmps12
    go_wp2_with fail
    go_ret3
    exact ⟨ret_three (by rw [hv1]) (by rw [hv2]) (by rw [hv3]), Ext.refl _⟩
  · have HV : Hid (spotD d a = 0 ∧ spotA d a = 0 ∧ spotE d a = 2) := by
      show _ ∧ _ ∧ _
      have : (okD d && okAd a) = false := by
        cases h1 : okD d
        · rfl
        · cases h2 : okAd a
          · rfl
          · exact absurd ⟨h1, h2⟩ h
      simp [spotD, spotA, spotE, this]
    rw [okD_iff, okAd_iff] at h
    by_cases h1 : d < 2
    · go_enter Try.func12, Try.ntmps12
      go_wp2_with fail
      go_ret3
      exact ⟨ret_three HV.out.1.symm HV.out.2.1.symm HV.out.2.2.symm, Ext.refl _⟩
    by_cases h2 : 8 < d
    · go_enter Try.func12, Try.ntmps12
      go_wp2_with fail
      go_ret3
      exact ⟨ret_three HV.out.1.symm HV.out.2.1.symm HV.out.2.2.symm, Ext.refl _⟩
    by_cases h3 : a < 0
    · go_enter Try.func12, Try.ntmps12
      go_wp2_with fail
      go_ret3
      exact ⟨ret_three HV.out.1.symm HV.out.2.1.symm HV.out.2.2.symm, Ext.refl _⟩
    have h4 : 65536 < a := by omega
    go_enter Try.func12, Try.ntmps12
    go_wp2_with fail
    go_ret3
    exact ⟨ret_three HV.out.1.symm HV.out.2.1.symm HV.out.2.2.symm, Ext.refl _⟩
set_option maxRecDepth 100000 in
set_option maxHeartbeats 1600000 in
theorem GeCost_any (d p c : Int) (w : World) : Calls Try.prog 9 #[.int .i64 d, .int .i64 p, .int .i64 c] w fun e w' => e = .returned (.tuple #[.int .i64 (costV d p c), .int .i64 (costE d p c)]) ∧ Ext w w' := by
  have H1 := geoDrives_any d w
  have H2 := geoParity_any d p w
  have H3 := geoCount_any c w
  cases h1 : okD d with
  | false =>
    have HV : Hid (costV d p c = 0 ∧ costE d p c = 2) := by show _ ∧ _; simp [costV, costE, h1]
    rw [h1] at H1
    go_enter Try.func9, Try.ntmps9
    go_wp2_with fail
    refine H1.mono ?_
    rintro e w1 ⟨rfl, rfl⟩
    go_wp2_with fail
    go_ret2
    exact ⟨ret_two HV.out.1.symm HV.out.2.symm, Ext.refl _⟩
  | true =>
    rw [h1] at H1
    cases h2 : okPar d p with
    | false =>
      have HV : Hid (costV d p c = 0 ∧ costE d p c = 2) := by show _ ∧ _; simp [costV, costE, h2]
      rw [h2] at H2
      go_enter Try.func9, Try.ntmps9
      go_wp2_with fail
      refine H1.mono ?_
      rintro e w1 ⟨rfl, rfl⟩
      go_wp2_with fail
      refine H2.mono ?_
      rintro e w1 ⟨rfl, rfl⟩
      go_wp2_with fail
      go_ret2
      exact ⟨ret_two HV.out.1.symm HV.out.2.symm, Ext.refl _⟩
    | true =>
      rw [h2] at H2
      cases h3 : okCnt c with
      | false =>
        have HV : Hid (costV d p c = 0 ∧ costE d p c = 2) := by show _ ∧ _; simp [costV, costE, h3]
        rw [h3] at H3
        go_enter Try.func9, Try.ntmps9
        go_wp2_with fail
        refine H1.mono ?_
        rintro e w1 ⟨rfl, rfl⟩
        go_wp2_with fail
        refine H2.mono ?_
        rintro e w1 ⟨rfl, rfl⟩
        go_wp2_with fail
        refine H3.mono ?_
        rintro e w1 ⟨rfl, rfl⟩
        go_wp2_with fail
        go_ret2
        exact ⟨ret_two HV.out.1.symm HV.out.2.symm, Ext.refl _⟩
      | true =>
        have hd := (okD_iff d).1 h1
        have hp := (okPar_iff d p).1 h2
        have hc := (okCnt_iff c).1 h3
        have HV : Hid (costV d p c = (costN d.toNat p.toNat c.toNat : Nat) ∧ costE d p c = 0) := by show _ ∧ _; simp [costV, costE, h1, h2, h3]
        rw [h3] at H3
        clear h1 h2 h3
        obtain ⟨x, rfl⟩ := Int.eq_ofNat_of_zero_le (show 0 ≤ d by omega)
        obtain ⟨y, rfl⟩ := Int.eq_ofNat_of_zero_le (show 0 ≤ p by omega)
        obtain ⟨z, rfl⟩ := Int.eq_ofNat_of_zero_le (show 0 ≤ c by omega)
        have hr := prt_lt z (x - y) (by omega)
        have hr1 : prt z (x - y) ≤ prt z (x - y) * (x - y) := Nat.le_mul_of_pos_right _ (by omega)
        have e1 : ((x : Int) - (y : Int)) = ((x - y : Nat) : Int) := by omega
        have P1 := parts_any z (x - y) w (by omega) (by omega) (by omega)
        have hy : y * prt z (x - y) ≤ 3 * 40 := Nat.mul_le_mul (by omega) (by omega)
        have P2 := parts_any (z + y * prt z (x - y)) (y + 1) w (by omega) (by omega) (by omega)
        have hr2 := prt_lt (z + y * prt z (x - y)) (y + 1) (by omega)
        have HN : Hid (costN x y z = prt (z + y * prt z (x - y)) (y + 1) * (y + 1)) := rfl
        rw [← e1] at P1
        generalize hR : prt z (x - y) = R at *
        have e2 : ((z + y * R : Nat) : Int) = (z : Int) + (y : Int) * (R : Int) := by push_cast; rfl
        have e3 : ((y + 1 : Nat) : Int) = (y : Int) + 1 := by push_cast; rfl
        have hyR : (y : Int) * (R : Int) = ((y * R : Nat) : Int) := by push_cast; rfl
        have hyR2 : 0 ≤ (y : Int) * (R : Int) ∧ (y : Int) * (R : Int) ≤ 120 := by rw [hyR]; omega
        rw [e2, e3] at P2
        generalize hS : prt (z + y * R) (y + 1) = S at *
        have e4 : (S : Int) * ((y : Int) + 1) = ((S * (y + 1) : Nat) : Int) := by push_cast; rfl
        have hS2 : 0 ≤ (S : Int) * ((y : Int) + 1) ∧ (S : Int) * ((y : Int) + 1) ≤ 200 := by rw [e4]; omega
        have H4 : Hid ((S : Int) * ((y : Int) + 1) = ((S * (y + 1) : Nat) : Int)) := e4
        have HP1 : Hid (Calls Try.prog 21 #[.int .i64 z, .int .i64 ((x : Int) - (y : Int))] w fun e w' => e = .returned (.int .i64 (R : Nat)) ∧ w' = w) := P1
        have HP2 : Hid (Calls Try.prog 21 #[.int .i64 ((z : Int) + (y : Int) * (R : Int)), .int .i64 ((y : Int) + 1)] w fun e w' => e = .returned (.int .i64 (S : Nat)) ∧ w' = w) := P2
        have hR40 : R ≤ 40 := by omega
        clear e1 e2 e3 e4 hyR P1 P2 hr hr1 hr2 hR hS hy
        go_enter Try.func9, Try.ntmps9
        go_wp2_with fail
        refine H1.mono ?_
        rintro e w1 ⟨rfl, rfl⟩
        go_wp2_with fail
        refine H2.mono ?_
        rintro e w1 ⟨rfl, rfl⟩
        go_wp2_with fail
        refine H3.mono ?_
        rintro e w1 ⟨rfl, rfl⟩
        go_wp2_with fail
        refine HP1.out.mono ?_
        rintro e w1 ⟨rfl, rfl⟩
        go_wp2_with fail
        refine HP2.out.mono ?_
        rintro e w1 ⟨rfl, rfl⟩
        go_wp2_with fail
        go_ret2
        exact ⟨ret_two (by rw [HV.out.1, Int.toNat_natCast, Int.toNat_natCast, Int.toNat_natCast, HN.out, ← H4.out]) HV.out.2.symm, Ext.refl _⟩
end Go.Proofs.Ytbjbalflicadjaa
