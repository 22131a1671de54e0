/-
  Together the columns are just the addresses from addr on, without a gap, and no more than the block costs; no condition.
-/
import Derived.Test.YtbjbalflicadjaaRows
import Derived.WalkKit
import Derived.ProofKit
import Derived.OpenShut
import Derived.ChangeOld
import Derived.Below
import Derived.BigQuiet
import Derived.Deep.CutRange
import Derived.Deep.QuietTactic
import Derived.Deep.RegionLaw
import Derived.Test.YtbjbalflicadjaaOpn
import Derived.Test.YtbjbalflicadjaaChecked
import Derived.Test.YtbjbalflicadjaaGeoFn
import Derived.Test.YtbjbalflicadjaaGeoShp
import Derived.Test.YtbjbalflicadjaaGeoKeep
namespace Go.Proofs.Ytbjbalflicadjaa.columnsFill
open Go.ChangeShapes Go.WideShapes Go.ChangeAt Go.RowKit Go.Deep E
set_option linter.unusedVariables false

set_option maxRecDepth 100000 in
set_option maxHeartbeats 40000000 in
theorem walk (a0 : Int) (a1 : Int) (a2 : Int) (a3 : Int) (w : World) (w0 : -9223372036854775808 ≤ a0 ∧ a0 ≤ 9223372036854775807) (w1 : -9223372036854775808 ≤ a1 ∧ a1 ≤ 9223372036854775807) (w2 : -9223372036854775808 ≤ a2 ∧ a2 ≤ 9223372036854775807) (w3 : -9223372036854775808 ≤ a3 ∧ a3 ≤ 9223372036854775807) :
    Calls Try.prog 7 #[.int .i64 a0, .int .i64 a1, .int .i64 a2, .int .i64 a3] w fun e w' => e = .returned (.bool true) ∧ Ext w w' := by
  obtain ⟨D, P, hD1, hD2, hP1, hP2, hP3, HS⟩ := Shape_nat a0 a1 (by omega) (by omega)
  obtain ⟨A, hA, hA1⟩ := picked_is a2 65136 (by omega)
  obtain ⟨C, hC, hC1⟩ := picked_is a3 32 (by omega)
  have HA : Hid (∀ w, Calls Try.prog 17 #[.int .i64 a2, .int .i64 65136] w fun e w' => e = .returned (.int .i64 A) ∧ w' = w) := fun w => Picked_bd a2 65136 A w (by omega) (by omega) (by omega) hA
  have HC : Hid (∀ w, Calls Try.prog 17 #[.int .i64 a3, .int .i64 32] w fun e w' => e = .returned (.int .i64 C) ∧ w' = w) := fun w => Picked_bd a3 32 C w (by omega) (by omega) (by omega) hC
  have HK : Hid (∀ w, Calls Try.prog 13 #[.int .i64 D, .int .i64 P, .int .i64 A, .int .i64 (1 + (C : Int))] w fun e w' => (∃ b k, e = .returned (.tuple #[.slice b (colN D P (1 + C)) k, .int .i64 0]) ∧ Els w' b 4 (colsL D P A (1 + C))) ∧ Ext w w') := fun w => by
    have := cols_nat D P A (1 + C) hD1 hD2 hP1 hP2 hP3 (by omega) (by omega) (by omega) w
    rw [show ((1 + C : Nat) : Int) = 1 + (C : Int) by omega] at this
    exact this
  obtain ⟨X, hX⟩ : ∃ X : Nat, X = costN D P (1 + C) := ⟨_, rfl⟩
  have HKc : Hid (∀ w, Calls Try.prog 9 #[.int .i64 D, .int .i64 P, .int .i64 (1 + (C : Int))] w fun e w' => e = .returned (.tuple #[.int .i64 X, .int .i64 0]) ∧ Ext w w') := fun w => by
    have := cost_nat2 D P (1 + C) hD1 hD2 hP1 hP2 hP3 (by omega) (by omega) w
    rw [show ((1 + C : Nat) : Int) = 1 + (C : Int) by omega, ← hX] at this
    exact this
  have HAp : Hid (∀ i, i < colN D P (1 + C) → 1 ≤ cntC D P (1 + C) i ∧ cntC D P (1 + C) i ≤ 32) := fun i hi => by
    have := ap_is D P (1 + C) i hD1 hD2 hP1 hP2 hP3 (by omega) (by omega) hi
    omega
  obtain ⟨N, hN⟩ : ∃ N : Nat, N = allC D P (1 + C) (colN D P (1 + C)) := ⟨_, rfl⟩
  obtain ⟨_, _, r1, r2, r3, r4⟩ := keep_is D P (1 + C) hD1 hD2 hP1 hP2 hP3 (by omega) (by omega)
  rw [← hN, ← hX] at r1
  rw [← hN, ← hX] at r2
  rw [← hX] at r3
  rw [← hN] at r4
  have HLi : Hid (∀ k, k < N → k % D < colN D P (1 + C) ∧ k / D < cntC D P (1 + C) (k % D)) := fun k hk => lies D P (1 + C) k hD1 hD2 hP1 hP2 hP3 (by omega) (by omega) (by rw [← hN]; exact hk)
  obtain ⟨n, hn⟩ : ∃ n : Nat, n = colN D P (1 + C) := ⟨_, rfl⟩
  have hnb := colN_bd D P (1 + C) hP3 (by omega)
  have HG : Hid (∀ i, i < n → (colsL D P A (1 + C))[i]? = some [.int .i64 ((A + i) % D : Nat), .int .i64 ((A + i) / D : Nat), .int .i64 (cntC D P (1 + C) i : Nat), .bool (decide (i < P))]) := fun i hi => colsL_get D P A (1 + C) (by rw [← hn]; exact hi)
  have HN : Hid (N = allC D P (1 + C) n) := by
    show _ = _
    rw [hN, hn]
  rw [← hn] at HK HAp HLi hnb
  clear hA hC hn hN hX
  go_enter Try.func7, Try.ntmps7
  set_option maxRecDepth 1000000 in
  go_wp2_with fail
  refine (HS w).mono ?_
  rintro e w1 ⟨rfl, rfl⟩
  clear HS
  set_option maxRecDepth 1000000 in
  go_wp2_with fail
  refine (HA.out _).mono ?_
  rintro e w1 ⟨rfl, rfl⟩
  set_option maxRecDepth 1000000 in
  go_wp2_with fail
  refine (HC.out _).mono ?_
  rintro e w1 ⟨rfl, rfl⟩
  set_option maxRecDepth 1000000 in
  go_wp2_with fail
  refine (HK.out _).mono ?_
  rintro e w2 ⟨⟨ad, cp, rfl, hE⟩, hx2⟩
  have HE : Hid (Els w2 ad 4 (colsL D P A (1 + C))) := hE
  clear hE HA HC HK
  set_option maxRecDepth 1000000 in
  go_wp2_with fail
  refine (HKc.out _).mono ?_
  rintro e w3 ⟨rfl, hx3⟩
  clear HKc
  set_option maxRecDepth 1000000 in
  go_wp2_with fail
  go_loopw [17, 18] (fun s i wr => ∃ (k S : Nat), k ≤ n ∧ i = .int .i64 k ∧ s = .int .i64 (S : Nat) ∧ Hid (S = allC D P (1 + C) k) ∧ S ≤ 32 * k ∧ Ext w2 wr) (fun _ i _ => n - (intOf i).toNat)
  case atStart => exact ⟨0, 0, Nat.zero_le _, rfl, rfl, (rfl : 0 = allC D P (1 + C) 0), by omega, hx3⟩
  case round =>
    obtain ⟨k, S, hk, rfl, rfl, HSm, hS, hx⟩ := hrel
    by_cases hlt : k < n
    · obtain ⟨p1, p5⟩ := HAp.out k hlt
      have hgk := HG.out k hlt
      obtain ⟨Ck, hCk⟩ : ∃ Ck : Nat, Ck = cntC D P (1 + C) k := ⟨_, rfl⟩
      have HS2 : Hid (S + Ck = allC D P (1 + C) (k + 1)) := by
        show S + Ck = allC D P (1 + C) k + cntC D P (1 + C) k
        rw [← HSm.out, hCk]
      rw [← hCk] at p1 p5 hgk
      obtain ⟨b, o, rfl, _, _, hk2, _⟩ := col_at (HE.out.ext hx) hgk
      clear hCk hgk
      have i1 : (k : Int) < (n : Int) := by omega
      have q3 : ¬ (Ck : Int) < 1 := by omega
      have q4 : ¬ 32 < (Ck : Int) := by omega
      set_option maxRecDepth 1000000 in
      go_wp2_with fail
      go_roundw
      case rel => exact ⟨k + 1, S + Ck, by omega, by go_num, by go_num, HS2.out, by omega, hx⟩
      case measure => simp [intOf]; omega
    · obtain rfl : k = n := by omega
      have hSN : S = N := by rw [HSm.out, HN.out]
      subst hSN
      have g1 : ¬ (S : Int) < 1 := by omega
      have g2 : ¬ (X : Int) < (S : Int) := by omega
      have g3 : ¬ (S : Int) + (P : Int) < (X : Int) := by omega
      have g4 : ¬ 400 < (X : Int) := by omega
      set_option maxRecDepth 1000000 in
      go_wp2_with fail
      go_loopw [19] (fun i wr => ∃ j : Nat, j ≤ S ∧ i = .int .i64 j ∧ Ext w2 wr) (fun i _ => S - (intOf i).toNat)
      case atStart => exact ⟨0, Nat.zero_le _, rfl, hx⟩
      case round =>
        clear hx
        obtain ⟨j, hj, rfl, hx⟩ := hrel
        by_cases hjS : j < S
        · obtain ⟨hl1, hl2⟩ := HLi.out j hjS
          obtain ⟨X1, hX1⟩ : ∃ X1 : Nat, X1 = (A + j) % D := ⟨_, rfl⟩
          obtain ⟨X2, hX2⟩ : ∃ X2 : Nat, X2 = (A + j) / D := ⟨_, rfl⟩
          have HX1 : Hid (X1 = (A + j) % D) := hX1
          have HX2 : Hid (X2 = (A + j) / D) := hX2
          have HKs : Hid (Calls Try.prog 11 #[.int .i64 D, .int .i64 ((A : Int) + (j : Int))] wr fun e w' => e = .returned (.tuple #[.int .i64 X1, .int .i64 X2, .int .i64 0]) ∧ Ext wr w') := by
            have := spot_nat2 D (A + j) hD1 hD2 (by omega) wr
            rw [show ((A + j : Nat) : Int) = (A : Int) + (j : Int) by omega, ← hX1, ← hX2] at this
            exact this
          have hX2b : X2 ≤ A + j := by rw [hX2]; exact Nat.div_le_self _ _
          obtain ⟨m, hm⟩ : ∃ m : Nat, m = j % D := ⟨_, rfl⟩
          have HM : Hid (m = j % D) := hm
          rw [← hm] at hl1 hl2
          have HL2 : Hid (j / D < cntC D P (1 + C) m) := hl2
          clear hX1 hX2 hm hl2
          set_option maxRecDepth 1000000 in
          go_wp2_with fail
          refine HKs.out.mono ?_
          rintro e w4 ⟨rfl, hx4⟩
          have hx2' := hx.trans hx4
          clear HKs
          set_option maxRecDepth 1000000 in
          go_wp2_with fail
          go_loopw [23, 24] (fun f i wr => ∃ i' : Nat, i' ≤ k ∧ i = .int .i64 i' ∧ (∃ f' : Nat, f = .int .i64 (f' : Int) ∧ f' ≤ 1 ∧ Hid (f' = if m < i' then 1 else 0)) ∧ Ext w2 wr) (fun _ i _ => k - (intOf i).toNat)
          case atStart => exact ⟨0, Nat.zero_le _, rfl, ⟨0, rfl, by omega, (if_neg (by omega) : (if m < 0 then 1 else 0) = 0).symm⟩, hx2'⟩
          case round =>
            obtain ⟨i, hi, rfl, ⟨f, rfl, hf1, HF⟩, hxr⟩ := hrel
            by_cases hik : i < k
            · have hgi := HG.out i hik
              have hcb := (HAp.out i hik).2
              obtain ⟨Di, hDi⟩ : ∃ Di : Nat, Di = (A + i) % D := ⟨_, rfl⟩
              obtain ⟨Ai, hAi⟩ : ∃ Ai : Nat, Ai = (A + i) / D := ⟨_, rfl⟩
              obtain ⟨Ci, hCi⟩ : ∃ Ci : Nat, Ci = cntC D P (1 + C) i := ⟨_, rfl⟩
              rw [← hDi, ← hAi, ← hCi] at hgi
              rw [← hCi] at hcb
              obtain ⟨b, o, rfl, hc0, hc1, hc2, _⟩ := col_at (HE.out.ext hxr) hgi
              have i1 : (i : Int) < (k : Int) := by omega
              have hAb : Ai ≤ A + i := by rw [hAi]; exact Nat.div_le_self _ _
              by_cases e : i = m
              · subst e
                have hs1 : Di = X1 := by
                  rw [hDi, HX1.out]
                  exact (mod_meet A D i j (by omega)).2 HM.out
                have hs2 : X2 = Ai + j / D := by
                  rw [hAi, HX2.out, HM.out]
                  exact div_meet A D j (by omega)
                have hs3 : X2 < Ai + Ci := by
                  have := HL2.out
                  rw [← hCi] at this
                  rw [hs2]
                  exact Nat.add_lt_add_left this _
                have hs4 : Ai ≤ X2 := by rw [hs2]; exact Nat.le_add_right _ _
                have e1 : ((Di : Int) == (X1 : Int)) = true := by rw [hs1]; simp
                clear hgi hDi hAi hCi hs1 hs2
                have e2 : (Ai : Int) ≤ (X2 : Int) := by omega
                have e3 : (X2 : Int) < (Ai : Int) + (Ci : Int) := by omega
                have e4 : decide ((Ai : Int) ≤ (X2 : Int)) = true := decide_eq_true e2
                have e5 : decide ((X2 : Int) < (Ai : Int) + (Ci : Int)) = true := decide_eq_true e3
                have hf0 : f = 0 := by rw [HF.out]; exact if_neg (by omega)
                subst hf0
                set_option maxRecDepth 1000000 in
                go_wp2_with fail
                set_option maxRecDepth 1000000 in
                go_quiet (fail)
                set_option maxRecDepth 1000000 in
                go_wp2_with fail
                go_roundw
                case rel => exact ⟨i + 1, by omega, by go_num, ⟨1, by go_num, by omega, (if_pos (by omega) : (if i < i + 1 then 1 else 0) = 1).symm⟩, hxr.drewG _⟩
                case measure => simp [intOf]; omega
              · have hs1 : Di ≠ X1 := by
                  rw [hDi, HX1.out]
                  intro h
                  exact e ((mod_meet A D i j (by omega)).1 h |>.trans HM.out.symm)
                have e1 : ((Di : Int) == (X1 : Int)) = false := by rw [beq_eq_false_iff_ne]; omega
                clear hgi hDi hAi hCi hs1
                set_option maxRecDepth 1000000 in
                go_wp2_with fail
                set_option maxRecDepth 1000000 in
                go_quiet (fail)
                set_option maxRecDepth 1000000 in
                go_wp2_with fail
                go_roundw
                case rel =>
                  refine ⟨i + 1, by omega, by go_num, ⟨f, rfl, hf1, ?_⟩, hxr.drewG _⟩
                  show f = _
                  rw [HF.out]
                  by_cases l : m < i
                  · rw [if_pos l, if_pos (by omega)]
                  · rw [if_neg l, if_neg (by omega)]
                case measure => simp [intOf]; omega
            · obtain rfl : i = k := by omega
              have hf0 : f = 1 := by rw [HF.out]; exact if_pos hl1
              subst hf0
              set_option maxRecDepth 1000000 in
              go_wp2_with fail
              go_roundw
              case rel => exact ⟨j + 1, by omega, by go_num, hxr⟩
              case measure => simp [intOf]; omega
        · obtain rfl : j = S := by omega
          set_option maxRecDepth 1000000 in
          go_wp2_with fail
          go_ret
          exact ⟨rfl, hx2.trans hx⟩
end Go.Proofs.Ytbjbalflicadjaa.columnsFill
