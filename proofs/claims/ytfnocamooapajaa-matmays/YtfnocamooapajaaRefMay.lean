/-
  quicksetref.MatMay at every matrix: the same plain answer; the memory stays as it was.
-/
import Derived.Test.YtfnocamooapajaaChecked
import Derived.WalkKit
import Derived.Test.YtfnocamooapajaaMatMay
import Derived.Test.YtfnocamooapajaaRefEl
namespace Go.Proofs.Ytfnocamooapajaa
open Go.RowKit
set_option maxRecDepth 100000 in
set_option maxHeartbeats 800000 in
theorem MatMay_any (a : Option Addr) (n c : Nat) (A : Nat → Option Addr) (L C : Nat → Nat) (F : Nat → Nat → Int) (w : World) (h : Mat w a n A L C F) (hn : n ≤ 9223372036854775807) (hl : ∀ r, r < n → L r ≤ 9223372036854775807) :
    Calls Try.prog 10 #[.slice a n c] w fun e w' => e = .returned (.bool (mayB n L F)) ∧ w' = w := by
  have HH : Hid (Mat w a n A L C F) := h
  have HL : Hid _ := hl
  clear h hl
  cases hS : sideB n
  · have hs : n < 1 ∨ 8 < n := by
      by_cases h1 : 1 ≤ n
      · by_cases h2 : n ≤ 8
        · rw [sideB_of n h1 h2] at hS; cases hS
        · omega
      · omega
    rcases hs with hs | hs
    · have h0 : ((n : Int) == 0) = true := by rw [beq_iff_eq]; omega
      go_enter Try.func10, Try.ntmps10
      go_wp2_with fail
      go_ret
      rw [mayB_false hS]
      exact ⟨rfl, rfl⟩
    · have h0 : ((n : Int) == 0) = false := by rw [beq_eq_false_iff_ne]; omega
      have h1 : (8 : Int) < n := by omega
      go_enter Try.func10, Try.ntmps10
      go_wp2_with fail
      go_ret
      rw [mayB_false hS]
      exact ⟨rfl, rfl⟩
  · have hb := sideB_bd hS
    obtain ⟨b, o, rfl, hc⟩ := HH.out.at (by omega)
    have hc0 := hc 0 (by omega)
    rw [Nat.add_zero] at hc0
    have HC : Hid _ := hc
    clear hc
    have hl0 := HL.out 0 (by omega)
    have h0 : ((n : Int) == 0) = false := by rw [beq_eq_false_iff_ne]; omega
    have h1 : ¬ (8 : Int) < n := by omega
    cases hS0 : sideB (L 0)
    · have hs : L 0 < 1 ∨ 8 < L 0 := by
        by_cases h1 : 1 ≤ L 0
        · by_cases h2 : L 0 ≤ 8
          · rw [sideB_of _ h1 h2] at hS0; cases hS0
          · omega
        · omega
      have fin : mayB n L F = false := mayB_row (r := 0) (by omega) (by unfold rowB; rw [hS0]; rfl)
      have HF : Hid _ := fin
      clear fin
      rcases hs with hs | hs
      · have k0 : ((L 0 : Int) == 0) = true := by rw [beq_iff_eq]; omega
        go_enter Try.func10, Try.ntmps10
        go_wp2_with fail
        go_ret
        rw [HF.out]
        exact ⟨rfl, rfl⟩
      · have k0 : ((L 0 : Int) == 0) = false := by rw [beq_eq_false_iff_ne]; omega
        have k1 : (8 : Int) < L 0 := by omega
        go_enter Try.func10, Try.ntmps10
        go_wp2_with fail
        go_ret
        rw [HF.out]
        exact ⟨rfl, rfl⟩
    · have hb0 := sideB_bd hS0
      have k0 : ((L 0 : Int) == 0) = false := by rw [beq_eq_false_iff_ne]; omega
      have k1 : ¬ (8 : Int) < L 0 := by omega
      go_enter Try.func10, Try.ntmps10
      go_wp2_with fail
      go_loop [31] (fun i => ∃ k : Nat, k ≤ n ∧ i = .int .i64 k ∧ Hid (∀ j, j < k → rowB L F j = true)) (fun i => n - (intOf i).toNat)
      case atStart => exact ⟨0, Nat.zero_le _, rfl, fun j h => by omega⟩
      case round =>
        obtain ⟨k, hk, rfl, HI⟩ := hrel
        by_cases hlt : k < n
        · have hck := HC.out k hlt
          have hlk := HL.out k hlt
          by_cases he : L k = L 0
          · have hB : ((L k : Int) != (L 0 : Int)) = false := by rw [he]; simp
            have hlk8 : L k ≤ 8 := by omega
            have hsk : sideB (L k) = true := by rw [he]; exact hS0
            have HE : Hid (L k = L 0) := he
            have HK : Hid (sideB (L k) = true) := hsk
            have hl1 : 0 < L k := by omega
            obtain ⟨b', o', hA, hcs⟩ := (HH.out.row hlt).at hl1
            have HQ : Hid _ := hcs
            clear he hsk hcs
            go_wp2_with fail
            go_loop [44] (fun i => ∃ q : Nat, q ≤ L k ∧ i = .int .i64 q ∧ Hid (∀ j, j < q → elB (F k j) = true)) (fun i => L k - (intOf i).toNat)
            case atStart => exact ⟨0, Nat.zero_le _, rfl, fun j h => by omega⟩
            case round =>
              obtain ⟨q, hq, rfl, HJ⟩ := hrel
              by_cases hqt : q < L k
              · have hcq := HQ.out q hqt
                go_wp2_with fail
                refine (Element_any (F k q) _).mono ?_
                rintro e w1 ⟨rfl, rfl⟩
                cases hE : elB (F k q)
                · go_wp2_with fail
                  go_ret
                  rw [mayB_row hlt (by unfold rowB; rw [allB_false hqt hE]; simp)]
                  exact ⟨rfl, rfl⟩
                · go_wp2_with fail
                  go_round
                  case rel =>
                    refine ⟨q + 1, by omega, by go_num, ?_⟩
                    intro j hj
                    by_cases e : j = q
                    · rw [e]; exact hE
                    · exact HJ.out j (by omega)
                  case measure => simp [intOf]; omega
              · go_wp2_with fail
                go_round
                case rel =>
                  refine ⟨k + 1, by omega, by go_num, ?_⟩
                  intro j hj
                  by_cases e : j = k
                  · rw [e]; unfold rowB; rw [HK.out, allB_true (fun i hi => HJ.out i (by omega)), decide_eq_true HE.out]; rfl
                  · exact HI.out j (by omega)
                case measure => simp [intOf]; omega
          · have hB : ((L k : Int) != (L 0 : Int)) = true := by rw [bne_iff_ne]; omega
            have HE : Hid (¬ L k = L 0) := he
            clear he
            go_wp2_with fail
            go_ret
            rw [mayB_row hlt (by unfold rowB; rw [decide_eq_false HE.out]; simp)]
            exact ⟨rfl, rfl⟩
        · go_wp2_with fail
          go_ret
          rw [mayB_true hS (fun r hr => HI.out r (by omega))]
          exact ⟨rfl, rfl⟩
end Go.Proofs.Ytfnocamooapajaa
