/-
  quicksetref.ParMay at every list of columns: the same plain answer; the memory stays as it was.
-/
import Derived.Test.YthgbfakmkdifbaaChecked
import Derived.WalkKit
import Derived.Test.YthgbfakmkdifbaaParMay
namespace Go.Proofs.Ythgbfakmkdifbaa
open Go.RowKit E
set_option maxRecDepth 100000 in
set_option maxHeartbeats 400000 in
theorem ParMay_any (a : Option Addr) (n c : Nat) (A : Nat → Option Addr) (L C : Nat → Nat) (F : Nat → Nat → E) (w : World) (hn : n ≤ 9223372036854775807) (h : Cols w a n A L C F) :
    Calls Try.prog 44 #[.slice a n c] w fun e w' => e = .returned (.bool (pmayB n L)) ∧ w' = w := by
  have HH : Hid (Cols w a n A L C F) := h
  clear h
  by_cases h1 : (n : Int) < 1
  · go_enter Try.func44, Try.ntmps44
    go_wp2_with fail
    go_ret
    exact ⟨ret_boolB (by unfold pmayB; rw [fromTo_false (by omega)]; rfl), rfl⟩
  · by_cases h2 : (12 : Int) < n
    · go_enter Try.func44, Try.ntmps44
      go_wp2_with fail
      go_ret
      exact ⟨ret_boolB (by unfold pmayB; rw [fromTo_false (by omega)]; rfl), rfl⟩
    · obtain ⟨b, o, rfl, hc⟩ := HH.out.at (by omega)
      have hc0 := hc 0 (by omega)
      rw [Nat.add_zero] at hc0
      have HC : Hid (∀ r, r < n → w.cell? ⟨b, o + r, none⟩ = some (.slice (A r) (L r) (C r))) := hc
      have HF : Hid (fromTo 1 12 n = true) := fromTo_true (by omega)
      clear hc
      go_enter Try.func44, Try.ntmps44
      go_wp2_with fail
      go_loop [15] (fun i => ∃ k : Nat, k ≤ n ∧ i = .int .i64 k ∧ Hid (∀ j, j < k → colB L j = true)) (fun i => n - (intOf i).toNat)
      case atStart => exact ⟨0, Nat.zero_le _, rfl, fun j h => by omega⟩
      case round =>
        obtain ⟨k, hk, rfl, HI⟩ := hrel
        by_cases hlt : k < n
        · have hck := HC.out k hlt
          by_cases e1 : L k = L 0
          · have hB : ((L k : Int) != (L 0 : Int)) = false := by rw [e1]; simp
            have HE : Hid (L k = L 0) := e1
            clear e1
            by_cases e2 : (4096 : Int) < L k
            · go_wp2_with fail
              go_ret
              exact ⟨ret_boolB (by unfold pmayB; rw [alikeB_false hlt (by unfold colB; rw [decide_eq_false (p := L k ≤ 4096) (by omega)]; simp)]; simp), rfl⟩
            · go_wp2_with fail
              go_round
              case rel =>
                refine ⟨k + 1, by omega, by go_num, ?_⟩
                intro j hj
                by_cases e : j = k
                · rw [e]; unfold colB; rw [decide_eq_true HE.out, decide_eq_true (by omega)]; rfl
                · exact HI.out j (by omega)
              case measure => simp [intOf]; omega
          · have hB : ((L k : Int) != (L 0 : Int)) = true := by rw [bne_iff_ne]; omega
            have HE : Hid (¬ L k = L 0) := e1
            clear e1
            go_wp2_with fail
            go_ret
            exact ⟨ret_boolB (by unfold pmayB; rw [alikeB_false hlt (by unfold colB; rw [decide_eq_false HE.out]; rfl)]; simp), rfl⟩
        · go_wp2_with fail
          go_ret
          exact ⟨ret_boolB (by unfold pmayB; rw [HF.out, alikeB_true fun r hr => HI.out r (by omega)]; rfl), rfl⟩
end Go.Proofs.Ythgbfakmkdifbaa
