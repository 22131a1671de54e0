/-
  mat.May at every matrix: a plain answer; the world only grows.
-/
import Derived.Test.YthgbfakmkdifbaaChecked
import Derived.WalkKit
import Derived.Test.YthgbfakmkdifbaaMatEls
namespace Go.Proofs.Ythgbfakmkdifbaa
open Go.RowKit
def mayB (n : Nat) (L : Nat → Nat) (F : Nat → Nat → Int) : Bool := sideB n && (List.range n).all fun r => sideB (L r) && decide (L r = L 0) && allB (L r) (F r)
def rowB (L : Nat → Nat) (F : Nat → Nat → Int) (r : Nat) : Bool := sideB (L r) && decide (L r = L 0) && allB (L r) (F r)
theorem mayB_false {n : Nat} {L : Nat → Nat} {F : Nat → Nat → Int} (h : sideB n = false) : mayB n L F = false := by unfold mayB; rw [h]; rfl
theorem mayB_row {n : Nat} {L : Nat → Nat} {F : Nat → Nat → Int} {r : Nat} (hr : r < n) (h : rowB L F r = false) : mayB n L F = false := by
  unfold mayB
  rw [Bool.and_eq_false_iff]
  right
  rw [List.all_eq_false]
  exact ⟨r, List.mem_range.2 hr, by rw [show (sideB (L r) && decide (L r = L 0) && allB (L r) (F r)) = false from h]; simp⟩
theorem mayB_true {n : Nat} {L : Nat → Nat} {F : Nat → Nat → Int} (h0 : sideB n = true) (h : ∀ r, r < n → rowB L F r = true) : mayB n L F = true := by
  unfold mayB
  rw [h0, Bool.true_and, List.all_eq_true]
  exact fun r hr => h r (List.mem_range.1 hr)
theorem mayB_of {n : Nat} {L : Nat → Nat} {F : Nat → Nat → Int} (h : mayB n L F = true) : (1 ≤ n ∧ n ≤ 8) ∧ (1 ≤ L 0 ∧ L 0 ≤ 8) ∧ ∀ r, r < n → L r = L 0 ∧ ∀ i, i < L 0 → 0 ≤ F r i ∧ F r i < 256 := by
  unfold mayB at h
  rw [Bool.and_eq_true, List.all_eq_true] at h
  have h1 := sideB_bd h.1
  have h2 : ∀ r, r < n → (1 ≤ L r ∧ L r ≤ 8) ∧ L r = L 0 ∧ allB (L r) (F r) = true := by
    intro r hr
    have := h.2 r (List.mem_range.2 hr)
    simp only [Bool.and_eq_true, decide_eq_true_eq] at this
    exact ⟨sideB_bd this.1.1, this.1.2, this.2⟩
  refine ⟨h1, (h2 0 (by omega)).1, fun r hr => ⟨(h2 r hr).2.1, fun i hi => ?_⟩⟩
  exact elB_bd _ (allB_of (h2 r hr).2.2 (by rw [(h2 r hr).2.1]; exact hi))
set_option maxRecDepth 100000 in
set_option maxHeartbeats 800000 in
theorem May_any (a : Option Addr) (n c : Nat) (A : Nat → Option Addr) (L C : Nat → Nat) (F : Nat → Nat → Int) (w : World) (h : Mat w a n A L C F) :
    Calls Try.prog 92 #[.slice a n c] w fun e w' => e = .returned (.bool (mayB n L F)) ∧ Ext w w' := by
  have HH : Hid (Mat w a n A L C F) := h
  clear h
  go_enter Try.func92, Try.ntmps92
  go_wp2_with fail
  refine (side_any n _).mono ?_
  rintro e w' ⟨rfl, rfl⟩
  cases hS : sideB n
  · go_wp2_with fail
    go_ret
    rw [mayB_false hS]
    exact ⟨rfl, Ext.refl _⟩
  · have hb := sideB_bd hS
    obtain ⟨b, o, rfl, hc⟩ := HH.out.at (by omega)
    have hc0 := hc 0 (by omega)
    rw [Nat.add_zero] at hc0
    have HC : Hid _ := hc
    clear hc
    go_wp2_with fail
    go_loopw [11] (fun i wr => ∃ k : Nat, k ≤ n ∧ i = .int .i64 k ∧ Hid (∀ j, j < k → rowB L F j = true) ∧ Ext w' wr) (fun i _ => n - (intOf i).toNat)
    case atStart => exact ⟨0, Nat.zero_le _, rfl, fun j h => by omega, Ext.refl _⟩
    case round =>
      obtain ⟨k, hk, rfl, HI, hx⟩ := hrel
      by_cases hlt : k < n
      · have hck := hx.keeps (HC.out k hlt)
        have hc0' := hx.keeps hc0
        have hi := (HH.out.row hlt).ext hx
        have HR : Hid _ := hi
        clear hi
        go_wp2_with fail
        refine (side_any (L k) _).mono ?_
        rintro e w1 ⟨rfl, rfl⟩
        cases hL : sideB (L k)
        · go_wp2_with fail
          go_ret
          rw [mayB_row hlt (by unfold rowB; rw [hL]; rfl)]
          exact ⟨rfl, hx⟩
        · by_cases he : L k = L 0
          · have hB : ((L k : Int) != (L 0 : Int)) = false := by rw [he]; simp
            have HE : Hid (L k = L 0) := he
            clear he
            have hl := sideB_bd hL
            go_wp2_with fail
            refine (melements_any (A k) (L k) (C k) (F k) _ (by omega) HR.out).mono ?_
            rintro e w2 ⟨rfl, hx2⟩
            cases hE : allB (L k) (F k)
            · go_wp2_with fail
              go_ret
              rw [mayB_row hlt (by unfold rowB; rw [hL, hE]; simp)]
              exact ⟨rfl, hx.trans hx2⟩
            · go_wp2_with fail
              go_roundw
              case rel =>
                refine ⟨k + 1, by omega, by go_num, ?_, hx.trans hx2⟩
                intro j hj
                by_cases e : j = k
                · rw [e]; unfold rowB; rw [hL, hE, HE.out]; simp
                · exact HI.out j (by omega)
              case measure => simp [intOf]; omega
          · have hB : ((L k : Int) != (L 0 : Int)) = true := by rw [bne_iff_ne]; omega
            have HE : Hid (¬ L k = L 0) := he
            clear he
            go_wp2_with fail
            go_ret
            rw [mayB_row hlt (by unfold rowB; rw [decide_eq_false HE.out]; simp)]
            exact ⟨rfl, hx⟩
      · go_wp2_with fail
        go_ret
        rw [mayB_true hS (fun r hr => HI.out r (by omega))]
        exact ⟨rfl, hx⟩
end Go.Proofs.Ythgbfakmkdifbaa
