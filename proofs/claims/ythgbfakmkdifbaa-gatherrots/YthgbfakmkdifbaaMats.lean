/-
  mat.side; mat.elements of a slice of numbers: whether all are from 0 to 255; the world only grows.
-/
import Derived.Test.YthgbfakmkdifbaaChecked
import Derived.WalkKit
import Derived.Test.YthgbfakmkdifbaaGfs
import Derived.Test.YthgbfakmkdifbaaMm
namespace Go.Proofs.Ythgbfakmkdifbaa
open Go.RowKit
theorem ret_bool {a b : Bool} (h : a = b) : Ending.returned (.bool a) = .returned (.bool b) := by rw [h]
theorem rangeE_zero (a : Int) : (rangeE a 0 != 0) = !elB a := by
  unfold rangeE pairB
  cases h : elB a <;> simp [elB]
set_option maxRecDepth 100000 in
theorem elements1_any (a : Int) (w : World) :
    Calls Try.prog 107 #[.int .i64 a] w fun e w' => e = .returned (.bool (!elB a)) ∧ Ext w w' := by
  go_enter Try.func107, Try.ntmps107
  go_wp2_with fail
  refine (Add_any a 0 w).mono ?_
  rintro e w' ⟨rfl, hx⟩
  go_wp2_with fail
  go_ret
  rw [rangeE_zero]
  exact ⟨rfl, hx⟩
set_option maxRecDepth 100000 in
set_option maxHeartbeats 400000 in
theorem index1_any (a : Option Addr) (n c : Nat) (f : Nat → Int) (w : World) (hn : n ≤ 9223372036854775807) (h : Ints w a n f) :
    Calls Try.prog 91 #[.slice a n c, .func (.func 107) #[] #[]] w fun e w' => (∃ r : Int, e = .returned (.int .i64 r) ∧ ((r = -1 ∧ ∀ i, i < n → elB (f i) = true) ∨ ∃ k : Nat, r = k ∧ k < n ∧ elB (f k) = false)) ∧ Ext w w' := by
  have HH : Hid (Ints w a n f) := h
  clear h
  go_enter Try.func91, Try.ntmps91
  go_wp2_with fail
  go_loopw [8] (fun i wr => ∃ k : Nat, k ≤ n ∧ i = .int .i64 k ∧ Hid (∀ j, j < k → elB (f j) = true) ∧ Ext w wr) (fun i _ => n - (intOf i).toNat)
  case atStart => exact ⟨0, Nat.zero_le _, rfl, fun j h => by omega, Ext.refl _⟩
  case round =>
    obtain ⟨k, hk, rfl, HI, hx⟩ := hrel
    by_cases hlt : k < n
    · obtain ⟨b, o, rfl, hck⟩ := (HH.out.ext hx) k hlt
      go_wp2_with fail
      refine (elements1_any (f k) _).mono ?_
      rintro e w' ⟨rfl, hx'⟩
      cases hE : elB (f k)
      · go_wp2_with fail
        go_ret
        exact ⟨⟨_, rfl, Or.inr ⟨k, rfl, hlt, hE⟩⟩, hx.trans hx'⟩
      · go_wp2_with fail
        go_roundw
        case rel =>
          refine ⟨k + 1, by omega, by go_num, ?_, hx.trans hx'⟩
          intro j hj
          by_cases e : j = k
          · rw [e]; exact hE
          · exact HI.out j (by omega)
        case measure => simp [intOf]; omega
    · go_wp2_with fail
      go_ret
      exact ⟨⟨_, rfl, Or.inl ⟨rfl, fun i hi => HI.out i (by omega)⟩⟩, hx⟩
def allB (n : Nat) (f : Nat → Int) : Bool := (List.range n).all fun i => elB (f i)
theorem allB_true {n : Nat} {f : Nat → Int} (h : ∀ i, i < n → elB (f i) = true) : allB n f = true := by
  unfold allB
  rw [List.all_eq_true]
  exact fun x hx => h x (List.mem_range.1 hx)
theorem allB_of {n : Nat} {f : Nat → Int} (h : allB n f = true) {i : Nat} (hi : i < n) : elB (f i) = true := by
  unfold allB at h
  rw [List.all_eq_true] at h
  exact h i (List.mem_range.2 hi)
theorem allB_false {n : Nat} {f : Nat → Int} {k : Nat} (hk : k < n) (h : elB (f k) = false) : allB n f = false := by
  cases e : allB n f
  · rfl
  · rw [allB_of e hk] at h; cases h
set_option maxRecDepth 100000 in
theorem melements_any (a : Option Addr) (n c : Nat) (f : Nat → Int) (w : World) (hn : n ≤ 9223372036854775807) (h : Ints w a n f) :
    Calls Try.prog 101 #[.slice a n c] w fun e w' => e = .returned (.bool (allB n f)) ∧ Ext w w' := by
  have HC : ∀ w, Ints w a n f → Calls Try.prog 83 #[.slice a n c, .func (.func 107) #[] #[]] w fun e w' => e = .returned (.bool (!allB n f)) ∧ Ext w w' := by
    intro w h
    have HH : Hid (Ints w a n f) := h
    clear h
    go_enter Try.func83, Try.ntmps83
    go_wp2_with fail
    refine (index1_any a n c f _ hn HH.out).mono ?_
    rintro e w' ⟨⟨r, rfl, hr⟩, hx⟩
    have HR : Hid _ := hr
    clear hr
    by_cases h0 : 0 ≤ r
    · go_wp2_with fail
      go_ret
      rcases HR.out with ⟨h1, _⟩ | ⟨k, h1, h2, h3⟩
      · omega
      · rw [allB_false h2 h3]
        exact ⟨rfl, hx⟩
    · go_wp2_with fail
      go_ret
      rcases HR.out with ⟨_, h2⟩ | ⟨k, h1, h2, h3⟩
      · rw [allB_true h2]
        exact ⟨ret_bool (decide_eq_false (by omega)), hx⟩
      · omega
  have HH : Hid (Ints w a n f) := h
  have HC' : Hid _ := HC
  clear h HC
  go_enter Try.func101, Try.ntmps101
  go_wp2_with fail
  refine (HC'.out w HH.out).mono ?_
  rintro e w' ⟨rfl, hx⟩
  go_wp2_with fail
  go_ret
  exact ⟨rfl, hx⟩
def sideB (n : Nat) : Bool := decide (1 ≤ n) && decide (n ≤ 8)
theorem sideB_of (n : Nat) (h : 1 ≤ n) (h2 : n ≤ 8) : sideB n = true := by unfold sideB; simp; omega
theorem sideB_not (n : Nat) (h : n < 1 ∨ 8 < n) : sideB n = false := by unfold sideB; simp; omega
theorem sideB_bd {n : Nat} (h : sideB n = true) : 1 ≤ n ∧ n ≤ 8 := by unfold sideB at h; simp at h; omega
set_option maxRecDepth 100000 in
theorem side_any (n : Nat) (w : World) : Calls Try.prog 100 #[.int .i64 n] w fun e w' => e = .returned (.bool (sideB n)) ∧ w' = w := by
  by_cases h0 : (1 : Int) ≤ n
  · by_cases h1 : (n : Int) ≤ 8
    · go_enter Try.func100, Try.ntmps100
      go_wp2
      go_ret
      rw [sideB_of n (by omega) (by omega)]
      exact ⟨rfl, rfl⟩
    · go_enter Try.func100, Try.ntmps100
      go_wp2
      go_ret
      rw [sideB_not n (by omega)]
      exact ⟨rfl, rfl⟩
  · go_enter Try.func100, Try.ntmps100
    go_wp2
    go_ret
    rw [sideB_not n (by omega)]
    exact ⟨rfl, rfl⟩
end Go.Proofs.Ythgbfakmkdifbaa
/-
  mat.May at every matrix: a plain answer; the world only grows.
-/
namespace Go.Proofs.Ythgbfakmkdifbaa
open Go.RowKit
def mayB (n : Nat) (L : Nat → Nat) (F : Nat → Nat → Int) : Bool := sideB n && (List.range n).all fun r => sideB (L r) && decide (L r = L 0) && allB (L r) (F r)
def rowB (L : Nat → Nat) (F : Nat → Nat → Int) (r : Nat) : Bool := sideB (L r) && decide (L r = L 0) && allB (L r) (F r)
theorem mayB_false {n : Nat} {L : Nat → Nat} {F : Nat → Nat → Int} (h : sideB n = false) : mayB n L F = false := by unfold mayB; rw [h]; rfl
theorem mayB_row {n : Nat} {L : Nat → Nat} {F : Nat → Nat → Int} {r : Nat} (hr : r < n) (h : rowB L F r = false) : mayB n L F = false := by
  unfold mayB
  rw [Bool.and_eq_false_iff]
  right
  rw [List.all_eq_false]
  exact ⟨r, List.mem_range.2 hr, by rw [show (sideB (L r) && decide (L r = L 0) && allB (L r) (F r)) = false from h]; simp⟩
theorem mayB_true {n : Nat} {L : Nat → Nat} {F : Nat → Nat → Int} (h0 : sideB n = true) (h : ∀ r, r < n → rowB L F r = true) : mayB n L F = true := by
  unfold mayB
  rw [h0, Bool.true_and, List.all_eq_true]
  exact fun r hr => h r (List.mem_range.1 hr)
theorem mayB_of {n : Nat} {L : Nat → Nat} {F : Nat → Nat → Int} (h : mayB n L F = true) : (1 ≤ n ∧ n ≤ 8) ∧ (1 ≤ L 0 ∧ L 0 ≤ 8) ∧ ∀ r, r < n → L r = L 0 ∧ ∀ i, i < L 0 → 0 ≤ F r i ∧ F r i < 256 := by
  unfold mayB at h
  rw [Bool.and_eq_true, List.all_eq_true] at h
  have h1 := sideB_bd h.1
  have h2 : ∀ r, r < n → (1 ≤ L r ∧ L r ≤ 8) ∧ L r = L 0 ∧ allB (L r) (F r) = true := by
    intro r hr
    have := h.2 r (List.mem_range.2 hr)
    simp only [Bool.and_eq_true, decide_eq_true_eq] at this
    exact ⟨sideB_bd this.1.1, this.1.2, this.2⟩
  refine ⟨h1, (h2 0 (by omega)).1, fun r hr => ⟨(h2 r hr).2.1, fun i hi => ?_⟩⟩
  exact elB_bd _ (allB_of (h2 r hr).2.2 (by rw [(h2 r hr).2.1]; exact hi))
set_option maxRecDepth 100000 in
set_option maxHeartbeats 800000 in
theorem May_any (a : Option Addr) (n c : Nat) (A : Nat → Option Addr) (L C : Nat → Nat) (F : Nat → Nat → Int) (w : World) (h : Mat w a n A L C F) :
    Calls Try.prog 92 #[.slice a n c] w fun e w' => e = .returned (.bool (mayB n L F)) ∧ Ext w w' := by
  have HH : Hid (Mat w a n A L C F) := h
  clear h
  go_enter Try.func92, Try.ntmps92
  go_wp2_with fail
  refine (side_any n _).mono ?_
  rintro e w' ⟨rfl, rfl⟩
  cases hS : sideB n
  · go_wp2_with fail
    go_ret
    rw [mayB_false hS]
    exact ⟨rfl, Ext.refl _⟩
  · have hb := sideB_bd hS
    obtain ⟨b, o, rfl, hc⟩ := HH.out.at (by omega)
    have hc0 := hc 0 (by omega)
    rw [Nat.add_zero] at hc0
    have HC : Hid _ := hc
    clear hc
    go_wp2_with fail
    go_loopw [11] (fun i wr => ∃ k : Nat, k ≤ n ∧ i = .int .i64 k ∧ Hid (∀ j, j < k → rowB L F j = true) ∧ Ext w' wr) (fun i _ => n - (intOf i).toNat)
    case atStart => exact ⟨0, Nat.zero_le _, rfl, fun j h => by omega, Ext.refl _⟩
    case round =>
      obtain ⟨k, hk, rfl, HI, hx⟩ := hrel
      by_cases hlt : k < n
      · have hck := hx.keeps (HC.out k hlt)
        have hc0' := hx.keeps hc0
        have hi := (HH.out.row hlt).ext hx
        have HR : Hid _ := hi
        clear hi
        go_wp2_with fail
        refine (side_any (L k) _).mono ?_
        rintro e w1 ⟨rfl, rfl⟩
        cases hL : sideB (L k)
        · go_wp2_with fail
          go_ret
          rw [mayB_row hlt (by unfold rowB; rw [hL]; rfl)]
          exact ⟨rfl, hx⟩
        · by_cases he : L k = L 0
          · have hB : ((L k : Int) != (L 0 : Int)) = false := by rw [he]; simp
            have HE : Hid (L k = L 0) := he
            clear he
            have hl := sideB_bd hL
            go_wp2_with fail
            refine (melements_any (A k) (L k) (C k) (F k) _ (by omega) HR.out).mono ?_
            rintro e w2 ⟨rfl, hx2⟩
            cases hE : allB (L k) (F k)
            · go_wp2_with fail
              go_ret
              rw [mayB_row hlt (by unfold rowB; rw [hL, hE]; simp)]
              exact ⟨rfl, hx.trans hx2⟩
            · go_wp2_with fail
              go_roundw
              case rel =>
                refine ⟨k + 1, by omega, by go_num, ?_, hx.trans hx2⟩
                intro j hj
                by_cases e : j = k
                · rw [e]; unfold rowB; rw [hL, hE, HE.out]; simp
                · exact HI.out j (by omega)
              case measure => simp [intOf]; omega
          · have hB : ((L k : Int) != (L 0 : Int)) = true := by rw [bne_iff_ne]; omega
            have HE : Hid (¬ L k = L 0) := he
            clear he
            go_wp2_with fail
            go_ret
            rw [mayB_row hlt (by unfold rowB; rw [decide_eq_false HE.out]; simp)]
            exact ⟨rfl, hx⟩
      · go_wp2_with fail
        go_ret
        rw [mayB_true hS (fun r hr => HI.out r (by omega))]
        exact ⟨rfl, hx⟩
end Go.Proofs.Ythgbfakmkdifbaa
