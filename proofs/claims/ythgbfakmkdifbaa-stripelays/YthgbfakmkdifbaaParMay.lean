/-
  par.May at every list of columns: a plain answer; the world only grows.
-/
import Derived.Test.YthgbfakmkdifbaaChecked
import Derived.WalkKit
import Derived.Test.YthgbfakmkdifbaaByb
namespace Go.Proofs.Ythgbfakmkdifbaa
open Go.RowKit E
def fromTo (lo hi n : Int) : Bool := decide (lo ≤ n) && decide (n ≤ hi)
theorem fromTo_true {lo hi n : Int} (h : lo ≤ n ∧ n ≤ hi) : fromTo lo hi n = true := by unfold fromTo; simp; omega
theorem fromTo_false {lo hi n : Int} (h : ¬ (lo ≤ n ∧ n ≤ hi)) : fromTo lo hi n = false := by unfold fromTo; simp; omega
theorem fromTo_bd {lo hi n : Int} (h : fromTo lo hi n = true) : lo ≤ n ∧ n ≤ hi := by unfold fromTo at h; simp at h; omega
theorem fromTo_not {lo hi n : Int} (h : fromTo lo hi n = false) : ¬ (lo ≤ n ∧ n ≤ hi) := by unfold fromTo at h; simp at h; omega
set_option maxRecDepth 100000 in
theorem mayData_any (n : Int) (w : World) : Calls Try.prog 61 #[.int .i64 n] w fun e w' => e = .returned (.bool (fromTo 1 12 n)) ∧ w' = w := by
  by_cases h1 : 1 ≤ n
  · by_cases h2 : n ≤ 12
    · go_enter Try.func61, Try.ntmps61
      go_wp2
      go_ret
      rw [fromTo_true ⟨h1, h2⟩]
      exact ⟨rfl, rfl⟩
    · go_enter Try.func61, Try.ntmps61
      go_wp2
      go_ret
      rw [fromTo_false (by omega)]
      exact ⟨rfl, rfl⟩
  · go_enter Try.func61, Try.ntmps61
    go_wp2
    go_ret
    rw [fromTo_false (by omega)]
    exact ⟨rfl, rfl⟩
set_option maxRecDepth 100000 in
theorem mayParity_any (n : Int) (w : World) : Calls Try.prog 41 #[.int .i64 n] w fun e w' => e = .returned (.bool (fromTo 1 3 n)) ∧ w' = w := by
  by_cases h1 : 1 ≤ n
  · by_cases h2 : n ≤ 3
    · go_enter Try.func41, Try.ntmps41
      go_wp2
      go_ret
      rw [fromTo_true ⟨h1, h2⟩]
      exact ⟨rfl, rfl⟩
    · go_enter Try.func41, Try.ntmps41
      go_wp2
      go_ret
      rw [fromTo_false (by omega)]
      exact ⟨rfl, rfl⟩
  · go_enter Try.func41, Try.ntmps41
    go_wp2
    go_ret
    rw [fromTo_false (by omega)]
    exact ⟨rfl, rfl⟩
/-- a column as long as the first one, and not too long -/
def colB (L : Nat → Nat) (r : Nat) : Bool := decide (L r = L 0) && decide (L r ≤ 4096)
def alikeB (n : Nat) (L : Nat → Nat) : Bool := (List.range n).all (colB L)
theorem alikeB_true {n : Nat} {L : Nat → Nat} (h : ∀ r, r < n → colB L r = true) : alikeB n L = true := by
  unfold alikeB
  rw [List.all_eq_true]
  exact fun x hx => h x (List.mem_range.1 hx)
theorem alikeB_of {n : Nat} {L : Nat → Nat} (h : alikeB n L = true) {r : Nat} (hr : r < n) : L r = L 0 ∧ L r ≤ 4096 := by
  unfold alikeB at h
  rw [List.all_eq_true] at h
  have := h r (List.mem_range.2 hr)
  unfold colB at this
  simpa using this
theorem alikeB_false {n : Nat} {L : Nat → Nat} {r : Nat} (hr : r < n) (h : colB L r = false) : alikeB n L = false := by
  cases e : alikeB n L
  · rfl
  · have := alikeB_of e hr
    unfold colB at h
    simp at h
    omega
theorem ret_boolB {a b : Bool} (h : a = b) : Ending.returned (.bool a) = .returned (.bool b) := by rw [h]
set_option maxRecDepth 100000 in
theorem alike1_any (g : Nat) (a : Option Addr) (n c : Nat) (A : Nat → Option Addr) (L C : Nat → Nat) (F : Nat → Nat → E) (k : Nat) (w : World) (hk : k < n) (hg : w.cell? ⟨g, 0, none⟩ = some (.slice a n c)) (h : Cols w a n A L C F) :
    Calls Try.prog 78 #[.slice (A k) (L k) (C k), .pointer (some ⟨g, 0, none⟩)] w fun e w' => e = .returned (.bool (!colB L k)) ∧ w' = w := by
  obtain ⟨b, o, rfl, hc⟩ := h.at (by omega)
  have hc0 := hc 0 (by omega)
  rw [Nat.add_zero] at hc0
  clear h hc
  have h0 : 0 < n := by omega
  by_cases h1 : L k = L 0
  · have e1 : ((L k : Int) != (L 0 : Int)) = false := by rw [h1]; simp
    have H1 : Hid (L k = L 0) := h1
    clear h1
    by_cases h2 : L k ≤ 4096
    · go_enter Try.func78, Try.ntmps78
      go_wp2_with fail
      go_ret
      refine ⟨ret_boolB ?_, rfl⟩
      unfold colB
      rw [decide_eq_true H1.out, decide_eq_true h2]
      simp; omega
    · go_enter Try.func78, Try.ntmps78
      go_wp2_with fail
      go_ret
      refine ⟨ret_boolB ?_, rfl⟩
      unfold colB
      rw [decide_eq_true H1.out, decide_eq_false h2]
      simp; omega
  · have e1 : ((L k : Int) != (L 0 : Int)) = true := by rw [bne_iff_ne]; omega
    have H1 : Hid (¬ L k = L 0) := h1
    clear h1
    go_enter Try.func78, Try.ntmps78
    go_wp2_with fail
    go_ret
    refine ⟨ret_boolB ?_, rfl⟩
    unfold colB
    rw [decide_eq_false H1.out]
    rfl
set_option maxRecDepth 100000 in
set_option maxHeartbeats 400000 in
theorem indexCols_any (g : Nat) (a : Option Addr) (n c : Nat) (A : Nat → Option Addr) (L C : Nat → Nat) (F : Nat → Nat → E) (w : World) (hn : n ≤ 9223372036854775807) (hg : w.cell? ⟨g, 0, none⟩ = some (.slice a n c)) (h : Cols w a n A L C F) :
    Calls Try.prog 88 #[.slice a n c, .func (.func 78) #[] #[.pointer (some ⟨g, 0, none⟩)]] w fun e w' => (∃ r : Int, e = .returned (.int .i64 r) ∧ decide (0 ≤ r) = !alikeB n L) ∧ w' = w := by
  have HH : Hid (Cols w a n A L C F) := h
  have HG : Hid (w.cell? ⟨g, 0, none⟩ = some (.slice a n c)) := hg
  clear h hg
  go_enter Try.func88, Try.ntmps88
  go_wp2_with fail
  go_loop [8] (fun i => ∃ k : Nat, k ≤ n ∧ i = .int .i64 k ∧ Hid (∀ j, j < k → colB L j = true)) (fun i => n - (intOf i).toNat)
  case atStart => exact ⟨0, Nat.zero_le _, rfl, fun j h => by omega⟩
  case round =>
    obtain ⟨k, hk, rfl, HI⟩ := hrel
    by_cases hlt : k < n
    · obtain ⟨⟨b, o, rfl, hck⟩, _⟩ := HH.out k hlt
      go_wp2_with fail
      refine (alike1_any g _ n c A L C F k _ hlt HG.out HH.out).mono ?_
      rintro e w' ⟨rfl, rfl⟩
      cases hE : colB L k
      · go_wp2_with fail
        go_ret
        exact ⟨⟨_, rfl, by rw [alikeB_false hlt hE]; simp⟩, rfl⟩
      · go_wp2_with fail
        go_round
        case rel =>
          refine ⟨k + 1, by omega, by go_num, ?_⟩
          intro j hj
          by_cases e : j = k
          · rw [e]; exact hE
          · exact HI.out j (by omega)
        case measure => simp [intOf]; omega
    · go_wp2_with fail
      go_ret
      exact ⟨⟨_, rfl, by rw [alikeB_true fun r hr => HI.out r (by omega)]; simp⟩, rfl⟩
set_option maxRecDepth 100000 in
theorem containsCols_any (g : Nat) (a : Option Addr) (n c : Nat) (A : Nat → Option Addr) (L C : Nat → Nat) (F : Nat → Nat → E) (w : World) (hn : n ≤ 9223372036854775807) (hg : w.cell? ⟨g, 0, none⟩ = some (.slice a n c)) (h : Cols w a n A L C F) :
    Calls Try.prog 77 #[.slice a n c, .func (.func 78) #[] #[.pointer (some ⟨g, 0, none⟩)]] w fun e w' => e = .returned (.bool (!alikeB n L)) ∧ w' = w := by
  have HH : Hid (Cols w a n A L C F) := h
  have HG : Hid (w.cell? ⟨g, 0, none⟩ = some (.slice a n c)) := hg
  clear h hg
  go_enter Try.func77, Try.ntmps77
  go_wp2_with fail
  refine (indexCols_any g a n c A L C F _ hn HG.out HH.out).mono ?_
  rintro e w' ⟨⟨r, rfl, hr⟩, rfl⟩
  go_wp2_with fail
  go_ret
  exact ⟨rfl, rfl⟩
set_option maxRecDepth 100000 in
theorem alike_any (a : Option Addr) (n c : Nat) (A : Nat → Option Addr) (L C : Nat → Nat) (F : Nat → Nat → E) (w : World) (hn : n ≤ 9223372036854775807) (h : Cols w a n A L C F) :
    Calls Try.prog 62 #[.slice a n c] w fun e w' => e = .returned (.bool (alikeB n L)) ∧ Ext w w' := by
  have HH : Hid (Cols w a n A L C F) := h
  clear h
  go_enter Try.func62, Try.ntmps62
  go_wp2_with fail
  refine (containsCols_any w.heap.size a n c A L C F _ hn (by rw [new_cell]; rfl) (HH.out.ext ((Ext.refl w).alloc _ _))).mono ?_
  rintro e w' ⟨rfl, rfl⟩
  go_wp2_with fail
  go_ret
  exact ⟨rfl, (Ext.refl w).alloc _ _⟩
def pmayB (n : Nat) (L : Nat → Nat) : Bool := fromTo 1 12 n && alikeB n L
set_option maxRecDepth 100000 in
theorem pMay_any (a : Option Addr) (n c : Nat) (A : Nat → Option Addr) (L C : Nat → Nat) (F : Nat → Nat → E) (w : World) (hn : n ≤ 9223372036854775807) (h : Cols w a n A L C F) :
    Calls Try.prog 40 #[.slice a n c] w fun e w' => e = .returned (.bool (pmayB n L)) ∧ Ext w w' := by
  have HH : Hid (Cols w a n A L C F) := h
  clear h
  go_enter Try.func40, Try.ntmps40
  go_wp2_with fail
  refine (mayData_any n _).mono ?_
  rintro e w' ⟨rfl, rfl⟩
  cases hS : fromTo 1 12 n
  · go_wp2_with fail
    go_ret
    exact ⟨ret_boolB (by unfold pmayB; rw [hS]; rfl), Ext.refl _⟩
  · go_wp2_with fail
    refine (alike_any a n c A L C F _ hn HH.out).mono ?_
    rintro e w1 ⟨rfl, hx⟩
    go_wp2_with fail
    go_ret
    exact ⟨ret_boolB (by unfold pmayB; rw [hS]; rfl), hx⟩
end Go.Proofs.Ythgbfakmkdifbaa
