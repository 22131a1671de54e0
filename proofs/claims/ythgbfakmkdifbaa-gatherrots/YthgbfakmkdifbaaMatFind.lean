/-
  slices.IndexFunc with mat.reduce's closure: the first row that has something in a column; the world only grows.
-/
import Derived.Test.YthgbfakmkdifbaaChecked
import Derived.WalkKit
import Derived.Test.YthgbfakmkdifbaaMm
import Derived.Test.YthgbfakmkdifbaaAlg
namespace Go.Proofs.Ythgbfakmkdifbaa
open Go.RowKit Go.Deep E
set_option maxRecDepth 100000 in
theorem reduce1_any (q j : Nat) (a : Option Addr) (m c : Nat) (g : Nat → E) (w : World) (hj : j < m) (hq : w.cell? ⟨q, 0, none⟩ = some (.int .i64 j)) (h : Ints w a m fun i => ev (g i)) :
    Calls Try.prog 103 #[.slice a m c, .pointer (some ⟨q, 0, none⟩)] w fun e w' => e = .returned (.bool (!isZe (g j))) ∧ Ext w w' := by
  obtain ⟨b, o, rfl, hcj⟩ := h j hj
  clear h
  go_enter Try.func103, Try.ntmps103
  go_wp2_with fail
  go_ret
  rw [← ev_notZe]
  exact ⟨rfl, Ext.refl _⟩
set_option maxRecDepth 100000 in
set_option maxHeartbeats 400000 in
theorem indexNZ_any (q j : Nat) (a : Option Addr) (k c m : Nat) (A : Nat → Option Addr) (C : Nat → Nat) (M : Nat → Nat → E) (w : World) (hk : k ≤ 1073741824) (hj : j < m) (hq : w.cell? ⟨q, 0, none⟩ = some (.int .i64 j)) (h : Mat w a k A (fun _ => m) C fun r i => ev (M r i)) :
    Calls Try.prog 102 #[.slice a k c, .func (.func 103) #[] #[.pointer (some ⟨q, 0, none⟩)]] w fun e w' => (∃ p : Nat, p = findNZ M j k 0 ∧ e = .returned (.int .i64 (if p < k then p else -1))) ∧ Ext w w' := by
  have HH : Hid (Mat w a k A (fun _ => m) C fun r i => ev (M r i)) := h
  have HQ : Hid (w.cell? ⟨q, 0, none⟩ = some (.int .i64 j)) := hq
  clear h hq
  go_enter Try.func102, Try.ntmps102
  go_wp2_with fail
  go_loopw [8] (fun i wr => ∃ r : Nat, r ≤ k ∧ i = .int .i64 r ∧ Hid (∀ s, s < r → M s j = ze) ∧ Ext w wr) (fun i _ => k - (intOf i).toNat)
  case atStart => exact ⟨0, Nat.zero_le _, rfl, fun j h => by omega, Ext.refl _⟩
  case round =>
    obtain ⟨r, hr, rfl, HI, hx⟩ := hrel
    by_cases hlt : r < k
    · obtain ⟨⟨b, o, rfl, hck⟩, hrow⟩ := (HH.out.ext hx) r hlt
      have HR : Hid (Ints wr (A r) m fun i => ev (M r i)) := hrow
      clear hrow
      go_wp2_with fail
      refine (reduce1_any q j (A r) m (C r) (M r) _ hj (hx.keeps HQ.out) HR.out).mono ?_
      rintro e w' ⟨rfl, hx'⟩
      cases hE : isZe (M r j)
      · go_wp2_with fail
        go_ret
        refine ⟨⟨r, (findNZ_unique (Nat.zero_le _) (by omega) (fun i _ h2 => HI.out i h2) (fun _ => (isZe_false _).1 hE)).symm, ?_⟩, hx.trans hx'⟩
        rw [if_pos hlt]
        rfl
      · go_wp2_with fail
        go_roundw
        case rel =>
          refine ⟨r + 1, by omega, by go_num, ?_, hx.trans hx'⟩
          intro s hs
          by_cases e : s = r
          · rw [e]; exact (isZe_iff _).1 hE
          · exact HI.out s (by omega)
        case measure => simp [intOf]; omega
    · obtain rfl : r = k := by omega
      go_wp2_with fail
      go_ret
      refine ⟨⟨r, (findNZ_unique (Nat.zero_le _) (by omega) (fun i _ h2 => HI.out i h2) (fun h => by omega)).symm, ?_⟩, hx⟩
      rw [if_neg (by omega)]
      rfl
end Go.Proofs.Ythgbfakmkdifbaa
