/-
  sameBytes and sameLists of bytes and columns that have the same bytes: true; the world only grows.
-/
import Derived.Test.YthgbfakmkdifbaaChecked
import Derived.WalkKit
import Derived.BigQuiet
import Derived.Test.YthgbfakmkdifbaaByb
import Derived.Test.YthgbfakmkdifbaaQuiets
namespace Go.Proofs.Ythgbfakmkdifbaa
open Go.RowKit E
set_option maxRecDepth 100000 in
set_option maxHeartbeats 400000 in
theorem sameBytesL_any (a a' : Option Addr) (n c c' : Nat) (f g : Nat → E) (w : World) (hn : n ≤ 9223372036854775807) (h : Byts w a n f) (h' : Byts w a' n g) (he : ∀ i, i < n → f i = g i) :
    Calls Try.prog 28 #[.slice a n c, .slice a' n c'] w fun e w' => e = .returned (.bool true) ∧ Ext w w' := by
  have HH : Hid (Byts w a n f) := h
  have HI : Hid (Byts w a' n g) := h'
  have HE : Hid (∀ i, i < n → f i = g i) := he
  clear h h' he
  have hB : ((n : Int) != (n : Int)) = false := by simp
  go_enter Try.func28, Try.ntmps28
  go_wp2_with fail
  go_loopw [5] (fun i wr => ∃ k : Nat, k ≤ n ∧ i = .int .i64 k ∧ Ext w wr) (fun i _ => n - (intOf i).toNat)
  case atStart => exact ⟨0, Nat.zero_le _, rfl, Ext.refl _⟩
  case round =>
    obtain ⟨k, hk, rfl, hx⟩ := hrel
    by_cases hlt : k < n
    · obtain ⟨b, o, rfl, hck⟩ := (HH.out.ext hx) k hlt
      obtain ⟨b', o', rfl, hck'⟩ := (HI.out.ext hx) k hlt
      rw [← HE.out k hlt] at hck'
      have hC : (ev (f k) != ev (f k)) = false := by simp
      go_wp2_with fail
      go_region
      go_wp2_with fail
      go_roundw
      case rel => exact ⟨k + 1, by omega, by go_num, hx.drew⟩
      case measure => simp [intOf]; omega
    · go_wp2_with fail
      go_ret
      exact ⟨rfl, hx⟩
set_option maxRecDepth 100000 in
set_option maxHeartbeats 400000 in
theorem sameListsL_any (a a' : Option Addr) (n c c' : Nat) (A A' : Nat → Option Addr) (L L' C C' : Nat → Nat) (F F' : Nat → Nat → E) (w : World) (hn : n ≤ 9223372036854775807) (h : Cols w a n A L C F) (h' : Cols w a' n A' L' C' F') (he : ∀ r, r < n → L r = L' r ∧ L r ≤ 9223372036854775807 ∧ ∀ i, i < L r → F r i = F' r i) :
    Calls Try.prog 11 #[.slice a n c, .slice a' n c'] w fun e w' => e = .returned (.bool true) ∧ Ext w w' := by
  have HH : Hid (Cols w a n A L C F) := h
  have HI : Hid (Cols w a' n A' L' C' F') := h'
  have HE : Hid (∀ r, r < n → L r = L' r ∧ L r ≤ 9223372036854775807 ∧ ∀ i, i < L r → F r i = F' r i) := he
  clear h h' he
  have hB : ((n : Int) != (n : Int)) = false := by simp
  go_enter Try.func11, Try.ntmps11
  go_wp2_with fail
  go_loopw [5] (fun i wr => ∃ k : Nat, k ≤ n ∧ i = .int .i64 k ∧ Ext w wr) (fun i _ => n - (intOf i).toNat)
  case atStart => exact ⟨0, Nat.zero_le _, rfl, Ext.refl _⟩
  case round =>
    obtain ⟨k, hk, rfl, hx⟩ := hrel
    by_cases hlt : k < n
    · obtain ⟨⟨b, o, rfl, hck⟩, hr⟩ := (HH.out.ext hx) k hlt
      obtain ⟨⟨b', o', rfl, hck'⟩, hr'⟩ := (HI.out.ext hx) k hlt
      obtain ⟨e1, e2, e3⟩ := HE.out k hlt
      rw [← e1] at hck' hr'
      have HR : Hid (Byts wr (A k) (L k) (F k)) := hr
      have HR' : Hid (Byts wr (A' k) (L k) (F' k)) := hr'
      have E3 : Hid (∀ i, i < L k → F k i = F' k i) := e3
      clear hr hr' e1 e3
      have gA := fun x : Gr wr => x.ext.keeps hck
      have gB := fun x : Gr wr => x.ext.keeps hck'
      clear hck hck'
      go_wp2_with fail
      refine wp_region_grows 9 (by kernel_rfl) (by kernel_rfl) (fun hne => ?_)
      simp only [List.take_succ_cons, List.take_zero, List.drop_succ_cons, List.drop_zero]
      repeat (go_big_quiet_step (first | (go_at_call 28; exact Calls.grown (sameBytesL_any (A k) (A' k) (L k) (C k) (C' k) (F k) (F' k) _ e2 (HR.out.ext (Gr.ext _)) (HR'.out.ext (Gr.ext _)) E3.out))))
      refine wpQuiet_nil ?_
      intro w4 hw4
      obtain ⟨x, rfl⟩ := hw4
      clear gA gB
      go_wp2_with fail
      go_roundw
      case rel => exact ⟨k + 1, by omega, by go_num, hx.trans x.ext⟩
      case measure => simp [intOf]; omega
    · go_wp2_with fail
      go_ret
      exact ⟨rfl, hx⟩
set_option maxRecDepth 100000 in
set_option maxHeartbeats 400000 in
theorem sameBytesK_any (a a' : Option Addr) (n c c' : Nat) (f g : Nat → E) (w : World) (hn : n ≤ 9223372036854775807) (h : Byts w a n f) (h' : Byts w a' n g) (he : ∀ i, i < n → f i = g i) :
    Calls Try.prog 18 #[.slice a n c, .slice a' n c'] w fun e w' => e = .returned (.bool true) ∧ Ext w w' := by
  have HH : Hid (Byts w a n f) := h
  have HI : Hid (Byts w a' n g) := h'
  have HE : Hid (∀ i, i < n → f i = g i) := he
  clear h h' he
  have hB : ((n : Int) != (n : Int)) = false := by simp
  go_enter Try.func18, Try.ntmps18
  go_wp2_with fail
  go_loopw [5] (fun i wr => ∃ k : Nat, k ≤ n ∧ i = .int .i64 k ∧ Ext w wr) (fun i _ => n - (intOf i).toNat)
  case atStart => exact ⟨0, Nat.zero_le _, rfl, Ext.refl _⟩
  case round =>
    obtain ⟨k, hk, rfl, hx⟩ := hrel
    by_cases hlt : k < n
    · obtain ⟨b, o, rfl, hck⟩ := (HH.out.ext hx) k hlt
      obtain ⟨b', o', rfl, hck'⟩ := (HI.out.ext hx) k hlt
      rw [← HE.out k hlt] at hck'
      have hC : (ev (f k) != ev (f k)) = false := by simp
      go_wp2_with fail
      go_region
      go_wp2_with fail
      go_roundw
      case rel => exact ⟨k + 1, by omega, by go_num, hx.drew⟩
      case measure => simp [intOf]; omega
    · go_wp2_with fail
      go_ret
      exact ⟨rfl, hx⟩
end Go.Proofs.Ythgbfakmkdifbaa
