/-
  sameBytes and sameLists of bytes and columns that have the same bytes: true; the world only grows.
-/
import Derived.Test.YtemndnpbbkjmhabChecked
import Derived.WalkKit
import Derived.BigQuiet
import Derived.Test.YtemndnpbbkjmhabByb
import Derived.Test.YtemndnpbbkjmhabQuiets
namespace Go.Proofs.Ytemndnpbbkjmhab
open Go.RowKit E
set_option maxRecDepth 100000 in
set_option maxHeartbeats 400000 in
theorem sameBytesK_any (a a' : Option Addr) (n c c' : Nat) (f g : Nat → E) (w : World) (hn : n ≤ 9223372036854775807) (h : Byts w a n f) (h' : Byts w a' n g) (he : ∀ i, i < n → f i = g i) :
    Calls Try.prog 17 #[.slice a n c, .slice a' n c'] w fun e w' => e = .returned (.bool true) ∧ Ext w w' := by
  have HH : Hid (Byts w a n f) := h
  have HI : Hid (Byts w a' n g) := h'
  have HE : Hid (∀ i, i < n → f i = g i) := he
  clear h h' he
  have hB : ((n : Int) != (n : Int)) = false := by simp
  go_enter Try.func17, Try.ntmps17
  go_wp2_with fail
  go_loopw [5] (fun i wr => ∃ k : Nat, k ≤ n ∧ i = .int .i64 k ∧ Ext w wr) (fun i _ => n - (intOf i).toNat)
  case atStart => exact ⟨0, Nat.zero_le _, rfl, Ext.refl _⟩
  case round =>
    obtain ⟨k, hk, rfl, hx⟩ := hrel
    by_cases hlt : k < n
    · obtain ⟨b, o, rfl, hck⟩ := (HH.out.ext hx) k hlt
      obtain ⟨b', o', rfl, hck'⟩ := (HI.out.ext hx) k hlt
      rw [← HE.out k hlt] at hck'
      have hC : (ev (f k) != ev (f k)) = false := by simp
      go_wp2_with fail
      go_region
      go_wp2_with fail
      go_roundw
      case rel => exact ⟨k + 1, by omega, by go_num, hx.drew⟩
      case measure => simp [intOf]; omega
    · go_wp2_with fail
      go_ret
      exact ⟨rfl, hx⟩
end Go.Proofs.Ytemndnpbbkjmhab
