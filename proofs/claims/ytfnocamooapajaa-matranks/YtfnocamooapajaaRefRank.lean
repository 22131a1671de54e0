/-
  quicksetref.MatRank at every matrix, as the same plain functions; the world only grows.
-/
import Derived.Test.YtfnocamooapajaaChecked
import Derived.WalkKit
import Derived.Test.YtfnocamooapajaaRefSwept
import Derived.Test.YtfnocamooapajaaRefMay
import Derived.Test.YtfnocamooapajaaMatRank
namespace Go.Proofs.Ytfnocamooapajaa
open Go.RowKit Go.Deep E
set_option maxRecDepth 100000 in
set_option maxHeartbeats 400000 in
theorem MatRank_any (a : Option Addr) (n c : Nat) (A : Nat → Option Addr) (L C : Nat → Nat) (F : Nat → Nat → Int) (w : World) (h : Mat w a n A L C F) (hn : n ≤ 9223372036854775807) (hl : ∀ r, r < n → L r ≤ 9223372036854775807) :
    Calls Try.prog 18 #[.slice a n c] w fun e w' => e = .returned (.tuple #[.int .i64 (rankV n L F), .int .i64 (rankE n L F)]) ∧ Ext w w' := by
  have HH : Hid (Mat w a n A L C F) := h
  have HL : Hid (∀ r, r < n → L r ≤ 9223372036854775807) := hl
  clear h hl
  go_enter Try.func18, Try.ntmps18
  go_wp2_with fail
  refine (MatMay_any a n c A L C F _ HH.out hn HL.out).mono ?_
  rintro e w1 ⟨rfl, rfl⟩
  cases hM : mayB n L F
  · go_wp2_with fail
    go_ret2
    exact ⟨ret2 (by unfold rankV; rw [hM]; rfl) (by unfold rankE; rw [hM]; rfl), Ext.refl _⟩
  · obtain ⟨m1, m2, m3⟩ := mayB_of hM
    have M3 : Hid (Els n L F) := m3
    clear m3
    go_wp2_with fail
    refine (swept_any a n c (L 0) A C (elsOf F) _ m1 m2 (M3.out.mat HH.out)).mono ?_
    rintro e w2 ⟨rfl, hx2⟩
    go_wp2_with fail
    go_ret2
    exact ⟨ret2 (by unfold rankV; rw [hM]; rfl) (by unfold rankE; rw [hM]; rfl), hx2⟩
end Go.Proofs.Ytfnocamooapajaa
