/-
  quicksetref.GfDiv, expOf and logOf at every argument that they are called with; the memory stays as it was.
-/
import Derived.Test.YthijhcadibkpdaaChecked
import Derived.WalkKit
import Derived.Test.YthijhcadibkpdaaRefFaces
namespace Go.Proofs.Ythijhcadibkpdaa
open Go.RowKit
theorem divOf_int (a b : Int) (w : World) (ha : 0 ≤ a) (ha2 : a < 256) (hb : 0 < b) (hb2 : b < 256) :
    Calls Try.prog 24 #[.int .i64 a, .int .i64 b] w fun e w' => e = .returned (.int .i64 (Gf.gmul a.toNat (Gf.inv b.toNat))) ∧ w' = w := by
  obtain ⟨x, rfl⟩ := Int.eq_ofNat_of_zero_le ha
  obtain ⟨y, rfl⟩ := Int.eq_ofNat_of_zero_le (show 0 ≤ b by omega)
  exact divOf_any x y w (by omega) (by omega) (by omega)
set_option maxRecDepth 100000 in
theorem GfDiv_any (a b : Int) (w : World) :
    Calls Try.prog 14 #[.int .i64 a, .int .i64 b] w fun e w' => e = .returned (.tuple #[.int .i64 (divV a b), .int .i64 (divE a b)]) ∧ w' = w := by
  cases hB : pairB a b
  · have HB : Hid (pairB a b = false) := hB
    cases ha : elB a
    · go_enter Try.func14, Try.ntmps14
      go_wp2_with (go_at_call 20; refine (Element_any _ _).mono ?_; rintro e w' ⟨rfl, rfl⟩)
      go_ret2
      exact ⟨ret2 (by simp [divV, HB.out]) (by simp [divE, HB.out]), rfl⟩
    · have hb : elB b = false := by unfold pairB at hB; rw [ha] at hB; simpa using hB
      go_enter Try.func14, Try.ntmps14
      go_wp2_with (go_at_call 20; refine (Element_any _ _).mono ?_; rintro e w' ⟨rfl, rfl⟩)
      go_ret2
      exact ⟨ret2 (by simp [divV, HB.out]) (by simp [divE, HB.out]), rfl⟩
  · have hd := pair_bd a b hB
    have ha : elB a = true := elB_of a (by omega) (by omega)
    have hb : elB b = true := elB_of b (by omega) (by omega)
    by_cases h0 : b = 0
    · subst h0
      go_enter Try.func14, Try.ntmps14
      go_wp2_with (go_at_call 20; refine (Element_any _ _).mono ?_; rintro e w' ⟨rfl, rfl⟩)
      go_ret2
      exact ⟨ret2 (by simp [divV]) (by simp [divE, hB]), rfl⟩
    · have hz : (b == 0) = false := beq_eq_false_iff_ne.2 h0
      have H0 : Hid (¬ b = 0) := h0
      have hp : 0 < b := by omega
      clear h0
      go_enter Try.func14, Try.ntmps14
      go_wp2_with (first | (go_at_call 20; refine (Element_any _ _).mono ?_; rintro e w' ⟨rfl, rfl⟩) | (go_at_call 24; refine (divOf_int _ _ _ hd.1.1 hd.1.2 hp hd.2.2).mono ?_; rintro e w' ⟨rfl, rfl⟩))
      go_ret2
      exact ⟨ret2 (by rw [divV, if_pos hB, if_neg H0.out]) (by rw [divE, if_pos hB, if_neg H0.out]), rfl⟩
end Go.Proofs.Ythijhcadibkpdaa
