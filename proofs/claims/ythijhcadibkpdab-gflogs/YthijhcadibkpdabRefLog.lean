/-
  quicksetref.GfLog at every argument, as the same plain function; the memory stays as it was.
-/
import Derived.Test.YthijhcadibkpdabChecked
import Derived.WalkKit
import Derived.Test.YthijhcadibkpdabGfLog
import Derived.Test.YthijhcadibkpdabRefEl
import Derived.Test.YthijhcadibkpdabRefExp
namespace Go.Proofs.Ythijhcadibkpdab
open Go.RowKit
set_option maxRecDepth 100000 in
theorem GfLog_any (a : Int) (w : World) :
    Calls Try.prog 9 #[.int .i64 a] w fun e w' => e = .returned (.tuple #[.int .i64 (logV a), .int .i64 (logE a)]) ∧ w' = w := by
  cases ha : elB a
  · go_enter Try.func9, Try.ntmps9
    go_wp2_with (go_at_call 19; refine (Element_any _ _).mono ?_; rintro e w' ⟨rfl, rfl⟩)
    go_ret2
    exact ⟨ret2 (by simp [logV, ha]) (by simp [logE, ha]), rfl⟩
  · have hd := elB_bd a ha
    by_cases h0 : a = 0
    · subst h0
      go_enter Try.func9, Try.ntmps9
      go_wp2_with (go_at_call 19; refine (Element_any _ _).mono ?_; rintro e w' ⟨rfl, rfl⟩)
      go_ret2
      exact ⟨ret2 (by simp [logV]) (by simp [logE, ha]), rfl⟩
    · have hz : (a == 0) = false := by rw [beq_eq_false_iff_ne]; exact h0
      have H0 : Hid (¬ a = 0) := h0
      have hx0 : 0 < a := by omega
      clear h0
      go_enter Try.func9, Try.ntmps9
      go_wp2_with (first | (go_at_call 19; refine (Element_any _ _).mono ?_; rintro e w' ⟨rfl, rfl⟩) | (go_at_call 20; refine (logOf_int _ _ hx0 hd.2).mono ?_; rintro e w' ⟨rfl, rfl⟩))
      go_ret2
      exact ⟨ret2 (by rw [logV, if_pos ha, if_neg H0.out]) (by rw [logE, if_pos ha, if_neg H0.out]), rfl⟩
end Go.Proofs.Ythijhcadibkpdab
