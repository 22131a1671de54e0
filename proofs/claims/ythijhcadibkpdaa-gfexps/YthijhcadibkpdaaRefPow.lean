/-
  quicksetref.GfPow at every argument, as the same plain function; the memory stays as it was.
-/
import Derived.Test.YthijhcadibkpdaaChecked
import Derived.WalkKit
import Derived.Test.YthijhcadibkpdaaGfPow
import Derived.Test.YthijhcadibkpdaaRefFaces
import Derived.Test.YthijhcadibkpdaaRefExp
namespace Go.Proofs.Ythijhcadibkpdaa
open Go.RowKit
theorem mul_bd (l m : Nat) (hl : l < 255) (hm : m < 255) : l * m < 65025 := by
  have := Nat.mul_le_mul (show l ≤ 254 by omega) (show m ≤ 254 by omega)
  omega
theorem arg_nat (l : Nat) (n : Int) (hn : 0 ≤ n) : ((l : Int) * (n % 255)).toNat = l * (n.toNat % 255) := by
  obtain ⟨m, rfl⟩ := Int.eq_ofNat_of_zero_le hn
  rw [Int.toNat_natCast, show (l : Int) * ((m : Int) % 255) = ((l * (m % 255) : Nat) : Int) from by rw [Int.natCast_mul, Int.natCast_emod]; rfl, Int.toNat_natCast]
theorem arg_bd (l : Nat) (n : Int) (hl : l < 255) (hn : 0 ≤ n) : 0 ≤ (l : Int) * (n % 255) ∧ (l : Int) * (n % 255) < 65025 := by
  obtain ⟨m, rfl⟩ := Int.eq_ofNat_of_zero_le hn
  have := mul_bd l (m % 255) hl (by omega)
  rw [show (l : Int) * ((m : Int) % 255) = ((l * (m % 255) : Nat) : Int) from by rw [Int.natCast_mul, Int.natCast_emod]; rfl]
  omega
theorem logOf_int (a : Int) (w : World) (h0 : 0 < a) (ha : a < 256) :
    Calls Try.prog 27 #[.int .i64 a] w fun e w' => e = .returned (.int .i64 (Gf.lg a.toNat)) ∧ w' = w := by
  obtain ⟨x, rfl⟩ := Int.eq_ofNat_of_zero_le (show 0 ≤ a by omega)
  exact logOf_any x w (by omega) (by omega)
set_option maxRecDepth 100000 in
theorem GfPow_any (a n : Int) (w : World) (hn : n < 9223372036854775808) :
    Calls Try.prog 17 #[.int .i64 a, .int .i64 n] w fun e w' => e = .returned (.tuple #[.int .i64 (powV a n), .int .i64 (powE a n)]) ∧ w' = w := by
  cases ha : elB a
  · go_enter Try.func17, Try.ntmps17
    go_wp2_with (go_at_call 20; refine (Element_any _ _).mono ?_; rintro e w' ⟨rfl, rfl⟩)
    go_ret2
    exact ⟨ret2 (by simp [powV, powB, ha]) (by simp [powE, powB, ha]), rfl⟩
  · have hd := elB_bd a ha
    by_cases h0 : n < 0
    · go_enter Try.func17, Try.ntmps17
      go_wp2_with (go_at_call 20; refine (Element_any _ _).mono ?_; rintro e w' ⟨rfl, rfl⟩)
      go_ret2
      exact ⟨ret2 (by simp [powV, powB]; omega) (by simp [powE, powB]; omega), rfl⟩
    · have hB : powB a n = true := by unfold powB; rw [ha]; simp; omega
      have h1 : 0 ≤ n := by omega
      clear h0
      by_cases hm : n = 0
      · subst hm
        go_enter Try.func17, Try.ntmps17
        go_wp2_with (go_at_call 20; refine (Element_any _ _).mono ?_; rintro e w' ⟨rfl, rfl⟩)
        go_ret2
        exact ⟨ret2 (by rw [powV, if_pos hB]; rfl) (by rw [powE, if_pos hB]), rfl⟩
      · have hz : (n == 0) = false := by rw [beq_eq_false_iff_ne]; exact hm
        have hm0 : 0 < n := by omega
        clear hm
        by_cases hx : a = 0
        · subst hx
          go_enter Try.func17, Try.ntmps17
          go_wp2_with (go_at_call 20; refine (Element_any _ _).mono ?_; rintro e w' ⟨rfl, rfl⟩)
          go_ret2
          exact ⟨ret2 (by rw [powV, if_pos hB, Int.toNat_zero, Gf.gpow_zero _ (by omega)]; rfl) (by rw [powE, if_pos hB]), rfl⟩
        · have hz2 : (a == 0) = false := by rw [beq_eq_false_iff_ne]; exact hx
          have hx0 : 0 < a := by omega
          clear hx
          have hl := Gf.lg_lt a.toNat (by omega) (by omega)
          have HF := Gf.gpow_by_lg a.toNat n.toNat (by omega) (by omega)
          have hb := arg_bd (Gf.lg a.toNat) n hl h1
          have HG : Hid (Gf.gpow a.toNat n.toNat = Gf.gpow 2 ((((Gf.lg a.toNat : Nat) : Int) * (n % 255)).toNat % 255)) := by
            rw [arg_nat _ _ h1]; exact HF
          clear HF
          go_enter Try.func17, Try.ntmps17
          go_wp2_with (first | (go_at_call 20; refine (Element_any _ _).mono ?_; rintro e w' ⟨rfl, rfl⟩) | (go_at_call 27; refine (logOf_int _ _ hx0 hd.2).mono ?_; rintro e w' ⟨rfl, rfl⟩))
          refine (expOf_int _ _ hb.1 (by omega)).mono ?_
          rintro e w' ⟨rfl, rfl⟩
          go_wp2_with fail
          go_ret2
          exact ⟨ret2 (by rw [powV, if_pos hB, HG.out]) (by rw [powE, if_pos hB]), rfl⟩
end Go.Proofs.Ythijhcadibkpdaa
