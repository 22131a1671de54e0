/-
  gf.Log at every argument, as a plain function; the world only grows.
-/
import Derived.Test.YthijhcadibkpdabChecked
import Derived.WalkKit
import Derived.Test.YthijhcadibkpdabGfFaces
namespace Go.Proofs.Ythijhcadibkpdab
open Go.RowKit
def logV (a : Int) : Int := if elB a then (if a = 0 then 0 else ((Gf.lg a.toNat : Nat) : Int)) else 0
def logE (a : Int) : Int := if elB a then (if a = 0 then 10 else 0) else 2
set_option maxRecDepth 100000 in
theorem Log_any (a : Int) (w : World) :
    Calls Try.prog 8 #[.int .i64 a] w fun e w' => e = .returned (.tuple #[.int .i64 (logV a), .int .i64 (logE a)]) ∧ Ext w w' := by
  cases ha : elB a
  · go_enter Try.func8, Try.ntmps8
    go_wp2_with fail
    refine (elements_one a _ w).mono ?_
    rintro e w' ⟨rfl, rfl⟩
    go_wp2_with fail
    go_ret2
    exact ⟨ret2 (by simp [logV, ha]) (by simp [logE, ha]), (Ext.refl _).alloc _ _⟩
  · have hd := elB_bd a ha
    by_cases h0 : a = 0
    · subst h0
      go_enter Try.func8, Try.ntmps8
      go_wp2_with fail
      refine (elements_one 0 _ w).mono ?_
      rintro e w' ⟨rfl, rfl⟩
      go_wp2_with fail
      go_ret2
      exact ⟨ret2 (by simp [logV]) (by simp [logE, ha]), (Ext.refl _).alloc _ _⟩
    · obtain ⟨x, rfl⟩ := Int.eq_ofNat_of_zero_le hd.1
      have hz : ((x : Int) == 0) = false := by rw [beq_eq_false_iff_ne]; exact h0
      have H0 : Hid (¬ (x : Int) = 0) := h0
      have hx0 : 0 < x := by omega
      clear h0
      have hq := Gf.lg_lt x hx0 (by omega)
      have HQ : Hid (Gf.gpow 2 (Gf.lg x) = x) := Gf.gpow_lg x hx0 (by omega)
      have HO : Hid (∀ j, j < Gf.lg x → Gf.gpow 2 j ≠ x) := fun j h => Gf.lg_least x j h
      have HV : Hid (((Gf.lg x : Nat) : Int) = logV x) := by
        show _ = _
        rw [logV, if_pos ha, if_neg H0.out, Int.toNat_natCast]
      have HE : Hid (0 = logE x) := by
        show _ = _
        rw [logE, if_pos ha, if_neg H0.out]
      generalize Gf.lg x = q at hq HQ HO HV
      go_enter Try.func8, Try.ntmps8
      go_wp2_with fail
      refine (elements_one x _ w).mono ?_
      rintro e w' ⟨rfl, rfl⟩
      go_wp2_with fail
      go_loop [4, 5] (fun n p => ∃ i : Nat, i ≤ q ∧ n = .int .i64 i ∧ p = .int .i64 (Gf.gpow 2 i)) (fun n _ => 255 - (intOf n).toNat)
      case atStart => exact ⟨0, by omega, rfl, rfl⟩
      case round =>
        obtain ⟨i, hi, rfl, rfl⟩ := hrel
        have hl := Gf.gpow_lt 2 i
        by_cases he : i = q
        · subst he
          have hz : (((Gf.gpow 2 i : Nat) : Int) != (x : Int)) = false := by rw [HQ.out]; simp
          go_wp2_with fail
          go_ret2
          exact ⟨ret2 HV.out HE.out, (Ext.refl _).alloc _ _⟩
        · have hz : (((Gf.gpow 2 i : Nat) : Int) != (x : Int)) = true := by
            rw [bne_iff_ne]
            intro h
            exact HO.out i (by omega) (by omega)
          go_wp2_with fail
          refine (product_any (Gf.gpow 2 i) 2 _ (by omega) (by omega)).mono ?_
          rintro e w' ⟨rfl, rfl⟩
          go_wp2_with fail
          go_round
          case rel => exact ⟨i + 1, by omega, by go_num, rfl⟩
          case measure => simp [intOf]; omega
end Go.Proofs.Ythijhcadibkpdab
