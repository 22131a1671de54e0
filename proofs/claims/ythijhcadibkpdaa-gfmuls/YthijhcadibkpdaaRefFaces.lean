/-
  quicksetref.GfAdd, GfMul and GfDiv at every argument, as the same plain functions; the memory stays as it was.
-/
import Derived.Test.YthijhcadibkpdaaChecked
import Derived.WalkKit
import Derived.Test.YthijhcadibkpdaaGfFaces
import Derived.Test.YthijhcadibkpdaaRefMul
namespace Go.Proofs.Ythijhcadibkpdaa
open Go.RowKit
set_option maxRecDepth 100000 in
theorem Element_any (a : Int) (w : World) :
    Calls Try.prog 20 #[.int .i64 a] w fun e w' => e = .returned (.bool (elB a)) ∧ w' = w := by
  by_cases h0 : 0 ≤ a
  · by_cases h1 : a < 256
    · have h2 : a ≤ 255 := by omega
      go_enter Try.func20, Try.ntmps20
      go_wp2
      go_ret
      rw [elB_of a (by omega) h1]
      exact ⟨rfl, rfl⟩
    · have h2 : ¬ a ≤ 255 := by omega
      go_enter Try.func20, Try.ntmps20
      go_wp2
      go_ret
      rw [elB_not a (by omega)]
      exact ⟨rfl, rfl⟩
  · go_enter Try.func20, Try.ntmps20
    go_wp2
    go_ret
    rw [elB_not a (by omega)]
    exact ⟨rfl, rfl⟩
theorem or_sub_and (x y : Nat) (hx : x < 256) (hy : y < 256) : ((x ||| y : Nat) : Int) - ((x &&& y : Nat) : Int) = ((x ^^^ y : Nat) : Int) := by
  have h : ∀ x, x < 256 → ∀ y, y < 256 → (x ^^^ y) + (x &&& y) = (x ||| y) := by decide +kernel
  have := h x hx y hy
  omega
theorem mulOf_int (a b : Int) (w : World) (ha : 0 ≤ a) (ha2 : a < 256) (hb : 0 ≤ b) :
    Calls Try.prog 22 #[.int .i64 a, .int .i64 b] w fun e w' => e = .returned (.int .i64 (Gf.gmul a.toNat b.toNat)) ∧ w' = w := by
  obtain ⟨x, rfl⟩ := Int.eq_ofNat_of_zero_le ha
  obtain ⟨y, rfl⟩ := Int.eq_ofNat_of_zero_le hb
  exact mulOf_any x y w (by omega)

set_option maxRecDepth 100000 in
theorem GfAdd_any (a b : Int) (w : World) :
    Calls Try.prog 10 #[.int .i64 a, .int .i64 b] w fun e w' => e = .returned (.tuple #[.int .i64 (addV a b), .int .i64 (rangeE a b)]) ∧ w' = w := by
  cases hB : pairB a b
  · have HB : Hid (pairB a b = false) := hB
    cases ha : elB a
    · go_enter Try.func10, Try.ntmps10
      go_wp2_with (go_at_call 20; refine (Element_any _ _).mono ?_; rintro e w' ⟨rfl, rfl⟩)
      go_ret2
      exact ⟨ret2 (by simp [addV, HB.out]) (by simp [rangeE, HB.out]), rfl⟩
    · have hb : elB b = false := by unfold pairB at hB; rw [ha] at hB; simpa using hB
      go_enter Try.func10, Try.ntmps10
      go_wp2_with (go_at_call 20; refine (Element_any _ _).mono ?_; rintro e w' ⟨rfl, rfl⟩)
      go_ret2
      exact ⟨ret2 (by simp [addV, HB.out]) (by simp [rangeE, HB.out]), rfl⟩
  · have hd := pair_bd a b hB
    have ha : elB a = true := elB_of a (by omega) (by omega)
    have hb : elB b = true := elB_of b (by omega) (by omega)
    obtain ⟨x, rfl⟩ := Int.eq_ofNat_of_zero_le hd.1.1
    obtain ⟨y, rfl⟩ := Int.eq_ofNat_of_zero_le hd.2.1
    have ho := i64_or x y (by omega) (by omega)
    have hn := i64_and x y (by omega) (by omega)
    have h1 : x ||| y < 256 := Nat.or_lt_two_pow (n := 8) (by omega) (by omega)
    have h2 : x &&& y < 256 := Nat.and_lt_two_pow (n := 8) _ (by omega)
    go_enter Try.func10, Try.ntmps10
    go_wp2_with (go_at_call 20; refine (Element_any _ _).mono ?_; rintro e w' ⟨rfl, rfl⟩)
    go_ret2
    exact ⟨ret2 (by rw [addV, if_pos hB]; exact or_sub_and x y (by omega) (by omega)) (by simp [rangeE, hB]), rfl⟩

set_option maxRecDepth 100000 in
theorem GfMul_any (a b : Int) (w : World) :
    Calls Try.prog 12 #[.int .i64 a, .int .i64 b] w fun e w' => e = .returned (.tuple #[.int .i64 (mulV a b), .int .i64 (rangeE a b)]) ∧ w' = w := by
  cases hB : pairB a b
  · have HB : Hid (pairB a b = false) := hB
    cases ha : elB a
    · go_enter Try.func12, Try.ntmps12
      go_wp2_with (go_at_call 20; refine (Element_any _ _).mono ?_; rintro e w' ⟨rfl, rfl⟩)
      go_ret2
      exact ⟨ret2 (by simp [mulV, HB.out]) (by simp [rangeE, HB.out]), rfl⟩
    · have hb : elB b = false := by unfold pairB at hB; rw [ha] at hB; simpa using hB
      go_enter Try.func12, Try.ntmps12
      go_wp2_with (go_at_call 20; refine (Element_any _ _).mono ?_; rintro e w' ⟨rfl, rfl⟩)
      go_ret2
      exact ⟨ret2 (by simp [mulV, HB.out]) (by simp [rangeE, HB.out]), rfl⟩
  · have hd := pair_bd a b hB
    have ha : elB a = true := elB_of a (by omega) (by omega)
    have hb : elB b = true := elB_of b (by omega) (by omega)
    go_enter Try.func12, Try.ntmps12
    go_wp2_with (first | (go_at_call 20; refine (Element_any _ _).mono ?_; rintro e w' ⟨rfl, rfl⟩) | (go_at_call 22; refine (mulOf_int _ _ _ hd.1.1 hd.1.2 hd.2.1).mono ?_; rintro e w' ⟨rfl, rfl⟩))
    go_ret2
    exact ⟨ret2 (by rw [mulV, if_pos hB]) (by simp [rangeE, hB]), rfl⟩

set_option maxRecDepth 100000 in
theorem divOf_any (a b : Nat) (w : World) (ha : a < 256) (h0 : 0 < b) (hb : b < 256) :
    Calls Try.prog 24 #[.int .i64 a, .int .i64 b] w fun e w' => e = .returned (.int .i64 (Gf.gmul a (Gf.inv b))) ∧ w' = w := by
  have hq := Gf.gmul_lt a (Gf.inv b) ha
  have HQ : Hid (Gf.gmul (Gf.gmul a (Gf.inv b)) b = a) := Gf.div_gmul a b ha h0 hb
  have HO : Hid (∀ x, x < 256 → Gf.gmul x b = a → x = Gf.gmul a (Gf.inv b)) := fun x hx h => Gf.div_only x a b hx h0 hb h
  generalize Gf.gmul a (Gf.inv b) = q at hq HQ HO
  go_enter Try.func24, Try.ntmps24
  go_wp2
  go_loop [5] (fun x => ∃ i : Nat, i ≤ q ∧ x = .int .i64 i) (fun x => 256 - (intOf x).toNat)
  case atStart => exact ⟨0, by omega, rfl⟩
  case round =>
    obtain ⟨i, hi, rfl⟩ := hrel
    have hi2 : i < 256 := by omega
    by_cases he : i = q
    · subst he
      have hz : ((Gf.gmul i b : Nat) : Int) = (a : Int) := by rw [HQ.out]
      go_wp2_with (go_at_call 22; refine (mulOf_any _ _ _ (by omega)).mono ?_; rintro e w' ⟨rfl, rfl⟩)
      go_ret
      exact ⟨rfl, rfl⟩
    · have hz : (((Gf.gmul i b : Nat) : Int) == (a : Int)) = false := by
        rw [beq_eq_false_iff_ne]
        intro h
        exact he (HO.out i hi2 (by omega))
      go_wp2_with (go_at_call 22; refine (mulOf_any _ _ _ (by omega)).mono ?_; rintro e w' ⟨rfl, rfl⟩)
      go_round
      case rel => exact ⟨i + 1, by omega, by go_num⟩
      case measure => simp [intOf]; omega
end Go.Proofs.Ythijhcadibkpdaa
