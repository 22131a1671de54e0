/-
  stripe's small functions: sectors, width, longest, columnsOf, cut, filled: plain answers; the world only grows.
-/
import Derived.Test.YthgbfakmkdifbaaChecked
import Derived.WalkKit
import Derived.BigQuiet
import Derived.Deep.QuietTactic
import Derived.Test.YthgbfakmkdifbaaStMath
import Derived.Test.YthgbfakmkdifbaaByb
import Derived.Test.YthgbfakmkdifbaaMk
import Derived.Test.YthgbfakmkdifbaaGeoCol
namespace Go.Proofs.Ythgbfakmkdifbaa
open Go.RowKit Go.Deep E
theorem ret_intS {a b : Int} (h : a = b) : Ending.returned (.int .i64 a) = .returned (.int .i64 b) := by rw [h]
set_option maxRecDepth 100000 in
theorem sectors_any (n : Nat) (w : World) (hn : n ≤ 1048576) : Calls Try.prog 38 #[.int .i64 n] w fun e w' => e = .returned (.int .i64 (secs n : Nat)) ∧ w' = w := by
  have hq : ((n : Int) + 128 - 1).tdiv 128 = (secs n : Nat) := by
    rw [Int.tdiv_eq_ediv_of_nonneg (by omega)]
    unfold secs
    omega
  have hqb : secs n ≤ n + 127 := by unfold secs; omega
  go_enter Try.func38, Try.ntmps38
  go_wp2_with fail
  go_ret
  exact ⟨ret_intS (by unfold secs; go_num), rfl⟩
set_option maxRecDepth 100000 in
theorem width_any (x y z : Int) (n : Nat) (b : Bool) (hz : z = (n : Int)) (w : World) (hn : n ≤ 1048576) : Calls Try.prog 39 #[.agg #[.int .i64 x, .int .i64 y, .int .i64 z, .bool b]] w fun e w' => e = .returned (.int .i64 ((128 * n : Nat) : Int)) ∧ Ext w w' := by
  subst hz
  go_enter Try.func39, Try.ntmps39
  go_wp2_with fail
  go_ret
  exact ⟨ret_intS (by go_num), (Ext.refl _).alloc _ _⟩
/-- columns of a block from number q on -/
def CnS (w : World) (ac : Option Addr) (d p a c q k : Nat) : Prop := Els w ac 4 ((List.range k).map fun i => cell4 d p a (cntC d p c) (q + i))
theorem CnS.ext {w w' : World} {ac : Option Addr} {d p a c q k : Nat} (h : CnS w ac d p a c q k) (x : Ext w w') : CnS w' ac d p a c q k := Els.ext h x
theorem CnS.at {w : World} {ac : Option Addr} {d p a c q k : Nat} (h : CnS w ac d p a c q k) {i : Nat} (hi : i < k) : ∃ (b o : Nat) (x y : Int) (z : Bool), ac = some ⟨b, o, none⟩ ∧ w.cell? ⟨b, o + i * 4, none⟩ = some (.int .i64 x) ∧ w.cell? ⟨b, o + i * 4 + 1, none⟩ = some (.int .i64 y) ∧ w.cell? ⟨b, o + i * 4 + 2, none⟩ = some (.int .i64 (cntC d p c (q + i) : Nat)) ∧ w.cell? ⟨b, o + i * 4 + 3, none⟩ = some (.bool z) := by
  obtain ⟨b, o, h1, h2⟩ := h i (cell4 d p a (cntC d p c) (q + i)) (range_get _ hi)
  exact ⟨b, o, _, _, _, h1, h2 0 _ rfl, h2 1 _ rfl, h2 2 _ rfl, h2 3 _ rfl⟩
set_option maxRecDepth 100000 in
theorem longest_any (ac : Option Addr) (k cp d p a c : Nat) (w : World) (hk : 0 < k) (hc : cntC d p c 0 ≤ 1048576) (h : CnS w ac d p a c 0 k) :
    Calls Try.prog 25 #[.slice ac k cp] w fun e w' => e = .returned (.int .i64 (wdB d p c 0 : Nat)) ∧ Ext w w' := by
  obtain ⟨b, o, x, y, z, rfl, h0, h1, h2, h3⟩ := h.at hk
  rw [Nat.zero_mul, Nat.add_zero] at h0 h1 h2 h3
  rw [Nat.add_zero] at h2
  have hk' : ¬ ((k : Int) ≤ 0) := by omega
  have hk2 : (0 : Int) < (k : Int) := by omega
  go_enter Try.func25, Try.ntmps25
  go_wp2_with fail
  refine (width_any x y _ (cntC d p c 0) z rfl _ hc).mono ?_
  rintro e w1 ⟨rfl, hx1⟩
  go_wp2_with fail
  go_ret
  exact ⟨rfl, hx1⟩
set_option maxRecDepth 100000 in
theorem columnsOf_any (d p a n : Int) (m : Nat) (w : World) (hm : szOk m = true → n = m) (hm2 : szOk m = false → n < 1 ∨ 4096 < n) : Calls Try.prog 21 #[.int .i64 d, .int .i64 p, .int .i64 a, .int .i64 n] w fun e w' =>
    (∃ ad k cp, e = .returned (.tuple #[.slice ad k cp, .int .i64 (stE d p a m)]) ∧ (stOkB d p a m = true → k = colN d.toNat p.toNat (secs m) ∧ k ≤ cp ∧ CnS w' ad d.toNat p.toNat a.toNat (secs m) 0 k)) ∧ Ext w w' := by
  cases hs : szOk m with
  | false =>
    have h := hm2 hs
    have he : stE d p a m = 1 := by unfold stE; rw [hs]; rfl
    have HO : Hid (stOkB d p a m = false) := by show _ = _; unfold stOkB; rw [hs]; rfl
    rw [he]
    clear he
    clear hm hm2 hs
    by_cases h1 : n < 1
    · go_enter Try.func21, Try.ntmps21
      go_wp2_with fail
      go_ret2
      exact ⟨⟨none, 0, 0, rfl, fun h => by rw [HO.out] at h; cases h⟩, Ext.refl _⟩
    · have h2 : 4096 < n := by omega
      go_enter Try.func21, Try.ntmps21
      go_wp2_with fail
      go_ret2
      exact ⟨⟨none, 0, 0, rfl, fun h => by rw [HO.out] at h; cases h⟩, Ext.refl _⟩
  | true =>
    have h := (szOk_iff m).1 hs
    obtain rfl := hm hs
    have HS : Hid (szOk m = true) := hs
    clear hm hm2 hs
    have i1 : ¬ ((m : Int) < 1) := by omega
    have i2 : ¬ (4096 < (m : Int)) := by omega
    go_enter Try.func21, Try.ntmps21
    go_wp2_with fail
    refine (sectors_any m _ (by omega)).mono ?_
    rintro e w1 ⟨rfl, rfl⟩
    go_wp2_with fail
    refine (Columns_any d p a (secs m : Nat) _).mono ?_
    rintro e w2 ⟨⟨ad, k, cp, rfl, hl, hk8, hE, hcp⟩, hx⟩
    have HR : Hid (stOkB d p a m = true → k = colN d.toNat p.toNat (secs m) ∧ k ≤ cp ∧ CnS w2 ad d.toNat p.toNat a.toNat (secs m) 0 k) := fun ho => by
      unfold stOkB at ho
      rw [HS.out, Bool.true_and] at ho
      unfold gcL at hl hE
      rw [ho] at hl hE
      simp only [if_true, Int.toNat_natCast] at hl hE
      have hn : k = colN d.toNat p.toNat (secs m) := by
        rw [← hl]
        unfold colsL
        rw [List.length_map, List.length_range]
      refine ⟨hn, hcp, ?_⟩
      unfold CnS
      rw [hn]
      have e : (fun i => cell4 d.toNat p.toNat a.toNat (cntC d.toNat p.toNat (secs m)) (0 + i)) = cell4 d.toNat p.toNat a.toNat (cntC d.toNat p.toNat (secs m)) := by funext i; rw [Nat.zero_add]
      rw [e]
      exact hE
    have HST : Hid (stE d p a m = gcE d p a (secs m : Nat)) := by show _ = _; unfold stE; rw [HS.out]; rfl
    clear hl hE hcp
    go_wp2_with fail
    go_ret2
    rw [HST.out]
    exact ⟨⟨ad, k, cp, rfl, HR.out⟩, hx⟩
end Go.Proofs.Ythgbfakmkdifbaa
