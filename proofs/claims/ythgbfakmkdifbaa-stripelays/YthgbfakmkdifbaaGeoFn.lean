/-
  The functions of geom that call few others, and the document's.
-/
import Derived.Test.YthgbfakmkdifbaaChecked
import Derived.WalkKit
import Derived.BigQuiet
import Derived.OwnWalk
import Derived.Test.YthgbfakmkdifbaaMm
import Derived.Test.YthgbfakmkdifbaaGeoMath
namespace Go.Proofs.Ythgbfakmkdifbaa
open Go.RowKit
theorem ret_boolG {a b : Bool} (h : a = b) : Ending.returned (.bool a) = .returned (.bool b) := by rw [h]
theorem ret_intG {a b : Int} (h : a = b) : Ending.returned (.int .i64 a) = .returned (.int .i64 b) := by rw [h]
theorem ret_two {a b c d : Int} (h : a = b) (k : c = d) : Ending.returned (.tuple #[.int .i64 a, .int .i64 c]) = .returned (.tuple #[.int .i64 b, .int .i64 d]) := by rw [h, k]
theorem ret_three {a b c d x y : Int} (h : a = b) (k : c = d) (l : x = y) : Ending.returned (.tuple #[.int .i64 a, .int .i64 c, .int .i64 x]) = .returned (.tuple #[.int .i64 b, .int .i64 d, .int .i64 y]) := by rw [h, k, l]
set_option maxRecDepth 100000 in
theorem geoDrives_any (d : Int) (w : World) : Calls Try.prog 56 #[.int .i64 d] w fun e w' => e = .returned (.bool (okD d)) ∧ w' = w := by
  by_cases h1 : 2 ≤ d
  · by_cases h2 : d ≤ 8
    · go_enter Try.func56, Try.ntmps56
      go_wp2_with fail
      go_ret
      exact ⟨ret_boolG (by unfold okD; simp; omega), rfl⟩
    · go_enter Try.func56, Try.ntmps56
      go_wp2_with fail
      go_ret
      exact ⟨ret_boolG (by unfold okD; simp; omega), rfl⟩
  · go_enter Try.func56, Try.ntmps56
    go_wp2_with fail
    go_ret
    exact ⟨ret_boolG (by unfold okD; simp; omega), rfl⟩
set_option maxRecDepth 100000 in
theorem geoParity_any (d p : Int) (w : World) : Calls Try.prog 57 #[.int .i64 d, .int .i64 p] w fun e w' => e = .returned (.bool (okPar d p)) ∧ w' = w := by
  by_cases h1 : 1 ≤ p
  · by_cases h2 : p ≤ 3
    · by_cases h3 : p < d
      · go_enter Try.func57, Try.ntmps57
        go_wp2_with fail
        go_ret
        exact ⟨ret_boolG (by unfold okPar; simp; omega), rfl⟩
      · go_enter Try.func57, Try.ntmps57
        go_wp2_with fail
        go_ret
        exact ⟨ret_boolG (by unfold okPar; simp; omega), rfl⟩
    · go_enter Try.func57, Try.ntmps57
      go_wp2_with fail
      go_ret
      exact ⟨ret_boolG (by unfold okPar; simp; omega), rfl⟩
  · go_enter Try.func57, Try.ntmps57
    go_wp2_with fail
    go_ret
    exact ⟨ret_boolG (by unfold okPar; simp; omega), rfl⟩
set_option maxRecDepth 100000 in
theorem geoCount_any (d : Int) (w : World) : Calls Try.prog 58 #[.int .i64 d] w fun e w' => e = .returned (.bool (okCnt d)) ∧ w' = w := by
  by_cases h1 : 1 ≤ d
  · by_cases h2 : d ≤ 32
    · go_enter Try.func58, Try.ntmps58
      go_wp2_with fail
      go_ret
      exact ⟨ret_boolG (by unfold okCnt; simp; omega), rfl⟩
    · go_enter Try.func58, Try.ntmps58
      go_wp2_with fail
      go_ret
      exact ⟨ret_boolG (by unfold okCnt; simp; omega), rfl⟩
  · go_enter Try.func58, Try.ntmps58
    go_wp2_with fail
    go_ret
    exact ⟨ret_boolG (by unfold okCnt; simp; omega), rfl⟩
set_option maxRecDepth 100000 in
theorem geoAddr_any (d : Int) (w : World) : Calls Try.prog 59 #[.int .i64 d] w fun e w' => e = .returned (.bool (okAd d)) ∧ w' = w := by
  by_cases h1 : 0 ≤ d
  · by_cases h2 : d ≤ 65536
    · go_enter Try.func59, Try.ntmps59
      go_wp2_with fail
      go_ret
      exact ⟨ret_boolG (by unfold okAd; simp; omega), rfl⟩
    · go_enter Try.func59, Try.ntmps59
      go_wp2_with fail
      go_ret
      exact ⟨ret_boolG (by unfold okAd; simp; omega), rfl⟩
  · go_enter Try.func59, Try.ntmps59
    go_wp2_with fail
    go_ret
    exact ⟨ret_boolG (by unfold okAd; simp; omega), rfl⟩
set_option maxRecDepth 100000 in
theorem badShape_any (d p : Int) (w : World) : Calls Try.prog 43 #[.int .i64 d, .int .i64 p] w fun e w' => e = .returned (.bool (!(okD d && okPar d p))) ∧ w' = w := by
  by_cases h1 : d < 2
  · go_enter Try.func43, Try.ntmps43
    go_wp2_with fail
    go_ret
    exact ⟨ret_boolG (by unfold okD; simp; omega), rfl⟩
  by_cases h2 : 8 < d
  · go_enter Try.func43, Try.ntmps43
    go_wp2_with fail
    go_ret
    exact ⟨ret_boolG (by unfold okD; simp; omega), rfl⟩
  by_cases h3 : p < 1
  · go_enter Try.func43, Try.ntmps43
    go_wp2_with fail
    go_ret
    exact ⟨ret_boolG (by unfold okPar; simp; omega), rfl⟩
  by_cases h4 : 3 < p
  · go_enter Try.func43, Try.ntmps43
    go_wp2_with fail
    go_ret
    exact ⟨ret_boolG (by unfold okPar; simp; omega), rfl⟩
  by_cases h5 : d ≤ p
  · go_enter Try.func43, Try.ntmps43
    go_wp2_with fail
    go_ret
    exact ⟨ret_boolG (by unfold okPar; simp; omega), rfl⟩
  · go_enter Try.func43, Try.ntmps43
    go_wp2_with fail
    go_ret
    exact ⟨ret_boolG (by unfold okD okPar; simp [show 2 ≤ d by omega, show d ≤ 8 by omega, show 1 ≤ p by omega, show p ≤ 3 by omega, show p < d by omega]), rfl⟩
set_option maxRecDepth 100000 in
theorem spot_any (d a : Nat) (w : World) (hd : 0 < d) (hd2 : d ≤ 1048576) (ha : a ≤ 1048576) : Calls Try.prog 60 #[.int .i64 d, .int .i64 a] w fun e w' => e = .returned (.tuple #[.int .i64 (a % d : Nat), .int .i64 (a / d : Nat)]) ∧ Ext w w' := by
  have hz : ((d : Int) == 0) = false := by rw [beq_eq_false_iff_ne]; omega
  have hq : (a : Int).tdiv d = (a / d : Nat) := by
    rw [Int.tdiv_eq_ediv_of_nonneg (by omega)]
    rfl
  have hr : (a : Int).tmod d = (a % d : Nat) := by
    rw [Int.tmod_eq_emod_of_nonneg (by omega)]
    rfl
  have hqb : a / d ≤ a := Nat.div_le_self _ _
  have hrb : a % d < d := Nat.mod_lt _ hd
  go_enter Try.func60, Try.ntmps60
  go_wp2_with fail
  have hq2 : wrap64 ((a : Int) / (d : Int)) = ((a / d : Nat) : Int) := by
    rw [show ((a : Int) / (d : Int)) = ((a / d : Nat) : Int) from rfl]
    have h64 : ∀ q : Nat, q ≤ 1048576 → wrap64 (q : Int) = q := fun q h => by unfold wrap64; omega
    exact h64 _ (by omega)
  go_region
  go_wp2_with fail
  go_ret2
  exact ⟨ret_two rfl hq2, (Ext.refl _).drew⟩
end Go.Proofs.Ythgbfakmkdifbaa
