/-
  comb.At: the pick with a number, in new memory.
-/
import Derived.Test.YthgbfakmkdifbaaChecked
import Derived.WalkKit
import Derived.Laws.MakeOwn
import Derived.Test.YthgbfakmkdifbaaCombBase
import Derived.Test.YthgbfakmkdifbaaRefAt
namespace Go.Proofs.Ythgbfakmkdifbaa
open Go.RowKit Go.Deep E
theorem room_ints (n : Nat) (hb : n ≤ 1073741824) (w : World) : (Instr.makeSlice 30 (.int .i64 0) (.int .i64 (n : Int))).run Try.prog w = .ok (.slice (some ⟨w.heap.size, 0, none⟩) 0 n) (w.alloc (.cells (madeCells #[.int .i64 0] n) 3)) := by
  obtain ⟨i, hi, hz, hs, hbb⟩ := info_parts infoI
  have hr := run_make (P := Try.prog) w 30 3 i (.int .i64 0) Try.underlying30 hi hz .i64 .i64 0 n (Int.le_refl _) (by omega) (by rw [hbb]; omega) (by omega)
  simp only [Int.toNat_natCast, hs, Nat.mul_one, Int.toNat_zero] at hr
  exact hr
theorem Count_is (n k : Nat) (c : Nat) (hc : cho n k = c) (w : World) (hn : n ≤ 12) (hk : k ≤ n) : Calls Try.prog 65 #[.int .i64 n, .int .i64 k] w fun e w' => e = .returned (.tuple #[.int .i64 c, .int .i64 0]) ∧ w' = w := by
  have h : maysP n k := ⟨⟨by omega, by omega⟩, by omega, by omega⟩
  have hv : cntV n k = (c : Int) := by unfold cntV; rw [if_pos h, ← hc]; rfl
  have he : cntE n k = 0 := if_pos h
  have := Count_any n k w
  rwa [hv, he] at this
theorem Count_not (n k : Int) (w : World) (h : ¬ maysP n k) : Calls Try.prog 65 #[.int .i64 n, .int .i64 k] w fun e w' => e = .returned (.tuple #[.int .i64 0, .int .i64 2]) ∧ w' = w := by
  have hv : cntV n k = 0 := if_neg h
  have he : cntE n k = 2 := if_neg h
  have := Count_any n k w
  rwa [hv, he] at this
/-- one step of the search -/
theorem pk_step (m k a r : Nat) (q : List Nat) (h : (pk m (k + 1) a)[r]? = some q) :
    ∃ m', m = m' + 1 ∧ (r < cho m' k → ∃ q', q = a :: q' ∧ (pk m' k (a + 1))[r]? = some q') ∧ (¬ r < cho m' k → (pk m' (k + 1) (a + 1))[r - cho m' k]? = some q) := by
  cases m with
  | zero => simp [pk] at h
  | succ m =>
    refine ⟨m, rfl, fun hr => ?_, fun hr => ?_⟩
    · change ((pk m k (a + 1)).map (a :: ·) ++ pk m (k + 1) (a + 1))[r]? = _ at h
      rw [List.getElem?_append_left (by simp [pk_len, hr]), List.getElem?_map] at h
      cases hq : (pk m k (a + 1))[r]? with
      | none => rw [hq] at h; cases h
      | some q' => rw [hq] at h; cases h; exact ⟨q', rfl, rfl⟩
    · change ((pk m k (a + 1)).map (a :: ·) ++ pk m (k + 1) (a + 1))[r]? = _ at h
      rw [List.getElem?_append_right (by simp [pk_len]; omega)] at h
      simpa [pk_len] using h
theorem pk_lt {m k s i : Nat} {p : List Nat} (h : (pk m k s)[i]? = some p) : i < cho m k := by
  rw [← pk_len m k s]
  rcases Nat.lt_or_ge i (pk m k s).length with h1 | h1
  · exact h1
  · rw [List.getElem?_eq_none h1] at h; cases h
/-- the pick p of k numbers was handed back, in new memory -/
def AtRes (w : World) (k : Nat) (p : List Nat) (e : Ending) (w' : World) : Prop := ∃ a c, e = .returned (.tuple #[.slice a k c, .int .i64 0]) ∧ Ext w w' ∧ Ints w' a k (pkF p)
end Go.Proofs.Ythgbfakmkdifbaa
