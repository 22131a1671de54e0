/-
  sameColumns at two slices that hold the same columns.
-/
import Derived.Test.YthgbfakmkdifbaaChecked
import Derived.WalkKit
import Derived.BigQuiet
import Derived.Deep.QuietTactic
import Derived.Test.YthgbfakmkdifbaaGeos
namespace Go.Proofs.Ythgbfakmkdifbaa
open Go.RowKit Go.Deep
theorem Ext.drewG {a w : World} (h : Ext a w) (n : Nat) : Ext a (w.drewN n) := h.trans ⟨⟨rfl, rfl, rfl, Nat.le_refl _, fun _ _ => rfl⟩⟩
def Col4 (cs : List Value) : Prop := ∃ (x y z : Int) (b : Bool), cs = [.int .i64 x, .int .i64 y, .int .i64 z, .bool b]
theorem gcL_col (d p a c : Int) : ∀ cs, cs ∈ gcL d p a c → Col4 cs := fun cs h => by
  unfold gcL at h
  split at h
  · obtain ⟨i, _, rfl⟩ := List.mem_map.1 h
    exact ⟨_, _, _, _, rfl⟩
  · simp at h
theorem col_at {w : World} {a : Option Addr} {L : List (List Value)} (h : Els w a 4 L) {q : Nat} {x y z : Int} {b : Bool} (hq : L[q]? = some [.int .i64 x, .int .i64 y, .int .i64 z, .bool b]) :
    ∃ k o, a = some ⟨k, o, none⟩ ∧ w.cell? ⟨k, o + q * 4, none⟩ = some (.int .i64 x) ∧ w.cell? ⟨k, o + q * 4 + 1, none⟩ = some (.int .i64 y) ∧ w.cell? ⟨k, o + q * 4 + 2, none⟩ = some (.int .i64 z) ∧ w.cell? ⟨k, o + q * 4 + 3, none⟩ = some (.bool b) := by
  obtain ⟨k, o, h1, h2⟩ := h q _ hq
  exact ⟨k, o, h1, h2 0 _ rfl, h2 1 _ rfl, h2 2 _ rfl, h2 3 _ rfl⟩
end Go.Proofs.Ythgbfakmkdifbaa
