/-
  slices.Clone of a slice of ints that is not nil: the same numbers, in new memory.
-/
import Derived.Test.YthgbfakmkdifbaaChecked
import Derived.WalkKit
import Derived.Lib.SliceRun
import Derived.Test.YthgbfakmkdifbaaRefPicks
namespace Go.Proofs.Ythgbfakmkdifbaa
open Go.RowKit Go.Deep E
/-- the numbers of a list, as values -/
def iV (f : Nat → Int) (i : Nat) : Value := .int .i64 (f i)
def CloneRes (w : World) (l : Nat) (f : Nat → Int) (v : Value) (w' : World) : Prop := w'.ownsRow w.heap.size 3 1 v l ((List.range l).map (iV f)) ∧ Ext w w'
set_option maxRecDepth 100000 in
set_option maxHeartbeats 400000 in
theorem Clone_ints (ad : Addr) (l c : Nat) (f : Nat → Int) (w : World) (hl : l ≤ 1099511627776) (h : Ints w (some ad) l f) :
    Calls Try.prog 67 #[.slice (some ad) l c] w fun e w' => ∃ v, e = .returned v ∧ CloneRes w l f v w' := by
  have qT : ∀ (w : World) (a : Option Addr) (n c n' c' : Nat), (binOp .eql 30 (.slice a n c) (.slice none n' c')).run Try.prog w = .ok (.bool a.isNone) w := fun w a n c n' c' => Lib.run_eql_slice_nil w _ _ a n c n' c' Try.underlying30
  have HB : Hid (∀ i, i < l → ∃ bb o, some ad = some ⟨bb, o, none⟩ ∧ (w.alloc (.cells #[] 3)).cell? ⟨bb, o + i, none⟩ = some (iV f i)) := fun i hi => by
    obtain ⟨bb, o, h1, h2⟩ := h i hi
    exact ⟨bb, o, h1, alloc_keeps h2 _⟩
  have HS : Hid ((w.alloc (.cells #[] 3)).ownsRow w.heap.size 3 1 (.slice (some ⟨w.heap.size, 0, none⟩) 0 0) 0 []) := own_empty w (Nat.le_refl _) _
  clear h
  go_enter Try.func67, Try.ntmps67
  go_wp2_with (first | (at_builtin; refine append_vals (w.alloc (.cells #[] 3)) rfl (.tmp 5) (.tmp 6) 30 rfl w.heap.size 3 (.int .i64 0) 8 Try.underlying30 infoI rfl (.slice (some ⟨w.heap.size, 0, none⟩) 0 0) 0 [] rfl HS.out (some ad) l c (iV f) rfl HB.out (fun _ _ => rfl) (by omega) (by omega) (by simp) ?_) | go_in)
  intro v' w5 hown' hgrow
  have hx5 : Ext w w5 := ((Ext.refl w).alloc _ _).grow hgrow fun _ hk => by cases hk; exact Nat.le_refl _
  have HR : Hid (CloneRes w l f v' w5) := ⟨hown', hx5⟩
  clear hown' hgrow
  go_wp2_with fail
  go_ret
  exact ⟨_, rfl, HR.out⟩
end Go.Proofs.Ythgbfakmkdifbaa
