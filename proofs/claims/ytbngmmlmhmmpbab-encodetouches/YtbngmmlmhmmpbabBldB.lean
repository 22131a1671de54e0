/-
  Columns of bytes in new memory, made one behind the other: block B has them, column r lies in block G r.
-/
import Derived.WalkKit
import Derived.Deep.OwnRows
import Derived.Test.YtbngmmlmhmmpbabByt
namespace Go.Proofs.Ytbngmmlmhmmpbab
open Go.RowKit Go.Deep E
structure BldB (w0 wr : World) (B n m k : Nat) (Z : Nat → Nat → E) (G : Nat → Nat) : Prop where
  ext : Ext w0 wr
  top : wr.rowIs B 22 n (fun r => if r < k then .slice (some ⟨G r, 0, none⟩) m m else .slice none 0 0)
  row : ∀ r, r < k → wr.rowIs (G r) 5 m (bvs (Z r))
  old : ∀ r, r < k → w0.heap.size ≤ G r ∧ G r ≠ B
  inj : ∀ r s, r < k → s < k → G r = G s → r = s
theorem BldB.start (w : World) (n m : Nat) (Z : Nat → Nat → E) (G : Nat → Nat) : BldB w (w.alloc (.cells (madeCells #[.slice none 0 0] n) 22)) w.heap.size n m 0 Z G :=
  ⟨(Ext.refl w).alloc _ _, (World.rowIs_made w (.slice none 0 0) n 22).congr fun i _ => by rw [if_neg (by omega)], fun r hr => by omega, fun r hr => by omega, fun r s hr => by omega⟩
theorem BldB.grow {w0 wr w' : World} {B n m k : Nat} {Z : Nat → Nat → E} {G : Nat → Nat} (h : BldB w0 wr B n m k Z G) (e : Ext wr w') : BldB w0 w' B n m k Z G :=
  ⟨h.ext.trans e, e.rowIs h.top, fun r hr => e.rowIs (h.row r hr), h.old, h.inj⟩
theorem BldB.put {w0 w1 w2 : World} {B n m k : Nat} {Z : Nat → Nat → E} {G : Nat → Nat} (h : BldB w0 w1 B n m k Z G) (hB : w0.heap.size ≤ B) (e : Ext w1 w2) {g : Nat} (hg : w1.heap.size ≤ g) (hr : w2.rowIs g 5 m (bvs (Z k))) :
    BldB w0 (w2.setCell ⟨B, k, none⟩ (.slice (some ⟨g, 0, none⟩) m m)) B n m (k + 1) Z (fun r => if r = k then g else G r) := by
  have hBl := h.top.lt
  have hgl : ∀ r, r < k → G r < w1.heap.size := fun r hr => (h.row r hr).lt
  have h' := h.grow e
  refine ⟨h'.ext.setCell hB _, ?_, fun r hr' => ?_, fun r hr' => ?_, fun r s hr' hs q => ?_⟩
  · refine (h'.top.set k (.slice (some ⟨g, 0, none⟩) m m)).congr fun i _ => ?_
    by_cases q : i = k
    · subst q; rw [if_pos rfl, if_pos (by omega), if_pos rfl]
    · rw [if_neg q]
      by_cases l : i < k
      · rw [if_pos l, if_pos (by omega), if_neg q]
      · rw [if_neg l, if_neg (by omega)]
  · by_cases q : r = k
    · subst q; rw [if_pos rfl]; exact hr.setOther (a := ⟨B, r, none⟩) (by show g ≠ B; omega) _
    · rw [if_neg q]; exact (h'.row r (by omega)).setOther (a := ⟨B, k, none⟩) (h.old r (by omega)).2 _
  · by_cases q : r = k
    · subst q; rw [if_pos rfl]; have := h.ext.size; exact ⟨by omega, by omega⟩
    · rw [if_neg q]; exact h.old r (by omega)
  · by_cases er : r = k
    · by_cases es : s = k
      · omega
      · rw [if_pos er, if_neg es] at q; have := hgl s (by omega); omega
    · by_cases es : s = k
      · rw [if_neg er, if_pos es] at q; have := hgl r (by omega); omega
      · rw [if_neg er, if_neg es] at q; exact h.inj r s (by omega) (by omega) q
theorem BldB.cols {w0 wr : World} {B n m : Nat} {Z : Nat → Nat → E} {G : Nat → Nat} (h : BldB w0 wr B n m n Z G) : Cols wr (some ⟨B, 0, none⟩) n (fun r => some ⟨G r, 0, none⟩) (fun _ => m) (fun _ => m) Z := fun r hr =>
  ⟨⟨B, 0, rfl, by rw [Nat.zero_add, h.top.cell hr, if_pos hr]⟩, Byts.row (h.row r hr) (Nat.le_refl _)⟩
/-- what a call told: n columns of m bytes, and a number -/
def ColsRes (w' : World) (e : Ending) (n m : Nat) (D : Nat → Nat → E) (err : Int) : Prop :=
  ∃ a c A C, e = .returned (.tuple #[.slice a n c, .int .i64 err]) ∧ Cols w' a n A (fun _ => m) C D
theorem ColsRes.none (w : World) (m : Nat) (D : Nat → Nat → E) (err : Int) : ColsRes w (.returned (.tuple #[.slice none 0 0, .int .i64 err])) 0 m D err := ⟨_, _, fun _ => Option.none, fun _ => 0, rfl, fun r hr => by omega⟩
end Go.Proofs.Ytbngmmlmhmmpbab
