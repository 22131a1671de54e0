/-
  Columns of bytes in new memory: one of them in another block; what is no byte beside them.
-/
import Derived.WalkKit
import Derived.Test.YtbngmmlmhmmpbaaBldB
namespace Go.Proofs.Ytbngmmlmhmmpbaa
open Go.RowKit Go.Deep E
/-- one column in another block -/
theorem BldB.replace {w0 w1 w2 : World} {B n m r : Nat} {Z : Nat → Nat → E} {G : Nat → Nat} (h : BldB w0 w1 B n m n Z G) (hB : w0.heap.size ≤ B) (e : Ext w1 w2) {g : Nat} {R : Nat → E} (hg : w1.heap.size ≤ g) (hrow : w2.rowIs g 5 m (bvs R)) :
    BldB w0 (w2.setCell ⟨B, r, none⟩ (.slice (some ⟨g, 0, none⟩) m m)) B n m n (fun s => if s = r then R else Z s) (fun s => if s = r then g else G s) := by
  have hBl := h.top.lt
  have hgl : ∀ s, s < n → G s < w1.heap.size := fun s hs => (h.row s hs).lt
  have h' := h.grow e
  refine ⟨h'.ext.setCell hB _, ?_, fun s hs => ?_, fun s hs => ?_, fun s s' hs hs' q => ?_⟩
  · refine (h'.top.set r (.slice (some ⟨g, 0, none⟩) m m)).congr fun i hi => ?_
    by_cases q : i = r
    · rw [if_pos q, if_pos hi, if_pos q]
    · rw [if_neg q, if_pos hi, if_pos hi, if_neg q]
  · by_cases q : s = r
    · rw [if_pos q, if_pos q]; exact hrow.setOther (a := ⟨B, r, none⟩) (by show g ≠ B; omega) _
    · rw [if_neg q, if_neg q]; exact (h'.row s hs).setOther (a := ⟨B, r, none⟩) (h.old s hs).2 _
  · by_cases q : s = r
    · rw [if_pos q]; have := h.ext.size; exact ⟨by omega, by omega⟩
    · rw [if_neg q]; exact h.old s hs
  · by_cases es : s = r
    · by_cases es' : s' = r
      · omega
      · rw [if_pos es, if_neg es'] at q; have := hgl s' hs'; omega
    · by_cases es' : s' = r
      · rw [if_neg es, if_pos es'] at q; have := hgl s hs; omega
      · rw [if_neg es, if_neg es'] at q; exact h.inj s s' hs hs' q
theorem BldB.ints {w0 wr w' : World} {B n m k : Nat} {Z : Nat → Nat → E} {G : Nat → Nat} (h : BldB w0 wr B n m k Z G) (x : Wro (BlkB G k) wr w') {a : Option Addr} {l : Nat} {f : Nat → Int} (hi : Ints wr a l f) : Ints w' a l f := fun i hl => by
  obtain ⟨b, o, ha, hc⟩ := hi i hl
  exact ⟨b, o, ha, h.keeps x hc fun z e => by cases e⟩
/-- what is no slice does not lie in the list of the columns -/
theorem BldB.top_ne {w0 wr : World} {B n m k : Nat} {Z : Nat → Nat → E} {G : Nat → Nat} (h : BldB w0 wr B n m k Z G) {b o : Nat} {x : Int} {kd : IntKind} (hv : wr.cell? ⟨b, o, none⟩ = some (.int kd x)) : b ≠ B := fun e => by
  subst e
  obtain ⟨c, h1, h2, h3⟩ := h.top
  have : wr.cell? ⟨b, o, none⟩ = c[o]? := cell_of_row wr b o c _ _ h1
  rw [this] at hv
  have ho : o < n := by
    rcases Nat.lt_or_ge o n with e | e
    · exact e
    · rw [Array.getElem?_eq_none (by omega)] at hv; cases hv
  rw [h3 o ho] at hv
  dsimp only at hv
  split at hv <;> cases hv
end Go.Proofs.Ytbngmmlmhmmpbaa
