/-
  A slice of rows that is made by append, row by row.
-/
import Derived.Test.YthgbfakmkdifbaaChecked
import Derived.WalkKit
import Derived.Test.YthgbfakmkdifbaaMk
import Derived.Test.YthgbfakmkdifbaaMm
import Derived.Test.YthgbfakmkdifbaaAlg
namespace Go.Proofs.Ythgbfakmkdifbaa
open Go.RowKit Go.Deep E
theorem wrap64_bd (x : Int) : -9223372036854775808 ≤ wrap64 x ∧ wrap64 x ≤ 9223372036854775807 := by unfold wrap64; omega
/-- one element more -/
theorem row_next {w0 w4 w5 : World} {v v' : Value} {k : Nat} {r : Nat → E} {x : E} {o : Obj} {t : TypeId} (hx : Ext w0 w4) (h : w4.ownsRow w0.heap.size t 1 v k ((List.range k).map fun x => .int .i64 (ev (r x))))
    (h' : w5.ownsRow w0.heap.size t 1 v' (k + 1) (((List.range k).map fun x => Value.int .i64 (ev (r x))) ++ [.int .i64 (ev x)])) (hg : (w4.alloc o).grownBy w5 v.ownBlock) :
    Ext w0 w5 ∧ ∃ r : Nat → E, w5.ownsRow w0.heap.size t 1 v' (k + 1) ((List.range (k + 1)).map fun x => .int .i64 (ev (r x))) := by
  refine ⟨⟨(hx.below.alloc hx.below.size o).grown hg (by have := hx.size; simp; omega) (fun k hk => (h.lt k hk).1)⟩, fun i => if i < k then r i else x, ?_⟩
  rw [List.range_succ, List.map_append]
  have e : (List.range k).map (fun y => Value.int .i64 (ev (if y < k then r y else x))) = (List.range k).map fun y => .int .i64 (ev (r y)) := List.map_congr_left fun y hy => by rw [if_pos (List.mem_range.1 hy)]
  rw [e]
  simpa using h'
def slA : Value → Option Addr
  | .slice a _ _ => a
  | _ => none
def slC : Value → Nat
  | .slice _ _ c => c
  | _ => 0
/-- a slice of i rows that was made by append, each of m elements -/
structure MOf (w wr : World) (v : Value) (i m : Nat) (V : Nat → Value) (M : Nat → Nat → E) : Prop where
  ext : Ext w wr
  top : wr.ownsRow w.heap.size 30 1 v i ((List.range i).map V)
  row : ∀ s, s < i → wr.ownsRow w.heap.size 3 1 (V s) m ((List.range m).map fun x => .int .i64 (ev (M s x)))
theorem MOf.ext' {w wr w' : World} {v : Value} {i m : Nat} {V : Nat → Value} {M : Nat → Nat → E} (h : MOf w wr v i m V M) (e : Ext wr w') : MOf w w' v i m V M := ⟨h.ext.trans e, own_ext h.top e, fun s hs => own_ext (h.row s hs) e⟩
theorem MOf.next {w wi w5 : World} {v v' u : Value} {i m : Nat} {V : Nat → Value} {M : Nat → Nat → E} {r : Nat → E} {o : Array Value} {t : TypeId} (h : MOf w wi v i m V M) (hr : wi.ownsRow w.heap.size 3 1 u m ((List.range m).map fun x => .int .i64 (ev (r x))))
    (h' : w5.ownsRow w.heap.size 30 1 v' (i + 1) ((List.range i).map V ++ [u])) (hg : (wi.alloc (.cells o t)).grownBy w5 v.ownBlock) :
    ∃ V, MOf w w5 v' (i + 1) m V (fun s => if s < i then M s else r) := by
  have hx : Ext wi (wi.alloc (.cells o t)) := (Ext.refl wi).alloc _ _
  refine ⟨fun s => if s < i then V s else u, (h.ext.trans hx).grow hg (fun k hk => (h.top.lt k hk).1), ?_, fun s hs => ?_⟩
  · rw [List.range_succ, List.map_append]
    have e : (List.range i).map (fun s => if s < i then V s else u) = (List.range i).map V := List.map_congr_left fun y hy => by rw [if_pos (List.mem_range.1 hy)]
    rw [e]
    simpa using h'
  · have ht := own_ext h.top hx
    by_cases e : s < i
    · have h1 := own_ext (h.row s e) hx
      have h2 := h1.kept hg (own_apart h1 ht (by decide))
      simpa [e] using h2
    · have h1 := own_ext hr hx
      have h2 := h1.kept hg (own_apart h1 ht (by decide))
      simpa [e] using h2
theorem MOf.congr {w wr : World} {v : Value} {i m : Nat} {V : Nat → Value} {M M' : Nat → Nat → E} (h : MOf w wr v i m V M) (e : ∀ s, s < i → M s = M' s) : MOf w wr v i m V M' := ⟨h.ext, h.top, fun s hs => by rw [← e s hs]; exact h.row s hs⟩
theorem MOf.mat {w wr : World} {v : Value} {n m : Nat} {V : Nat → Value} {M : Nat → Nat → E} (h : MOf w wr v n m V M) : ∃ a c A C, v = .slice a n c ∧ Mat wr a n A (fun _ => m) C (fun r i => ev (M r i)) := by
  obtain ⟨a, c, rfl, hc⟩ := own_slice h.top
  refine ⟨a, c, fun s => slA (V s), fun s => slC (V s), rfl, fun r hr => ?_⟩
  obtain ⟨b, o, ha, hb⟩ := hc r hr
  obtain ⟨a', c', hV, hc'⟩ := own_slice (h.row r hr)
  refine ⟨⟨b, o, ha, ?_⟩, fun i hi => ?_⟩
  · rw [hb]
    simp [hr, hV, slA, slC]
  · obtain ⟨b', o', ha', hb'⟩ := hc' i hi
    refine ⟨b', o', by show slA (V r) = _; rw [hV]; exact ha', ?_⟩
    rw [hb']
    simp [hi]
/-- a matrix of n rows of m elements is told -/
def MatVal (w : World) (e : Ending) (n m : Nat) (M : Nat → Nat → E) : Prop := ∃ a c A C, e = .returned (.slice a n c) ∧ Mat w a n A (fun _ => m) C (fun r i => ev (M r i))
end Go.Proofs.Ythgbfakmkdifbaa
