/-
  Slices that a call makes by append, and rows beside them: what stays where blocks of S alone are written.
-/
import Derived.WalkKit
import Derived.Deep.Slices
import Derived.Test.YtbngmmlmhmmpbaaOwn
import Derived.Test.YtbngmmlmhmmpbaaByt
namespace Go.Proofs.Ytbngmmlmhmmpbaa
open Go.RowKit Go.Deep E
theorem own_wro {S : Nat → Prop} {w w' : World} {base : Nat} {e : TypeId} {size : Nat} {v : Value} {n : Nat} {xs : List Value} (h : w.ownsRow base e size v n xs) (k : Wro S w w') (hs : ∀ g, v.ownBlock = some g → ¬ S g) : w'.ownsRow base e size v n xs := by
  obtain ⟨h1, h2⟩ := h
  refine ⟨h1, ?_⟩
  rcases h2 with h2 | ⟨g, cap, cur, rfl, hg, hh, r⟩
  · exact Or.inl h2
  · have hlt : g < w.heap.size := by
      rcases Nat.lt_or_ge g w.heap.size with q | q
      · exact q
      · rw [Array.getElem?_eq_none q] at hh; cases hh
    exact Or.inr ⟨g, cap, cur, rfl, hg, by rw [k.block g hlt (hs g rfl)]; exact hh, r⟩
theorem own_ne_row {w : World} {base : Nat} {e e' : TypeId} {size : Nat} {v : Value} {n : Nat} {xs : List Value} {T m : Nat} {f : Nat → Value} (h : w.ownsRow base e size v n xs) (r : w.rowIs T e' m f) (hne : e ≠ e') : v.ownBlock ≠ some T := by
  intro hb
  obtain ⟨cur, h1⟩ := own_block h hb
  obtain ⟨c, h2, _⟩ := r
  rw [h1] at h2
  cases h2
  exact hne rfl
theorem row_grown {w w' : World} {T m : Nat} {t : TypeId} {f : Nat → Value} {row : Option Nat} (r : w.rowIs T t m f) (g : w.grownBy w' row) (hne : row ≠ some T) : w'.rowIs T t m f := by
  obtain ⟨_, _, _, _, h5⟩ := g
  exact r.of_block (h5 T r.lt (fun e => hne e.symm))
theorem wro_grown {S : Nat → Prop} {w0 w w' : World} {row : Option Nat} (h : Wro S w0 w) (g : w.grownBy w' row) (hne : ∀ k, row = some k → S k ∨ w0.heap.size ≤ k) : Wro S w0 w' := by
  obtain ⟨h1, h2, h3, h4, h5⟩ := g
  refine ⟨h1.trans h.os, h2.trans h.tape, h3.trans h.output, Nat.le_trans h.size h4, fun k hk hs => ?_⟩
  rw [h5 k (Nat.lt_of_lt_of_le hk h.size) (fun e => ?_), h.block k hk hs]
  rcases hne k e.symm with q | q
  · exact hs q
  · omega
theorem own_ge {w : World} {base : Nat} {e : TypeId} {size : Nat} {v : Value} {n : Nat} {xs : List Value} (h : w.ownsRow base e size v n xs) {g : Nat} (hg : v.ownBlock = some g) : base ≤ g ∧ g < w.heap.size := by
  obtain ⟨h1, h2⟩ := h
  rcases h2 with ⟨rfl, _⟩ | ⟨g', cap, cur, rfl, hb, hh, r⟩
  · cases hg
  · cases hg
    refine ⟨hb, ?_⟩
    rcases Nat.lt_or_ge g' w.heap.size with q | q
    · exact q
    · rw [Array.getElem?_eq_none q] at hh; cases hh
/-- a slice of bytes that was made by append -/
theorem own_byts {w : World} {base : Nat} {t : TypeId} {v : Value} {n : Nat} {r : Nat → E} (h : w.ownsRow base t 1 v n ((List.range n).map (bvs r))) : ∃ a c, v = .slice a n c ∧ Byts w a n r := by
  obtain ⟨a, c, hv, hc⟩ := own_slice h
  refine ⟨a, c, hv, fun i hi => ?_⟩
  obtain ⟨b, o, ha, hb⟩ := hc i hi
  exact ⟨b, o, ha, by rw [hb]; simp [hi, bvs]⟩
theorem range_bvs (k : Nat) (r : Nat → E) : (List.range k).map (bvs r) ++ [.int .u8 (ev (r k))] = (List.range (k + 1)).map (bvs r) := by
  rw [List.range_succ, List.map_append]; rfl
/-- n columns that are made by append: those ahead of j have m bytes, those behind are none -/
structure ABld (w0 wr : World) (T n m j : Nat) (V : Nat → Value) (Z : Nat → Nat → E) : Prop where
  ext : Ext w0 wr
  top : wr.rowIs T 32 n V
  new : ∀ r, j ≤ r → r < n → V r = .slice none 0 0
  row : ∀ r, r < j → wr.ownsRow w0.heap.size 5 1 (V r) m ((List.range m).map (bvs (Z r)))
theorem ABld.start (w : World) (n m : Nat) (Z : Nat → Nat → E) : ABld w (w.alloc (.cells (madeCells #[.slice none 0 0] n) 32)) w.heap.size n m 0 (fun _ => .slice none 0 0) Z :=
  ⟨(Ext.refl w).alloc _ _, World.rowIs_made w (.slice none 0 0) n 32, fun _ _ _ => rfl, fun r hr => by omega⟩
/-- .. of which column j has its first k bytes: only the list itself was written, of what was there when it began -/
structure AInn (wj wi : World) (T n j k : Nat) (V : Nat → Value) (v : Value) (R : Nat → E) : Prop where
  wro : Wro (· = T) wj wi
  top : wi.rowIs T 32 n (fun r => if r = j then v else V r)
  cur : wi.ownsRow wj.heap.size 5 1 v k ((List.range k).map (bvs R))
theorem AInn.start {w0 wj : World} {T n m j : Nat} {V : Nat → Value} {Z : Nat → Nat → E} (h : ABld w0 wj T n m j V Z) (hj : j < n) (R : Nat → E) : AInn wj wj T n j 0 V (.slice none 0 0) R :=
  ⟨Wro.refl _ _, h.top.congr fun i hi => by
    by_cases e : i = j
    · rw [if_pos e, e, h.new j (Nat.le_refl _) hj]
    · rw [if_neg e], World.ownsRow_nil _ _ _ _⟩
theorem AInn.grow {wj wi w' : World} {T n j k : Nat} {V : Nat → Value} {v : Value} {R : Nat → E} (h : AInn wj wi T n j k V v R) (x : Ext wi w') : AInn wj w' T n j k V v R :=
  ⟨h.wro.then_ext x, x.rowIs h.top, own_ext h.cur x⟩
theorem AInn.next {wj wi w1 w2 : World} {T n j k : Nat} {V : Nat → Value} {v v' : Value} {R : Nat → E} (h : AInn wj wi T n j k V v R) (x : Ext wi w1) (own : w2.ownsRow wj.heap.size 5 1 v' (k + 1) ((List.range k).map (bvs R) ++ [.int .u8 (ev (R k))])) (g : w1.grownBy w2 v.ownBlock) :
    AInn wj (w2.setCell ⟨T, j, none⟩ v') T n j (k + 1) V v' R ∧ w2.rowIs T 32 n (fun r => if r = j then v else V r) := by
  have h1 := h.grow x
  have hne : v.ownBlock ≠ some T := own_ne_row h1.cur h1.top (by decide)
  have htop := row_grown h1.top g hne
  have hw2 := wro_grown h1.wro g fun b hb => Or.inr (own_ge h1.cur hb).1
  rw [range_bvs] at own
  have hne' : v'.ownBlock ≠ some T := own_ne_row own htop (by decide)
  refine ⟨⟨hw2.setCell (p := ⟨T, j, none⟩) rfl _, (htop.set j v').congr fun i _ => ?_, own_wro own ((Wro.refl (· = T) w2).setCell (p := ⟨T, j, none⟩) rfl v') fun b hb e => hne' (by rw [hb, e])⟩, htop⟩
  by_cases e : i = j
  · rw [if_pos e, if_pos e]
  · rw [if_neg e, if_neg e, if_neg e]
theorem AInn.done {w0 wj wi : World} {T n m j : Nat} {V : Nat → Value} {v : Value} {Z : Nat → Nat → E} (h : AInn wj wi T n j m V v (Z j)) (hb : ABld w0 wj T n m j V Z) (hT : w0.heap.size ≤ T) : ABld w0 wi T n m (j + 1) (fun r => if r = j then v else V r) Z := by
  refine ⟨Wro.after hb.ext h.wro (fun i hi => by rw [hi]; exact hT), h.top, fun r hr hn => ?_, fun r hr => ?_⟩
  · rw [if_neg (by omega)]; exact hb.new r (by omega) hn
  · by_cases e : r = j
    · subst e; rw [if_pos rfl]; exact own_mono h.cur hb.ext.size
    · rw [if_neg e]
      have hr' := hb.row r (by omega)
      exact own_wro hr' h.wro fun g hg q => own_ne_row hr' hb.top (by decide) (by rw [hg, q])
theorem ABld.cols {w0 wr : World} {T n m : Nat} {V : Nat → Value} {Z : Nat → Nat → E} (h : ABld w0 wr T n m n V Z) : ∃ A C, Cols wr (some ⟨T, 0, none⟩) n A (fun _ => m) C Z := by
  have each : ∀ r, r < n → ∃ y : Option Addr × Nat, V r = .slice y.1 m y.2 ∧ Byts wr y.1 m (Z r) := fun r hr => by
    obtain ⟨a, c, h1, h2⟩ := own_byts (h.row r hr)
    exact ⟨(a, c), h1, h2⟩
  obtain ⟨y, hy⟩ := choose_lt each
  refine ⟨fun r => (y r).1, fun r => (y r).2, fun r hr => ⟨⟨T, 0, rfl, ?_⟩, (hy r hr).2⟩⟩
  rw [Nat.zero_add, h.top.cell hr, (hy r hr).1]
end Go.Proofs.Ytbngmmlmhmmpbaa
