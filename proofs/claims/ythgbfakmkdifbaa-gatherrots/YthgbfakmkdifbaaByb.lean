/-
  Slices of bytes, and slices of these, as they lie in memory: each byte is an element of the field; both stay where the world only grows.
-/
import Derived.WalkKit
import Derived.Test.YthgbfakmkdifbaaAlg
import Derived.Test.YthgbfakmkdifbaaMm
import Derived.Deep.Slices
import Derived.Deep.OwnRows
import Derived.Laws.Rows
import Derived.Laws.CopyOwn
namespace Go.Proofs.Ythgbfakmkdifbaa
open Go.RowKit Go.Deep E
/-- a slice of n bytes lies at a: place i has f i -/
def Byts (w : World) (a : Option Addr) (n : Nat) (f : Nat → E) : Prop :=
  ∀ i, i < n → ∃ b o, a = some ⟨b, o, none⟩ ∧ w.cell? ⟨b, o + i, none⟩ = some (.int .u8 (ev (f i)))
/-- a slice of n columns lies at a: column r lies at A r, and has L r bytes (room for C r): F r -/
def Cols (w : World) (a : Option Addr) (n : Nat) (A : Nat → Option Addr) (L C : Nat → Nat) (F : Nat → Nat → E) : Prop :=
  ∀ r, r < n → (∃ b o, a = some ⟨b, o, none⟩ ∧ w.cell? ⟨b, o + r, none⟩ = some (.slice (A r) (L r) (C r))) ∧ Byts w (A r) (L r) (F r)
theorem Byts.ext {w w' : World} {a : Option Addr} {n : Nat} {f : Nat → E} (h : Byts w a n f) (e : Ext w w') : Byts w' a n f := fun i hi => by
  obtain ⟨b, o, ha, hc⟩ := h i hi
  exact ⟨b, o, ha, e.keeps hc⟩
theorem Byts.at {w : World} {a : Option Addr} {n : Nat} {f : Nat → E} (h : Byts w a n f) (h0 : 0 < n) : ∃ b o, a = some ⟨b, o, none⟩ ∧ ∀ i, i < n → w.cell? ⟨b, o + i, none⟩ = some (.int .u8 (ev (f i))) := by
  obtain ⟨b, o, ha, _⟩ := h 0 h0
  refine ⟨b, o, ha, fun i hi => ?_⟩
  obtain ⟨b', o', ha', hc⟩ := h i hi
  rw [ha] at ha'
  cases ha'
  exact hc
theorem Byts.mk {w : World} {b o n : Nat} {f : Nat → E} (h : ∀ i, i < n → w.cell? ⟨b, o + i, none⟩ = some (.int .u8 (ev (f i)))) : Byts w (some ⟨b, o, none⟩) n f := fun i hi => ⟨b, o, rfl, h i hi⟩
theorem Byts.congr {w : World} {a : Option Addr} {n : Nat} {f g : Nat → E} (h : Byts w a n f) (e : ∀ i, i < n → f i = g i) : Byts w a n g := fun i hi => by
  rw [← e i hi]; exact h i hi
/-- it stays where blocks of S alone are written, and it lies in none of them -/
theorem Byts.wro {S : Nat → Prop} {w w' : World} {a : Option Addr} {n : Nat} {f : Nat → E} (h : Byts w a n f) (k : Wro S w w') (hs : ∀ p, a = some p → ¬ S p.block) : Byts w' a n f := fun i hi => by
  obtain ⟨b, o, ha, hc⟩ := h i hi
  exact ⟨b, o, ha, k.cell hc (hs ⟨b, o, none⟩ ha)⟩
theorem Cols.ext {w w' : World} {a : Option Addr} {n : Nat} {A : Nat → Option Addr} {L C : Nat → Nat} {F : Nat → Nat → E} (h : Cols w a n A L C F) (e : Ext w w') : Cols w' a n A L C F := fun r hr => by
  obtain ⟨⟨b, o, ha, hc⟩, hi⟩ := h r hr
  exact ⟨⟨b, o, ha, e.keeps hc⟩, hi.ext e⟩
theorem Cols.wro {S : Nat → Prop} {w w' : World} {a : Option Addr} {n : Nat} {A : Nat → Option Addr} {L C : Nat → Nat} {F : Nat → Nat → E} (h : Cols w a n A L C F) (k : Wro S w w') (ht : ∀ p, a = some p → ¬ S p.block) (hs : ∀ r, r < n → ∀ p, A r = some p → ¬ S p.block) : Cols w' a n A L C F := fun r hr => by
  obtain ⟨⟨b, o, ha, hc⟩, hi⟩ := h r hr
  exact ⟨⟨b, o, ha, k.cell hc (ht ⟨b, o, none⟩ ha)⟩, hi.wro k (hs r hr)⟩
theorem Cols.at {w : World} {a : Option Addr} {n : Nat} {A : Nat → Option Addr} {L C : Nat → Nat} {F : Nat → Nat → E} (h : Cols w a n A L C F) (h0 : 0 < n) : ∃ b o, a = some ⟨b, o, none⟩ ∧ ∀ r, r < n → w.cell? ⟨b, o + r, none⟩ = some (.slice (A r) (L r) (C r)) := by
  obtain ⟨⟨b, o, ha, _⟩, _⟩ := h 0 h0
  refine ⟨b, o, ha, fun i hi => ?_⟩
  obtain ⟨⟨b', o', ha', hc⟩, _⟩ := h i hi
  rw [ha] at ha'
  cases ha'
  exact hc
theorem Cols.col {w : World} {a : Option Addr} {n : Nat} {A : Nat → Option Addr} {L C : Nat → Nat} {F : Nat → Nat → E} (h : Cols w a n A L C F) {r : Nat} (hr : r < n) : Byts w (A r) (L r) (F r) := (h r hr).2
theorem Cols.congr {w : World} {a : Option Addr} {n : Nat} {A : Nat → Option Addr} {L L' C : Nat → Nat} {F G : Nat → Nat → E} (h : Cols w a n A L C F) (el : ∀ r, r < n → L r = L' r) (e : ∀ r, r < n → ∀ i, i < L r → F r i = G r i) : Cols w a n A L' C G := fun r hr => by
  rw [← el r hr]; exact ⟨(h r hr).1, (h r hr).2.congr (e r hr)⟩
/-- the cells of a column as values -/
def bvs (f : Nat → E) (i : Nat) : Value := .int .u8 (ev (f i))
theorem Byts.row {w : World} {b n m : Nat} {t : TypeId} {f : Nat → E} (h : w.rowIs b t n (bvs f)) (hm : m ≤ n) : Byts w (some ⟨b, 0, none⟩) m f := Byts.mk fun i hi => by rw [Nat.zero_add]; exact h.cell (by omega)
end Go.Proofs.Ythgbfakmkdifbaa
/-
  Slices that a call makes by append, and rows beside them: what stays where blocks of S alone are written.
-/
namespace Go.Proofs.Ythgbfakmkdifbaa
open Go.RowKit Go.Deep E
theorem own_wro {S : Nat → Prop} {w w' : World} {base : Nat} {e : TypeId} {size : Nat} {v : Value} {n : Nat} {xs : List Value} (h : w.ownsRow base e size v n xs) (k : Wro S w w') (hs : ∀ g, v.ownBlock = some g → ¬ S g) : w'.ownsRow base e size v n xs := by
  obtain ⟨h1, h2⟩ := h
  refine ⟨h1, ?_⟩
  rcases h2 with h2 | ⟨g, cap, cur, rfl, hg, hh, r⟩
  · exact Or.inl h2
  · have hlt : g < w.heap.size := by
      rcases Nat.lt_or_ge g w.heap.size with q | q
      · exact q
      · rw [Array.getElem?_eq_none q] at hh; cases hh
    exact Or.inr ⟨g, cap, cur, rfl, hg, by rw [k.block g hlt (hs g rfl)]; exact hh, r⟩
theorem own_ne_row {w : World} {base : Nat} {e e' : TypeId} {size : Nat} {v : Value} {n : Nat} {xs : List Value} {T m : Nat} {f : Nat → Value} (h : w.ownsRow base e size v n xs) (r : w.rowIs T e' m f) (hne : e ≠ e') : v.ownBlock ≠ some T := by
  intro hb
  obtain ⟨cur, h1⟩ := own_block h hb
  obtain ⟨c, h2, _⟩ := r
  rw [h1] at h2
  cases h2
  exact hne rfl
theorem row_grown {w w' : World} {T m : Nat} {t : TypeId} {f : Nat → Value} {row : Option Nat} (r : w.rowIs T t m f) (g : w.grownBy w' row) (hne : row ≠ some T) : w'.rowIs T t m f := by
  obtain ⟨_, _, _, _, h5⟩ := g
  exact r.of_block (h5 T r.lt (fun e => hne e.symm))
theorem wro_grown {S : Nat → Prop} {w0 w w' : World} {row : Option Nat} (h : Wro S w0 w) (g : w.grownBy w' row) (hne : ∀ k, row = some k → S k ∨ w0.heap.size ≤ k) : Wro S w0 w' := by
  obtain ⟨h1, h2, h3, h4, h5⟩ := g
  refine ⟨h1.trans h.os, h2.trans h.tape, h3.trans h.output, Nat.le_trans h.size h4, fun k hk hs => ?_⟩
  rw [h5 k (Nat.lt_of_lt_of_le hk h.size) (fun e => ?_), h.block k hk hs]
  rcases hne k e.symm with q | q
  · exact hs q
  · omega
theorem own_ge {w : World} {base : Nat} {e : TypeId} {size : Nat} {v : Value} {n : Nat} {xs : List Value} (h : w.ownsRow base e size v n xs) {g : Nat} (hg : v.ownBlock = some g) : base ≤ g ∧ g < w.heap.size := by
  obtain ⟨h1, h2⟩ := h
  rcases h2 with ⟨rfl, _⟩ | ⟨g', cap, cur, rfl, hb, hh, r⟩
  · cases hg
  · cases hg
    refine ⟨hb, ?_⟩
    rcases Nat.lt_or_ge g' w.heap.size with q | q
    · exact q
    · rw [Array.getElem?_eq_none q] at hh; cases hh
/-- a slice of bytes that was made by append -/
theorem own_byts {w : World} {base : Nat} {t : TypeId} {v : Value} {n : Nat} {r : Nat → E} (h : w.ownsRow base t 1 v n ((List.range n).map (bvs r))) : ∃ a c, v = .slice a n c ∧ Byts w a n r := by
  obtain ⟨a, c, hv, hc⟩ := own_slice h
  refine ⟨a, c, hv, fun i hi => ?_⟩
  obtain ⟨b, o, ha, hb⟩ := hc i hi
  exact ⟨b, o, ha, by rw [hb]; simp [hi, bvs]⟩
theorem range_bvs (k : Nat) (r : Nat → E) : (List.range k).map (bvs r) ++ [.int .u8 (ev (r k))] = (List.range (k + 1)).map (bvs r) := by
  rw [List.range_succ, List.map_append]; rfl
/-- n columns that are made by append: those ahead of j have m bytes, those behind are none -/
structure ABld (w0 wr : World) (T n m j : Nat) (V : Nat → Value) (Z : Nat → Nat → E) : Prop where
  ext : Ext w0 wr
  top : wr.rowIs T 22 n V
  new : ∀ r, j ≤ r → r < n → V r = .slice none 0 0
  row : ∀ r, r < j → wr.ownsRow w0.heap.size 5 1 (V r) m ((List.range m).map (bvs (Z r)))
theorem ABld.start (w : World) (n m : Nat) (Z : Nat → Nat → E) : ABld w (w.alloc (.cells (madeCells #[.slice none 0 0] n) 22)) w.heap.size n m 0 (fun _ => .slice none 0 0) Z :=
  ⟨(Ext.refl w).alloc _ _, World.rowIs_made w (.slice none 0 0) n 22, fun _ _ _ => rfl, fun r hr => by omega⟩
/-- .. of which column j has its first k bytes: only the list itself was written, of what was there when it began -/
structure AInn (wj wi : World) (T n j k : Nat) (V : Nat → Value) (v : Value) (R : Nat → E) : Prop where
  wro : Wro (· = T) wj wi
  top : wi.rowIs T 22 n (fun r => if r = j then v else V r)
  cur : wi.ownsRow wj.heap.size 5 1 v k ((List.range k).map (bvs R))
theorem AInn.start {w0 wj : World} {T n m j : Nat} {V : Nat → Value} {Z : Nat → Nat → E} (h : ABld w0 wj T n m j V Z) (hj : j < n) (R : Nat → E) : AInn wj wj T n j 0 V (.slice none 0 0) R :=
  ⟨Wro.refl _ _, h.top.congr fun i hi => by
    by_cases e : i = j
    · rw [if_pos e, e, h.new j (Nat.le_refl _) hj]
    · rw [if_neg e], World.ownsRow_nil _ _ _ _⟩
theorem AInn.grow {wj wi w' : World} {T n j k : Nat} {V : Nat → Value} {v : Value} {R : Nat → E} (h : AInn wj wi T n j k V v R) (x : Ext wi w') : AInn wj w' T n j k V v R :=
  ⟨h.wro.then_ext x, x.rowIs h.top, own_ext h.cur x⟩
theorem AInn.next {wj wi w1 w2 : World} {T n j k : Nat} {V : Nat → Value} {v v' : Value} {R : Nat → E} (h : AInn wj wi T n j k V v R) (x : Ext wi w1) (own : w2.ownsRow wj.heap.size 5 1 v' (k + 1) ((List.range k).map (bvs R) ++ [.int .u8 (ev (R k))])) (g : w1.grownBy w2 v.ownBlock) :
    AInn wj (w2.setCell ⟨T, j, none⟩ v') T n j (k + 1) V v' R ∧ w2.rowIs T 22 n (fun r => if r = j then v else V r) := by
  have h1 := h.grow x
  have hne : v.ownBlock ≠ some T := own_ne_row h1.cur h1.top (by decide)
  have htop := row_grown h1.top g hne
  have hw2 := wro_grown h1.wro g fun b hb => Or.inr (own_ge h1.cur hb).1
  rw [range_bvs] at own
  have hne' : v'.ownBlock ≠ some T := own_ne_row own htop (by decide)
  refine ⟨⟨hw2.setCell (p := ⟨T, j, none⟩) rfl _, (htop.set j v').congr fun i _ => ?_, own_wro own ((Wro.refl (· = T) w2).setCell (p := ⟨T, j, none⟩) rfl v') fun b hb e => hne' (by rw [hb, e])⟩, htop⟩
  by_cases e : i = j
  · rw [if_pos e, if_pos e]
  · rw [if_neg e, if_neg e, if_neg e]
theorem AInn.done {w0 wj wi : World} {T n m j : Nat} {V : Nat → Value} {v : Value} {Z : Nat → Nat → E} (h : AInn wj wi T n j m V v (Z j)) (hb : ABld w0 wj T n m j V Z) (hT : w0.heap.size ≤ T) : ABld w0 wi T n m (j + 1) (fun r => if r = j then v else V r) Z := by
  refine ⟨Wro.after hb.ext h.wro (fun i hi => by rw [hi]; exact hT), h.top, fun r hr hn => ?_, fun r hr => ?_⟩
  · rw [if_neg (by omega)]; exact hb.new r (by omega) hn
  · by_cases e : r = j
    · subst e; rw [if_pos rfl]; exact own_mono h.cur hb.ext.size
    · rw [if_neg e]
      have hr' := hb.row r (by omega)
      exact own_wro hr' h.wro fun g hg q => own_ne_row hr' hb.top (by decide) (by rw [hg, q])
theorem ABld.cols {w0 wr : World} {T n m : Nat} {V : Nat → Value} {Z : Nat → Nat → E} (h : ABld w0 wr T n m n V Z) : ∃ A C, Cols wr (some ⟨T, 0, none⟩) n A (fun _ => m) C Z := by
  have each : ∀ r, r < n → ∃ y : Option Addr × Nat, V r = .slice y.1 m y.2 ∧ Byts wr y.1 m (Z r) := fun r hr => by
    obtain ⟨a, c, h1, h2⟩ := own_byts (h.row r hr)
    exact ⟨(a, c), h1, h2⟩
  obtain ⟨y, hy⟩ := choose_lt each
  refine ⟨fun r => (y r).1, fun r => (y r).2, fun r hr => ⟨⟨T, 0, rfl, ?_⟩, (hy r hr).2⟩⟩
  rw [Nat.zero_add, h.top.cell hr, (hy r hr).1]
end Go.Proofs.Ythgbfakmkdifbaa
/-
  Columns of bytes in new memory, made one behind the other: block B has them, column r lies in block G r.
-/
namespace Go.Proofs.Ythgbfakmkdifbaa
open Go.RowKit Go.Deep E
structure BldB (w0 wr : World) (B n m k : Nat) (Z : Nat → Nat → E) (G : Nat → Nat) : Prop where
  ext : Ext w0 wr
  top : wr.rowIs B 22 n (fun r => if r < k then .slice (some ⟨G r, 0, none⟩) m m else .slice none 0 0)
  row : ∀ r, r < k → wr.rowIs (G r) 5 m (bvs (Z r))
  old : ∀ r, r < k → w0.heap.size ≤ G r ∧ G r ≠ B
  inj : ∀ r s, r < k → s < k → G r = G s → r = s
theorem BldB.start (w : World) (n m : Nat) (Z : Nat → Nat → E) (G : Nat → Nat) : BldB w (w.alloc (.cells (madeCells #[.slice none 0 0] n) 22)) w.heap.size n m 0 Z G :=
  ⟨(Ext.refl w).alloc _ _, (World.rowIs_made w (.slice none 0 0) n 22).congr fun i _ => by rw [if_neg (by omega)], fun r hr => by omega, fun r hr => by omega, fun r s hr => by omega⟩
theorem BldB.grow {w0 wr w' : World} {B n m k : Nat} {Z : Nat → Nat → E} {G : Nat → Nat} (h : BldB w0 wr B n m k Z G) (e : Ext wr w') : BldB w0 w' B n m k Z G :=
  ⟨h.ext.trans e, e.rowIs h.top, fun r hr => e.rowIs (h.row r hr), h.old, h.inj⟩
theorem BldB.put {w0 w1 w2 : World} {B n m k : Nat} {Z : Nat → Nat → E} {G : Nat → Nat} (h : BldB w0 w1 B n m k Z G) (hB : w0.heap.size ≤ B) (e : Ext w1 w2) {g : Nat} (hg : w1.heap.size ≤ g) (hr : w2.rowIs g 5 m (bvs (Z k))) :
    BldB w0 (w2.setCell ⟨B, k, none⟩ (.slice (some ⟨g, 0, none⟩) m m)) B n m (k + 1) Z (fun r => if r = k then g else G r) := by
  have hBl := h.top.lt
  have hgl : ∀ r, r < k → G r < w1.heap.size := fun r hr => (h.row r hr).lt
  have h' := h.grow e
  refine ⟨h'.ext.setCell hB _, ?_, fun r hr' => ?_, fun r hr' => ?_, fun r s hr' hs q => ?_⟩
  · refine (h'.top.set k (.slice (some ⟨g, 0, none⟩) m m)).congr fun i _ => ?_
    by_cases q : i = k
    · subst q; rw [if_pos rfl, if_pos (by omega), if_pos rfl]
    · rw [if_neg q]
      by_cases l : i < k
      · rw [if_pos l, if_pos (by omega), if_neg q]
      · rw [if_neg l, if_neg (by omega)]
  · by_cases q : r = k
    · subst q; rw [if_pos rfl]; exact hr.setOther (a := ⟨B, r, none⟩) (by show g ≠ B; omega) _
    · rw [if_neg q]; exact (h'.row r (by omega)).setOther (a := ⟨B, k, none⟩) (h.old r (by omega)).2 _
  · by_cases q : r = k
    · subst q; rw [if_pos rfl]; have := h.ext.size; exact ⟨by omega, by omega⟩
    · rw [if_neg q]; exact h.old r (by omega)
  · by_cases er : r = k
    · by_cases es : s = k
      · omega
      · rw [if_pos er, if_neg es] at q; have := hgl s (by omega); omega
    · by_cases es : s = k
      · rw [if_neg er, if_pos es] at q; have := hgl r (by omega); omega
      · rw [if_neg er, if_neg es] at q; exact h.inj r s (by omega) (by omega) q
/-- the next column: 0s -/
theorem BldB.made {w0 wr : World} {B n m k : Nat} {Z : Nat → Nat → E} {G : Nat → Nat} (h : BldB w0 wr B n m k Z G) (hB : w0.heap.size ≤ B) :
    BldB w0 ((wr.setCell ⟨B, k, none⟩ (.slice (some ⟨wr.heap.size, 0, none⟩) m m)).alloc (.cells (madeCells #[.int .u8 0] m) 5)) B n m (k + 1) (fun r => if r = k then fun _ => ze else Z r) (fun r => if r = k then wr.heap.size else G r) := by
  have hBlt := h.top.lt
  have hsz := nblk_setCell wr ⟨B, k, none⟩ (.slice (some ⟨wr.heap.size, 0, none⟩) m m)
  have hgl : ∀ r, r < k → G r < wr.heap.size := fun r hr => (h.row r hr).lt
  refine ⟨(h.ext.setCell hB _).alloc _ _, ?_, fun r hr => ?_, fun r hr => ?_, fun r s hr hs q => ?_⟩
  · refine (((h.top.set k (.slice (some ⟨wr.heap.size, 0, none⟩) m m)).alloc _).congr fun i _ => ?_)
    by_cases e : i = k
    · subst e; rw [if_pos rfl, if_pos (by omega), if_pos rfl]
    · rw [if_neg e]
      by_cases l : i < k
      · rw [if_pos l, if_pos (by omega), if_neg e]
      · rw [if_neg l, if_neg (by omega)]
  · by_cases e : r = k
    · rw [if_pos e, if_pos e]
      have h1 := World.rowIs_made (wr.setCell ⟨B, k, none⟩ (.slice (some ⟨wr.heap.size, 0, none⟩) m m)) (.int .u8 0) m 5
      rw [hsz] at h1
      exact h1
    · rw [if_neg e, if_neg e]
      exact ((h.row r (by omega)).setOther (a := ⟨B, k, none⟩) (h.old r (by omega)).2 _).alloc _
  · by_cases e : r = k
    · rw [if_pos e]; exact ⟨h.ext.size, by omega⟩
    · rw [if_neg e]; exact h.old r (by omega)
  · by_cases er : r = k
    · by_cases es : s = k
      · omega
      · rw [if_pos er, if_neg es] at q; have := hgl s (by omega); omega
    · by_cases es : s = k
      · rw [if_neg er, if_pos es] at q; have := hgl r (by omega); omega
      · rw [if_neg er, if_neg es] at q; exact h.inj r s (by omega) (by omega) q
theorem BldB.congr {w0 wr : World} {B n m k : Nat} {Z Z' : Nat → Nat → E} {G : Nat → Nat} (h : BldB w0 wr B n m k Z G) (e : ∀ r, r < k → ∀ i, i < m → Z r i = Z' r i) : BldB w0 wr B n m k Z' G :=
  ⟨h.ext, h.top, fun r hr => (h.row r hr).congr fun i hi => by unfold bvs; rw [e r hr i hi], h.old, h.inj⟩
/-- one column written anew -/
theorem BldB.turn {w0 wr w' : World} {B n m k : Nat} {Z : Nat → Nat → E} {G : Nat → Nat} (h : BldB w0 wr B n m k Z G) {r : Nat} (hr : r < k) (R : Nat → E) (k' : Wro (· = G r) wr w') (hrow : w'.rowIs (G r) 5 m (bvs R)) : BldB w0 w' B n m k (fun s => if s = r then R else Z s) G :=
  ⟨Wro.after h.ext k' (fun i hi => by rw [hi]; exact (h.old r hr).1), k'.rowIs h.top (fun e => (h.old r hr).2 e.symm), fun s hs => by
    by_cases e : s = r
    · subst e; rw [if_pos rfl]; exact hrow
    · rw [if_neg e]; exact k'.rowIs (h.row s hs) (fun q => e (h.inj s r hs hr q)), h.old, h.inj⟩
theorem BldB.back {w0 w1 wr : World} {B n m k : Nat} {Z : Nat → Nat → E} {G : Nat → Nat} (h : BldB w1 wr B n m k Z G) (x : Ext w0 w1) : BldB w0 wr B n m k Z G :=
  ⟨x.trans h.ext, h.top, h.row, fun r hr => ⟨Nat.le_trans x.size (h.old r hr).1, (h.old r hr).2⟩, h.inj⟩
/-- it stays where blocks of another kind are written -/
theorem BldB.wro {S : Nat → Prop} {w0 wr w' : World} {B n m k : Nat} {Z : Nat → Nat → E} {G : Nat → Nat} (h : BldB w0 wr B n m k Z G) (x : Wro S wr w') (hs : ∀ b, S b → w0.heap.size ≤ b ∧ ∃ t' n' f, wr.rowIs b t' n' f ∧ t' ≠ 22 ∧ t' ≠ 5) : BldB w0 w' B n m k Z G := by
  have ne : ∀ {b b' n n' : Nat} {t t' : TypeId} {f f' : Nat → Value}, wr.rowIs b t n f → wr.rowIs b' t' n' f' → t ≠ t' → b ≠ b' := fun {b b' n n' t t' f f'} h h' hne e => by
    subst e
    obtain ⟨c, h1, _⟩ := h
    obtain ⟨c', h2, _⟩ := h'
    rw [h1] at h2
    cases h2
    exact hne rfl
  refine ⟨Wro.after h.ext x fun i hi => (hs i hi).1, x.rowIs h.top fun q => ?_, fun r hr => x.rowIs (h.row r hr) fun q => ?_, h.old, h.inj⟩
  · obtain ⟨_, t', n', f, h1, h2, _⟩ := hs B q
    exact ne h1 h.top h2 rfl
  · obtain ⟨_, t', n', f, h1, _, h3⟩ := hs (G r) q
    exact ne h1 (h.row r hr) h3 rfl
theorem BldB.wro1 {w0 wr w' : World} {B n m k b : Nat} {Z : Nat → Nat → E} {G : Nat → Nat} {t' : TypeId} {n' : Nat} {f : Nat → Value} (h : BldB w0 wr B n m k Z G) (x : Wro (· = b) wr w') (hb : w0.heap.size ≤ b) (hr : wr.rowIs b t' n' f) (h1 : t' ≠ 22) (h2 : t' ≠ 5) : BldB w0 w' B n m k Z G :=
  h.wro x fun b' e => by subst e; exact ⟨hb, t', n', f, hr, h1, h2⟩
/-- the blocks of the columns -/
def BlkB (G : Nat → Nat) (k b : Nat) : Prop := ∃ r, r < k ∧ b = G r
/-- what is no byte lies in none of them -/
theorem BldB.keeps {w0 wr w' : World} {B n m k : Nat} {Z : Nat → Nat → E} {G : Nat → Nat} (h : BldB w0 wr B n m k Z G) (x : Wro (BlkB G k) wr w') {b o : Nat} {v : Value} (hv : wr.cell? ⟨b, o, none⟩ = some v) (hn : ∀ z, v ≠ .int .u8 z) : w'.cell? ⟨b, o, none⟩ = some v := by
  refine x.cell hv fun q => ?_
  obtain ⟨r, hr, q⟩ := q
  have hrow := h.row r hr
  have q' : b = G r := q
  subst q'
  obtain ⟨c, h1, h2, h3⟩ := hrow
  have : wr.cell? ⟨G r, o, none⟩ = c[o]? := cell_of_row wr (G r) o c _ _ h1
  rw [this] at hv
  have ho : o < m := by
    rcases Nat.lt_or_ge o m with e | e
    · exact e
    · rw [Array.getElem?_eq_none (by omega)] at hv; cases hv
  rw [h3 o ho] at hv
  cases hv
  exact hn _ rfl
theorem BldB.cols {w0 wr : World} {B n m : Nat} {Z : Nat → Nat → E} {G : Nat → Nat} (h : BldB w0 wr B n m n Z G) : Cols wr (some ⟨B, 0, none⟩) n (fun r => some ⟨G r, 0, none⟩) (fun _ => m) (fun _ => m) Z := fun r hr =>
  ⟨⟨B, 0, rfl, by rw [Nat.zero_add, h.top.cell hr, if_pos hr]⟩, Byts.row (h.row r hr) (Nat.le_refl _)⟩
/-- what a call told: n columns of m bytes, and a number -/
def ColsRes (w' : World) (e : Ending) (n m : Nat) (D : Nat → Nat → E) (err : Int) : Prop :=
  ∃ a c A C, e = .returned (.tuple #[.slice a n c, .int .i64 err]) ∧ Cols w' a n A (fun _ => m) C D
theorem ColsRes.none (w : World) (m : Nat) (D : Nat → Nat → E) (err : Int) : ColsRes w (.returned (.tuple #[.slice none 0 0, .int .i64 err])) 0 m D err := ⟨_, _, fun _ => Option.none, fun _ => 0, rfl, fun r hr => by omega⟩
end Go.Proofs.Ythgbfakmkdifbaa
/-
  Columns of bytes in new memory: one of them in another block; what is no byte beside them.
-/
namespace Go.Proofs.Ythgbfakmkdifbaa
open Go.RowKit Go.Deep E
/-- one column in another block -/
theorem BldB.replace {w0 w1 w2 : World} {B n m r : Nat} {Z : Nat → Nat → E} {G : Nat → Nat} (h : BldB w0 w1 B n m n Z G) (hB : w0.heap.size ≤ B) (e : Ext w1 w2) {g : Nat} {R : Nat → E} (hg : w1.heap.size ≤ g) (hrow : w2.rowIs g 5 m (bvs R)) :
    BldB w0 (w2.setCell ⟨B, r, none⟩ (.slice (some ⟨g, 0, none⟩) m m)) B n m n (fun s => if s = r then R else Z s) (fun s => if s = r then g else G s) := by
  have hBl := h.top.lt
  have hgl : ∀ s, s < n → G s < w1.heap.size := fun s hs => (h.row s hs).lt
  have h' := h.grow e
  refine ⟨h'.ext.setCell hB _, ?_, fun s hs => ?_, fun s hs => ?_, fun s s' hs hs' q => ?_⟩
  · refine (h'.top.set r (.slice (some ⟨g, 0, none⟩) m m)).congr fun i hi => ?_
    by_cases q : i = r
    · rw [if_pos q, if_pos hi, if_pos q]
    · rw [if_neg q, if_pos hi, if_pos hi, if_neg q]
  · by_cases q : s = r
    · rw [if_pos q, if_pos q]; exact hrow.setOther (a := ⟨B, r, none⟩) (by show g ≠ B; omega) _
    · rw [if_neg q, if_neg q]; exact (h'.row s hs).setOther (a := ⟨B, r, none⟩) (h.old s hs).2 _
  · by_cases q : s = r
    · rw [if_pos q]; have := h.ext.size; exact ⟨by omega, by omega⟩
    · rw [if_neg q]; exact h.old s hs
  · by_cases es : s = r
    · by_cases es' : s' = r
      · omega
      · rw [if_pos es, if_neg es'] at q; have := hgl s' hs'; omega
    · by_cases es' : s' = r
      · rw [if_neg es, if_pos es'] at q; have := hgl s hs; omega
      · rw [if_neg es, if_neg es'] at q; exact h.inj s s' hs hs' q
theorem BldB.ints {w0 wr w' : World} {B n m k : Nat} {Z : Nat → Nat → E} {G : Nat → Nat} (h : BldB w0 wr B n m k Z G) (x : Wro (BlkB G k) wr w') {a : Option Addr} {l : Nat} {f : Nat → Int} (hi : Ints wr a l f) : Ints w' a l f := fun i hl => by
  obtain ⟨b, o, ha, hc⟩ := hi i hl
  exact ⟨b, o, ha, h.keeps x hc fun z e => by cases e⟩
/-- what is no slice does not lie in the list of the columns -/
theorem BldB.top_ne {w0 wr : World} {B n m k : Nat} {Z : Nat → Nat → E} {G : Nat → Nat} (h : BldB w0 wr B n m k Z G) {b o : Nat} {x : Int} {kd : IntKind} (hv : wr.cell? ⟨b, o, none⟩ = some (.int kd x)) : b ≠ B := fun e => by
  subst e
  obtain ⟨c, h1, h2, h3⟩ := h.top
  have : wr.cell? ⟨b, o, none⟩ = c[o]? := cell_of_row wr b o c _ _ h1
  rw [this] at hv
  have ho : o < n := by
    rcases Nat.lt_or_ge o n with e | e
    · exact e
    · rw [Array.getElem?_eq_none (by omega)] at hv; cases hv
  rw [h3 o ho] at hv
  dsimp only at hv
  split at hv <;> cases hv
end Go.Proofs.Ythgbfakmkdifbaa
/-
  append of whatever was found, onto a slice of the call's own: a nil source, an empty one, any other.
-/
namespace Go.Proofs.Ythgbfakmkdifbaa
open Go.RowKit Go.Deep E
section
variable {P : Program}
theorem run_append_none (w : World) {base : Nat} (t ty e : TypeId) (i : TypeInfo) (ht : P.underlying t = some (.slice e)) (hi : P.info? e = some i) (v : Value) (n : Nat) (xs : List Value) {size : Nat} (hown : w.ownsRow base e size v n xs) (c : Nat) :
    (Builtin.append_ #[t, t] ty #[v, .slice none 0 c]).run P w = .ok v w := by
  obtain ⟨_, h⟩ := hown
  rcases h with ⟨rfl, rfl⟩ | ⟨g, cap, cur, rfl, _, _, hn, _⟩
  · simp [Builtin.append_, run_underlying ht, sizeOf, typeInfo, hi, Builtin.lenOf, Builtin.firstCells]
  · simp [Builtin.append_, run_underlying ht, sizeOf, typeInfo, hi, Builtin.lenOf, Builtin.firstCells, hn, storeCells]
theorem append_none (w : World) {ops : Array Oper} {rest : List Oper} {o : Oper} {a : Act} {Q : Exit → Act → World → Prop} (hgd : o.guard = none) (s x : Operand) (t : TypeId)
    (ho : o.op = .call { callee := .builtin .append, args := #[s, x], argTypes := #[t, t] }) (base : Nat) (e : TypeId) (i : TypeInfo) {size : Nat} (ht : P.underlying t = some (.slice e)) (hi : P.info? e = some i)
    (v : Value) (n : Nat) (xs : List Value) (hs : a.eval s = v) (hown : w.ownsRow base e size v n xs) (c : Nat) (hx : a.eval x = .slice none 0 c)
    (h : wpList P ops Q rest (a.put o.dst v) w) : wpList P ops Q (o :: rest) a w := by
  refine wpList_plain hgd fun K hK => ?_
  have hrun := run_append_none (P := P) w t o.type e i ht hi v n xs hown c
  unfold Oper.wp
  simp [execOp, ho, resolve, invoke, builtin, hs, hx, hrun, Result.andThen]
  exact hK _ _ h
theorem append_vals (w : World) {ops : Array Oper} {rest : List Oper} {o : Oper} {a : Act} {Q : Exit → Act → World → Prop} (hgd : o.guard = none) (s x : Operand) (T : TypeId)
    (ho : o.op = .call { callee := .builtin .append, args := #[s, x], argTypes := #[T, T] }) (base : Nat) (t : TypeId) (z : Value) (bytes : Nat) (ht : P.underlying T = some (.slice t))
    (hinfo : (P.info? t).map (fun i => (i.zero, i.size, i.bytes)) = some (some z, 1, bytes)) (hzs : z.cells.size = 1) (v : Value) (n : Nat) (xs : List Value) (hs : a.eval s = v) (hown : w.ownsRow base t 1 v n xs)
    (ao : Option Addr) (l c : Nat) (F : Nat → Value) (hx : a.eval x = .slice ao l c) (hF : ∀ i, i < l → ∃ b o, ao = some ⟨b, o, none⟩ ∧ w.cell? ⟨b, o + i, none⟩ = some (F i)) (hone : ∀ i, i < l → (F i).oneCell' = true)
    (hm : n + l ≤ 9223372036854775807) (hb : (n + l) * bytes ≤ 140737488355328) (hbase : base ≤ w.heap.size)
    (h : ∀ v' w', w'.ownsRow base t 1 v' (n + l) (xs ++ (List.range l).map F) → w.grownBy w' v.ownBlock → wpList P ops Q rest (a.put o.dst v') w') : wpList P ops Q (o :: rest) a w := by
  obtain ⟨i0, hi, hz0, hz1, hz2⟩ := info_parts hinfo
  cases ao with
  | none =>
    have hl : l = 0 := by
      rcases Nat.eq_zero_or_pos l with e | e
      · exact e
      · obtain ⟨b, o, h1, _⟩ := hF 0 e; cases h1
    subst hl
    refine append_none w hgd s x T ho base t i0 ht hi v n xs hs hown c hx ?_
    refine h v w ?_ ⟨rfl, rfl, rfl, Nat.le_refl _, fun _ _ _ => rfl⟩
    simpa using hown
  | some ad =>
    refine wpList_append_own w hgd s x T ho base t i0 z 1 bytes ht hi hz0 hz1 hz2 hzs (by decide) v n xs hs hown ad l c ((List.range l).map F) hx (by simp) ?_ ?_ ?_ hb hbase ?_
    · intro j y hj
      have e : j < l := by
        rcases Nat.lt_or_ge j l with e | e
        · exact e
        · rw [List.getElem?_eq_none (by simp; omega)] at hj; cases hj
      rw [List.getElem?_map, List.getElem?_range e] at hj
      cases hj
      obtain ⟨b, o, h1, h2⟩ := hF j e
      cases h1
      rw [Go.WideShapes.add_plain]
      exact h2
    · intro y hy
      obtain ⟨i, hi, rfl⟩ := List.mem_map.1 hy
      exact hone i (List.mem_range.1 hi)
    · unfold maxLen; omega
    · exact fun v' w' h1 h2 _ => h v' w' h1 h2
end
/-- where a slice of a slice begins -/
def subA (a : Option Addr) (c lo : Nat) : Option Addr := if c = lo then a else a.map (·.add lo)
theorem subA_some {c lo b o : Nat} (h : lo < c) : subA (some ⟨b, o, none⟩) c lo = some ⟨b, o + lo, none⟩ := by
  unfold subA
  rw [if_neg (by omega)]
  simp [Addr.add]
theorem sub_lh {P : Program} {T t : TypeId} (hT : P.underlying T = some (.slice t)) (hs : P.cellsOf t = 1) (a : Option Addr) (l c lo m : Nat) (h : lo + m ≤ c) (x y : Int) (hx : x = (lo : Int)) (hy : y = ((lo + m : Nat) : Int)) (w : World) :
    (Instr.slice T (.slice a l c) (some (.int .i64 x)) (some (.int .i64 y)) none).run P w = .ok (.slice (subA a c lo) m (c - lo)) w := by
  have hT' : P.underlying T = some (.slice (P.elem T)) := by simp [Program.elem, hT]
  have he : P.elem T = t := by simp [Program.elem, hT]
  rw [run_slice_lh (P := P) w T a l c hT' .i64 .i64 x y (by omega) (by omega) (by omega), he]
  have h1 : x.toNat = lo := by omega
  have h2 : y.toNat = lo + m := by omega
  have h3 : (sizeOf t).run P w = .ok 1 w := by
    unfold Program.cellsOf at hs
    cases hq : P.info? t with
    | none => simp [hq] at hs
    | some i =>
      simp [hq] at hs
      simp [sizeOf, typeInfo, hq, hs]
  rw [h3, h1, h2]
  simp [Result.andThen, sliced, subA]
theorem sub_h {P : Program} {T t : TypeId} (hT : P.underlying T = some (.slice t)) (hs : P.cellsOf t = 1) (a : Option Addr) (l c m : Nat) (h : m ≤ c) (y : Int) (hy : y = (m : Int)) (w : World) :
    (Instr.slice T (.slice a l c) none (some (.int .i64 y)) none).run P w = .ok (.slice (subA a c 0) m c) w := by
  have hT' : P.underlying T = some (.slice (P.elem T)) := by simp [Program.elem, hT]
  have he : P.elem T = t := by simp [Program.elem, hT]
  rw [run_slice_h (P := P) w T a l c hT' .i64 y (by omega) (by omega), he]
  have h2 : y.toNat = m := by omega
  have h3 : (sizeOf t).run P w = .ok 1 w := by
    unfold Program.cellsOf at hs
    cases hq : P.info? t with
    | none => simp [hq] at hs
    | some i =>
      simp [hq] at hs
      simp [sizeOf, typeInfo, hq, hs]
  rw [h3, h2]
  simp [Result.andThen, sliced, subA]
theorem sub_l {P : Program} {T t : TypeId} (hT : P.underlying T = some (.slice t)) (hs : P.cellsOf t = 1) (a : Option Addr) (l c lo : Nat) (h : lo ≤ l) (x : Int) (hx : x = (lo : Int)) (w : World) :
    (Instr.slice T (.slice a l c) (some (.int .i64 x)) none none).run P w = .ok (.slice (subA a c lo) (l - lo) (c - lo)) w := by
  have hT' : P.underlying T = some (.slice (P.elem T)) := by simp [Program.elem, hT]
  have he : P.elem T = t := by simp [Program.elem, hT]
  rw [run_slice_l (P := P) w T a l c hT' .i64 x (by omega) (by omega), he]
  have h2 : x.toNat = lo := by omega
  have h3 : (sizeOf t).run P w = .ok 1 w := by
    unfold Program.cellsOf at hs
    cases hq : P.info? t with
    | none => simp [hq] at hs
    | some i =>
      simp [hq] at hs
      simp [sizeOf, typeInfo, hq, hs]
  rw [h3, h2]
  simp [Result.andThen, sliced, subA]
/-- some of the bytes of a slice -/
theorem Byts.sub {w : World} {a : Option Addr} {n : Nat} {f : Nat → E} (h : Byts w a n f) (lo m : Nat) (hm : lo + m ≤ n) {a' : Option Addr} (ha : 0 < m → ∀ b o, a = some ⟨b, o, none⟩ → a' = some ⟨b, o + lo, none⟩) : Byts w a' m fun i => f (lo + i) := fun i hi => by
  obtain ⟨b, o, h1, h2⟩ := h (lo + i) (by omega)
  exact ⟨b, o + lo, ha (by omega) b o h1, by rw [Nat.add_assoc]; exact h2⟩
end Go.Proofs.Ythgbfakmkdifbaa
/-
  A list of lists, made by make, whose rows are made by append: n rows, those ahead of j done.
-/
namespace Go.Proofs.Ythgbfakmkdifbaa
open Go.RowKit Go.Deep E
theorem rowIs_ne {w : World} {b b' n n' : Nat} {t t' : TypeId} {f f' : Nat → Value} (h : w.rowIs b t n f) (h' : w.rowIs b' t' n' f') (hne : t ≠ t') : b ≠ b' := fun e => by
  subst e
  obtain ⟨c, h1, _⟩ := h
  obtain ⟨c', h2, _⟩ := h'
  rw [h1] at h2
  cases h2
  exact hne rfl
structure GBld (T t : TypeId) (w0 wr : World) (B n m j : Nat) (V : Nat → Value) (Z : Nat → Nat → Value) : Prop where
  ext : Ext w0 wr
  top : wr.rowIs B T n V
  new : ∀ r, j ≤ r → r < n → V r = .slice none 0 0
  row : ∀ r, r < j → wr.ownsRow w0.heap.size t 1 (V r) m ((List.range m).map (Z r))
theorem GBld.start {T t : TypeId} (w : World) (n m : Nat) (Z : Nat → Nat → Value) : GBld T t w (w.alloc (.cells (madeCells #[.slice none 0 0] n) T)) w.heap.size n m 0 (fun _ => .slice none 0 0) Z :=
  ⟨(Ext.refl w).alloc _ _, World.rowIs_made w (.slice none 0 0) n T, fun _ _ _ => rfl, fun r hr => by omega⟩
theorem GBld.grow {T t : TypeId} {w0 wr w' : World} {B n m j : Nat} {V : Nat → Value} {Z : Nat → Nat → Value} (h : GBld T t w0 wr B n m j V Z) (x : Ext wr w') : GBld T t w0 w' B n m j V Z :=
  ⟨h.ext.trans x, x.rowIs h.top, h.new, fun r hr => own_ext (h.row r hr) x⟩
/-- it stays where blocks of another kind are written -/
theorem GBld.wro {T t : TypeId} {S : Nat → Prop} {w0 wr w' : World} {B n m j : Nat} {V : Nat → Value} {Z : Nat → Nat → Value} (h : GBld T t w0 wr B n m j V Z) (k : Wro S wr w') (hs : ∀ b, S b → w0.heap.size ≤ b ∧ ∃ t' n' f, wr.rowIs b t' n' f ∧ t' ≠ T ∧ t' ≠ t) : GBld T t w0 w' B n m j V Z := by
  refine ⟨Wro.after h.ext k fun i hi => (hs i hi).1, k.rowIs h.top fun q => ?_, h.new, fun r hr => own_wro (h.row r hr) k fun g hg q => ?_⟩
  · obtain ⟨_, t', n', f, h1, h2, _⟩ := hs B q
    exact rowIs_ne h1 h.top h2 rfl
  · obtain ⟨_, t', n', f, h1, _, h3⟩ := hs g q
    exact own_ne_row (h.row r hr) h1 (fun e => h3 e.symm) hg
theorem GBld.wro1 {T t : TypeId} {w0 wr w' : World} {B n m j b : Nat} {V : Nat → Value} {Z : Nat → Nat → Value} {t' : TypeId} {n' : Nat} {f : Nat → Value} (h : GBld T t w0 wr B n m j V Z) (x : Wro (· = b) wr w') (hb : w0.heap.size ≤ b) (hr : wr.rowIs b t' n' f) (h1 : t' ≠ T) (h2 : t' ≠ t) : GBld T t w0 w' B n m j V Z :=
  h.wro x fun b' e => by subst e; exact ⟨hb, t', n', f, hr, h1, h2⟩
structure GInn (T t : TypeId) (wj wi : World) (B n j k : Nat) (V : Nat → Value) (v : Value) (R : Nat → Value) : Prop where
  wro : Wro (· = B) wj wi
  top : wi.rowIs B T n (fun r => if r = j then v else V r)
  cur : wi.ownsRow wj.heap.size t 1 v k ((List.range k).map R)
theorem GInn.start {T t : TypeId} {w0 wj : World} {B n m j : Nat} {V : Nat → Value} {Z : Nat → Nat → Value} (h : GBld T t w0 wj B n m j V Z) (hj : j < n) (R : Nat → Value) : GInn T t wj wj B n j 0 V (.slice none 0 0) R :=
  ⟨Wro.refl _ _, h.top.congr fun i hi => by
    by_cases e : i = j
    · rw [if_pos e, e, h.new j (Nat.le_refl _) hj]
    · rw [if_neg e], World.ownsRow_nil _ _ _ _⟩
theorem GInn.grow {T t : TypeId} {wj wi w' : World} {B n j k : Nat} {V : Nat → Value} {v : Value} {R : Nat → Value} (h : GInn T t wj wi B n j k V v R) (x : Ext wi w') : GInn T t wj w' B n j k V v R :=
  ⟨h.wro.then_ext x, x.rowIs h.top, own_ext h.cur x⟩
theorem range_map_succ (k : Nat) (R : Nat → Value) : (List.range k).map R ++ [R k] = (List.range (k + 1)).map R := by
  rw [List.range_succ, List.map_append]; rfl
theorem GInn.next {T t : TypeId} (hne0 : t ≠ T) {wj wi w1 w2 : World} {B n j k : Nat} {V : Nat → Value} {v v' : Value} {R : Nat → Value} (h : GInn T t wj wi B n j k V v R) (x : Ext wi w1) (own : w2.ownsRow wj.heap.size t 1 v' (k + 1) ((List.range k).map R ++ [R k])) (g : w1.grownBy w2 v.ownBlock) :
    GInn T t wj (w2.setCell ⟨B, j, none⟩ v') B n j (k + 1) V v' R ∧ w2.rowIs B T n (fun r => if r = j then v else V r) := by
  have h1 := h.grow x
  have hne : v.ownBlock ≠ some B := own_ne_row h1.cur h1.top hne0
  have htop := row_grown h1.top g hne
  have hw2 := wro_grown h1.wro g fun b hb => Or.inr (own_ge h1.cur hb).1
  rw [range_map_succ] at own
  have hne' : v'.ownBlock ≠ some B := own_ne_row own htop hne0
  refine ⟨⟨hw2.setCell (p := ⟨B, j, none⟩) rfl _, (htop.set j v').congr fun i _ => ?_, own_wro own ((Wro.refl (· = B) w2).setCell (p := ⟨B, j, none⟩) rfl v') fun b hb e => hne' (by rw [hb, e])⟩, htop⟩
  by_cases e : i = j
  · rw [if_pos e, if_pos e]
  · rw [if_neg e, if_neg e, if_neg e]
theorem GInn.done {T t : TypeId} (hne0 : t ≠ T) {w0 wj wi : World} {B n m j : Nat} {V : Nat → Value} {v : Value} {Z : Nat → Nat → Value} (h : GInn T t wj wi B n j m V v (Z j)) (hb : GBld T t w0 wj B n m j V Z) (hB : w0.heap.size ≤ B) : GBld T t w0 wi B n m (j + 1) (fun r => if r = j then v else V r) Z := by
  refine ⟨Wro.after hb.ext h.wro (fun i hi => by rw [hi]; exact hB), h.top, fun r hr hn => ?_, fun r hr => ?_⟩
  · rw [if_neg (by omega)]; exact hb.new r (by omega) hn
  · by_cases e : r = j
    · subst e; rw [if_pos rfl]; exact own_mono h.cur hb.ext.size
    · rw [if_neg e]
      have hr' := hb.row r (by omega)
      exact own_wro hr' h.wro fun g hg q => own_ne_row hr' hb.top hne0 (by rw [hg, q])
/-- a matrix of elements -/
theorem GBld.mat {T t : TypeId} {w0 wr : World} {B n m : Nat} {V : Nat → Value} {M : Nat → Nat → E} (h : GBld T t w0 wr B n m n V fun r i => .int .i64 (ev (M r i))) : ∃ A C, Mat wr (some ⟨B, 0, none⟩) n A (fun _ => m) C (fun r i => ev (M r i)) := by
  have each : ∀ r, r < n → ∃ y : Option Addr × Nat, V r = .slice y.1 m y.2 ∧ Ints wr y.1 m fun i => ev (M r i) := fun r hr => by
    obtain ⟨a, c, hv, hc⟩ := own_slice (h.row r hr)
    refine ⟨(a, c), hv, fun i hi => ?_⟩
    obtain ⟨b, o, ha, hb⟩ := hc i hi
    exact ⟨b, o, ha, by rw [hb]; simp [hi]⟩
  obtain ⟨y, hy⟩ := choose_lt each
  refine ⟨fun r => (y r).1, fun r => (y r).2, fun r hr => ⟨⟨B, 0, rfl, ?_⟩, (hy r hr).2⟩⟩
  rw [Nat.zero_add, h.top.cell hr, (hy r hr).1]
end Go.Proofs.Ythgbfakmkdifbaa
/-
  copy of a slice of bytes over the head of a row that the call has made: an empty one too, and nil.
-/
namespace Go.Proofs.Ythgbfakmkdifbaa
open Go.RowKit Go.Deep E
theorem copy_byts {P : Program} {w : World} {ops : Array Oper} {rest : List Oper} {o : Oper} {a : Act} {Q : Exit → Act → World → Prop} (hgd : o.guard = none) (d s : Operand) (T : TypeId)
    (ho : o.op = .call { callee := .builtin .copy, args := #[d, s], argTypes := #[T, T] }) (t : TypeId) (hu : P.underlying T = some (.slice t)) (hsz : (P.info? t).map (·.size) = some 1)
    (g m dCap : Nat) (sp : Option Addr) (l sCap : Nat) (hd : a.eval d = .slice (some ⟨g, 0, none⟩) m dCap) (hs : a.eval s = .slice sp l sCap) (f : Nat → Value) (hg : w.rowIs g t m f) (F : Nat → E) (hi : Byts w sp l F) (hle : l ≤ m)
    (h : ∀ w', w'.rowIs g t m (fun i => if i < l then .int .u8 (ev (F i)) else f i) → Wro (· = g) w w' → wpList P ops Q rest (a.put o.dst (goInt l)) w') : wpList P ops Q (o :: rest) a w := by
  rcases Nat.eq_zero_or_pos l with e | h0
  · subst e
    refine wpList_copy_nothing hgd d s T T ho t hu hsz _ _ m dCap 0 sCap hd hs (Nat.zero_min _) ?_
    exact h w (hg.congr fun i _ => by rw [if_neg (by omega)]) (Wro.refl _ _)
  obtain ⟨b, off, rfl, hc⟩ := hi.at h0
  obtain ⟨cur, hcur, hlen, hcell⟩ := hg
  have hcs : ((List.range l).map fun i => Value.int .u8 (ev (F i))).length = l := by simp
  refine wpList_copy_own hgd d s T T ho t hu hsz g 0 m dCap ⟨b, off, none⟩ l sCap hd hs cur t hcur ((List.range l).map fun i => .int .u8 (ev (F i))) (by rw [hcs]; exact (Nat.min_eq_left hle).symm) ?_ ?_ ?_ ?_
  · intro j v hj
    have e : j < l := by
      rcases Nat.lt_or_ge j l with e | e
      · exact e
      · rw [List.getElem?_eq_none (by simp; omega)] at hj; cases hj
    rw [List.getElem?_map, List.getElem?_range e] at hj
    cases hj
    rw [Go.WideShapes.add_plain]
    exact hc j e
  · rw [hcs]; omega
  · intro v hv
    obtain ⟨i, _, rfl⟩ := List.mem_map.1 hv
    rfl
  · rw [hcs]
    refine h _ ⟨_, setRow_heap w g cur _ t _ hcur, ?_, fun i hi' => ?_⟩ ⟨rfl, rfl, rfl, by simp, fun k _ hk => setRow_other _ _ _ _ hk⟩
    · simp; omega
    · simp only [List.getElem?_toArray, List.take_zero, List.nil_append, Nat.zero_add]
      by_cases e : i < l
      · rw [List.getElem?_append_left (by simpa using e)]
        simp [e]
      · rw [List.getElem?_append_right (by simp; omega), List.getElem?_drop]
        simp only [hcs]
        rw [show l + (i - l) = i by omega, if_neg e]
        have := hcell i hi'
        simpa using this
theorem sizeByte {P : Program} {t : TypeId} (h : (P.info? t).map (fun i => (i.zero, i.size, i.bytes)) = some (some (.int .u8 0), 1, 1)) : (P.info? t).map (·.size) = some 1 := by
  cases hq : P.info? t with
  | none => simp [hq] at h
  | some i => simp [hq] at h; simp [h.2.1]
end Go.Proofs.Ythgbfakmkdifbaa
