/-
  Columns of bytes in new memory, made one behind the other: block B has them, column r lies in block G r.
-/
import Derived.WalkKit
import Derived.Deep.OwnRows
import Derived.Laws.Rows
import Derived.Test.YtbngmmlmhmmpbaaByt
namespace Go.Proofs.Ytbngmmlmhmmpbaa
open Go.RowKit Go.Deep E
structure BldB (w0 wr : World) (B n m k : Nat) (Z : Nat → Nat → E) (G : Nat → Nat) : Prop where
  ext : Ext w0 wr
  top : wr.rowIs B 32 n (fun r => if r < k then .slice (some ⟨G r, 0, none⟩) m m else .slice none 0 0)
  row : ∀ r, r < k → wr.rowIs (G r) 5 m (bvs (Z r))
  old : ∀ r, r < k → w0.heap.size ≤ G r ∧ G r ≠ B
  inj : ∀ r s, r < k → s < k → G r = G s → r = s
theorem BldB.start (w : World) (n m : Nat) (Z : Nat → Nat → E) (G : Nat → Nat) : BldB w (w.alloc (.cells (madeCells #[.slice none 0 0] n) 32)) w.heap.size n m 0 Z G :=
  ⟨(Ext.refl w).alloc _ _, (World.rowIs_made w (.slice none 0 0) n 32).congr fun i _ => by rw [if_neg (by omega)], fun r hr => by omega, fun r hr => by omega, fun r s hr => by omega⟩
theorem BldB.grow {w0 wr w' : World} {B n m k : Nat} {Z : Nat → Nat → E} {G : Nat → Nat} (h : BldB w0 wr B n m k Z G) (e : Ext wr w') : BldB w0 w' B n m k Z G :=
  ⟨h.ext.trans e, e.rowIs h.top, fun r hr => e.rowIs (h.row r hr), h.old, h.inj⟩
theorem BldB.put {w0 w1 w2 : World} {B n m k : Nat} {Z : Nat → Nat → E} {G : Nat → Nat} (h : BldB w0 w1 B n m k Z G) (hB : w0.heap.size ≤ B) (e : Ext w1 w2) {g : Nat} (hg : w1.heap.size ≤ g) (hr : w2.rowIs g 5 m (bvs (Z k))) :
    BldB w0 (w2.setCell ⟨B, k, none⟩ (.slice (some ⟨g, 0, none⟩) m m)) B n m (k + 1) Z (fun r => if r = k then g else G r) := by
  have hBl := h.top.lt
  have hgl : ∀ r, r < k → G r < w1.heap.size := fun r hr => (h.row r hr).lt
  have h' := h.grow e
  refine ⟨h'.ext.setCell hB _, ?_, fun r hr' => ?_, fun r hr' => ?_, fun r s hr' hs q => ?_⟩
  · refine (h'.top.set k (.slice (some ⟨g, 0, none⟩) m m)).congr fun i _ => ?_
    by_cases q : i = k
    · subst q; rw [if_pos rfl, if_pos (by omega), if_pos rfl]
    · rw [if_neg q]
      by_cases l : i < k
      · rw [if_pos l, if_pos (by omega), if_neg q]
      · rw [if_neg l, if_neg (by omega)]
  · by_cases q : r = k
    · subst q; rw [if_pos rfl]; exact hr.setOther (a := ⟨B, r, none⟩) (by show g ≠ B; omega) _
    · rw [if_neg q]; exact (h'.row r (by omega)).setOther (a := ⟨B, k, none⟩) (h.old r (by omega)).2 _
  · by_cases q : r = k
    · subst q; rw [if_pos rfl]; have := h.ext.size; exact ⟨by omega, by omega⟩
    · rw [if_neg q]; exact h.old r (by omega)
  · by_cases er : r = k
    · by_cases es : s = k
      · omega
      · rw [if_pos er, if_neg es] at q; have := hgl s (by omega); omega
    · by_cases es : s = k
      · rw [if_neg er, if_pos es] at q; have := hgl r (by omega); omega
      · rw [if_neg er, if_neg es] at q; exact h.inj r s (by omega) (by omega) q
/-- the next column: 0s -/
theorem BldB.made {w0 wr : World} {B n m k : Nat} {Z : Nat → Nat → E} {G : Nat → Nat} (h : BldB w0 wr B n m k Z G) (hB : w0.heap.size ≤ B) :
    BldB w0 ((wr.setCell ⟨B, k, none⟩ (.slice (some ⟨wr.heap.size, 0, none⟩) m m)).alloc (.cells (madeCells #[.int .u8 0] m) 5)) B n m (k + 1) (fun r => if r = k then fun _ => ze else Z r) (fun r => if r = k then wr.heap.size else G r) := by
  have hBlt := h.top.lt
  have hsz := nblk_setCell wr ⟨B, k, none⟩ (.slice (some ⟨wr.heap.size, 0, none⟩) m m)
  have hgl : ∀ r, r < k → G r < wr.heap.size := fun r hr => (h.row r hr).lt
  refine ⟨(h.ext.setCell hB _).alloc _ _, ?_, fun r hr => ?_, fun r hr => ?_, fun r s hr hs q => ?_⟩
  · refine (((h.top.set k (.slice (some ⟨wr.heap.size, 0, none⟩) m m)).alloc _).congr fun i _ => ?_)
    by_cases e : i = k
    · subst e; rw [if_pos rfl, if_pos (by omega), if_pos rfl]
    · rw [if_neg e]
      by_cases l : i < k
      · rw [if_pos l, if_pos (by omega), if_neg e]
      · rw [if_neg l, if_neg (by omega)]
  · by_cases e : r = k
    · rw [if_pos e, if_pos e]
      have h1 := World.rowIs_made (wr.setCell ⟨B, k, none⟩ (.slice (some ⟨wr.heap.size, 0, none⟩) m m)) (.int .u8 0) m 5
      rw [hsz] at h1
      exact h1
    · rw [if_neg e, if_neg e]
      exact ((h.row r (by omega)).setOther (a := ⟨B, k, none⟩) (h.old r (by omega)).2 _).alloc _
  · by_cases e : r = k
    · rw [if_pos e]; exact ⟨h.ext.size, by omega⟩
    · rw [if_neg e]; exact h.old r (by omega)
  · by_cases er : r = k
    · by_cases es : s = k
      · omega
      · rw [if_pos er, if_neg es] at q; have := hgl s (by omega); omega
    · by_cases es : s = k
      · rw [if_neg er, if_pos es] at q; have := hgl r (by omega); omega
      · rw [if_neg er, if_neg es] at q; exact h.inj r s (by omega) (by omega) q
theorem BldB.congr {w0 wr : World} {B n m k : Nat} {Z Z' : Nat → Nat → E} {G : Nat → Nat} (h : BldB w0 wr B n m k Z G) (e : ∀ r, r < k → ∀ i, i < m → Z r i = Z' r i) : BldB w0 wr B n m k Z' G :=
  ⟨h.ext, h.top, fun r hr => (h.row r hr).congr fun i hi => by unfold bvs; rw [e r hr i hi], h.old, h.inj⟩
/-- one column written anew -/
theorem BldB.turn {w0 wr w' : World} {B n m k : Nat} {Z : Nat → Nat → E} {G : Nat → Nat} (h : BldB w0 wr B n m k Z G) {r : Nat} (hr : r < k) (R : Nat → E) (k' : Wro (· = G r) wr w') (hrow : w'.rowIs (G r) 5 m (bvs R)) : BldB w0 w' B n m k (fun s => if s = r then R else Z s) G :=
  ⟨Wro.after h.ext k' (fun i hi => by rw [hi]; exact (h.old r hr).1), k'.rowIs h.top (fun e => (h.old r hr).2 e.symm), fun s hs => by
    by_cases e : s = r
    · subst e; rw [if_pos rfl]; exact hrow
    · rw [if_neg e]; exact k'.rowIs (h.row s hs) (fun q => e (h.inj s r hs hr q)), h.old, h.inj⟩
theorem BldB.back {w0 w1 wr : World} {B n m k : Nat} {Z : Nat → Nat → E} {G : Nat → Nat} (h : BldB w1 wr B n m k Z G) (x : Ext w0 w1) : BldB w0 wr B n m k Z G :=
  ⟨x.trans h.ext, h.top, h.row, fun r hr => ⟨Nat.le_trans x.size (h.old r hr).1, (h.old r hr).2⟩, h.inj⟩
/-- it stays where blocks of another kind are written -/
theorem BldB.wro {S : Nat → Prop} {w0 wr w' : World} {B n m k : Nat} {Z : Nat → Nat → E} {G : Nat → Nat} (h : BldB w0 wr B n m k Z G) (x : Wro S wr w') (hs : ∀ b, S b → w0.heap.size ≤ b ∧ ∃ t' n' f, wr.rowIs b t' n' f ∧ t' ≠ 32 ∧ t' ≠ 5) : BldB w0 w' B n m k Z G := by
  have ne : ∀ {b b' n n' : Nat} {t t' : TypeId} {f f' : Nat → Value}, wr.rowIs b t n f → wr.rowIs b' t' n' f' → t ≠ t' → b ≠ b' := fun {b b' n n' t t' f f'} h h' hne e => by
    subst e
    obtain ⟨c, h1, _⟩ := h
    obtain ⟨c', h2, _⟩ := h'
    rw [h1] at h2
    cases h2
    exact hne rfl
  refine ⟨Wro.after h.ext x fun i hi => (hs i hi).1, x.rowIs h.top fun q => ?_, fun r hr => x.rowIs (h.row r hr) fun q => ?_, h.old, h.inj⟩
  · obtain ⟨_, t', n', f, h1, h2, _⟩ := hs B q
    exact ne h1 h.top h2 rfl
  · obtain ⟨_, t', n', f, h1, _, h3⟩ := hs (G r) q
    exact ne h1 (h.row r hr) h3 rfl
theorem BldB.wro1 {w0 wr w' : World} {B n m k b : Nat} {Z : Nat → Nat → E} {G : Nat → Nat} {t' : TypeId} {n' : Nat} {f : Nat → Value} (h : BldB w0 wr B n m k Z G) (x : Wro (· = b) wr w') (hb : w0.heap.size ≤ b) (hr : wr.rowIs b t' n' f) (h1 : t' ≠ 32) (h2 : t' ≠ 5) : BldB w0 w' B n m k Z G :=
  h.wro x fun b' e => by subst e; exact ⟨hb, t', n', f, hr, h1, h2⟩
/-- the blocks of the columns -/
def BlkB (G : Nat → Nat) (k b : Nat) : Prop := ∃ r, r < k ∧ b = G r
/-- what is no byte lies in none of them -/
theorem BldB.keeps {w0 wr w' : World} {B n m k : Nat} {Z : Nat → Nat → E} {G : Nat → Nat} (h : BldB w0 wr B n m k Z G) (x : Wro (BlkB G k) wr w') {b o : Nat} {v : Value} (hv : wr.cell? ⟨b, o, none⟩ = some v) (hn : ∀ z, v ≠ .int .u8 z) : w'.cell? ⟨b, o, none⟩ = some v := by
  refine x.cell hv fun q => ?_
  obtain ⟨r, hr, q⟩ := q
  have hrow := h.row r hr
  have q' : b = G r := q
  subst q'
  obtain ⟨c, h1, h2, h3⟩ := hrow
  have : wr.cell? ⟨G r, o, none⟩ = c[o]? := cell_of_row wr (G r) o c _ _ h1
  rw [this] at hv
  have ho : o < m := by
    rcases Nat.lt_or_ge o m with e | e
    · exact e
    · rw [Array.getElem?_eq_none (by omega)] at hv; cases hv
  rw [h3 o ho] at hv
  cases hv
  exact hn _ rfl
theorem BldB.cols {w0 wr : World} {B n m : Nat} {Z : Nat → Nat → E} {G : Nat → Nat} (h : BldB w0 wr B n m n Z G) : Cols wr (some ⟨B, 0, none⟩) n (fun r => some ⟨G r, 0, none⟩) (fun _ => m) (fun _ => m) Z := fun r hr =>
  ⟨⟨B, 0, rfl, by rw [Nat.zero_add, h.top.cell hr, if_pos hr]⟩, Byts.row (h.row r hr) (Nat.le_refl _)⟩
/-- what a call told: n columns of m bytes, and a number -/
def ColsRes (w' : World) (e : Ending) (n m : Nat) (D : Nat → Nat → E) (err : Int) : Prop :=
  ∃ a c A C, e = .returned (.tuple #[.slice a n c, .int .i64 err]) ∧ Cols w' a n A (fun _ => m) C D
theorem ColsRes.none (w : World) (m : Nat) (D : Nat → Nat → E) (err : Int) : ColsRes w (.returned (.tuple #[.slice none 0 0, .int .i64 err])) 0 m D err := ⟨_, _, fun _ => Option.none, fun _ => 0, rfl, fun r hr => by omega⟩
end Go.Proofs.Ytbngmmlmhmmpbaa
