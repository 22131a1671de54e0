/-
  A matrix and a list of right sides, made by make side by side: the matrix' rows are made by append, the right sides are written in their places.
-/
import Derived.WalkKit
import Derived.Test.YtfdgacpmdlmjnaaByb
import Derived.Test.YtfdgacpmdlmjnaaMm
namespace Go.Proofs.Ytfdgacpmdlmjnaa
open Go.RowKit Go.Deep E
def two (a b i : Nat) : Prop := i = a ∨ i = b
/-- w0: the world when both were made; the rows ahead of j are done -/
structure SBld (T t : TypeId) (w0 wr : World) (B b n m j : Nat) (V : Nat → Value) (Z : Nat → Nat → Value) (X : Nat → Value) : Prop where
  wro : Wro (two B b) w0 wr
  lt : B < w0.heap.size ∧ b < w0.heap.size ∧ B ≠ b
  top : wr.rowIs B T n V
  vec : wr.rowIs b t n X
  new : ∀ r, j ≤ r → r < n → V r = .slice none 0 0
  row : ∀ r, r < j → wr.ownsRow w0.heap.size t 1 (V r) m ((List.range m).map (Z r))
structure SInn (T t : TypeId) (wj wi : World) (B b n j k : Nat) (V : Nat → Value) (v : Value) (R : Nat → Value) (X : Nat → Value) : Prop where
  wro : Wro (two B b) wj wi
  lt : B < wj.heap.size ∧ b < wj.heap.size ∧ B ≠ b
  top : wi.rowIs B T n (fun r => if r = j then v else V r)
  vec : wi.rowIs b t n X
  cur : wi.ownsRow wj.heap.size t 1 v k ((List.range k).map R)
section
variable {T t : TypeId} {w0 wj wi wr w' w1 w2 : World} {B b n m j k : Nat} {V : Nat → Value} {v v' : Value} {R X : Nat → Value} {Z : Nat → Nat → Value}
theorem SBld.start (w : World) (n m : Nat) (T t : TypeId) (x : Value) (Z : Nat → Nat → Value) :
    SBld T t ((w.alloc (.cells (madeCells #[.slice none 0 0] n) T)).alloc (.cells (madeCells #[x] n) t)) ((w.alloc (.cells (madeCells #[.slice none 0 0] n) T)).alloc (.cells (madeCells #[x] n) t)) w.heap.size (w.heap.size + 1) n m 0 (fun _ => .slice none 0 0) Z (fun _ => x) := by
  have hs : (w.alloc (.cells (madeCells #[.slice none 0 0] n) T)).heap.size = w.heap.size + 1 := by simp
  have hs2 : ((w.alloc (.cells (madeCells #[.slice none 0 0] n) T)).alloc (.cells (madeCells #[x] n) t)).heap.size = w.heap.size + 2 := by simp
  have hv := World.rowIs_made (w.alloc (.cells (madeCells #[.slice none 0 0] n) T)) x n t
  rw [hs] at hv
  exact ⟨Wro.refl _ _, by rw [hs2]; omega, ((Ext.refl _).alloc _ _).rowIs (World.rowIs_made w (.slice none 0 0) n T), hv, fun _ _ _ => rfl, fun r hr => by omega⟩
theorem SBld.grow (h : SBld T t w0 wr B b n m j V Z X) (x : Ext wr w') : SBld T t w0 w' B b n m j V Z X :=
  ⟨h.wro.then_ext x, h.lt, x.rowIs h.top, x.rowIs h.vec, h.new, fun r hr => own_ext (h.row r hr) x⟩
/-- a right side is written, between two rows -/
theorem SBld.setV (h : SBld T t w0 wr B b n m j V Z X) (a : Nat) (u : Value) : SBld T t w0 (wr.setCell ⟨b, a, none⟩ u) B b n m j V Z (fun i => if i = a then u else X i) := by
  have hw : Wro (· = b) wr (wr.setCell ⟨b, a, none⟩ u) := (Wro.refl (· = b) _).setCell (p := ⟨b, a, none⟩) rfl u
  refine ⟨h.wro.setCell (p := ⟨b, a, none⟩) (Or.inr rfl) u, h.lt, hw.rowIs h.top h.lt.2.2, h.vec.set a u, h.new, fun r hr => own_wro (h.row r hr) hw fun g hg e => ?_⟩
  · have := (own_ge (h.row r hr) hg).1
    have := h.lt
    have e' : g = b := e
    omega
theorem SInn.start (h : SBld T t w0 wj B b n m j V Z X) (hj : j < n) (R : Nat → Value) : SInn T t wj wj B b n j 0 V (.slice none 0 0) R X :=
  ⟨Wro.refl _ _, ⟨h.top.lt, h.vec.lt, h.lt.2.2⟩, h.top.congr fun i hi => by
    by_cases e : i = j
    · rw [if_pos e, e, h.new j (Nat.le_refl _) hj]
    · rw [if_neg e], h.vec, World.ownsRow_nil _ _ _ _⟩
theorem SInn.grow (h : SInn T t wj wi B b n j k V v R X) (x : Ext wi w') : SInn T t wj w' B b n j k V v R X :=
  ⟨h.wro.then_ext x, h.lt, x.rowIs h.top, x.rowIs h.vec, own_ext h.cur x⟩
theorem SInn.setV (h : SInn T t wj wi B b n j k V v R X) (a : Nat) (u : Value) : SInn T t wj (wi.setCell ⟨b, a, none⟩ u) B b n j k V v R (fun i => if i = a then u else X i) := by
  have hw : Wro (· = b) wi (wi.setCell ⟨b, a, none⟩ u) := (Wro.refl (· = b) _).setCell (p := ⟨b, a, none⟩) rfl u
  refine ⟨h.wro.setCell (p := ⟨b, a, none⟩) (Or.inr rfl) u, h.lt, hw.rowIs h.top h.lt.2.2, h.vec.set a u, own_wro h.cur hw fun g hg e => ?_⟩
  · have := (own_ge h.cur hg).1
    have := h.lt
    have e' : g = b := e
    omega
/-- the row grows by one, and is set -/
theorem SInn.next (h : SInn T t wj wi B b n j k V v R X) (x : Ext wi w1) (own : w2.ownsRow wj.heap.size t 1 v' (k + 1) ((List.range k).map R ++ [R k])) (g : w1.grownBy w2 v.ownBlock) :
    SInn T t wj (w2.setCell ⟨B, j, none⟩ v') B b n j (k + 1) V v' R X ∧ w2.rowIs B T n (fun r => if r = j then v else V r) := by
  have h1 := h.grow x
  have hl := h.lt
  have hne : ∀ g, g < wj.heap.size → v.ownBlock ≠ some g := fun g hg e => by
    have := (own_ge h1.cur e).1
    omega
  have htop := row_grown h1.top g (hne B hl.1)
  have hvec := row_grown h1.vec g (hne b hl.2.1)
  have hw2 := wro_grown h1.wro g fun b hb => Or.inr (own_ge h1.cur hb).1
  rw [range_map_succ] at own
  have hwB : Wro (· = B) w2 (w2.setCell ⟨B, j, none⟩ v') := (Wro.refl (· = B) w2).setCell (p := ⟨B, j, none⟩) rfl v'
  refine ⟨⟨hw2.setCell (p := ⟨B, j, none⟩) (Or.inl rfl) _, hl, (htop.set j v').congr fun i _ => ?_, hwB.rowIs hvec (fun e => hl.2.2 e.symm), own_wro own hwB fun g hg e => ?_⟩, htop⟩
  · by_cases e : i = j
    · rw [if_pos e, if_pos e]
    · rw [if_neg e, if_neg e, if_neg e]
  · have := (own_ge own hg).1
    have e' : g = B := e
    omega
theorem SInn.done {Y : Nat → Value} (h : SInn T t wj wi B b n j m V v (Z j) Y) (hb : SBld T t w0 wj B b n m j V Z X) : SBld T t w0 wi B b n m (j + 1) (fun r => if r = j then v else V r) Z Y := by
  refine ⟨hb.wro.trans h.wro, hb.lt, h.top, h.vec, fun r hr hn => ?_, fun r hr => ?_⟩
  · rw [if_neg (by omega)]; exact hb.new r (by omega) hn
  · by_cases e : r = j
    · subst e; rw [if_pos rfl]; exact own_mono h.cur hb.wro.size
    · rw [if_neg e]
      have hr' := hb.row r (by omega)
      refine own_wro hr' h.wro fun g hg q => ?_
      have := (own_ge hr' hg).1
      have := hb.lt
      rcases q with q | q <;> omega
/-- the matrix, with room for its rows, and the right sides -/
theorem SBld.mat {M : Nat → Nat → E} {x : Nat → E} (h : SBld T t w0 wr B b n m n V (fun r i => .int .i64 (ev (M r i))) X) (hX : ∀ i, i < n → X i = .int .i64 (ev (x i))) :
    (∃ A C, Mat wr (some ⟨B, 0, none⟩) n A (fun _ => m) C (fun r i => ev (M r i)) ∧ ∀ r, r < n → V r = .slice (A r) m (C r)) ∧ Ints wr (some ⟨b, 0, none⟩) n (fun i => ev (x i)) := by
  have each : ∀ r, r < n → ∃ y : Option Addr × Nat, V r = .slice y.1 m y.2 ∧ Ints wr y.1 m fun i => ev (M r i) := fun r hr => by
    obtain ⟨a, c, hv, hc⟩ := own_slice (h.row r hr)
    refine ⟨(a, c), hv, fun i hi => ?_⟩
    obtain ⟨b, o, ha, hb⟩ := hc i hi
    exact ⟨b, o, ha, by rw [hb]; simp [hi]⟩
  obtain ⟨y, hy⟩ := choose_lt each
  refine ⟨⟨fun r => (y r).1, fun r => (y r).2, fun r hr => ⟨⟨B, 0, rfl, ?_⟩, (hy r hr).2⟩, fun r hr => (hy r hr).1⟩, fun i hi => ⟨b, 0, rfl, ?_⟩⟩
  · rw [Nat.zero_add, h.top.cell hr, (hy r hr).1]
  · rw [Nat.zero_add, h.vec.cell hi, hX i hi]
end
end Go.Proofs.Ytfdgacpmdlmjnaa
