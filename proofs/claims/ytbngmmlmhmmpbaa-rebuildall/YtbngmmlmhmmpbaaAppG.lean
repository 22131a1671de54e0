/-
  A list of lists, made by make, whose rows are made by append: n rows, those ahead of j done.
-/
import Derived.WalkKit
import Derived.Test.YtbngmmlmhmmpbaaOwnB
namespace Go.Proofs.Ytbngmmlmhmmpbaa
open Go.RowKit Go.Deep E
theorem rowIs_ne {w : World} {b b' n n' : Nat} {t t' : TypeId} {f f' : Nat → Value} (h : w.rowIs b t n f) (h' : w.rowIs b' t' n' f') (hne : t ≠ t') : b ≠ b' := fun e => by
  subst e
  obtain ⟨c, h1, _⟩ := h
  obtain ⟨c', h2, _⟩ := h'
  rw [h1] at h2
  cases h2
  exact hne rfl
structure GBld (T t : TypeId) (w0 wr : World) (B n m j : Nat) (V : Nat → Value) (Z : Nat → Nat → Value) : Prop where
  ext : Ext w0 wr
  top : wr.rowIs B T n V
  new : ∀ r, j ≤ r → r < n → V r = .slice none 0 0
  row : ∀ r, r < j → wr.ownsRow w0.heap.size t 1 (V r) m ((List.range m).map (Z r))
theorem GBld.start {T t : TypeId} (w : World) (n m : Nat) (Z : Nat → Nat → Value) : GBld T t w (w.alloc (.cells (madeCells #[.slice none 0 0] n) T)) w.heap.size n m 0 (fun _ => .slice none 0 0) Z :=
  ⟨(Ext.refl w).alloc _ _, World.rowIs_made w (.slice none 0 0) n T, fun _ _ _ => rfl, fun r hr => by omega⟩
theorem GBld.grow {T t : TypeId} {w0 wr w' : World} {B n m j : Nat} {V : Nat → Value} {Z : Nat → Nat → Value} (h : GBld T t w0 wr B n m j V Z) (x : Ext wr w') : GBld T t w0 w' B n m j V Z :=
  ⟨h.ext.trans x, x.rowIs h.top, h.new, fun r hr => own_ext (h.row r hr) x⟩
/-- it stays where blocks of another kind are written -/
theorem GBld.wro {T t : TypeId} {S : Nat → Prop} {w0 wr w' : World} {B n m j : Nat} {V : Nat → Value} {Z : Nat → Nat → Value} (h : GBld T t w0 wr B n m j V Z) (k : Wro S wr w') (hs : ∀ b, S b → w0.heap.size ≤ b ∧ ∃ t' n' f, wr.rowIs b t' n' f ∧ t' ≠ T ∧ t' ≠ t) : GBld T t w0 w' B n m j V Z := by
  refine ⟨Wro.after h.ext k fun i hi => (hs i hi).1, k.rowIs h.top fun q => ?_, h.new, fun r hr => own_wro (h.row r hr) k fun g hg q => ?_⟩
  · obtain ⟨_, t', n', f, h1, h2, _⟩ := hs B q
    exact rowIs_ne h1 h.top h2 rfl
  · obtain ⟨_, t', n', f, h1, _, h3⟩ := hs g q
    exact own_ne_row (h.row r hr) h1 (fun e => h3 e.symm) hg
theorem GBld.wro1 {T t : TypeId} {w0 wr w' : World} {B n m j b : Nat} {V : Nat → Value} {Z : Nat → Nat → Value} {t' : TypeId} {n' : Nat} {f : Nat → Value} (h : GBld T t w0 wr B n m j V Z) (x : Wro (· = b) wr w') (hb : w0.heap.size ≤ b) (hr : wr.rowIs b t' n' f) (h1 : t' ≠ T) (h2 : t' ≠ t) : GBld T t w0 w' B n m j V Z :=
  h.wro x fun b' e => by subst e; exact ⟨hb, t', n', f, hr, h1, h2⟩
structure GInn (T t : TypeId) (wj wi : World) (B n j k : Nat) (V : Nat → Value) (v : Value) (R : Nat → Value) : Prop where
  wro : Wro (· = B) wj wi
  top : wi.rowIs B T n (fun r => if r = j then v else V r)
  cur : wi.ownsRow wj.heap.size t 1 v k ((List.range k).map R)
theorem GInn.start {T t : TypeId} {w0 wj : World} {B n m j : Nat} {V : Nat → Value} {Z : Nat → Nat → Value} (h : GBld T t w0 wj B n m j V Z) (hj : j < n) (R : Nat → Value) : GInn T t wj wj B n j 0 V (.slice none 0 0) R :=
  ⟨Wro.refl _ _, h.top.congr fun i hi => by
    by_cases e : i = j
    · rw [if_pos e, e, h.new j (Nat.le_refl _) hj]
    · rw [if_neg e], World.ownsRow_nil _ _ _ _⟩
theorem GInn.grow {T t : TypeId} {wj wi w' : World} {B n j k : Nat} {V : Nat → Value} {v : Value} {R : Nat → Value} (h : GInn T t wj wi B n j k V v R) (x : Ext wi w') : GInn T t wj w' B n j k V v R :=
  ⟨h.wro.then_ext x, x.rowIs h.top, own_ext h.cur x⟩
theorem range_map_succ (k : Nat) (R : Nat → Value) : (List.range k).map R ++ [R k] = (List.range (k + 1)).map R := by
  rw [List.range_succ, List.map_append]; rfl
theorem GInn.next {T t : TypeId} (hne0 : t ≠ T) {wj wi w1 w2 : World} {B n j k : Nat} {V : Nat → Value} {v v' : Value} {R : Nat → Value} (h : GInn T t wj wi B n j k V v R) (x : Ext wi w1) (own : w2.ownsRow wj.heap.size t 1 v' (k + 1) ((List.range k).map R ++ [R k])) (g : w1.grownBy w2 v.ownBlock) :
    GInn T t wj (w2.setCell ⟨B, j, none⟩ v') B n j (k + 1) V v' R ∧ w2.rowIs B T n (fun r => if r = j then v else V r) := by
  have h1 := h.grow x
  have hne : v.ownBlock ≠ some B := own_ne_row h1.cur h1.top hne0
  have htop := row_grown h1.top g hne
  have hw2 := wro_grown h1.wro g fun b hb => Or.inr (own_ge h1.cur hb).1
  rw [range_map_succ] at own
  have hne' : v'.ownBlock ≠ some B := own_ne_row own htop hne0
  refine ⟨⟨hw2.setCell (p := ⟨B, j, none⟩) rfl _, (htop.set j v').congr fun i _ => ?_, own_wro own ((Wro.refl (· = B) w2).setCell (p := ⟨B, j, none⟩) rfl v') fun b hb e => hne' (by rw [hb, e])⟩, htop⟩
  by_cases e : i = j
  · rw [if_pos e, if_pos e]
  · rw [if_neg e, if_neg e, if_neg e]
theorem GInn.done {T t : TypeId} (hne0 : t ≠ T) {w0 wj wi : World} {B n m j : Nat} {V : Nat → Value} {v : Value} {Z : Nat → Nat → Value} (h : GInn T t wj wi B n j m V v (Z j)) (hb : GBld T t w0 wj B n m j V Z) (hB : w0.heap.size ≤ B) : GBld T t w0 wi B n m (j + 1) (fun r => if r = j then v else V r) Z := by
  refine ⟨Wro.after hb.ext h.wro (fun i hi => by rw [hi]; exact hB), h.top, fun r hr hn => ?_, fun r hr => ?_⟩
  · rw [if_neg (by omega)]; exact hb.new r (by omega) hn
  · by_cases e : r = j
    · subst e; rw [if_pos rfl]; exact own_mono h.cur hb.ext.size
    · rw [if_neg e]
      have hr' := hb.row r (by omega)
      exact own_wro hr' h.wro fun g hg q => own_ne_row hr' hb.top hne0 (by rw [hg, q])
/-- a matrix of elements -/
theorem GBld.mat {T t : TypeId} {w0 wr : World} {B n m : Nat} {V : Nat → Value} {M : Nat → Nat → E} (h : GBld T t w0 wr B n m n V fun r i => .int .i64 (ev (M r i))) : ∃ A C, Mat wr (some ⟨B, 0, none⟩) n A (fun _ => m) C (fun r i => ev (M r i)) := by
  have each : ∀ r, r < n → ∃ y : Option Addr × Nat, V r = .slice y.1 m y.2 ∧ Ints wr y.1 m fun i => ev (M r i) := fun r hr => by
    obtain ⟨a, c, hv, hc⟩ := own_slice (h.row r hr)
    refine ⟨(a, c), hv, fun i hi => ?_⟩
    obtain ⟨b, o, ha, hb⟩ := hc i hi
    exact ⟨b, o, ha, by rw [hb]; simp [hi]⟩
  obtain ⟨y, hy⟩ := choose_lt each
  refine ⟨fun r => (y r).1, fun r => (y r).2, fun r hr => ⟨⟨B, 0, rfl, ?_⟩, (hy r hr).2⟩⟩
  rw [Nat.zero_add, h.top.cell hr, (hy r hr).1]
end Go.Proofs.Ytbngmmlmhmmpbaa
