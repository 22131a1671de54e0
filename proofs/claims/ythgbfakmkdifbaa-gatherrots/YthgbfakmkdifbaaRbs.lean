/-
  A list of columns by make, whose columns come one by one, each in a block of its own: those of D have come.
-/
import Derived.WalkKit
import Derived.Deep.Slices
import Derived.Test.YthgbfakmkdifbaaByb
import Derived.Test.YthgbfakmkdifbaaMm
import Derived.Test.YthgbfakmkdifbaaParRebuild
import Derived.Test.YthgbfakmkdifbaaAlg2
namespace Go.Proofs.Ythgbfakmkdifbaa
open Go.RowKit Go.Deep E
structure OutS (w0 wr : World) (B n m : Nat) (V : Nat → Value) (D : Nat → Bool) (Z : Nat → Nat → E) : Prop where
  ext : Ext w0 wr
  top : wr.rowIs B 22 n V
  base : w0.heap.size ≤ B
  row : ∀ r, r < n → D r = true → wr.ownsRow w0.heap.size 5 1 (V r) m ((List.range m).map (bvs (Z r)))
  inj : ∀ r s g, r < n → s < n → D r = true → D s = true → (V r).ownBlock = some g → (V s).ownBlock = some g → r = s
  sl : ∀ r, ∃ a l c, V r = .slice a l c
theorem OutS.start (w : World) (n m : Nat) (Z : Nat → Nat → E) : OutS w (w.alloc (.cells (madeCells #[.slice none 0 0] n) 22)) w.heap.size n m (fun _ => .slice none 0 0) (fun _ => false) Z :=
  ⟨(Ext.refl w).alloc _ _, World.rowIs_made w (.slice none 0 0) n 22, Nat.le_refl _, fun _ _ h => (by cases h), fun _ _ _ _ _ h => (by cases h), fun _ => ⟨_, _, _, rfl⟩⟩
theorem OutS.grow {w0 wr w' : World} {B n m : Nat} {V : Nat → Value} {D : Nat → Bool} {Z : Nat → Nat → E} (h : OutS w0 wr B n m V D Z) (x : Ext wr w') : OutS w0 w' B n m V D Z :=
  ⟨h.ext.trans x, x.rowIs h.top, h.base, fun r hr hD => own_ext (h.row r hr hD) x, h.inj, h.sl⟩
theorem OutS.congr {w0 wr : World} {B n m : Nat} {V : Nat → Value} {D D' : Nat → Bool} {Z Z' : Nat → Nat → E} (h : OutS w0 wr B n m V D Z) (hD : ∀ r, r < n → D' r = true → D r = true) (e : ∀ r, r < n → D' r = true → ∀ i, i < m → Z r i = Z' r i) : OutS w0 wr B n m V D' Z' :=
  ⟨h.ext, h.top, h.base, fun r hr hd => by
    have := h.row r hr (hD r hr hd)
    rwa [List.map_congr_left (g := bvs (Z' r)) fun i hi => by unfold bvs; rw [e r hr hd i (List.mem_range.1 hi)]] at this, fun r s g hr hs h1 h2 => h.inj r s g hr hs (hD r hr h1) (hD s hs h2), h.sl⟩
/-- it stays where a block of another kind is written -/
theorem OutS.wro {S : Nat → Prop} {w0 wr w' : World} {B n m : Nat} {V : Nat → Value} {D : Nat → Bool} {Z : Nat → Nat → E} (h : OutS w0 wr B n m V D Z) (k : Wro S wr w') (hs : ∀ b, S b → w0.heap.size ≤ b ∧ ∃ t' cur, wr.heap[b]? = some (.cells cur t' (0, 0)) ∧ t' ≠ 22 ∧ t' ≠ 5) : OutS w0 w' B n m V D Z := by
  refine ⟨Wro.after h.ext k fun i hi => (hs i hi).1, k.rowIs h.top fun q => ?_, h.base, fun r hr hD => own_wro (h.row r hr hD) k fun g hg q => ?_, h.inj, h.sl⟩
  · obtain ⟨_, t', cur, h1, h2, _⟩ := hs B q
    obtain ⟨c, h3, _⟩ := h.top
    rw [h1] at h3; cases h3; exact h2 rfl
  · obtain ⟨_, t', cur, h1, _, h3⟩ := hs g q
    obtain ⟨c, h4⟩ := own_block (h.row r hr hD) hg
    rw [h1] at h4; cases h4; exact h3 rfl
/-- .. by an append to a list of numbers -/
theorem OutS.grown {w0 wr w' : World} {B n m : Nat} {V : Nat → Value} {D : Nat → Bool} {Z : Nat → Nat → E} {t : TypeId} {v : Value} {l : Nat} {xs : List Value} (h : OutS w0 wr B n m V D Z) (ho : wr.ownsRow w0.heap.size t 1 v l xs) (g : wr.grownBy w' v.ownBlock) (h1 : t ≠ 22) (h2 : t ≠ 5) : OutS w0 w' B n m V D Z := by
  refine h.wro (S := fun b => v.ownBlock = some b) (wro_grown (Wro.refl _ wr) g fun k hk => Or.inl hk) fun b hb => ?_
  obtain ⟨cur, hc⟩ := own_block ho hb
  exact ⟨(own_ge ho hb).1, t, cur, hc, h1, h2⟩
theorem OutS.put {w0 w1 w2 : World} {B n m r : Nat} {V : Nat → Value} {D : Nat → Bool} {Z : Nat → Nat → E} {u : Value} {R : Nat → E} (h : OutS w0 w1 B n m V D Z) (x : Ext w1 w2) (hu : w2.ownsRow w1.heap.size 5 1 u m ((List.range m).map (bvs R))) :
    OutS w0 (w2.setCell ⟨B, r, none⟩ u) B n m (fun s => if s = r then u else V s) (fun s => if s = r then true else D s) (fun s => if s = r then R else Z s) := by
  have h2 := h.grow x
  have hw : Wro (· = B) w2 (w2.setCell ⟨B, r, none⟩ u) := (Wro.refl (· = B) w2).setCell (p := ⟨B, r, none⟩) rfl _
  have keep : ∀ {y : Value} {b : Nat} {xs : List Value}, w2.ownsRow b 5 1 y m xs → (w2.setCell ⟨B, r, none⟩ u).ownsRow b 5 1 y m xs := fun {y b xs} hy => own_wro hy hw fun g hg e => own_ne_row hy h2.top (by decide) (by rw [hg, e])
  refine ⟨h2.ext.setCell h.base _, (h2.top.set r u).congr fun i _ => rfl, h.base, fun s hs hD => ?_, fun s s' g hs hs' hD hD' hg hg' => ?_, fun s => ?_⟩
  case refine_3 =>
    by_cases e : s = r
    · rw [if_pos e]
      obtain ⟨a, c, hv, _⟩ := own_slice hu
      exact ⟨_, _, _, hv⟩
    · rw [if_neg e]; exact h.sl s
  · by_cases e : s = r
    · rw [if_pos e, if_pos e]; exact keep (own_mono hu h.ext.size)
    · rw [if_neg e] at hD; rw [if_neg e, if_neg e]; exact keep (h2.row s hs hD)
  · by_cases e : s = r
    · rw [if_pos e] at hg
      by_cases e' : s' = r
      · rw [e, e']
      · rw [if_neg e'] at hg' hD'
        have q1 := (own_ge hu hg).1
        have q2 := (own_ge (h.row s' hs' hD') hg').2
        omega
    · rw [if_neg e] at hg hD
      by_cases e' : s' = r
      · rw [if_pos e'] at hg'
        have q1 := (own_ge hu hg').1
        have q2 := (own_ge (h.row s hs hD) hg).2
        omega
      · rw [if_neg e'] at hg' hD'; exact h.inj s s' g hs hs' hD hD' hg hg'
theorem own_made (w : World) (m : Nat) (hm : m ≤ 1048576) (t : TypeId) : (w.alloc (.cells (madeCells #[.int .u8 0] m) t)).ownsRow w.heap.size t 1 (.slice (some ⟨w.heap.size, 0, none⟩) m m) m ((List.range m).map (bvs fun _ => ze)) := by
  obtain ⟨c, h1, h2, h3⟩ := World.rowIs_made w (.int .u8 0) m t
  refine ⟨by simp, Or.inr ⟨w.heap.size, m, c, rfl, Nat.le_refl _, h1, Nat.le_refl _, by unfold maxLen; omega, by omega, ?_⟩⟩
  apply List.ext_getElem?
  intro j
  by_cases hj : j < m
  · rw [List.getElem?_take_of_lt (by omega), Array.getElem?_toList, h3 j hj]
    simp [hj]
    rfl
  · rw [List.getElem?_eq_none (by simp; omega), List.getElem?_eq_none (by simp; omega)]
/-- the next column: 0s -/
theorem OutS.made {w0 wr : World} {B n m r : Nat} {V : Nat → Value} {D : Nat → Bool} {Z : Nat → Nat → E} (h : OutS w0 wr B n m V D Z) (hm : m ≤ 1048576) :
    OutS w0 ((wr.setCell ⟨B, r, none⟩ (.slice (some ⟨wr.heap.size, 0, none⟩) m m)).alloc (.cells (madeCells #[.int .u8 0] m) 5)) B n m (fun s => if s = r then .slice (some ⟨wr.heap.size, 0, none⟩) m m else V s) (fun s => if s = r then true else D s) (fun s => if s = r then fun _ => ze else Z s) := by
  have hsz := nblk_setCell wr ⟨B, r, none⟩ (.slice (some ⟨wr.heap.size, 0, none⟩) m m)
  have hw : Wro (· = B) wr (wr.setCell ⟨B, r, none⟩ (.slice (some ⟨wr.heap.size, 0, none⟩) m m)) := (Wro.refl (· = B) wr).setCell (p := ⟨B, r, none⟩) rfl _
  have hal : Ext (wr.setCell ⟨B, r, none⟩ (.slice (some ⟨wr.heap.size, 0, none⟩) m m)) ((wr.setCell ⟨B, r, none⟩ (.slice (some ⟨wr.heap.size, 0, none⟩) m m)).alloc (.cells (madeCells #[.int .u8 0] m) 5)) := (Ext.refl _).alloc _ _
  have hmd := own_made (wr.setCell ⟨B, r, none⟩ (.slice (some ⟨wr.heap.size, 0, none⟩) m m)) m hm 5
  rw [hsz] at hmd
  refine ⟨(h.ext.setCell h.base _).alloc _ _, ((h.top.set r _).alloc _).congr fun i _ => rfl, h.base, fun s hs hD => ?_, fun s s' g hs hs' hD hD' hg hg' => ?_, fun s => ?_⟩
  case refine_3 =>
    by_cases e : s = r
    · rw [if_pos e]; exact ⟨_, _, _, rfl⟩
    · rw [if_neg e]; exact h.sl s
  · by_cases e : s = r
    · rw [if_pos e, if_pos e]; exact own_mono hmd h.ext.size
    · rw [if_neg e] at hD; rw [if_neg e, if_neg e]
      exact own_ext (own_wro (h.row s hs hD) hw fun g hg q => own_ne_row (h.row s hs hD) h.top (by decide) (by rw [hg, q])) hal
  · by_cases e : s = r
    · rw [if_pos e] at hg
      cases hg
      by_cases e' : s' = r
      · rw [e, e']
      · rw [if_neg e'] at hg' hD'
        have q2 := (own_ge (h.row s' hs' hD') hg').2
        have q3 : wr.heap.size < wr.heap.size := q2
        omega
    · rw [if_neg e] at hg hD
      by_cases e' : s' = r
      · rw [if_pos e'] at hg'
        cases hg'
        have q2 := (own_ge (h.row s hs hD) hg).2
        have q3 : wr.heap.size < wr.heap.size := q2
        omega
      · rw [if_neg e'] at hg' hD'; exact h.inj s s' g hs hs' hD hD' hg hg'
/-- one byte of one column written -/
theorem OutS.byte {w0 wr : World} {B n m r k : Nat} {V : Nat → Value} {D : Nat → Bool} {Z : Nat → Nat → E} (h : OutS w0 wr B n m V D Z) (hr : r < n) (hD : D r = true) (hk : k < m) (x : E) : ∃ g c, V r = .slice (some ⟨g, 0, none⟩) m c ∧ wr.cell? ⟨g, k, none⟩ = some (.int .u8 (ev (Z r k))) ∧ wr.frozen? ⟨g, k, none⟩ = false ∧ w0.heap.size ≤ g ∧
    (∃ cur, wr.heap[g]? = some (.cells cur 5 (0, 0))) ∧ OutS w0 (wr.setCell ⟨g, k, none⟩ (.int .u8 (ev x))) B n m V D fun s y => if s = r ∧ y = k then x else Z s y := by
  have hrow := h.row r hr hD
  obtain ⟨g, c, hv⟩ : ∃ g c, V r = .slice (some ⟨g, 0, none⟩) m c := by
    obtain ⟨_, h2⟩ := hrow
    rcases h2 with ⟨_, h3⟩ | ⟨g, cap, cur, h3, _⟩
    · omega
    · exact ⟨g, cap, h3⟩
  rw [hv] at hrow
  have hob : (V r).ownBlock = some g := by rw [hv]; rfl
  have hst := hrow.stored k (.int .u8 (ev x))
  have hcl := hrow.cellAt k (by omega)
  have hw : Wro (· = g) wr (wr.setCell ⟨g, k, none⟩ (.int .u8 (ev x))) := (Wro.refl (· = g) wr).setCell (p := ⟨g, k, none⟩) rfl _
  have hge := own_ge (h.row r hr hD) hob
  refine ⟨g, c, hv, by rw [hcl]; simp [hk, bvs], hrow.frozenAt k, hge.1, own_block (h.row r hr hD) hob, ⟨h.ext.setCell hge.1 _, hw.rowIs h.top (fun e => own_ne_row (h.row r hr hD) h.top (by decide) (by rw [hob, e])), h.base, fun s hs hds => ?_, h.inj, h.sl⟩⟩
  by_cases e : s = r
  · subst e
    rw [hv]
    have e2 : ((List.range m).map (bvs (Z s))).set k (.int .u8 (ev x)) = (List.range m).map (bvs fun y => if s = s ∧ y = k then x else Z s y) := by
      apply List.ext_getElem?
      intro j
      rw [List.getElem?_set]
      by_cases hj : j < m
      · by_cases e3 : k = j
        · subst e3; simp [hk, bvs]
        · simp [e3, hj, bvs, Ne.symm e3]
      · simp [show ¬ k = j by omega, hj]
    rw [← e2]
    exact hst.1
  · have e2 : (List.range m).map (bvs fun y => if s = r ∧ y = k then x else Z s y) = (List.range m).map (bvs (Z s)) := List.map_congr_left fun j _ => by unfold bvs; simp [e]
    rw [e2]
    exact own_wro (h.row s hs hds) hw fun b hb q => e (h.inj s r g hs hr hds hD (by rw [hb, q]) hob)
theorem OutS.cols {w0 wr : World} {B n m n' : Nat} {V : Nat → Value} {D : Nat → Bool} {Z : Nat → Nat → E} (h : OutS w0 wr B n m V D Z) (hn : n' ≤ n) (hD : ∀ r, r < n' → D r = true) : ∃ A C, Cols wr (some ⟨B, 0, none⟩) n' A (fun _ => m) C Z := by
  have each : ∀ r, r < n' → ∃ y : Option Addr × Nat, V r = .slice y.1 m y.2 ∧ Byts wr y.1 m (Z r) := fun r hr => by
    obtain ⟨a, c, h1, h2⟩ := own_byts (h.row r (by omega) (hD r hr))
    exact ⟨(a, c), h1, h2⟩
  obtain ⟨y, hy⟩ := choose_lt each
  refine ⟨fun r => (y r).1, fun r => (y r).2, fun r hr => ⟨⟨B, 0, rfl, ?_⟩, (hy r hr).2⟩⟩
  rw [Nat.zero_add, h.top.cell (by omega), (hy r hr).1]
/-- what is no slice does not lie in the list -/
theorem OutS.top_ne {w0 wr : World} {B n m : Nat} {V : Nat → Value} {D : Nat → Bool} {Z : Nat → Nat → E} (h : OutS w0 wr B n m V D Z) {b o : Nat} {x : Int} {kd : IntKind} (hv : wr.cell? ⟨b, o, none⟩ = some (.int kd x)) : b ≠ B := fun e => by
  subst e
  obtain ⟨c, h1, h2, h3⟩ := h.top
  have : wr.cell? ⟨b, o, none⟩ = c[o]? := cell_of_row wr b o c _ _ h1
  rw [this] at hv
  have ho : o < n := by
    rcases Nat.lt_or_ge o n with e | e
    · exact e
    · rw [Array.getElem?_eq_none (by omega)] at hv; cases hv
  rw [h3 o ho] at hv
  obtain ⟨a, l, c', hs⟩ := h.sl o
  rw [hs] at hv
  cases hv
theorem own_emptyO (w : World) (t : TypeId) (base : Nat) (hb : base ≤ w.heap.size) : (w.alloc (.cells #[] t)).ownsRow base t 1 (.slice (some ⟨w.heap.size, 0, none⟩) 0 0) 0 [] :=
  ⟨rfl, Or.inr ⟨w.heap.size, 0, #[], rfl, hb, heap_alloc_new w _, Nat.le_refl _, by decide, rfl, rfl⟩⟩
end Go.Proofs.Ythgbfakmkdifbaa
/-
  A matrix and a list of right sides, made by make side by side: the matrix' rows are made by append, the right sides are written in their places.
-/
namespace Go.Proofs.Ythgbfakmkdifbaa
open Go.RowKit Go.Deep E
def two (a b i : Nat) : Prop := i = a ∨ i = b
/-- w0: the world when both were made; the rows ahead of j are done -/
structure SBld (T t : TypeId) (w0 wr : World) (B b n m j : Nat) (V : Nat → Value) (Z : Nat → Nat → Value) (X : Nat → Value) : Prop where
  wro : Wro (two B b) w0 wr
  lt : B < w0.heap.size ∧ b < w0.heap.size ∧ B ≠ b
  top : wr.rowIs B T n V
  vec : wr.rowIs b t n X
  new : ∀ r, j ≤ r → r < n → V r = .slice none 0 0
  row : ∀ r, r < j → wr.ownsRow w0.heap.size t 1 (V r) m ((List.range m).map (Z r))
structure SInn (T t : TypeId) (wj wi : World) (B b n j k : Nat) (V : Nat → Value) (v : Value) (R : Nat → Value) (X : Nat → Value) : Prop where
  wro : Wro (two B b) wj wi
  lt : B < wj.heap.size ∧ b < wj.heap.size ∧ B ≠ b
  top : wi.rowIs B T n (fun r => if r = j then v else V r)
  vec : wi.rowIs b t n X
  cur : wi.ownsRow wj.heap.size t 1 v k ((List.range k).map R)
section
variable {T t : TypeId} {w0 wj wi wr w' w1 w2 : World} {B b n m j k : Nat} {V : Nat → Value} {v v' : Value} {R X : Nat → Value} {Z : Nat → Nat → Value}
theorem SBld.start (w : World) (n m : Nat) (T t : TypeId) (x : Value) (Z : Nat → Nat → Value) :
    SBld T t ((w.alloc (.cells (madeCells #[.slice none 0 0] n) T)).alloc (.cells (madeCells #[x] n) t)) ((w.alloc (.cells (madeCells #[.slice none 0 0] n) T)).alloc (.cells (madeCells #[x] n) t)) w.heap.size (w.heap.size + 1) n m 0 (fun _ => .slice none 0 0) Z (fun _ => x) := by
  have hs : (w.alloc (.cells (madeCells #[.slice none 0 0] n) T)).heap.size = w.heap.size + 1 := by simp
  have hs2 : ((w.alloc (.cells (madeCells #[.slice none 0 0] n) T)).alloc (.cells (madeCells #[x] n) t)).heap.size = w.heap.size + 2 := by simp
  have hv := World.rowIs_made (w.alloc (.cells (madeCells #[.slice none 0 0] n) T)) x n t
  rw [hs] at hv
  exact ⟨Wro.refl _ _, by rw [hs2]; omega, ((Ext.refl _).alloc _ _).rowIs (World.rowIs_made w (.slice none 0 0) n T), hv, fun _ _ _ => rfl, fun r hr => by omega⟩
theorem SBld.grow (h : SBld T t w0 wr B b n m j V Z X) (x : Ext wr w') : SBld T t w0 w' B b n m j V Z X :=
  ⟨h.wro.then_ext x, h.lt, x.rowIs h.top, x.rowIs h.vec, h.new, fun r hr => own_ext (h.row r hr) x⟩
/-- a right side is written, between two rows -/
theorem SBld.setV (h : SBld T t w0 wr B b n m j V Z X) (a : Nat) (u : Value) : SBld T t w0 (wr.setCell ⟨b, a, none⟩ u) B b n m j V Z (fun i => if i = a then u else X i) := by
  have hw : Wro (· = b) wr (wr.setCell ⟨b, a, none⟩ u) := (Wro.refl (· = b) _).setCell (p := ⟨b, a, none⟩) rfl u
  refine ⟨h.wro.setCell (p := ⟨b, a, none⟩) (Or.inr rfl) u, h.lt, hw.rowIs h.top h.lt.2.2, h.vec.set a u, h.new, fun r hr => own_wro (h.row r hr) hw fun g hg e => ?_⟩
  · have := (own_ge (h.row r hr) hg).1
    have := h.lt
    have e' : g = b := e
    omega
theorem SInn.start (h : SBld T t w0 wj B b n m j V Z X) (hj : j < n) (R : Nat → Value) : SInn T t wj wj B b n j 0 V (.slice none 0 0) R X :=
  ⟨Wro.refl _ _, ⟨h.top.lt, h.vec.lt, h.lt.2.2⟩, h.top.congr fun i hi => by
    by_cases e : i = j
    · rw [if_pos e, e, h.new j (Nat.le_refl _) hj]
    · rw [if_neg e], h.vec, World.ownsRow_nil _ _ _ _⟩
theorem SInn.grow (h : SInn T t wj wi B b n j k V v R X) (x : Ext wi w') : SInn T t wj w' B b n j k V v R X :=
  ⟨h.wro.then_ext x, h.lt, x.rowIs h.top, x.rowIs h.vec, own_ext h.cur x⟩
theorem SInn.setV (h : SInn T t wj wi B b n j k V v R X) (a : Nat) (u : Value) : SInn T t wj (wi.setCell ⟨b, a, none⟩ u) B b n j k V v R (fun i => if i = a then u else X i) := by
  have hw : Wro (· = b) wi (wi.setCell ⟨b, a, none⟩ u) := (Wro.refl (· = b) _).setCell (p := ⟨b, a, none⟩) rfl u
  refine ⟨h.wro.setCell (p := ⟨b, a, none⟩) (Or.inr rfl) u, h.lt, hw.rowIs h.top h.lt.2.2, h.vec.set a u, own_wro h.cur hw fun g hg e => ?_⟩
  · have := (own_ge h.cur hg).1
    have := h.lt
    have e' : g = b := e
    omega
/-- the row grows by one, and is set -/
theorem SInn.next (h : SInn T t wj wi B b n j k V v R X) (x : Ext wi w1) (own : w2.ownsRow wj.heap.size t 1 v' (k + 1) ((List.range k).map R ++ [R k])) (g : w1.grownBy w2 v.ownBlock) :
    SInn T t wj (w2.setCell ⟨B, j, none⟩ v') B b n j (k + 1) V v' R X ∧ w2.rowIs B T n (fun r => if r = j then v else V r) := by
  have h1 := h.grow x
  have hl := h.lt
  have hne : ∀ g, g < wj.heap.size → v.ownBlock ≠ some g := fun g hg e => by
    have := (own_ge h1.cur e).1
    omega
  have htop := row_grown h1.top g (hne B hl.1)
  have hvec := row_grown h1.vec g (hne b hl.2.1)
  have hw2 := wro_grown h1.wro g fun b hb => Or.inr (own_ge h1.cur hb).1
  rw [range_map_succ] at own
  have hwB : Wro (· = B) w2 (w2.setCell ⟨B, j, none⟩ v') := (Wro.refl (· = B) w2).setCell (p := ⟨B, j, none⟩) rfl v'
  refine ⟨⟨hw2.setCell (p := ⟨B, j, none⟩) (Or.inl rfl) _, hl, (htop.set j v').congr fun i _ => ?_, hwB.rowIs hvec (fun e => hl.2.2 e.symm), own_wro own hwB fun g hg e => ?_⟩, htop⟩
  · by_cases e : i = j
    · rw [if_pos e, if_pos e]
    · rw [if_neg e, if_neg e, if_neg e]
  · have := (own_ge own hg).1
    have e' : g = B := e
    omega
theorem SInn.done {Y : Nat → Value} (h : SInn T t wj wi B b n j m V v (Z j) Y) (hb : SBld T t w0 wj B b n m j V Z X) : SBld T t w0 wi B b n m (j + 1) (fun r => if r = j then v else V r) Z Y := by
  refine ⟨hb.wro.trans h.wro, hb.lt, h.top, h.vec, fun r hr hn => ?_, fun r hr => ?_⟩
  · rw [if_neg (by omega)]; exact hb.new r (by omega) hn
  · by_cases e : r = j
    · subst e; rw [if_pos rfl]; exact own_mono h.cur hb.wro.size
    · rw [if_neg e]
      have hr' := hb.row r (by omega)
      refine own_wro hr' h.wro fun g hg q => ?_
      have := (own_ge hr' hg).1
      have := hb.lt
      rcases q with q | q <;> omega
/-- the matrix, with room for its rows, and the right sides -/
theorem SBld.mat {M : Nat → Nat → E} {x : Nat → E} (h : SBld T t w0 wr B b n m n V (fun r i => .int .i64 (ev (M r i))) X) (hX : ∀ i, i < n → X i = .int .i64 (ev (x i))) :
    (∃ A C, Mat wr (some ⟨B, 0, none⟩) n A (fun _ => m) C (fun r i => ev (M r i)) ∧ ∀ r, r < n → V r = .slice (A r) m (C r)) ∧ Ints wr (some ⟨b, 0, none⟩) n (fun i => ev (x i)) := by
  have each : ∀ r, r < n → ∃ y : Option Addr × Nat, V r = .slice y.1 m y.2 ∧ Ints wr y.1 m fun i => ev (M r i) := fun r hr => by
    obtain ⟨a, c, hv, hc⟩ := own_slice (h.row r hr)
    refine ⟨(a, c), hv, fun i hi => ?_⟩
    obtain ⟨b, o, ha, hb⟩ := hc i hi
    exact ⟨b, o, ha, by rw [hb]; simp [hi]⟩
  obtain ⟨y, hy⟩ := choose_lt each
  refine ⟨⟨fun r => (y r).1, fun r => (y r).2, fun r hr => ⟨⟨B, 0, rfl, ?_⟩, (hy r hr).2⟩, fun r hr => (hy r hr).1⟩, fun i hi => ⟨b, 0, rfl, ?_⟩⟩
  · rw [Nat.zero_add, h.top.cell hr, (hy r hr).1]
  · rw [Nat.zero_add, h.vec.cell hi, hX i hi]
end
end Go.Proofs.Ythgbfakmkdifbaa
/-
  What Rebuild tells of columns of which no more were lost than there are parity columns: the columns as they were (no program in sight).
-/
namespace Go.Proofs.Ythgbfakmkdifbaa
open Go.RowKit Go.Deep E
theorem sm_list (n : Nat) (g : Nat → Bool) (f : Nat → E) : sm n (fun i => if g i then f i else ze) = sm (PL n g).length fun b => f ((PL n g).getD b 0) := by
  induction n with
  | zero => rfl
  | succ n ih =>
    show ad (sm n fun i => if g i then f i else ze) (if g n then f n else ze) = _
    rw [ih]
    cases h : g n
    · rw [PL_no h, if_neg (by simp), ad_ze]
    · rw [PL_yes h, if_pos rfl, List.length_append]
      show _ = ad (sm (PL n g).length _) _
      congr 1
      · refine sm_congr fun b hb => ?_
        congr 1
        rw [List.getD_eq_getElem?_getD, List.getD_eq_getElem?_getD, List.getElem?_append_left hb]
      · congr 1
        rw [List.getD_eq_getElem?_getD, List.getElem?_append_right (Nat.le_refl _)]
        simp
/-- the data columns, and the parity columns behind them -/
def wholeF (N : Nat) (D : Nat → Nat → E) (r : Nat) : Nat → E := if r < N then D r else enc N D (r - N)
section
variable {N q nl : Nat} {fl : Nat → Int} {F D : Nat → Nat → E} {m : Nat}
theorem sol_back (hN : 1 ≤ N ∧ N ≤ 12) (hq : q ≤ 3) (hle : (holeL N nl fl).length ≤ (keptPL N q nl fl).length) (hF : ∀ r, r < N + q → hasB nl fl r = false → ∀ x, x < m → F r x = wholeF N D r x) {b x : Nat} (hb : b < (holeL N nl fl).length) (hx : x < m) :
    partE (holeL N nl fl).length (fun b => (holeL N nl fl).getD b 0) (fun a => (keptPL N q nl fl).getD a 0) N (lostZ nl fl F) (holeL N nl fl).length b x = D ((holeL N nl fl).getD b 0) x := by
  have hkl : (keptPL N q nl fl).length ≤ q := PL_len _ _
  have hrk : (redTo (holeL N nl fl).length (wtM (fun b => (holeL N nl fl).getD b 0) (fun a => (keptPL N q nl fl).getD a 0)) (holeL N nl fl).length).2 = (holeL N nl fl).length := by
    refine rank_lost _ _ (by omega) (fun b hb => ?_) (fun a b hab hb => PL_lt hab hb) (fun b hb => ?_) (fun a b hab hb => PL_lt hab (show b < (keptPL N q nl fl).length by omega))
    · have := hole_at hb; omega
    · have := keptP_at (n0 := N) (p := q) (nl := nl) (fl := fl) (b := b) (by omega); omega
  have hmiss : ∀ a, a < (holeL N nl fl).length → missE N (fun a => (keptPL N q nl fl).getD a 0) (lostZ nl fl F) a x = sm (holeL N nl fl).length fun c => mu (wtM (fun b => (holeL N nl fl).getD b 0) (fun a => (keptPL N q nl fl).getD a 0) a c) (D ((holeL N nl fl).getD c 0) x) := by
    intro a ha
    have hja := PL_at (show a < (PL q fun j => !hasB nl fl ((N : Int) + (j : Int))).length from (by have : (keptPL N q nl fl).length = (PL q fun j => !hasB nl fl ((N : Int) + (j : Int))).length := rfl; omega))
    have hg : hasB nl fl ((N + (keptPL N q nl fl).getD a 0 : Nat) : Int) = false := by
      have h2 : (!hasB nl fl ((N : Int) + (((keptPL N q nl fl).getD a 0 : Nat) : Int))) = true := hja.2
      rw [Int.natCast_add]
      cases h3 : hasB nl fl ((N : Int) + (((keptPL N q nl fl).getD a 0 : Nat) : Int))
      · rfl
      · rw [h3] at h2; cases h2
    have hj : (keptPL N q nl fl).getD a 0 < q := hja.1
    unfold missE
    dsimp only
    rw [lostZ_no hg, hF _ (by omega) hg x hx]
    unfold wholeF
    rw [if_neg (by omega), show N + (keptPL N q nl fl).getD a 0 - N = (keptPL N q nl fl).getD a 0 by omega]
    unfold enc
    rw [← sm_ad]
    have e : sm N (fun i => ad (mu (wt ((keptPL N q nl fl).getD a 0) i) (lostZ nl fl F i x)) (mu (wt ((keptPL N q nl fl).getD a 0) i) (D i x))) = sm N fun i => if hasB nl fl i then mu (wt ((keptPL N q nl fl).getD a 0) i) (D i x) else ze := by
      refine sm_congr fun i hi => ?_
      cases hgi : hasB nl fl (i : Int)
      · rw [lostZ_no hgi, hF i (by omega) hgi x hx]
        unfold wholeF
        rw [if_pos hi, ad_self, if_neg (by simp)]
      · rw [lostZ_yes hgi, mu_ze, ze_ad, if_pos rfl]
    rw [e]
    exact sm_list N (fun i => hasB nl fl i) fun i => mu (wt ((keptPL N q nl fl).getD a 0) i) (D i x)
  unfold partE
  rw [sm_congr fun a ha => by rw [hmiss a ha]]
  have e1 : (sm (holeL N nl fl).length fun a => mu (invM (holeL N nl fl).length (wtM (fun b => (holeL N nl fl).getD b 0) (fun a => (keptPL N q nl fl).getD a 0)) b a) (sm (holeL N nl fl).length fun c => mu (wtM (fun b => (holeL N nl fl).getD b 0) (fun a => (keptPL N q nl fl).getD a 0) a c) (D ((holeL N nl fl).getD c 0) x))) = sm (holeL N nl fl).length fun a => sm (holeL N nl fl).length fun c => mu (mu (invM (holeL N nl fl).length (wtM (fun b => (holeL N nl fl).getD b 0) (fun a => (keptPL N q nl fl).getD a 0)) b a) (wtM (fun b => (holeL N nl fl).getD b 0) (fun a => (keptPL N q nl fl).getD a 0) a c)) (D ((holeL N nl fl).getD c 0) x) :=
    sm_congr fun a _ => by rw [← sm_mu]; exact sm_congr fun c _ => (mu_assoc _ _ _).symm
  rw [e1, sm_swap]
  have e2 : ∀ c, c < (holeL N nl fl).length → sm (holeL N nl fl).length (fun a => mu (mu (invM (holeL N nl fl).length (wtM (fun b => (holeL N nl fl).getD b 0) (fun a => (keptPL N q nl fl).getD a 0)) b a) (wtM (fun b => (holeL N nl fl).getD b 0) (fun a => (keptPL N q nl fl).getD a 0) a c)) (D ((holeL N nl fl).getD c 0) x)) = mu (dl b c) (D ((holeL N nl fl).getD c 0) x) := fun c hc => by
    rw [sm_mur]
    exact congrArg (fun z => mu z _) (inv_left hrk b c hb hc)
  rw [sm_congr e2]
  exact sm_dl hb fun c => D ((holeL N nl fl).getD c 0) x
theorem rebZ_data (hN : 1 ≤ N ∧ N ≤ 12) (hq : q ≤ 3) (hle : (holeL N nl fl).length ≤ (keptPL N q nl fl).length) (hF : ∀ r, r < N + q → hasB nl fl r = false → ∀ x, x < m → F r x = wholeF N D r x) {r x : Nat} (hr : r < N) (hx : x < m) : rebZ N q nl fl F r x = D r x := by
  unfold rebZ
  cases hg : hasB nl fl (r : Int)
  · rw [solZ_other (fun b hb e => ?_), lostZ_no hg, hF r (by omega) hg x hx]
    · unfold wholeF; rw [if_pos hr]
    · have := (PL_at hb).2
      have e' : (PL N fun k => hasB nl fl (k : Int)).getD b 0 = r := e
      rw [e', hg] at this
      cases this
  · obtain ⟨b, hb, e⟩ := PL_ex (ok := fun k => hasB nl fl (k : Int)) hr hg
    have hb' : b < (holeL N nl fl).length := hb
    have e' : (fun b => (holeL N nl fl).getD b 0) b = r := e
    rw [← e', solZ_hole (fun a c ha hc q => ?_) hb', sol_back hN hq hle hF hb' hx]
    · dsimp only
      have e'' : (holeL N nl fl).getD b 0 = r := e
      rw [e'', lostZ_yes hg, ze_ad]
    · skip
      rcases Nat.lt_trichotomy a c with l | l | l
      · have := PL_lt (n := N) (ok := fun k => hasB nl fl (k : Int)) l hc
        have q' : (PL N fun k => hasB nl fl (k : Int)).getD a 0 = (PL N fun k => hasB nl fl (k : Int)).getD c 0 := q
        omega
      · exact l
      · have := PL_lt (n := N) (ok := fun k => hasB nl fl (k : Int)) l ha
        have q' : (PL N fun k => hasB nl fl (k : Int)).getD a 0 = (PL N fun k => hasB nl fl (k : Int)).getD c 0 := q
        omega
theorem rebD_back (hN : 1 ≤ N ∧ N ≤ 12) (hq : q ≤ 3) (hle : (holeL N nl fl).length ≤ (keptPL N q nl fl).length) (hF : ∀ r, r < N + q → hasB nl fl r = false → ∀ x, x < m → F r x = wholeF N D r x) {r x : Nat} (hr : r < N + q) (hx : x < m) : rebD N q nl fl F r x = wholeF N D r x := by
  unfold rebD
  by_cases hrN : r < N
  · rw [encZ_other (fun b _ => by omega), rebZ_data hN hq hle hF hrN hx]
    unfold wholeF; rw [if_pos hrN]
  · cases hg : hasB nl fl (r : Int)
    · rw [encZ_other (fun b hb e => ?_)]
      · unfold rebZ
        rw [solZ_other (fun b hb e => ?_), lostZ_no hg, hF r hr hg x hx]
        have := hole_at hb
        omega
      · have h2 := (PL_at (show b < (PL q fun j => hasB nl fl ((N : Int) + (j : Int))).length from hb)).2
        have e' : N + (PL q fun j => hasB nl fl ((N : Int) + (j : Int))).getD b 0 = r := e
        have e'' : (N : Int) + (((PL q fun j => hasB nl fl ((N : Int) + (j : Int))).getD b 0 : Nat) : Int) = (r : Int) := by omega
        rw [e'', hg] at h2
        cases h2
    · have hg' : hasB nl fl ((N : Int) + ((r - N : Nat) : Int)) = true := by
        rw [show (N : Int) + ((r - N : Nat) : Int) = (r : Int) by omega]; exact hg
      obtain ⟨b, hb, e⟩ := PL_ex (n := q) (k := r - N) (ok := fun j => hasB nl fl ((N : Int) + (j : Int))) (by omega) hg'
      have hb' : b < (lostPL N q nl fl).length := hb
      have e' : (lostPL N q nl fl).getD b 0 = r - N := e
      have h1 := encZ_at (n0 := N) (l := fun i => (lostPL N q nl fl).getD i 0) (Z := rebZ N q nl fl F) hb' x
      rw [e', show N + (r - N) = r by omega] at h1
      rw [h1]
      unfold wholeF
      rw [if_neg hrN]
      unfold enc
      exact sm_congr fun i hi => by rw [rebZ_data hN hq hle hF hi hx]
end
end Go.Proofs.Ythgbfakmkdifbaa
/-
  What the round of quicksetref.ParRebuild that solves one place needs of plain numbers: places of holes in their list, the right side as a running sum, what is solved told as rebZ.
-/
namespace Go.Proofs.Ythgbfakmkdifbaa
open Go.RowKit Go.Deep E
theorem PL_next (i : Nat) (g : Nat → Bool) : PL (i + 1) g = if g i then PL i g ++ [i] else PL i g := by
  unfold PL
  rw [List.range_succ, List.filter_append]
  cases hg : g i <;> simp [hg]
theorem PL_ix {n i : Nat} {g : Nat → Bool} (hi : i < n) (h : g i = true) : (PL i g).length < (PL n g).length ∧ (PL n g).getD (PL i g).length 0 = i := by
  obtain ⟨k, rfl⟩ : ∃ k, n = (i + 1) + k := ⟨n - (i + 1), by omega⟩
  have e : ∃ t, PL (i + 1 + k) g = PL i g ++ i :: t := by
    refine ⟨((List.range k).map (i + 1 + ·)).filter g, ?_⟩
    have h1 := PL_next i g
    rw [if_pos h] at h1
    have h2 : PL (i + 1 + k) g = PL (i + 1) g ++ ((List.range k).map (i + 1 + ·)).filter g := by
      unfold PL
      rw [List.range_add, List.filter_append]
    rw [h2, h1]
    simp
  obtain ⟨t, e⟩ := e
  rw [e]
  constructor
  · simp
  · simp
/-- the right side of one equation, when i data columns have come -/
def runE (n0 j : Nat) (Z : Nat → Nat → E) (x i : Nat) : E := ad (Z (n0 + j) x) (sm i fun i' => mu (wt j i') (Z i' x))
theorem runE_zero (n0 j : Nat) (Z : Nat → Nat → E) (x : Nat) : runE n0 j Z x 0 = Z (n0 + j) x := ad_ze _
theorem runE_next (n0 j : Nat) (Z : Nat → Nat → E) (x i : Nat) : runE n0 j Z x (i + 1) = ad (runE n0 j Z x i) (mu (wt j i) (Z i x)) := (ad_assoc _ _ _).symm
theorem runE_hole {n0 j : Nat} {Z : Nat → Nat → E} {x i : Nat} (h : Z i x = ze) : runE n0 j Z x (i + 1) = runE n0 j Z x i := by
  rw [runE_next, h, mu_ze, ad_ze]
theorem runE_done (n0 : Nat) (j : Nat → Nat) (Z : Nat → Nat → E) (a x : Nat) : runE n0 (j a) Z x n0 = missE n0 j Z a x := ad_comm _ _
theorem sol_part (t n0 : Nat) (h j : Nat → Nat) (Z : Nat → Nat → E) (b x : Nat) : sol t (wtM h j) (fun a => missE n0 j Z a x) b = partE t h j n0 Z t b x := rfl
theorem rebZ_keeps {n0 q nl r : Nat} {fl : Nat → Int} {F : Nat → Nat → E} (h : hasB nl fl r = false ∨ n0 ≤ r) (x : Nat) : rebZ n0 q nl fl F r x = lostZ nl fl F r x := by
  unfold rebZ
  refine solZ_other (fun b hb e => ?_) x
  have h1 := PL_at hb
  have e' : (PL n0 fun k => hasB nl fl (k : Int)).getD b 0 = r := e
  rw [e'] at h1
  rcases h with h | h
  · rw [h] at h1; cases h1.2
  · omega
theorem rebZ_hole {n0 q nl b : Nat} {fl : Nat → Int} {F : Nat → Nat → E} (hb : b < (holeL n0 nl fl).length) (x : Nat) :
    rebZ n0 q nl fl F ((holeL n0 nl fl).getD b 0) x = partE (holeL n0 nl fl).length (fun b => (holeL n0 nl fl).getD b 0) (fun a => (keptPL n0 q nl fl).getD a 0) n0 (lostZ nl fl F) (holeL n0 nl fl).length b x := by
  unfold rebZ
  have hg : hasB nl fl (((holeL n0 nl fl).getD b 0 : Nat) : Int) = true := (PL_at (ok := fun k => hasB nl fl (k : Int)) hb).2
  have := solZ_hole (h := fun b => (holeL n0 nl fl).getD b 0) (S := partE (holeL n0 nl fl).length (fun b => (holeL n0 nl fl).getD b 0) (fun a => (keptPL n0 q nl fl).getD a 0) n0 (lostZ nl fl F) (holeL n0 nl fl).length) (Z := lostZ nl fl F) (k := (holeL n0 nl fl).length) (b := b) (fun a c ha hc e => by
    rcases Nat.lt_trichotomy a c with l | l | l
    · have := PL_lt (n := n0) (ok := fun k => hasB nl fl (k : Int)) l hc
      have e' : (PL n0 fun k => hasB nl fl (k : Int)).getD a 0 = (PL n0 fun k => hasB nl fl (k : Int)).getD c 0 := e
      omega
    · exact l
    · have := PL_lt (n := n0) (ok := fun k => hasB nl fl (k : Int)) l ha
      have e' : (PL n0 fun k => hasB nl fl (k : Int)).getD a 0 = (PL n0 fun k => hasB nl fl (k : Int)).getD c 0 := e
      omega) hb x
  rw [this, lostZ_yes hg, ze_ad]
theorem hole_has {n0 nl t y : Nat} {fl : Nat → Int} (ht : (holeL n0 nl fl).length = t) (hy : y < n0) : hasB t (fun i => (((holeL n0 nl fl).getD i 0 : Nat) : Int)) (y : Int) = hasB nl fl y := by
  cases hG : hasB nl fl (y : Int)
  · refine hasB_false fun r hr => ?_
    rw [beq_eq_false_iff_ne]
    intro e
    have e2 : (PL n0 fun k => hasB nl fl (k : Int)).getD r 0 = y := (Int.ofNat.inj e).symm
    have := (PL_at (n := n0) (ok := fun k => hasB nl fl (k : Int)) (i := r) (by subst ht; exact hr)).2
    rw [e2, hG] at this
    cases this
  · obtain ⟨b, hb, e⟩ := PL_ex (ok := fun k => hasB nl fl (k : Int)) hy hG
    have e2 : (holeL n0 nl fl).getD b 0 = y := e
    have hb2 : b < t := by subst ht; exact hb
    exact hasB_true hb2 (show (y : Int) = (((holeL n0 nl fl).getD b 0 : Nat) : Int) by rw [e2])
end Go.Proofs.Ythgbfakmkdifbaa
