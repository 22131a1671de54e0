/-
  A list of columns by make, whose columns come one by one, each in a block of its own: those of D have come.
-/
import Derived.WalkKit
import Derived.Deep.Slices
import Derived.Test.YtfdgacpmdlmjnaaByb
namespace Go.Proofs.Ytfdgacpmdlmjnaa
open Go.RowKit Go.Deep E
structure OutS (w0 wr : World) (B n m : Nat) (V : Nat → Value) (D : Nat → Bool) (Z : Nat → Nat → E) : Prop where
  ext : Ext w0 wr
  top : wr.rowIs B 47 n V
  base : w0.heap.size ≤ B
  row : ∀ r, r < n → D r = true → wr.ownsRow w0.heap.size 5 1 (V r) m ((List.range m).map (bvs (Z r)))
  inj : ∀ r s g, r < n → s < n → D r = true → D s = true → (V r).ownBlock = some g → (V s).ownBlock = some g → r = s
  sl : ∀ r, ∃ a l c, V r = .slice a l c
theorem OutS.start (w : World) (n m : Nat) (Z : Nat → Nat → E) : OutS w (w.alloc (.cells (madeCells #[.slice none 0 0] n) 47)) w.heap.size n m (fun _ => .slice none 0 0) (fun _ => false) Z :=
  ⟨(Ext.refl w).alloc _ _, World.rowIs_made w (.slice none 0 0) n 47, Nat.le_refl _, fun _ _ h => (by cases h), fun _ _ _ _ _ h => (by cases h), fun _ => ⟨_, _, _, rfl⟩⟩
theorem OutS.grow {w0 wr w' : World} {B n m : Nat} {V : Nat → Value} {D : Nat → Bool} {Z : Nat → Nat → E} (h : OutS w0 wr B n m V D Z) (x : Ext wr w') : OutS w0 w' B n m V D Z :=
  ⟨h.ext.trans x, x.rowIs h.top, h.base, fun r hr hD => own_ext (h.row r hr hD) x, h.inj, h.sl⟩
theorem OutS.congr {w0 wr : World} {B n m : Nat} {V : Nat → Value} {D D' : Nat → Bool} {Z Z' : Nat → Nat → E} (h : OutS w0 wr B n m V D Z) (hD : ∀ r, r < n → D' r = true → D r = true) (e : ∀ r, r < n → D' r = true → ∀ i, i < m → Z r i = Z' r i) : OutS w0 wr B n m V D' Z' :=
  ⟨h.ext, h.top, h.base, fun r hr hd => by
    have := h.row r hr (hD r hr hd)
    rwa [List.map_congr_left (g := bvs (Z' r)) fun i hi => by unfold bvs; rw [e r hr hd i (List.mem_range.1 hi)]] at this, fun r s g hr hs h1 h2 => h.inj r s g hr hs (hD r hr h1) (hD s hs h2), h.sl⟩
/-- it stays where a block of another kind is written -/
theorem OutS.wro {S : Nat → Prop} {w0 wr w' : World} {B n m : Nat} {V : Nat → Value} {D : Nat → Bool} {Z : Nat → Nat → E} (h : OutS w0 wr B n m V D Z) (k : Wro S wr w') (hs : ∀ b, S b → w0.heap.size ≤ b ∧ ∃ t' cur, wr.heap[b]? = some (.cells cur t' (0, 0)) ∧ t' ≠ 47 ∧ t' ≠ 5) : OutS w0 w' B n m V D Z := by
  refine ⟨Wro.after h.ext k fun i hi => (hs i hi).1, k.rowIs h.top fun q => ?_, h.base, fun r hr hD => own_wro (h.row r hr hD) k fun g hg q => ?_, h.inj, h.sl⟩
  · obtain ⟨_, t', cur, h1, h2, _⟩ := hs B q
    obtain ⟨c, h3, _⟩ := h.top
    rw [h1] at h3; cases h3; exact h2 rfl
  · obtain ⟨_, t', cur, h1, _, h3⟩ := hs g q
    obtain ⟨c, h4⟩ := own_block (h.row r hr hD) hg
    rw [h1] at h4; cases h4; exact h3 rfl
/-- .. by an append to a list of numbers -/
theorem OutS.grown {w0 wr w' : World} {B n m : Nat} {V : Nat → Value} {D : Nat → Bool} {Z : Nat → Nat → E} {t : TypeId} {v : Value} {l : Nat} {xs : List Value} (h : OutS w0 wr B n m V D Z) (ho : wr.ownsRow w0.heap.size t 1 v l xs) (g : wr.grownBy w' v.ownBlock) (h1 : t ≠ 47) (h2 : t ≠ 5) : OutS w0 w' B n m V D Z := by
  refine h.wro (S := fun b => v.ownBlock = some b) (wro_grown (Wro.refl _ wr) g fun k hk => Or.inl hk) fun b hb => ?_
  obtain ⟨cur, hc⟩ := own_block ho hb
  exact ⟨(own_ge ho hb).1, t, cur, hc, h1, h2⟩
theorem OutS.put {w0 w1 w2 : World} {B n m r : Nat} {V : Nat → Value} {D : Nat → Bool} {Z : Nat → Nat → E} {u : Value} {R : Nat → E} (h : OutS w0 w1 B n m V D Z) (x : Ext w1 w2) (hu : w2.ownsRow w1.heap.size 5 1 u m ((List.range m).map (bvs R))) :
    OutS w0 (w2.setCell ⟨B, r, none⟩ u) B n m (fun s => if s = r then u else V s) (fun s => if s = r then true else D s) (fun s => if s = r then R else Z s) := by
  have h2 := h.grow x
  have hw : Wro (· = B) w2 (w2.setCell ⟨B, r, none⟩ u) := (Wro.refl (· = B) w2).setCell (p := ⟨B, r, none⟩) rfl _
  have keep : ∀ {y : Value} {b : Nat} {xs : List Value}, w2.ownsRow b 5 1 y m xs → (w2.setCell ⟨B, r, none⟩ u).ownsRow b 5 1 y m xs := fun {y b xs} hy => own_wro hy hw fun g hg e => own_ne_row hy h2.top (by decide) (by rw [hg, e])
  refine ⟨h2.ext.setCell h.base _, (h2.top.set r u).congr fun i _ => rfl, h.base, fun s hs hD => ?_, fun s s' g hs hs' hD hD' hg hg' => ?_, fun s => ?_⟩
  case refine_3 =>
    by_cases e : s = r
    · rw [if_pos e]
      obtain ⟨a, c, hv, _⟩ := own_slice hu
      exact ⟨_, _, _, hv⟩
    · rw [if_neg e]; exact h.sl s
  · by_cases e : s = r
    · rw [if_pos e, if_pos e]; exact keep (own_mono hu h.ext.size)
    · rw [if_neg e] at hD; rw [if_neg e, if_neg e]; exact keep (h2.row s hs hD)
  · by_cases e : s = r
    · rw [if_pos e] at hg
      by_cases e' : s' = r
      · rw [e, e']
      · rw [if_neg e'] at hg' hD'
        have q1 := (own_ge hu hg).1
        have q2 := (own_ge (h.row s' hs' hD') hg').2
        omega
    · rw [if_neg e] at hg hD
      by_cases e' : s' = r
      · rw [if_pos e'] at hg'
        have q1 := (own_ge hu hg').1
        have q2 := (own_ge (h.row s hs hD) hg).2
        omega
      · rw [if_neg e'] at hg' hD'; exact h.inj s s' g hs hs' hD hD' hg hg'
theorem own_made (w : World) (m : Nat) (hm : m ≤ 1048576) (t : TypeId) : (w.alloc (.cells (madeCells #[.int .u8 0] m) t)).ownsRow w.heap.size t 1 (.slice (some ⟨w.heap.size, 0, none⟩) m m) m ((List.range m).map (bvs fun _ => ze)) := by
  obtain ⟨c, h1, h2, h3⟩ := World.rowIs_made w (.int .u8 0) m t
  refine ⟨by simp, Or.inr ⟨w.heap.size, m, c, rfl, Nat.le_refl _, h1, Nat.le_refl _, by unfold maxLen; omega, by omega, ?_⟩⟩
  apply List.ext_getElem?
  intro j
  by_cases hj : j < m
  · rw [List.getElem?_take_of_lt (by omega), Array.getElem?_toList, h3 j hj]
    simp [hj]
    rfl
  · rw [List.getElem?_eq_none (by simp; omega), List.getElem?_eq_none (by simp; omega)]
/-- the next column: 0s -/
theorem OutS.made {w0 wr : World} {B n m r : Nat} {V : Nat → Value} {D : Nat → Bool} {Z : Nat → Nat → E} (h : OutS w0 wr B n m V D Z) (hm : m ≤ 1048576) :
    OutS w0 ((wr.setCell ⟨B, r, none⟩ (.slice (some ⟨wr.heap.size, 0, none⟩) m m)).alloc (.cells (madeCells #[.int .u8 0] m) 5)) B n m (fun s => if s = r then .slice (some ⟨wr.heap.size, 0, none⟩) m m else V s) (fun s => if s = r then true else D s) (fun s => if s = r then fun _ => ze else Z s) := by
  have hsz := nblk_setCell wr ⟨B, r, none⟩ (.slice (some ⟨wr.heap.size, 0, none⟩) m m)
  have hw : Wro (· = B) wr (wr.setCell ⟨B, r, none⟩ (.slice (some ⟨wr.heap.size, 0, none⟩) m m)) := (Wro.refl (· = B) wr).setCell (p := ⟨B, r, none⟩) rfl _
  have hal : Ext (wr.setCell ⟨B, r, none⟩ (.slice (some ⟨wr.heap.size, 0, none⟩) m m)) ((wr.setCell ⟨B, r, none⟩ (.slice (some ⟨wr.heap.size, 0, none⟩) m m)).alloc (.cells (madeCells #[.int .u8 0] m) 5)) := (Ext.refl _).alloc _ _
  have hmd := own_made (wr.setCell ⟨B, r, none⟩ (.slice (some ⟨wr.heap.size, 0, none⟩) m m)) m hm 5
  rw [hsz] at hmd
  refine ⟨(h.ext.setCell h.base _).alloc _ _, ((h.top.set r _).alloc _).congr fun i _ => rfl, h.base, fun s hs hD => ?_, fun s s' g hs hs' hD hD' hg hg' => ?_, fun s => ?_⟩
  case refine_3 =>
    by_cases e : s = r
    · rw [if_pos e]; exact ⟨_, _, _, rfl⟩
    · rw [if_neg e]; exact h.sl s
  · by_cases e : s = r
    · rw [if_pos e, if_pos e]; exact own_mono hmd h.ext.size
    · rw [if_neg e] at hD; rw [if_neg e, if_neg e]
      exact own_ext (own_wro (h.row s hs hD) hw fun g hg q => own_ne_row (h.row s hs hD) h.top (by decide) (by rw [hg, q])) hal
  · by_cases e : s = r
    · rw [if_pos e] at hg
      cases hg
      by_cases e' : s' = r
      · rw [e, e']
      · rw [if_neg e'] at hg' hD'
        have q2 := (own_ge (h.row s' hs' hD') hg').2
        have q3 : wr.heap.size < wr.heap.size := q2
        omega
    · rw [if_neg e] at hg hD
      by_cases e' : s' = r
      · rw [if_pos e'] at hg'
        cases hg'
        have q2 := (own_ge (h.row s hs hD) hg).2
        have q3 : wr.heap.size < wr.heap.size := q2
        omega
      · rw [if_neg e'] at hg' hD'; exact h.inj s s' g hs hs' hD hD' hg hg'
/-- one byte of one column written -/
theorem OutS.byte {w0 wr : World} {B n m r k : Nat} {V : Nat → Value} {D : Nat → Bool} {Z : Nat → Nat → E} (h : OutS w0 wr B n m V D Z) (hr : r < n) (hD : D r = true) (hk : k < m) (x : E) : ∃ g c, V r = .slice (some ⟨g, 0, none⟩) m c ∧ wr.cell? ⟨g, k, none⟩ = some (.int .u8 (ev (Z r k))) ∧ wr.frozen? ⟨g, k, none⟩ = false ∧ w0.heap.size ≤ g ∧
    (∃ cur, wr.heap[g]? = some (.cells cur 5 (0, 0))) ∧ OutS w0 (wr.setCell ⟨g, k, none⟩ (.int .u8 (ev x))) B n m V D fun s y => if s = r ∧ y = k then x else Z s y := by
  have hrow := h.row r hr hD
  obtain ⟨g, c, hv⟩ : ∃ g c, V r = .slice (some ⟨g, 0, none⟩) m c := by
    obtain ⟨_, h2⟩ := hrow
    rcases h2 with ⟨_, h3⟩ | ⟨g, cap, cur, h3, _⟩
    · omega
    · exact ⟨g, cap, h3⟩
  rw [hv] at hrow
  have hob : (V r).ownBlock = some g := by rw [hv]; rfl
  have hst := hrow.stored k (.int .u8 (ev x))
  have hcl := hrow.cellAt k (by omega)
  have hw : Wro (· = g) wr (wr.setCell ⟨g, k, none⟩ (.int .u8 (ev x))) := (Wro.refl (· = g) wr).setCell (p := ⟨g, k, none⟩) rfl _
  have hge := own_ge (h.row r hr hD) hob
  refine ⟨g, c, hv, by rw [hcl]; simp [hk, bvs], hrow.frozenAt k, hge.1, own_block (h.row r hr hD) hob, ⟨h.ext.setCell hge.1 _, hw.rowIs h.top (fun e => own_ne_row (h.row r hr hD) h.top (by decide) (by rw [hob, e])), h.base, fun s hs hds => ?_, h.inj, h.sl⟩⟩
  by_cases e : s = r
  · subst e
    rw [hv]
    have e2 : ((List.range m).map (bvs (Z s))).set k (.int .u8 (ev x)) = (List.range m).map (bvs fun y => if s = s ∧ y = k then x else Z s y) := by
      apply List.ext_getElem?
      intro j
      rw [List.getElem?_set]
      by_cases hj : j < m
      · by_cases e3 : k = j
        · subst e3; simp [hk, bvs]
        · simp [e3, hj, bvs, Ne.symm e3]
      · simp [show ¬ k = j by omega, hj]
    rw [← e2]
    exact hst.1
  · have e2 : (List.range m).map (bvs fun y => if s = r ∧ y = k then x else Z s y) = (List.range m).map (bvs (Z s)) := List.map_congr_left fun j _ => by unfold bvs; simp [e]
    rw [e2]
    exact own_wro (h.row s hs hds) hw fun b hb q => e (h.inj s r g hs hr hds hD (by rw [hb, q]) hob)
theorem OutS.cols {w0 wr : World} {B n m n' : Nat} {V : Nat → Value} {D : Nat → Bool} {Z : Nat → Nat → E} (h : OutS w0 wr B n m V D Z) (hn : n' ≤ n) (hD : ∀ r, r < n' → D r = true) : ∃ A C, Cols wr (some ⟨B, 0, none⟩) n' A (fun _ => m) C Z := by
  have each : ∀ r, r < n' → ∃ y : Option Addr × Nat, V r = .slice y.1 m y.2 ∧ Byts wr y.1 m (Z r) := fun r hr => by
    obtain ⟨a, c, h1, h2⟩ := own_byts (h.row r (by omega) (hD r hr))
    exact ⟨(a, c), h1, h2⟩
  obtain ⟨y, hy⟩ := choose_lt each
  refine ⟨fun r => (y r).1, fun r => (y r).2, fun r hr => ⟨⟨B, 0, rfl, ?_⟩, (hy r hr).2⟩⟩
  rw [Nat.zero_add, h.top.cell (by omega), (hy r hr).1]
/-- what is no slice does not lie in the list -/
theorem OutS.top_ne {w0 wr : World} {B n m : Nat} {V : Nat → Value} {D : Nat → Bool} {Z : Nat → Nat → E} (h : OutS w0 wr B n m V D Z) {b o : Nat} {x : Int} {kd : IntKind} (hv : wr.cell? ⟨b, o, none⟩ = some (.int kd x)) : b ≠ B := fun e => by
  subst e
  obtain ⟨c, h1, h2, h3⟩ := h.top
  have : wr.cell? ⟨b, o, none⟩ = c[o]? := cell_of_row wr b o c _ _ h1
  rw [this] at hv
  have ho : o < n := by
    rcases Nat.lt_or_ge o n with e | e
    · exact e
    · rw [Array.getElem?_eq_none (by omega)] at hv; cases hv
  rw [h3 o ho] at hv
  obtain ⟨a, l, c', hs⟩ := h.sl o
  rw [hs] at hv
  cases hv
theorem own_empty (w : World) (t : TypeId) (base : Nat) (hb : base ≤ w.heap.size) : (w.alloc (.cells #[] t)).ownsRow base t 1 (.slice (some ⟨w.heap.size, 0, none⟩) 0 0) 0 [] :=
  ⟨rfl, Or.inr ⟨w.heap.size, 0, #[], rfl, hb, heap_alloc_new w _, Nat.le_refl _, by decide, rfl, rfl⟩⟩
end Go.Proofs.Ytfdgacpmdlmjnaa
