/-
  quicksetkeep.ColumnsOf: so many columns of bytes, all as long; in new memory.
-/
import Derived.Test.YthgbfakmkdifbaaChecked
import Derived.WalkKit
import Derived.Deep.Cut
import Derived.Test.YthgbfakmkdifbaaByb
import Derived.Test.YthgbfakmkdifbaaMk
import Derived.Test.YthgbfakmkdifbaaKeeps
namespace Go.Proofs.Ythgbfakmkdifbaa
open Go.RowKit Go.Deep E
/-- columns made by append, the list too: n of them, of m bytes each -/
structure COf (w wr : World) (v : Value) (n m : Nat) (V : Nat → Value) (D : Nat → Nat → E) : Prop where
  ext : Ext w wr
  top : wr.ownsRow w.heap.size 22 1 v n ((List.range n).map V)
  row : ∀ s, s < n → wr.ownsRow w.heap.size 5 1 (V s) m ((List.range m).map (bvs (D s)))
  inj : ∀ s t g, s < n → t < n → (V s).ownBlock = some g → (V t).ownBlock = some g → s = t
theorem COf.start (w : World) (m : Nat) (D : Nat → Nat → E) : COf w w (.slice none 0 0) 0 m (fun _ => .int .i64 0) D := ⟨Ext.refl _, World.ownsRow_nil _ _ _ _, fun s hs => by omega, fun s t g hs => by omega⟩
theorem COf.ext' {w wr w' : World} {v : Value} {n m : Nat} {V : Nat → Value} {D : Nat → Nat → E} (h : COf w wr v n m V D) (e : Ext wr w') : COf w w' v n m V D := ⟨h.ext.trans e, own_ext h.top e, fun s hs => own_ext (h.row s hs) e, h.inj⟩
theorem COf.next {w w1 wi w5 : World} {v v' u : Value} {n m : Nat} {V : Nat → Value} {D : Nat → Nat → E} {o : Obj} (h0 : COf w w1 v n m V D) (x : Ext w1 wi) (hr0 : wi.ownsRow w1.heap.size 5 1 u m ((List.range m).map (bvs (D n))))
    (ht : w5.ownsRow w.heap.size 22 1 v' (n + 1) ((List.range n).map V ++ [u])) (g : (wi.alloc o).grownBy w5 v.ownBlock) : COf w w5 v' (n + 1) m (fun s => if s < n then V s else u) D := by
  have hal : Ext wi (wi.alloc o) := ⟨Below.refl _ _ |>.alloc (Nat.le_refl _) o⟩
  have hr := own_mono hr0 h0.ext.size
  have h := h0.ext' x
  have h1 := h.ext' hal
  have hr1 := own_ext hr hal
  refine ⟨h1.ext.grow g fun k hk => (own_ge h1.top hk).1, ?_, fun s hs => ?_, fun s t b hs ht' hb hb' => ?_⟩
  · have e : (List.range n).map V ++ [u] = (List.range (n + 1)).map fun s => if s < n then V s else u := by
      rw [List.range_succ, List.map_append]
      congr 1
      · exact List.map_congr_left fun x hx => by rw [if_pos (List.mem_range.1 hx)]
      · simp
    rw [e] at ht
    exact ht
  · have keep : ∀ {y : Value} {xs : List Value}, (wi.alloc o).ownsRow w.heap.size 5 1 y m xs → w5.ownsRow w.heap.size 5 1 y m xs := fun {y xs} hy => by
      refine hy.kept g ?_
      exact own_apart hy h1.top (by decide)
    by_cases e : s < n
    · rw [if_pos e]; exact keep (h1.row s e)
    · rw [if_neg e, show s = n by omega]; exact keep hr1
  · by_cases e : s < n
    · rw [if_pos e] at hb
      by_cases e' : t < n
      · rw [if_pos e'] at hb'; exact h.inj s t b e e' hb hb'
      · rw [if_neg e'] at hb'
        have q1 := (own_ge hr0 hb').1
        have q2 := (own_ge (h0.row s e) hb).2
        omega
    · rw [if_neg e] at hb
      by_cases e' : t < n
      · rw [if_pos e'] at hb'
        have q1 := (own_ge hr0 hb).1
        have q2 := (own_ge (h0.row t e') hb').2
        omega
      · omega
theorem COf.cols {w wr : World} {v : Value} {n m : Nat} {V : Nat → Value} {D : Nat → Nat → E} (h : COf w wr v n m V D) : ∃ a c A C, v = .slice a n c ∧ Cols wr a n A (fun _ => m) C D := by
  have each : ∀ r, r < n → ∃ y : Option Addr × Nat, V r = .slice y.1 m y.2 ∧ Byts wr y.1 m (D r) := fun r hr => by
    obtain ⟨a, c, h1, h2⟩ := own_byts (h.row r hr)
    exact ⟨(a, c), h1, h2⟩
  obtain ⟨y, hy⟩ := choose_lt each
  obtain ⟨a, c, hv, hc⟩ := own_slice h.top
  refine ⟨a, c, fun r => (y r).1, fun r => (y r).2, hv, fun r hr => ⟨?_, (hy r hr).2⟩⟩
  obtain ⟨b, o, ha, hb⟩ := hc r hr
  exact ⟨b, o, ha, by rw [hb]; simp [hr, (hy r hr).1]⟩
theorem COf.congr {w wr : World} {v : Value} {n m : Nat} {V : Nat → Value} {D D' : Nat → Nat → E} (h : COf w wr v n m V D) (e : ∀ s, s < n → ∀ i, i < m → D s i = D' s i) : COf w wr v n m V D' :=
  ⟨h.ext, h.top, fun s hs => by
    have := h.row s hs
    rwa [List.map_congr_left (g := bvs (D' s)) fun i hi => by unfold bvs; rw [e s hs i (List.mem_range.1 hi)]] at this, h.inj⟩
theorem COf.back {w0 w wr : World} {v : Value} {n m : Nat} {V : Nat → Value} {D : Nat → Nat → E} (h : COf w wr v n m V D) (x : Ext w0 w) : COf w0 wr v n m V D := ⟨x.trans h.ext, own_mono h.top x.size, fun s hs => own_mono (h.row s hs) x.size, h.inj⟩
/-- one byte of one column written -/
theorem COf.set {w wr : World} {v : Value} {n m : Nat} {V : Nat → Value} {D : Nat → Nat → E} (h : COf w wr v n m V D) {i k : Nat} (hi : i < n) (hk : k < m) (x : E) : ∃ g c, V i = .slice (some ⟨g, 0, none⟩) m c ∧ wr.cell? ⟨g, k, none⟩ = some (.int .u8 (ev (D i k))) ∧ wr.frozen? ⟨g, k, none⟩ = false ∧
    COf w (wr.setCell ⟨g, k, none⟩ (.int .u8 (ev x))) v n m V fun i' k' => if i' = i ∧ k' = k then x else D i' k' := by
  have hr := h.row i hi
  obtain ⟨g, c, hv⟩ : ∃ g c, V i = .slice (some ⟨g, 0, none⟩) m c := by
    obtain ⟨_, h2⟩ := hr
    rcases h2 with ⟨_, h3⟩ | ⟨g, cap, cur, h3, _⟩
    · omega
    · exact ⟨g, cap, h3⟩
  rw [hv] at hr
  have hob : (V i).ownBlock = some g := by rw [hv]; rfl
  have hst := hr.stored k (.int .u8 (ev x))
  have hcl := hr.cellAt k (by omega)
  have hw : Wro (· = g) wr (wr.setCell ⟨g, k, none⟩ (.int .u8 (ev x))) := (Wro.refl (· = g) wr).setCell (p := ⟨g, k, none⟩) rfl _
  refine ⟨g, c, hv, by rw [hcl]; simp [hk, bvs], hr.frozenAt k, ⟨h.ext.setCell (own_ge (h.row i hi) hob).1 _, ?_, fun s hs => ?_, h.inj⟩⟩
  · refine own_wro h.top hw fun b hb e => ?_
    have := own_apart (h.row i hi) h.top (by decide)
    rw [hob, hb, e] at this
    rcases this with q | q
    · cases q
    · exact q rfl
  · by_cases e : s = i
    · subst e
      rw [hv]
      have e2 : ((List.range m).map (bvs (D s))).set k (.int .u8 (ev x)) = (List.range m).map (bvs fun k' => if s = s ∧ k' = k then x else D s k') := by
        apply List.ext_getElem?
        intro j
        rw [List.getElem?_set]
        by_cases hj : j < m
        · by_cases e3 : k = j
          · subst e3; simp [hk, bvs]
          · simp [e3, hj, bvs, Ne.symm e3]
        · simp [show ¬ k = j by omega, hj]
      rw [← e2]
      exact hst.1
    · have e2 : (List.range m).map (bvs fun k' => if s = i ∧ k' = k then x else D s k') = (List.range m).map (bvs (D s)) := List.map_congr_left fun j _ => by unfold bvs; simp [e]
      rw [e2]
      exact own_wro (h.row s hs) hw fun b hb q => e (h.inj s i g hs hi (by rw [hb, q]) hob)
theorem sizeB : Try.prog.cellsOf 5 = 1 := by kernel_rfl
theorem sizeBs : Try.prog.cellsOf 22 = 1 := by kernel_rfl
/-- how long each column is -/
def colLen (l n : Nat) : Nat := if 64 < l / n then 64 else l / n
theorem colLen_le (l n : Nat) : colLen l n ≤ 64 ∧ colLen l n ≤ l / n := by unfold colLen; split <;> omega
end Go.Proofs.Ythgbfakmkdifbaa
