/-
  quicksetref.picks: the picks of k of the numbers from s on, in order, in new memory.
-/
import Derived.Test.YthgbfakmkdifbaaChecked
import Derived.WalkKit
import Derived.Deep.AppendLies
import Derived.Test.YthgbfakmkdifbaaRefComb
namespace Go.Proofs.Ythgbfakmkdifbaa
open Go.RowKit Go.Deep E
def nV (x : Nat) : Value := .int .i64 (x : Int)
/-- rows in blocks of their own, from base on -/
def rowsOk (w : World) (base : Nat) (vs : List Value) (L : List (List Nat)) : Prop :=
  vs.length = L.length ∧ ∀ (i : Nat) (u : Value) (p : List Nat), vs[i]? = some u → L[i]? = some p → w.ownsRow base 3 1 u p.length (p.map nV)
theorem rowsOk.nil (w : World) (base : Nat) : rowsOk w base [] [] := ⟨rfl, fun i u p h => by simp at h⟩
theorem rowsOk.one {w : World} {base : Nat} {u : Value} {p : List Nat} (h : w.ownsRow base 3 1 u p.length (p.map nV)) : rowsOk w base [u] [p] := ⟨rfl, fun i u' p' h1 h2 => by
  cases i with
  | zero => simp at h1 h2; subst h1; subst h2; exact h
  | succ i => simp at h1⟩
theorem rowsOk.ext {w w' : World} {base : Nat} {vs : List Value} {L : List (List Nat)} (h : rowsOk w base vs L) (x : Ext w w') : rowsOk w' base vs L := ⟨h.1, fun i u p h1 h2 => own_ext (h.2 i u p h1 h2) x⟩
theorem rowsOk.mono {w : World} {base base' : Nat} {vs : List Value} {L : List (List Nat)} (h : rowsOk w base vs L) (x : base' ≤ base) : rowsOk w base' vs L := ⟨h.1, fun i u p h1 h2 => own_mono (h.2 i u p h1 h2) x⟩
theorem rowsOk.kept {w w' : World} {base b n : Nat} {vs xs : List Value} {L : List (List Nat)} {v : Value} (h : rowsOk w base vs L) (ho : w.ownsRow b 30 1 v n xs) (g : w.grownBy w' v.ownBlock) : rowsOk w' base vs L :=
  ⟨h.1, fun i u p h1 h2 => (h.2 i u p h1 h2).kept g (own_apart (h.2 i u p h1 h2) ho (by decide))⟩
theorem rowsOk.append {w : World} {base : Nat} {vs vs' : List Value} {L L' : List (List Nat)} (h : rowsOk w base vs L) (h' : rowsOk w base vs' L') : rowsOk w base (vs ++ vs') (L ++ L') :=
  ⟨by simp [h.1, h'.1], fun i u p h1 h2 => by
    by_cases hi : i < vs.length
    · rw [List.getElem?_append_left hi] at h1
      rw [List.getElem?_append_left (by rw [← h.1]; exact hi)] at h2
      exact h.2 i u p h1 h2
    · rw [List.getElem?_append_right (by omega)] at h1
      rw [List.getElem?_append_right (by rw [← h.1]; omega), ← h.1] at h2
      exact h'.2 _ u p h1 h2⟩
theorem rowsOk.at {w : World} {base : Nat} {vs : List Value} {L : List (List Nat)} (h : rowsOk w base vs L) {i : Nat} (hi : i < L.length) : ∃ u p, vs[i]? = some u ∧ L[i]? = some p ∧ w.ownsRow base 3 1 u p.length (p.map nV) := by
  have hv : i < vs.length := by rw [h.1]; exact hi
  exact ⟨vs[i], L[i], by simp [hv], by simp [hi], h.2 i _ _ (by simp [hv]) (by simp [hi])⟩
structure Pks (w wr : World) (v : Value) (vs : List Value) (L : List (List Nat)) : Prop where
  ext : Ext w wr
  top : wr.ownsRow w.heap.size 30 1 v L.length vs
  row : rowsOk wr w.heap.size vs L
theorem own_empty (w : World) {base : Nat} (hb : base ≤ w.heap.size) (e : TypeId) : (w.alloc (.cells #[] e)).ownsRow base e 1 (.slice (some ⟨w.heap.size, 0, none⟩) 0 0) 0 [] :=
  ⟨rfl, .inr ⟨w.heap.size, 0, #[], rfl, hb, heap_alloc_new w _, Nat.le_refl _, by unfold maxLen; omega, rfl, rfl⟩⟩
theorem own_lit_at (w : World) {base : Nat} (k : Nat) (hk : w.heap.size = k) (hb : base ≤ w.heap.size) (u : Value) (e : TypeId) : (w.alloc (.cells #[u] e)).ownsRow base e 1 (.slice (some ⟨k, 0, none⟩) 1 1) 1 [u] := by subst hk; exact own_lit w hb u e
theorem nat_slice {w : World} {base : Nat} {e : TypeId} {u : Value} {p : List Nat} (h : w.ownsRow base e 1 u p.length (p.map nV)) : ∃ a c, u = .slice a p.length c ∧ ∀ i, i < p.length → ∃ b o, a = some ⟨b, o, none⟩ ∧ w.cell? ⟨b, o + i, none⟩ = some (nV (p.getD i 0)) := by
  obtain ⟨a, c, h1, h2⟩ := own_slice h
  refine ⟨a, c, h1, fun i hi => ?_⟩
  obtain ⟨b, o, h3, h4⟩ := h2 i hi
  refine ⟨b, o, h3, ?_⟩
  rw [h4]
  simp [hi]
theorem map_getD (p : List Nat) : (List.range p.length).map (fun i => nV (p[i]?.getD 0)) = p.map nV := by
  apply List.ext_getElem?
  intro i
  by_cases h : i < p.length
  · simp [h]
  · simp [h]
theorem range_getD {vs : List Value} {n : Nat} (h : vs.length = n) : (List.range n).map (fun i => vs[i]?.getD (.slice none 0 0)) = vs := by
  subst h
  apply List.ext_getElem?
  intro i
  by_cases h : i < vs.length
  · simp [h]
  · simp [h]
theorem own_slice_at {w : World} {base : Nat} {e : TypeId} {a : Option Addr} {c n : Nat} {xs : List Value} (h : w.ownsRow base e 1 (.slice a n c) n xs) : ∀ i, i < n → ∃ b o, a = some ⟨b, o, none⟩ ∧ w.cell? ⟨b, o + i, none⟩ = xs[i]? := by
  obtain ⟨a', c', h1, h2⟩ := own_slice h
  cases h1
  exact h2
theorem ones_cell {w : World} {base : Nat} {e : TypeId} {v : Value} {n : Nat} {xs : List Value} (h : w.ownsRow base e 1 v n xs) {i : Nat} {u : Value} (hu : xs[i]? = some u) (hi : i < n) : ∃ g c, v = .slice (some ⟨g, 0, none⟩) n c ∧ w.cell? ⟨g, i, none⟩ = some u := by
  obtain ⟨g, c, h1, h2, h3⟩ := h.form (by omega)
  subst h1
  exact ⟨g, c, rfl, by rw [h.cellAt i (by omega), hu]⟩
end Go.Proofs.Ythgbfakmkdifbaa
