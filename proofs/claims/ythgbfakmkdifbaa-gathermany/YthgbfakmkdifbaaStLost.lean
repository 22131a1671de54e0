/-
  Pieces in new memory, made lost.
-/
import Derived.Test.YthgbfakmkdifbaaStLaid
import Derived.Test.YthgbfakmkdifbaaEls
namespace Go.Proofs.Ythgbfakmkdifbaa
open Go.RowKit Go.Deep E
theorem pc_szd (A : Nat → Option Addr) (L C : Nat → Nat) (S : Nat → Bool) (l : List Nat) : Szd 2 (l.map (pcC A L C S)) := Szd.map (fun r => pcC_len A L C S r) l
theorem pc_set (A : Nat → Option Addr) (L C : Nat → Nat) (S : Nat → Bool) (N r : Nat) : ((List.range N).map (pcC A L C S)).set r [.bool true, .slice none 0 0] = (List.range N).map (pcC A L C fun x => x == r || S x) := by
  apply List.ext_getElem?
  intro i
  rw [List.getElem?_set]
  by_cases hi : i < N
  · rw [List.getElem?_map, List.getElem?_map, List.getElem?_range hi]
    by_cases e : r = i
    · subst e
      rw [if_pos rfl]
      simp [hi, pcC]
    · rw [if_neg e]
      simp [pcC, show ¬ i = r from fun q => e q.symm]
  · rw [List.getElem?_eq_none (l := List.map _ (List.range N)) (i := i) (by simpa using hi), List.getElem?_eq_none (l := List.map _ (List.range N)) (i := i) (by simpa using hi)]
    split
    · simp; omega
    · rfl
theorem pc_cells {w : World} {base g cap N : Nat} {A : Nat → Option Addr} {L C : Nat → Nat} {S : Nat → Bool} (h : w.ownsRow base 42 2 (.slice (some ⟨g, 0, none⟩) N cap) N ((List.range N).map (pcC A L C S)).flatten) {r : Nat} (hr : r < N) :
    ∃ x y, pcC A L C S r = [x, y] ∧ w.cell? ⟨g, r * 2, none⟩ = some x ∧ w.cell? ⟨g, r * 2 + 1, none⟩ = some y ∧ w.frozen? ⟨g, r * 2, none⟩ = false ∧ w.frozen? ⟨g, r * 2 + 1, none⟩ = false := by
  obtain ⟨cur, hcur⟩ := own_block h (g := g) rfl
  have he := (own_els h (pc_szd _ _ _ _ _) (by decide)).2
  have hl := pcC_len A L C S r
  obtain ⟨x, y, hxy⟩ : ∃ x y, pcC A L C S r = [x, y] := by
    match hq : pcC A L C S r, hl with
    | [x, y], _ => exact ⟨x, y, rfl⟩
  have hE := own_els_at h (pc_szd _ _ _ _ _) (by decide)
  obtain ⟨b, o, e, hc⟩ := hE r [x, y] (by rw [List.getElem?_map, List.getElem?_range hr, Option.map_some, hxy])
  cases e
  have h0 := hc 0 x rfl
  have h1 := hc 1 y rfl
  rw [Nat.zero_add] at h0 h1
  exact ⟨x, y, hxy, h0, h1, frozen_of_row _ _ _ _ _ hcur, frozen_of_row _ _ _ _ _ hcur⟩
theorem pc_lose {w : World} {base g cap N : Nat} {A : Nat → Option Addr} {L C : Nat → Nat} {S : Nat → Bool} (h : w.ownsRow base 42 2 (.slice (some ⟨g, 0, none⟩) N cap) N ((List.range N).map (pcC A L C S)).flatten) {r : Nat} (hr : r < N) :
    ((w.setCell ⟨g, r * 2, none⟩ (.bool true)).setCell ⟨g, r * 2 + 1, none⟩ (.slice none 0 0)).ownsRow base 42 2 (.slice (some ⟨g, 0, none⟩) N cap) N ((List.range N).map (pcC A L C fun x => x == r || S x)).flatten := by
  obtain ⟨x, y, hxy, _⟩ := pc_cells h hr
  have hk : ((List.range N).map (pcC A L C S))[r]? = some [x, y] := by rw [List.getElem?_map, List.getElem?_range hr, Option.map_some, hxy]
  have h1 := own_set1 h (pc_szd _ _ _ _ _) hk (j := 0) (by decide) (.bool true)
  have hs1 : Szd 2 (((List.range N).map (pcC A L C S)).set r [.bool true, y]) := fun cs hc => by
    rcases List.mem_or_eq_of_mem_set hc with h | h
    · exact pc_szd _ _ _ _ _ cs h
    · rw [h]; rfl
  have hk1 : (((List.range N).map (pcC A L C S)).set r [.bool true, y])[r]? = some [.bool true, y] := by rw [List.getElem?_set_self (by simpa using hr)]
  have h2 := own_set1 (L := ((List.range N).map (pcC A L C S)).set r [.bool true, y]) h1 hs1 hk1 (j := 1) (by decide) (.slice none 0 0)
  rw [List.set_set] at h2
  have e : ([Value.bool true, y].set 1 (.slice none 0 0)) = [.bool true, .slice none 0 0] := rfl
  rw [e, pc_set] at h2
  exact h2
theorem pc_pcs {w : World} {base g cap N : Nat} {A : Nat → Option Addr} {L C : Nat → Nat} {S : Nat → Bool} {F : Nat → Nat → E} (h : w.ownsRow base 42 2 (.slice (some ⟨g, 0, none⟩) N cap) N ((List.range N).map (pcC A L C S)).flatten) (hb : ∀ r, r < N → Byts w (A r) (L r) (F r)) :
    Pcs w (some ⟨g, 0, none⟩) N S (fun r => if S r then none else A r) (fun r => if S r then 0 else L r) (fun r => if S r then 0 else C r) F := fun r hr => by
  obtain ⟨x, y, hxy, h1, h2, _⟩ := pc_cells h hr
  cases e : S r with
  | true =>
    simp only [pcC, e, if_true, List.cons.injEq, and_true] at hxy
    obtain ⟨rfl, rfl⟩ := hxy
    exact ⟨⟨g, 0, rfl, by rw [Nat.zero_add]; exact h1, by rw [Nat.zero_add]; simpa [e] using h2⟩, fun i hi => by simp [e] at hi⟩
  | false =>
    simp only [pcC, e, Bool.false_eq_true, if_false, List.cons.injEq, and_true] at hxy
    obtain ⟨rfl, rfl⟩ := hxy
    refine ⟨⟨g, 0, rfl, by rw [Nat.zero_add]; exact h1, by rw [Nat.zero_add]; simpa [e] using h2⟩, ?_⟩
    simpa [e] using hb r hr
theorem wro_ext {a w w' : World} {g : Nat} (h : Ext a w) (k : Wro (· = g) w w') (hg : a.heap.size ≤ g) : Ext a w' :=
  ⟨⟨k.os.trans h.below.os, k.tape.trans h.below.tape, k.output.trans h.below.output, Nat.le_trans h.below.size k.size, fun i hi => (k.block i (Nat.lt_of_lt_of_le hi h.below.size) (fun q => by omega)).trans (h.below.block i hi)⟩⟩
theorem own_some {w : World} {base N : Nat} {e : TypeId} {sz : Nat} {v : Value} {xs : List Value} (h : w.ownsRow base e sz v N xs) (hN : 0 < N) : ∃ g cap, v = .slice (some ⟨g, 0, none⟩) N cap ∧ base ≤ g ∧ g < w.heap.size := by
  have h0 := h
  obtain ⟨_, h2⟩ := h
  rcases h2 with ⟨_, h4⟩ | ⟨g, cap, cur, h3, _⟩
  · omega
  · have := own_ge h0 (g := g) (by rw [h3]; rfl)
    exact ⟨g, cap, h3, this.1, this.2⟩
/-- the first k of a list of places -/
def frst (l : List Nat) (k r : Nat) : Bool := decide (r ∈ l.take k)
theorem frst_0 (l : List Nat) : frst l 0 = fun _ => false := by funext r; simp [frst]
theorem frst_s (l : List Nat) (k : Nat) (hk : k < l.length) : frst l (k + 1) = fun x => x == l.getD k 0 || frst l k x := by
  funext x
  have e : l.getD k 0 = l[k] := by rw [List.getD_eq_getElem?_getD, List.getElem?_eq_getElem hk]; rfl
  have ht : l.take (k + 1) = l.take k ++ [l[k]] := by rw [List.take_add_one, List.getElem?_eq_getElem hk]; rfl
  unfold frst
  rw [ht, e, Bool.eq_iff_iff, decide_eq_true_eq, List.mem_append, List.mem_singleton, Bool.or_eq_true, beq_iff_eq, decide_eq_true_eq, or_comm]
theorem frst_PL (n : Nat) (has : Nat → Bool) {r : Nat} (hr : r < n) : frst (PL n has) (PL n has).length r = has r := by
  unfold frst
  rw [List.take_length]
  cases e : has r with
  | true => exact decide_eq_true (PL_mem.2 ⟨hr, e⟩)
  | false => exact decide_eq_false fun h => by rw [(PL_mem.1 h).2] at e; cases e
end Go.Proofs.Ythgbfakmkdifbaa
