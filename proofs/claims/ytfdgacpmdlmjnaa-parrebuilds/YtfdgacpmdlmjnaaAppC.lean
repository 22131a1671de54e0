/-
  A matrix of rows by append, each of which gets one element more.
-/
import Derived.Test.YtfdgacpmdlmjnaaChecked
import Derived.WalkKit
import Derived.Deep.AppendLies
import Derived.Test.YtfdgacpmdlmjnaaRefSmall
import Derived.Test.YtfdgacpmdlmjnaaAlg2
namespace Go.Proofs.Ytfdgacpmdlmjnaa
open Go.RowKit Go.Deep E
structure ASt (w wr : World) (B n k : Nat) (V : Nat → Value) (M : Nat → Nat → E) : Prop where
  ext : Ext w wr
  top : rowHas wr B 23 n V
  low : w.heap.size ≤ B
  row : ∀ r, r < n → wr.ownsRow w.heap.size 3 1 (V r) (if r < k then n + 1 else n) ((List.range (if r < k then n + 1 else n)).map fun x => .int .i64 (ev (M r x)))
  inj : ∀ r s, r < n → s < n → (V r).ownBlock = (V s).ownBlock → r = s
theorem ASt.blk {w wr : World} {B n k : Nat} {V : Nat → Value} {M : Nat → Nat → E} (h : ASt w wr B n k V M) (hn : 0 < n) {r : Nat} (hr : r < n) : ∃ g c, V r = .slice (some ⟨g, 0, none⟩) (if r < k then n + 1 else n) c ∧ (V r).ownBlock = some g ∧ w.heap.size ≤ g ∧ rowHas wr g 3 (if r < k then n + 1 else n) (evs (M r)) := by
  obtain ⟨g, c, h1, h2, h3, h4, _⟩ := rowHas_of_own (h.row r hr) (by split <;> omega) (evs (M r)) (fun i hi => by simp [hi, evs])
  exact ⟨g, c, h1, h3, h2, h4⟩
theorem rowHas_ne {w : World} {b b' : Nat} {t t' : TypeId} {n n' : Nat} {f f' : Nat → Value} (h : rowHas w b t n f) (h' : rowHas w b' t' n' f') (hne : t ≠ t') : b ≠ b' := fun e => by
  obtain ⟨c, h1, _⟩ := h
  obtain ⟨c', h2, _⟩ := h'
  rw [e, h2] at h1
  cases h1
  exact hne rfl
theorem grown_setCell (w : World) (B i : Nat) (v : Value) : w.grownBy (w.setCell ⟨B, i, none⟩ v) (some B) := ⟨rfl, rfl, rfl, by simp [World.setCell], fun k _ hs => Below.heap_setCell _ _ _ _ (fun e => hs (by rw [e]))⟩
/-- what stands there once row k has one more -/
theorem ASt.step {w wr w1 : World} {B n k g cap : Nat} {V : Nat → Value} {M : Nat → Nat → E} {co : Array Value} {to : TypeId} (h : ASt w wr B n k V M) (hn : 0 < n) (hk : k < n)
    (hown : w1.ownsRow w.heap.size 3 1 (.slice (some ⟨g, 0, none⟩) (n + 1) cap) (n + 1) (((List.range n).map fun x => .int .i64 (ev (M k x))) ++ [.int .i64 (ev (M k n))]))
    (hg : (wr.alloc (.cells co to)).drew.grownBy w1 (V k).ownBlock) (hat : (V k).ownBlock = some g ∨ g = wr.heap.size + 1) :
    ASt w (w1.setCell ⟨B, k, none⟩ (.slice (some ⟨g, 0, none⟩) (n + 1) cap)) B n (k + 1) (fun r => if r = k then .slice (some ⟨g, 0, none⟩) (n + 1) cap else V r) M := by
  have hxa : Ext wr (wr.alloc (.cells co to)).drew := ((Ext.refl wr).alloc _ _).drew
  obtain ⟨gk, ck, hk1, hk2, hk3, hk4⟩ := h.blk hn hk
  have htop1 : rowHas w1 B 23 n V := by
    have t1 := h.top.ext hxa
    refine t1.of_block (hg.block B t1.lt fun e => ?_)
    rw [hk2] at e
    cases e
    exact rowHas_ne h.top hk4 (by decide) rfl
  have hgB : g ≠ B := by
    obtain ⟨cur, hb⟩ := own_block hown (g := g) rfl
    obtain ⟨c, hb2, _⟩ := htop1
    intro e
    rw [e, hb2] at hb
    cases hb
  refine ⟨(((h.ext.trans hxa).grow hg fun x hx => ((h.row k hk).lt x hx).1)).setCell (p := ⟨B, k, none⟩) h.low _, ?_, h.low, fun r hr => ?_, fun r s hr hs e => ?_⟩
  · refine (htop1.set k _).congr fun i _ => rfl
  · by_cases e : r = k
    · subst e
      have e1 : (if r < r + 1 then n + 1 else n) = n + 1 := if_pos (by omega)
      rw [e1]
      show World.ownsRow _ _ _ _ (if r = r then _ else _) _ _
      rw [if_pos rfl, List.range_succ, List.map_append]
      exact hown.kept (grown_setCell _ _ _ _) (Or.inr (by intro q; cases q; exact hgB rfl))
    · have e1 : (if r < k + 1 then n + 1 else n) = if r < k then n + 1 else n := by
        by_cases e2 : r < k
        · rw [if_pos e2, if_pos (by omega)]
        · rw [if_neg e2, if_neg (by omega)]
      rw [e1]
      show World.ownsRow _ _ _ _ (if r = k then _ else _) _ _
      rw [if_neg e]
      obtain ⟨gr, cr, hr1, hr2, hr3, hr4⟩ := h.blk hn hr
      refine ((own_ext (h.row r hr) hxa).kept hg (Or.inr fun q => e (h.inj r k hr hk q))).kept (grown_setCell _ _ _ _) (Or.inr ?_)
      rw [hr2]
      intro q
      cases q
      exact rowHas_ne h.top hr4 (by decide) rfl
  · have old : ∀ s, s < n → s ≠ k → (V s).ownBlock ≠ some g := fun s hs hsk q => by
      rcases hat with a | a
      · exact hsk (h.inj s k hs hk (q.trans a.symm))
      · obtain ⟨gs, cs, _, hs2, _, hs4⟩ := h.blk hn hs
        rw [hs2] at q
        cases q
        have := hs4.lt
        omega
    replace e : (if r = k then (.slice (some ⟨g, 0, none⟩) (n + 1) cap : Value) else V r).ownBlock = (if s = k then .slice (some ⟨g, 0, none⟩) (n + 1) cap else V s).ownBlock := e
    by_cases er : r = k
    · by_cases es : s = k
      · omega
      · rw [if_pos er, if_neg es] at e
        exact absurd e.symm (old s hs es)
    · by_cases es : s = k
      · rw [if_neg er, if_pos es] at e
        exact absurd e (old r hr er)
      · rw [if_neg er, if_neg es] at e
        exact h.inj r s hr hs e
/-- all have one more -/
theorem ASt.done {w wr : World} {B n : Nat} {V : Nat → Value} {M : Nat → Nat → E} (h : ASt w wr B n n V M) (hn : 0 < n) : ∃ G Cp, OwnC wr B n (n + 1) G Cp M ∧ ∀ x, BlkC n B G x → w.heap.size ≤ x := by
  have hr : ∀ s, s < n → ∃ y : Nat × Nat, V s = .slice (some ⟨y.1, 0, none⟩) (n + 1) y.2 ∧ (V s).ownBlock = some y.1 ∧ w.heap.size ≤ y.1 ∧ rowHas wr y.1 3 (n + 1) (evs (M s)) := fun s hs => by
    obtain ⟨g, c, h1, h2, h3, h4⟩ := h.blk hn hs
    rw [if_pos hs] at h1 h4
    exact ⟨(g, c), h1, h2, h3, h4⟩
  obtain ⟨y, hy⟩ := choose_lt hr
  refine ⟨fun r => (y r).1, fun r => (y r).2, ⟨h.top.congr fun r hr => (hy r hr).1, fun r hr => (hy r hr).2.2.2, fun r hr => rowHas_ne (hy r hr).2.2.2 h.top (by decide), fun r s hr hs e => h.inj r s hr hs (by rw [(hy r hr).2.1, (hy s hs).2.1, e])⟩, fun x hx => ?_⟩
  rcases hx with rfl | ⟨r, hr, rfl⟩
  · exact h.low
  · exact (hy r hr).2.2.1
theorem ASt.start {w wr : World} {B n : Nat} {G Cp : Nat → Nat} {M : Nat → Nat → E} (v : Nat → E) (hx : Ext w wr) (h : OwnC wr B n n G Cp M) (hB : w.heap.size ≤ B) (hr : ∀ r, r < n → wr.ownsRow w.heap.size 3 1 (.slice (some ⟨G r, 0, none⟩) n (Cp r)) n ((List.range n).map fun x => .int .i64 (ev (M r x)))) :
    ASt w wr B n 0 (fun r => .slice (some ⟨G r, 0, none⟩) n (Cp r)) (aug n M v) := by
  refine ⟨hx, h.top, hB, fun r hrn => ?_, fun r s hr hs e => h.inj r s hr hs (Option.some.inj e)⟩
  have e1 : (if r < 0 then n + 1 else n) = n := if_neg (by omega)
  rw [e1]
  have := hr r hrn
  rwa [List.map_congr_left (g := fun x => Value.int .i64 (ev (aug n M v r x))) fun x hx => by
    have e2 : aug n M v r x = M r x := if_pos (List.mem_range.1 hx)
    rw [e2]] at this
end Go.Proofs.Ytfdgacpmdlmjnaa
