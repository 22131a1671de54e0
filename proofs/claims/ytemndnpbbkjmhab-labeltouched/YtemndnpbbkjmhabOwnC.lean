/-
  A matrix whose rows were made by append: blocks that may have more room than is used; what writes to them make of it.
-/
import Derived.Test.YtemndnpbbkjmhabChecked
import Derived.WalkKit
import Derived.Test.YtemndnpbbkjmhabKeepMatBase
import Derived.Test.YtemndnpbbkjmhabAlg
import Derived.Test.YtemndnpbbkjmhabMm
import Derived.Test.YtemndnpbbkjmhabMatRow
namespace Go.Proofs.Ytemndnpbbkjmhab
open Go.RowKit Go.Deep E
/-- the first n cells of block b -/
def rowHas (w : World) (b : Nat) (t : TypeId) (n : Nat) (f : Nat → Value) : Prop := ∃ c : Array Value, w.heap[b]? = some (.cells c t (0, 0)) ∧ n ≤ c.size ∧ ∀ i, i < n → c[i]? = some (f i)
namespace rowHas
variable {w w' : World} {b : Nat} {t : TypeId} {n : Nat} {f g : Nat → Value}
theorem cell (h : rowHas w b t n f) {i : Nat} (hi : i < n) : w.cell? ⟨b, i, none⟩ = some (f i) := by
  obtain ⟨c, hb, _, hc⟩ := h
  simp [World.cell?, hb, hc i hi]
theorem frozen (h : rowHas w b t n f) (i : Nat) : w.frozen? ⟨b, i, none⟩ = false := by
  obtain ⟨c, hb, _, _⟩ := h
  simp [World.frozen?, hb]
theorem lt (h : rowHas w b t n f) : b < w.heap.size := by
  obtain ⟨c, hb, _, _⟩ := h
  exact (Array.getElem?_eq_some_iff.1 hb).1
theorem congr (h : rowHas w b t n f) (e : ∀ i, i < n → f i = g i) : rowHas w b t n g := by
  obtain ⟨c, hb, hn, hc⟩ := h
  exact ⟨c, hb, hn, fun i hi => by rw [hc i hi, e i hi]⟩
theorem of_block (h : rowHas w b t n f) (e : w'.heap[b]? = w.heap[b]?) : rowHas w' b t n f := by
  obtain ⟨c, hb, hn, hc⟩ := h
  exact ⟨c, e.trans hb, hn, hc⟩
theorem ext (h : rowHas w b t n f) (x : Ext w w') : rowHas w' b t n f := h.of_block (x.below.block b h.lt)
theorem wro {S : Nat → Prop} (h : rowHas w b t n f) (x : Wro S w w') (hs : ¬ S b) : rowHas w' b t n f := h.of_block (x.block b h.lt hs)
theorem set (h : rowHas w b t n f) (i : Nat) (v : Value) : rowHas (w.setCell ⟨b, i, none⟩ v) b t n (fun j => if j = i then v else f j) := by
  obtain ⟨c, hb, hn, hc⟩ := h
  refine ⟨c.setIfInBounds i v, ?_, by simpa using hn, fun j hj => ?_⟩
  · simp [World.setCell, Array.getElem?_modify, hb]
  · rw [Array.getElem?_setIfInBounds]
    by_cases e : j = i
    · subst e
      have : j < c.size := by omega
      simp [this]
    · rw [if_neg (fun h => e h.symm)]
      show c[j]? = some (if j = i then v else f j)
      rw [if_neg e]
      exact hc j hj
theorem setOther (h : rowHas w b t n f) {a : Addr} (ha : b ≠ a.block) (v : Value) : rowHas (w.setCell a v) b t n f := h.of_block (blk_setCell_other _ _ _ _ ha)
end rowHas
theorem rowHas_of_own {w : World} {base : Nat} {t : TypeId} {v : Value} {n : Nat} {xs : List Value} (h : w.ownsRow base t 1 v n xs) (h0 : 0 < n) (f : Nat → Value) (hf : ∀ i, i < n → xs[i]? = some (f i)) : ∃ g c, v = .slice (some ⟨g, 0, none⟩) n c ∧ base ≤ g ∧ v.ownBlock = some g ∧ rowHas w g t n f ∧ n ≤ c := by
  obtain ⟨h1, h2⟩ := h
  rcases h2 with ⟨_, rfl⟩ | ⟨g, cap, cur, rfl, hg, hh, hn, _, hs, ht⟩
  · omega
  · refine ⟨g, cap, rfl, hg, rfl, ⟨cur, hh, by omega, fun i hi => ?_⟩, hn⟩
    have h3 := hf i hi
    rw [← ht, List.getElem?_take_of_lt (by omega)] at h3
    simpa using h3
structure OwnC (w : World) (B n m : Nat) (G Cp : Nat → Nat) (M : Nat → Nat → E) : Prop where
  top : rowHas w B 69 n (fun r => .slice (some ⟨G r, 0, none⟩) m (Cp r))
  row : ∀ r, r < n → rowHas w (G r) 3 m (evs (M r))
  apart : ∀ r, r < n → G r ≠ B
  inj : ∀ r s, r < n → s < n → G r = G s → r = s
theorem OwnC.ext {w w' : World} {B n m : Nat} {G Cp : Nat → Nat} {M : Nat → Nat → E} (h : OwnC w B n m G Cp M) (e : Ext w w') : OwnC w' B n m G Cp M := ⟨h.top.ext e, fun r hr => (h.row r hr).ext e, h.apart, h.inj⟩
theorem OwnC.congr {w : World} {B n m : Nat} {G Cp : Nat → Nat} {M M' : Nat → Nat → E} (h : OwnC w B n m G Cp M) (e : ∀ r, r < n → ∀ i, i < m → M r i = M' r i) : OwnC w B n m G Cp M' :=
  ⟨h.top, fun r hr => (h.row r hr).congr fun i hi => by unfold evs; rw [e r hr i hi], h.apart, h.inj⟩
/-- the blocks of a matrix -/
def BlkC (n B : Nat) (G : Nat → Nat) (x : Nat) : Prop := x = B ∨ ∃ r, r < n ∧ x = G r
structure CSt (w wr : World) (B n m : Nat) (G0 G Cp : Nat → Nat) (M : Nat → Nat → E) : Prop where
  own : OwnC wr B n m G Cp M
  wro : Wro (BlkC n B G0) w wr
  per : ∀ r, r < n → ∃ s, s < n ∧ G r = G0 s
theorem CSt.start {w : World} {B n m : Nat} {G Cp : Nat → Nat} {M : Nat → Nat → E} (h : OwnC w B n m G Cp M) : CSt w w B n m G G Cp M := ⟨h, Wro.refl _ _, fun r hr => ⟨r, hr, rfl⟩⟩
theorem CSt.grow {w wr w' : World} {B n m : Nat} {G0 G Cp : Nat → Nat} {M : Nat → Nat → E} (h : CSt w wr B n m G0 G Cp M) (e : Ext wr w') : CSt w w' B n m G0 G Cp M := ⟨h.own.ext e, h.wro.then_ext e, h.per⟩
theorem CSt.congr {w wr : World} {B n m : Nat} {G0 G Cp : Nat → Nat} {M M' : Nat → Nat → E} (h : CSt w wr B n m G0 G Cp M) (e : ∀ r, r < n → ∀ i, i < m → M r i = M' r i) : CSt w wr B n m G0 G Cp M' := ⟨h.own.congr e, h.wro, h.per⟩
/-- one place of one row has x -/
def put1 (M : Nat → Nat → E) (d j : Nat) (x : E) (r i : Nat) : E := if r = d ∧ i = j then x else M r i
theorem CSt.put {w wr : World} {B n m : Nat} {G0 G Cp : Nat → Nat} {M : Nat → Nat → E} (h : CSt w wr B n m G0 G Cp M) {d : Nat} (hd : d < n) (j : Nat) (x : E) : CSt w (wr.setCell ⟨G d, j, none⟩ (.int .i64 (ev x))) B n m G0 G Cp (put1 M d j x) := by
  refine ⟨⟨h.own.top.setOther (a := ⟨G d, j, none⟩) (fun e => h.own.apart d hd e.symm) _, fun r hr => ?_, h.own.apart, h.own.inj⟩, h.wro.setCell (p := ⟨G d, j, none⟩) ?_ _, h.per⟩
  · by_cases e : r = d
    · subst e
      refine ((h.own.row r hr).set j (.int .i64 (ev x))).congr fun i _ => ?_
      show (if i = j then Value.int .i64 (ev x) else .int .i64 (ev (M r i))) = .int .i64 (ev (if r = r ∧ i = j then x else M r i))
      by_cases e2 : i = j
      · rw [if_pos e2, if_pos ⟨rfl, e2⟩]
      · rw [if_neg e2, if_neg (fun k => e2 k.2)]
    · refine ((h.own.row r hr).setOther (a := ⟨G d, j, none⟩) (fun q => e (h.own.inj r d hr hd q)) _).congr fun i _ => ?_
      show Value.int .i64 (ev (M r i)) = .int .i64 (ev (if r = d ∧ i = j then x else M r i))
      rw [if_neg (fun k => e k.1)]
  · obtain ⟨s, hs, hG⟩ := h.per d hd
    exact Or.inr ⟨s, hs, hG⟩
/-- two rows change places -/
theorem CSt.swap {w wr : World} {B n m : Nat} {G0 G Cp : Nat → Nat} {M : Nat → Nat → E} (h : CSt w wr B n m G0 G Cp M) {d p : Nat} (hd : d < n) (hp : p < n) :
    CSt w ((wr.setCell ⟨B, d, none⟩ (.slice (some ⟨G p, 0, none⟩) m (Cp p))).setCell ⟨B, p, none⟩ (.slice (some ⟨G d, 0, none⟩) m (Cp d))) B n m G0 (fun r => G (sw d p r)) (fun r => Cp (sw d p r)) (swp M d p) := by
  refine ⟨⟨?_, fun r hr => ?_, fun r hr => h.own.apart _ (sw_lt hd hp hr), fun r s hr hs e => sw_inj (h.own.inj _ _ (sw_lt hd hp hr) (sw_lt hd hp hs) e)⟩, ?_, fun r hr => h.per _ (sw_lt hd hp hr)⟩
  · refine ((h.own.top.set d (.slice (some ⟨G p, 0, none⟩) m (Cp p))).set p (.slice (some ⟨G d, 0, none⟩) m (Cp d))).congr fun i _ => ?_
    unfold sw
    by_cases e1 : i = p
    · rw [if_pos e1]
      by_cases e2 : i = d
      · rw [if_pos e2, ← e1, ← e2]
      · rw [if_neg e2, if_pos e1]
    · rw [if_neg e1]
      by_cases e2 : i = d
      · rw [if_pos e2, if_pos e2]
      · rw [if_neg e2, if_neg e2, if_neg e1]
  · have hs := sw_lt hd hp hr
    exact ((h.own.row _ hs).setOther (a := ⟨B, d, none⟩) (h.own.apart _ hs) _).setOther (a := ⟨B, p, none⟩) (h.own.apart _ hs) _
  · exact (h.wro.setCell (p := ⟨B, d, none⟩) (Or.inl rfl) _).setCell (p := ⟨B, p, none⟩) (Or.inl rfl) _
end Go.Proofs.Ytemndnpbbkjmhab
