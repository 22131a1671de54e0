/-
  Slices of structs of three cells that came in, opened: three numbers; a bool and a range.
-/
import Derived.WalkKit
import Derived.ProofKit
import Derived.OpenShut
import Derived.ChangeOld
import Derived.Below
import Derived.Deep.Slices
import Derived.Test.YtfpbiimjcdbaoaaOpn
import Derived.Test.YtfpbiimjcdbaoaaSpaceMem
namespace Go.Proofs.Ytfpbiimjcdbaoaa
open Go.ChangeShapes Go.WideShapes Go.ChangeAt Go.RowKit Go.Deep
def InI64 (z : Int) : Prop := -9223372036854775808 ≤ z ∧ z ≤ 9223372036854775807
section
variable {H : Type} {enc : TypeId × Value → H} {P : Program} {w : World} {base : Nat} {held : Bool}
/-- from what each element's cells are to the slice -/
theorem tri_of {α : Type} [Inhabited α] {t e : TypeId} (V : α → V3) (B : α → Prop) (ht : P.underlying t = some (.slice e)) (ce : P.cellsOf e = 3)
    (each : ∀ n (c0 c1 c2 : Value) x, DataW.trod enc P w base (fun _ => true) held n e [c0, c1, c2] = some x → ∃ z : α, V z = (c0, c1, c2) ∧ B z)
    {a : Option Addr} {len cap : Nat} {d : DataW H} {p : List MemPlace} (h : DataW.Trod enc P w base (fun _ => true) held t (.slice a len cap) d p) :
    ∃ L : List α, L.length = len ∧ Tri w a (L.map V) ∧ (∀ r, r ∈ L → B r) ∧ len ≤ cap ∧ cap ≤ 9223372036854775807 := by
  obtain ⟨fuel, hf⟩ := h
  rcases open_slice ht hf with ⟨hcs, _⟩ | ⟨x, l, c, m, n, D, Pl, hcs, _, hl, hm, hmm, _, hrows⟩
  · simp [Value.cells] at hcs
    obtain ⟨rfl, rfl, rfl⟩ := hcs
    exact ⟨[], rfl, Tri.nil, fun r hr => by simp at hr, by omega, by omega⟩
  · simp [Value.cells] at hcs
    obtain ⟨rfl, rfl, rfl⟩ := hcs
    simp only [if_true] at hmm
    subst hmm
    have hm' : m ≤ 9223372036854775807 := hm
    have all : ∀ i, i < len → ∃ z : α, (w.cell? (x.add (i * 3)) = some (V z).1 ∧ w.cell? (x.add (i * 3 + 1)) = some (V z).2.1 ∧ w.cell? (x.add (i * 3 + 2)) = some (V z).2.2) ∧ B z := by
      intro i hi
      obtain ⟨cs', h1, h2⟩ := hrows i (by omega)
      rw [ce] at h1
      obtain ⟨_, hlen, hcell⟩ := World.cells?_some h1
      match cs', hlen with
      | [v0, v1, v2], _ =>
        obtain ⟨z, hz, hB⟩ := each n v0 v1 v2 _ h2
        have e0 := hcell 0 (by omega)
        have e1 := hcell 1 (by omega)
        have e2 := hcell 2 (by omega)
        rw [add_add] at e0 e1 e2
        refine ⟨z, ?_, hB⟩
        rw [hz]
        exact ⟨by simpa using e0, by simpa using e1, by simpa using e2⟩
    obtain ⟨q, hq⟩ := choose_lt all
    refine ⟨(List.range len).map q, by simp, fun i x' y z hi => ?_, fun r hr => ?_, hl, hm'⟩
    · have hil : i < len := by
        rcases Nat.lt_or_ge i len with h | h
        · exact h
        · rw [List.getElem?_eq_none (by simpa using h)] at hi; cases hi
      simp [hil] at hi
      obtain ⟨h1, h2, h3⟩ := (hq i hil).1
      rw [hi] at h1 h2 h3
      obtain ⟨b, o, s⟩ := x
      have hs : s = none := by simpa [Addr.add] using World.cell?_spot (hq 0 (by omega)).1.1
      subst hs
      rw [add_plain] at h1 h2 h3
      exact ⟨b, o, rfl, h1, by rw [Nat.add_assoc]; exact h2, by rw [Nat.add_assoc]; exact h3⟩
    · simp at hr
      obtain ⟨i, hi, rfl⟩ := hr
      exact (hq i hi).2
def int3 (r : Int × Int × Int) : V3 := (IV r.1, IV r.2.1, IV r.2.2)
def rec3 (r : Bool × Int × Int) : V3 := (.bool r.1, IV r.2.1, IV r.2.2)
theorem ints3_of_trod {t e q : TypeId} {f0 f1 f2 : Field} (ht : P.underlying t = some (.slice e)) (he : P.underlying e = some (.struct #[f0, f1, f2])) (ce : P.cellsOf e = 3) (o0 : f0.offset = 0) (o1 : f1.offset = 1) (o2 : f2.offset = 2) (t0 : f0.type = q) (t1 : f1.type = q) (t2 : f2.type = q)
    (hq : P.underlying q = some (.int .i64)) (cq : P.cellsOf q = 1) {a : Option Addr} {len cap : Nat} {d : DataW H} {p : List MemPlace} (h : DataW.Trod enc P w base (fun _ => true) held t (.slice a len cap) d p) :
    ∃ L : List (Int × Int × Int), L.length = len ∧ Tri w a (L.map int3) ∧ (∀ r, r ∈ L → InI64 r.1 ∧ InI64 r.2.1 ∧ InI64 r.2.2) ∧ len ≤ cap ∧ cap ≤ 9223372036854775807 := by
  refine tri_of int3 (fun r => InI64 r.1 ∧ InI64 r.2.1 ∧ InI64 r.2.2) ht ce (fun n c0 c1 c2 x h2 => ?_) h
  obtain ⟨xs, k, _, _, _, hxl, hf⟩ := DataW.trod_struct he h2
  match xs, hxl with
  | [y0, y1, y2], _ =>
    have g0 := hf 0 f0 rfl
    have g1 := hf 1 f1 rfl
    have g2 := hf 2 f2 rfl
    rw [o0, t0, cq] at g0
    rw [o1, t1, cq] at g1
    rw [o2, t2, cq] at g2
    simp at g0 g1 g2
    obtain ⟨z0, e0, _, w0⟩ := DataW.trod_int hq g0
    obtain ⟨z1, e1, _, w1⟩ := DataW.trod_int hq g1
    obtain ⟨z2, e2, _, w2⟩ := DataW.trod_int hq g2
    simp at e0 e1 e2
    subst e0 e1 e2
    exact ⟨(z0, z1, z2), rfl, bounds_i64 w0, bounds_i64 w1, bounds_i64 w2⟩
theorem recs_of_trod {t e s q b : TypeId} {f0 f1 g0 g1 : Field} (ht : P.underlying t = some (.slice e)) (he : P.underlying e = some (.struct #[f0, f1])) (ce : P.cellsOf e = 3) (o0 : f0.offset = 0) (o1 : f1.offset = 1) (t0 : f0.type = b) (t1 : f1.type = s)
    (hb : P.underlying b = some .bool) (cb : P.cellsOf b = 1) (hs : P.underlying s = some (.struct #[g0, g1])) (cs : P.cellsOf s = 2) (p0 : g0.offset = 0) (p1 : g1.offset = 1) (u0 : g0.type = q) (u1 : g1.type = q)
    (hq : P.underlying q = some (.int .i64)) (cq : P.cellsOf q = 1) {a : Option Addr} {len cap : Nat} {d : DataW H} {p : List MemPlace} (h : DataW.Trod enc P w base (fun _ => true) held t (.slice a len cap) d p) :
    ∃ L : List (Bool × Int × Int), L.length = len ∧ Tri w a (L.map rec3) ∧ (∀ r, r ∈ L → InI64 r.2.1 ∧ InI64 r.2.2) ∧ len ≤ cap ∧ cap ≤ 9223372036854775807 := by
  refine tri_of rec3 (fun r => InI64 r.2.1 ∧ InI64 r.2.2) ht ce (fun n c0 c1 c2 x h2 => ?_) h
  obtain ⟨xs, k, _, _, _, hxl, hf⟩ := DataW.trod_struct he h2
  match xs, hxl with
  | [y0, y1], _ =>
    have k0 := hf 0 f0 rfl
    have k1 := hf 1 f1 rfl
    rw [o0, t0, cb] at k0
    rw [o1, t1, cs] at k1
    simp at k0 k1
    obtain ⟨z0, e0, _⟩ := DataW.trod_bool hb k0
    obtain ⟨ys, k2, _, _, _, hyl, hg⟩ := DataW.trod_struct hs k1
    match ys, hyl with
    | [r0, r1], _ =>
      have j0 := hg 0 g0 rfl
      have j1 := hg 1 g1 rfl
      rw [p0, u0, cq] at j0
      rw [p1, u1, cq] at j1
      simp at j0 j1
      obtain ⟨z1, e1, _, w1⟩ := DataW.trod_int hq j0
      obtain ⟨z2, e2, _, w2⟩ := DataW.trod_int hq j1
      simp at e0 e1 e2
      subst e0 e1 e2
      exact ⟨(z0, z1, z2), rfl, bounds_i64 w1, bounds_i64 w2⟩
end
end Go.Proofs.Ytfpbiimjcdbaoaa
