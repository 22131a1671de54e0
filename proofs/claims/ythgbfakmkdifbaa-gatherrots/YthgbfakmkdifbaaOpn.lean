/-
  Arguments that came in, opened: a slice of int, a slice of these: as 'Ints' and 'Mat' tell them.
-/
import Derived.WalkKit
import Derived.ProofKit
import Derived.OpenShut
import Derived.ChangeOld
import Derived.Below
import Derived.Deep.Matrix
import Derived.Test.YthgbfakmkdifbaaMm
import Derived.Test.YthgbfakmkdifbaaByb
import Derived.SizedLaws
namespace Go.Proofs.Ythgbfakmkdifbaa
open Go.ChangeShapes Go.WideShapes Go.ChangeAt Go.RowKit Go.Deep
section
variable {H : Type} {enc : TypeId × Value → H} {P : Program} {w : World} {base : Nat} {held : Bool}
theorem wf_bd {n : Int} (h : (Lit.int .i64 n).wf = true) : -9223372036854775808 ≤ n ∧ n ≤ 9223372036854775807 := bounds_i64 h
theorem getD_wf {zs : List Int} (h : ∀ n ∈ zs, (Lit.int .i64 n).wf = true) {i : Nat} (hi : i < zs.length) : -9223372036854775808 ≤ zs.getD i 0 ∧ zs.getD i 0 ≤ 9223372036854775807 := by
  rw [List.getD_eq_getElem?_getD, List.getElem?_eq_getElem hi]
  exact wf_bd (h _ (List.getElem_mem hi))
theorem row_cells {x : Addr} {n : Nat} {f : Nat → Int} (h : ∀ i, i < n → w.cell? (x.add i) = some (.int .i64 (f i))) : Ints w (some x) n f := by
  intro i hi
  obtain ⟨b, o, s⟩ := x
  have hs : s = none := by simpa [Addr.add] using World.cell?_spot (h 0 (by omega))
  subst hs
  exact ⟨b, o, rfl, by rw [← add_plain]; exact h i hi⟩
theorem ints_of_trod {t q : TypeId} (ht : P.underlying t = some (.slice q)) (hq : P.underlying q = some (.int .i64)) (cq : P.cellsOf q = 1) {a : Option Addr} {len cap : Nat} {d : DataW H} {p : List MemPlace}
    (h : DataW.Trod enc P w base (fun _ => true) held t (.slice a len cap) d p) :
    ∃ f : Nat → Int, Ints w a len f ∧ len ≤ 9223372036854775807 ∧ ∀ i, i < len → -9223372036854775808 ≤ f i ∧ f i ≤ 9223372036854775807 := by
  obtain ⟨fuel, hf⟩ := h
  rcases open_ints ht hq cq hf with ⟨hcs, _⟩ | ⟨x, l, c, zs, hcs, _, hl, hm, hz, _, hcell, hwz⟩
  · simp [Value.cells] at hcs
    obtain ⟨rfl, rfl, rfl⟩ := hcs
    exact ⟨fun _ => 0, fun i hi => by omega, by omega, fun i hi => by omega⟩
  · simp [Value.cells] at hcs
    obtain ⟨rfl, rfl, rfl⟩ := hcs
    simp only [if_true] at hz
    have hm' : cap ≤ 9223372036854775807 := hm
    refine ⟨fun i => zs.getD i 0, row_cells fun i hi => hcell i (by omega), by omega, fun i hi => getD_wf hwz (by omega)⟩
theorem mat_of_trod {t e q : TypeId} (ht : P.underlying t = some (.slice e)) (he : P.underlying e = some (.slice q)) (hq : P.underlying q = some (.int .i64)) (ce : P.cellsOf e = 1) (cq : P.cellsOf q = 1) {a : Option Addr} {len cap : Nat} {d : DataW H} {p : List MemPlace}
    (h : DataW.Trod enc P w base (fun _ => true) held t (.slice a len cap) d p) :
    ∃ (A : Nat → Option Addr) (L C : Nat → Nat) (F : Nat → Nat → Int), Mat w a len A L C F ∧ len ≤ 9223372036854775807 ∧ ∀ r, r < len → L r ≤ 9223372036854775807 ∧ ∀ i, i < L r → -9223372036854775808 ≤ F r i ∧ F r i ≤ 9223372036854775807 := by
  obtain ⟨fuel, hf⟩ := h
  rcases open_int_rows ht he hq ce cq hf with ⟨hcs, _⟩ | ⟨x, l, c, A, L, C, Z, hcs, _, hl, hm, _, hrows⟩
  · simp [Value.cells] at hcs
    obtain ⟨rfl, rfl, rfl⟩ := hcs
    exact ⟨fun _ => none, fun _ => 0, fun _ => 0, fun _ _ => 0, fun r hr => by omega, by omega, fun r hr => by omega⟩
  · simp [Value.cells] at hcs
    obtain ⟨rfl, rfl, rfl⟩ := hcs
    have hm' : cap ≤ 9223372036854775807 := hm
    refine ⟨A, L, C, fun r i => (Z r).getD i 0, fun r hr => ?_, by omega, fun r hr => ?_⟩
    · obtain ⟨h1, h2, h3, h4, h5, h6, h7⟩ := hrows r (by omega)
      refine ⟨?_, fun i hi => ?_⟩
      · obtain ⟨b, o, s⟩ := x
        have hs : s = none := by simpa [Addr.add] using World.cell?_spot (hrows 0 (by omega)).1
        subst hs
        exact ⟨b, o, rfl, by rw [← add_plain]; exact h1⟩
      · cases hA : A r with
        | none => have := h6 hA; omega
        | some x' => exact (row_cells (n := L r) (f := fun i => (Z r).getD i 0) fun i hi => (h7 x' hA).2 i (by omega)) i hi
    · obtain ⟨h1, h2, h3, h4, h5, h6, h7⟩ := hrows r (by omega)
      have h3' : C r ≤ 9223372036854775807 := h3
      exact ⟨by omega, fun i hi => getD_wf h5 (by omega)⟩
end
end Go.Proofs.Ythgbfakmkdifbaa
/-
  Arguments that came in, opened: a byte, a slice of bytes, a slice of these: as 'Byts' and 'Cols' tell them.
-/
namespace Go.Proofs.Ythgbfakmkdifbaa
open Go.ChangeShapes Go.WideShapes Go.ChangeAt Go.RowKit Go.Deep E
section
variable {H : Type} {enc : TypeId × Value → H} {P : Program} {w : World} {base : Nat} {held : Bool}
theorem wf_u8 {n : Int} (h : (Lit.int .u8 n).wf = true) : 0 ≤ n ∧ n < 256 := by
  have := bounds_u8 h
  omega
theorem getD_u8 {zs : List Int} (h : ∀ n ∈ zs, (Lit.int .u8 n).wf = true) {i : Nat} (hi : i < zs.length) : ev (of (zs.getD i 0)) = zs.getD i 0 := by
  rw [List.getD_eq_getElem?_getD, List.getElem?_eq_getElem hi]
  have := wf_u8 (h _ (List.getElem_mem hi))
  exact ev_of _ this.1 this.2
theorem row_byts {x : Addr} {n : Nat} {f : Nat → E} (h : ∀ i, i < n → w.cell? (x.add i) = some (.int .u8 (ev (f i)))) : Byts w (some x) n f := by
  intro i hi
  obtain ⟨b, o, s⟩ := x
  have hs : s = none := by simpa [Addr.add] using World.cell?_spot (h 0 (by omega))
  subst hs
  exact ⟨b, o, rfl, by rw [← add_plain]; exact h i hi⟩
theorem byts_of_trod {t q : TypeId} (ht : P.underlying t = some (.slice q)) (hq : P.underlying q = some (.int .u8)) (cq : P.cellsOf q = 1) {a : Option Addr} {len cap : Nat} {d : DataW H} {p : List MemPlace}
    (h : DataW.Trod enc P w base (fun _ => true) held t (.slice a len cap) d p) :
    ∃ f : Nat → E, Byts w a len f ∧ len ≤ cap ∧ cap ≤ 9223372036854775807 := by
  obtain ⟨fuel, hf⟩ := h
  rcases open_ints ht hq cq hf with ⟨hcs, _⟩ | ⟨x, l, c, zs, hcs, _, hl, hm, hz, _, hcell, hwz⟩
  · simp [Value.cells] at hcs
    obtain ⟨rfl, rfl, rfl⟩ := hcs
    exact ⟨fun _ => ze, fun i hi => by omega, by omega, by omega⟩
  · simp [Value.cells] at hcs
    obtain ⟨rfl, rfl, rfl⟩ := hcs
    simp only [if_true] at hz
    have hm' : cap ≤ 9223372036854775807 := hm
    exact ⟨fun i => of (zs.getD i 0), row_byts fun i hi => by rw [hcell i (by omega), getD_u8 hwz (by omega)], hl, hm'⟩
theorem cols_of_trod {t e q : TypeId} (ht : P.underlying t = some (.slice e)) (he : P.underlying e = some (.slice q)) (hq : P.underlying q = some (.int .u8)) (ce : P.cellsOf e = 1) (cq : P.cellsOf q = 1) {a : Option Addr} {len cap : Nat} {d : DataW H} {p : List MemPlace}
    (h : DataW.Trod enc P w base (fun _ => true) held t (.slice a len cap) d p) :
    ∃ (A : Nat → Option Addr) (L C : Nat → Nat) (F : Nat → Nat → E), Cols w a len A L C F ∧ len ≤ cap ∧ cap ≤ 9223372036854775807 ∧ ∀ r, r < len → L r ≤ C r ∧ C r ≤ 9223372036854775807 := by
  obtain ⟨fuel, hf⟩ := h
  rcases open_int_rows ht he hq ce cq hf with ⟨hcs, _⟩ | ⟨x, l, c, A, L, C, Z, hcs, _, hl, hm, _, hrows⟩
  · simp [Value.cells] at hcs
    obtain ⟨rfl, rfl, rfl⟩ := hcs
    exact ⟨fun _ => none, fun _ => 0, fun _ => 0, fun _ _ => ze, fun r hr => by omega, by omega, by omega, fun r hr => by omega⟩
  · simp [Value.cells] at hcs
    obtain ⟨rfl, rfl, rfl⟩ := hcs
    have hm' : cap ≤ 9223372036854775807 := hm
    refine ⟨A, L, C, fun r i => of ((Z r).getD i 0), fun r hr => ?_, hl, hm', fun r hr => ?_⟩
    · obtain ⟨h1, h2, h3, h4, h5, h6, h7⟩ := hrows r (by omega)
      refine ⟨?_, fun i hi => ?_⟩
      · obtain ⟨b, o, s⟩ := x
        have hs : s = none := by simpa [Addr.add] using World.cell?_spot (hrows 0 (by omega)).1
        subst hs
        exact ⟨b, o, rfl, by rw [← add_plain]; exact h1⟩
      · cases hA : A r with
        | none => have := h6 hA; omega
        | some x' => exact (row_byts (n := L r) (f := fun i => of ((Z r).getD i 0)) fun i hi => by rw [(h7 x' hA).2 i (by omega), getD_u8 h5 (by omega)]) i hi
    · obtain ⟨h1, h2, h3, h4, h5, h6, h7⟩ := hrows r (by omega)
      have h3' : C r ≤ 9223372036854775807 := h3
      exact ⟨h2, h3'⟩
end
end Go.Proofs.Ythgbfakmkdifbaa
/-
  Slices of numbers that came in, opened: with what the form says of their size.
-/
namespace Go.Proofs.Ythgbfakmkdifbaa
open Go.ChangeShapes Go.WideShapes Go.ChangeAt Go.RowKit Go.Deep E
section
variable {H : Type} {enc : TypeId × Value → H} {P : Program} {w : World} {base : Nat} {held : Bool}
theorem room_of_trod {t q : TypeId} {k : IntKind} (ht : P.underlying t = some (.slice q)) (hq : P.underlying q = some (.int k)) (cq : P.cellsOf q = 1) {a : Option Addr} {len cap : Nat} {d : DataW H} {p : List MemPlace}
    (h : DataW.Trod enc P w base (fun _ => true) held t (.slice a len cap) d p) : cap = 0 ∨ ∃ el sp, d = .slice el sp ∧ el.length + sp.length = cap := by
  obtain ⟨fuel, hf⟩ := h
  rcases open_ints ht hq cq hf with ⟨hcs, _⟩ | ⟨x, l, c, zs, hcs, _, hl, hm, hz, hd, hcell, hwz⟩
  · simp [Value.cells] at hcs
    exact Or.inl hcs.2.2
  · simp [Value.cells] at hcs
    obtain ⟨rfl, rfl, rfl⟩ := hcs
    simp only [if_true] at hz
    right
    simp only [Prod.mk.injEq] at hd
    refine ⟨_, _, hd.1, ?_⟩
    simp [lits]
    omega
theorem len_of_trod {t q : TypeId} {k : IntKind} (ht : P.underlying t = some (.slice q)) (hq : P.underlying q = some (.int k)) (cq : P.cellsOf q = 1) {a : Option Addr} {len cap : Nat} {d : DataW H} {p : List MemPlace}
    (h : DataW.Trod enc P w base (fun _ => true) held t (.slice a len cap) d p) : len ≤ cap := by
  obtain ⟨fuel, hf⟩ := h
  rcases open_ints ht hq cq hf with ⟨hcs, _⟩ | ⟨x, l, c, zs, hcs, _, hl, hm, hz, hd, hcell, hwz⟩
  · simp [Value.cells] at hcs
    omega
  · simp [Value.cells] at hcs
    obtain ⟨rfl, rfl, rfl⟩ := hcs
    exact hl
end
end Go.Proofs.Ythgbfakmkdifbaa
