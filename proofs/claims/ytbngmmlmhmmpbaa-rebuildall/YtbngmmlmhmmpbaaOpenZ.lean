/-
  Slices of numbers that came in, opened: with what the form says of their size.
-/
import Derived.Test.YtbngmmlmhmmpbaaOpenB
import Derived.SizedLaws
namespace Go.Proofs.Ytbngmmlmhmmpbaa
open Go.ChangeShapes Go.WideShapes Go.ChangeAt Go.RowKit Go.Deep E
section
variable {H : Type} {enc : TypeId × Value → H} {P : Program} {w : World} {base : Nat} {held : Bool}
theorem room_of_trod {t q : TypeId} {k : IntKind} (ht : P.underlying t = some (.slice q)) (hq : P.underlying q = some (.int k)) (cq : P.cellsOf q = 1) {a : Option Addr} {len cap : Nat} {d : DataW H} {p : List MemPlace}
    (h : DataW.Trod enc P w base (fun _ => true) held t (.slice a len cap) d p) : cap = 0 ∨ ∃ el sp, d = .slice el sp ∧ el.length + sp.length = cap := by
  obtain ⟨fuel, hf⟩ := h
  rcases open_ints ht hq cq hf with ⟨hcs, _⟩ | ⟨x, l, c, zs, hcs, _, hl, hm, hz, hd, hcell, hwz⟩
  · simp [Value.cells] at hcs
    exact Or.inl hcs.2.2
  · simp [Value.cells] at hcs
    obtain ⟨rfl, rfl, rfl⟩ := hcs
    simp only [if_true] at hz
    right
    simp only [Prod.mk.injEq] at hd
    refine ⟨_, _, hd.1, ?_⟩
    simp [lits]
    omega
end
end Go.Proofs.Ytbngmmlmhmmpbaa
