/-
  Slices of ranges as they lie in memory, and what is asked of them: May they be?
-/
import Derived.WalkKit
import Derived.Test.YthgbfakmkdifbaaMm
namespace Go.Proofs.Ythgbfakmkdifbaa
open Go.RowKit
/-- the ranges of a list lie at a, two cells each -/
def Rngs (w : World) (a : Option Addr) (L : List (Int × Int)) : Prop :=
  ∀ i x y, L[i]? = some (x, y) → ∃ b o, a = some ⟨b, o, none⟩ ∧ w.cell? ⟨b, o + i * 2, none⟩ = some (.int .i64 x) ∧ w.cell? ⟨b, o + i * 2 + 1, none⟩ = some (.int .i64 y)
theorem Rngs.ext {w w' : World} {a : Option Addr} {L : List (Int × Int)} (h : Rngs w a L) (e : Ext w w') : Rngs w' a L := fun i x y hi => by
  obtain ⟨b, o, ha, hc, hd⟩ := h i x y hi
  exact ⟨b, o, ha, e.keeps hc, e.keeps hd⟩
theorem Rngs.nil {w : World} {a : Option Addr} : Rngs w a [] := fun i x y hi => by simp at hi
/-- numbers that an int can be -/
def Bdd (L : List (Int × Int)) : Prop := ∀ r, r ∈ L → (-9223372036854775808 ≤ r.1 ∧ r.1 ≤ 9223372036854775807) ∧ -9223372036854775808 ≤ r.2 ∧ r.2 ≤ 9223372036854775807
/-- from m on: may they be (how many aside) -/
def okB : Int → List (Int × Int) → Bool
  | _, [] => true
  | m, r :: l => decide (m ≤ r.1) && decide (r.1 < r.2) && decide (r.2 ≤ 1048576) && okB (r.2 + 1) l
/-- May -/
def smayB (L : List (Int × Int)) : Bool := decide (L.length ≤ 200) && okB 0 L
theorem drop_at {α : Type} {L : List α} {k : Nat} (h : k < L.length) : ∃ r, L[k]? = some r ∧ L.drop k = r :: L.drop (k + 1) ∧ r ∈ L :=
  ⟨L[k], List.getElem?_eq_getElem h, List.drop_eq_getElem_cons h, List.getElem_mem h⟩
end Go.Proofs.Ythgbfakmkdifbaa
