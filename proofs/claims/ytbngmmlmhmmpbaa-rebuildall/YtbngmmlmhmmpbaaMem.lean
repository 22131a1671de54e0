/-
  Slices of int, and slices of these, as they lie in memory: told by their length and by what stands at each place; both stay where the world only grows.
-/
import Derived.WalkKit
import Derived.Test.YtbngmmlmhmmpbaaExt
namespace Go.Proofs.Ytbngmmlmhmmpbaa
open Go.RowKit

/-- a slice of n numbers lies at a: place i has f i -/
def Ints (w : World) (a : Option Addr) (n : Nat) (f : Nat → Int) : Prop :=
  ∀ i, i < n → ∃ b o, a = some ⟨b, o, none⟩ ∧ w.cell? ⟨b, o + i, none⟩ = some (.int .i64 (f i))
/-- a slice of n rows lies at a: row r lies at A r, and has L r numbers (room for C r): F r -/
def Mat (w : World) (a : Option Addr) (n : Nat) (A : Nat → Option Addr) (L C : Nat → Nat) (F : Nat → Nat → Int) : Prop :=
  ∀ r, r < n → (∃ b o, a = some ⟨b, o, none⟩ ∧ w.cell? ⟨b, o + r, none⟩ = some (.slice (A r) (L r) (C r))) ∧ Ints w (A r) (L r) (F r)

theorem Ext.keeps {w w' : World} (h : Ext w w') {p : Addr} {v : Value} (hv : w.cell? p = some v) : w'.cell? p = some v := by
  have hb := World.block_lt_of_cell? _ _ hv
  exact (h.below.cell hb).trans hv
theorem Ints.ext {w w' : World} {a : Option Addr} {n : Nat} {f : Nat → Int} (h : Ints w a n f) (e : Ext w w') : Ints w' a n f := fun i hi => by
  obtain ⟨b, o, ha, hc⟩ := h i hi
  exact ⟨b, o, ha, e.keeps hc⟩
theorem Ints.at {w : World} {a : Option Addr} {n : Nat} {f : Nat → Int} (h : Ints w a n f) (h0 : 0 < n) : ∃ b o, a = some ⟨b, o, none⟩ ∧ ∀ i, i < n → w.cell? ⟨b, o + i, none⟩ = some (.int .i64 (f i)) := by
  obtain ⟨b, o, ha, _⟩ := h 0 h0
  refine ⟨b, o, ha, fun i hi => ?_⟩
  obtain ⟨b', o', ha', hc⟩ := h i hi
  rw [ha] at ha'
  cases ha'
  exact hc
theorem Ints.mk {w : World} {b o n : Nat} {f : Nat → Int} (h : ∀ i, i < n → w.cell? ⟨b, o + i, none⟩ = some (.int .i64 (f i))) : Ints w (some ⟨b, o, none⟩) n f := fun i hi => ⟨b, o, rfl, h i hi⟩
theorem Ints.congr {w : World} {a : Option Addr} {n : Nat} {f g : Nat → Int} (h : Ints w a n f) (e : ∀ i, i < n → f i = g i) : Ints w a n g := fun i hi => by
  rw [← e i hi]; exact h i hi
theorem Mat.ext {w w' : World} {a : Option Addr} {n : Nat} {A : Nat → Option Addr} {L C : Nat → Nat} {F : Nat → Nat → Int} (h : Mat w a n A L C F) (e : Ext w w') : Mat w' a n A L C F := fun r hr => by
  obtain ⟨⟨b, o, ha, hc⟩, hi⟩ := h r hr
  exact ⟨⟨b, o, ha, e.keeps hc⟩, hi.ext e⟩
theorem Mat.at {w : World} {a : Option Addr} {n : Nat} {A : Nat → Option Addr} {L C : Nat → Nat} {F : Nat → Nat → Int} (h : Mat w a n A L C F) (h0 : 0 < n) : ∃ b o, a = some ⟨b, o, none⟩ ∧ ∀ r, r < n → w.cell? ⟨b, o + r, none⟩ = some (.slice (A r) (L r) (C r)) := by
  obtain ⟨⟨b, o, ha, _⟩, _⟩ := h 0 h0
  refine ⟨b, o, ha, fun i hi => ?_⟩
  obtain ⟨⟨b', o', ha', hc⟩, _⟩ := h i hi
  rw [ha] at ha'
  cases ha'
  exact hc
theorem Mat.row {w : World} {a : Option Addr} {n : Nat} {A : Nat → Option Addr} {L C : Nat → Nat} {F : Nat → Nat → Int} (h : Mat w a n A L C F) {r : Nat} (hr : r < n) : Ints w (A r) (L r) (F r) := (h r hr).2
end Go.Proofs.Ytbngmmlmhmmpbaa
