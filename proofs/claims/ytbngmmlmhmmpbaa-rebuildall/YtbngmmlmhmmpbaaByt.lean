/-
  Slices of bytes, and slices of these, as they lie in memory: each byte is an element of the field; both stay where the world only grows.
-/
import Derived.WalkKit
import Derived.Test.YtbngmmlmhmmpbaaLin
import Derived.Test.YtbngmmlmhmmpbaaMem
import Derived.Test.YtbngmmlmhmmpbaaWro
namespace Go.Proofs.Ytbngmmlmhmmpbaa
open Go.RowKit Go.Deep E
/-- a slice of n bytes lies at a: place i has f i -/
def Byts (w : World) (a : Option Addr) (n : Nat) (f : Nat → E) : Prop :=
  ∀ i, i < n → ∃ b o, a = some ⟨b, o, none⟩ ∧ w.cell? ⟨b, o + i, none⟩ = some (.int .u8 (ev (f i)))
/-- a slice of n columns lies at a: column r lies at A r, and has L r bytes (room for C r): F r -/
def Cols (w : World) (a : Option Addr) (n : Nat) (A : Nat → Option Addr) (L C : Nat → Nat) (F : Nat → Nat → E) : Prop :=
  ∀ r, r < n → (∃ b o, a = some ⟨b, o, none⟩ ∧ w.cell? ⟨b, o + r, none⟩ = some (.slice (A r) (L r) (C r))) ∧ Byts w (A r) (L r) (F r)
theorem Byts.ext {w w' : World} {a : Option Addr} {n : Nat} {f : Nat → E} (h : Byts w a n f) (e : Ext w w') : Byts w' a n f := fun i hi => by
  obtain ⟨b, o, ha, hc⟩ := h i hi
  exact ⟨b, o, ha, e.keeps hc⟩
theorem Byts.at {w : World} {a : Option Addr} {n : Nat} {f : Nat → E} (h : Byts w a n f) (h0 : 0 < n) : ∃ b o, a = some ⟨b, o, none⟩ ∧ ∀ i, i < n → w.cell? ⟨b, o + i, none⟩ = some (.int .u8 (ev (f i))) := by
  obtain ⟨b, o, ha, _⟩ := h 0 h0
  refine ⟨b, o, ha, fun i hi => ?_⟩
  obtain ⟨b', o', ha', hc⟩ := h i hi
  rw [ha] at ha'
  cases ha'
  exact hc
theorem Byts.mk {w : World} {b o n : Nat} {f : Nat → E} (h : ∀ i, i < n → w.cell? ⟨b, o + i, none⟩ = some (.int .u8 (ev (f i)))) : Byts w (some ⟨b, o, none⟩) n f := fun i hi => ⟨b, o, rfl, h i hi⟩
theorem Byts.congr {w : World} {a : Option Addr} {n : Nat} {f g : Nat → E} (h : Byts w a n f) (e : ∀ i, i < n → f i = g i) : Byts w a n g := fun i hi => by
  rw [← e i hi]; exact h i hi
/-- it stays where blocks of S alone are written, and it lies in none of them -/
theorem Byts.wro {S : Nat → Prop} {w w' : World} {a : Option Addr} {n : Nat} {f : Nat → E} (h : Byts w a n f) (k : Wro S w w') (hs : ∀ p, a = some p → ¬ S p.block) : Byts w' a n f := fun i hi => by
  obtain ⟨b, o, ha, hc⟩ := h i hi
  exact ⟨b, o, ha, k.cell hc (hs ⟨b, o, none⟩ ha)⟩
theorem Cols.ext {w w' : World} {a : Option Addr} {n : Nat} {A : Nat → Option Addr} {L C : Nat → Nat} {F : Nat → Nat → E} (h : Cols w a n A L C F) (e : Ext w w') : Cols w' a n A L C F := fun r hr => by
  obtain ⟨⟨b, o, ha, hc⟩, hi⟩ := h r hr
  exact ⟨⟨b, o, ha, e.keeps hc⟩, hi.ext e⟩
theorem Cols.wro {S : Nat → Prop} {w w' : World} {a : Option Addr} {n : Nat} {A : Nat → Option Addr} {L C : Nat → Nat} {F : Nat → Nat → E} (h : Cols w a n A L C F) (k : Wro S w w') (ht : ∀ p, a = some p → ¬ S p.block) (hs : ∀ r, r < n → ∀ p, A r = some p → ¬ S p.block) : Cols w' a n A L C F := fun r hr => by
  obtain ⟨⟨b, o, ha, hc⟩, hi⟩ := h r hr
  exact ⟨⟨b, o, ha, k.cell hc (ht ⟨b, o, none⟩ ha)⟩, hi.wro k (hs r hr)⟩
theorem Cols.at {w : World} {a : Option Addr} {n : Nat} {A : Nat → Option Addr} {L C : Nat → Nat} {F : Nat → Nat → E} (h : Cols w a n A L C F) (h0 : 0 < n) : ∃ b o, a = some ⟨b, o, none⟩ ∧ ∀ r, r < n → w.cell? ⟨b, o + r, none⟩ = some (.slice (A r) (L r) (C r)) := by
  obtain ⟨⟨b, o, ha, _⟩, _⟩ := h 0 h0
  refine ⟨b, o, ha, fun i hi => ?_⟩
  obtain ⟨⟨b', o', ha', hc⟩, _⟩ := h i hi
  rw [ha] at ha'
  cases ha'
  exact hc
theorem Cols.col {w : World} {a : Option Addr} {n : Nat} {A : Nat → Option Addr} {L C : Nat → Nat} {F : Nat → Nat → E} (h : Cols w a n A L C F) {r : Nat} (hr : r < n) : Byts w (A r) (L r) (F r) := (h r hr).2
theorem Cols.congr {w : World} {a : Option Addr} {n : Nat} {A : Nat → Option Addr} {L L' C : Nat → Nat} {F G : Nat → Nat → E} (h : Cols w a n A L C F) (el : ∀ r, r < n → L r = L' r) (e : ∀ r, r < n → ∀ i, i < L r → F r i = G r i) : Cols w a n A L' C G := fun r hr => by
  rw [← el r hr]; exact ⟨(h r hr).1, (h r hr).2.congr (e r hr)⟩
/-- the cells of a column as values -/
def bvs (f : Nat → E) (i : Nat) : Value := .int .u8 (ev (f i))
theorem Byts.row {w : World} {b n m : Nat} {t : TypeId} {f : Nat → E} (h : w.rowIs b t n (bvs f)) (hm : m ≤ n) : Byts w (some ⟨b, 0, none⟩) m f := Byts.mk fun i hi => by rw [Nat.zero_add]; exact h.cell (by omega)
end Go.Proofs.Ytbngmmlmhmmpbaa
