/-
  A world in which only some blocks were written, and new ones laid.
-/
import Derived.Test.YtbngmmlmhmmpbaaExt
namespace Go.Proofs.Ytbngmmlmhmmpbaa
open Go.RowKit Go.Deep
/-- of what was there only blocks of S were written -/
structure Wro (S : Nat → Prop) (w w' : World) : Prop where
  os : w'.os = w.os
  tape : w'.tape = w.tape
  output : w'.output = w.output
  size : w.heap.size ≤ w'.heap.size
  block : ∀ k, k < w.heap.size → ¬ S k → w'.heap[k]? = w.heap[k]?
namespace Wro
variable {S T : Nat → Prop} {a b c w : World}
theorem refl (S : Nat → Prop) (w : World) : Wro S w w := ⟨rfl, rfl, rfl, Nat.le_refl _, fun _ _ _ => rfl⟩
theorem trans (h : Wro S a b) (k : Wro S b c) : Wro S a c :=
  ⟨k.os.trans h.os, k.tape.trans h.tape, k.output.trans h.output, Nat.le_trans h.size k.size, fun i hi hs => (k.block i (Nat.lt_of_lt_of_le hi h.size) hs).trans (h.block i hi hs)⟩
theorem mono (h : Wro S a b) (hs : ∀ k, S k → T k) : Wro T a b := ⟨h.os, h.tape, h.output, h.size, fun i hi ht => h.block i hi (fun s => ht (hs i s))⟩
theorem ext (h : Ext a b) : Wro S a b := ⟨h.below.os, h.below.tape, h.below.output, h.below.size, fun k hk _ => h.below.block k hk⟩
theorem toExt (h : Wro S a b) (hs : ∀ k, S k → a.heap.size ≤ k) : Ext a b := ⟨⟨h.os, h.tape, h.output, h.size, fun k hk => h.block k hk (fun s => by have := hs k s; omega)⟩⟩
theorem then_ext (h : Wro S a b) (k : Ext b c) : Wro S a c := h.trans (ext k)
theorem drew (h : Wro S a b) : Wro S a b.drew := h.then_ext (Ext.refl b).drew
theorem setCell (h : Wro S a b) {p : Addr} (hp : S p.block) (u : Value) : Wro S a (b.setCell p u) :=
  h.trans ⟨rfl, rfl, rfl, by simp [World.setCell], fun k _ hs => Below.heap_setCell _ _ _ _ (fun e => hs (e ▸ hp))⟩
/-- behind the first world only what is new, or of S, was written: so of the world ahead of it only what was new -/
theorem after (h : Ext w a) (k : Wro S a b) (hs : ∀ i, S i → w.heap.size ≤ i) : Ext w b :=
  ⟨⟨k.os.trans h.below.os, k.tape.trans h.below.tape, k.output.trans h.below.output, Nat.le_trans h.below.size k.size, fun i hi => (k.block i (Nat.lt_of_lt_of_le hi h.below.size) (fun s => by have := hs i s; omega)).trans (h.below.block i hi)⟩⟩
theorem rowIs (h : Wro S a b) {n : Nat} {t : TypeId} {m : Nat} {f : Nat → Value} (k : a.rowIs n t m f) (hs : ¬ S n) : b.rowIs n t m f := k.of_block (h.block n k.lt hs)
theorem cell (h : Wro S a b) {p : Addr} {v : Value} (hv : a.cell? p = some v) (hs : ¬ S p.block) : b.cell? p = some v := (World.cell?_of_block (h.block p.block (World.block_lt_of_cell? _ _ hv) hs)).trans hv
end Wro
end Go.Proofs.Ytbngmmlmhmmpbaa
