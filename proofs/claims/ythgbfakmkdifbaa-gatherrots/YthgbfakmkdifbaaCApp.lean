/-
  A list of columns of any lengths, grown by append, its columns too.
-/
import Derived.Test.YthgbfakmkdifbaaChecked
import Derived.WalkKit
import Derived.Test.YthgbfakmkdifbaaByb
import Derived.Test.YthgbfakmkdifbaaKeeps
namespace Go.Proofs.Ythgbfakmkdifbaa
open Go.RowKit Go.Deep E
/-- a list of columns of a call's own -/
structure CApp (base : Nat) (wr : World) (v : Value) (k : Nat) (V : Nat → Value) (L : Nat → Nat) (D : Nat → Nat → E) : Prop where
  top : wr.ownsRow base 22 1 v k ((List.range k).map V)
  row : ∀ s, s < k → wr.ownsRow base 5 1 (V s) (L s) ((List.range (L s)).map (bvs (D s)))
theorem CApp.start (base : Nat) (w : World) (V : Nat → Value) (L : Nat → Nat) (D : Nat → Nat → E) : CApp base w (.slice none 0 0) 0 V L D := ⟨World.ownsRow_nil _ _ _ _, fun s hs => by omega⟩
theorem CApp.ext {base : Nat} {w w' : World} {v : Value} {k : Nat} {V : Nat → Value} {L : Nat → Nat} {D : Nat → Nat → E} (h : CApp base w v k V L D) (x : Ext w w') : CApp base w' v k V L D := ⟨own_ext h.top x, fun s hs => own_ext (h.row s hs) x⟩
/-- it stays where another list of columns grows -/
theorem CApp.kept {base b2 : Nat} {w w' : World} {v u : Value} {k n2 : Nat} {V : Nat → Value} {L : Nat → Nat} {D : Nat → Nat → E} {xs : List Value} (h : CApp base w v k V L D) (ho : w.ownsRow b2 22 1 u n2 xs) (g : w.grownBy w' u.ownBlock) (hne : ∀ q, u.ownBlock = some q → v.ownBlock ≠ some q) : CApp base w' v k V L D := by
  refine ⟨h.top.kept g ?_, fun s hs => (h.row s hs).kept g (own_apart (h.row s hs) ho (by decide))⟩
  cases hv : v.ownBlock with
  | none => exact Or.inl rfl
  | some q =>
    refine Or.inr fun e => ?_
    exact hne q e.symm hv
/-- one column more -/
theorem CApp.next {base : Nat} {w w5 : World} {v v' u : Value} {k : Nat} {V : Nat → Value} {L : Nat → Nat} {D : Nat → Nat → E} (h : CApp base w v k V L D) (hr : w.ownsRow base 5 1 u (L k) ((List.range (L k)).map (bvs (D k))))
    (ht : w5.ownsRow base 22 1 v' (k + 1) ((List.range k).map V ++ [u])) (g : w.grownBy w5 v.ownBlock) : CApp base w5 v' (k + 1) (fun s => if s < k then V s else u) L D := by
  refine ⟨?_, fun s hs => ?_⟩
  · have e : (List.range k).map V ++ [u] = (List.range (k + 1)).map fun s => if s < k then V s else u := by
      rw [List.range_succ, List.map_append]
      congr 1
      · exact List.map_congr_left fun x hx => by rw [if_pos (List.mem_range.1 hx)]
      · simp
    rw [e] at ht
    exact ht
  · by_cases e : s < k
    · rw [if_pos e]; exact (h.row s e).kept g (own_apart (h.row s e) h.top (by decide))
    · rw [if_neg e, show s = k by omega]; exact hr.kept g (own_apart hr h.top (by decide))
theorem CApp.cols {base : Nat} {wr : World} {v : Value} {n : Nat} {V : Nat → Value} {L : Nat → Nat} {D : Nat → Nat → E} (h : CApp base wr v n V L D) : ∃ a c A C, v = .slice a n c ∧ (∀ r, r < n → V r = .slice (A r) (L r) (C r)) ∧ Cols wr a n A L C D := by
  have each : ∀ r, r < n → ∃ y : Option Addr × Nat, V r = .slice y.1 (L r) y.2 ∧ Byts wr y.1 (L r) (D r) := fun r hr => by
    obtain ⟨a, c, h1, h2⟩ := own_byts (h.row r hr)
    exact ⟨(a, c), h1, h2⟩
  obtain ⟨y, hy⟩ := choose_lt each
  obtain ⟨a, c, hv, hc⟩ := own_slice h.top
  refine ⟨a, c, fun r => (y r).1, fun r => (y r).2, hv, fun r hr => (hy r hr).1, fun r hr => ⟨?_, (hy r hr).2⟩⟩
  obtain ⟨b, o, ha, hb⟩ := hc r hr
  exact ⟨b, o, ha, by rw [hb]; simp [hr, (hy r hr).1]⟩
theorem CApp.block {base : Nat} {w : World} {v : Value} {k : Nat} {V : Nat → Value} {L : Nat → Nat} {D : Nat → Nat → E} (h : CApp base w v k V L D) {g : Nat} (hg : v.ownBlock = some g) : g < w.heap.size := (own_ge h.top hg).2
theorem CApp.back {base b2 : Nat} {w : World} {v : Value} {k : Nat} {V : Nat → Value} {L : Nat → Nat} {D : Nat → Nat → E} (h : CApp base w v k V L D) (hb : b2 ≤ base) : CApp b2 w v k V L D := ⟨own_mono h.top hb, fun s hs => own_mono (h.row s hs) hb⟩
/-- columns that were made by make, in blocks of their own -/
theorem BldB.capp {w0 wr : World} {B n m : Nat} {Z : Nat → Nat → E} {G : Nat → Nat} {base : Nat} (h : BldB w0 wr B n m n Z G) (hb : base ≤ B) (hw : base ≤ w0.heap.size) (hn : n ≤ 1048576) (hm : m ≤ 1048576) : CApp base wr (.slice (some ⟨B, 0, none⟩) n n) n (fun r => .slice (some ⟨G r, 0, none⟩) m m) (fun _ => m) Z := by
  refine ⟨?_, fun s hs => ?_⟩
  · have := own_of_row h.top hb (by unfold maxLen; omega)
    rw [show ((List.range n).map fun r => Value.slice (some ⟨G r, 0, none⟩) m m) = (List.range n).map fun r => if r < n then Value.slice (some ⟨G r, 0, none⟩) m m else Value.slice none 0 0 from List.map_congr_left fun i hi => by rw [if_pos (List.mem_range.1 hi)]]
    exact this
  · exact own_of_row (h.row s hs) (by have := (h.old s hs).1; omega) (by unfold maxLen; omega)
/-- what a call told: columns in a list of its own, and a number -/
def OwnRes (w w' : World) (e : Ending) (n m : Nat) (D : Nat → Nat → E) (err : Int) : Prop := ∃ v V, e = .returned (.tuple #[v, .int .i64 err]) ∧ CApp w.heap.size w' v n V (fun _ => m) D
theorem OwnRes.none (w w' : World) (m : Nat) (D : Nat → Nat → E) (err : Int) : OwnRes w w' (.returned (.tuple #[.slice none 0 0, .int .i64 err])) 0 m D err := ⟨_, fun _ => .int .i64 0, rfl, CApp.start _ _ _ _ _⟩
theorem ABld.capp {w0 wr : World} {T n m : Nat} {V : Nat → Value} {Z : Nat → Nat → E} {base : Nat} (h : ABld w0 wr T n m n V Z) (hb : base ≤ T) (hw : base ≤ w0.heap.size) (hn : n ≤ 1048576) : CApp base wr (.slice (some ⟨T, 0, none⟩) n n) n V (fun _ => m) Z :=
  ⟨own_of_row h.top hb (by unfold maxLen; omega), fun s hs => own_mono (h.row s hs) hw⟩
end Go.Proofs.Ythgbfakmkdifbaa
