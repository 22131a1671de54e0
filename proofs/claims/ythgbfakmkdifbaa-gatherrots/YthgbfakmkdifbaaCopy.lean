/-
  copy of a slice of int over the head of a row that the call has made.
-/
import Derived.WalkKit
import Derived.Laws.CopyOwn
import Derived.Deep.Slices
import Derived.Test.YthgbfakmkdifbaaMm
namespace Go.Proofs.Ythgbfakmkdifbaa
open Go.RowKit Go.Deep
theorem copy_ints {P : Program} {w : World} {ops : Array Oper} {rest : List Oper} {o : Oper} {a : Act} {Q : Exit → Act → World → Prop} (hgd : o.guard = none) (d s : Operand) (T : TypeId)
    (ho : o.op = .call { callee := .builtin .copy, args := #[d, s], argTypes := #[T, T] }) (t : TypeId) (hu : P.underlying T = some (.slice t)) (hsz : (P.info? t).map (·.size) = some 1)
    (g m dCap : Nat) (sp : Option Addr) (l sCap : Nat) (hd : a.eval d = .slice (some ⟨g, 0, none⟩) m dCap) (hs : a.eval s = .slice sp l sCap) (f : Nat → Value) (hg : w.rowIs g t m f) (F : Nat → Int) (hi : Ints w sp l F) (hle : l ≤ m) (h0 : 0 < l)
    (h : ∀ w', w'.rowIs g t m (fun i => if i < l then .int .i64 (F i) else f i) → Wro (· = g) w w' → wpList P ops Q rest (a.put o.dst (goInt l)) w') : wpList P ops Q (o :: rest) a w := by
  obtain ⟨b, off, rfl, hc⟩ := hi.at h0
  obtain ⟨cur, hcur, hlen, hcell⟩ := hg
  have hcs : ((List.range l).map fun i => Value.int .i64 (F i)).length = l := by simp
  refine wpList_copy_own hgd d s T T ho t hu hsz g 0 m dCap ⟨b, off, none⟩ l sCap hd hs cur t hcur ((List.range l).map fun i => .int .i64 (F i)) (by rw [hcs]; exact (Nat.min_eq_left hle).symm) ?_ ?_ ?_ ?_
  · intro j v hj
    have e : j < l := by
      rcases Nat.lt_or_ge j l with e | e
      · exact e
      · rw [List.getElem?_eq_none (by simp; omega)] at hj; cases hj
    rw [List.getElem?_map, List.getElem?_range e] at hj
    cases hj
    rw [Go.WideShapes.add_plain]
    exact hc j e
  · rw [hcs]; omega
  · intro v hv
    obtain ⟨i, _, rfl⟩ := List.mem_map.1 hv
    rfl
  · rw [hcs]
    refine h _ ⟨_, setRow_heap w g cur _ t _ hcur, ?_, fun i hi' => ?_⟩ ⟨rfl, rfl, rfl, by simp, fun k _ hk => setRow_other _ _ _ _ hk⟩
    · simp; omega
    · simp only [List.getElem?_toArray, List.take_zero, List.nil_append, Nat.zero_add]
      by_cases e : i < l
      · rw [List.getElem?_append_left (by simpa using e)]
        simp [e]
      · rw [List.getElem?_append_right (by simp; omega), List.getElem?_drop]
        simp only [hcs]
        rw [show l + (i - l) = i by omega, if_neg e]
        have := hcell i hi'
        simpa using this
end Go.Proofs.Ythgbfakmkdifbaa
