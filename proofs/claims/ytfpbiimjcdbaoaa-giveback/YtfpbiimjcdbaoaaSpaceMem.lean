/-
  Slices of structs of three cells: as they lie in memory, and as a call makes them by append.
-/
import Derived.WalkKit
import Derived.Deep.AppendLies
import Derived.Test.YtfpbiimjcdbaoaaMm
import Derived.Test.YtfpbiimjcdbaoaaOwnMore
import Derived.Test.YtfpbiimjcdbaoaaByb
import Derived.Test.YtfpbiimjcdbaoaaSpanOwn
namespace Go.Proofs.Ytfpbiimjcdbaoaa
open Go.RowKit Go.Deep
abbrev V3 := Value × Value × Value
/-- elements of three cells lie at a -/
def Tri (w : World) (a : Option Addr) (L : List V3) : Prop :=
  ∀ i x y z, L[i]? = some (x, y, z) → ∃ b o, a = some ⟨b, o, none⟩ ∧ w.cell? ⟨b, o + i * 3, none⟩ = some x ∧ w.cell? ⟨b, o + i * 3 + 1, none⟩ = some y ∧ w.cell? ⟨b, o + i * 3 + 2, none⟩ = some z
theorem Tri.ext {w w' : World} {a : Option Addr} {L : List V3} (h : Tri w a L) (e : Ext w w') : Tri w' a L := fun i x y z hi => by
  obtain ⟨b, o, ha, h1, h2, h3⟩ := h i x y z hi
  exact ⟨b, o, ha, e.keeps h1, e.keeps h2, e.keeps h3⟩
theorem Tri.nil {w : World} {a : Option Addr} : Tri w a [] := fun i x y z hi => by simp at hi
def fl3 : List V3 → List Value
  | [] => []
  | r :: l => r.1 :: r.2.1 :: r.2.2 :: fl3 l
theorem fl3_length (D : List V3) : (fl3 D).length = D.length * 3 := by
  induction D with
  | nil => rfl
  | cons r l ih => simp [fl3, ih]; omega
theorem fl3_append (D E : List V3) : fl3 (D ++ E) = fl3 D ++ fl3 E := by
  induction D with
  | nil => rfl
  | cons r l ih => simp [fl3, ih]
theorem fl3_get {D : List V3} {i : Nat} {x y z : Value} (h : D[i]? = some (x, y, z)) : (fl3 D)[i * 3]? = some x ∧ (fl3 D)[i * 3 + 1]? = some y ∧ (fl3 D)[i * 3 + 2]? = some z := by
  induction D generalizing i with
  | nil => simp at h
  | cons r l ih =>
    cases i with
    | zero =>
      simp at h
      subst h
      exact ⟨rfl, rfl, rfl⟩
    | succ j =>
      have h' : l[j]? = some (x, y, z) := by simpa using h
      have := ih h'
      rw [show (j + 1) * 3 = j * 3 + 1 + 1 + 1 by omega]
      simpa [fl3] using this
theorem own_tri {w : World} {base : Nat} {e : TypeId} {v : Value} {n : Nat} {D : List V3} (h : w.ownsRow base e 3 v n (fl3 D)) : D.length = n ∧ ∃ a c, v = .slice a n c ∧ Tri w a D := by
  have h0 := h
  obtain ⟨h1, h2⟩ := h
  rw [fl3_length] at h1
  have hn : D.length = n := by omega
  refine ⟨hn, ?_⟩
  rcases h2 with ⟨rfl, rfl⟩ | ⟨g, cap, cur, rfl, hg, r⟩
  · exact ⟨none, 0, rfl, fun i x y z hi => by have := lt_of_get hi; omega⟩
  · refine ⟨_, _, rfl, fun i x y z hi => ⟨g, 0, rfl, ?_, ?_, ?_⟩⟩
    · have := lt_of_get hi
      rw [Nat.zero_add, h0.cellAt _ (by omega)]
      exact (fl3_get hi).1
    · have := lt_of_get hi
      rw [Nat.zero_add, h0.cellAt _ (by omega)]
      exact (fl3_get hi).2.1
    · have := lt_of_get hi
      rw [Nat.zero_add, h0.cellAt _ (by omega)]
      exact (fl3_get hi).2.2
def one3 (E : List V3) : Prop := ∀ r, r ∈ E → r.1.oneCell' = true ∧ r.2.1.oneCell' = true ∧ r.2.2.oneCell' = true
theorem one3_fl {E : List V3} (h : one3 E) : ∀ u ∈ fl3 E, u.oneCell' = true := by
  induction E with
  | nil => intro u hu; simp [fl3] at hu
  | cons r l ih =>
    intro u hu
    have h1 := h r (List.mem_cons.2 (Or.inl rfl))
    simp only [fl3, List.mem_cons] at hu
    rcases hu with rfl | rfl | rfl | hu
    · exact h1.1
    · exact h1.2.1
    · exact h1.2.2
    · exact ih (fun s hs => h s (List.mem_cons.2 (Or.inr hs))) u hu
theorem Tri.cellsAt {w : World} {a : Option Addr} {E : List V3} (h : Tri w a E) {ad : Addr} (ha : a = some ad) : ∀ j u, (fl3 E)[j]? = some u → w.cell? (ad.add j) = some u := by
  intro j u hj
  have hl := (List.getElem?_eq_some_iff.1 hj).1
  rw [fl3_length] at hl
  obtain ⟨⟨x, y, z⟩, hi⟩ : ∃ r, E[j / 3]? = some r := ⟨_, List.getElem?_eq_getElem (by omega)⟩
  obtain ⟨b, o, h0, h1, h2, h3⟩ := h _ x y z hi
  rw [ha] at h0
  cases h0
  obtain ⟨g1, g2, g3⟩ := fl3_get hi
  rw [Go.WideShapes.add_plain]
  rcases (show j = j / 3 * 3 ∨ j = j / 3 * 3 + 1 ∨ j = j / 3 * 3 + 2 by omega) with e | e | e
  · rw [e, g1] at hj
    cases hj
    rw [e]; exact h1
  · rw [e, g2] at hj
    cases hj
    rw [e, ← Nat.add_assoc]; exact h2
  · rw [e, g3] at hj
    cases hj
    rw [e, ← Nat.add_assoc]; exact h3
/-- some elements more, by append: whatever source, nil too -/
theorem append_tri {P : Program} (w : World) {ops : Array Oper} {rest : List Oper} {o : Oper} {a : Act} {Q : Exit → Act → World → Prop} (hgd : o.guard = none) (s x : Operand) (t : TypeId)
    (ho : o.op = .call { callee := .builtin .append, args := #[s, x], argTypes := #[t, t] }) (base : Nat) (e : TypeId) (z : Value) (bytes : Nat) (ht : P.underlying t = some (.slice e))
    (hinfo : (P.info? e).map (fun i => (i.zero, i.size, i.bytes)) = some (some z, 3, bytes)) (hzs : z.cells.size = 3) (v : Value) (n : Nat) (D : List V3) (hs : a.eval s = v) (hown : w.ownsRow base e 3 v n (fl3 D))
    (ao : Option Addr) (m c : Nat) (E : List V3) (hm : E.length = m) (hx : a.eval x = .slice ao m c) (hE : Tri w ao E) (h1 : one3 E) (hb : bytes ≤ 64) (hn : n ≤ 1099511627776) (hm2 : m ≤ 1048576) (hbase : base ≤ w.heap.size)
    (h : ∀ v' w', w'.ownsRow base e 3 v' (n + m) (fl3 (D ++ E)) → w.grownBy w' v.ownBlock → wpList P ops Q rest (a.put o.dst v') w') : wpList P ops Q (o :: rest) a w := by
  obtain ⟨i0, hi, hz0, hz1, hz2⟩ := info_parts hinfo
  cases ao with
  | none =>
    have hE0 : E = [] := by
      cases E with
      | nil => rfl
      | cons r l =>
        obtain ⟨b, o, h0, _⟩ := hE 0 r.1 r.2.1 r.2.2 rfl
        cases h0
    subst hE0
    simp at hm
    subst hm
    refine append_none w hgd s x t ho base e i0 ht hi v n (fl3 D) hs hown c hx ?_
    refine h v w ?_ ⟨rfl, rfl, rfl, Nat.le_refl _, fun _ _ _ => rfl⟩
    rw [List.append_nil]
    exact hown
  | some ad =>
    refine wpList_append_own w hgd s x t ho base e i0 z 3 bytes ht hi hz0 hz1 hz2 hzs (by decide) v n (fl3 D) hs hown ad m c (fl3 E) hx (by rw [fl3_length, hm]) (hE.cellsAt rfl) (one3_fl h1) ?_ ?_ hbase ?_
    · unfold maxLen; omega
    · have : (n + m) * bytes ≤ (n + m) * 64 := Nat.mul_le_mul_left _ hb
      omega
    · exact fun v' w' h1 h2 _ => h v' w' (by rw [fl3_append]; exact h1) h2
/-- one element, laid in a block of its own -/
theorem tri_new (W : World) (g : Nat) (hg : g = W.heap.size) (x y z : Value) (t : TypeId) : Tri (W.alloc (.cells #[x, y, z] t)) (some ⟨g, 0, none⟩) [(x, y, z)] := by
  subst hg
  intro i a b c hi
  have hl := lt_of_get hi
  obtain rfl : i = 0 := by simp at hl; omega
  simp at hi
  obtain ⟨rfl, rfl, rfl⟩ := hi
  exact ⟨_, 0, rfl, by rw [new_cell]; rfl, by rw [new_cell]; rfl, by rw [new_cell]; rfl⟩
end Go.Proofs.Ytfpbiimjcdbaoaa
