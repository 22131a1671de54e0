/-
  Slices of pairs that a call makes by append: what they own, cell by cell.
-/
import Derived.WalkKit
import Derived.Deep.AppendLies
import Derived.Test.YthgbfakmkdifbaaMm
import Derived.Test.YthgbfakmkdifbaaSpanMem
namespace Go.Proofs.Ythgbfakmkdifbaa
open Go.RowKit Go.Deep
/-- pairs, as values, one behind the other -/
def fl : List (Int × Int) → List Value
  | [] => []
  | r :: l => .int .i64 r.1 :: .int .i64 r.2 :: fl l
theorem fl_length (D : List (Int × Int)) : (fl D).length = D.length * 2 := by
  induction D with
  | nil => rfl
  | cons r l ih => simp [fl, ih]; omega
theorem fl_append (D E : List (Int × Int)) : fl (D ++ E) = fl D ++ fl E := by
  induction D with
  | nil => rfl
  | cons r l ih => simp [fl, ih]
theorem fl_get {D : List (Int × Int)} {i : Nat} {x y : Int} (h : D[i]? = some (x, y)) : (fl D)[i * 2]? = some (.int .i64 x) ∧ (fl D)[i * 2 + 1]? = some (.int .i64 y) := by
  induction D generalizing i with
  | nil => simp at h
  | cons r l ih =>
    cases i with
    | zero =>
      simp at h
      subst h
      exact ⟨rfl, rfl⟩
    | succ j =>
      have h' : l[j]? = some (x, y) := by simpa using h
      have := ih h'
      rw [show (j + 1) * 2 = j * 2 + 1 + 1 by omega]
      simpa [fl] using this
theorem lt_of_get {α : Type} {D : List α} {i : Nat} {r : α} (h : D[i]? = some r) : i < D.length := by
  rcases Nat.lt_or_ge i D.length with q | q
  · exact q
  · rw [List.getElem?_eq_none q] at h; cases h
theorem own_rngs {w : World} {base : Nat} {e : TypeId} {v : Value} {n : Nat} {D : List (Int × Int)} (h : w.ownsRow base e 2 v n (fl D)) : D.length = n ∧ ∃ a c, v = .slice a n c ∧ Rngs w a D := by
  have h0 := h
  obtain ⟨h1, h2⟩ := h
  rw [fl_length] at h1
  have hn : D.length = n := by omega
  refine ⟨hn, ?_⟩
  rcases h2 with ⟨rfl, rfl⟩ | ⟨g, cap, cur, rfl, hg, r⟩
  · exact ⟨none, 0, rfl, fun i x y hi => by have := lt_of_get hi; omega⟩
  · refine ⟨_, _, rfl, fun i x y hi => ⟨g, 0, rfl, ?_, ?_⟩⟩
    · have := lt_of_get hi
      rw [Nat.zero_add, h0.cellAt _ (by omega)]
      exact (fl_get hi).1
    · have := lt_of_get hi
      rw [Nat.zero_add, h0.cellAt _ (by omega)]
      exact (fl_get hi).2
/-- some elements more, by append: they were laid in a block of their own first -/
theorem append_prs {P : Program} (w : World) {ops : Array Oper} {rest : List Oper} {o : Oper} {a : Act} {Q : Exit → Act → World → Prop} (hgd : o.guard = none) (s x : Operand) (t : TypeId)
    (ho : o.op = .call { callee := .builtin .append, args := #[s, x], argTypes := #[t, t] }) (base : Nat) (e : TypeId) (z : Value) (bytes : Nat) (ht : P.underlying t = some (.slice e))
    (hinfo : (P.info? e).map (fun i => (i.zero, i.size, i.bytes)) = some (some z, 2, bytes)) (hzs : z.cells.size = 2) (v : Value) (n : Nat) (D : List (Int × Int)) (hs : a.eval s = v) (hown : w.ownsRow base e 2 v n (fl D))
    (g m c : Nat) (E : List (Int × Int)) (hm : E.length = m) (hx : a.eval x = .slice (some ⟨g, 0, none⟩) m c) (hnews : ∀ j u, (fl E)[j]? = some u → w.cell? ⟨g, j, none⟩ = some u) (hb : bytes ≤ 64) (hn : n ≤ 1048576) (hm2 : m ≤ 1048576) (hbase : base ≤ w.heap.size)
    (h : ∀ v' w', w'.ownsRow base e 2 v' (n + m) (fl (D ++ E)) → w.grownBy w' v.ownBlock → wpList P ops Q rest (a.put o.dst v') w') : wpList P ops Q (o :: rest) a w := by
  obtain ⟨i0, hi, hz0, hz1, hz2⟩ := info_parts hinfo
  refine wpList_append_own w hgd s x t ho base e i0 z 2 bytes ht hi hz0 hz1 hz2 hzs (by decide) v n (fl D) hs hown ⟨g, 0, none⟩ m c (fl E) hx (by rw [fl_length, hm]) ?_ ?_ ?_ ?_ hbase ?_
  · intro j u hj
    have e : (⟨g, 0, none⟩ : Addr).add j = ⟨g, j, none⟩ := by simp [Addr.add]; exact Eq.symm
    rw [e]
    exact hnews j u hj
  · intro u hu
    obtain ⟨j, hj⟩ := List.getElem?_of_mem hu
    clear hnews hx hm h
    induction E generalizing j with
    | nil => simp [fl] at hu
    | cons r l ih =>
      simp only [fl, List.mem_cons] at hu
      rcases hu with rfl | rfl | hu
      · rfl
      · rfl
      · obtain ⟨k, hk⟩ := List.getElem?_of_mem hu
        exact ih hu k hk
  · unfold maxLen; omega
  · have : (n + m) * bytes ≤ (n + m) * 64 := Nat.mul_le_mul_left _ hb
    omega
  · exact fun v' w' h1 h2 _ => h v' w' (by rw [fl_append]; exact h1) h2
end Go.Proofs.Ythgbfakmkdifbaa
