/-
  Slices that a call makes by append, told by where they lie; elements that are moved up by one, inside such a slice.
-/
import Derived.WalkKit
import Derived.Laws.CopyOwn
import Derived.Deep.AppendLies
import Derived.Test.YthgbfakmkdifbaaMm
import Derived.Test.YthgbfakmkdifbaaByb
namespace Go.Proofs.Ythgbfakmkdifbaa
open Go.RowKit Go.Deep
def IV (z : Int) : Value := .int .i64 z
/-- one element more, by append; and where it lies then -/
theorem append_one_lies {P : Program} (w1 : World) {ops : Array Oper} {rest : List Oper} {o : Oper} {a : Act} {Q : Exit → Act → World → Prop} (hgd : o.guard = none) (s x : Operand) (t : TypeId)
    (ho : o.op = .call { callee := .builtin .append, args := #[s, x], argTypes := #[t, t] }) (base : Nat) (e : TypeId) (z : Value) (bytes : Nat) (ht : P.underlying t = some (.slice e))
    (hinfo : (P.info? e).map (fun i => (i.zero, i.size, i.bytes)) = some (some z, 1, bytes)) (hzs : z.cells.size = 1) (v : Value) (n : Nat) (xs : List Value) (hs : a.eval s = v) (hown : w1.ownsRow base e 1 v n xs)
    (u : Value) (c : Nat) (hx : a.eval x = .slice (some ⟨w1.heap.size, 0, none⟩) 1 c) (hu : u.oneCell' = true) (hb : bytes ≤ 64) (hn : n ≤ 1099511627776) (hbase : base ≤ w1.heap.size)
    (h : ∀ g cap w', w'.ownsRow base e 1 (.slice (some ⟨g, 0, none⟩) (n + 1) cap) (n + 1) (xs ++ [u]) → (w1.alloc (.cells #[u] e)).grownBy w' v.ownBlock → (v.ownBlock = some g ∨ w1.heap.size < g) → n + 1 ≤ cap → wpList P ops Q rest (a.put o.dst (.slice (some ⟨g, 0, none⟩) (n + 1) cap)) w') : wpList P ops Q (o :: rest) a (w1.alloc (.cells #[u] e)) := by
  obtain ⟨i0, hi, hz0, hz1, hz2⟩ := info_parts hinfo
  refine wpList_append_lies (w1.alloc (.cells #[u] e)) hgd s x t ho base e i0 z 1 bytes ht hi hz0 hz1 hz2 hzs (by decide) v n xs hs (hown.alloc _) ⟨w1.heap.size, 0, none⟩ 1 c [u] hx rfl ?_ ?_ (by decide) ?_ ?_ ?_ _ rfl ?_
  · intro j y hj
    match j, hj with
    | 0, hj => cases hj; simp [Addr.add]
  · intro y hy; simp at hy; subst hy; exact hu
  · unfold maxLen; omega
  · have : (n + 1) * bytes ≤ (n + 1) * 64 := Nat.mul_le_mul_left _ hb
    omega
  · simp; omega
  · intro g cap w' h1 h2 h3 _
    refine h g cap w' h1 h2 ?_ ?_
    · rcases h3 with h3 | h3
      · exact Or.inl h3
      · rw [World.size_alloc] at h3
        exact Or.inr (by omega)
    · rcases h1.2 with ⟨h4, _⟩ | ⟨g', cap', cur, h4, _, _, h5, _⟩
      · cases h4
      · cases h4; exact h5
/-- copy(x[q+1:], x[q:]) -/
theorem copy_up {P : Program} {w : World} {ops : Array Oper} {rest : List Oper} {o : Oper} {a : Act} {Q : Exit → Act → World → Prop} (hgd : o.guard = none) (d s : Operand) (T : TypeId)
    (ho : o.op = .call { callee := .builtin .copy, args := #[d, s], argTypes := #[T, T] }) (e : TypeId) (hu : P.underlying T = some (.slice e)) (hsz : (P.info? e).map (·.size) = some 1)
    (base g N cap q : Nat) (xs : List Value) (hown : w.ownsRow base e 1 (.slice (some ⟨g, 0, none⟩) N cap) N xs) (hq : q < N) (h1 : ∀ v ∈ xs, v.oneCell' = true)
    (hd : a.eval d = .slice (subA (some ⟨g, 0, none⟩) cap (q + 1)) (N - (q + 1)) (cap - (q + 1))) (hs : a.eval s = .slice (subA (some ⟨g, 0, none⟩) cap q) (N - q) (cap - q))
    (h : ∀ w', w'.ownsRow base e 1 (.slice (some ⟨g, 0, none⟩) N cap) N (xs.take (q + 1) ++ (xs.drop q).take (N - (q + 1))) → w.grownBy w' (some g) → wpList P ops Q rest (a.put o.dst (goInt (N - (q + 1) : Nat))) w') : wpList P ops Q (o :: rest) a w := by
  have hl : xs.length = N := by have := hown.1; omega
  rcases hown.2 with ⟨h4, _⟩ | ⟨g', cap', cur, h4, hbg, hcur, hnc, hcm, hcs, htake⟩
  · cases h4
  cases h4
  rcases Nat.eq_zero_or_pos (N - (q + 1)) with e0 | h0
  · refine wpList_copy_nothing hgd d s T T ho e hu hsz _ _ _ _ _ _ hd hs (by rw [e0]; exact Nat.min_zero _) ?_
    have := h w (by rw [e0, List.take_zero, List.append_nil, List.take_of_length_le (by omega)]; exact hown) ⟨rfl, rfl, rfl, Nat.le_refl _, fun _ _ _ => rfl⟩
    rw [e0] at this
    exact this
  have hc1 : subA (some (⟨g, 0, none⟩ : Addr)) cap (q + 1) = some ⟨g, q + 1, none⟩ := by rw [subA_some (by omega), Nat.zero_add]
  have hc2 : subA (some (⟨g, 0, none⟩ : Addr)) cap q = some ⟨g, q, none⟩ := by rw [subA_some (by omega), Nat.zero_add]
  rw [hc1] at hd
  rw [hc2] at hs
  obtain ⟨cs, hcs0⟩ : ∃ cs, cs = (xs.drop q).take (N - (q + 1)) := ⟨_, rfl⟩
  have hcl : cs.length = N - (q + 1) := by rw [hcs0, List.length_take, List.length_drop]; omega
  have hx : cur.toList.take N = xs := by simpa using htake
  refine wpList_copy_own hgd d s T T ho e hu hsz g (q + 1) _ _ ⟨g, q, none⟩ _ _ hd hs cur e hcur cs ?_ ?_ ?_ ?_ ?_
  · rw [hcl]; exact (Nat.min_eq_right (by omega)).symm
  · intro j v hj
    have hjl : j < N - (q + 1) := by
      have := (List.getElem?_eq_some_iff.1 hj).1
      omega
    rw [hcs0, List.getElem?_take, if_pos hjl, List.getElem?_drop] at hj
    rw [show (⟨g, q, none⟩ : Addr).add j = ⟨g, q + j, none⟩ from by simp [Addr.add], hown.cellAt _ (by omega)]
    exact hj
  · rw [hcl]; omega
  · intro v hv
    rw [hcs0] at hv
    exact h1 v (List.mem_of_mem_drop (List.mem_of_mem_take hv))
  · rw [hcl]
    refine h _ ?_ ⟨rfl, rfl, rfl, by simp, fun k _ hk => setRow_other _ _ _ _ fun e => hk (by rw [e])⟩
    rw [← hcs0]
    have hA : cur.toList.take (q + 1) = xs.take (q + 1) := by rw [← hx, List.take_take, Nat.min_eq_left (by omega)]
    refine ⟨?_, Or.inr ⟨g, cap, _, rfl, hbg, setRow_heap w g cur _ e _ hcur, hnc, hcm, ?_, ?_⟩⟩
    · rw [List.length_append, List.length_take, hcl]; omega
    · have : cur.toList.length = cur.size := Array.length_toList
      simp only [List.size_toArray, List.length_append, List.length_take, List.length_drop, hcl]
      omega
    · rw [hA, ← List.append_assoc, Nat.mul_one]
      show List.take N ((xs.take (q + 1) ++ cs) ++ _) = _
      rw [List.take_left' (by rw [List.length_append, List.length_take, hcl]; omega)]
end Go.Proofs.Ythgbfakmkdifbaa
