/-
  A region that draws its order, where every value and every world is the same in every order: each operation's run, told once.
-/
import Derived.WalkKit
import Derived.Test.YthgbfakmkdifbaaRegInv
import Derived.Test.YthgbfakmkdifbaaMidQuiet
namespace Go.Proofs.Ythgbfakmkdifbaa
open Go.RowKit Go.BigFrame
section
variable {P : Program} {Q : Exit → Act → World → Prop}
/-- the frame of a, with what the operations that are listed have yielded -/
structure Agree (n : Nat) (dst : Nat → Tmp) (val : Nat → Value) (L : Nat → Bool) (a a' : Act) : Prop where
  size : a'.tmps.size = a.tmps.size
  defers : a'.defers = a.defers
  got : ∀ j, j < n → L j = true → a'.tmps[dst j]? = some (val j)
  old : ∀ s, (∀ j, j < n → dst j ≠ s) → a'.tmps[s]? = a.tmps[s]?
theorem Agree.put {n : Nat} {dst : Nat → Tmp} {val : Nat → Value} {L : Nat → Bool} {a a' : Act} (h : Agree n dst val L a a') {i : Nat} (hi : i < n) (hd : ∀ j, j < n → dst j = dst i → j = i) (hs : dst i < a.tmps.size) : Agree n dst val (updB L i) a (a'.put (some (dst i)) (val i)) := by
  have ht : (a'.put (some (dst i)) (val i)).tmps = a'.tmps.setIfInBounds (dst i) (val i) := rfl
  refine ⟨by rw [ht, Array.size_setIfInBounds]; exact h.size, h.defers, fun j hj hl => ?_, fun s hn => ?_⟩
  · rw [ht, Array.getElem?_setIfInBounds]
    by_cases e : j = i
    · subst e
      rw [if_pos rfl, if_pos (by rw [h.size]; exact hs)]
    · rw [if_neg (fun q => e (hd j hj q.symm))]
      refine h.got j hj ?_
      unfold updB at hl
      rw [if_neg e] at hl
      exact hl
  · rw [ht, Array.getElem?_setIfInBounds, if_neg (fun q => hn i hi q)]
    exact h.old s hn
theorem Agree.eval {n : Nat} {dst : Nat → Tmp} {val : Nat → Value} {L : Nat → Bool} {a a' : Act} (h : Agree n dst val L a a') (t : Tmp) (ht : ∀ j, j < n → dst j ≠ t) : a'.eval (.tmp t) = a.eval (.tmp t) := by
  have := h.old t ht
  simp only [Act.eval, Array.getD_eq_getD_getElem?, this]
theorem Agree.at {n : Nat} {dst : Nat → Tmp} {val : Nat → Value} {L : Nat → Bool} {a a' : Act} (h : Agree n dst val L a a') (j : Nat) (hj : j < n) (hl : L j = true) : a'.eval (.tmp (dst j)) = val j := by
  have := h.got j hj hl
  simp only [Act.eval, Array.getD_eq_getD_getElem?, this, Option.getD_some]
/-- all of them put, in the text's order -/
def putAll (dst : Nat → Tmp) (val : Nat → Value) (a : Act) : Nat → Act
  | 0 => a
  | n + 1 => (putAll dst val a n).put (some (dst n)) (val n)
theorem putAll_agree {n : Nat} {dst : Nat → Tmp} {val : Nat → Value} {a : Act} (hd : ∀ i j, i < n → j < n → dst i = dst j → i = j) (hs : ∀ i, i < n → dst i < a.tmps.size) : ∀ m, m ≤ n → Agree n dst val (fun j => decide (j < m)) a (putAll dst val a m)
  | 0, _ => ⟨rfl, rfl, fun j _ hl => by simp at hl, fun _ _ => rfl⟩
  | m + 1, hm => by
    have ih : Agree n dst val (fun j => decide (j < m)) a (putAll dst val a m) := putAll_agree hd hs m (by omega)
    have h := ih.put (i := m) (by omega) (fun j hj q => hd j m hj (by omega) q) (hs m (by omega))
    have e : updB (fun j => decide (j < m)) m = fun j => decide (j < m + 1) := by
      funext j
      unfold updB
      by_cases q : j = m
      · subst q; simp
      · rw [if_neg q]
        by_cases c : j < m
        · show decide (j < m) = _
          rw [decide_eq_true c, decide_eq_true (by omega)]
        · show decide (j < m) = _
          rw [decide_eq_false c, decide_eq_false (by omega)]
    rw [e] at h
    exact h
theorem agree_one {n : Nat} {dst : Nat → Tmp} {val : Nat → Value} {L L' : Nat → Bool} {a a' a'' : Act} (h : Agree n dst val L a a') (k : Agree n dst val L' a a'') (hL : ∀ i, i < n → L i = true) (hL' : ∀ i, i < n → L' i = true) : a' = a'' := by
  have ht : a'.tmps = a''.tmps := by
    apply Array.ext_getElem?
    intro s
    by_cases c : ∃ j, j < n ∧ dst j = s
    · obtain ⟨j, hj, rfl⟩ := c
      rw [h.got j hj (hL j hj), k.got j hj (hL' j hj)]
    · have hn : ∀ j, j < n → dst j ≠ s := fun j hj q => c ⟨j, hj, q⟩
      rw [h.old s hn, k.old s hn]
  obtain ⟨t1, d1⟩ := a'
  obtain ⟨t2, d2⟩ := a''
  have hd := h.defers.trans k.defers.symm
  simp only at ht hd
  rw [ht, hd]
/-- each operation's slot, no guard -/
def dstB (l : List Oper) (dst : Nat → Tmp) (n : Nat) : Bool := (List.range n).all fun i => match l.toArray[i]? with | some o => o.dst == some (dst i) && o.guard.isNone | none => false
theorem dstB_of {l : List Oper} {dst : Nat → Tmp} {n : Nat} (h : dstB l dst n = true) {i : Nat} {o : Oper} (hi : i < n) (ho : l.toArray[i]? = some o) : o.dst = some (dst i) ∧ o.guard = none := by
  have h1 := (List.all_eq_true.1 h) i (List.mem_range.2 hi)
  simp only [ho, Bool.and_eq_true, beq_iff_eq, Option.isNone_iff_eq_none] at h1
  exact h1
theorem wp_region_fixed {id : Nat} {a : Act} {w : World} {l : List Oper} (n : Nat) (hm : P.follows .mixedOrders = true)
    (hB : (decide (n < l.length) && Region.sinkB .any l.toArray n && Region.chainB .any l.toArray n && upB l.toArray && Region.seqB .any l.toArray (l.length - n) n (listN n (l.length - n))) = true)
    (dst : Nat → Tmp) (val : Nat → Value) (Wd : (Nat → Bool) → World)
    (hdst : dstB l dst n = true) (hd : ∀ i j, i < n → j < n → dst i = dst j → i = j) (hs : ∀ i, i < n → dst i < a.tmps.size)
    (h0 : Wd (fun _ => false) = w.drew)
    (hstep : ∀ L i a', i < n → L i = false → (∀ d, depB l.toArray i d = true → L d = true) → (∀ j d, j < n → L j = true → depB l.toArray j d = true → L d = true) → Agree n dst val L a a' → ∃ o, l.toArray[i]? = some o ∧ (execOp a'.eval o).run P (Wd L) = .ok (.value (val i)) (Wd (updB L i)))
    (hend : ∀ L, (∀ i, i < n → L i = true) → wpList P l.toArray Q (l.drop n) (putAll dst val a n) (Wd L)) : (Code.region id l.toArray true).wp P Q a w := by
  simp only [Bool.and_eq_true, decide_eq_true_eq] at hB
  obtain ⟨⟨⟨⟨hn, hsk⟩, hc⟩, hu⟩, hseq⟩ := hB
  have hdl : (l.drop n).length = l.length - n := by simp
  have inv : HeadInv .any l.toArray n (Array.replicate l.toArray.size false) :=
    ⟨by simp, fun j oj _ hl => (by rw [getD_replicate_false] at hl; cases hl), fun t _ ht => getD_in (by simpa using ht) (getD_replicate_false _ _)⟩
  refine wp_region_any hm ?_
  have e0 : (fun j => (Array.replicate l.toArray.size false).getD j false) = fun _ => false := by funext j; exact getD_replicate_false _ _
  have K := any_of_inv (P := P) (Q := Q) (md := .any) (ops := l.toArray) (n := n) (g := l.length - n) (by simp; omega) hsk hc (by simpa using hn) hu (fun L a' w' => (Agree n dst val L a a' ∧ ∀ j d, j < n → L j = true → depB l.toArray j d = true → L d = true) ∧ w' = Wd L)
    (fun L a' w' i o hi ho hLi hde hI => by
      obtain ⟨⟨hA, hcl⟩, rfl⟩ := hI
      obtain ⟨h1, h2⟩ := dstB_of hdst hi ho
      refine wpOp_of ho h2 ?_
      unfold Oper.wp
      obtain ⟨o', ho', hrun⟩ := hstep L i a' hi hLi (depB_of ho hde) hcl hA
      rw [ho] at ho'
      cases ho'
      rw [hrun]
      show (Agree _ _ _ _ _ (a'.put o.dst (val i)) ∧ _) ∧ _
      rw [h1]
      refine ⟨⟨hA.put hi (fun j hj q => hd j i hj hi q) (hs i hi), fun j d hj hl hdd => ?_⟩, rfl⟩
      have hLd : L d = true := by
        unfold updB at hl
        by_cases e : j = i
        · subst e
          exact depB_of ho hde d hdd
        · rw [if_neg e] at hl
          exact hcl j d hj hl hdd
      unfold updB
      split
      · rfl
      · exact hLd)
    (fun a' w' hI => by
      obtain ⟨⟨hA, _⟩, rfl⟩ := hI
      have hall : ∀ i, i < n → (fun j => (listN n (l.length - n)).getD j false) i = true := fun i hi => by simp [listN, hi, Array.getD_eq_getD_getElem?, List.getElem?_append]
      have ea : a' = putAll dst val a n := agree_one hA (putAll_agree hd hs n (Nat.le_refl _)) hall fun i hi => by simp [hi]
      subst ea
      have := wpAny_of_seq (md := .any) (Q' := Q) (l.drop n) n (listN n (l.length - n)) _ _ (fun j => by simp [List.getElem?_drop]) (by rw [hdl]; exact hseq) (hend _ hall)
      rwa [hdl] at this)
    n _ a w.drew inv (by rw [e0]; exact cntB_none n) (by rw [e0]; exact ⟨⟨⟨rfl, rfl, fun j _ hl => (by cases hl), fun _ _ => rfl⟩, fun j d _ hl _ => (by cases hl)⟩, h0.symm⟩)
  rw [show n + (l.length - n) = l.toArray.size by simp; omega] at K
  exact K
end
end Go.Proofs.Ythgbfakmkdifbaa
