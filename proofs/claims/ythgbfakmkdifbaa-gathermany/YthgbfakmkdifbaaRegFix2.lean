/-
  As RegFix; an operation may be a call too.
-/
import Derived.WalkKit
import Derived.Test.YthgbfakmkdifbaaRegFix
namespace Go.Proofs.Ythgbfakmkdifbaa
open Go.RowKit Go.BigFrame
section
variable {P : Program} {Q : Exit → Act → World → Prop}
theorem wp_runs {o : Oper} {a : Act} {w w' : World} {v : Value} {K : Act → World → Prop} (h : (execOp a.eval o).run P w = .ok (.value v) w') (k : K (a.put o.dst v) w') : o.wp P a w K Q := by
  unfold Oper.wp
  rw [h]
  exact k
theorem wp_region_fixed2 {id : Nat} {a : Act} {w : World} {l : List Oper} (n : Nat) (hm : P.follows .mixedOrders = true)
    (hB : (decide (n < l.length) && Region.sinkB .any l.toArray n && Region.chainB .any l.toArray n && upB l.toArray && Region.seqB .any l.toArray (l.length - n) n (listN n (l.length - n))) = true)
    (dst : Nat → Tmp) (val : Nat → Value) (Wd : (Nat → Bool) → World)
    (hdst : dstB l dst n = true) (hd : ∀ i j, i < n → j < n → dst i = dst j → i = j) (hs : ∀ i, i < n → dst i < a.tmps.size)
    (h0 : Wd (fun _ => false) = w.drew)
    (hstep : ∀ L i a', i < n → L i = false → (∀ d, depB l.toArray i d = true → L d = true) → (∀ j d, j < n → L j = true → depB l.toArray j d = true → L d = true) → Agree n dst val L a a' → ∃ o, l.toArray[i]? = some o ∧ ∀ K : Act → World → Prop, K (a'.put o.dst (val i)) (Wd (updB L i)) → o.wp P a' (Wd L) K Q)
    (hend : ∀ L, (∀ i, i < n → L i = true) → wpList P l.toArray Q (l.drop n) (putAll dst val a n) (Wd L)) : (Code.region id l.toArray true).wp P Q a w := by
  simp only [Bool.and_eq_true, decide_eq_true_eq] at hB
  obtain ⟨⟨⟨⟨hn, hsk⟩, hc⟩, hu⟩, hseq⟩ := hB
  have hdl : (l.drop n).length = l.length - n := by simp
  have inv : HeadInv .any l.toArray n (Array.replicate l.toArray.size false) :=
    ⟨by simp, fun j oj _ hl => (by rw [getD_replicate_false] at hl; cases hl), fun t _ ht => getD_in (by simpa using ht) (getD_replicate_false _ _)⟩
  refine wp_region_any hm ?_
  have e0 : (fun j => (Array.replicate l.toArray.size false).getD j false) = fun _ => false := by funext j; exact getD_replicate_false _ _
  have K := any_of_inv (P := P) (Q := Q) (md := .any) (ops := l.toArray) (n := n) (g := l.length - n) (by simp; omega) hsk hc (by simpa using hn) hu (fun L a' w' => (Agree n dst val L a a' ∧ ∀ j d, j < n → L j = true → depB l.toArray j d = true → L d = true) ∧ w' = Wd L)
    (fun L a' w' i o hi ho hLi hde hI => by
      obtain ⟨⟨hA, hcl⟩, rfl⟩ := hI
      obtain ⟨h1, h2⟩ := dstB_of hdst hi ho
      refine wpOp_of ho h2 ?_
      obtain ⟨o', ho', hrun⟩ := hstep L i a' hi hLi (depB_of ho hde) hcl hA
      rw [ho] at ho'
      cases ho'
      refine hrun _ ?_
      show (Agree _ _ _ _ _ (a'.put o.dst (val i)) ∧ _) ∧ _
      rw [h1]
      refine ⟨⟨hA.put hi (fun j hj q => hd j i hj hi q) (hs i hi), fun j d hj hl hdd => ?_⟩, rfl⟩
      have hLd : L d = true := by
        unfold updB at hl
        by_cases e : j = i
        · subst e
          exact depB_of ho hde d hdd
        · rw [if_neg e] at hl
          exact hcl j d hj hl hdd
      unfold updB
      split
      · rfl
      · exact hLd)
    (fun a' w' hI => by
      obtain ⟨⟨hA, _⟩, rfl⟩ := hI
      have hall : ∀ i, i < n → (fun j => (listN n (l.length - n)).getD j false) i = true := fun i hi => by simp [listN, hi, Array.getD_eq_getD_getElem?, List.getElem?_append]
      have ea : a' = putAll dst val a n := agree_one hA (putAll_agree hd hs n (Nat.le_refl _)) hall fun i hi => by simp [hi]
      subst ea
      have := wpAny_of_seq (md := .any) (Q' := Q) (l.drop n) n (listN n (l.length - n)) _ _ (fun j => by simp [List.getElem?_drop]) (by rw [hdl]; exact hseq) (hend _ hall)
      rwa [hdl] at this)
    n _ a w.drew inv (by rw [e0]; exact cntB_none n) (by rw [e0]; exact ⟨⟨⟨rfl, rfl, fun j _ hl => (by cases hl), fun _ _ => rfl⟩, fun j d _ hl _ => (by cases hl)⟩, h0.symm⟩)
  rw [show n + (l.length - n) = l.toArray.size by simp; omega] at K
  exact K
end
end Go.Proofs.Ythgbfakmkdifbaa
