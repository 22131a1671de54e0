/-
  RegInv and RegFix3 inside a fence: a region whose order is drawn; the first n operations keep an invariant in whatever order they come, each value told by a parameter; what is behind them comes in one order alone.
-/
import Derived.WalkKit
import Derived.OrdersIn
import Derived.OwnWalkIn
import Derived.RangeFuncCalls
import Derived.Test.YthgbfakmkdifbaaRegFix3
namespace Go.Proofs.Ythgbfakmkdifbaa
open Go.RowKit Go.BigFrame Go.Deep
section
variable {F : Fence} {m : Nat} {P : Program} {ops : Array Oper} {md : Region.Mode} {Q : Exit → Act → World → Prop} {β : Type}
theorem any_of_invIn {n g : Nat} (hg : n + g = ops.size) (hs : Region.sinkB md ops n = true) (hc : Region.chainB md ops n = true) (hn : n < ops.size) (hu : upB ops = true)
    (I : (Nat → Bool) → Act → World → Prop)
    (hstep : ∀ (L : Nat → Bool) a w i o, i < n → ops[i]? = some o → L i = false → (∀ e ∈ o.after, Region.binds md e = true → L e.on = true) → I L a w → wpOpIn F m P ops Q i (I (updB L i)) a w)
    (hend : ∀ a w, I (fun j => (listN n g).getD j false) a w → wpAnyIn F m P md ops Q g (listN n g) a w) :
    ∀ (f : Nat) (listed : Array Bool) (a : Act) (w : World), HeadInv md ops n listed → cntB n (fun j => listed.getD j false) = f → I (fun j => listed.getD j false) a w → wpAnyIn F m P md ops Q (f + g) listed a w
  | 0, listed, a, w, inv, hf, hI => by
    have e : listed = listN n g := by
      apply Array.ext
      · rw [inv.size, ← hg]; simp [listN]
      · intro i h1 h2
        have hb := cntB_zero n hf
        by_cases hi : i < n
        · have := hb i hi
          simp only [Array.getD_eq_getD_getElem?, Array.getElem?_eq_getElem h1, Option.getD_some] at this
          rw [this]
          simp [listN, hi]
        · have := inv.tail i (by omega) (by rw [← inv.size]; exact h1)
          simp only [Array.getD_eq_getD_getElem?, Array.getElem?_eq_getElem h1, Option.getD_some] at this
          rw [this]
          simp [listN, hi, List.getElem_append]
    subst e
    rw [Nat.zero_add]
    exact hend a w hI
  | f + 1, listed, a, w, inv, hf, hI => by
    rw [show f + 1 + g = f + g + 1 by omega]
    obtain ⟨i0, hi0, hl0⟩ := cntB_pos (L := fun j => listed.getD j false) n (by omega)
    have hun : listed.getD i0 true = false := by
      have h1 : i0 < listed.size := by rw [inv.size]; omega
      simp only [Array.getD_eq_getD_getElem?, Array.getElem?_eq_getElem h1, Option.getD_some] at hl0 ⊢
      exact hl0
    constructor
    · intro he
      obtain ⟨j, hj, h1, h2⟩ := least_no (L := fun j => listed.getD j false) i0 hl0
      have hjs : j < ops.size := by omega
      have hmem : j ∈ Region.ready md ops listed := by
        refine mem_ready.2 ⟨?_, ops[j], by simp [hjs], fun e hee _ => h2 _ (upB_of hu (o := ops[j]) (by simp [hjs]) e hee)⟩
        have h3 : j < listed.size := by rw [inv.size]; omega
        simp only [Array.getD_eq_getD_getElem?, Array.getElem?_eq_getElem h3, Option.getD_some] at h1 ⊢
        exact h1
      rw [he] at hmem
      cases hmem
    · intro i hi
      have hin : i < n := Nat.lt_of_not_le fun hge => tail_waits hs hc hn inv _ i0 rfl hi0 hun i hge hi
      obtain ⟨hi1, o, ho, hd⟩ := mem_ready.1 hi
      have hsz : i < listed.size := by rw [inv.size]; omega
      have hLi : (fun j => listed.getD j false) i = false := by
        simp only [Array.getD_eq_getD_getElem?, Array.getElem?_eq_getElem hsz, Option.getD_some] at hi1 ⊢
        exact hi1
      refine wpOpIn_mono (fun a' w' hI' => ?_) (hstep _ a w i o hin ho hLi hd hI)
      refine any_of_invIn hg hs hc hn hu I hstep hend f (listed.setIfInBounds i true) a' w' (inv.set hi hin) ?_ ?_
      · rw [getD_upd hsz]
        have := cntB_upd (L := fun j => listed.getD j false) hLi n hin
        omega
      · rw [getD_upd hsz]; exact hI'
theorem wpAnyIn_of_seq : ∀ (l : List Oper) (k : Nat) (listed : Array Bool) (a : Act) (w : World), (∀ j, l[j]? = ops[k + j]?) →
    Region.seqB md ops l.length k listed = true → wpListIn F m P ops Q l a w → wpAnyIn F m P md ops Q l.length listed a w
  | [], _, _, _, _, _, hB, h => ⟨by simpa [Region.seqB] using hB, h⟩
  | o :: l, k, listed, a, w, hl, hB, h => by
    have h0 : ops[k]? = some o := by simpa using (hl 0).symm
    simp only [List.length_cons, Region.seqB, Bool.and_eq_true, decide_eq_true_eq] at hB
    refine ⟨fun h1 => (by rw [hB.1] at h1; cases h1), fun i hi => ?_⟩
    rw [hB.1] at hi
    have hik : i = k := by simpa using hi
    subst hik
    have hw : wpOpIn F m P ops Q i (wpListIn F m P ops Q l) a w := by unfold wpOpIn; simp only [h0]; exact h
    exact wpOpIn_mono (fun a' w' h' => wpAnyIn_of_seq l (i + 1) _ a' w' (fun j => by have := hl (j + 1); simpa [Nat.add_assoc, Nat.add_comm 1 j] using this) hB.2 h') hw
theorem wpOpIn_wanted {i : Nat} {o : Oper} {a : Act} {w : World} {K : Act → World → Prop} (ho : ops[i]? = some o) (hw : Region.wanted o (yielded ops a.tmps) = true) (h : o.wpIn F m P a w K Q) : wpOpIn F m P ops Q i K a w := by
  unfold wpOpIn
  simp only [ho]
  rw [if_pos hw]
  exact h
theorem wpIn_region_fixed3 {id : Nat} {a : Act} {w : World} {l : List Oper} (n : Nat) (hm : P.follows .mixedOrders = true)
    (hB : (decide (n < l.length) && Region.sinkB .any l.toArray n && Region.chainB .any l.toArray n && upB l.toArray && Region.seqB .any l.toArray (l.length - n) n (listN n (l.length - n))) = true)
    (dst : Nat → Tmp) (val : β → Nat → Value) (J : β → (Nat → Bool) → World → Prop)
    (hdst : dstG l dst n = true) (hgd : guardsIn l n [] = true) (hd : ∀ i j, i < n → j < n → dst i = dst j → i = j) (hs : ∀ i, i < n → dst i < a.tmps.size)
    (p0 : β) (h0 : J p0 (fun _ => false) w.drew)
    (hstep : ∀ p L i a' w', i < n → L i = false → (∀ d, depB l.toArray i d = true → L d = true) → (∀ j d, j < n → L j = true → depB l.toArray j d = true → L d = true) → Agree n dst (val p) L a a' → J p L w' →
      ∃ o, l.toArray[i]? = some o ∧ ∀ K : Act → World → Prop, (∀ p' w'', (∀ j, j < n → L j = true → val p' j = val p j) → J p' (updB L i) w'' → K (a'.put o.dst (val p' i)) w'') → o.wpIn F m P a' w' K Q)
    (hend : ∀ p L w', (∀ i, i < n → L i = true) → J p L w' → wpListIn F m P l.toArray Q (l.drop n) (putAll dst (val p) a n) w') : (Code.region id l.toArray true).wpIn F m P Q a w := by
  simp only [Bool.and_eq_true, decide_eq_true_eq] at hB
  obtain ⟨⟨⟨⟨hn, hsk⟩, hc⟩, hu⟩, hseq⟩ := hB
  have hdl : (l.drop n).length = l.length - n := by simp
  have inv : HeadInv .any l.toArray n (Array.replicate l.toArray.size false) :=
    ⟨by simp, fun j oj _ hl => (by rw [getD_replicate_false] at hl; cases hl), fun t _ ht => getD_in (by simpa using ht) (getD_replicate_false _ _)⟩
  refine wpIn_region_any hm ?_
  have e0 : (fun j => (Array.replicate l.toArray.size false).getD j false) = fun _ => false := by funext j; exact getD_replicate_false _ _
  have K := any_of_invIn (F := F) (m := m) (P := P) (Q := Q) (md := .any) (ops := l.toArray) (n := n) (g := l.length - n) (by simp; omega) hsk hc (by simpa using hn) hu (fun L a' w' => ∃ p, (Agree n dst (val p) L a a' ∧ ∀ j d, j < n → L j = true → depB l.toArray j d = true → L d = true) ∧ J p L w')
    (fun L a' w' i o hi ho hLi hde hI => by
      obtain ⟨p, ⟨hA, hcl⟩, hJ⟩ := hI
      have h1 := dstG_of hdst hi ho
      have hdp := depB_of ho hde
      have hw : Region.wanted o (yielded l.toArray a'.tmps) = true := by
        cases hg : o.guard with
        | none => simp [Region.wanted, hg]
        | some gb =>
          have := guardsIn_of (g := gb.1) (b := gb.2) hgd hi ho hg
          cases this
      refine wpOpIn_wanted ho hw ?_
      obtain ⟨o', ho', hrun⟩ := hstep p L i a' w' hi hLi hdp hcl hA hJ
      rw [ho] at ho'
      cases ho'
      refine hrun _ fun p' w'' hp hJ' => ?_
      refine ⟨p', ?_, hJ'⟩
      have hA' : Agree n dst (val p') L a a' := ⟨hA.size, hA.defers, fun j hj hl => by rw [hp j hj hl]; exact hA.got j hj hl, hA.old⟩
      rw [h1]
      refine ⟨hA'.put hi (fun j hj q => hd j i hj hi q) (hs i hi), fun j d hj hl hdd => ?_⟩
      have hLd : L d = true := by
        unfold updB at hl
        by_cases e : j = i
        · subst e
          exact hdp d hdd
        · rw [if_neg e] at hl
          exact hcl j d hj hl hdd
      unfold updB
      split
      · rfl
      · exact hLd)
    (fun a' w' hI => by
      obtain ⟨p, ⟨hA, _⟩, hJ⟩ := hI
      have hall : ∀ i, i < n → (fun j => (listN n (l.length - n)).getD j false) i = true := fun i hi => by simp [listN, hi, Array.getD_eq_getD_getElem?, List.getElem?_append]
      have ea : a' = putAll dst (val p) a n := agree_one hA (putAll_agree hd hs n (Nat.le_refl _)) hall fun i hi => by simp [hi]
      subst ea
      have := wpAnyIn_of_seq (F := F) (m := m) (P := P) (md := .any) (Q := Q) (l.drop n) n (listN n (l.length - n)) _ _ (fun j => by simp [List.getElem?_drop]) (by rw [hdl]; exact hseq) (hend p _ w' hall hJ)
      rwa [hdl] at this)
    n _ a w.drew inv (by rw [e0]; exact cntB_none n) (by rw [e0]; exact ⟨p0, ⟨⟨rfl, rfl, fun j _ hl => (by cases hl), fun _ _ => rfl⟩, fun j d _ hl _ => (by cases hl)⟩, h0⟩)
  rw [show n + (l.length - n) = l.toArray.size by simp; omega] at K
  exact K
theorem wpIn_runs {o : Oper} {a : Act} {w w' : World} {v : Value} {K : Act → World → Prop} (hc : ∀ c, o.op ≠ .call c) (hf : ∀ c, o.op ≠ .defer c) (h : (execOp a.eval o).run P w = .ok (.value v) w') (k : K (a.put o.dst v) w') : o.wpIn F m P a w K Q := by
  unfold Oper.wpIn
  refine ⟨fun f hf' => ?_, ?_⟩
  · unfold Oper.about at hf'
    split at hf'
    · next c e => exact absurd e (hc c)
    · cases hf'
  · rw [Oper.semAt_plain F _ _ hf, h]
    exact k
theorem wpIn_callsV {o : Oper} {a : Act} {w : World} {K : Act → World → Prop} (f : FuncId) {fn : Func} (hfn : P.funcs[f]? = some fn) (hnm : (fn.name == "runtime.NumGoroutine") = false) (hbd : fn.body.isNone = false) (args : List Operand) (ts : Array TypeId)
    (ho : o.op = .call { callee := .value (.func f), args := args.toArray, argTypes := ts }) (vals : List Value) (hv : args.map a.eval = vals) (R : Value → World → Prop) (hF : F.fn f) (h1 : 1 ≤ m) (hc : CallsIn F (m - 1) P f vals.toArray w fun e w' => ∃ v, e = .returned v ∧ R v w')
    (h : ∀ v w', R v w' → K (a.put o.dst v) w') : o.wpIn F m P a w K Q := by
  have hx : (execOp a.eval o).run P w = .ok (.enter f vals.toArray) w := by
    subst hv
    simp only [beq_eq_false_iff_ne] at hnm
    simp only [Option.isNone_eq_false_iff] at hbd
    obtain ⟨b, hb⟩ := Option.isSome_iff_exists.1 hbd
    simp [execOp, ho, resolve, invoke, Act.eval, Deferred.ofValue, callFunc, hfn, hnm, hb]
  unfold Oper.wpIn
  refine ⟨fun g hg => ?_, ?_⟩
  · subst hv
    simp [Oper.about, ho, resolve, Act.eval, Deferred.ofValue, Target.leads] at hg
    subst hg
    exact hF
  · rw [Oper.semAt_plain F _ _ (by rw [ho]; intro c hc'; cases hc'), hx, Oper.uponIn_enter]
    refine ⟨fun _ => h1, hc.mono fun e w' hh => ?_⟩
    obtain ⟨v, he, hr⟩ := hh
    rw [he]
    exact h v w' hr
end
end Go.Proofs.Ythgbfakmkdifbaa
