/-
  As RegFix2; an operation may be guarded, its guard true; and values and worlds may hang on what operations came to ahead of them (a parameter p).
-/
import Derived.WalkKit
import Derived.Test.YthgbfakmkdifbaaRegFix2
namespace Go.Proofs.Ythgbfakmkdifbaa
open Go.RowKit Go.BigFrame
section
variable {P : Program} {Q : Exit → Act → World → Prop} {β : Type}
def dstG (l : List Oper) (dst : Nat → Tmp) (n : Nat) : Bool := (List.range n).all fun i => match l.toArray[i]? with | some o => o.dst == some (dst i) | none => false
theorem dstG_of {l : List Oper} {dst : Nat → Tmp} {n : Nat} (h : dstG l dst n = true) {i : Nat} {o : Oper} (hi : i < n) (ho : l.toArray[i]? = some o) : o.dst = some (dst i) := by
  have h1 := (List.all_eq_true.1 h) i (List.mem_range.2 hi)
  simp only [ho, beq_iff_eq] at h1
  exact h1
/-- a guard that is true where operation g told true: what operation i waits for has come -/
def guardG (l : List Oper) (n : Nat) : Bool := (List.range n).all fun i => match l.toArray[i]? with | some o => (match o.guard with | none => true | some (g, b) => b && decide (g < n) && depB l.toArray i g) | none => false
theorem wpOp_wanted {ops : Array Oper} {i : Nat} {o : Oper} {a : Act} {w : World} {K : Act → World → Prop} (ho : ops[i]? = some o) (hw : Region.wanted o (yielded ops a.tmps) = true) (h : o.wp P a w K Q) : wpOp P ops Q i K a w := by
  unfold wpOp
  simp only [ho]
  rw [if_pos hw]
  exact Or.inl h
def guardsIn (l : List Oper) (n : Nat) (gs : List Nat) : Bool := (List.range n).all fun i => match l.toArray[i]? with | some o => (match o.guard with | none => true | some (g, _) => gs.contains g) | none => true
theorem guardsIn_of {l : List Oper} {n : Nat} {gs : List Nat} (h : guardsIn l n gs = true) {i : Nat} {o : Oper} {g : Nat} {b : Bool} (hi : i < n) (ho : l.toArray[i]? = some o) (hg : o.guard = some (g, b)) : g ∈ gs := by
  have h1 := (List.all_eq_true.1 h) i (List.mem_range.2 hi)
  simp only [ho, hg] at h1
  simpa using h1
theorem wp_region_fixed3 {id : Nat} {a : Act} {w : World} {l : List Oper} (n : Nat) (hm : P.follows .mixedOrders = true)
    (hB : (decide (n < l.length) && Region.sinkB .any l.toArray n && Region.chainB .any l.toArray n && upB l.toArray && Region.seqB .any l.toArray (l.length - n) n (listN n (l.length - n))) = true)
    (dst : Nat → Tmp) (val : β → Nat → Value) (J : β → (Nat → Bool) → World → Prop)
    (hdst : dstG l dst n = true) (hgd : guardG l n = true) (gs : List Nat) (hgs : guardsIn l n gs = true) (hgv : ∀ p g, g ∈ gs → val p g = .bool true) (hd : ∀ i j, i < n → j < n → dst i = dst j → i = j) (hs : ∀ i, i < n → dst i < a.tmps.size)
    (p0 : β) (h0 : J p0 (fun _ => false) w.drew)
    (hstep : ∀ p L i a' w', i < n → L i = false → (∀ d, depB l.toArray i d = true → L d = true) → (∀ j d, j < n → L j = true → depB l.toArray j d = true → L d = true) → Agree n dst (val p) L a a' → J p L w' →
      ∃ o, l.toArray[i]? = some o ∧ ∀ K : Act → World → Prop, (∀ p' w'', (∀ j, j < n → L j = true → val p' j = val p j) → J p' (updB L i) w'' → K (a'.put o.dst (val p' i)) w'') → o.wp P a' w' K Q)
    (hend : ∀ p L w', (∀ i, i < n → L i = true) → J p L w' → wpList P l.toArray Q (l.drop n) (putAll dst (val p) a n) w') : (Code.region id l.toArray true).wp P Q a w := by
  simp only [Bool.and_eq_true, decide_eq_true_eq] at hB
  obtain ⟨⟨⟨⟨hn, hsk⟩, hc⟩, hu⟩, hseq⟩ := hB
  have hdl : (l.drop n).length = l.length - n := by simp
  have inv : HeadInv .any l.toArray n (Array.replicate l.toArray.size false) :=
    ⟨by simp, fun j oj _ hl => (by rw [getD_replicate_false] at hl; cases hl), fun t _ ht => getD_in (by simpa using ht) (getD_replicate_false _ _)⟩
  refine wp_region_any hm ?_
  have e0 : (fun j => (Array.replicate l.toArray.size false).getD j false) = fun _ => false := by funext j; exact getD_replicate_false _ _
  have K := any_of_inv (P := P) (Q := Q) (md := .any) (ops := l.toArray) (n := n) (g := l.length - n) (by simp; omega) hsk hc (by simpa using hn) hu (fun L a' w' => ∃ p, (Agree n dst (val p) L a a' ∧ ∀ j d, j < n → L j = true → depB l.toArray j d = true → L d = true) ∧ J p L w')
    (fun L a' w' i o hi ho hLi hde hI => by
      obtain ⟨p, ⟨hA, hcl⟩, hJ⟩ := hI
      have h1 := dstG_of hdst hi ho
      have hdp := depB_of ho hde
      have hw : Region.wanted o (yielded l.toArray a'.tmps) = true := by
        cases hg : o.guard with
        | none => simp [Region.wanted, hg]
        | some gb =>
          obtain ⟨g, b⟩ := gb
          have hx := (List.all_eq_true.1 hgd) i (List.mem_range.2 hi)
          simp only [ho, hg, Bool.and_eq_true, decide_eq_true_eq] at hx
          obtain ⟨⟨hb, hgn⟩, hdg⟩ := hx
          subst hb
          have hLg := hdp g hdg
          have hgot := hA.got g hgn hLg
          rw [hgv p g (guardsIn_of hgs hi ho hg)] at hgot
          have hog : ∃ og, l.toArray[g]? = some og := ⟨_, Array.getElem?_eq_getElem (by simp; omega)⟩
          obtain ⟨og, hog⟩ := hog
          have hdg2 := dstG_of hdst hgn hog
          simp [Region.wanted, hg, yielded, hog, hdg2, hgot]
      refine wpOp_wanted ho hw ?_
      obtain ⟨o', ho', hrun⟩ := hstep p L i a' w' hi hLi hdp hcl hA hJ
      rw [ho] at ho'
      cases ho'
      refine hrun _ fun p' w'' hp hJ' => ?_
      refine ⟨p', ?_, hJ'⟩
      have hA' : Agree n dst (val p') L a a' := ⟨hA.size, hA.defers, fun j hj hl => by rw [hp j hj hl]; exact hA.got j hj hl, hA.old⟩
      rw [h1]
      refine ⟨hA'.put hi (fun j hj q => hd j i hj hi q) (hs i hi), fun j d hj hl hdd => ?_⟩
      have hLd : L d = true := by
        unfold updB at hl
        by_cases e : j = i
        · subst e
          exact hdp d hdd
        · rw [if_neg e] at hl
          exact hcl j d hj hl hdd
      unfold updB
      split
      · rfl
      · exact hLd)
    (fun a' w' hI => by
      obtain ⟨p, ⟨hA, _⟩, hJ⟩ := hI
      have hall : ∀ i, i < n → (fun j => (listN n (l.length - n)).getD j false) i = true := fun i hi => by simp [listN, hi, Array.getD_eq_getD_getElem?, List.getElem?_append]
      have ea : a' = putAll dst (val p) a n := agree_one hA (putAll_agree hd hs n (Nat.le_refl _)) hall fun i hi => by simp [hi]
      subst ea
      have := wpAny_of_seq (md := .any) (Q' := Q) (l.drop n) n (listN n (l.length - n)) _ _ (fun j => by simp [List.getElem?_drop]) (by rw [hdl]; exact hseq) (hend p _ w' hall hJ)
      rwa [hdl] at this)
    n _ a w.drew inv (by rw [e0]; exact cntB_none n) (by rw [e0]; exact ⟨p0, ⟨⟨rfl, rfl, fun j _ hl => (by cases hl), fun _ _ => rfl⟩, fun j d _ hl _ => (by cases hl)⟩, h0⟩)
  rw [show n + (l.length - n) = l.toArray.size by simp; omega] at K
  exact K
/-- an operation that keeps the world: one value -/
theorem step_pure {o : Oper} {a' : Act} {w' : World} {K : Act → World → Prop} {v : Value} (h : (execOp a'.eval o).run P w' = .ok (.value v) w') (k : K (a'.put o.dst v) w') : o.wp P a' w' K Q := wp_runs h k
theorem wp_callsG {o : Oper} {a : Act} {w : World} {K : Act → World → Prop} (f : FuncId) {fn : Func} (hfn : P.funcs[f]? = some fn) (hnm : (fn.name == "runtime.NumGoroutine") = false) (hbd : fn.body.isNone = false) (args : List Operand) (ts : Array TypeId)
    (ho : o.op = .call { callee := .value (.func f), args := args.toArray, argTypes := ts }) (vals : List Value) (hv : args.map a.eval = vals) (v : Value) (R : World → Prop) (hc : Calls P f vals.toArray w fun e w' => e = .returned v ∧ R w')
    (h : ∀ w', R w' → K (a.put o.dst v) w') : Oper.wp P o a w K Q := wp_calls (o := { o with guard := none }) rfl f hfn hnm hbd args ts ho vals hv v R hc h
end
section
variable {P : Program} {a : Act} {w : World} {o : Oper}
theorem exec_addc (t : TypeId) (x : Operand) (c z : Int) (ho : o.op = .binOp .add t x (.const (.int .i64 c)) t) (hx : a.eval x = .int .i64 z) (hrun : (binOp .add t (.int .i64 z) (.int .i64 c)).run P w = .ok (.int .i64 (z + c)) w) : (execOp a.eval o).run P w = .ok (.value (.int .i64 (z + c))) w := by
  have hc : a.eval (.const (.int .i64 c)) = .int .i64 c := rfl
  have hg : (eqGuard .add t x (.const (.int .i64 c)) (.int .i64 z) (.int .i64 c)).run P w = .ok () w := by simp [eqGuard, go_sem]
  unfold execOp
  simp only [ho, hx, hc, Sem.run_bind, hg, hrun, Result.andThen_ok, Sem.run_pure]
theorem exec_eqlc (t : TypeId) (x : Operand) (c z : Int) (ho : o.op = .binOp .eql t x (.const (.int .i64 c)) t) (hx : a.eval x = .int .i64 z) {b : Bool} (hrun : (binOp .eql t (.int .i64 z) (.int .i64 c)).run P w = .ok (.bool b) w) : (execOp a.eval o).run P w = .ok (.value (.bool b)) w := by
  have hc : a.eval (.const (.int .i64 c)) = .int .i64 c := rfl
  have hg : (eqGuard .eql t x (.const (.int .i64 c)) (.int .i64 z) (.int .i64 c)).run P w = .ok () w := by simp [eqGuard, go_sem]
  unfold execOp
  simp only [ho, hx, hc, Sem.run_bind, hg, hrun, Result.andThen_ok, Sem.run_pure]
theorem exec_pickt (x y z : Operand) (ho : o.op = .pick x y z) (hx : a.eval x = .bool true) {v : Value} (hy : a.eval y = v) : (execOp a.eval o).run P w = .ok (.value v) w := by
  unfold execOp
  simp only [ho, hx, hy, Sem.run_bind, Sem.run_pure]
  rfl
end
end Go.Proofs.Ythgbfakmkdifbaa
