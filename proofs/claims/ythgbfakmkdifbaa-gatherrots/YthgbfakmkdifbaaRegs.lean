/-
  A region whose order is drawn: its first n operations keep an invariant, in whatever order they come, what is behind them comes in one order alone.
-/
import Derived.StillTail
import Derived.WalkKit
import Derived.BigFrame
import Derived.Test.YthgbfakmkdifbaaMm
import Derived.Test.YthgbfakmkdifbaaApps
import Derived.Test.YthgbfakmkdifbaaMidQuiet
import Derived.OrdersIn
import Derived.OwnWalkIn
import Derived.RangeFuncCalls
namespace Go.Proofs.Ythgbfakmkdifbaa
open Go.RowKit Go.Deep
def cntB : Nat → (Nat → Bool) → Nat
  | 0, _ => 0
  | n + 1, L => cntB n L + if L n = true then 0 else 1
def updB (L : Nat → Bool) (i j : Nat) : Bool := if j = i then true else L j
theorem cntB_congr {L M : Nat → Bool} : ∀ n, (∀ i, i < n → L i = M i) → cntB n L = cntB n M
  | 0, _ => rfl
  | n + 1, h => by
    unfold cntB
    rw [cntB_congr n fun i hi => h i (by omega), h n (by omega)]
theorem cntB_upd {L : Nat → Bool} {i : Nat} (hL : L i = false) : ∀ n, i < n → cntB n L = cntB n (updB L i) + 1
  | n + 1, h => by
    by_cases e : i = n
    · subst e
      unfold cntB
      rw [cntB_congr i (L := L) (M := updB L i) fun j hj => by unfold updB; rw [if_neg (by omega)], hL]
      simp [updB]
    · unfold cntB
      rw [cntB_upd hL n (by omega)]
      have : updB L i n = L n := by unfold updB; rw [if_neg (by omega)]
      rw [this]
      omega
theorem cntB_zero {L : Nat → Bool} : ∀ n, cntB n L = 0 → ∀ i, i < n → L i = true
  | n + 1, h, i, hi => by
    unfold cntB at h
    by_cases hn : L n = true
    · by_cases e : i = n
      · rw [e]; exact hn
      · exact cntB_zero n (by omega) i (by omega)
    · rw [if_neg hn] at h; omega
theorem cntB_pos {L : Nat → Bool} : ∀ n, cntB n L ≠ 0 → ∃ i, i < n ∧ L i = false
  | 0, h => absurd rfl h
  | n + 1, h => by
    by_cases hn : L n = true
    · unfold cntB at h
      rw [if_pos hn] at h
      obtain ⟨i, hi, hl⟩ := cntB_pos n (by omega)
      exact ⟨i, by omega, hl⟩
    · exact ⟨n, by omega, by simpa using hn⟩
theorem cntB_none : ∀ n, cntB n (fun _ => false) = n
  | 0 => rfl
  | n + 1 => by unfold cntB; rw [cntB_none n]; simp
theorem least_no {L : Nat → Bool} : ∀ i, L i = false → ∃ j, j ≤ i ∧ L j = false ∧ ∀ k, k < j → L k = true := by
  intro i
  induction i using Nat.strongRecOn with
  | _ i ih =>
    intro h
    by_cases hall : ∀ k, k < i → L k = true
    · exact ⟨i, Nat.le_refl _, h, hall⟩
    · have : ∃ k, k < i ∧ L k = false := by
        apply Classical.byContradiction
        intro hc
        exact hall fun k hk => by
          cases hb : L k
          · exact absurd ⟨k, hk, hb⟩ hc
          · rfl
      obtain ⟨k, hk, hb⟩ := this
      obtain ⟨j, hj, h1, h2⟩ := ih k hk hb
      exact ⟨j, by omega, h1, h2⟩
/-- what an operation waits for stands ahead of it in the text -/
def upB (ops : Array Oper) : Bool := (List.range ops.size).all fun i => match ops[i]? with | some o => o.after.all fun e => decide (e.on < i) | none => true
theorem upB_of {ops : Array Oper} (h : upB ops = true) {i : Nat} {o : Oper} (ho : ops[i]? = some o) : ∀ e ∈ o.after, e.on < i := by
  have hi : i < ops.size := (Array.getElem?_eq_some_iff.1 ho).1
  have h1 := (List.all_eq_true.1 h) i (List.mem_range.2 hi)
  simp only [ho, Array.all_eq_true_iff_forall_mem, decide_eq_true_eq] at h1
  exact h1
def listN (n g : Nat) : Array Bool := (List.replicate n true ++ List.replicate g false).toArray
section
variable {P : Program} {ops : Array Oper} {md : Region.Mode} {Q : Exit → Act → World → Prop}
theorem getD_upd {listed : Array Bool} {i : Nat} (hi : i < listed.size) : (fun j => (listed.setIfInBounds i true).getD j false) = updB (fun j => listed.getD j false) i := by
  funext j
  unfold updB
  by_cases e : j = i
  · subst e
    rw [if_pos rfl]
    simp [hi]
  · rw [if_neg e]
    simp [Array.getD_eq_getD_getElem?, Ne.symm e]
theorem any_of_inv {n g : Nat} (hg : n + g = ops.size) (hs : Region.sinkB md ops n = true) (hc : Region.chainB md ops n = true) (hn : n < ops.size) (hu : upB ops = true)
    (I : (Nat → Bool) → Act → World → Prop)
    (hstep : ∀ (L : Nat → Bool) a w i o, i < n → ops[i]? = some o → L i = false → (∀ e ∈ o.after, Region.binds md e = true → L e.on = true) → I L a w → wpOp P ops Q i (I (updB L i)) a w)
    (hend : ∀ a w, I (fun j => (listN n g).getD j false) a w → wpAny P md ops Q g (listN n g) a w) :
    ∀ (f : Nat) (listed : Array Bool) (a : Act) (w : World), HeadInv md ops n listed → cntB n (fun j => listed.getD j false) = f → I (fun j => listed.getD j false) a w → wpAny P md ops Q (f + g) listed a w
  | 0, listed, a, w, inv, hf, hI => by
    have e : listed = listN n g := by
      apply Array.ext
      · rw [inv.size, ← hg]; simp [listN]
      · intro i h1 h2
        have hb := cntB_zero n hf
        by_cases hi : i < n
        · have := hb i hi
          simp only [Array.getD_eq_getD_getElem?, Array.getElem?_eq_getElem h1, Option.getD_some] at this
          rw [this]
          simp [listN, hi]
        · have := inv.tail i (by omega) (by rw [← inv.size]; exact h1)
          simp only [Array.getD_eq_getD_getElem?, Array.getElem?_eq_getElem h1, Option.getD_some] at this
          rw [this]
          simp [listN, hi, List.getElem_append]
    subst e
    rw [Nat.zero_add]
    exact hend a w hI
  | f + 1, listed, a, w, inv, hf, hI => by
    rw [show f + 1 + g = f + g + 1 by omega]
    obtain ⟨i0, hi0, hl0⟩ := cntB_pos (L := fun j => listed.getD j false) n (by omega)
    have hun : listed.getD i0 true = false := by
      have h1 : i0 < listed.size := by rw [inv.size]; omega
      simp only [Array.getD_eq_getD_getElem?, Array.getElem?_eq_getElem h1, Option.getD_some] at hl0 ⊢
      exact hl0
    constructor
    · intro he
      obtain ⟨j, hj, h1, h2⟩ := least_no (L := fun j => listed.getD j false) i0 hl0
      have hjs : j < ops.size := by omega
      have hmem : j ∈ Region.ready md ops listed := by
        refine mem_ready.2 ⟨?_, ops[j], by simp [hjs], fun e hee _ => h2 _ (upB_of hu (o := ops[j]) (by simp [hjs]) e hee)⟩
        have h3 : j < listed.size := by rw [inv.size]; omega
        simp only [Array.getD_eq_getD_getElem?, Array.getElem?_eq_getElem h3, Option.getD_some] at h1 ⊢
        exact h1
      rw [he] at hmem
      cases hmem
    · intro i hi
      have hin : i < n := Nat.lt_of_not_le fun hge => tail_waits hs hc hn inv _ i0 rfl hi0 hun i hge hi
      obtain ⟨hi1, o, ho, hd⟩ := mem_ready.1 hi
      have hsz : i < listed.size := by rw [inv.size]; omega
      have hLi : (fun j => listed.getD j false) i = false := by
        simp only [Array.getD_eq_getD_getElem?, Array.getElem?_eq_getElem hsz, Option.getD_some] at hi1 ⊢
        exact hi1
      refine wpOp_mono (fun a' w' hI' => ?_) (hstep _ a w i o hin ho hLi hd hI)
      refine any_of_inv hg hs hc hn hu I hstep hend f (listed.setIfInBounds i true) a' w' (inv.set hi hin) ?_ ?_
      · rw [getD_upd hsz]
        have := cntB_upd (L := fun j => listed.getD j false) hLi n hin
        omega
      · rw [getD_upd hsz]; exact hI'
/-- does operation i wait for operation d -/
def depB (ops : Array Oper) (i d : Nat) : Bool := match ops[i]? with | some o => o.after.any fun e => Region.binds .any e && e.on == d | none => false
theorem depB_of {ops : Array Oper} {i : Nat} {o : Oper} (ho : ops[i]? = some o) {L : Nat → Bool} (h : ∀ e ∈ o.after, Region.binds .any e = true → L e.on = true) : ∀ d, depB ops i d = true → L d = true := by
  intro d hd
  unfold depB at hd
  simp only [ho, Array.any_eq_true] at hd
  obtain ⟨k, hk, he⟩ := hd
  simp only [Bool.and_eq_true, beq_iff_eq] at he
  have := h _ (Array.getElem_mem hk) he.1
  rwa [he.2] at this
theorem wp_region_inv {id : Nat} {a : Act} {w : World} {l : List Oper} (n : Nat) (hm : P.follows .mixedOrders = true)
    (hB : (decide (n < l.length) && Region.sinkB .any l.toArray n && Region.chainB .any l.toArray n && upB l.toArray && Region.seqB .any l.toArray (l.length - n) n (listN n (l.length - n))) = true)
    (I : (Nat → Bool) → Act → World → Prop) (h0 : I (fun _ => false) a w.drew)
    (hstep : ∀ (L : Nat → Bool) a w i, i < n → (∀ d, depB l.toArray i d = true → L d = true) → I L a w → wpOp P l.toArray Q i (I (updB L i)) a w)
    (hend : ∀ L a w, (∀ i, i < n → L i = true) → I L a w → wpList P l.toArray Q (l.drop n) a w) : (Code.region id l.toArray true).wp P Q a w := by
  simp only [Bool.and_eq_true, decide_eq_true_eq] at hB
  obtain ⟨⟨⟨⟨hn, hs⟩, hc⟩, hu⟩, hseq⟩ := hB
  have hd : (l.drop n).length = l.length - n := by simp
  have inv : HeadInv .any l.toArray n (Array.replicate l.toArray.size false) :=
    ⟨by simp, fun j oj _ hl => (by rw [getD_replicate_false] at hl; cases hl), fun t _ ht => getD_in (by simpa using ht) (getD_replicate_false _ _)⟩
  refine wp_region_any hm ?_
  have e0 : (fun j => (Array.replicate l.toArray.size false).getD j false) = fun _ => false := by funext j; exact getD_replicate_false _ _
  have K := any_of_inv (P := P) (Q := Q) (md := .any) (ops := l.toArray) (n := n) (g := l.length - n) (by simp; omega) hs hc (by simpa using hn) hu I (fun L a w i o hi ho _ hd hI => hstep L a w i hi (depB_of ho hd) hI)
    (fun a' w' hI => by
      have := wpAny_of_seq (md := .any) (Q' := Q) (l.drop n) n (listN n (l.length - n)) a' w' (fun j => by simp [List.getElem?_drop]) (by rw [hd]; exact hseq) (hend _ a' w' (fun i hi => by simp [listN, hi, Array.getD_eq_getD_getElem?, List.getElem?_append]) hI)
      rwa [hd] at this)
    n _ a w.drew inv (by rw [e0]; exact cntB_none n) (by rw [e0]; exact h0)
  rw [show n + (l.length - n) = l.toArray.size by simp; omega] at K
  exact K
theorem wpOp_of {i : Nat} {o : Oper} {a : Act} {w : World} {K : Act → World → Prop} (ho : ops[i]? = some o) (hg : o.guard = none) (h : o.wp P a w K Q) : wpOp P ops Q i K a w := by
  unfold wpOp
  simp only [ho]
  have hw : Region.wanted o (yielded ops a.tmps) = true := by simp [Region.wanted, hg]
  rw [if_pos hw]
  exact Or.inl h
theorem wp_calls {o : Oper} {a : Act} {w : World} {K : Act → World → Prop} (hgd : o.guard = none) (f : FuncId) {fn : Func} (hfn : P.funcs[f]? = some fn) (hnm : (fn.name == "runtime.NumGoroutine") = false) (hbd : fn.body.isNone = false) (args : List Operand) (ts : Array TypeId)
    (ho : o.op = .call { callee := .value (.func f), args := args.toArray, argTypes := ts }) (vals : List Value) (hv : args.map a.eval = vals) (v : Value) (R : World → Prop) (hc : Calls P f vals.toArray w fun e w' => e = .returned v ∧ R w')
    (h : ∀ w', R w' → K (a.put o.dst v) w') : Oper.wp P o a w K Q := by
  have := step_call (ops := #[]) (Q := Q) (X := True) hgd f hfn hnm hbd args ts ho vals hv v R hc h
  have hw : Region.wanted o (yielded #[] a.tmps) = true := by simp [Region.wanted, hgd]
  rwa [if_pos hw] at this
theorem wp_allocs {o : Oper} {a : Act} {w : World} {K : Act → World → Prop} (t : TypeId) (ho : o.op = .alloc t) (cs : Array Value) (hz : ∀ w, (zeroValue t).run P w = .ok (.agg cs) w) (h : K (a.put o.dst (.pointer (some ⟨w.heap.size, 0, none⟩))) (w.alloc (.cells cs t))) : Oper.wp P o a w K Q := by
  unfold Oper.wp execOp
  simp only [ho]
  simp [Instr.alloc, hz, go_sem]
  exact h
end
end Go.Proofs.Ythgbfakmkdifbaa
/-
  A region that draws its order, where every value and every world is the same in every order: each operation's run, told once.
-/
namespace Go.Proofs.Ythgbfakmkdifbaa
open Go.RowKit Go.BigFrame
section
variable {P : Program} {Q : Exit → Act → World → Prop}
/-- the frame of a, with what the operations that are listed have yielded -/
structure Agree (n : Nat) (dst : Nat → Tmp) (val : Nat → Value) (L : Nat → Bool) (a a' : Act) : Prop where
  size : a'.tmps.size = a.tmps.size
  defers : a'.defers = a.defers
  got : ∀ j, j < n → L j = true → a'.tmps[dst j]? = some (val j)
  old : ∀ s, (∀ j, j < n → dst j ≠ s) → a'.tmps[s]? = a.tmps[s]?
theorem Agree.put {n : Nat} {dst : Nat → Tmp} {val : Nat → Value} {L : Nat → Bool} {a a' : Act} (h : Agree n dst val L a a') {i : Nat} (hi : i < n) (hd : ∀ j, j < n → dst j = dst i → j = i) (hs : dst i < a.tmps.size) : Agree n dst val (updB L i) a (a'.put (some (dst i)) (val i)) := by
  have ht : (a'.put (some (dst i)) (val i)).tmps = a'.tmps.setIfInBounds (dst i) (val i) := rfl
  refine ⟨by rw [ht, Array.size_setIfInBounds]; exact h.size, h.defers, fun j hj hl => ?_, fun s hn => ?_⟩
  · rw [ht, Array.getElem?_setIfInBounds]
    by_cases e : j = i
    · subst e
      rw [if_pos rfl, if_pos (by rw [h.size]; exact hs)]
    · rw [if_neg (fun q => e (hd j hj q.symm))]
      refine h.got j hj ?_
      unfold updB at hl
      rw [if_neg e] at hl
      exact hl
  · rw [ht, Array.getElem?_setIfInBounds, if_neg (fun q => hn i hi q)]
    exact h.old s hn
theorem Agree.eval {n : Nat} {dst : Nat → Tmp} {val : Nat → Value} {L : Nat → Bool} {a a' : Act} (h : Agree n dst val L a a') (t : Tmp) (ht : ∀ j, j < n → dst j ≠ t) : a'.eval (.tmp t) = a.eval (.tmp t) := by
  have := h.old t ht
  simp only [Act.eval, Array.getD_eq_getD_getElem?, this]
theorem Agree.at {n : Nat} {dst : Nat → Tmp} {val : Nat → Value} {L : Nat → Bool} {a a' : Act} (h : Agree n dst val L a a') (j : Nat) (hj : j < n) (hl : L j = true) : a'.eval (.tmp (dst j)) = val j := by
  have := h.got j hj hl
  simp only [Act.eval, Array.getD_eq_getD_getElem?, this, Option.getD_some]
/-- all of them put, in the text's order -/
def putAll (dst : Nat → Tmp) (val : Nat → Value) (a : Act) : Nat → Act
  | 0 => a
  | n + 1 => (putAll dst val a n).put (some (dst n)) (val n)
theorem putAll_agree {n : Nat} {dst : Nat → Tmp} {val : Nat → Value} {a : Act} (hd : ∀ i j, i < n → j < n → dst i = dst j → i = j) (hs : ∀ i, i < n → dst i < a.tmps.size) : ∀ m, m ≤ n → Agree n dst val (fun j => decide (j < m)) a (putAll dst val a m)
  | 0, _ => ⟨rfl, rfl, fun j _ hl => by simp at hl, fun _ _ => rfl⟩
  | m + 1, hm => by
    have ih : Agree n dst val (fun j => decide (j < m)) a (putAll dst val a m) := putAll_agree hd hs m (by omega)
    have h := ih.put (i := m) (by omega) (fun j hj q => hd j m hj (by omega) q) (hs m (by omega))
    have e : updB (fun j => decide (j < m)) m = fun j => decide (j < m + 1) := by
      funext j
      unfold updB
      by_cases q : j = m
      · subst q; simp
      · rw [if_neg q]
        by_cases c : j < m
        · show decide (j < m) = _
          rw [decide_eq_true c, decide_eq_true (by omega)]
        · show decide (j < m) = _
          rw [decide_eq_false c, decide_eq_false (by omega)]
    rw [e] at h
    exact h
theorem agree_one {n : Nat} {dst : Nat → Tmp} {val : Nat → Value} {L L' : Nat → Bool} {a a' a'' : Act} (h : Agree n dst val L a a') (k : Agree n dst val L' a a'') (hL : ∀ i, i < n → L i = true) (hL' : ∀ i, i < n → L' i = true) : a' = a'' := by
  have ht : a'.tmps = a''.tmps := by
    apply Array.ext_getElem?
    intro s
    by_cases c : ∃ j, j < n ∧ dst j = s
    · obtain ⟨j, hj, rfl⟩ := c
      rw [h.got j hj (hL j hj), k.got j hj (hL' j hj)]
    · have hn : ∀ j, j < n → dst j ≠ s := fun j hj q => c ⟨j, hj, q⟩
      rw [h.old s hn, k.old s hn]
  obtain ⟨t1, d1⟩ := a'
  obtain ⟨t2, d2⟩ := a''
  have hd := h.defers.trans k.defers.symm
  simp only at ht hd
  rw [ht, hd]
/-- each operation's slot, no guard -/
def dstB (l : List Oper) (dst : Nat → Tmp) (n : Nat) : Bool := (List.range n).all fun i => match l.toArray[i]? with | some o => o.dst == some (dst i) && o.guard.isNone | none => false
theorem dstB_of {l : List Oper} {dst : Nat → Tmp} {n : Nat} (h : dstB l dst n = true) {i : Nat} {o : Oper} (hi : i < n) (ho : l.toArray[i]? = some o) : o.dst = some (dst i) ∧ o.guard = none := by
  have h1 := (List.all_eq_true.1 h) i (List.mem_range.2 hi)
  simp only [ho, Bool.and_eq_true, beq_iff_eq, Option.isNone_iff_eq_none] at h1
  exact h1
theorem wp_region_fixed {id : Nat} {a : Act} {w : World} {l : List Oper} (n : Nat) (hm : P.follows .mixedOrders = true)
    (hB : (decide (n < l.length) && Region.sinkB .any l.toArray n && Region.chainB .any l.toArray n && upB l.toArray && Region.seqB .any l.toArray (l.length - n) n (listN n (l.length - n))) = true)
    (dst : Nat → Tmp) (val : Nat → Value) (Wd : (Nat → Bool) → World)
    (hdst : dstB l dst n = true) (hd : ∀ i j, i < n → j < n → dst i = dst j → i = j) (hs : ∀ i, i < n → dst i < a.tmps.size)
    (h0 : Wd (fun _ => false) = w.drew)
    (hstep : ∀ L i a', i < n → L i = false → (∀ d, depB l.toArray i d = true → L d = true) → (∀ j d, j < n → L j = true → depB l.toArray j d = true → L d = true) → Agree n dst val L a a' → ∃ o, l.toArray[i]? = some o ∧ (execOp a'.eval o).run P (Wd L) = .ok (.value (val i)) (Wd (updB L i)))
    (hend : ∀ L, (∀ i, i < n → L i = true) → wpList P l.toArray Q (l.drop n) (putAll dst val a n) (Wd L)) : (Code.region id l.toArray true).wp P Q a w := by
  simp only [Bool.and_eq_true, decide_eq_true_eq] at hB
  obtain ⟨⟨⟨⟨hn, hsk⟩, hc⟩, hu⟩, hseq⟩ := hB
  have hdl : (l.drop n).length = l.length - n := by simp
  have inv : HeadInv .any l.toArray n (Array.replicate l.toArray.size false) :=
    ⟨by simp, fun j oj _ hl => (by rw [getD_replicate_false] at hl; cases hl), fun t _ ht => getD_in (by simpa using ht) (getD_replicate_false _ _)⟩
  refine wp_region_any hm ?_
  have e0 : (fun j => (Array.replicate l.toArray.size false).getD j false) = fun _ => false := by funext j; exact getD_replicate_false _ _
  have K := any_of_inv (P := P) (Q := Q) (md := .any) (ops := l.toArray) (n := n) (g := l.length - n) (by simp; omega) hsk hc (by simpa using hn) hu (fun L a' w' => (Agree n dst val L a a' ∧ ∀ j d, j < n → L j = true → depB l.toArray j d = true → L d = true) ∧ w' = Wd L)
    (fun L a' w' i o hi ho hLi hde hI => by
      obtain ⟨⟨hA, hcl⟩, rfl⟩ := hI
      obtain ⟨h1, h2⟩ := dstB_of hdst hi ho
      refine wpOp_of ho h2 ?_
      unfold Oper.wp
      obtain ⟨o', ho', hrun⟩ := hstep L i a' hi hLi (depB_of ho hde) hcl hA
      rw [ho] at ho'
      cases ho'
      rw [hrun]
      show (Agree _ _ _ _ _ (a'.put o.dst (val i)) ∧ _) ∧ _
      rw [h1]
      refine ⟨⟨hA.put hi (fun j hj q => hd j i hj hi q) (hs i hi), fun j d hj hl hdd => ?_⟩, rfl⟩
      have hLd : L d = true := by
        unfold updB at hl
        by_cases e : j = i
        · subst e
          exact depB_of ho hde d hdd
        · rw [if_neg e] at hl
          exact hcl j d hj hl hdd
      unfold updB
      split
      · rfl
      · exact hLd)
    (fun a' w' hI => by
      obtain ⟨⟨hA, _⟩, rfl⟩ := hI
      have hall : ∀ i, i < n → (fun j => (listN n (l.length - n)).getD j false) i = true := fun i hi => by simp [listN, hi, Array.getD_eq_getD_getElem?, List.getElem?_append]
      have ea : a' = putAll dst val a n := agree_one hA (putAll_agree hd hs n (Nat.le_refl _)) hall fun i hi => by simp [hi]
      subst ea
      have := wpAny_of_seq (md := .any) (Q' := Q) (l.drop n) n (listN n (l.length - n)) _ _ (fun j => by simp [List.getElem?_drop]) (by rw [hdl]; exact hseq) (hend _ hall)
      rwa [hdl] at this)
    n _ a w.drew inv (by rw [e0]; exact cntB_none n) (by rw [e0]; exact ⟨⟨⟨rfl, rfl, fun j _ hl => (by cases hl), fun _ _ => rfl⟩, fun j d _ hl _ => (by cases hl)⟩, h0.symm⟩)
  rw [show n + (l.length - n) = l.toArray.size by simp; omega] at K
  exact K
end
end Go.Proofs.Ythgbfakmkdifbaa
/-
  As RegFix; an operation may be a call too.
-/
namespace Go.Proofs.Ythgbfakmkdifbaa
open Go.RowKit Go.BigFrame
section
variable {P : Program} {Q : Exit → Act → World → Prop}
theorem wp_runs {o : Oper} {a : Act} {w w' : World} {v : Value} {K : Act → World → Prop} (h : (execOp a.eval o).run P w = .ok (.value v) w') (k : K (a.put o.dst v) w') : o.wp P a w K Q := by
  unfold Oper.wp
  rw [h]
  exact k
theorem wp_region_fixed2 {id : Nat} {a : Act} {w : World} {l : List Oper} (n : Nat) (hm : P.follows .mixedOrders = true)
    (hB : (decide (n < l.length) && Region.sinkB .any l.toArray n && Region.chainB .any l.toArray n && upB l.toArray && Region.seqB .any l.toArray (l.length - n) n (listN n (l.length - n))) = true)
    (dst : Nat → Tmp) (val : Nat → Value) (Wd : (Nat → Bool) → World)
    (hdst : dstB l dst n = true) (hd : ∀ i j, i < n → j < n → dst i = dst j → i = j) (hs : ∀ i, i < n → dst i < a.tmps.size)
    (h0 : Wd (fun _ => false) = w.drew)
    (hstep : ∀ L i a', i < n → L i = false → (∀ d, depB l.toArray i d = true → L d = true) → (∀ j d, j < n → L j = true → depB l.toArray j d = true → L d = true) → Agree n dst val L a a' → ∃ o, l.toArray[i]? = some o ∧ ∀ K : Act → World → Prop, K (a'.put o.dst (val i)) (Wd (updB L i)) → o.wp P a' (Wd L) K Q)
    (hend : ∀ L, (∀ i, i < n → L i = true) → wpList P l.toArray Q (l.drop n) (putAll dst val a n) (Wd L)) : (Code.region id l.toArray true).wp P Q a w := by
  simp only [Bool.and_eq_true, decide_eq_true_eq] at hB
  obtain ⟨⟨⟨⟨hn, hsk⟩, hc⟩, hu⟩, hseq⟩ := hB
  have hdl : (l.drop n).length = l.length - n := by simp
  have inv : HeadInv .any l.toArray n (Array.replicate l.toArray.size false) :=
    ⟨by simp, fun j oj _ hl => (by rw [getD_replicate_false] at hl; cases hl), fun t _ ht => getD_in (by simpa using ht) (getD_replicate_false _ _)⟩
  refine wp_region_any hm ?_
  have e0 : (fun j => (Array.replicate l.toArray.size false).getD j false) = fun _ => false := by funext j; exact getD_replicate_false _ _
  have K := any_of_inv (P := P) (Q := Q) (md := .any) (ops := l.toArray) (n := n) (g := l.length - n) (by simp; omega) hsk hc (by simpa using hn) hu (fun L a' w' => (Agree n dst val L a a' ∧ ∀ j d, j < n → L j = true → depB l.toArray j d = true → L d = true) ∧ w' = Wd L)
    (fun L a' w' i o hi ho hLi hde hI => by
      obtain ⟨⟨hA, hcl⟩, rfl⟩ := hI
      obtain ⟨h1, h2⟩ := dstB_of hdst hi ho
      refine wpOp_of ho h2 ?_
      obtain ⟨o', ho', hrun⟩ := hstep L i a' hi hLi (depB_of ho hde) hcl hA
      rw [ho] at ho'
      cases ho'
      refine hrun _ ?_
      show (Agree _ _ _ _ _ (a'.put o.dst (val i)) ∧ _) ∧ _
      rw [h1]
      refine ⟨⟨hA.put hi (fun j hj q => hd j i hj hi q) (hs i hi), fun j d hj hl hdd => ?_⟩, rfl⟩
      have hLd : L d = true := by
        unfold updB at hl
        by_cases e : j = i
        · subst e
          exact depB_of ho hde d hdd
        · rw [if_neg e] at hl
          exact hcl j d hj hl hdd
      unfold updB
      split
      · rfl
      · exact hLd)
    (fun a' w' hI => by
      obtain ⟨⟨hA, _⟩, rfl⟩ := hI
      have hall : ∀ i, i < n → (fun j => (listN n (l.length - n)).getD j false) i = true := fun i hi => by simp [listN, hi, Array.getD_eq_getD_getElem?, List.getElem?_append]
      have ea : a' = putAll dst val a n := agree_one hA (putAll_agree hd hs n (Nat.le_refl _)) hall fun i hi => by simp [hi]
      subst ea
      have := wpAny_of_seq (md := .any) (Q' := Q) (l.drop n) n (listN n (l.length - n)) _ _ (fun j => by simp [List.getElem?_drop]) (by rw [hdl]; exact hseq) (hend _ hall)
      rwa [hdl] at this)
    n _ a w.drew inv (by rw [e0]; exact cntB_none n) (by rw [e0]; exact ⟨⟨⟨rfl, rfl, fun j _ hl => (by cases hl), fun _ _ => rfl⟩, fun j d _ hl _ => (by cases hl)⟩, h0.symm⟩)
  rw [show n + (l.length - n) = l.toArray.size by simp; omega] at K
  exact K
end
end Go.Proofs.Ythgbfakmkdifbaa
/-
  As RegFix2; an operation may be guarded, its guard true; and values and worlds may hang on what operations came to ahead of them (a parameter p).
-/
namespace Go.Proofs.Ythgbfakmkdifbaa
open Go.RowKit Go.BigFrame
section
variable {P : Program} {Q : Exit → Act → World → Prop} {β : Type}
def dstG (l : List Oper) (dst : Nat → Tmp) (n : Nat) : Bool := (List.range n).all fun i => match l.toArray[i]? with | some o => o.dst == some (dst i) | none => false
theorem dstG_of {l : List Oper} {dst : Nat → Tmp} {n : Nat} (h : dstG l dst n = true) {i : Nat} {o : Oper} (hi : i < n) (ho : l.toArray[i]? = some o) : o.dst = some (dst i) := by
  have h1 := (List.all_eq_true.1 h) i (List.mem_range.2 hi)
  simp only [ho, beq_iff_eq] at h1
  exact h1
/-- a guard that is true where operation g told true: what operation i waits for has come -/
def guardG (l : List Oper) (n : Nat) : Bool := (List.range n).all fun i => match l.toArray[i]? with | some o => (match o.guard with | none => true | some (g, b) => b && decide (g < n) && depB l.toArray i g) | none => false
theorem wpOp_wanted {ops : Array Oper} {i : Nat} {o : Oper} {a : Act} {w : World} {K : Act → World → Prop} (ho : ops[i]? = some o) (hw : Region.wanted o (yielded ops a.tmps) = true) (h : o.wp P a w K Q) : wpOp P ops Q i K a w := by
  unfold wpOp
  simp only [ho]
  rw [if_pos hw]
  exact Or.inl h
def guardsIn (l : List Oper) (n : Nat) (gs : List Nat) : Bool := (List.range n).all fun i => match l.toArray[i]? with | some o => (match o.guard with | none => true | some (g, _) => gs.contains g) | none => true
theorem guardsIn_of {l : List Oper} {n : Nat} {gs : List Nat} (h : guardsIn l n gs = true) {i : Nat} {o : Oper} {g : Nat} {b : Bool} (hi : i < n) (ho : l.toArray[i]? = some o) (hg : o.guard = some (g, b)) : g ∈ gs := by
  have h1 := (List.all_eq_true.1 h) i (List.mem_range.2 hi)
  simp only [ho, hg] at h1
  simpa using h1
theorem wp_region_fixed3 {id : Nat} {a : Act} {w : World} {l : List Oper} (n : Nat) (hm : P.follows .mixedOrders = true)
    (hB : (decide (n < l.length) && Region.sinkB .any l.toArray n && Region.chainB .any l.toArray n && upB l.toArray && Region.seqB .any l.toArray (l.length - n) n (listN n (l.length - n))) = true)
    (dst : Nat → Tmp) (val : β → Nat → Value) (J : β → (Nat → Bool) → World → Prop)
    (hdst : dstG l dst n = true) (hgd : guardG l n = true) (gs : List Nat) (hgs : guardsIn l n gs = true) (hgv : ∀ p g, g ∈ gs → val p g = .bool true) (hd : ∀ i j, i < n → j < n → dst i = dst j → i = j) (hs : ∀ i, i < n → dst i < a.tmps.size)
    (p0 : β) (h0 : J p0 (fun _ => false) w.drew)
    (hstep : ∀ p L i a' w', i < n → L i = false → (∀ d, depB l.toArray i d = true → L d = true) → (∀ j d, j < n → L j = true → depB l.toArray j d = true → L d = true) → Agree n dst (val p) L a a' → J p L w' →
      ∃ o, l.toArray[i]? = some o ∧ ∀ K : Act → World → Prop, (∀ p' w'', (∀ j, j < n → L j = true → val p' j = val p j) → J p' (updB L i) w'' → K (a'.put o.dst (val p' i)) w'') → o.wp P a' w' K Q)
    (hend : ∀ p L w', (∀ i, i < n → L i = true) → J p L w' → wpList P l.toArray Q (l.drop n) (putAll dst (val p) a n) w') : (Code.region id l.toArray true).wp P Q a w := by
  simp only [Bool.and_eq_true, decide_eq_true_eq] at hB
  obtain ⟨⟨⟨⟨hn, hsk⟩, hc⟩, hu⟩, hseq⟩ := hB
  have hdl : (l.drop n).length = l.length - n := by simp
  have inv : HeadInv .any l.toArray n (Array.replicate l.toArray.size false) :=
    ⟨by simp, fun j oj _ hl => (by rw [getD_replicate_false] at hl; cases hl), fun t _ ht => getD_in (by simpa using ht) (getD_replicate_false _ _)⟩
  refine wp_region_any hm ?_
  have e0 : (fun j => (Array.replicate l.toArray.size false).getD j false) = fun _ => false := by funext j; exact getD_replicate_false _ _
  have K := any_of_inv (P := P) (Q := Q) (md := .any) (ops := l.toArray) (n := n) (g := l.length - n) (by simp; omega) hsk hc (by simpa using hn) hu (fun L a' w' => ∃ p, (Agree n dst (val p) L a a' ∧ ∀ j d, j < n → L j = true → depB l.toArray j d = true → L d = true) ∧ J p L w')
    (fun L a' w' i o hi ho hLi hde hI => by
      obtain ⟨p, ⟨hA, hcl⟩, hJ⟩ := hI
      have h1 := dstG_of hdst hi ho
      have hdp := depB_of ho hde
      have hw : Region.wanted o (yielded l.toArray a'.tmps) = true := by
        cases hg : o.guard with
        | none => simp [Region.wanted, hg]
        | some gb =>
          obtain ⟨g, b⟩ := gb
          have hx := (List.all_eq_true.1 hgd) i (List.mem_range.2 hi)
          simp only [ho, hg, Bool.and_eq_true, decide_eq_true_eq] at hx
          obtain ⟨⟨hb, hgn⟩, hdg⟩ := hx
          subst hb
          have hLg := hdp g hdg
          have hgot := hA.got g hgn hLg
          rw [hgv p g (guardsIn_of hgs hi ho hg)] at hgot
          have hog : ∃ og, l.toArray[g]? = some og := ⟨_, Array.getElem?_eq_getElem (by simp; omega)⟩
          obtain ⟨og, hog⟩ := hog
          have hdg2 := dstG_of hdst hgn hog
          simp [Region.wanted, hg, yielded, hog, hdg2, hgot]
      refine wpOp_wanted ho hw ?_
      obtain ⟨o', ho', hrun⟩ := hstep p L i a' w' hi hLi hdp hcl hA hJ
      rw [ho] at ho'
      cases ho'
      refine hrun _ fun p' w'' hp hJ' => ?_
      refine ⟨p', ?_, hJ'⟩
      have hA' : Agree n dst (val p') L a a' := ⟨hA.size, hA.defers, fun j hj hl => by rw [hp j hj hl]; exact hA.got j hj hl, hA.old⟩
      rw [h1]
      refine ⟨hA'.put hi (fun j hj q => hd j i hj hi q) (hs i hi), fun j d hj hl hdd => ?_⟩
      have hLd : L d = true := by
        unfold updB at hl
        by_cases e : j = i
        · subst e
          exact hdp d hdd
        · rw [if_neg e] at hl
          exact hcl j d hj hl hdd
      unfold updB
      split
      · rfl
      · exact hLd)
    (fun a' w' hI => by
      obtain ⟨p, ⟨hA, _⟩, hJ⟩ := hI
      have hall : ∀ i, i < n → (fun j => (listN n (l.length - n)).getD j false) i = true := fun i hi => by simp [listN, hi, Array.getD_eq_getD_getElem?, List.getElem?_append]
      have ea : a' = putAll dst (val p) a n := agree_one hA (putAll_agree hd hs n (Nat.le_refl _)) hall fun i hi => by simp [hi]
      subst ea
      have := wpAny_of_seq (md := .any) (Q' := Q) (l.drop n) n (listN n (l.length - n)) _ _ (fun j => by simp [List.getElem?_drop]) (by rw [hdl]; exact hseq) (hend p _ w' hall hJ)
      rwa [hdl] at this)
    n _ a w.drew inv (by rw [e0]; exact cntB_none n) (by rw [e0]; exact ⟨p0, ⟨⟨rfl, rfl, fun j _ hl => (by cases hl), fun _ _ => rfl⟩, fun j d _ hl _ => (by cases hl)⟩, h0⟩)
  rw [show n + (l.length - n) = l.toArray.size by simp; omega] at K
  exact K
/-- an operation that keeps the world: one value -/
theorem step_pure {o : Oper} {a' : Act} {w' : World} {K : Act → World → Prop} {v : Value} (h : (execOp a'.eval o).run P w' = .ok (.value v) w') (k : K (a'.put o.dst v) w') : o.wp P a' w' K Q := wp_runs h k
theorem wp_callsG {o : Oper} {a : Act} {w : World} {K : Act → World → Prop} (f : FuncId) {fn : Func} (hfn : P.funcs[f]? = some fn) (hnm : (fn.name == "runtime.NumGoroutine") = false) (hbd : fn.body.isNone = false) (args : List Operand) (ts : Array TypeId)
    (ho : o.op = .call { callee := .value (.func f), args := args.toArray, argTypes := ts }) (vals : List Value) (hv : args.map a.eval = vals) (v : Value) (R : World → Prop) (hc : Calls P f vals.toArray w fun e w' => e = .returned v ∧ R w')
    (h : ∀ w', R w' → K (a.put o.dst v) w') : Oper.wp P o a w K Q := wp_calls (o := { o with guard := none }) rfl f hfn hnm hbd args ts ho vals hv v R hc h
end
section
variable {P : Program} {a : Act} {w : World} {o : Oper}
theorem exec_addc (t : TypeId) (x : Operand) (c z : Int) (ho : o.op = .binOp .add t x (.const (.int .i64 c)) t) (hx : a.eval x = .int .i64 z) (hrun : (binOp .add t (.int .i64 z) (.int .i64 c)).run P w = .ok (.int .i64 (z + c)) w) : (execOp a.eval o).run P w = .ok (.value (.int .i64 (z + c))) w := by
  have hc : a.eval (.const (.int .i64 c)) = .int .i64 c := rfl
  have hg : (eqGuard .add t x (.const (.int .i64 c)) (.int .i64 z) (.int .i64 c)).run P w = .ok () w := by simp [eqGuard, go_sem]
  unfold execOp
  simp only [ho, hx, hc, Sem.run_bind, hg, hrun, Result.andThen_ok, Sem.run_pure]
theorem exec_eqlc (t : TypeId) (x : Operand) (c z : Int) (ho : o.op = .binOp .eql t x (.const (.int .i64 c)) t) (hx : a.eval x = .int .i64 z) {b : Bool} (hrun : (binOp .eql t (.int .i64 z) (.int .i64 c)).run P w = .ok (.bool b) w) : (execOp a.eval o).run P w = .ok (.value (.bool b)) w := by
  have hc : a.eval (.const (.int .i64 c)) = .int .i64 c := rfl
  have hg : (eqGuard .eql t x (.const (.int .i64 c)) (.int .i64 z) (.int .i64 c)).run P w = .ok () w := by simp [eqGuard, go_sem]
  unfold execOp
  simp only [ho, hx, hc, Sem.run_bind, hg, hrun, Result.andThen_ok, Sem.run_pure]
theorem exec_pickt (x y z : Operand) (ho : o.op = .pick x y z) (hx : a.eval x = .bool true) {v : Value} (hy : a.eval y = v) : (execOp a.eval o).run P w = .ok (.value v) w := by
  unfold execOp
  simp only [ho, hx, hy, Sem.run_bind, Sem.run_pure]
  rfl
end
end Go.Proofs.Ythgbfakmkdifbaa
/-
  A region that draws its order and only reads: each operation's value told once; what a guard leaves out too.
-/
namespace Go.Proofs.Ythgbfakmkdifbaa
open Go.RowKit Go.BigFrame
section
variable {P : Program} {Q : Exit → Act → World → Prop}
/-- guards of both kinds: those of skip are not wanted -/
def guardsBy (l : List Oper) (n : Nat) (skip tv : Nat → Bool) (gs : List Nat) : Bool := (List.range n).all fun i => match l.toArray[i]? with
  | some o => (match o.guard with | none => !skip i | some (g, b) => decide (g < n) && depB l.toArray i g && gs.contains g && (tv g == if skip i then !b else b))
  | none => false
theorem guardsBy_of {l : List Oper} {n : Nat} {skip tv : Nat → Bool} {gs : List Nat} (h : guardsBy l n skip tv gs = true) {i : Nat} {o : Oper} (hi : i < n) (ho : l.toArray[i]? = some o) :
    (o.guard = none ∧ skip i = false) ∨ ∃ g b, o.guard = some (g, b) ∧ g < n ∧ depB l.toArray i g = true ∧ g ∈ gs ∧ tv g = if skip i then !b else b := by
  have h1 := (List.all_eq_true.1 h) i (List.mem_range.2 hi)
  simp only [ho] at h1
  cases hg : o.guard with
  | none =>
    rw [hg] at h1
    exact Or.inl ⟨rfl, by simpa using h1⟩
  | some gb =>
    obtain ⟨g, b⟩ := gb
    rw [hg] at h1
    simp only [Bool.and_eq_true, decide_eq_true_eq, List.contains_iff_mem, beq_iff_eq] at h1
    exact Or.inr ⟨g, b, rfl, h1.1.1.1, h1.1.1.2, h1.1.2, h1.2⟩
theorem wp_region_reads {id : Nat} {a : Act} {w : World} {l : List Oper} (n : Nat) (hm : P.follows .mixedOrders = true)
    (hB : (decide (n < l.length) && Region.sinkB .any l.toArray n && Region.chainB .any l.toArray n && upB l.toArray && Region.seqB .any l.toArray (l.length - n) n (listN n (l.length - n))) = true)
    (dst : Nat → Tmp) (val : Nat → Value) (skip tv : Nat → Bool) (gs : List Nat)
    (hdst : dstG l dst n = true) (hgd : guardsBy l n skip tv gs = true) (hgv : ∀ g, g ∈ gs → val g = .bool (tv g)) (hsk : ∀ i, skip i = true → val i = undef) (hd : ∀ i j, i < n → j < n → dst i = dst j → i = j) (hs : ∀ i, i < n → dst i < a.tmps.size)
    (hstep : ∀ L i a' w', i < n → L i = false → skip i = false → (∀ d, depB l.toArray i d = true → L d = true) → Agree n dst val L a a' → Ext w w' → ∃ o, l.toArray[i]? = some o ∧ (execOp a'.eval o).run P w' = .ok (.value (val i)) w')
    (hend : ∀ w', Ext w w' → wpList P l.toArray Q (l.drop n) (putAll dst val a n) w') : (Code.region id l.toArray true).wp P Q a w := by
  simp only [Bool.and_eq_true, decide_eq_true_eq] at hB
  obtain ⟨⟨⟨⟨hn, hsk0⟩, hc⟩, hu⟩, hseq⟩ := hB
  have hdl : (l.drop n).length = l.length - n := by simp
  have inv : HeadInv .any l.toArray n (Array.replicate l.toArray.size false) :=
    ⟨by simp, fun j oj _ hl => (by rw [getD_replicate_false] at hl; cases hl), fun t _ ht => getD_in (by simpa using ht) (getD_replicate_false _ _)⟩
  refine wp_region_any hm ?_
  have e0 : (fun j => (Array.replicate l.toArray.size false).getD j false) = fun _ => false := by funext j; exact getD_replicate_false _ _
  have K := any_of_inv (P := P) (Q := Q) (md := .any) (ops := l.toArray) (n := n) (g := l.length - n) (by simp; omega) hsk0 hc (by simpa using hn) hu (fun L a' w' => Agree n dst val L a a' ∧ Ext w w')
    (fun L a' w' i o hi ho hLi hde hI => by
      obtain ⟨hA, hx⟩ := hI
      have h1 := dstG_of hdst hi ho
      have hdp := depB_of ho hde
      have hput := hA.put hi (fun j hj q => hd j i hj hi q) (hs i hi)
      have hw : Region.wanted o (yielded l.toArray a'.tmps) = !skip i := by
        rcases guardsBy_of hgd hi ho with ⟨hg, hs1⟩ | ⟨g, b, hg, hgn, hdg, hgm, htv⟩
        · simp [Region.wanted, hg, hs1]
        · have hLg := hdp g hdg
          have hgot := hA.got g hgn hLg
          rw [hgv g hgm, htv] at hgot
          obtain ⟨og, hog⟩ : ∃ og, l.toArray[g]? = some og := ⟨_, Array.getElem?_eq_getElem (by simp; omega)⟩
          have hdg2 := dstG_of hdst hgn hog
          cases hsi : skip i <;> cases b <;> simp [Region.wanted, hg, yielded, hog, hdg2, hgot, hsi]
      cases hsi : skip i with
      | true =>
        rw [hsi] at hw
        unfold wpOp
        simp only [ho]
        rw [hw]
        simp only [Bool.not_true, Bool.false_eq_true, if_false]
        rw [h1, ← hsk i hsi]
        exact ⟨hput, hx⟩
      | false =>
        rw [hsi] at hw
        refine wpOp_wanted ho hw ?_
        obtain ⟨o', ho', hrun⟩ := hstep L i a' w' hi hLi hsi hdp hA hx
        rw [ho] at ho'
        cases ho'
        refine wp_runs hrun ?_
        rw [h1]
        exact ⟨hput, hx⟩)
    (fun a' w' hI => by
      obtain ⟨hA, hx⟩ := hI
      have hall : ∀ i, i < n → (fun j => (listN n (l.length - n)).getD j false) i = true := fun i hi => by simp [listN, hi, Array.getD_eq_getD_getElem?, List.getElem?_append]
      have ea : a' = putAll dst val a n := agree_one hA (putAll_agree hd hs n (Nat.le_refl _)) hall fun i hi => by simp [hi]
      subst ea
      have := wpAny_of_seq (md := .any) (Q' := Q) (l.drop n) n (listN n (l.length - n)) _ _ (fun j => by simp [List.getElem?_drop]) (by rw [hdl]; exact hseq) (hend w' hx)
      rwa [hdl] at this)
    n _ a w.drew inv (by rw [e0]; exact cntB_none n) (by rw [e0]; exact ⟨⟨rfl, rfl, fun j _ hl => (by cases hl), fun _ _ => rfl⟩, (Ext.refl w).drew⟩)
  rw [show n + (l.length - n) = l.toArray.size by simp; omega] at K
  exact K
end
section
variable {P : Program} {a : Act} {w : World} {o : Oper} {v : Value}
theorem gx_move (x : Operand) (ho : o.op = .move x) (hx : a.eval x = v) : (execOp a.eval o).run P w = .ok (.value v) w := by
  unfold execOp
  simp only [ho, hx, Sem.run_pure]
theorem gx_index (t : TypeId) (x ix : Operand) {p q : Value} (ho : o.op = .indexAddr t x ix) (hx : a.eval x = p) (hi : a.eval ix = q) (hrun : (Instr.indexAt t p q).run P w = .ok v w) : (execOp a.eval o).run P w = .ok (.value v) w := by
  unfold execOp
  simp only [ho, hx, hi, Sem.run_bind, hrun, Result.andThen_ok, Sem.run_pure]
theorem gx_field (t : TypeId) (x : Operand) (i : Nat) {p : Value} (ho : o.op = .fieldAddr t x i) (hx : a.eval x = p) (hrun : (Instr.fieldAt t p i).run P w = .ok v w) : (execOp a.eval o).run P w = .ok (.value v) w := by
  unfold execOp
  simp only [ho, hx, Sem.run_bind, hrun, Result.andThen_ok, Sem.run_pure]
theorem gx_load (ty : TypeId) (x : Operand) (ho : o.op = .load ty x) {p : Value} (hx : a.eval x = p) (hrun : (Instr.loadAt ty p).run P w = .ok v w) : (execOp a.eval o).run P w = .ok (.value v) w := by
  unfold execOp
  simp only [ho, hx, Sem.run_bind, hrun, Result.andThen_ok, Sem.run_pure]
theorem gx_bin (op : BinOp) (t t2 : TypeId) (x y : Operand) (ho : o.op = .binOp op t x y t2) {vx vy : Value} (hx : a.eval x = vx) (hy : a.eval y = vy) (hg : (eqGuard op t x y vx vy).run P w = .ok () w) (hrun : (binOp op t vx vy).run P w = .ok v w) : (execOp a.eval o).run P w = .ok (.value v) w := by
  unfold execOp
  simp only [ho, hx, hy, Sem.run_bind, hg, hrun, Result.andThen_ok, Sem.run_pure]
theorem eqg_int (op : BinOp) (t : TypeId) (x y : Operand) (k l : IntKind) (m n : Int) : (eqGuard op t x y (.int k m) (.int l n)).run P w = .ok () w := by
  cases op <;> simp [eqGuard, go_sem]
theorem eqg_bool (op : BinOp) (t : TypeId) (x y : Operand) (m n : Bool) : (eqGuard op t x y (.bool m) (.bool n)).run P w = .ok () w := by
  cases op <;> simp [eqGuard, go_sem]
theorem bin_lss (t : TypeId) {m n : Int} {b : Bool} (h : decide (m < n) = b) : (binOp .lss t (.int .i64 m) (.int .i64 n)).run P w = .ok (.bool b) w := by
  subst h
  simp [binOp, go_sem]
theorem bin_geq (t : TypeId) {m n : Int} {b : Bool} (h : decide (n ≤ m) = b) : (binOp .geq t (.int .i64 m) (.int .i64 n)).run P w = .ok (.bool b) w := by
  subst h
  simp [binOp, go_sem]
theorem bin_gtr (t : TypeId) {m n : Int} {b : Bool} (h : decide (n < m) = b) : (binOp .gtr t (.int .i64 m) (.int .i64 n)).run P w = .ok (.bool b) w := by
  subst h
  simp [binOp, go_sem]
theorem bin_neq (t : TypeId) {m n : Int} {b : Bool} (h : (m != n) = b) : (binOp .neq t (.int .i64 m) (.int .i64 n)).run P w = .ok (.bool b) w := by
  subst h
  simp [binOp, go_sem]
theorem eqIn_bool (d : Nat) (t : TypeId) (hu : P.underlying t = some .bool) (m : Bool) : (Op.equalIn (d + 1) t (.bool m) (.bool m)).run P w = .ok true w := by
  unfold Op.equalIn
  rw [Sem.run_bind, run_underlying hu]
  cases m <;> simp [go_sem]
theorem bin_neqB (t : TypeId) (hu : P.underlying t = some .bool) (m : Bool) : (binOp .neq t (.bool m) (.bool m)).run P w = .ok (.bool false) w := by
  have he : (Op.equal t (.bool m) (.bool m)).run P w = .ok true w := eqIn_bool 9999 t hu m
  cases m <;> simp [binOp, go_sem, he]
theorem bin_sub (t : TypeId) {m n : Int} (h : -9223372036854775808 ≤ m - n ∧ m - n ≤ 9223372036854775807) : (binOp .sub t (.int .i64 m) (.int .i64 n)).run P w = .ok (.int .i64 (m - n)) w := by
  have hw : IntKind.i64.wrap (m - n) = m - n := by rw [IntKind.wrap_i64]; omega
  simp [binOp, go_sem, hw]
theorem gx_pickf (x y z : Operand) (ho : o.op = .pick x y z) (hx : a.eval x = .bool false) (hz : a.eval z = v) : (execOp a.eval o).run P w = .ok (.value v) w := by
  unfold execOp
  simp only [ho, hx, hz, Sem.run_bind, Sem.run_pure]
  rfl
theorem gx_pickt (x y z : Operand) (ho : o.op = .pick x y z) (hx : a.eval x = .bool true) (hy : a.eval y = v) : (execOp a.eval o).run P w = .ok (.value v) w := by
  unfold execOp
  simp only [ho, hx, hy, Sem.run_bind, Sem.run_pure]
  rfl
end
end Go.Proofs.Ythgbfakmkdifbaa
/-
  RegInv and RegFix3 inside a fence: a region whose order is drawn; the first n operations keep an invariant in whatever order they come, each value told by a parameter; what is behind them comes in one order alone.
-/
namespace Go.Proofs.Ythgbfakmkdifbaa
open Go.RowKit Go.BigFrame Go.Deep
section
variable {F : Fence} {m : Nat} {P : Program} {ops : Array Oper} {md : Region.Mode} {Q : Exit → Act → World → Prop} {β : Type}
theorem any_of_invIn {n g : Nat} (hg : n + g = ops.size) (hs : Region.sinkB md ops n = true) (hc : Region.chainB md ops n = true) (hn : n < ops.size) (hu : upB ops = true)
    (I : (Nat → Bool) → Act → World → Prop)
    (hstep : ∀ (L : Nat → Bool) a w i o, i < n → ops[i]? = some o → L i = false → (∀ e ∈ o.after, Region.binds md e = true → L e.on = true) → I L a w → wpOpIn F m P ops Q i (I (updB L i)) a w)
    (hend : ∀ a w, I (fun j => (listN n g).getD j false) a w → wpAnyIn F m P md ops Q g (listN n g) a w) :
    ∀ (f : Nat) (listed : Array Bool) (a : Act) (w : World), HeadInv md ops n listed → cntB n (fun j => listed.getD j false) = f → I (fun j => listed.getD j false) a w → wpAnyIn F m P md ops Q (f + g) listed a w
  | 0, listed, a, w, inv, hf, hI => by
    have e : listed = listN n g := by
      apply Array.ext
      · rw [inv.size, ← hg]; simp [listN]
      · intro i h1 h2
        have hb := cntB_zero n hf
        by_cases hi : i < n
        · have := hb i hi
          simp only [Array.getD_eq_getD_getElem?, Array.getElem?_eq_getElem h1, Option.getD_some] at this
          rw [this]
          simp [listN, hi]
        · have := inv.tail i (by omega) (by rw [← inv.size]; exact h1)
          simp only [Array.getD_eq_getD_getElem?, Array.getElem?_eq_getElem h1, Option.getD_some] at this
          rw [this]
          simp [listN, hi, List.getElem_append]
    subst e
    rw [Nat.zero_add]
    exact hend a w hI
  | f + 1, listed, a, w, inv, hf, hI => by
    rw [show f + 1 + g = f + g + 1 by omega]
    obtain ⟨i0, hi0, hl0⟩ := cntB_pos (L := fun j => listed.getD j false) n (by omega)
    have hun : listed.getD i0 true = false := by
      have h1 : i0 < listed.size := by rw [inv.size]; omega
      simp only [Array.getD_eq_getD_getElem?, Array.getElem?_eq_getElem h1, Option.getD_some] at hl0 ⊢
      exact hl0
    constructor
    · intro he
      obtain ⟨j, hj, h1, h2⟩ := least_no (L := fun j => listed.getD j false) i0 hl0
      have hjs : j < ops.size := by omega
      have hmem : j ∈ Region.ready md ops listed := by
        refine mem_ready.2 ⟨?_, ops[j], by simp [hjs], fun e hee _ => h2 _ (upB_of hu (o := ops[j]) (by simp [hjs]) e hee)⟩
        have h3 : j < listed.size := by rw [inv.size]; omega
        simp only [Array.getD_eq_getD_getElem?, Array.getElem?_eq_getElem h3, Option.getD_some] at h1 ⊢
        exact h1
      rw [he] at hmem
      cases hmem
    · intro i hi
      have hin : i < n := Nat.lt_of_not_le fun hge => tail_waits hs hc hn inv _ i0 rfl hi0 hun i hge hi
      obtain ⟨hi1, o, ho, hd⟩ := mem_ready.1 hi
      have hsz : i < listed.size := by rw [inv.size]; omega
      have hLi : (fun j => listed.getD j false) i = false := by
        simp only [Array.getD_eq_getD_getElem?, Array.getElem?_eq_getElem hsz, Option.getD_some] at hi1 ⊢
        exact hi1
      refine wpOpIn_mono (fun a' w' hI' => ?_) (hstep _ a w i o hin ho hLi hd hI)
      refine any_of_invIn hg hs hc hn hu I hstep hend f (listed.setIfInBounds i true) a' w' (inv.set hi hin) ?_ ?_
      · rw [getD_upd hsz]
        have := cntB_upd (L := fun j => listed.getD j false) hLi n hin
        omega
      · rw [getD_upd hsz]; exact hI'
theorem wpAnyIn_of_seq : ∀ (l : List Oper) (k : Nat) (listed : Array Bool) (a : Act) (w : World), (∀ j, l[j]? = ops[k + j]?) →
    Region.seqB md ops l.length k listed = true → wpListIn F m P ops Q l a w → wpAnyIn F m P md ops Q l.length listed a w
  | [], _, _, _, _, _, hB, h => ⟨by simpa [Region.seqB] using hB, h⟩
  | o :: l, k, listed, a, w, hl, hB, h => by
    have h0 : ops[k]? = some o := by simpa using (hl 0).symm
    simp only [List.length_cons, Region.seqB, Bool.and_eq_true, decide_eq_true_eq] at hB
    refine ⟨fun h1 => (by rw [hB.1] at h1; cases h1), fun i hi => ?_⟩
    rw [hB.1] at hi
    have hik : i = k := by simpa using hi
    subst hik
    have hw : wpOpIn F m P ops Q i (wpListIn F m P ops Q l) a w := by unfold wpOpIn; simp only [h0]; exact h
    exact wpOpIn_mono (fun a' w' h' => wpAnyIn_of_seq l (i + 1) _ a' w' (fun j => by have := hl (j + 1); simpa [Nat.add_assoc, Nat.add_comm 1 j] using this) hB.2 h') hw
theorem wpOpIn_wanted {i : Nat} {o : Oper} {a : Act} {w : World} {K : Act → World → Prop} (ho : ops[i]? = some o) (hw : Region.wanted o (yielded ops a.tmps) = true) (h : o.wpIn F m P a w K Q) : wpOpIn F m P ops Q i K a w := by
  unfold wpOpIn
  simp only [ho]
  rw [if_pos hw]
  exact h
theorem wpIn_region_fixed3 {id : Nat} {a : Act} {w : World} {l : List Oper} (n : Nat) (hm : P.follows .mixedOrders = true)
    (hB : (decide (n < l.length) && Region.sinkB .any l.toArray n && Region.chainB .any l.toArray n && upB l.toArray && Region.seqB .any l.toArray (l.length - n) n (listN n (l.length - n))) = true)
    (dst : Nat → Tmp) (val : β → Nat → Value) (J : β → (Nat → Bool) → World → Prop)
    (hdst : dstG l dst n = true) (hgd : guardsIn l n [] = true) (hd : ∀ i j, i < n → j < n → dst i = dst j → i = j) (hs : ∀ i, i < n → dst i < a.tmps.size)
    (p0 : β) (h0 : J p0 (fun _ => false) w.drew)
    (hstep : ∀ p L i a' w', i < n → L i = false → (∀ d, depB l.toArray i d = true → L d = true) → (∀ j d, j < n → L j = true → depB l.toArray j d = true → L d = true) → Agree n dst (val p) L a a' → J p L w' →
      ∃ o, l.toArray[i]? = some o ∧ ∀ K : Act → World → Prop, (∀ p' w'', (∀ j, j < n → L j = true → val p' j = val p j) → J p' (updB L i) w'' → K (a'.put o.dst (val p' i)) w'') → o.wpIn F m P a' w' K Q)
    (hend : ∀ p L w', (∀ i, i < n → L i = true) → J p L w' → wpListIn F m P l.toArray Q (l.drop n) (putAll dst (val p) a n) w') : (Code.region id l.toArray true).wpIn F m P Q a w := by
  simp only [Bool.and_eq_true, decide_eq_true_eq] at hB
  obtain ⟨⟨⟨⟨hn, hsk⟩, hc⟩, hu⟩, hseq⟩ := hB
  have hdl : (l.drop n).length = l.length - n := by simp
  have inv : HeadInv .any l.toArray n (Array.replicate l.toArray.size false) :=
    ⟨by simp, fun j oj _ hl => (by rw [getD_replicate_false] at hl; cases hl), fun t _ ht => getD_in (by simpa using ht) (getD_replicate_false _ _)⟩
  refine wpIn_region_any hm ?_
  have e0 : (fun j => (Array.replicate l.toArray.size false).getD j false) = fun _ => false := by funext j; exact getD_replicate_false _ _
  have K := any_of_invIn (F := F) (m := m) (P := P) (Q := Q) (md := .any) (ops := l.toArray) (n := n) (g := l.length - n) (by simp; omega) hsk hc (by simpa using hn) hu (fun L a' w' => ∃ p, (Agree n dst (val p) L a a' ∧ ∀ j d, j < n → L j = true → depB l.toArray j d = true → L d = true) ∧ J p L w')
    (fun L a' w' i o hi ho hLi hde hI => by
      obtain ⟨p, ⟨hA, hcl⟩, hJ⟩ := hI
      have h1 := dstG_of hdst hi ho
      have hdp := depB_of ho hde
      have hw : Region.wanted o (yielded l.toArray a'.tmps) = true := by
        cases hg : o.guard with
        | none => simp [Region.wanted, hg]
        | some gb =>
          have := guardsIn_of (g := gb.1) (b := gb.2) hgd hi ho hg
          cases this
      refine wpOpIn_wanted ho hw ?_
      obtain ⟨o', ho', hrun⟩ := hstep p L i a' w' hi hLi hdp hcl hA hJ
      rw [ho] at ho'
      cases ho'
      refine hrun _ fun p' w'' hp hJ' => ?_
      refine ⟨p', ?_, hJ'⟩
      have hA' : Agree n dst (val p') L a a' := ⟨hA.size, hA.defers, fun j hj hl => by rw [hp j hj hl]; exact hA.got j hj hl, hA.old⟩
      rw [h1]
      refine ⟨hA'.put hi (fun j hj q => hd j i hj hi q) (hs i hi), fun j d hj hl hdd => ?_⟩
      have hLd : L d = true := by
        unfold updB at hl
        by_cases e : j = i
        · subst e
          exact hdp d hdd
        · rw [if_neg e] at hl
          exact hcl j d hj hl hdd
      unfold updB
      split
      · rfl
      · exact hLd)
    (fun a' w' hI => by
      obtain ⟨p, ⟨hA, _⟩, hJ⟩ := hI
      have hall : ∀ i, i < n → (fun j => (listN n (l.length - n)).getD j false) i = true := fun i hi => by simp [listN, hi, Array.getD_eq_getD_getElem?, List.getElem?_append]
      have ea : a' = putAll dst (val p) a n := agree_one hA (putAll_agree hd hs n (Nat.le_refl _)) hall fun i hi => by simp [hi]
      subst ea
      have := wpAnyIn_of_seq (F := F) (m := m) (P := P) (md := .any) (Q := Q) (l.drop n) n (listN n (l.length - n)) _ _ (fun j => by simp [List.getElem?_drop]) (by rw [hdl]; exact hseq) (hend p _ w' hall hJ)
      rwa [hdl] at this)
    n _ a w.drew inv (by rw [e0]; exact cntB_none n) (by rw [e0]; exact ⟨p0, ⟨⟨rfl, rfl, fun j _ hl => (by cases hl), fun _ _ => rfl⟩, fun j d _ hl _ => (by cases hl)⟩, h0⟩)
  rw [show n + (l.length - n) = l.toArray.size by simp; omega] at K
  exact K
theorem wpIn_runs {o : Oper} {a : Act} {w w' : World} {v : Value} {K : Act → World → Prop} (hc : ∀ c, o.op ≠ .call c) (hf : ∀ c, o.op ≠ .defer c) (h : (execOp a.eval o).run P w = .ok (.value v) w') (k : K (a.put o.dst v) w') : o.wpIn F m P a w K Q := by
  unfold Oper.wpIn
  refine ⟨fun f hf' => ?_, ?_⟩
  · unfold Oper.about at hf'
    split at hf'
    · next c e => exact absurd e (hc c)
    · cases hf'
  · rw [Oper.semAt_plain F _ _ hf, h]
    exact k
theorem wpIn_callsV {o : Oper} {a : Act} {w : World} {K : Act → World → Prop} (f : FuncId) {fn : Func} (hfn : P.funcs[f]? = some fn) (hnm : (fn.name == "runtime.NumGoroutine") = false) (hbd : fn.body.isNone = false) (args : List Operand) (ts : Array TypeId)
    (ho : o.op = .call { callee := .value (.func f), args := args.toArray, argTypes := ts }) (vals : List Value) (hv : args.map a.eval = vals) (R : Value → World → Prop) (hF : F.fn f) (h1 : 1 ≤ m) (hc : CallsIn F (m - 1) P f vals.toArray w fun e w' => ∃ v, e = .returned v ∧ R v w')
    (h : ∀ v w', R v w' → K (a.put o.dst v) w') : o.wpIn F m P a w K Q := by
  have hx : (execOp a.eval o).run P w = .ok (.enter f vals.toArray) w := by
    subst hv
    simp only [beq_eq_false_iff_ne] at hnm
    simp only [Option.isNone_eq_false_iff] at hbd
    obtain ⟨b, hb⟩ := Option.isSome_iff_exists.1 hbd
    simp [execOp, ho, resolve, invoke, Act.eval, Deferred.ofValue, callFunc, hfn, hnm, hb]
  unfold Oper.wpIn
  refine ⟨fun g hg => ?_, ?_⟩
  · subst hv
    simp [Oper.about, ho, resolve, Act.eval, Deferred.ofValue, Target.leads] at hg
    subst hg
    exact hF
  · rw [Oper.semAt_plain F _ _ (by rw [ho]; intro c hc'; cases hc'), hx, Oper.uponIn_enter]
    refine ⟨fun _ => h1, hc.mono fun e w' hh => ?_⟩
    obtain ⟨v, he, hr⟩ := hh
    rw [he]
    exact h v w' hr
end
end Go.Proofs.Ythgbfakmkdifbaa
