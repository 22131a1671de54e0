/-
  A region whose order is drawn: its first n operations keep an invariant, in whatever order they come, what is behind them comes in one order alone.
-/
import Derived.StillTail
import Derived.WalkKit
import Derived.BigFrame
import Derived.Test.YthgbfakmkdifbaaMm
import Derived.Test.YthgbfakmkdifbaaApps
namespace Go.Proofs.Ythgbfakmkdifbaa
open Go.RowKit Go.Deep
def cntB : Nat → (Nat → Bool) → Nat
  | 0, _ => 0
  | n + 1, L => cntB n L + if L n = true then 0 else 1
def updB (L : Nat → Bool) (i j : Nat) : Bool := if j = i then true else L j
theorem cntB_congr {L M : Nat → Bool} : ∀ n, (∀ i, i < n → L i = M i) → cntB n L = cntB n M
  | 0, _ => rfl
  | n + 1, h => by
    unfold cntB
    rw [cntB_congr n fun i hi => h i (by omega), h n (by omega)]
theorem cntB_upd {L : Nat → Bool} {i : Nat} (hL : L i = false) : ∀ n, i < n → cntB n L = cntB n (updB L i) + 1
  | n + 1, h => by
    by_cases e : i = n
    · subst e
      unfold cntB
      rw [cntB_congr i (L := L) (M := updB L i) fun j hj => by unfold updB; rw [if_neg (by omega)], hL]
      simp [updB]
    · unfold cntB
      rw [cntB_upd hL n (by omega)]
      have : updB L i n = L n := by unfold updB; rw [if_neg (by omega)]
      rw [this]
      omega
theorem cntB_zero {L : Nat → Bool} : ∀ n, cntB n L = 0 → ∀ i, i < n → L i = true
  | n + 1, h, i, hi => by
    unfold cntB at h
    by_cases hn : L n = true
    · by_cases e : i = n
      · rw [e]; exact hn
      · exact cntB_zero n (by omega) i (by omega)
    · rw [if_neg hn] at h; omega
theorem cntB_pos {L : Nat → Bool} : ∀ n, cntB n L ≠ 0 → ∃ i, i < n ∧ L i = false
  | 0, h => absurd rfl h
  | n + 1, h => by
    by_cases hn : L n = true
    · unfold cntB at h
      rw [if_pos hn] at h
      obtain ⟨i, hi, hl⟩ := cntB_pos n (by omega)
      exact ⟨i, by omega, hl⟩
    · exact ⟨n, by omega, by simpa using hn⟩
theorem cntB_none : ∀ n, cntB n (fun _ => false) = n
  | 0 => rfl
  | n + 1 => by unfold cntB; rw [cntB_none n]; simp
theorem least_no {L : Nat → Bool} : ∀ i, L i = false → ∃ j, j ≤ i ∧ L j = false ∧ ∀ k, k < j → L k = true := by
  intro i
  induction i using Nat.strongRecOn with
  | _ i ih =>
    intro h
    by_cases hall : ∀ k, k < i → L k = true
    · exact ⟨i, Nat.le_refl _, h, hall⟩
    · have : ∃ k, k < i ∧ L k = false := by
        apply Classical.byContradiction
        intro hc
        exact hall fun k hk => by
          cases hb : L k
          · exact absurd ⟨k, hk, hb⟩ hc
          · rfl
      obtain ⟨k, hk, hb⟩ := this
      obtain ⟨j, hj, h1, h2⟩ := ih k hk hb
      exact ⟨j, by omega, h1, h2⟩
/-- what an operation waits for stands ahead of it in the text -/
def upB (ops : Array Oper) : Bool := (List.range ops.size).all fun i => match ops[i]? with | some o => o.after.all fun e => decide (e.on < i) | none => true
theorem upB_of {ops : Array Oper} (h : upB ops = true) {i : Nat} {o : Oper} (ho : ops[i]? = some o) : ∀ e ∈ o.after, e.on < i := by
  have hi : i < ops.size := (Array.getElem?_eq_some_iff.1 ho).1
  have h1 := (List.all_eq_true.1 h) i (List.mem_range.2 hi)
  simp only [ho, Array.all_eq_true_iff_forall_mem, decide_eq_true_eq] at h1
  exact h1
def listN (n g : Nat) : Array Bool := (List.replicate n true ++ List.replicate g false).toArray
section
variable {P : Program} {ops : Array Oper} {md : Region.Mode} {Q : Exit → Act → World → Prop}
theorem getD_upd {listed : Array Bool} {i : Nat} (hi : i < listed.size) : (fun j => (listed.setIfInBounds i true).getD j false) = updB (fun j => listed.getD j false) i := by
  funext j
  unfold updB
  by_cases e : j = i
  · subst e
    rw [if_pos rfl]
    simp [hi]
  · rw [if_neg e]
    simp [Array.getD_eq_getD_getElem?, Ne.symm e]
theorem any_of_inv {n g : Nat} (hg : n + g = ops.size) (hs : Region.sinkB md ops n = true) (hc : Region.chainB md ops n = true) (hn : n < ops.size) (hu : upB ops = true)
    (I : (Nat → Bool) → Act → World → Prop)
    (hstep : ∀ (L : Nat → Bool) a w i o, i < n → ops[i]? = some o → L i = false → (∀ e ∈ o.after, Region.binds md e = true → L e.on = true) → I L a w → wpOp P ops Q i (I (updB L i)) a w)
    (hend : ∀ a w, I (fun j => (listN n g).getD j false) a w → wpAny P md ops Q g (listN n g) a w) :
    ∀ (f : Nat) (listed : Array Bool) (a : Act) (w : World), HeadInv md ops n listed → cntB n (fun j => listed.getD j false) = f → I (fun j => listed.getD j false) a w → wpAny P md ops Q (f + g) listed a w
  | 0, listed, a, w, inv, hf, hI => by
    have e : listed = listN n g := by
      apply Array.ext
      · rw [inv.size, ← hg]; simp [listN]
      · intro i h1 h2
        have hb := cntB_zero n hf
        by_cases hi : i < n
        · have := hb i hi
          simp only [Array.getD_eq_getD_getElem?, Array.getElem?_eq_getElem h1, Option.getD_some] at this
          rw [this]
          simp [listN, hi]
        · have := inv.tail i (by omega) (by rw [← inv.size]; exact h1)
          simp only [Array.getD_eq_getD_getElem?, Array.getElem?_eq_getElem h1, Option.getD_some] at this
          rw [this]
          simp [listN, hi, List.getElem_append]
    subst e
    rw [Nat.zero_add]
    exact hend a w hI
  | f + 1, listed, a, w, inv, hf, hI => by
    rw [show f + 1 + g = f + g + 1 by omega]
    obtain ⟨i0, hi0, hl0⟩ := cntB_pos (L := fun j => listed.getD j false) n (by omega)
    have hun : listed.getD i0 true = false := by
      have h1 : i0 < listed.size := by rw [inv.size]; omega
      simp only [Array.getD_eq_getD_getElem?, Array.getElem?_eq_getElem h1, Option.getD_some] at hl0 ⊢
      exact hl0
    constructor
    · intro he
      obtain ⟨j, hj, h1, h2⟩ := least_no (L := fun j => listed.getD j false) i0 hl0
      have hjs : j < ops.size := by omega
      have hmem : j ∈ Region.ready md ops listed := by
        refine mem_ready.2 ⟨?_, ops[j], by simp [hjs], fun e hee _ => h2 _ (upB_of hu (o := ops[j]) (by simp [hjs]) e hee)⟩
        have h3 : j < listed.size := by rw [inv.size]; omega
        simp only [Array.getD_eq_getD_getElem?, Array.getElem?_eq_getElem h3, Option.getD_some] at h1 ⊢
        exact h1
      rw [he] at hmem
      cases hmem
    · intro i hi
      have hin : i < n := Nat.lt_of_not_le fun hge => tail_waits hs hc hn inv _ i0 rfl hi0 hun i hge hi
      obtain ⟨hi1, o, ho, hd⟩ := mem_ready.1 hi
      have hsz : i < listed.size := by rw [inv.size]; omega
      have hLi : (fun j => listed.getD j false) i = false := by
        simp only [Array.getD_eq_getD_getElem?, Array.getElem?_eq_getElem hsz, Option.getD_some] at hi1 ⊢
        exact hi1
      refine wpOp_mono (fun a' w' hI' => ?_) (hstep _ a w i o hin ho hLi hd hI)
      refine any_of_inv hg hs hc hn hu I hstep hend f (listed.setIfInBounds i true) a' w' (inv.set hi hin) ?_ ?_
      · rw [getD_upd hsz]
        have := cntB_upd (L := fun j => listed.getD j false) hLi n hin
        omega
      · rw [getD_upd hsz]; exact hI'
/-- does operation i wait for operation d -/
def depB (ops : Array Oper) (i d : Nat) : Bool := match ops[i]? with | some o => o.after.any fun e => Region.binds .any e && e.on == d | none => false
theorem depB_of {ops : Array Oper} {i : Nat} {o : Oper} (ho : ops[i]? = some o) {L : Nat → Bool} (h : ∀ e ∈ o.after, Region.binds .any e = true → L e.on = true) : ∀ d, depB ops i d = true → L d = true := by
  intro d hd
  unfold depB at hd
  simp only [ho, Array.any_eq_true] at hd
  obtain ⟨k, hk, he⟩ := hd
  simp only [Bool.and_eq_true, beq_iff_eq] at he
  have := h _ (Array.getElem_mem hk) he.1
  rwa [he.2] at this
theorem wp_region_inv {id : Nat} {a : Act} {w : World} {l : List Oper} (n : Nat) (hm : P.follows .mixedOrders = true)
    (hB : (decide (n < l.length) && Region.sinkB .any l.toArray n && Region.chainB .any l.toArray n && upB l.toArray && Region.seqB .any l.toArray (l.length - n) n (listN n (l.length - n))) = true)
    (I : (Nat → Bool) → Act → World → Prop) (h0 : I (fun _ => false) a w.drew)
    (hstep : ∀ (L : Nat → Bool) a w i, i < n → (∀ d, depB l.toArray i d = true → L d = true) → I L a w → wpOp P l.toArray Q i (I (updB L i)) a w)
    (hend : ∀ L a w, (∀ i, i < n → L i = true) → I L a w → wpList P l.toArray Q (l.drop n) a w) : (Code.region id l.toArray true).wp P Q a w := by
  simp only [Bool.and_eq_true, decide_eq_true_eq] at hB
  obtain ⟨⟨⟨⟨hn, hs⟩, hc⟩, hu⟩, hseq⟩ := hB
  have hd : (l.drop n).length = l.length - n := by simp
  have inv : HeadInv .any l.toArray n (Array.replicate l.toArray.size false) :=
    ⟨by simp, fun j oj _ hl => (by rw [getD_replicate_false] at hl; cases hl), fun t _ ht => getD_in (by simpa using ht) (getD_replicate_false _ _)⟩
  refine wp_region_any hm ?_
  have e0 : (fun j => (Array.replicate l.toArray.size false).getD j false) = fun _ => false := by funext j; exact getD_replicate_false _ _
  have K := any_of_inv (P := P) (Q := Q) (md := .any) (ops := l.toArray) (n := n) (g := l.length - n) (by simp; omega) hs hc (by simpa using hn) hu I (fun L a w i o hi ho _ hd hI => hstep L a w i hi (depB_of ho hd) hI)
    (fun a' w' hI => by
      have := wpAny_of_seq (md := .any) (Q' := Q) (l.drop n) n (listN n (l.length - n)) a' w' (fun j => by simp [List.getElem?_drop]) (by rw [hd]; exact hseq) (hend _ a' w' (fun i hi => by simp [listN, hi, Array.getD_eq_getD_getElem?, List.getElem?_append]) hI)
      rwa [hd] at this)
    n _ a w.drew inv (by rw [e0]; exact cntB_none n) (by rw [e0]; exact h0)
  rw [show n + (l.length - n) = l.toArray.size by simp; omega] at K
  exact K
theorem wpOp_of {i : Nat} {o : Oper} {a : Act} {w : World} {K : Act → World → Prop} (ho : ops[i]? = some o) (hg : o.guard = none) (h : o.wp P a w K Q) : wpOp P ops Q i K a w := by
  unfold wpOp
  simp only [ho]
  have hw : Region.wanted o (yielded ops a.tmps) = true := by simp [Region.wanted, hg]
  rw [if_pos hw]
  exact Or.inl h
theorem wp_calls {o : Oper} {a : Act} {w : World} {K : Act → World → Prop} (hgd : o.guard = none) (f : FuncId) {fn : Func} (hfn : P.funcs[f]? = some fn) (hnm : (fn.name == "runtime.NumGoroutine") = false) (hbd : fn.body.isNone = false) (args : List Operand) (ts : Array TypeId)
    (ho : o.op = .call { callee := .value (.func f), args := args.toArray, argTypes := ts }) (vals : List Value) (hv : args.map a.eval = vals) (v : Value) (R : World → Prop) (hc : Calls P f vals.toArray w fun e w' => e = .returned v ∧ R w')
    (h : ∀ w', R w' → K (a.put o.dst v) w') : Oper.wp P o a w K Q := by
  have := step_call (ops := #[]) (Q := Q) (X := True) hgd f hfn hnm hbd args ts ho vals hv v R hc h
  have hw : Region.wanted o (yielded #[] a.tmps) = true := by simp [Region.wanted, hgd]
  rwa [if_pos hw] at this
theorem wp_allocs {o : Oper} {a : Act} {w : World} {K : Act → World → Prop} (t : TypeId) (ho : o.op = .alloc t) (cs : Array Value) (hz : ∀ w, (zeroValue t).run P w = .ok (.agg cs) w) (h : K (a.put o.dst (.pointer (some ⟨w.heap.size, 0, none⟩))) (w.alloc (.cells cs t))) : Oper.wp P o a w K Q := by
  unfold Oper.wp execOp
  simp only [ho]
  simp [Instr.alloc, hz, go_sem]
  exact h
end
end Go.Proofs.Ythgbfakmkdifbaa
