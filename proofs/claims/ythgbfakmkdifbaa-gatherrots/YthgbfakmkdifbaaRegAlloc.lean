/-
  A region whose order is drawn: its first n operations leave the world as it is and yield the same ahead of a new block and behind it, operation n lays the block (whenever it comes), what is behind comes in one order alone: then one walk of the text's order serves, at both worlds.
-/
import Derived.StillTail
import Derived.WalkKit
import Derived.BigFrame
import Derived.Test.YthgbfakmkdifbaaMm
namespace Go.Proofs.Ythgbfakmkdifbaa
open Go.RowKit Go.Deep
section
variable {P : Program} {ops : Array Oper} {md : Region.Mode} {wd wa : World}
theorem still_yields {w : World} {Q : Act → Prop} {o : Oper} {l : List Oper} {a : Act} (h : wpStill P ops w Q (o :: l) a) : ∃ v, YieldsAt P ops w o v a ∧ wpStill P ops w Q l (a.put o.dst v) := by
  unfold wpStill at h
  by_cases hw : Region.wanted o (yielded ops a.tmps) = true
  · simp only [hw, if_true, Oper.still] at h
    generalize hr : (execOp a.eval o).run P w = r at h
    cases r with
    | ok n w' =>
      cases n <;> simp only [Oper.stillUpon] at h
      case value u => obtain ⟨rfl, h2⟩ := h; exact ⟨u, .inl ⟨hw, .inl hr⟩, h2⟩
      case skip => obtain ⟨rfl, h2⟩ := h; exact ⟨undef, .inl ⟨hw, .inr (.inl ⟨hr, rfl⟩)⟩, h2⟩
      case enter f args => obtain ⟨rfl, v, hc, h2⟩ := h; exact ⟨v, .inl ⟨hw, .inr (.inr ⟨f, args, hr, hc⟩)⟩, h2⟩
    | halt x w' => simp only [Oper.stillUpon] at h
  · simp only [hw] at h
    exact ⟨undef, .inr ⟨by simpa using hw, rfl⟩, h⟩
def bOp (P : Program) (ops : Array Oper) (wd wa : World) (i : Nat) (K : Act → Prop) (a : Act) : Prop :=
  ∃ o v, ops[i]? = some o ∧ YieldsAt P ops wd o v a ∧ YieldsAt P ops wa o v a ∧ K (a.put o.dst v)
theorem bOp_mono {i : Nat} {a : Act} {K K' : Act → Prop} (h : ∀ a, K a → K' a) (hh : bOp P ops wd wa i K a) : bOp P ops wd wa i K' a := by
  obtain ⟨o, v, h1, h2, h3, h4⟩ := hh
  exact ⟨o, v, h1, h2, h3, h _ h4⟩
theorem bOp_put {j : Nat} {oi oj : Oper} {v : Value} (hj : ops[j]? = some oj) (hap : oi.apart ops oj = true) (hsi : ∀ cs b, oi.op ≠ .select cs b) (hsj : ∀ cs b, oj.op ≠ .select cs b) {K : Act → Prop} {a : Act}
    (hd : YieldsAt P ops wd oi v a) (ha : YieldsAt P ops wa oi v a) (h : bOp P ops wd wa j K (a.put oi.dst v)) :
    bOp P ops wd wa j (fun a' => (YieldsAt P ops wd oi v a' ∧ YieldsAt P ops wa oi v a') ∧ K (a'.put oi.dst v)) a := by
  obtain ⟨h1, h2, h3⟩ := Oper.apart_spec hap
  obtain ⟨o, u, ho, y1, y2, hk⟩ := h
  obtain rfl : o = oj := Option.some.inj (ho.symm.trans hj)
  have he := execOp_put o hsj a oi.dst v h1
  have hw := wanted_put o a oi.dst v h1
  have ke := execOp_put oi hsi a o.dst u h3
  have kw := wanted_put oi a o.dst u h3
  exact ⟨o, u, hj, y1.of_same he.symm hw.symm, y2.of_same he.symm hw.symm, ⟨hd.of_same ke kw, ha.of_same ke kw⟩, by rw [← Act.put_comm a v u h2]; exact hk⟩
def wpAnyB (P : Program) (md : Region.Mode) (ops : Array Oper) (wd wa : World) (n : Nat) (L : Array Bool → Act → Prop) : Nat → Array Bool → Act → Prop
  | 0, listed, a => L listed a
  | f + 1, listed, a => Region.ready md ops listed ≠ [] ∧ ∀ i ∈ Region.ready md ops listed, i < n ∧ bOp P ops wd wa i (wpAnyB P md ops wd wa n L f (listed.setIfInBounds i true)) a
theorem wpAnyB_first {n i : Nat} {oi : Oper} {v : Value} {L : Array Bool → Act → Prop} (hi : ops[i]? = some oi) (hsel : ∀ (j : Nat) (o : Oper) cs b, ops[j]? = some o → o.op ≠ .select cs b)
    (hs : Region.sinkB md ops n = true) (hc : Region.chainB md ops n = true) (hn : n < ops.size) (hin : i < n) (hdone : ∀ listed a, L listed a → ∀ j ∈ Region.ready md ops listed, n ≤ j) :
    ∀ (f : Nat) (listed : Array Bool) (a : Act), HeadInv md ops n listed →
      (∀ j oj, ops[j]? = some oj → j ≠ i → listed.getD j true = false → (∀ e ∈ oj.after, Region.binds md e = true → e.on ≠ i) → oi.apart ops oj = true) →
      i ∈ Region.ready md ops listed → YieldsAt P ops wd oi v a → YieldsAt P ops wa oi v a →
      wpAnyB P md ops wd wa n L f (listed.setIfInBounds i true) (a.put oi.dst v) → wpAnyB P md ops wd wa n L (f + 1) listed a := by
  intro f
  induction f with
  | zero =>
    intro listed a inv _ hr hy hy' H
    have hun := (mem_ready.1 hr).1
    refine ⟨fun h => (by rw [h] at hr; cases hr), fun j hj => ?_⟩
    have hjn : j < n := Nat.lt_of_not_le fun h => tail_waits hs hc hn inv _ i rfl hin hun j h hj
    refine ⟨hjn, ?_⟩
    by_cases hji : j = i
    · subst hji; exact ⟨oi, v, hi, hy, hy', H⟩
    · exact absurd (hdone _ _ H j (ready_mono hj hji)) (by omega)
  | succ f ih =>
    intro listed a inv hfree hr hy hy' H
    have hun := (mem_ready.1 hr).1
    refine ⟨fun h => (by rw [h] at hr; cases hr), fun j hj => ?_⟩
    have hjn : j < n := Nat.lt_of_not_le fun h => tail_waits hs hc hn inv _ i rfl hin hun j h hj
    refine ⟨hjn, ?_⟩
    by_cases hji : j = i
    · subst hji; exact ⟨oi, v, hi, hy, hy', H⟩
    · have h1 := (H.2 j (ready_mono hj hji)).2
      obtain ⟨hjun, oj, hoj, hall⟩ := mem_ready.1 hj
      have hnot : ∀ e ∈ oj.after, Region.binds md e = true → e.on ≠ i := fun e he hb heq => by
        have h1 := hall e he hb
        rw [heq, getD_both hun] at h1
        cases h1
      have h2 := bOp_put hoj (hfree j oj hoj hji hjun hnot) (fun cs b => hsel i oi cs b hi) (fun cs b => hsel j oj cs b hoj) hy hy' h1
      refine bOp_mono (fun a' h3 => ih (listed.setIfInBounds j true) a' (inv.set hj hjn) (fun k ok hk hki hun hno => ?_) (ready_mono hr (Ne.symm hji)) h3.1.1 h3.1.2 ?_) h2
      · refine hfree k ok hk hki ?_ hno
        by_cases hjk : j = k
        · subst hjk; exact hjun
        · rw [getD_set_ne true hjk] at hun; exact hun
      · rw [Array.setIfInBounds_comm _ _ hji]
        exact h3.2
def lexHeadA (md : Region.Mode) (ops : Array Oper) (g n : Nat) : Nat → Nat → Array Bool → Bool
  | 0, _, listed => Region.seqB md ops g n listed
  | f + 1, k, listed => (Region.ready md ops listed).contains k && Region.free md ops listed k && lexHeadA md ops g n f (k + 1) (listed.setIfInBounds k true)
/-- each operation writes a slot of its own, of the first m -/
def dstsB (m : Nat) : List Oper → Bool
  | [] => true
  | o :: l => (match o.dst with | some d => decide (d < m) && l.all fun p => p.dst != some d | none => false) && dstsB m l
theorem still_keeps {w : World} {A : Act} {d : Tmp} : ∀ (l : List Oper) (a : Act), (l.all fun p => p.dst != some d) = true → wpStill P ops w (fun a' => a' = A) l a → A.tmps[d]? = a.tmps[d]?
  | [], a, _, h => by
    have h : a = A := h
    rw [h]
  | o :: l, a, hd, h => by
    obtain ⟨v, _, hK⟩ := still_yields h
    simp only [List.all_cons, Bool.and_eq_true] at hd
    rw [still_keeps l _ hd.2 hK]
    cases hq : o.dst with
    | none => rfl
    | some e =>
      have hne : e ≠ d := fun q => by rw [hq, q] at hd; simp at hd
      simp [Act.put, Array.getElem?_setIfInBounds_ne hne]
theorem wpAnyB_lex {n g m : Nat} {A : Act} (hsel : Region.noSelect ops = true) (hs : Region.sinkB md ops n = true) (hc : Region.chainB md ops n = true) (hn : n < ops.size) :
    ∀ (l : List Oper) (k : Nat) (listed : Array Bool) (a : Act), (∀ j, j < l.length → l[j]? = ops[k + j]?) → k + l.length < n → HeadInv md ops n listed → dstsB m l = true → a.tmps.size = m →
    lexHeadA md ops g n l.length k listed = true → wpStill P ops wd (fun a' => a' = A) l a → wpStill P ops wa (fun a' => a' = A) l a →
    wpAnyB P md ops wd wa n (fun listed' a' => Region.seqB md ops g n listed' = true ∧ a' = A) l.length listed a
  | [], k, listed, a, _, _, _, _, _, hB, h, _ => ⟨by simpa [lexHeadA] using hB, h⟩
  | o :: l, k, listed, a, hl, hk, inv, hd, hsz, hB, h, h' => by
    have h0 : ops[k]? = some o := by simpa using (hl 0 (by simp)).symm
    simp only [List.length_cons] at hk
    simp only [List.length_cons, lexHeadA, Bool.and_eq_true] at hB
    obtain ⟨⟨hr, hf⟩, hB'⟩ := hB
    have hr' : k ∈ Region.ready md ops listed := by simpa using hr
    obtain ⟨v, hy, hK⟩ := still_yields h
    obtain ⟨v', hy', hK'⟩ := still_yields h'
    simp only [dstsB, Bool.and_eq_true] at hd
    have hvv : v' = v := by
      cases hq : o.dst with
      | none => rw [hq] at hd; simp at hd
      | some e =>
        rw [hq] at hd hK hK'
        simp only [Bool.and_eq_true, decide_eq_true_eq] at hd
        have e1 := still_keeps l _ hd.1.2 hK
        have e2 := still_keeps l _ hd.1.2 hK'
        have hem : (e : Nat) < a.tmps.size := by rw [hsz]; exact hd.1.1
        rw [e1] at e2
        simp only [Act.put] at e2
        rw [Array.getElem?_setIfInBounds_self_of_lt hem, Array.getElem?_setIfInBounds_self_of_lt hem] at e2
        exact (Option.some.inj e2).symm
    subst hvv
    exact wpAnyB_first h0 (Region.noSelect_spec hsel) hs hc hn (by omega) (fun listed' a' hL => seqB_ready hL.1) l.length listed a inv (Region.free_spec h0 hf) hr' hy hy'
      (wpAnyB_lex hsel hs hc hn l (k + 1) _ _ (fun j hj => by have := hl (j + 1) (by simp; omega); simpa [Nat.add_assoc, Nat.add_comm 1 j] using this) (by omega) (inv.set hr' (by omega)) hd.2
        (by cases o.dst <;> simp [Act.put, hsz]) hB' hK hK')
theorem set_own {listed : Array Bool} (n : Nat) : (listed.setIfInBounds n true).getD n true = true := by
  rcases Nat.lt_or_ge n listed.size with h | h
  · simp [h]
  · simp
variable {Q : Exit → Act → World → Prop}
/-- behind the new block -/
theorem any_behind {n g : Nat} {d : Tmp} {ptr : Value} {L : Array Bool → Act → Prop} (hsel : ∀ (j : Nat) (o : Oper) cs b, ops[j]? = some o → o.op ≠ .select cs b)
    (hap : ∀ i o, ops[i]? = some o → i < n → d ∉ o.looksAt ops ∧ o.dst ≠ some d) (hL : ∀ listed a, L listed a → wpAny P md ops Q g listed (a.put (some d) ptr) wa) :
    ∀ (f : Nat) (listed : Array Bool) (a : Act), listed.getD n true = true → wpAnyB P md ops wd wa (n + 1) L f listed a → wpAny P md ops Q (f + g) listed (a.put (some d) ptr) wa
  | 0, listed, a, _, h => by rw [Nat.zero_add]; exact hL _ _ h
  | f + 1, listed, a, hn, h => by
    rw [show f + 1 + g = f + g + 1 by omega]
    refine ⟨fun h0 => absurd h0 h.1, fun i hi => ?_⟩
    obtain ⟨hin, o, v, ho, _, y2, hK⟩ := h.2 i hi
    have hne : i ≠ n := fun e => by
      have := (mem_ready.1 hi).1
      rw [e, hn] at this
      cases this
    obtain ⟨a1, a2⟩ := hap i o ho (by omega)
    have hy : YieldsAt P ops wa o v (a.put (some d) ptr) := y2.of_same (execOp_put o (fun cs b => hsel i o cs b ho) a (some d) ptr fun e he => by cases he; exact a1) (wanted_put o a (some d) ptr fun e he => by cases he; exact a1)
    refine wpOp_of_stOp (K := fun a' => a' = (a.put (some d) ptr).put o.dst v) (fun a' e => ?_) (hy.stOp ho rfl)
    subst e
    rw [Act.put_comm a ptr v fun e he hq => by cases he; exact a2 hq]
    refine any_behind hsel hap hL f _ _ ?_ hK
    by_cases q : i = n
    · exact absurd q hne
    · rw [getD_set_ne true q]; exact hn
theorem any_ahead {n g : Nat} {d : Tmp} {ptr : Value} {L : Array Bool → Act → Prop} {on : Oper} (hon : ops[n]? = some on) (hfree : on.after = #[]) (hsel : ∀ (j : Nat) (o : Oper) cs b, ops[j]? = some o → o.op ≠ .select cs b)
    (hs : Region.sinkB md ops (n + 1) = true) (hc : Region.chainB md ops (n + 1) = true) (hn1 : n + 1 < ops.size)
    (hap : ∀ i o, ops[i]? = some o → i < n → d ∉ o.looksAt ops ∧ o.dst ≠ some d) (hL : ∀ listed a, L listed a → wpAny P md ops Q g listed (a.put (some d) ptr) wa) (hend : ∀ listed a, L listed a → ∀ j ∈ Region.ready md ops listed, n + 1 ≤ j)
    (halloc : ∀ (K : Act → World → Prop) (a : Act), K (a.put (some d) ptr) wa → wpOp P ops Q n K a wd) :
    ∀ (f : Nat) (listed : Array Bool) (a : Act), HeadInv md ops (n + 1) listed → listed.getD n true = false → wpAnyB P md ops wd wa (n + 1) L f (listed.setIfInBounds n true) a → wpAny P md ops Q (f + g + 1) listed a wd := by
  intro f
  induction f with
  | zero =>
    intro listed a inv hun H
    have hr : n ∈ Region.ready md ops listed := mem_ready.2 ⟨hun, on, hon, fun e he => by rw [hfree] at he; simp at he⟩
    refine ⟨fun h => (by rw [h] at hr; cases hr), fun i hi => ?_⟩
    by_cases e : i = n
    · subst e
      refine halloc _ _ ?_
      exact any_behind hsel hap hL 0 _ _ (set_own _) H
    · have h1 := hend _ _ H i (ready_mono hi e)
      exact absurd hi (tail_waits hs hc hn1 inv _ n rfl (by omega) hun i h1)
  | succ f ih =>
    intro listed a inv hun H
    have hr : n ∈ Region.ready md ops listed := mem_ready.2 ⟨hun, on, hon, fun e he => by rw [hfree] at he; simp at he⟩
    refine ⟨fun h => (by rw [h] at hr; cases hr), fun i hi => ?_⟩
    by_cases e : i = n
    · subst e
      refine halloc _ _ ?_
      exact any_behind hsel hap hL (f + 1) _ _ (set_own _) H
    · obtain ⟨hin, o, v, ho, y1, _, hK⟩ := H.2 i (ready_mono hi e)
      refine wpOp_of_stOp (K := fun a' => a' = a.put o.dst v) (fun a' q => ?_) (y1.stOp ho rfl)
      subst q
      rw [show f + 1 + g = f + g + 1 by omega]
      refine ih _ _ (inv.set hi hin) (by rw [getD_set_ne true e]; exact hun) ?_
      rw [Array.setIfInBounds_comm _ _ e]
      exact hK
def rapB (ops : Array Oper) (d : Tmp) (n : Nat) : Bool :=
  (List.range n).all fun i => match ops[i]? with | some o => !(o.looksAt ops).contains d && o.dst != some d | none => true
theorem apB_spec {d : Tmp} {n : Nat} (h : rapB ops d n = true) (i : Nat) (o : Oper) (ho : ops[i]? = some o) (hi : i < n) : d ∉ o.looksAt ops ∧ o.dst ≠ some d := by
  have := List.all_eq_true.1 h i (List.mem_range.2 hi)
  simp only [ho, Bool.and_eq_true, Bool.not_eq_true', bne_iff_ne] at this
  exact ⟨fun hm => by have := List.contains_iff_mem.2 hm; simp_all, this.2⟩
theorem still_of_yields {w : World} {Q : Act → Prop} {o : Oper} {l : List Oper} {a : Act} {v : Value} (hy : YieldsAt P ops w o v a) (h : wpStill P ops w Q l (a.put o.dst v)) : wpStill P ops w Q (o :: l) a := by
  unfold wpStill
  rcases hy with ⟨hw, hv | ⟨hv, rfl⟩ | ⟨f, args, hv, hc⟩⟩ | ⟨hw, rfl⟩
  · simp only [hw, if_true, Oper.still, hv, Oper.stillUpon]; exact ⟨trivial, h⟩
  · simp only [hw, if_true, Oper.still, hv, Oper.stillUpon]; exact ⟨trivial, h⟩
  · simp only [hw, if_true, Oper.still, hv, Oper.stillUpon]; exact ⟨trivial, v, hc, h⟩
  · simp only [hw, Bool.false_eq_true, if_false]; exact h
theorem still_end {w : World} {Q : Act → Prop} : ∀ (l : List Oper) (a : Act), wpStill P ops w Q l a → ∃ A, wpStill P ops w (fun a' => a' = A) l a ∧ Q A
  | [], a, h => ⟨a, rfl, h⟩
  | o :: l, a, h => by
    obtain ⟨v, hy, hK⟩ := still_yields h
    obtain ⟨A, h1, h2⟩ := still_end l _ hK
    exact ⟨A, still_of_yields hy h1, h2⟩
theorem wp_region_alloc0 {id : Nat} {a : Act} {w : World} {l : List Oper} (n m : Nat) (d : Tmp) (ptr : Value) (wa : World) (A : Act) (hm : P.follows .mixedOrders = true) (on : Oper) (hon : l.toArray[n]? = some on) (hfree : on.after = #[])
    (hB : (Region.noSelect l.toArray && decide (n + 1 < l.length) && Region.sinkB .any l.toArray (n + 1) && Region.chainB .any l.toArray (n + 1) && dstsB m (l.take n) && rapB l.toArray d n &&
      lexHeadA .any l.toArray (l.length - (n + 1)) (n + 1) n 0 ((Array.replicate l.toArray.size false).setIfInBounds n true)) = true)
    (hsz : a.tmps.size = m) (halloc : ∀ (K : Act → World → Prop) (a : Act), K (a.put (some d) ptr) wa → wpOp P l.toArray Q n K a w.drew)
    (h1 : wpStill P l.toArray w.drew (fun a' => a' = A) (l.take n) a) (h2 : wpStill P l.toArray wa (fun a' => a' = A) (l.take n) a)
    (h : wpList P l.toArray Q (l.drop (n + 1)) (A.put (some d) ptr) wa) : (Code.region id l.toArray true).wp P Q a w := by
  simp only [Bool.and_eq_true, decide_eq_true_eq] at hB
  obtain ⟨⟨⟨⟨⟨⟨hsel, hn⟩, hs⟩, hc⟩, hd⟩, hap⟩, hlex⟩ := hB
  have hn' : n + 1 < l.toArray.size := by simpa using hn
  have htl : (l.take n).length = n := by simp; omega
  have hdl : (l.drop (n + 1)).length = l.length - (n + 1) := by simp
  have inv0 : HeadInv .any l.toArray (n + 1) (Array.replicate l.toArray.size false) :=
    ⟨by simp, fun j oj _ hl => (by rw [getD_replicate_false] at hl; cases hl), fun t _ ht => getD_in (by simpa using ht) (getD_replicate_false _ _)⟩
  have hr : n ∈ Region.ready .any l.toArray (Array.replicate l.toArray.size false) := mem_ready.2 ⟨getD_in (by simp; omega) (getD_replicate_false _ _), on, hon, fun e he => by rw [hfree] at he; simp at he⟩
  have inv1 := inv0.set hr (Nat.lt_succ_self n)
  have H := wpAnyB_lex (P := P) (md := .any) (ops := l.toArray) (wd := w.drew) (wa := wa) (n := n + 1) (g := l.length - (n + 1)) (m := m) (A := A) hsel hs hc hn' (l.take n) 0 _ a (fun j hj => by
    have hj' : j < n := by rw [htl] at hj; exact hj
    simp [hj']) (by rw [htl]; omega) inv1 hd hsz (by rw [htl]; exact hlex) h1 h2
  refine wp_region_any hm ?_
  have K := any_ahead (P := P) (Q := Q) (md := .any) (ops := l.toArray) (wd := w.drew) (wa := wa) (n := n) (g := l.length - (n + 1)) (d := d) (ptr := ptr) hon hfree (Region.noSelect_spec hsel) hs hc hn' (apB_spec hap)
    (fun listed a' hL => by
      have := wpAny_of_seq (P := P) (md := .any) (ops := l.toArray) (Q' := Q) (l.drop (n + 1)) (n + 1) listed (a'.put (some d) ptr) wa (fun j => by simp [List.getElem?_drop]) (by rw [hdl]; exact hL.1) (by rw [hL.2]; exact h)
      rwa [hdl] at this)
    (fun listed a' hL => seqB_ready hL.1) halloc _ _ a inv0 (getD_in (by simp; omega) (getD_replicate_false _ _)) H
  rw [htl, show n + (l.length - (n + 1)) + 1 = l.toArray.size by simp; omega] at K
  exact K
/-- for use: the walk ahead of the block; at its end the walk behind it, which comes to the same, and the rest -/
theorem wp_region_alloc {id : Nat} {a : Act} {w : World} {l : List Oper} (n m : Nat) (d : Tmp) (ptr : Value) (wa : World) (hm : P.follows .mixedOrders = true) (on : Oper) (hon : l.toArray[n]? = some on) (hfree : on.after = #[])
    (hB : (Region.noSelect l.toArray && decide (n + 1 < l.length) && Region.sinkB .any l.toArray (n + 1) && Region.chainB .any l.toArray (n + 1) && dstsB m (l.take n) && rapB l.toArray d n &&
      lexHeadA .any l.toArray (l.length - (n + 1)) (n + 1) n 0 ((Array.replicate l.toArray.size false).setIfInBounds n true)) = true)
    (hsz : a.tmps.size = m) (halloc : ∀ (K : Act → World → Prop) (a : Act), K (a.put (some d) ptr) wa → wpOp P l.toArray Q n K a w.drew)
    (h : wpStill P l.toArray w.drew (fun A => wpStill P l.toArray wa (fun a' => a' = A) (l.take n) a ∧ wpList P l.toArray Q (l.drop (n + 1)) (A.put (some d) ptr) wa) (l.take n) a) : (Code.region id l.toArray true).wp P Q a w := by
  obtain ⟨A, h1, h2, h3⟩ := still_end _ _ h
  exact wp_region_alloc0 n m d ptr wa A hm on hon hfree hB hsz halloc h1 h2 h3
end
end Go.Proofs.Ythgbfakmkdifbaa
