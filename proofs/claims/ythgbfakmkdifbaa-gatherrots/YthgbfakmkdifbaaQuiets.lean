/-
  A region whose order is drawn: its first n operations each yield one value in whatever world of a class they come up (calls may lead to another world of the class), what is behind them comes in one order alone: then one walk of the text's order serves.
-/
import Derived.StillTail
import Derived.Deep.Quiet
import Derived.Test.YthgbfakmkdifbaaMm
namespace Go.Proofs.Ythgbfakmkdifbaa
open Go.RowKit Go.Deep
section
variable {P : Program} {ops : Array Oper} {md : Region.Mode} {C : World → Prop}
def headQ (P : Program) (md : Region.Mode) (ops : Array Oper) (C : World → Prop) (n : Nat) (D : Array Bool → Act → Prop) : Nat → Array Bool → Act → Prop
  | 0, listed, a => D listed a
  | f + 1, listed, a => Region.ready md ops listed ≠ [] ∧ ∀ i ∈ Region.ready md ops listed, i < n ∧ qOp P ops C i (headQ P md ops C n D f (listed.setIfInBounds i true)) a
theorem any_of_headQ {n g : Nat} {D : Array Bool → Act → Prop} {Q : Exit → Act → World → Prop} (hD : ∀ listed a w, C w → D listed a → wpAny P md ops Q g listed a w) :
    ∀ (f : Nat) (listed : Array Bool) (a : Act) (w : World), C w → headQ P md ops C n D f listed a → wpAny P md ops Q (f + g) listed a w
  | 0, listed, a, w, hw, h => by rw [Nat.zero_add]; exact hD _ _ _ hw h
  | f + 1, listed, a, w, hw, h => by
    rw [show f + 1 + g = f + g + 1 by omega]
    exact ⟨fun e => absurd e h.1, fun i hi => wpOp_of_qOp hw (fun a' w' hw' k => any_of_headQ hD f _ a' w' hw' k) (h.2 i hi).2⟩
theorem headQ_first {n i : Nat} {oi : Oper} {v : Value} {D : Array Bool → Act → Prop} (hi : ops[i]? = some oi) (hsel : ∀ (j : Nat) (o : Oper) cs b, ops[j]? = some o → o.op ≠ .select cs b)
    (hs : Region.sinkB md ops n = true) (hc : Region.chainB md ops n = true) (hn : n < ops.size) (hin : i < n) (hend : ∀ listed a, D listed a → ∀ j ∈ Region.ready md ops listed, n ≤ j) :
    ∀ (f : Nat) (listed : Array Bool) (a : Act), HeadInv md ops n listed →
      (∀ j oj, ops[j]? = some oj → j ≠ i → listed.getD j true = false → (∀ e ∈ oj.after, Region.binds md e = true → e.on ≠ i) → oi.apart ops oj = true) →
      i ∈ Region.ready md ops listed → YieldsIn P ops C oi v a → headQ P md ops C n D f (listed.setIfInBounds i true) (a.put oi.dst v) → headQ P md ops C n D (f + 1) listed a := by
  intro f
  induction f with
  | zero =>
    intro listed a inv _ hr hy H
    have hun := (mem_ready.1 hr).1
    refine ⟨fun e => (by rw [e] at hr; cases hr), fun j hj => ?_⟩
    have hjn : j < n := Nat.lt_of_not_le fun hge => tail_waits hs hc hn inv _ i rfl hin hun j hge hj
    refine ⟨hjn, ?_⟩
    by_cases e : j = i
    · subst e; exact hy.qOp hi H
    · exact absurd (hend _ _ H j (ready_mono hj e)) (by omega)
  | succ f ih =>
    intro listed a inv hfree hr hy H
    have hun := (mem_ready.1 hr).1
    refine ⟨fun e => (by rw [e] at hr; cases hr), fun j hj => ?_⟩
    have hjn : j < n := Nat.lt_of_not_le fun hge => tail_waits hs hc hn inv _ i rfl hin hun j hge hj
    refine ⟨hjn, ?_⟩
    by_cases e : j = i
    · subst e; exact hy.qOp hi H
    obtain ⟨hjun, oj, hoj, hall⟩ := mem_ready.1 hj
    have hno : ∀ e ∈ oj.after, Region.binds md e = true → e.on ≠ i := fun e he hb q => by
      have h1 := hall e he hb
      rw [q, getD_both hun] at h1
      cases h1
    have step := qOp_put hoj (hfree j oj hoj e hjun hno) (fun cs b => hsel i oi cs b hi) (fun cs b => hsel j oj cs b hoj) hy (H.2 j (ready_mono hj e)).2
    refine qOp_mono (fun a' k => ih (listed.setIfInBounds j true) a' (inv.set hj hjn) (fun x ox hx hxi hxu hxn => hfree x ox hx hxi ?_ hxn) (ready_mono hr (Ne.symm e)) k.1 ?_) step
    · by_cases q : j = x
      · subst q; exact hjun
      · rw [getD_set_ne true q] at hxu; exact hxu
    · rw [Array.setIfInBounds_comm _ _ e]
      exact k.2
theorem headQ_lex {n g : Nat} {R : Act → Prop} (hsel : Region.noSelect ops = true) (hs : Region.sinkB md ops n = true) (hc : Region.chainB md ops n = true) (hn : n < ops.size) :
    ∀ (l : List Oper) (k : Nat) (listed : Array Bool) (a : Act), (∀ j, j < l.length → l[j]? = ops[k + j]?) → k + l.length = n → HeadInv md ops n listed →
    Region.lexHead md ops g l.length k listed = true → wpQuiet P ops C R l a → headQ P md ops C n (fun listed' a' => Region.seqB md ops g n listed' = true ∧ R a') l.length listed a
  | [], k, listed, a, _, hk, _, hB, h => by
    have e : k = n := by simpa using hk
    subst e
    exact ⟨by simpa [Region.lexHead] using hB, h⟩
  | o :: l, k, listed, a, hl, hk, inv, hB, h => by
    have h0 : ops[k]? = some o := by simpa using (hl 0 (by simp)).symm
    simp only [List.length_cons, Region.lexHead, Bool.and_eq_true] at hB
    simp only [List.length_cons] at hk
    have hr : k ∈ Region.ready md ops listed := by simpa using hB.1.1
    have hq : qOp P ops C k (wpQuiet P ops C R l) a := by unfold qOp; simp only [h0]; exact h
    obtain ⟨v, hy, hK⟩ := yieldsIn_of_qOp h0 hq
    exact headQ_first h0 (Region.noSelect_spec hsel) hs hc hn (by omega) (fun _ _ d => seqB_ready d.1) l.length listed a inv (Region.free_spec h0 hB.1.2) hr hy
      (headQ_lex hsel hs hc hn l (k + 1) _ _ (fun j hj => by have := hl (j + 1) (by simp; omega); simpa [Nat.add_assoc, Nat.add_comm 1 j] using this) (by omega) (inv.set hr (by omega)) hB.2 hK)
theorem wp_region_quiet_tail {id : Nat} {Q : Exit → Act → World → Prop} {a : Act} {w : World} {l : List Oper} (n : Nat) (hm : P.follows .mixedOrders = true) (hB : Region.lexTailB .any l.toArray n = true) (hC : C w.drew)
    (h : wpQuiet P l.toArray C (fun a' => ∀ w', C w' → wpList P l.toArray Q (l.drop n) a' w') (l.take n) a) : (Code.region id l.toArray true).wp P Q a w := by
  simp only [Region.lexTailB, Bool.and_eq_true, decide_eq_true_eq] at hB
  obtain ⟨⟨⟨⟨hsel, hn⟩, hs⟩, hc⟩, hlex⟩ := hB
  have hn' : n < l.length := by simpa using hn
  have ht : (l.take n).length = n := by simp; omega
  have hd : (l.drop n).length = l.toArray.size - n := by simp
  have inv : HeadInv .any l.toArray n (Array.replicate l.toArray.size false) :=
    ⟨by simp, fun j oj _ hl => (by rw [getD_replicate_false] at hl; cases hl), fun t _ ht => getD_in (by simpa using ht) (getD_replicate_false _ _)⟩
  have H := headQ_lex (md := .any) (g := l.toArray.size - n) hsel hs hc hn (l.take n) 0 _ a (fun j hj => by rw [ht] at hj; simp [hj]) (by simpa using ht) inv (by rw [ht]; exact hlex) h
  refine wp_region_any hm ?_
  have K := any_of_headQ (Q := Q) (g := l.toArray.size - n) (fun listed a' w' hw' d => by
    have := wpAny_of_seq (md := .any) (Q' := Q) (l.drop n) n listed a' w' (fun j => by simp [List.getElem?_drop]) (by rw [hd]; exact d.1) (d.2 w' hw')
    rwa [hd] at this) _ _ _ w.drew hC H
  rw [ht, show n + (l.toArray.size - n) = l.toArray.size by omega] at K
  exact K
end
/-- a world that has grown out of w -/
structure Gr (w : World) where
  w' : World
  ext : Ext w w'
theorem Calls.grown {P : Program} {f : FuncId} {args : Array Value} {w : World} {x : Gr w} {v : Value} (h : Calls P f args x.w' fun e w'' => e = .returned v ∧ Ext x.w' w'') : Calls P f args x.w' fun e w'' => e = .returned v ∧ ∃ y : Gr w, w'' = y.w' :=
  h.mono fun _ w'' k => ⟨k.1, ⟨w'', x.ext.trans k.2⟩, rfl⟩
theorem wp_region_grows {P : Program} {id : Nat} {Q : Exit → Act → World → Prop} {a : Act} {w : World} {l : List Oper} (n : Nat) (hm : P.follows .mixedOrders = true) (hB : Region.lexTailB .any l.toArray n = true)
    (h : Nonempty (Gr w) → wpQuiet P l.toArray (fun w' => ∃ x : Gr w, w' = x.w') (fun a' => ∀ w', (∃ x : Gr w, w' = x.w') → wpList P l.toArray Q (l.drop n) a' w') (l.take n) a) : (Code.region id l.toArray true).wp P Q a w :=
  wp_region_quiet_tail n hm hB ⟨⟨w.drew, (Ext.refl w).drew⟩, rfl⟩ (h ⟨⟨w, Ext.refl w⟩⟩)
end Go.Proofs.Ythgbfakmkdifbaa
/-
  A region whose order is drawn, as in QuietTail, of which the first operation only moves a slot, and may be waited for by the tail alone ('x = append(x, ..)').
-/
namespace Go.Proofs.Ythgbfakmkdifbaa
open Go.RowKit Go.Deep
section
variable {P : Program} {ops : Array Oper} {md : Region.Mode} {C : World → Prop}
/-- each operation of the head but those that were taken is waited for, ahead of the tail or by its first -/
def sinkP (md : Region.Mode) (ops : Array Oper) (n : Nat) (l0 : Array Bool) : Bool :=
  (List.range n).all fun i => l0.getD i true || (List.range (n + 1)).any fun j => decide (i < j) && Region.waitsFor md ops j i
/-- what was taken stays so -/
def Since (l0 listed : Array Bool) : Prop := ∀ i, listed.getD i true = false → l0.getD i true = false
theorem Since.set {l0 listed : Array Bool} (h : Since l0 listed) (j : Nat) : Since l0 (listed.setIfInBounds j true) := fun i hi => by
  by_cases q : j = i
  · subst q
    rcases Nat.lt_or_ge j listed.size with l | l
    · rw [Array.getD_eq_getD_getElem?, Array.getElem?_setIfInBounds_self_of_lt l] at hi; cases hi
    · rw [Array.getD_eq_getD_getElem?, Array.getElem?_eq_none (by simpa using l)] at hi; cases hi
  · rw [getD_set_ne true q] at hi; exact h i hi
theorem tail_waitsP {n : Nat} {l0 : Array Bool} (hs : sinkP md ops n l0 = true) (hc : Region.chainB md ops n = true) : ∀ (d i : Nat) (listed : Array Bool), n - i = d → HeadInv md ops n listed → Since l0 listed → i < n → listed.getD i true = false → ∀ t, n ≤ t → t ∉ Region.ready md ops listed := by
  intro d
  induction d using Nat.strongRecOn with
  | _ d ih =>
    intro i listed hd inv hl0 hi hun t ht hr
    obtain ⟨_, ot, hot, hall⟩ := mem_ready.1 hr
    have htlt : t < ops.size := (Array.getElem?_eq_some_iff.1 hot).1
    rcases Nat.eq_or_lt_of_le ht with e | hgt
    · have h1 := List.all_eq_true.1 hs i (List.mem_range.2 hi)
      rw [hl0 i hun, Bool.false_or, List.any_eq_true] at h1
      obtain ⟨j, hj, hj2⟩ := h1
      rw [Bool.and_eq_true, decide_eq_true_eq] at hj2
      have hjn := List.mem_range.1 hj
      obtain ⟨oj, hoj, x, hx, hb, hxi⟩ := Region.waitsFor_spec hj2.2
      by_cases hjl : listed.getD j false = true
      · have := inv.closed j oj hoj hjl x hx hb
        rw [hxi, getD_both hun] at this
        cases this
      · by_cases hjt : j = n
        · have hoj' : ops[t]? = some oj := by rw [← e, ← hjt]; exact hoj
          rw [hot] at hoj'
          cases hoj'
          have := hall x hx hb
          rw [hxi, getD_both hun] at this
          cases this
        · have hju : listed.getD j true = false := by
            have hjs : j < listed.size := by rw [inv.size]; exact (Array.getElem?_eq_some_iff.1 hoj).1
            rw [Array.getD_eq_getD_getElem?, Array.getElem?_eq_getElem hjs] at hjl ⊢
            simpa using hjl
          exact ih (n - j) (by omega) j listed rfl inv hl0 (by omega) hju t ht hr
    · have h1 := List.all_eq_true.1 hc t (List.mem_range.2 htlt)
      rw [Bool.or_eq_true, decide_eq_true_eq] at h1
      rcases h1 with h1 | h1
      · omega
      · obtain ⟨oj, hoj, x, hx, hb, hxi⟩ := Region.waitsFor_spec h1
        rw [hot] at hoj
        cases hoj
        have h2 := hall x hx hb
        rw [hxi] at h2
        have h3 := getD_both (inv.tail (t - 1) (by omega) (by omega))
        rw [h3] at h2
        cases h2
theorem headP_first {n i : Nat} {oi : Oper} {v : Value} {l0 : Array Bool} {D : Array Bool → Act → Prop} (hi : ops[i]? = some oi) (hsel : ∀ (j : Nat) (o : Oper) cs b, ops[j]? = some o → o.op ≠ .select cs b)
    (hs : sinkP md ops n l0 = true) (hc : Region.chainB md ops n = true) (hin : i < n) (hend : ∀ listed a, D listed a → ∀ j ∈ Region.ready md ops listed, n ≤ j) :
    ∀ (f : Nat) (listed : Array Bool) (a : Act), HeadInv md ops n listed → Since l0 listed →
      (∀ j oj, ops[j]? = some oj → j ≠ i → listed.getD j true = false → (∀ e ∈ oj.after, Region.binds md e = true → e.on ≠ i) → oi.apart ops oj = true) →
      i ∈ Region.ready md ops listed → YieldsIn P ops C oi v a → headQ P md ops C n D f (listed.setIfInBounds i true) (a.put oi.dst v) → headQ P md ops C n D (f + 1) listed a := by
  intro f
  induction f with
  | zero =>
    intro listed a inv hl0 _ hr hy H
    have hun := (mem_ready.1 hr).1
    refine ⟨fun e => (by rw [e] at hr; cases hr), fun j hj => ?_⟩
    have hjn : j < n := Nat.lt_of_not_le fun hge => tail_waitsP hs hc _ i listed rfl inv hl0 hin hun j hge hj
    refine ⟨hjn, ?_⟩
    by_cases e : j = i
    · subst e; exact hy.qOp hi H
    · exact absurd (hend _ _ H j (ready_mono hj e)) (by omega)
  | succ f ih =>
    intro listed a inv hl0 hfree hr hy H
    have hun := (mem_ready.1 hr).1
    refine ⟨fun e => (by rw [e] at hr; cases hr), fun j hj => ?_⟩
    have hjn : j < n := Nat.lt_of_not_le fun hge => tail_waitsP hs hc _ i listed rfl inv hl0 hin hun j hge hj
    refine ⟨hjn, ?_⟩
    by_cases e : j = i
    · subst e; exact hy.qOp hi H
    obtain ⟨hjun, oj, hoj, hall⟩ := mem_ready.1 hj
    have hno : ∀ e ∈ oj.after, Region.binds md e = true → e.on ≠ i := fun e he hb q => by
      have h1 := hall e he hb
      rw [q, getD_both hun] at h1
      cases h1
    have step := qOp_put hoj (hfree j oj hoj e hjun hno) (fun cs b => hsel i oi cs b hi) (fun cs b => hsel j oj cs b hoj) hy (H.2 j (ready_mono hj e)).2
    refine qOp_mono (fun a' k => ih (listed.setIfInBounds j true) a' (inv.set hj hjn) (hl0.set j) (fun x ox hx hxi hxu hxn => hfree x ox hx hxi ?_ hxn) (ready_mono hr (Ne.symm e)) k.1 ?_) step
    · by_cases q : j = x
      · subst q; exact hjun
      · rw [getD_set_ne true q] at hxu; exact hxu
    · rw [Array.setIfInBounds_comm _ _ e]
      exact k.2
theorem headP_lex {n g : Nat} {l0 : Array Bool} {R : Act → Prop} (hsel : Region.noSelect ops = true) (hs : sinkP md ops n l0 = true) (hc : Region.chainB md ops n = true) :
    ∀ (l : List Oper) (k : Nat) (listed : Array Bool) (a : Act), (∀ j, j < l.length → l[j]? = ops[k + j]?) → k + l.length = n → HeadInv md ops n listed → Since l0 listed →
    Region.lexHead md ops g l.length k listed = true → wpQuiet P ops C R l a → headQ P md ops C n (fun listed' a' => Region.seqB md ops g n listed' = true ∧ R a') l.length listed a
  | [], k, listed, a, _, hk, _, _, hB, h => by
    have e : k = n := by simpa using hk
    subst e
    exact ⟨by simpa [Region.lexHead] using hB, h⟩
  | o :: l, k, listed, a, hl, hk, inv, hl0, hB, h => by
    have h0 : ops[k]? = some o := by simpa using (hl 0 (by simp)).symm
    simp only [List.length_cons, Region.lexHead, Bool.and_eq_true] at hB
    simp only [List.length_cons] at hk
    have hr : k ∈ Region.ready md ops listed := by simpa using hB.1.1
    have hq : qOp P ops C k (wpQuiet P ops C R l) a := by unfold qOp; simp only [h0]; exact h
    obtain ⟨v, hy, hK⟩ := yieldsIn_of_qOp h0 hq
    exact headP_first h0 (Region.noSelect_spec hsel) hs hc (by omega) (fun _ _ d => seqB_ready d.1) l.length listed a inv hl0 (Region.free_spec h0 hB.1.2) hr hy
      (headP_lex hsel hs hc l (k + 1) _ _ (fun j hj => by have := hl (j + 1) (by simp; omega); simpa [Nat.add_assoc, Nat.add_comm 1 j] using this) (by omega) (inv.set hr (by omega)) (hl0.set k) hB.2 hK)
end
/-- the first operation taken; then the head up to n; the tail is forced -/
def lexTail1 (ops : Array Oper) (n : Nat) : Bool :=
  Region.noSelect ops && decide (0 < n) && decide (n < ops.size) && (Region.ready .any ops (Array.replicate ops.size false)).contains 0 && Region.free .any ops (Array.replicate ops.size false) 0 &&
  sinkP .any ops n ((Array.replicate ops.size false).setIfInBounds 0 true) && Region.chainB .any ops n && Region.lexHead .any ops (ops.size - n) (n - 1) 1 ((Array.replicate ops.size false).setIfInBounds 0 true)
theorem wp_region_grows1 {P : Program} {id : Nat} {Q : Exit → Act → World → Prop} {a : Act} {w : World} {o0 : Oper} {l : List Oper} (n : Nat) (hm : P.follows .mixedOrders = true) (hB : lexTail1 (o0 :: l).toArray n = true) (hg : o0.guard = none) (x : Operand) (ho : o0.op = .move x)
    (hQ' : ∀ c (b : Act) w, Q (.panic c) (b.put o0.dst (a.eval x)) w → Q (.panic c) b w)
    (h : Nonempty (Gr w) → wpQuiet P (o0 :: l).toArray (fun w' => ∃ x : Gr w, w' = x.w') (fun a' => ∀ w', (∃ x : Gr w, w' = x.w') → wpList P (o0 :: l).toArray Q ((o0 :: l).drop n) a' w') ((o0 :: l).take n) a) : (Code.region id (o0 :: l).toArray true).wp P Q a w := by
  have H0 : wpQuiet P (o0 :: l).toArray (fun w' => ∃ x : Gr w, w' = x.w') (fun a' => ∀ w', (∃ x : Gr w, w' = x.w') → wpList P (o0 :: l).toArray Q (l.drop (n - 1)) a' w') (l.take (n - 1)) (a.put o0.dst (a.eval x)) := by
    have h0 := h ⟨⟨w, Ext.refl w⟩⟩
    simp only [lexTail1, Bool.and_eq_true, decide_eq_true_eq] at hB
    obtain ⟨k, rfl⟩ : ∃ k, n = k + 1 := ⟨n - 1, by omega⟩
    rw [List.take_succ_cons, List.drop_succ_cons] at h0
    unfold wpQuiet at h0
    rw [if_pos (by simp [Region.wanted, hg])] at h0
    obtain ⟨v, hv, hn⟩ := h0
    have e := hv w.drew ⟨⟨w.drew, (Ext.refl w).drew⟩, rfl⟩
    unfold Oper.quietAt at e
    simp [execOp, ho, Oper.quietUpon] at e
    rw [← e] at hn
    exact hn
  simp only [lexTail1, Bool.and_eq_true, decide_eq_true_eq] at hB
  obtain ⟨⟨⟨⟨⟨⟨⟨hsel, hn0⟩, hn⟩, hr0⟩, hf0⟩, hs⟩, hc⟩, hlex⟩ := hB
  refine wp_region_any hm ?_
  have hsz : (o0 :: l).toArray.size = l.length + 1 := by simp
  have hn' : n < l.length + 1 := by omega
  rw [hsz]
  refine wpAny_take (i := 0) (oi := o0) (v := a.eval x) (by simp) hsel (by rw [← hsz]; exact hf0) (by rw [← hsz]; exact hr0) hQ' ?_ ?_
  · exact Or.inl ⟨by simp [Region.wanted, hg], fun w => by simp [execOp, ho]⟩
  · have hi0 : (0 : Nat) ∈ Region.ready .any (o0 :: l).toArray (Array.replicate (o0 :: l).toArray.size false) := by simpa using hr0
    have inv0 : HeadInv .any (o0 :: l).toArray n (Array.replicate (o0 :: l).toArray.size false) :=
      ⟨by simp, fun j oj _ hl => (by rw [getD_replicate_false] at hl; cases hl), fun t _ ht => getD_in (by simpa using ht) (getD_replicate_false _ _)⟩
    have inv1 := inv0.set hi0 hn0
    have ht : (l.take (n - 1)).length = n - 1 := by simp; omega
    have hd : (l.drop (n - 1)).length = l.length + 1 - n := by simp; omega
    have H := headP_lex (md := .any) (g := (o0 :: l).toArray.size - n) hsel hs hc (l.take (n - 1)) 1 _ (a.put o0.dst (a.eval x)) (fun j hj => by rw [ht] at hj; simp [hj, Nat.add_comm 1 j]) (by omega) inv1 (fun i hi => hi) (by rw [ht]; exact hlex) H0
    have K := any_of_headQ (Q := Q) (g := (o0 :: l).toArray.size - n) (fun listed a' w' hw' d => by
      have := wpAny_of_seq (md := .any) (Q' := Q) (l.drop (n - 1)) n listed a' w' (fun j => by simp [List.getElem?_drop, show n + j = (n - 1 + j) + 1 by omega]) (by rw [hd, ← hsz]; exact d.1) (d.2 w' hw')
      rwa [hd, ← hsz] at this) _ _ _ w.drew ⟨⟨w.drew, (Ext.refl w).drew⟩, rfl⟩ H
    rw [ht, hsz, show n - 1 + (l.length + 1 - n) = l.length by omega] at K
    exact K
end Go.Proofs.Ythgbfakmkdifbaa
