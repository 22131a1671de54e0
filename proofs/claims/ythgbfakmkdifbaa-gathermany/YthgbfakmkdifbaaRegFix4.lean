/-
  A region that draws its order and only reads: each operation's value told once; what a guard leaves out too.
-/
import Derived.WalkKit
import Derived.Test.YthgbfakmkdifbaaRegFix3
namespace Go.Proofs.Ythgbfakmkdifbaa
open Go.RowKit Go.BigFrame
section
variable {P : Program} {Q : Exit → Act → World → Prop}
/-- guards of both kinds: those of skip are not wanted -/
def guardsBy (l : List Oper) (n : Nat) (skip tv : Nat → Bool) (gs : List Nat) : Bool := (List.range n).all fun i => match l.toArray[i]? with
  | some o => (match o.guard with | none => !skip i | some (g, b) => decide (g < n) && depB l.toArray i g && gs.contains g && (tv g == if skip i then !b else b))
  | none => false
theorem guardsBy_of {l : List Oper} {n : Nat} {skip tv : Nat → Bool} {gs : List Nat} (h : guardsBy l n skip tv gs = true) {i : Nat} {o : Oper} (hi : i < n) (ho : l.toArray[i]? = some o) :
    (o.guard = none ∧ skip i = false) ∨ ∃ g b, o.guard = some (g, b) ∧ g < n ∧ depB l.toArray i g = true ∧ g ∈ gs ∧ tv g = if skip i then !b else b := by
  have h1 := (List.all_eq_true.1 h) i (List.mem_range.2 hi)
  simp only [ho] at h1
  cases hg : o.guard with
  | none =>
    rw [hg] at h1
    exact Or.inl ⟨rfl, by simpa using h1⟩
  | some gb =>
    obtain ⟨g, b⟩ := gb
    rw [hg] at h1
    simp only [Bool.and_eq_true, decide_eq_true_eq, List.contains_iff_mem, beq_iff_eq] at h1
    exact Or.inr ⟨g, b, rfl, h1.1.1.1, h1.1.1.2, h1.1.2, h1.2⟩
theorem wp_region_reads {id : Nat} {a : Act} {w : World} {l : List Oper} (n : Nat) (hm : P.follows .mixedOrders = true)
    (hB : (decide (n < l.length) && Region.sinkB .any l.toArray n && Region.chainB .any l.toArray n && upB l.toArray && Region.seqB .any l.toArray (l.length - n) n (listN n (l.length - n))) = true)
    (dst : Nat → Tmp) (val : Nat → Value) (skip tv : Nat → Bool) (gs : List Nat)
    (hdst : dstG l dst n = true) (hgd : guardsBy l n skip tv gs = true) (hgv : ∀ g, g ∈ gs → val g = .bool (tv g)) (hsk : ∀ i, skip i = true → val i = undef) (hd : ∀ i j, i < n → j < n → dst i = dst j → i = j) (hs : ∀ i, i < n → dst i < a.tmps.size)
    (hstep : ∀ L i a' w', i < n → L i = false → skip i = false → (∀ d, depB l.toArray i d = true → L d = true) → Agree n dst val L a a' → Ext w w' → ∃ o, l.toArray[i]? = some o ∧ (execOp a'.eval o).run P w' = .ok (.value (val i)) w')
    (hend : ∀ w', Ext w w' → wpList P l.toArray Q (l.drop n) (putAll dst val a n) w') : (Code.region id l.toArray true).wp P Q a w := by
  simp only [Bool.and_eq_true, decide_eq_true_eq] at hB
  obtain ⟨⟨⟨⟨hn, hsk0⟩, hc⟩, hu⟩, hseq⟩ := hB
  have hdl : (l.drop n).length = l.length - n := by simp
  have inv : HeadInv .any l.toArray n (Array.replicate l.toArray.size false) :=
    ⟨by simp, fun j oj _ hl => (by rw [getD_replicate_false] at hl; cases hl), fun t _ ht => getD_in (by simpa using ht) (getD_replicate_false _ _)⟩
  refine wp_region_any hm ?_
  have e0 : (fun j => (Array.replicate l.toArray.size false).getD j false) = fun _ => false := by funext j; exact getD_replicate_false _ _
  have K := any_of_inv (P := P) (Q := Q) (md := .any) (ops := l.toArray) (n := n) (g := l.length - n) (by simp; omega) hsk0 hc (by simpa using hn) hu (fun L a' w' => Agree n dst val L a a' ∧ Ext w w')
    (fun L a' w' i o hi ho hLi hde hI => by
      obtain ⟨hA, hx⟩ := hI
      have h1 := dstG_of hdst hi ho
      have hdp := depB_of ho hde
      have hput := hA.put hi (fun j hj q => hd j i hj hi q) (hs i hi)
      have hw : Region.wanted o (yielded l.toArray a'.tmps) = !skip i := by
        rcases guardsBy_of hgd hi ho with ⟨hg, hs1⟩ | ⟨g, b, hg, hgn, hdg, hgm, htv⟩
        · simp [Region.wanted, hg, hs1]
        · have hLg := hdp g hdg
          have hgot := hA.got g hgn hLg
          rw [hgv g hgm, htv] at hgot
          obtain ⟨og, hog⟩ : ∃ og, l.toArray[g]? = some og := ⟨_, Array.getElem?_eq_getElem (by simp; omega)⟩
          have hdg2 := dstG_of hdst hgn hog
          cases hsi : skip i <;> cases b <;> simp [Region.wanted, hg, yielded, hog, hdg2, hgot, hsi]
      cases hsi : skip i with
      | true =>
        rw [hsi] at hw
        unfold wpOp
        simp only [ho]
        rw [hw]
        simp only [Bool.not_true, Bool.false_eq_true, if_false]
        rw [h1, ← hsk i hsi]
        exact ⟨hput, hx⟩
      | false =>
        rw [hsi] at hw
        refine wpOp_wanted ho hw ?_
        obtain ⟨o', ho', hrun⟩ := hstep L i a' w' hi hLi hsi hdp hA hx
        rw [ho] at ho'
        cases ho'
        refine wp_runs hrun ?_
        rw [h1]
        exact ⟨hput, hx⟩)
    (fun a' w' hI => by
      obtain ⟨hA, hx⟩ := hI
      have hall : ∀ i, i < n → (fun j => (listN n (l.length - n)).getD j false) i = true := fun i hi => by simp [listN, hi, Array.getD_eq_getD_getElem?, List.getElem?_append]
      have ea : a' = putAll dst val a n := agree_one hA (putAll_agree hd hs n (Nat.le_refl _)) hall fun i hi => by simp [hi]
      subst ea
      have := wpAny_of_seq (md := .any) (Q' := Q) (l.drop n) n (listN n (l.length - n)) _ _ (fun j => by simp [List.getElem?_drop]) (by rw [hdl]; exact hseq) (hend w' hx)
      rwa [hdl] at this)
    n _ a w.drew inv (by rw [e0]; exact cntB_none n) (by rw [e0]; exact ⟨⟨rfl, rfl, fun j _ hl => (by cases hl), fun _ _ => rfl⟩, (Ext.refl w).drew⟩)
  rw [show n + (l.length - n) = l.toArray.size by simp; omega] at K
  exact K
end
section
variable {P : Program} {a : Act} {w : World} {o : Oper} {v : Value}
theorem gx_move (x : Operand) (ho : o.op = .move x) (hx : a.eval x = v) : (execOp a.eval o).run P w = .ok (.value v) w := by
  unfold execOp
  simp only [ho, hx, Sem.run_pure]
theorem gx_index (t : TypeId) (x ix : Operand) {p q : Value} (ho : o.op = .indexAddr t x ix) (hx : a.eval x = p) (hi : a.eval ix = q) (hrun : (Instr.indexAt t p q).run P w = .ok v w) : (execOp a.eval o).run P w = .ok (.value v) w := by
  unfold execOp
  simp only [ho, hx, hi, Sem.run_bind, hrun, Result.andThen_ok, Sem.run_pure]
theorem gx_field (t : TypeId) (x : Operand) (i : Nat) {p : Value} (ho : o.op = .fieldAddr t x i) (hx : a.eval x = p) (hrun : (Instr.fieldAt t p i).run P w = .ok v w) : (execOp a.eval o).run P w = .ok (.value v) w := by
  unfold execOp
  simp only [ho, hx, Sem.run_bind, hrun, Result.andThen_ok, Sem.run_pure]
theorem gx_load (ty : TypeId) (x : Operand) (ho : o.op = .load ty x) {p : Value} (hx : a.eval x = p) (hrun : (Instr.loadAt ty p).run P w = .ok v w) : (execOp a.eval o).run P w = .ok (.value v) w := by
  unfold execOp
  simp only [ho, hx, Sem.run_bind, hrun, Result.andThen_ok, Sem.run_pure]
theorem gx_bin (op : BinOp) (t t2 : TypeId) (x y : Operand) (ho : o.op = .binOp op t x y t2) {vx vy : Value} (hx : a.eval x = vx) (hy : a.eval y = vy) (hg : (eqGuard op t x y vx vy).run P w = .ok () w) (hrun : (binOp op t vx vy).run P w = .ok v w) : (execOp a.eval o).run P w = .ok (.value v) w := by
  unfold execOp
  simp only [ho, hx, hy, Sem.run_bind, hg, hrun, Result.andThen_ok, Sem.run_pure]
theorem eqg_int (op : BinOp) (t : TypeId) (x y : Operand) (k l : IntKind) (m n : Int) : (eqGuard op t x y (.int k m) (.int l n)).run P w = .ok () w := by
  cases op <;> simp [eqGuard, go_sem]
theorem eqg_bool (op : BinOp) (t : TypeId) (x y : Operand) (m n : Bool) : (eqGuard op t x y (.bool m) (.bool n)).run P w = .ok () w := by
  cases op <;> simp [eqGuard, go_sem]
theorem bin_lss (t : TypeId) {m n : Int} {b : Bool} (h : decide (m < n) = b) : (binOp .lss t (.int .i64 m) (.int .i64 n)).run P w = .ok (.bool b) w := by
  subst h
  simp [binOp, go_sem]
theorem bin_geq (t : TypeId) {m n : Int} {b : Bool} (h : decide (n ≤ m) = b) : (binOp .geq t (.int .i64 m) (.int .i64 n)).run P w = .ok (.bool b) w := by
  subst h
  simp [binOp, go_sem]
theorem bin_gtr (t : TypeId) {m n : Int} {b : Bool} (h : decide (n < m) = b) : (binOp .gtr t (.int .i64 m) (.int .i64 n)).run P w = .ok (.bool b) w := by
  subst h
  simp [binOp, go_sem]
theorem bin_neq (t : TypeId) {m n : Int} {b : Bool} (h : (m != n) = b) : (binOp .neq t (.int .i64 m) (.int .i64 n)).run P w = .ok (.bool b) w := by
  subst h
  simp [binOp, go_sem]
theorem eqIn_bool (d : Nat) (t : TypeId) (hu : P.underlying t = some .bool) (m : Bool) : (Op.equalIn (d + 1) t (.bool m) (.bool m)).run P w = .ok true w := by
  unfold Op.equalIn
  rw [Sem.run_bind, run_underlying hu]
  cases m <;> simp [go_sem]
theorem bin_neqB (t : TypeId) (hu : P.underlying t = some .bool) (m : Bool) : (binOp .neq t (.bool m) (.bool m)).run P w = .ok (.bool false) w := by
  have he : (Op.equal t (.bool m) (.bool m)).run P w = .ok true w := eqIn_bool 9999 t hu m
  cases m <;> simp [binOp, go_sem, he]
theorem bin_sub (t : TypeId) {m n : Int} (h : -9223372036854775808 ≤ m - n ∧ m - n ≤ 9223372036854775807) : (binOp .sub t (.int .i64 m) (.int .i64 n)).run P w = .ok (.int .i64 (m - n)) w := by
  have hw : IntKind.i64.wrap (m - n) = m - n := by rw [IntKind.wrap_i64]; omega
  simp [binOp, go_sem, hw]
theorem gx_pickf (x y z : Operand) (ho : o.op = .pick x y z) (hx : a.eval x = .bool false) (hz : a.eval z = v) : (execOp a.eval o).run P w = .ok (.value v) w := by
  unfold execOp
  simp only [ho, hx, hz, Sem.run_bind, Sem.run_pure]
  rfl
theorem gx_pickt (x y z : Operand) (ho : o.op = .pick x y z) (hx : a.eval x = .bool true) (hy : a.eval y = v) : (execOp a.eval o).run P w = .ok (.value v) w := by
  unfold execOp
  simp only [ho, hx, hy, Sem.run_bind, Sem.run_pure]
  rfl
end
end Go.Proofs.Ythgbfakmkdifbaa
