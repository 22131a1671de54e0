/-
  All columns in one list, some of them replaced by others; append of whatever was found as one step of a region that draws its order.
-/
import Derived.WalkKit
import Derived.Test.YthgbfakmkdifbaaByb
import Derived.Test.YthgbfakmkdifbaaApps
import Derived.Test.YthgbfakmkdifbaaKeepCols
namespace Go.Proofs.Ythgbfakmkdifbaa
open Go.RowKit Go.Deep E
theorem step_append_vals {P : Program} (w : World) {ops : Array Oper} {o : Oper} {a : Act} {K : Act → World → Prop} {Q : Exit → Act → World → Prop} {X : Prop} (hgd : o.guard = none) (s x : Operand) (T : TypeId)
    (ho : o.op = .call { callee := .builtin .append, args := #[s, x], argTypes := #[T, T] }) (base : Nat) (t : TypeId) (z : Value) (bytes : Nat) (ht : P.underlying T = some (.slice t))
    (hinfo : (P.info? t).map (fun i => (i.zero, i.size, i.bytes)) = some (some z, 1, bytes)) (hzs : z.cells.size = 1) (v : Value) (n : Nat) (xs : List Value) (hs : a.eval s = v) (hown : w.ownsRow base t 1 v n xs)
    (ao : Option Addr) (l c : Nat) (F : Nat → Value) (hx : a.eval x = .slice ao l c) (hF : ∀ i, i < l → ∃ b o, ao = some ⟨b, o, none⟩ ∧ w.cell? ⟨b, o + i, none⟩ = some (F i)) (hone : ∀ i, i < l → (F i).oneCell' = true)
    (hm : n + l ≤ 9223372036854775807) (hb : (n + l) * bytes ≤ 140737488355328) (hbase : base ≤ w.heap.size)
    (h : ∀ v' w', w'.ownsRow base t 1 v' (n + l) (xs ++ (List.range l).map F) → w.grownBy w' v.ownBlock → K (a.put o.dst v') w') : if Region.wanted o (yielded ops a.tmps) = true then Oper.wp P o a w K Q else X := by
  have hw : Region.wanted o (yielded ops a.tmps) = true := by simp [Region.wanted, hgd]
  rw [if_pos hw]
  obtain ⟨i0, hi, hz0, hz1, hz2⟩ := info_parts hinfo
  cases ao with
  | none =>
    have hl : l = 0 := by
      rcases Nat.eq_zero_or_pos l with e | e
      · exact e
      · obtain ⟨b, o, h1, _⟩ := hF 0 e; cases h1
    subst hl
    have hrun := run_append_none (P := P) w T o.type t i0 ht hi v n xs hown c
    unfold Oper.wp
    simp [execOp, ho, resolve, invoke, builtin, hs, hx, hrun, Result.andThen]
    refine h v w ?_ ⟨rfl, rfl, rfl, Nat.le_refl _, fun _ _ _ => rfl⟩
    simpa using hown
  | some ad =>
    refine wp_append_own w s x T ho base t i0 z 1 bytes ht hi hz0 hz1 hz2 hzs (by decide) v n xs hs hown ad l c ((List.range l).map F) hx (by simp) ?_ ?_ ?_ hb hbase ?_
    · intro j y hj
      have e : j < l := by
        rcases Nat.lt_or_ge j l with e | e
        · exact e
        · rw [List.getElem?_eq_none (by simp; omega)] at hj; cases hj
      rw [List.getElem?_map, List.getElem?_range e] at hj
      cases hj
      obtain ⟨b, o, h1, h2⟩ := hF j e
      cases h1
      rw [Go.WideShapes.add_plain]
      exact h2
    · intro y hy
      obtain ⟨i, hi, rfl⟩ := List.mem_map.1 hy
      exact hone i (List.mem_range.1 hi)
    · unfold maxLen; omega
    · exact fun v' w' h1 h2 _ => h v' w' h1 h2
/-- a list of columns, of which those of R are others -/
structure Torn (w0 wr : World) (v : Value) (n m nj : Nat) (fj : Nat → E) (FF : Nat → Nat → E) (T : Nat → Value) (R : Nat → Bool) : Prop where
  ext : Ext w0 wr
  own : wr.ownsRow w0.heap.size 22 1 v n ((List.range n).map T)
  old : ∀ r, r < n → R r = false → ∃ a c, T r = .slice a m c ∧ Byts w0 a m (FF r)
  new : ∀ r, r < n → R r = true → wr.ownsRow w0.heap.size 5 1 (T r) nj ((List.range nj).map (bvs fj))
theorem Torn.grow {w0 wr w' : World} {v : Value} {n m nj : Nat} {fj : Nat → E} {FF : Nat → Nat → E} {T : Nat → Value} {R : Nat → Bool} (h : Torn w0 wr v n m nj fj FF T R) (x : Ext wr w') : Torn w0 w' v n m nj fj FF T R :=
  ⟨h.ext.trans x, own_ext h.own x, h.old, fun r hr hR => own_ext (h.new r hr hR) x⟩
theorem Torn.put {w0 wr w5 : World} {g9 c9 : Nat} {u : Value} {n m nj : Nat} {fj : Nat → E} {FF : Nat → Nat → E} {T : Nat → Value} {R : Nat → Bool} (h : Torn w0 wr (.slice (some ⟨g9, 0, none⟩) n c9) n m nj fj FF T R) (x : Ext wr w5) (hu : w5.ownsRow wr.heap.size 5 1 u nj ((List.range nj).map (bvs fj))) {k : Nat} (hk : k < n) :
    Torn w0 (w5.setCell ⟨g9, k, none⟩ u) (.slice (some ⟨g9, 0, none⟩) n c9) n m nj fj FF (fun r => if r = k then u else T r) (fun r => if r = k then true else R r) := by
  have h5 := h.grow x
  have hge := own_ge h5.own (g := g9) rfl
  have hw : Wro (· = g9) w5 (w5.setCell ⟨g9, k, none⟩ u) := (Wro.refl (· = g9) w5).setCell (p := ⟨g9, k, none⟩) rfl _
  have keep : ∀ {y : Value} {b : Nat} {xs : List Value}, w5.ownsRow b 5 1 y nj xs → (w5.setCell ⟨g9, k, none⟩ u).ownsRow b 5 1 y nj xs := fun {y b xs} hy => own_wro hy hw fun g hg e => by
    have := own_apart hy h5.own (by decide)
    rw [hg, e] at this
    rcases this with q | q
    · cases q
    · exact q rfl
  refine ⟨h5.ext.setCell hge.1 _, ?_, fun r hr hR => ?_, fun r hr hR => ?_⟩
  · have e2 : ((List.range n).map T).set k u = (List.range n).map fun r => if r = k then u else T r := by
      apply List.ext_getElem?
      intro j
      rw [List.getElem?_set]
      by_cases hj : j < n
      · by_cases e3 : k = j
        · subst e3; simp [hk]
        · simp [e3, hj, Ne.symm e3]
      · simp [show ¬ k = j by omega, hj]
    rw [← e2]
    exact (h5.own.stored k u).1
  · by_cases e : r = k
    · rw [if_pos e] at hR; cases hR
    · rw [if_neg e] at hR; rw [if_neg e]; exact h.old r hr hR
  · by_cases e : r = k
    · rw [if_pos e]; exact keep (own_mono hu h.ext.size)
    · rw [if_neg e] at hR; rw [if_neg e]; exact keep (h5.new r hr hR)
theorem Torn.cols {w0 wr : World} {v : Value} {n m nj : Nat} {fj : Nat → E} {FF : Nat → Nat → E} {T : Nat → Value} {R : Nat → Bool} (h : Torn w0 wr v n m nj fj FF T R) : ∃ a c A C, v = .slice a n c ∧ Cols wr a n A (fun r => if R r then nj else m) C (fun r => if R r then fj else FF r) := by
  have each : ∀ r, r < n → ∃ y : Option Addr × Nat, T r = .slice y.1 (if R r then nj else m) y.2 ∧ Byts wr y.1 (if R r then nj else m) (if R r then fj else FF r) := fun r hr => by
    cases hR : R r
    · obtain ⟨a, c, h1, h2⟩ := h.old r hr hR
      exact ⟨(a, c), h1, h2.ext h.ext⟩
    · obtain ⟨a, c, h1, h2⟩ := own_byts (h.new r hr hR)
      exact ⟨(a, c), h1, h2⟩
  obtain ⟨y, hy⟩ := choose_lt each
  obtain ⟨a, c, hv, hc⟩ := own_slice h.own
  refine ⟨a, c, fun r => (y r).1, fun r => (y r).2, hv, fun r hr => ⟨?_, (hy r hr).2⟩⟩
  obtain ⟨b, o, ha, hb⟩ := hc r hr
  refine ⟨b, o, ha, ?_⟩
  rw [hb]
  simp only [List.getElem?_map, List.getElem?_range hr, Option.map_some, (hy r hr).1]
end Go.Proofs.Ythgbfakmkdifbaa
