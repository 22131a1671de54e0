/-
  The sweep over sorted ends: how many sets have a number, and the ranges between the ends of which as many have the numbers as is wanted.
-/
import Derived.Test.YtfpbiimjcdbaoaaSpanMath
namespace Go.Proofs.Ytfpbiimjcdbaoaa
/-- the steps of all ends at most k -/
def cnt (k : Int) : List (Int × Int) → Int
  | [] => 0
  | r :: l => (if r.1 ≤ k then r.2 else 0) + cnt k l
/-- all steps -/
def psum : List (Int × Int) → Int
  | [] => 0
  | r :: l => r.2 + psum l
theorem cnt_append (k : Int) (D E : List (Int × Int)) : cnt k (D ++ E) = cnt k D + cnt k E := by
  induction D with
  | nil => simp [cnt]
  | cons r l ih => simp only [List.cons_append, cnt, ih]; omega
theorem psum_append (D E : List (Int × Int)) : psum (D ++ E) = psum D + psum E := by
  induction D with
  | nil => simp [psum]
  | cons r l ih => simp only [List.cons_append, psum, ih]; omega
theorem cnt_perm (k : Int) {D E : List (Int × Int)} (h : D.Perm E) : cnt k D = cnt k E := by
  induction h with
  | nil => rfl
  | cons r _ ih => simp only [cnt, ih]
  | swap r s l => simp only [cnt]; omega
  | trans _ _ i1 i2 => exact i1.trans i2
theorem psum_perm {D E : List (Int × Int)} (h : D.Perm E) : psum D = psum E := by
  induction h with
  | nil => rfl
  | cons r _ ih => simp only [psum, ih]
  | swap r s l => simp only [psum]; omega
  | trans _ _ i1 i2 => exact i1.trans i2
theorem cnt_all {k : Int} {D : List (Int × Int)} (h : ∀ r, r ∈ D → r.1 ≤ k) : cnt k D = psum D := by
  induction D with
  | nil => rfl
  | cons r l ih =>
    simp only [cnt, psum]
    rw [if_pos (h r (List.mem_cons.2 (Or.inl rfl))), ih fun s hs => h s (List.mem_cons.2 (Or.inr hs))]
theorem cnt_none {k : Int} {D : List (Int × Int)} (h : ∀ r, r ∈ D → k < r.1) : cnt k D = 0 := by
  induction D with
  | nil => rfl
  | cons r l ih =>
    simp only [cnt]
    have := h r (List.mem_cons.2 (Or.inl rfl))
    rw [if_neg (by omega), ih fun s hs => h s (List.mem_cons.2 (Or.inr hs))]
    rfl
theorem psum_bd (D : List (Int × Int)) (h : ∀ r, r ∈ D → -1 ≤ r.2 ∧ r.2 ≤ 1) : -(D.length : Int) ≤ psum D ∧ psum D ≤ D.length := by
  induction D with
  | nil => simp [psum]
  | cons r l ih =>
    have h1 := h r (List.mem_cons.2 (Or.inl rfl))
    have h2 := ih fun s hs => h s (List.mem_cons.2 (Or.inr hs))
    simp only [psum, List.length_cons]
    omega
/-- ascending by the first -/
def Asc (D : List (Int × Int)) : Prop := ∀ (i j : Nat) (r s : Int × Int), i < j → D[i]? = some r → D[j]? = some s → r.1 ≤ s.1
/-- the sweep, ahead of the end i: the ranges so far, and where one that is open began -/
structure Sw (E : List (Int × Int)) (wf : Int → Bool) (i : Nat) (L : List (Int × Int)) (op : Bool) (fr : Int) : Prop where
  nrm : Nrm L
  len : L.length ≤ i
  low : ∀ s, s ∈ L → ∀ r, r ∈ E.drop i → s.2 < r.1
  opn : op = true → (∀ r, r ∈ E.drop i → fr < r.1) ∧ ∀ s, s ∈ L → s.2 < fr
  mem : ∀ k, (∀ r, r ∈ E.drop i → k < r.1) → ((memL k L ∨ (op = true ∧ fr ≤ k)) ↔ wf (cnt k E) = true)
theorem Sw.start (E : List (Int × Int)) (wf : Int → Bool) (h0 : wf 0 = false) (fr : Int) : Sw E wf 0 [] false fr where
  nrm := trivial
  len := Nat.le_refl _
  low s hs := by simp at hs
  opn h := by cases h
  mem k hk := by
    rw [cnt_none (D := E) (by simpa using hk), h0]
    simp [memL]
section
variable {E L : List (Int × Int)} {wf : Int → Bool} {i : Nat} {op : Bool} {fr : Int} {x y : Int}
theorem drop_sub {r : Int × Int} (h : r ∈ E.drop (i + 1)) : r ∈ E.drop i := by
  rw [← List.drop_drop] at h
  exact List.mem_of_mem_drop h
theorem drop_two (he : E[i]? = some (x, y)) {r : Int × Int} (h : r ∈ E.drop i) : r = (x, y) ∨ r ∈ E.drop (i + 1) := by
  obtain ⟨hi, hg⟩ := List.getElem?_eq_some_iff.1 he
  rw [List.drop_eq_getElem_cons hi, hg] at h
  exact List.mem_cons.1 h
theorem drop_head (he : E[i]? = some (x, y)) : (x, y) ∈ E.drop i := by
  obtain ⟨hi, hg⟩ := List.getElem?_eq_some_iff.1 he
  rw [List.drop_eq_getElem_cons hi, hg]
  exact List.mem_cons.2 (Or.inl rfl)
theorem Asc.up (ha : Asc E) {j : Nat} (he : E[i]? = some (x, y)) (hj : i ≤ j) {r : Int × Int} (h : r ∈ E.drop j) : x ≤ r.1 := by
  obtain ⟨q, hq⟩ := List.getElem?_of_mem h
  rw [List.getElem?_drop] at hq
  by_cases e : j + q = i
  · rw [e, he] at hq; cases hq; exact Int.le_refl _
  · exact ha i (j + q) (x, y) r (by omega) he hq
theorem Asc.down (ha : Asc E) (he : E[i]? = some (x, y)) {r : Int × Int} (h : r ∈ E.take (i + 1)) : r.1 ≤ x := by
  obtain ⟨q, hq⟩ := List.getElem?_of_mem h
  have hl := (List.getElem?_eq_some_iff.1 hq).1
  rw [List.length_take] at hl
  rw [List.getElem?_take_of_lt (by omega)] at hq
  by_cases e : q = i
  · rw [e, he] at hq; cases hq; exact Int.le_refl _
  · exact ha q i r (x, y) (by omega) hq he
/-- the next end is at the same place: nothing turns -/
theorem Sw.same (h : Sw E wf i L op fr) (he : E[i]? = some (x, y)) {z : Int} (hn : E[i + 1]? = some (x, z)) : Sw E wf (i + 1) L op fr where
  nrm := h.nrm
  len := by have := h.len; omega
  low s hs r hr := h.low s hs r (drop_sub hr)
  opn q := ⟨fun r hr => (h.opn q).1 r (drop_sub hr), (h.opn q).2⟩
  mem k hk := h.mem k fun r hr => by
    rcases drop_two he hr with rfl | hr
    · have q := hk _ (drop_head hn)
      exact q
    · exact hk r hr
/-- at the last end of a place: how many sets have the numbers from it on, ahead of the next -/
theorem cnt_at (ha : Asc E) (he : E[i]? = some (x, y)) {k : Int} (hx : x ≤ k) (hk : ∀ r, r ∈ E.drop (i + 1) → k < r.1) : cnt k E = psum (E.take (i + 1)) := by
  have e : E = E.take (i + 1) ++ E.drop (i + 1) := (List.take_append_drop (i + 1) E).symm
  have h1 : cnt k (E.take (i + 1)) = psum (E.take (i + 1)) := cnt_all fun r hr => Int.le_trans (ha.down he hr) hx
  have h2 : cnt k (E.drop (i + 1)) = 0 := cnt_none hk
  calc cnt k E = cnt k (E.take (i + 1) ++ E.drop (i + 1)) := by rw [← e]
    _ = _ := by rw [cnt_append, h1, h2]; omega
theorem Sw.under (h : Sw E wf i L op fr) (ha : Asc E) (he : E[i]? = some (x, y)) {k : Int} (hk : k < x) : (memL k L ∨ (op = true ∧ fr ≤ k)) ↔ wf (cnt k E) = true :=
  h.mem k fun r hr => by have := ha.up he (Nat.le_refl _) hr; omega
theorem Sw.over (h : Sw E wf i L op fr) (he : E[i]? = some (x, y)) {k : Int} (hk : x ≤ k) : ¬ memL k L := by
  rintro ⟨s, hs, _, h2⟩
  have := h.low s hs _ (drop_head he)
  simp only at this
  omega
theorem Sw.open' (h : Sw E wf i L false fr) (ha : Asc E) (he : E[i]? = some (x, y)) (hx : ∀ r, r ∈ E.drop (i + 1) → x < r.1) (hw : wf (psum (E.take (i + 1))) = true) : Sw E wf (i + 1) L true x where
  nrm := h.nrm
  len := by have := h.len; omega
  low s hs r hr := h.low s hs r (drop_sub hr)
  opn _ := ⟨hx, fun s hs => h.low s hs _ (drop_head he)⟩
  mem k hk := by
    by_cases hkx : x ≤ k
    · rw [cnt_at ha he hkx hk, hw]
      simp [hkx]
    · rw [← h.under ha he (show k < x by omega)]
      simp [hkx]
theorem Sw.go' (h : Sw E wf i L true fr) (ha : Asc E) (he : E[i]? = some (x, y)) (hw : wf (psum (E.take (i + 1))) = true) : Sw E wf (i + 1) L true fr where
  nrm := h.nrm
  len := by have := h.len; omega
  low s hs r hr := h.low s hs r (drop_sub hr)
  opn q := ⟨fun r hr => (h.opn q).1 r (drop_sub hr), (h.opn q).2⟩
  mem k hk := by
    by_cases hkx : x ≤ k
    · rw [cnt_at ha he hkx hk, hw]
      have := (h.opn rfl).1 _ (drop_head he)
      simp only at this
      simp
      exact Or.inr (by omega)
    · exact h.under ha he (by omega)
theorem Sw.shut' (h : Sw E wf i L true fr) (ha : Asc E) (he : E[i]? = some (x, y)) (hx : ∀ r, r ∈ E.drop (i + 1) → x < r.1) (hw : wf (psum (E.take (i + 1))) = false) (f' : Int) : Sw E wf (i + 1) (L ++ [(fr, x)]) false f' where
  nrm := (Nrm_snoc _ _).2 ⟨h.nrm, (h.opn rfl).1 _ (drop_head he), (h.opn rfl).2⟩
  len := by have := h.len; simp; omega
  low s hs r hr := by
    rcases List.mem_append.1 hs with hs | hs
    · exact h.low s hs r (drop_sub hr)
    · rw [List.mem_singleton] at hs
      subst hs
      exact hx r hr
  opn q := by cases q
  mem k hk := by
    rw [memL_snoc]
    by_cases hkx : x ≤ k
    · rw [cnt_at ha he hkx hk, hw]
      have := h.over he hkx
      simp [this]
      omega
    · rw [← h.under ha he (show k < x by omega)]
      simp
      constructor
      · rintro (q | q)
        · exact Or.inl q
        · exact Or.inr q.1
      · rintro (q | q)
        · exact Or.inl q
        · exact Or.inr ⟨q, by omega⟩
theorem Sw.rest' (h : Sw E wf i L false fr) (ha : Asc E) (he : E[i]? = some (x, y)) (hw : wf (psum (E.take (i + 1))) = false) : Sw E wf (i + 1) L false fr where
  nrm := h.nrm
  len := by have := h.len; omega
  low s hs r hr := h.low s hs r (drop_sub hr)
  opn q := by cases q
  mem k hk := by
    by_cases hkx : x ≤ k
    · rw [cnt_at ha he hkx hk, hw]
      have := h.over he hkx
      simp [this]
    · exact h.under ha he (by omega)
theorem Sw.fin (h : Sw E wf E.length L op fr) (h0 : wf 0 = false) (hb : ∀ r, r ∈ E → r.1 ≤ 1048576) (hp : psum E = 0) : Nrm L ∧ ∀ k, memL k L ↔ wf (cnt k E) = true := by
  have hd : E.drop E.length = [] := List.drop_eq_nil_of_le (Nat.le_refl _)
  have hop : op = false := by
    cases op with
    | false => rfl
    | true =>
      have hm := h.mem (max fr 1048576) (fun r hr => by rw [hd] at hr; simp at hr)
      rw [cnt_all (fun r hr => by have := hb r hr; omega), hp, h0] at hm
      have := hm.1 (Or.inr ⟨rfl, by omega⟩)
      cases this
  subst hop
  refine ⟨h.nrm, fun k => ?_⟩
  rw [← h.mem k (fun r hr => by rw [hd] at hr; simp at hr)]
  simp
end
end Go.Proofs.Ytfpbiimjcdbaoaa
