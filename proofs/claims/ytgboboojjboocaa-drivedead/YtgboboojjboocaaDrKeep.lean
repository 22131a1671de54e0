/-
  What the keeps of drive share: acts as they come in, jobs as they are made, and what a sector has behind them.
-/
import Derived.Test.YtgboboojjboocaaChecked
import Derived.WalkKit
import Derived.BigQuiet
import Derived.Test.YtgboboojjboocaaFlat
import Derived.Test.YtgboboojjboocaaSameB
import Derived.Test.YtgboboojjboocaaDrGets
namespace Go.Proofs.Ytgboboojjboocaa
open Go.RowKit Go.Deep E
def actL (n : Nat) (F : Nat → Nat → Int) : List Act4 := (List.range n).map fun r => (F r 0, F r 1, F r 2, F r 3)
theorem actL_len (n : Nat) (F : Nat → Nat → Int) : (actL n F).length = n := by
  unfold actL
  rw [List.length_map, List.length_range]
theorem act_els {w : World} {a : Option Addr} {n : Nat} {F : Nat → Nat → Int} (h : Flt w a n 4 F) : Els w a 4 ((actL n F).map actC) := fun i cs hi => by
  have hl := lt_of_get hi
  rw [List.length_map, actL_len] at hl
  unfold actL at hi
  rw [List.getElem?_map, range_get _ hl] at hi
  obtain ⟨b, o, ha, h0⟩ := h i 0 hl (by omega)
  obtain ⟨b1, o1, ha1, h1⟩ := h i 1 hl (by omega)
  obtain ⟨b2, o2, ha2, h2⟩ := h i 2 hl (by omega)
  obtain ⟨b3, o3, ha3, h3⟩ := h i 3 hl (by omega)
  rw [ha] at ha1 ha2 ha3
  cases ha1
  cases ha2
  cases ha3
  simp only [Option.map_some, Option.some.injEq] at hi
  subst hi
  refine ⟨b, o, ha, fun j v hj => ?_⟩
  match j, hj with
  | 0, hj => cases hj; exact h0
  | 1, hj => cases hj; exact h1
  | 2, hj => cases hj; exact h2
  | 3, hj => cases hj; exact h3
theorem act_bd {n : Nat} {F : Nat → Nat → Int} (h : ∀ r k, r < n → k < 4 → I64 (F r k)) : ∀ x, x ∈ actL n F → I64b x.1 ∧ I64b x.2.1 ∧ I64b x.2.2.1 ∧ I64b x.2.2.2 := fun x hx => by
  obtain ⟨r, hr, rfl⟩ := List.mem_map.1 hx
  have hr := List.mem_range.1 hr
  exact ⟨h r 0 hr (by omega), h r 1 hr (by omega), h r 2 hr (by omega), h r 3 hr (by omega)⟩
/-- jobs that were made of acts -/
structure AJobs (w : World) (v : Value) (q : Nat) (D : List Jb) (ks : List Int) (ad : Option Addr) (c : Nat) : Prop where
  val : v = .slice ad q c
  len : D.length = q
  jobs : Jobs w ad D
  cap : q ≤ c ∧ c ≤ 9223372036854775807
  plain : ∀ J, J ∈ D → J.k ∈ ks ∧ 0 ≤ J.at' ∧ J.at' < 8 ∧ (J.k = 1 ∨ J.k = 6 → J.l = 128)
theorem AJobs.ext {w w' : World} {v : Value} {q : Nat} {D : List Jb} {ks : List Int} {ad : Option Addr} {c : Nat} (h : AJobs w v q D ks ad c) (x : Ext w w') : AJobs w' v q D ks ad c := ⟨h.val, h.len, h.jobs.ext x, h.cap, h.plain⟩
theorem AcI.made {w wr : World} {L : List Act4} {g : Nat → Int} {nk q : Nat} {D : List Jb} {v : Value} (h : AcI w L g nk q D v wr) (hq : q ≤ L.length) (hn : 0 < nk) {ks : List Int} (hg : ∀ i, i < nk → g i ∈ ks) : ∃ ad c, AJobs wr v q D ks ad c := by
  obtain ⟨_, ad, c, hv, hc1, hc2, hE⟩ := own_els h.own (jobs_szd D) (by omega)
  refine ⟨ad, c, hv, h.len, ⟨hE, fun J hJ => ⟨(h.ok J hJ).byts.1, by have := (h.ok J hJ).byts.2; omega⟩⟩, ⟨hc1, hc2⟩, fun J hJ => ?_⟩
  obtain ⟨i, hi⟩ := List.getElem?_of_mem hJ
  have hil := lt_of_get hi
  rw [h.len] at hil
  obtain ⟨x, hx⟩ : ∃ x, L[i]? = some x := ⟨_, List.getElem?_eq_getElem (by omega)⟩
  obtain ⟨h1, h2, h3⟩ := h.each i J x hi hx
  have m1 := Int.emod_nonneg x.1 (show (nk : Int) ≠ 0 by omega)
  have m2 := Int.emod_lt_of_pos x.1 (show (0 : Int) < nk by omega)
  refine ⟨by rw [h1]; exact hg _ (by omega), by rw [h2]; omega, by rw [h2]; omega, fun hk => ?_⟩
  rw [if_pos hk] at h3
  exact h3.1
theorem AJobs.good {w : World} {v : Value} {q : Nat} {D : List Jb} {ks : List Int} {ad : Option Addr} {c : Nat} (h : AJobs w v q D ks ad c) (hk : ∀ k, k ∈ ks → k = 1 ∨ k = 2 ∨ k = 3 ∨ k = 4) : ∀ J, J ∈ D → Plain 8 J := fun J hJ => by
  obtain ⟨h1, h2, h3, h4⟩ := h.plain J hJ
  refine ⟨?_, h2, h3⟩
  rcases hk _ h1 with h5 | h5 | h5 | h5
  · exact Or.inl ⟨h5, h4 (Or.inl h5)⟩
  · exact Or.inr (Or.inl h5)
  · exact Or.inr (Or.inr (Or.inl h5))
  · exact Or.inr (Or.inr (Or.inr h5))
/-- a job that is no loss of power: what a sector has behind it -/
theorem job_has {s : DState} {J : Jb} (h : Good 8 s) (hp : Plain 8 J) (hk : J.k ≠ 4) {i : Nat} (hi : i < 8) : has (jobR 8 s J).2 i = if J.k = 1 ∧ J.at' = (i : Int) then J.f else has s i := by
  obtain ⟨hj, ha⟩ := hp
  rcases hj with ⟨hj, hl⟩ | hj | hj | hj
  · rw [job_put h hj ha hl]
    show has (s.1, s.2.1 ++ [(J.at'.toNat, J.f)], s.2.2) i = _
    rw [put_has]
    by_cases e : J.at' = (i : Int)
    · rw [if_pos (by show J.at'.toNat = i; omega), if_pos ⟨hj, e⟩]
    · rw [if_neg (by show ¬ J.at'.toNat = i; omega), if_neg (fun q => e q.2)]
  · rw [job_get h hj ha, if_neg (fun q => by omega)]
  · rw [job_flush h hj ha, if_neg (fun q => by omega)]
    exact flush_has h hi
  · exact absurd hj hk
theorem dend_snoc (n : Nat) (L : List Jb) (J : Jb) (s : DState) : dend n s (L ++ [J]) = (jobR n (dend n s L) J).2 := by
  rw [dend_append]
  rfl
theorem take_snoc {α : Type} {L : List α} {q : Nat} {x : α} (h : L[q]? = some x) : L.take (q + 1) = L.take q ++ [x] := by
  have hl := lt_of_get h
  rw [List.take_succ_eq_append_getElem hl]
  rw [List.getElem?_eq_getElem hl] at h
  cases h
  rfl
theorem Rows8.cols {w : World} {v : Value} {F : Nat → Nat → E} (h : Rows8 w v F) : ∃ ao c A C, v = .slice ao 8 c ∧ Cols w ao 8 A (fun _ => 128) C F := by
  obtain ⟨ao, c, hv, h1⟩ := h
  have h2 : ∀ i : Nat, ∃ p : Option Addr × Nat, i < 8 → (∃ b o, ao = some ⟨b, o, none⟩ ∧ w.cell? ⟨b, o + i, none⟩ = some (.slice p.1 128 p.2)) ∧ Byts w p.1 128 (F i) := fun i => by
    by_cases hi : i < 8
    · obtain ⟨b, o, ad, k, h3, h4, h5⟩ := h1 i hi
      exact ⟨(ad, k), fun _ => ⟨⟨b, o, h3, h4⟩, h5⟩⟩
    · exact ⟨(none, 0), fun q => absurd q hi⟩
  exact ⟨ao, c, fun i => (Classical.choose (h2 i)).1, fun i => (Classical.choose (h2 i)).2, hv, fun i hi => Classical.choose_spec (h2 i) hi⟩
/-- two lists of rows that are the same -/
theorem sameRows_any {w w0 : World} {v u : Value} {F G : Nat → Nat → E} (h : Rows8 w v F) (h' : Rows8 w u G) (e : ∀ i, i < 8 → F i = G i) (x : Ext w w0) :
    Calls Try.prog 14 #[v, u] w0 fun e w' => e = .returned (.bool true) ∧ Ext w0 w' := by
  obtain ⟨ao, c, A, C, rfl, h1⟩ := h.cols
  obtain ⟨ao', c', A', C', rfl, h2⟩ := h'.cols
  exact sameListsK_any ao ao' 8 c c' A A' (fun _ => 128) (fun _ => 128) C C' F G w0 (by omega) (fun r hr => ⟨by obtain ⟨b, o, hb, hc⟩ := (h1 r hr).1; exact ⟨b, o, hb, x.keeps hc⟩, (h1 r hr).2.ext x⟩) (fun r hr => ⟨by obtain ⟨b, o, hb, hc⟩ := (h2 r hr).1; exact ⟨b, o, hb, x.keeps hc⟩, (h2 r hr).2.ext x⟩) (fun r hr => ⟨rfl, by omega, fun i hi => by rw [e r hr]⟩)
theorem ints3 (w : World) (x y z : Int) (t : TypeId) (g : Nat) (hg : g = w.heap.size) : Ints (w.alloc (.cells #[.int .i64 x, .int .i64 y, .int .i64 z] t)) (some ⟨g, 0, none⟩) 3 (fun i => if i = 0 then x else if i = 1 then y else z) := fun i hi => by
  subst hg
  refine ⟨_, 0, rfl, ?_⟩
  rw [new_cell, Nat.zero_add]
  match i, hi with
  | 0, _ => rfl
  | 1, _ => rfl
  | 2, _ => rfl
theorem ints4 (w : World) (x y z u : Int) (t : TypeId) (g : Nat) (hg : g = w.heap.size) : Ints (w.alloc (.cells #[.int .i64 x, .int .i64 y, .int .i64 z, .int .i64 u] t)) (some ⟨g, 0, none⟩) 4 (fun i => if i = 0 then x else if i = 1 then y else if i = 2 then z else u) := fun i hi => by
  subst hg
  refine ⟨_, 0, rfl, ?_⟩
  rw [new_cell, Nat.zero_add]
  match i, hi with
  | 0, _ => rfl
  | 1, _ => rfl
  | 2, _ => rfl
  | 3, _ => rfl
theorem ints2 (w : World) (x y : Int) (t : TypeId) (g : Nat) (hg : g = w.heap.size) : Ints (w.alloc (.cells #[.int .i64 x, .int .i64 y] t)) (some ⟨g, 0, none⟩) 2 (fun i => if i = 0 then x else y) := fun i hi => by
  subst hg
  refine ⟨_, 0, rfl, ?_⟩
  rw [new_cell, Nat.zero_add]
  match i, hi with
  | 0, _ => rfl
  | 1, _ => rfl
end Go.Proofs.Ytgboboojjboocaa
