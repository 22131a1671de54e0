/-
  span.sift: the ends of some lists of ranges that may be, sorted, and what is between them; in new memory.
-/
import Derived.Test.YtfpbiimjcdbaoaaChecked
import Derived.WalkKit
import Derived.BigQuiet
import Derived.Test.YtfpbiimjcdbaoaaSpanMay
import Derived.Test.YtfpbiimjcdbaoaaSpanSweep
import Derived.Test.YtfpbiimjcdbaoaaSpanBtw
namespace Go.Proofs.Ytfpbiimjcdbaoaa
open Go.RowKit Go.Deep
/-- the ends of ranges -/
def ed : List (Int × Int) → List (Int × Int)
  | [] => []
  | r :: l => (r.1, 1) :: (r.2, -1) :: ed l
theorem ed_snoc (L : List (Int × Int)) (r : Int × Int) : ed (L ++ [r]) = ed L ++ [(r.1, 1), (r.2, -1)] := by
  induction L with
  | nil => rfl
  | cons s l ih => simp [ed, ih]
theorem ed_length (L : List (Int × Int)) : (ed L).length = L.length * 2 := by
  induction L with
  | nil => rfl
  | cons s l ih => simp [ed, ih]; omega
theorem ed_psum (L : List (Int × Int)) : psum (ed L) = 0 := by
  induction L with
  | nil => rfl
  | cons s l ih => simp only [ed, psum, ih]; omega
theorem ed_bd (L : List (Int × Int)) (h : ∀ r, r ∈ L → 0 ≤ r.1 ∧ r.1 < r.2 ∧ r.2 ≤ 1048576) : ∀ r, r ∈ ed L → (0 ≤ r.1 ∧ r.1 ≤ 1048576) ∧ -1 ≤ r.2 ∧ r.2 ≤ 1 := by
  induction L with
  | nil => intro r hr; simp [ed] at hr
  | cons s l ih =>
    intro r hr
    have hs := h s (List.mem_cons.2 (Or.inl rfl))
    simp only [ed, List.mem_cons] at hr
    rcases hr with rfl | rfl | hr
    · simp only; omega
    · simp only; omega
    · exact ih (fun t ht => h t (List.mem_cons.2 (Or.inr ht))) r hr
/-- of ranges that do not overlap a number is in one at most -/
theorem ed_cnt (L : List (Int × Int)) (h : Nrm L) (k : Int) : cnt k (ed L) = if memB k L then 1 else 0 := by
  induction L with
  | nil => rfl
  | cons s l ih =>
    simp only [ed, cnt]
    rw [ih h.2.2]
    have h1 := h.1
    cases hm : memB k l with
    | true =>
      obtain ⟨r, hr, h2, h3⟩ := (memB_iff k l).1 hm
      have h4 := h.2.1 r hr
      have e : memB k (s :: l) = true := (memB_iff _ _).2 ((memL_cons _ _ _).2 (Or.inr ⟨r, hr, h2, h3⟩))
      rw [e, if_pos (by omega), if_pos (by omega)]
      simp
    | false =>
      have hn := (memB_false k l).1 hm
      by_cases c1 : s.1 ≤ k
      · by_cases c2 : s.2 ≤ k
        · have e : memB k (s :: l) = false := (memB_false _ _).2 fun q => by
            rcases (memL_cons _ _ _).1 q with q | q
            · omega
            · exact hn q
          rw [e, if_pos c1, if_pos c2]; simp
        · have e : memB k (s :: l) = true := (memB_iff _ _).2 ((memL_cons _ _ _).2 (Or.inl ⟨c1, by omega⟩))
          rw [e, if_pos c1, if_neg c2]; simp
      · have e : memB k (s :: l) = false := (memB_false _ _).2 fun q => by
          rcases (memL_cons _ _ _).1 q with q | q
          · omega
          · exact hn q
        rw [e, if_neg c1, if_neg (by omega)]; simp
/-- those of the first lists -/
def edN (LL : Nat → List (Int × Int)) : Nat → List (Int × Int)
  | 0 => []
  | j + 1 => edN LL j ++ ed (LL j)
theorem edN_bd (LL : Nat → List (Int × Int)) (m : Nat) (h : ∀ j, j < m → ∀ r, r ∈ LL j → 0 ≤ r.1 ∧ r.1 < r.2 ∧ r.2 ≤ 1048576) : psum (edN LL m) = 0 ∧ ∀ r, r ∈ edN LL m → (0 ≤ r.1 ∧ r.1 ≤ 1048576) ∧ -1 ≤ r.2 ∧ r.2 ≤ 1 := by
  induction m with
  | zero => exact ⟨rfl, fun r hr => by simp [edN] at hr⟩
  | succ j ih =>
    obtain ⟨i1, i2⟩ := ih fun q hq => h q (by omega)
    refine ⟨by rw [edN, psum_append, i1, ed_psum]; rfl, fun r hr => ?_⟩
    rw [edN] at hr
    rcases List.mem_append.1 hr with hr | hr
    · exact i2 r hr
    · exact ed_bd _ (h j (by omega)) r hr
/-- a block of ranges -/
def RTag (w : World) (a : Option Addr) : Prop := ∀ b o x, a = some ⟨b, o, x⟩ → ∃ cur, w.heap[b]? = some (.cells cur 53 (0, 0))
theorem RTag.ext {w w' : World} {a : Option Addr} (h : RTag w a) (e : Ext w w') : RTag w' a := fun b o x ha => by
  obtain ⟨cur, hc⟩ := h b o x ha
  exact ⟨cur, (e.below.block b (Array.getElem?_eq_some_iff.1 hc).1).trans hc⟩
theorem own_tag {w : World} {base : Nat} {a : Option Addr} {n c : Nat} {xs : List Value} (h : w.ownsRow base 53 2 (.slice a n c) n xs) : RTag w a := fun b o x ha => by
  subst ha
  exact own_block h rfl
/-- what Add, Cut, Both come to: not of the form; or the one list of the set, if it isn't too long -/
def SetRes (ok : Bool) (P : Int → Prop) (v : Value) (er : Int) (w' : World) : Prop :=
  (ok = false ∧ v = .slice none 0 0 ∧ er = 4) ∨ (ok = true ∧ ∃ L, Nrm L ∧ (∀ k, memL k L ↔ P k) ∧ L.length ≤ 1000000 ∧ ((200 < L.length ∧ v = .slice none 0 0 ∧ er = 8) ∨ (L.length ≤ 200 ∧ er = 0 ∧ ∃ a c, v = .slice a L.length c ∧ Rngs w' a L ∧ RTag w' a)))
def allB (LL : Nat → List (Int × Int)) : Nat → Bool
  | 0 => true
  | j + 1 => allB LL j && mayB (LL j)
theorem allB_false (LL : Nat → List (Int × Int)) {j m : Nat} (hj : j < m) (h : mayB (LL j) = false) : allB LL m = false := by
  induction m with
  | zero => omega
  | succ q ih =>
    by_cases e : j = q
    · subst e; simp [allB, h]
    · simp [allB, ih (by omega)]
theorem allB_true (LL : Nat → List (Int × Int)) {m : Nat} (h : allB LL m = true) : ∀ j, j < m → mayB (LL j) = true := by
  intro j hj
  cases e : mayB (LL j) with
  | true => rfl
  | false => rw [allB_false LL hj e] at h; cases h
theorem quad_news (W : World) (g : Nat) (hg : g = W.heap.size) (a b c d : Int) (t : TypeId) : ∀ (j : Nat) (u : Value), (fl [(a, b), (c, d)])[j]? = some u → (W.alloc (.cells #[.int .i64 a, .int .i64 b, .int .i64 c, .int .i64 d] t)).cell? ⟨g, j, none⟩ = some u := by
  subst hg
  intro j u hj
  rw [new_cell, ← Array.getElem?_toList]
  exact hj
def SiftRes (w : World) (ok : Bool) (P : Int → Prop) (e : Ending) (w' : World) : Prop := ∃ v er, e = .returned (.tuple #[v, .int .i64 er]) ∧ SetRes ok P v er w' ∧ Ext w w'
end Go.Proofs.Ytfpbiimjcdbaoaa
