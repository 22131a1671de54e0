/-
  Lists of ranges that neither touch nor overlap, ascending: a set has one such list.
-/
import Derived.Test.YtfpbiimjcdbaoaaSpanMem
namespace Go.Proofs.Ytfpbiimjcdbaoaa
/-- a number is in one of the ranges -/
def memL (k : Int) (L : List (Int × Int)) : Prop := ∃ r, r ∈ L ∧ r.1 ≤ k ∧ k < r.2
def memB (k : Int) (L : List (Int × Int)) : Bool := L.any fun r => decide (r.1 ≤ k) && decide (k < r.2)
theorem memB_iff (k : Int) (L : List (Int × Int)) : memB k L = true ↔ memL k L := by
  unfold memB memL
  simp
theorem memB_false (k : Int) (L : List (Int × Int)) : memB k L = false ↔ ¬ memL k L := by
  rw [← memB_iff]
  simp
theorem memL_nil (k : Int) : ¬ memL k [] := fun ⟨_, h, _⟩ => by simp at h
theorem memL_snoc (k : Int) (L : List (Int × Int)) (r : Int × Int) : memL k (L ++ [r]) ↔ memL k L ∨ (r.1 ≤ k ∧ k < r.2) := by
  unfold memL
  constructor
  · rintro ⟨s, hs, h⟩
    rcases List.mem_append.1 hs with h1 | h1
    · exact Or.inl ⟨s, h1, h⟩
    · rw [List.mem_singleton] at h1
      subst h1
      exact Or.inr h
  · rintro (⟨s, hs, h⟩ | h)
    · exact ⟨s, List.mem_append.2 (Or.inl hs), h⟩
    · exact ⟨r, List.mem_append.2 (Or.inr (List.mem_singleton.2 rfl)), h⟩
theorem memL_one (k x y : Int) : memL k [(x, y)] ↔ x ≤ k ∧ k < y := by
  have := memL_snoc k [] (x, y)
  rw [List.nil_append] at this
  rw [this]
  constructor
  · rintro (h | h)
    · exact absurd h (memL_nil k)
    · exact h
  · exact Or.inr
/-- ascending, none empty, no two of them touch -/
def Nrm : List (Int × Int) → Prop
  | [] => True
  | r :: l => r.1 < r.2 ∧ (∀ s, s ∈ l → r.2 < s.1) ∧ Nrm l
theorem Nrm_snoc (L : List (Int × Int)) (r : Int × Int) : Nrm (L ++ [r]) ↔ Nrm L ∧ r.1 < r.2 ∧ ∀ s, s ∈ L → s.2 < r.1 := by
  induction L with
  | nil => simp [Nrm]
  | cons s l ih =>
    show (s.1 < s.2 ∧ (∀ t, t ∈ l ++ [r] → s.2 < t.1) ∧ Nrm (l ++ [r])) ↔ (s.1 < s.2 ∧ (∀ t, t ∈ l → s.2 < t.1) ∧ Nrm l) ∧ _
    rw [ih]
    constructor
    · rintro ⟨h1, h2, h3, h4, h5⟩
      refine ⟨⟨h1, fun t ht => h2 t (List.mem_append.2 (Or.inl ht)), h3⟩, h4, fun t ht => ?_⟩
      rcases List.mem_cons.1 ht with rfl | ht
      · exact h2 r (List.mem_append.2 (Or.inr (List.mem_singleton.2 rfl)))
      · exact h5 t ht
    · rintro ⟨⟨h1, h2, h3⟩, h4, h5⟩
      refine ⟨h1, fun t ht => ?_, h3, h4, fun t ht => h5 t (List.mem_cons.2 (Or.inr ht))⟩
      rcases List.mem_append.1 ht with ht | ht
      · exact h2 t ht
      · rw [List.mem_singleton] at ht
        subst ht
        exact h5 s (List.mem_cons.2 (Or.inl rfl))
theorem Nrm.lt {L : List (Int × Int)} (h : Nrm L) : ∀ r, r ∈ L → r.1 < r.2 := by
  induction L with
  | nil => intro r hr; simp at hr
  | cons s l ih =>
    intro r hr
    rcases List.mem_cons.1 hr with rfl | hr
    · exact h.1
    · exact ih h.2.2 r hr
theorem memL_cons (k : Int) (r : Int × Int) (L : List (Int × Int)) : memL k (r :: L) ↔ (r.1 ≤ k ∧ k < r.2) ∨ memL k L := by
  unfold memL
  constructor
  · rintro ⟨s, hs, h⟩
    rcases List.mem_cons.1 hs with rfl | hs
    · exact Or.inl h
    · exact Or.inr ⟨s, hs, h⟩
  · rintro (h | ⟨s, hs, h⟩)
    · exact ⟨r, List.mem_cons.2 (Or.inl rfl), h⟩
    · exact ⟨s, List.mem_cons.2 (Or.inr hs), h⟩
/-- of a list that is so the first number is the least, the end of the first range is none of them -/
theorem Nrm.low {r : Int × Int} {l : List (Int × Int)} (h : Nrm (r :: l)) {k : Int} (hk : memL k (r :: l)) : r.1 ≤ k := by
  rcases (memL_cons _ _ _).1 hk with h1 | ⟨s, hs, h1⟩
  · exact h1.1
  · have h2 := h.2.1 s hs
    have h3 := h.1
    omega
theorem Nrm.gap {r : Int × Int} {l : List (Int × Int)} (h : Nrm (r :: l)) : ¬ memL r.2 (r :: l) := by
  intro hk
  rcases (memL_cons _ _ _).1 hk with h1 | ⟨s, hs, h1⟩
  · omega
  · have h2 := h.2.1 s hs
    omega
theorem Nrm.tail {r : Int × Int} {l : List (Int × Int)} (h : Nrm (r :: l)) (k : Int) : memL k l ↔ memL k (r :: l) ∧ r.2 ≤ k := by
  constructor
  · intro hk
    refine ⟨(memL_cons _ _ _).2 (Or.inr hk), ?_⟩
    obtain ⟨s, hs, h1⟩ := hk
    have h2 := h.2.1 s hs
    omega
  · rintro ⟨hk, h1⟩
    rcases (memL_cons _ _ _).1 hk with h2 | h2
    · omega
    · exact h2
/-- A SET HAS ONE LIST -/
theorem Nrm.uniq : ∀ (L M : List (Int × Int)), Nrm L → Nrm M → (∀ k, memL k L ↔ memL k M) → L = M
  | [], [], _, _, _ => rfl
  | [], r :: m, _, h, e => absurd ((e r.1).2 ((memL_cons _ _ _).2 (Or.inl ⟨Int.le_refl _, h.1⟩))) (memL_nil _)
  | r :: l, [], h, _, e => absurd ((e r.1).1 ((memL_cons _ _ _).2 (Or.inl ⟨Int.le_refl _, h.1⟩))) (memL_nil _)
  | r :: l, s :: m, h, k, e => by
    have a1 := k.low ((e r.1).1 ((memL_cons _ _ _).2 (Or.inl ⟨Int.le_refl _, h.1⟩)))
    have a2 := h.low ((e s.1).2 ((memL_cons _ _ _).2 (Or.inl ⟨Int.le_refl _, k.1⟩)))
    have b1 : ¬ r.2 < s.2 := fun q => h.gap ((e r.2).2 ((memL_cons _ _ _).2 (Or.inl ⟨by have := h.1; omega, q⟩)))
    have b2 : ¬ s.2 < r.2 := fun q => k.gap ((e s.2).1 ((memL_cons _ _ _).2 (Or.inl ⟨by have := k.1; omega, q⟩)))
    have c : r = s := Prod.ext (by omega) (by omega)
    subst c
    rw [Nrm.uniq l m h.2.2 k.2.2 fun q => by rw [h.tail, k.tail, e q]]
theorem okB_Nrm {L : List (Int × Int)} {m : Int} (h : okB m L = true) : Nrm L ∧ ∀ r, r ∈ L → m ≤ r.1 ∧ r.1 < r.2 ∧ r.2 ≤ 1048576 := by
  induction L generalizing m with
  | nil => exact ⟨trivial, fun r hr => by simp at hr⟩
  | cons r l ih =>
    simp only [okB, Bool.and_eq_true, decide_eq_true_eq] at h
    obtain ⟨⟨⟨h1, h2⟩, h3⟩, h4⟩ := h
    obtain ⟨i1, i2⟩ := ih h4
    refine ⟨⟨h2, fun s hs => by have := i2 s hs; omega, i1⟩, fun s hs => ?_⟩
    rcases List.mem_cons.1 hs with rfl | hs
    · exact ⟨h1, h2, h3⟩
    · have := i2 s hs
      omega
theorem okB_of {L : List (Int × Int)} {m : Int} (h : Nrm L) (hb : ∀ r, r ∈ L → m ≤ r.1 ∧ r.2 ≤ 1048576) : okB m L = true := by
  induction L generalizing m with
  | nil => rfl
  | cons r l ih =>
    obtain ⟨h1, h2⟩ := hb r (List.mem_cons.2 (Or.inl rfl))
    have := ih (m := r.2 + 1) h.2.2 fun s hs => ⟨by have := h.2.1 s hs; omega, (hb s (List.mem_cons.2 (Or.inr hs))).2⟩
    simp only [okB, Bool.and_eq_true, decide_eq_true_eq]
    exact ⟨⟨⟨h1, h.1⟩, h2⟩, this⟩
theorem mayB_iff (L : List (Int × Int)) : mayB L = true ↔ L.length ≤ 200 ∧ Nrm L ∧ ∀ r, r ∈ L → 0 ≤ r.1 ∧ r.1 < r.2 ∧ r.2 ≤ 1048576 := by
  unfold mayB
  rw [Bool.and_eq_true, decide_eq_true_eq]
  constructor
  · rintro ⟨h1, h2⟩
    exact ⟨h1, okB_Nrm h2⟩
  · rintro ⟨h1, h2, h3⟩
    exact ⟨h1, okB_of h2 fun r hr => ⟨(h3 r hr).1, (h3 r hr).2.2⟩⟩
/-- how many numbers -/
def szL : List (Int × Int) → Int
  | [] => 0
  | r :: l => (r.2 - r.1) + szL l
theorem szL_snoc (L : List (Int × Int)) (r : Int × Int) : szL (L ++ [r]) = szL L + (r.2 - r.1) := by
  induction L with
  | nil => simp [szL]
  | cons s l ih =>
    show (s.2 - s.1) + szL (l ++ [r]) = (s.2 - s.1) + szL l + _
    rw [ih]
    omega
theorem take_at {α : Type} {L : List α} {k : Nat} {r : α} (h : L[k]? = some r) : L.take (k + 1) = L.take k ++ [r] := by
  rw [List.take_add_one, h]
  rfl
theorem szL_bd (L : List (Int × Int)) (h : ∀ r, r ∈ L → 0 ≤ r.1 ∧ r.1 < r.2 ∧ r.2 ≤ 1048576) : 0 ≤ szL L ∧ szL L ≤ 1048576 * (L.length : Int) := by
  induction L with
  | nil => simp [szL]
  | cons r l ih =>
    have h1 := h r (List.mem_cons.2 (Or.inl rfl))
    have h2 := ih fun s hs => h s (List.mem_cons.2 (Or.inr hs))
    show 0 ≤ (r.2 - r.1) + szL l ∧ (r.2 - r.1) + szL l ≤ 1048576 * ((l.length + 1 : Nat) : Int)
    omega
def sizeV (L : List (Int × Int)) : Int := if mayB L then szL L else 0
def hasB (L : List (Int × Int)) (k : Int) : Bool := mayB L && memB k L
/-- the first range that has n numbers -/
def fstL (n : Int) : List (Int × Int) → Option Int
  | [] => none
  | r :: l => if n ≤ r.2 - r.1 then some r.1 else fstL n l
end Go.Proofs.Ytfpbiimjcdbaoaa
