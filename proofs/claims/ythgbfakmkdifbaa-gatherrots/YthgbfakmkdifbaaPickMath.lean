/-
  Lists of places: how long they are, that they ascend; the weights of lost columns in kept ones can be inverted (no program in sight).
-/
import Derived.Test.YthgbfakmkdifbaaParCopied
import Derived.Test.YthgbfakmkdifbaaPars
import Derived.Test.YthgbfakmkdifbaaAlg
namespace Go.Proofs.Ythgbfakmkdifbaa
open E
theorem filter_or (l : List Nat) (a b : Nat → Bool) : (l.filter fun x => a x || b x).length ≤ (l.filter a).length + (l.filter b).length := by
  induction l with
  | nil => simp
  | cons x l ih =>
    simp only [List.filter_cons]
    cases a x <;> cases b x <;> simp <;> omega
theorem one_of (n : Nat) (c : Int) : ((List.range n).filter fun x : Nat => (x : Int) == c).length ≤ 1 := by
  induction n with
  | zero => simp
  | succ n ih =>
    rw [List.range_succ, List.filter_append, List.length_append]
    by_cases e : (n : Int) = c
    · have : (List.range n).filter (fun x : Nat => (x : Int) == c) = [] := by
        rw [List.filter_eq_nil_iff]
        intro x hx
        have := List.mem_range.1 hx
        simp; omega
      rw [this]
      simp [e]
    · simp [e]; exact ih
theorem gone_len (n nl : Nat) (fl : Nat → Int) : (PL n fun k => hasB nl fl k).length ≤ nl := by
  unfold PL
  induction nl with
  | zero =>
    have : (List.range n).filter (fun k : Nat => hasB 0 fl k) = [] := by rw [List.filter_eq_nil_iff]; intro x _; simp [hasB]
    rw [this]; simp
  | succ m ih =>
    have h := filter_or (List.range n) (fun k : Nat => hasB m fl k) (fun k : Nat => (k : Int) == fl m)
    have e : (fun k : Nat => hasB (m + 1) fl k) = fun k : Nat => hasB m fl k || (k : Int) == fl m := funext fun k => hasB_succ m fl k
    rw [e]
    have := one_of n (fl m)
    omega
theorem split_len (n : Nat) (g : Nat → Bool) : (PL n g).length + (KL n g).length = n := by
  unfold PL KL
  induction n with
  | zero => rfl
  | succ n ih =>
    rw [List.range_succ, List.filter_append, List.filter_append, List.length_append, List.length_append]
    cases h : g n <;> simp [h] <;> omega
theorem PL_add (a b : Nat) (g : Nat → Bool) : (PL (a + b) g).length = (PL a g).length + (PL b fun k => g (a + k)).length := by
  induction b with
  | zero => simp [PL]
  | succ b ih =>
    rw [← Nat.add_assoc]
    cases h : g (a + b)
    · rw [PL_no h, PL_no (n := b) (ok := fun k => g (a + k)) h]; exact ih
    · rw [PL_yes h, PL_yes (n := b) (ok := fun k => g (a + k)) h, List.length_append, List.length_append]
      simp; omega
theorem KL_PL (n : Nat) (g : Nat → Bool) : KL n g = PL n fun k => !g k := rfl
theorem PL_lt {n : Nat} {ok : Nat → Bool} {a b : Nat} (hab : a < b) (hb : b < (PL n ok).length) : (PL n ok).getD a 0 < (PL n ok).getD b 0 := by
  have h : (PL n ok).Pairwise (· < ·) := by
    unfold PL
    exact List.Pairwise.filter _ List.pairwise_lt_range
  rw [List.getD_eq_getElem?_getD, List.getElem?_eq_getElem (by omega), List.getD_eq_getElem?_getD, List.getElem?_eq_getElem hb]
  exact List.pairwise_iff_getElem.1 h a b (by omega) hb hab
theorem PL_at {n : Nat} {ok : Nat → Bool} {i : Nat} (hi : i < (PL n ok).length) : (PL n ok).getD i 0 < n ∧ ok ((PL n ok).getD i 0) = true := by
  rw [List.getD_eq_getElem?_getD, List.getElem?_eq_getElem hi]
  exact PL_mem.1 (List.getElem_mem hi)
theorem PL_ex {n : Nat} {ok : Nat → Bool} {k : Nat} (hk : k < n) (h : ok k = true) : ∃ i, i < (PL n ok).length ∧ (PL n ok).getD i 0 = k := by
  obtain ⟨i, hi, e⟩ := List.getElem_of_mem (PL_mem.2 ⟨hk, h⟩)
  exact ⟨i, hi, by rw [List.getD_eq_getElem?_getD, List.getElem?_eq_getElem hi]; exact e⟩
theorem two_pw {a b : Nat} (ha : a < 12) (hb : b < 12) (h : pw (en 2) a = pw (en 2) b) : a = b := by
  have key : ∀ a, a < 12 → ∀ b, b < 12 → Gf.gpow 2 a = Gf.gpow 2 b → a = b := by decide +kernel
  exact key a ha b hb (congrArg E.val h)
/-- of the columns that are lost and as many parity columns that are kept -/
theorem rank_lost {t : Nat} (h j : Nat → Nat) (ht : t ≤ 3) (hh : ∀ b, b < t → h b < 12) (hi : ∀ a b, a < b → b < t → h a < h b) (hj : ∀ a, a < t → j a < 3) (hji : ∀ a b, a < b → b < t → j a < j b) : (redTo t (fun a b => wt (j a) (h b)) t).2 = t := by
  have e : (fun a b => wt (j a) (h b)) = fun a b => pw (pw (en 2) (h b)) (j a) := by
    funext a b
    unfold wt
    rw [Nat.mul_comm, pw_mul]
  rw [e]
  refine rank_pick j (fun b => pw (en 2) (h b)) ht hj hji (fun a _ => pw_ne (fun q => by cases q) _) fun a b ha hb hab q => ?_
  have := two_pw (hh a ha) (hh b hb) q
  rcases Nat.lt_or_gt_of_ne hab with l | l
  · have := hi a b l hb; omega
  · have := hi b a l ha; omega
end Go.Proofs.Ythgbfakmkdifbaa
