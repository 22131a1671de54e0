/-
  slices.Contains of numbers; par.kept, par.twice, par.refusal: plain answers; the world only grows.
-/
import Derived.Test.YtfdgacpmdlmjnabChecked
import Derived.WalkKit
import Derived.Test.YtfdgacpmdlmjnabParMay
import Derived.Test.YtfdgacpmdlmjnabByb
import Derived.Test.YtfdgacpmdlmjnabMk
namespace Go.Proofs.Ytfdgacpmdlmjnab
open Go.RowKit Go.Deep E
/-- is the number one of the first n? -/
def hasB (n : Nat) (f : Nat → Int) (x : Int) : Bool := (List.range n).any fun i => x == f i
theorem hasB_succ (n : Nat) (f : Nat → Int) (x : Int) : hasB (n + 1) f x = (hasB n f x || x == f n) := by
  unfold hasB
  rw [List.range_succ, List.any_append]
  simp
theorem hasB_true {n : Nat} {f : Nat → Int} {x : Int} {i : Nat} (hi : i < n) (h : x = f i) : hasB n f x = true := by
  unfold hasB
  rw [List.any_eq_true]
  exact ⟨i, List.mem_range.2 hi, by rw [h]; simp⟩
theorem hasB_false {n : Nat} {f : Nat → Int} {x : Int} (h : ∀ i, i < n → (x == f i) = false) : hasB n f x = false := by
  unfold hasB
  rw [List.any_eq_false]
  exact fun i hi => by rw [h i (List.mem_range.1 hi)]; simp
theorem hasB_ex {n : Nat} {f : Nat → Int} {x : Int} (h : hasB n f x = true) : ∃ i, i < n ∧ x = f i := by
  unfold hasB at h
  rw [List.any_eq_true] at h
  obtain ⟨i, hi, hx⟩ := h
  exact ⟨i, List.mem_range.1 hi, eq_of_beq hx⟩
/-- those ahead of n that are not g, ascending -/
def KL (n : Nat) (g : Nat → Bool) : List Nat := (List.range n).filter fun k => !g k
theorem KL_yes {n : Nat} {g : Nat → Bool} (h : g n = false) : KL (n + 1) g = KL n g ++ [n] := by
  unfold KL
  rw [List.range_succ, List.filter_append]
  simp [h]
theorem KL_no {n : Nat} {g : Nat → Bool} (h : g n = true) : KL (n + 1) g = KL n g := by
  unfold KL
  rw [List.range_succ, List.filter_append]
  simp [h]
theorem KL_len (n : Nat) (g : Nat → Bool) : (KL n g).length ≤ n := by
  unfold KL
  exact Nat.le_trans (List.length_filter_le _ _) (by simp)
theorem KL_mem {n : Nat} {g : Nat → Bool} {k : Nat} : k ∈ KL n g ↔ k < n ∧ g k = false := by
  unfold KL
  rw [List.mem_filter, List.mem_range]
  simp
theorem KL_at {n : Nat} {g : Nat → Bool} {i : Nat} (hi : i < (KL n g).length) : (KL n g).getD i 0 < n ∧ g ((KL n g).getD i 0) = false := by
  rw [List.getD_eq_getElem?_getD, List.getElem?_eq_getElem hi]
  exact KL_mem.1 (List.getElem_mem hi)
/-- a slice of the columns of a list of places -/
theorem own_cols {w w0 : World} {base : Nat} {v : Value} {l : List Nat} {a : Option Addr} {n : Nat} {A : Nat → Option Addr} {L C : Nat → Nat} {F : Nat → Nat → E} {t : TypeId} (h : w.ownsRow base t 1 v l.length (l.map fun r => .slice (A r) (L r) (C r))) (hc : Cols w0 a n A L C F) (x : Ext w0 w) (hl : ∀ k ∈ l, k < n) :
    ∃ a' c', v = .slice a' l.length c' ∧ Cols w a' l.length (fun i => A (l.getD i 0)) (fun i => L (l.getD i 0)) (fun i => C (l.getD i 0)) (fun i => F (l.getD i 0)) := by
  obtain ⟨a', c', hv, hcs⟩ := own_slice h
  refine ⟨a', c', hv, fun r hr => ⟨?_, ?_⟩⟩
  · obtain ⟨b, o, ha, hb⟩ := hcs r hr
    refine ⟨b, o, ha, ?_⟩
    have e : l.getD r 0 = l[r] := by rw [List.getD_eq_getElem?_getD, List.getElem?_eq_getElem hr]; rfl
    rw [hb, List.getElem?_map, List.getElem?_eq_getElem hr]
    dsimp only
    rw [e]
    rfl
  · have hm : l.getD r 0 < n := by
      rw [List.getD_eq_getElem?_getD, List.getElem?_eq_getElem hr]
      exact hl _ (List.getElem_mem hr)
    exact (hc.col hm).ext x
/-- is one of the first m no place of n? -/
def outB (n m : Nat) (f : Nat → Int) : Bool := (List.range m).any fun i => decide (f i < 0) || decide ((n : Int) ≤ f i)
theorem outB_true {n m : Nat} {f : Nat → Int} {i : Nat} (hi : i < m) (h : f i < 0 ∨ (n : Int) ≤ f i) : outB n m f = true := by
  unfold outB
  rw [List.any_eq_true]
  exact ⟨i, List.mem_range.2 hi, by simp; exact h⟩
theorem outB_false {n m : Nat} {f : Nat → Int} (h : ∀ i, i < m → 0 ≤ f i ∧ f i < n) : outB n m f = false := by
  unfold outB
  rw [List.any_eq_false]
  intro i hi
  have := h i (List.mem_range.1 hi)
  simp; omega
theorem outB_in {n m : Nat} {f : Nat → Int} (h : outB n m f = false) {i : Nat} (hi : i < m) : 0 ≤ f i ∧ f i < n := by
  unfold outB at h
  rw [List.any_eq_false] at h
  have := h i (List.mem_range.2 hi)
  simp at this; omega
/-- are two of the first m the same? -/
def dupB (m : Nat) (f : Nat → Int) : Bool := (List.range m).any fun i => hasB i f (f i)
theorem dupB_true {m : Nat} {f : Nat → Int} {i : Nat} (hi : i < m) (h : hasB i f (f i) = true) : dupB m f = true := by
  unfold dupB
  rw [List.any_eq_true]
  exact ⟨i, List.mem_range.2 hi, h⟩
theorem dupB_false {m : Nat} {f : Nat → Int} (h : ∀ i, i < m → hasB i f (f i) = false) : dupB m f = false := by
  unfold dupB
  rw [List.any_eq_false]
  exact fun i hi => by rw [h i (List.mem_range.1 hi)]; simp
theorem infoBool : (Try.prog.info? 4).map (fun i => (i.zero, i.size, i.bytes)) = some (some (.bool false), 1, 1) := by kernel_rfl
theorem make_bools (n : Nat) (hb : n ≤ 1073741824) (w : World) : (Instr.makeSlice 41 (.int .i64 (n : Int)) (.int .i64 (n : Int))).run Try.prog w = .ok (.slice (some ⟨w.heap.size, 0, none⟩) n n) (w.alloc (.cells (madeCells #[.bool false] n) 4)) :=
  run_make_row' (P := Try.prog) 41 4 (.bool false) 1 Try.underlying41 infoBool rfl .i64 .i64 n (by omega) (by omega) w
/-- what is lost -/
def goneB (nl : Nat) (fl : Nat → Int) (k : Nat) : Bool := hasB nl fl k
def keptAlike (n : Nat) (L : Nat → Nat) (nl : Nat) (fl : Nat → Int) : Bool := alikeB (KL n fun k => hasB nl fl k).length fun i => L ((KL n fun k => hasB nl fl k).getD i 0)
/-- why Rebuild can't be done; 0 if it can -/
def rebE (n : Nat) (L : Nat → Nat) (p : Int) (nl : Nat) (fl : Nat → Int) : Int :=
  if fromTo 1 3 p && fromTo 1 12 (n - p) then if keptAlike n L nl fl then if outB n nl fl then 2 else if dupB nl fl then 7 else if p < nl then 12 else 0 else 4 else 2
end Go.Proofs.Ytfdgacpmdlmjnab
