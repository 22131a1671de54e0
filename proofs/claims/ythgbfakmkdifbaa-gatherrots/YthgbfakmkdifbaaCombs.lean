/-
  Picks of k of m numbers from s on, in order; how many there are; which one a pick is.
-/
import Derived.WalkKit
import Derived.Test.YthgbfakmkdifbaaChecked
import Derived.Test.YthgbfakmkdifbaaMm
import Derived.Test.YthgbfakmkdifbaaAlg
import Derived.BigQuiet
import Derived.Deep.AppendLies
import Derived.Test.YthgbfakmkdifbaaQuiets
import Derived.Test.YthgbfakmkdifbaaByb
import Derived.Lib.SliceRun
import Derived.Laws.MakeOwn
import Derived.OneCell
import Derived.Deep.RegionLaw
import Derived.Test.YthgbfakmkdifbaaApps
import Derived.Test.YthgbfakmkdifbaaMk
import Derived.Test.YthgbfakmkdifbaaParCopied
namespace Go.Proofs.Ythgbfakmkdifbaa
/-- how many picks of k of n there are -/
def cho : Nat → Nat → Nat
  | _, 0 => 1
  | 0, _ + 1 => 0
  | n + 1, k + 1 => cho n k + cho n (k + 1)
/-- the picks of k of the m numbers from s on -/
def pk : Nat → Nat → Nat → List (List Nat)
  | _, 0, _ => [[]]
  | 0, _ + 1, _ => []
  | m + 1, k + 1, s => (pk m k (s + 1)).map (s :: ·) ++ pk m (k + 1) (s + 1)
theorem cho_zero (n : Nat) : cho n 0 = 1 := by cases n <;> rfl
theorem pk_zero (m s : Nat) : pk m 0 s = [[]] := by cases m <;> rfl
theorem pk_len : ∀ (m k s : Nat), (pk m k s).length = cho m k
  | m, 0, s => by rw [pk_zero, cho_zero]; rfl
  | 0, _ + 1, _ => rfl
  | m + 1, k + 1, s => by simp [pk, cho, pk_len m k (s + 1), pk_len m (k + 1) (s + 1)]
theorem cho_few : ∀ (m k : Nat), m < k → cho m k = 0
  | 0, _ + 1, _ => rfl
  | m + 1, k + 1, h => by unfold cho; rw [cho_few m k (by omega), cho_few m (k + 1) (by omega)]
theorem cho_all : ∀ (m : Nat), cho m m = 1
  | 0 => rfl
  | m + 1 => by unfold cho; rw [cho_all m, cho_few m (m + 1) (by omega)]
theorem cho_pos : ∀ (m k : Nat), k ≤ m → 0 < cho m k
  | m, 0, _ => by rw [cho_zero]; omega
  | m + 1, k + 1, h => by unfold cho; have := cho_pos m k (by omega); omega
theorem pk_few (m k s : Nat) (h : m < k) : pk m k s = [] := List.length_eq_zero_iff.1 (by rw [pk_len, cho_few m k h])
/-- ascending numbers from s on, below e -/
def asc : Nat → Nat → List Nat → Prop
  | _, _, [] => True
  | s, e, a :: p => s ≤ a ∧ a < e ∧ asc (a + 1) e p
theorem asc_mono {e : Nat} : ∀ {p : List Nat} {s s' : Nat}, asc s e p → s' ≤ s → asc s' e p
  | [], _, _, _, _ => trivial
  | _ :: _, _, _, h, hs => ⟨by have := h.1; omega, h.2⟩
theorem pk_mem : ∀ (m k s : Nat) (p : List Nat), p ∈ pk m k s → p.length = k ∧ asc s (s + m) p
  | m, 0, s, p, h => by
    rw [pk_zero] at h
    rw [List.mem_singleton.1 h]
    exact ⟨rfl, trivial⟩
  | 0, _ + 1, _, p, h => by cases h
  | m + 1, k + 1, s, p, h => by
    rcases List.mem_append.1 h with h | h
    · obtain ⟨q, hq, rfl⟩ := List.mem_map.1 h
      obtain ⟨h1, h2⟩ := pk_mem m k (s + 1) q hq
      exact ⟨by simp [h1], Nat.le_refl _, by omega, by rw [show s + (m + 1) = s + 1 + m by omega]; exact h2⟩
    · obtain ⟨h1, h2⟩ := pk_mem m (k + 1) (s + 1) p h
      exact ⟨h1, asc_mono (by rw [show s + (m + 1) = s + 1 + m by omega]; exact h2) (by omega)⟩
/-- which one it is -/
def nm : Nat → Nat → List Nat → Nat
  | _, _, [] => 0
  | 0, _, _ :: _ => 0
  | m + 1, s, a :: p => if a = s then nm m (s + 1) p else cho m p.length + nm m (s + 1) (a :: p)
theorem nm_nil (m s : Nat) : nm m s [] = 0 := by cases m <;> rfl
theorem pk_nm : ∀ (m s : Nat) (p : List Nat), asc s (s + m) p → (pk m p.length s)[nm m s p]? = some p
  | m, s, [], _ => by rw [nm_nil]; simp [pk_zero]
  | 0, s, a :: p, h => by have := h.1; have := h.2.1; omega
  | m + 1, s, a :: p, h => by
    have hl := pk_len m p.length (s + 1)
    unfold nm
    by_cases e : a = s
    · rw [if_pos e]
      subst e
      have ih := pk_nm m (a + 1) p (by rw [show a + 1 + m = a + (m + 1) by omega]; exact h.2.2)
      show ((pk m p.length (a + 1)).map (a :: ·) ++ pk m (p.length + 1) (a + 1))[nm m (a + 1) p]? = _
      have hlt : nm m (a + 1) p < (pk m p.length (a + 1)).length := by
        rcases Nat.lt_or_ge (nm m (a + 1) p) (pk m p.length (a + 1)).length with h1 | h1
        · exact h1
        · rw [List.getElem?_eq_none h1] at ih; cases ih
      rw [List.getElem?_append_left (by simpa using hlt), List.getElem?_map, ih]
      rfl
    · rw [if_neg e]
      have ih := pk_nm m (s + 1) (a :: p) ⟨by have := h.1; omega, by have := h.2.1; omega, by rw [show s + 1 + m = s + (m + 1) by omega]; exact h.2.2⟩
      show ((pk m p.length (s + 1)).map (s :: ·) ++ pk m (p.length + 1) (s + 1))[cho m p.length + nm m (s + 1) (a :: p)]? = _
      rw [List.getElem?_append_right (by simp [hl])]
      simp only [List.length_map, hl, Nat.add_sub_cancel_left]
      exact ih
theorem nm_pk : ∀ (m k s i : Nat) (p : List Nat), (pk m k s)[i]? = some p → nm m s p = i
  | m, 0, s, i, p, h => by
    rw [pk_zero] at h
    cases i with
    | zero => simp at h; subst h; exact nm_nil _ _
    | succ i => simp at h
  | 0, _ + 1, _, i, p, h => by simp [pk] at h
  | m + 1, k + 1, s, i, p, h => by
    have hl := pk_len m k (s + 1)
    change ((pk m k (s + 1)).map (s :: ·) ++ pk m (k + 1) (s + 1))[i]? = _ at h
    by_cases hi : i < cho m k
    · rw [List.getElem?_append_left (by simp [hl, hi]), List.getElem?_map] at h
      cases hq : (pk m k (s + 1))[i]? with
      | none => rw [hq] at h; cases h
      | some q =>
        rw [hq] at h
        cases h
        show (if s = s then nm m (s + 1) q else _) = i
        rw [if_pos rfl]
        exact nm_pk m k (s + 1) i q hq
    · rw [List.getElem?_append_right (by simp [hl]; omega)] at h
      simp only [List.length_map, hl] at h
      have hm := pk_mem _ _ _ _ (List.mem_of_getElem? h)
      cases p with
      | nil => simp at hm
      | cons a p =>
        have h1 := hm.2.1
        have h2 : p.length = k := by simpa using hm.1
        show (if a = s then _ else cho m p.length + nm m (s + 1) (a :: p)) = i
        rw [if_neg (by omega), nm_pk m (k + 1) (s + 1) _ _ h, h2]
        omega
theorem nm_lt (m s : Nat) (p : List Nat) (h : asc s (s + m) p) : nm m s p < cho m p.length := by
  rw [← pk_len m p.length s]
  have := pk_nm m s p h
  rcases Nat.lt_or_ge (nm m s p) (pk m p.length s).length with h1 | h1
  · exact h1
  · rw [List.getElem?_eq_none h1] at this; cases this
/-- the numbers of a list from place j on -/
def lst (g : Nat → Nat) (j n : Nat) : List Nat := (List.range' j n).map g
theorem lst_zero (g : Nat → Nat) (j : Nat) : lst g j 0 = [] := rfl
theorem lst_succ (g : Nat → Nat) (j n : Nat) : lst g j (n + 1) = g j :: lst g (j + 1) n := by simp [lst, List.range'_succ]
theorem lst_len (g : Nat → Nat) (j n : Nat) : (lst g j n).length = n := by simp [lst]
theorem lst_last (g : Nat → Nat) (j : Nat) : ∀ n, lst g j (n + 1) = lst g j n ++ [g (j + n)] := fun n => by simp [lst, List.range'_1_concat]
theorem cho_le : ∀ n, n < 13 → ∀ k, k < 14 → cho n k ≤ 924 := of_decide_eq_true (by rfl)
theorem cho_step : ∀ n, n < 13 → ∀ i, i < 13 → i ≤ n → cho n i * (n - i) = cho n (i + 1) * (i + 1) := of_decide_eq_true (by rfl)
theorem cho_sym : ∀ n, n < 13 → ∀ i, i < 13 → i ≤ n → cho n i = cho n (n - i) := of_decide_eq_true (by rfl)
end Go.Proofs.Ythgbfakmkdifbaa
/-
  comb.ways, with, set, Count, picked: how many picks there are, whether a list is one; the memory stays as it was.
-/
namespace Go.Proofs.Ythgbfakmkdifbaa
open Go.RowKit Go.Deep
theorem cho_quo (n j : Nat) (hn : n ≤ 12) (hj : j < 13) : wrap64 ((wrap64 ((cho n j : Int) * ((n : Int) - j))).tdiv ((j : Int) + 1)) = cho n (j + 1) := by
  have hle := cho_le n (by omega) (j + 1) (by omega)
  by_cases h : j ≤ n
  · have hs := cho_step n (by omega) j hj h
    have h1 : (cho n j : Int) * ((n : Int) - j) = (cho n (j + 1) : Int) * ((j : Int) + 1) := by
      have e : ((n : Int) - j) = ((n - j : Nat) : Int) := by omega
      rw [e, ← Int.natCast_mul, hs]
      simp
    have h2 : cho n (j + 1) * (j + 1) ≤ 924 * 13 := Nat.mul_le_mul hle (by omega)
    have h3 : wrap64 ((cho n (j + 1) : Int) * ((j : Int) + 1)) = (cho n (j + 1) : Int) * ((j : Int) + 1) := Go.IntWalk.wrap64_in _ (by
      have e : (cho n (j + 1) : Int) * ((j : Int) + 1) = ((cho n (j + 1) * (j + 1) : Nat) : Int) := by simp
      rw [e]
      omega)
    rw [h1, h3, Int.mul_tdiv_cancel _ (by omega)]
    exact Go.IntWalk.wrap64_in _ (by omega)
  · rw [cho_few n j (by omega), cho_few n (j + 1) (by omega)]
    simp [wrap64]
set_option maxRecDepth 100000 in
set_option maxHeartbeats 400000 in
theorem ways_any (n k : Nat) (w : World) (hn : n ≤ 12) (hk : k ≤ 12) :
    Calls Try.prog 82 #[.int .i64 n, .int .i64 k] w fun e w' => e = .returned (.int .i64 (cho n k)) ∧ w' = w := by
  go_enter Try.func82, Try.ntmps82
  go_wp2_with fail
  go_loop [5, 8] (fun c i => ∃ j : Nat, j ≤ k ∧ c = .int .i64 (cho n j) ∧ i = .int .i64 j) (fun _ i => k - (intOf i).toNat)
  case atStart => exact ⟨0, Nat.zero_le _, by rw [cho_zero]; rfl, rfl⟩
  case round =>
    obtain ⟨j, hj, rfl, rfl⟩ := hrel
    by_cases hlt : j < k
    · have hq := cho_quo n j hn (by omega)
      go_wp2_with fail
      refine ⟨⟨j + 1, by omega, by rw [hq], by go_num⟩, ?_⟩
      simp [intOf]
      omega
    · have e : j = k := by omega
      subst e
      go_wp2_with fail
      go_ret
      exact ⟨rfl, rfl⟩
set_option maxRecDepth 100000 in
theorem set_any (n : Int) (w : World) : Calls Try.prog 81 #[.int .i64 n] w fun e w' => e = .returned (.bool (decide (0 ≤ n ∧ n ≤ 12))) ∧ w' = w := by
  by_cases h1 : 0 ≤ n
  · by_cases h2 : n ≤ 12
    · have hd : decide (0 ≤ n ∧ n ≤ 12) = true := decide_eq_true ⟨h1, h2⟩
      rw [hd]
      go_enter Try.func81, Try.ntmps81
      go_wp2_with fail
      go_ret
      exact ⟨rfl, rfl⟩
    · have hd : decide (0 ≤ n ∧ n ≤ 12) = false := decide_eq_false fun h => h2 h.2
      rw [hd]
      go_enter Try.func81, Try.ntmps81
      go_wp2_with fail
      go_ret
      exact ⟨rfl, rfl⟩
  · have hd : decide (0 ≤ n ∧ n ≤ 12) = false := decide_eq_false fun h => h1 h.1
    rw [hd]
    go_enter Try.func81, Try.ntmps81
    go_wp2_with fail
    go_ret
    exact ⟨rfl, rfl⟩
/-- may k of n be picked -/
def maysP (n k : Int) : Prop := (0 ≤ n ∧ n ≤ 12) ∧ 0 ≤ k ∧ k ≤ n
instance (n k : Int) : Decidable (maysP n k) := by unfold maysP; infer_instance
def cntE (n k : Int) : Int := if maysP n k then 0 else 2
def cntV (n k : Int) : Int := if maysP n k then (cho n.toNat k.toNat : Int) else 0
set_option maxRecDepth 100000 in
set_option maxHeartbeats 400000 in
theorem Count_any (n k : Int) (w : World) :
    Calls Try.prog 65 #[.int .i64 n, .int .i64 k] w fun e w' => e = .returned (.tuple #[.int .i64 (cntV n k), .int .i64 (cntE n k)]) ∧ w' = w := by
  by_cases h : maysP n k
  · have hv : cntV n k = (cho n.toNat k.toNat : Int) := if_pos h
    have he : cntE n k = 0 := if_pos h
    rw [hv, he]
    obtain ⟨⟨h1, h2⟩, h3, h4⟩ := h
    obtain ⟨a, rfl⟩ := Int.eq_ofNat_of_zero_le h1
    obtain ⟨b, rfl⟩ := Int.eq_ofNat_of_zero_le h3
    have hd : decide (0 ≤ (a : Int) ∧ (a : Int) ≤ 12) = true := decide_eq_true ⟨h1, h2⟩
    go_enter Try.func65, Try.ntmps65
    go_wp2_with (first | (go_at_call 81; refine (set_any _ _).mono ?_; rw [hd]; rintro e w' ⟨rfl, rfl⟩) | (go_at_call 82; refine (ways_any a b _ (by omega) (by omega)).mono ?_; rintro e w' ⟨rfl, rfl⟩))
    go_ret2
    exact ⟨rfl, rfl⟩
  · have hv : cntV n k = 0 := if_neg h
    have he : cntE n k = 2 := if_neg h
    rw [hv, he]
    by_cases hs : 0 ≤ n ∧ n ≤ 12
    · have hd : decide (0 ≤ n ∧ n ≤ 12) = true := decide_eq_true hs
      by_cases hk : 0 ≤ k
      · have hkn : n < k := by
          have : ¬ k ≤ n := fun q => h ⟨hs, hk, q⟩
          omega
        obtain ⟨hs1, hs2⟩ := hs
        clear h
        go_enter Try.func65, Try.ntmps65
        go_wp2_with (first | (go_at_call 81; refine (set_any _ _).mono ?_; rw [hd]; rintro e w' ⟨rfl, rfl⟩))
        go_ret2
        exact ⟨rfl, rfl⟩
      · clear h
        go_enter Try.func65, Try.ntmps65
        go_wp2_with (first | (go_at_call 81; refine (set_any _ _).mono ?_; rw [hd]; rintro e w' ⟨rfl, rfl⟩))
        go_ret2
        exact ⟨rfl, rfl⟩
    · have hd : decide (0 ≤ n ∧ n ≤ 12) = false := decide_eq_false hs
      clear h
      go_enter Try.func65, Try.ntmps65
      go_wp2_with (first | (go_at_call 81; refine (set_any _ _).mono ?_; rw [hd]; rintro e w' ⟨rfl, rfl⟩))
      go_ret2
      exact ⟨rfl, rfl⟩
end Go.Proofs.Ythgbfakmkdifbaa
/-
  quicksetref.pickRange, CombCount: Pascal's triangle, row by row, in new memory.
-/
namespace Go.Proofs.Ythgbfakmkdifbaa
open Go.RowKit Go.Deep E
theorem ret_boolC {a b : Bool} (h : a = b) : Ending.returned (.bool a) = .returned (.bool b) := by rw [h]
theorem infoI : (Try.prog.info? 3).map (fun i => (i.zero, i.size, i.bytes)) = some (some (.int .i64 0), 1, 8) := by kernel_rfl
theorem infoIs : (Try.prog.info? 30).map (fun i => (i.zero, i.size, i.bytes)) = some (some (.slice none 0 0), 1, 24) := by kernel_rfl
/-- a row of Pascal's triangle -/
def chv (n j : Nat) : Value := .int .i64 (cho n j)
theorem own_lit (w : World) {base : Nat} (hb : base ≤ w.heap.size) (u : Value) (e : TypeId) : (w.alloc (.cells #[u] e)).ownsRow base e 1 (.slice (some ⟨w.heap.size, 0, none⟩) 1 1) 1 [u] :=
  ⟨rfl, .inr ⟨w.heap.size, 1, #[u], rfl, hb, heap_alloc_new w _, Nat.le_refl _, by unfold maxLen; omega, rfl, rfl⟩⟩
theorem own_int_slice {w : World} {base : Nat} {e : TypeId} {v : Value} {n : Nat} {f : Nat → Value} (h : w.ownsRow base e 1 v n ((List.range n).map f)) (h0 : 0 < n) : ∃ g c, v = .slice (some ⟨g, 0, none⟩) n c ∧ ∀ i, i < n → w.cell? ⟨g, i, none⟩ = some (f i) := by
  obtain ⟨g, c, h1, h2, h3⟩ := h.form h0
  subst h1
  refine ⟨g, c, rfl, fun i hi => ?_⟩
  rw [h.cellAt i (by omega)]
  simp [hi]
end Go.Proofs.Ythgbfakmkdifbaa
/-
  quicksetref.picks: the picks of k of the numbers from s on, in order, in new memory.
-/
namespace Go.Proofs.Ythgbfakmkdifbaa
open Go.RowKit Go.Deep E
def nV (x : Nat) : Value := .int .i64 (x : Int)
/-- rows in blocks of their own, from base on -/
def rowsOk (w : World) (base : Nat) (vs : List Value) (L : List (List Nat)) : Prop :=
  vs.length = L.length ∧ ∀ (i : Nat) (u : Value) (p : List Nat), vs[i]? = some u → L[i]? = some p → w.ownsRow base 3 1 u p.length (p.map nV)
theorem rowsOk.nil (w : World) (base : Nat) : rowsOk w base [] [] := ⟨rfl, fun i u p h => by simp at h⟩
theorem rowsOk.one {w : World} {base : Nat} {u : Value} {p : List Nat} (h : w.ownsRow base 3 1 u p.length (p.map nV)) : rowsOk w base [u] [p] := ⟨rfl, fun i u' p' h1 h2 => by
  cases i with
  | zero => simp at h1 h2; subst h1; subst h2; exact h
  | succ i => simp at h1⟩
theorem rowsOk.ext {w w' : World} {base : Nat} {vs : List Value} {L : List (List Nat)} (h : rowsOk w base vs L) (x : Ext w w') : rowsOk w' base vs L := ⟨h.1, fun i u p h1 h2 => own_ext (h.2 i u p h1 h2) x⟩
theorem rowsOk.mono {w : World} {base base' : Nat} {vs : List Value} {L : List (List Nat)} (h : rowsOk w base vs L) (x : base' ≤ base) : rowsOk w base' vs L := ⟨h.1, fun i u p h1 h2 => own_mono (h.2 i u p h1 h2) x⟩
theorem rowsOk.kept {w w' : World} {base b n : Nat} {vs xs : List Value} {L : List (List Nat)} {v : Value} (h : rowsOk w base vs L) (ho : w.ownsRow b 30 1 v n xs) (g : w.grownBy w' v.ownBlock) : rowsOk w' base vs L :=
  ⟨h.1, fun i u p h1 h2 => (h.2 i u p h1 h2).kept g (own_apart (h.2 i u p h1 h2) ho (by decide))⟩
theorem rowsOk.append {w : World} {base : Nat} {vs vs' : List Value} {L L' : List (List Nat)} (h : rowsOk w base vs L) (h' : rowsOk w base vs' L') : rowsOk w base (vs ++ vs') (L ++ L') :=
  ⟨by simp [h.1, h'.1], fun i u p h1 h2 => by
    by_cases hi : i < vs.length
    · rw [List.getElem?_append_left hi] at h1
      rw [List.getElem?_append_left (by rw [← h.1]; exact hi)] at h2
      exact h.2 i u p h1 h2
    · rw [List.getElem?_append_right (by omega)] at h1
      rw [List.getElem?_append_right (by rw [← h.1]; omega), ← h.1] at h2
      exact h'.2 _ u p h1 h2⟩
theorem rowsOk.at {w : World} {base : Nat} {vs : List Value} {L : List (List Nat)} (h : rowsOk w base vs L) {i : Nat} (hi : i < L.length) : ∃ u p, vs[i]? = some u ∧ L[i]? = some p ∧ w.ownsRow base 3 1 u p.length (p.map nV) := by
  have hv : i < vs.length := by rw [h.1]; exact hi
  exact ⟨vs[i], L[i], by simp [hv], by simp [hi], h.2 i _ _ (by simp [hv]) (by simp [hi])⟩
structure Pks (w wr : World) (v : Value) (vs : List Value) (L : List (List Nat)) : Prop where
  ext : Ext w wr
  top : wr.ownsRow w.heap.size 30 1 v L.length vs
  row : rowsOk wr w.heap.size vs L
theorem own_empty (w : World) {base : Nat} (hb : base ≤ w.heap.size) (e : TypeId) : (w.alloc (.cells #[] e)).ownsRow base e 1 (.slice (some ⟨w.heap.size, 0, none⟩) 0 0) 0 [] :=
  ⟨rfl, .inr ⟨w.heap.size, 0, #[], rfl, hb, heap_alloc_new w _, Nat.le_refl _, by unfold maxLen; omega, rfl, rfl⟩⟩
theorem own_lit_at (w : World) {base : Nat} (k : Nat) (hk : w.heap.size = k) (hb : base ≤ w.heap.size) (u : Value) (e : TypeId) : (w.alloc (.cells #[u] e)).ownsRow base e 1 (.slice (some ⟨k, 0, none⟩) 1 1) 1 [u] := by subst hk; exact own_lit w hb u e
theorem nat_slice {w : World} {base : Nat} {e : TypeId} {u : Value} {p : List Nat} (h : w.ownsRow base e 1 u p.length (p.map nV)) : ∃ a c, u = .slice a p.length c ∧ ∀ i, i < p.length → ∃ b o, a = some ⟨b, o, none⟩ ∧ w.cell? ⟨b, o + i, none⟩ = some (nV (p.getD i 0)) := by
  obtain ⟨a, c, h1, h2⟩ := own_slice h
  refine ⟨a, c, h1, fun i hi => ?_⟩
  obtain ⟨b, o, h3, h4⟩ := h2 i hi
  refine ⟨b, o, h3, ?_⟩
  rw [h4]
  simp [hi]
theorem map_getD (p : List Nat) : (List.range p.length).map (fun i => nV (p[i]?.getD 0)) = p.map nV := by
  apply List.ext_getElem?
  intro i
  by_cases h : i < p.length
  · simp [h]
  · simp [h]
theorem range_getD {vs : List Value} {n : Nat} (h : vs.length = n) : (List.range n).map (fun i => vs[i]?.getD (.slice none 0 0)) = vs := by
  subst h
  apply List.ext_getElem?
  intro i
  by_cases h : i < vs.length
  · simp [h]
  · simp [h]
theorem own_slice_at {w : World} {base : Nat} {e : TypeId} {a : Option Addr} {c n : Nat} {xs : List Value} (h : w.ownsRow base e 1 (.slice a n c) n xs) : ∀ i, i < n → ∃ b o, a = some ⟨b, o, none⟩ ∧ w.cell? ⟨b, o + i, none⟩ = xs[i]? := by
  obtain ⟨a', c', h1, h2⟩ := own_slice h
  cases h1
  exact h2
theorem ones_cell {w : World} {base : Nat} {e : TypeId} {v : Value} {n : Nat} {xs : List Value} (h : w.ownsRow base e 1 v n xs) {i : Nat} {u : Value} (hu : xs[i]? = some u) (hi : i < n) : ∃ g c, v = .slice (some ⟨g, 0, none⟩) n c ∧ w.cell? ⟨g, i, none⟩ = some u := by
  obtain ⟨g, c, h1, h2, h3⟩ := h.form (by omega)
  subst h1
  exact ⟨g, c, rfl, by rw [h.cellAt i (by omega), hu]⟩
end Go.Proofs.Ythgbfakmkdifbaa
/-
  quicksetref.CombAll, CombAt: the picks, and the one with a number.
-/
namespace Go.Proofs.Ythgbfakmkdifbaa
open Go.RowKit Go.Deep E
theorem zeroI : ((0 : Nat) : Int) = 0 := rfl
/-- the numbers of a pick, as a function of the place -/
def pkF (p : List Nat) (i : Nat) : Int := ((p[i]?.getD 0 : Nat) : Int)
theorem own_intsA {w : World} {base : Nat} {e : TypeId} {a : Option Addr} {c n : Nat} {p : List Nat} (hn : p.length = n) (h : w.ownsRow base e 1 (.slice a n c) n (p.map nV)) : Ints w a n (pkF p) := by
  subst hn
  intro i hi
  obtain ⟨b, o, h1, h2⟩ := own_slice_at h i hi
  refine ⟨b, o, h1, ?_⟩
  rw [h2]
  simp [hi, nV, pkF]
end Go.Proofs.Ythgbfakmkdifbaa
/-
  slices.Clone of a slice of ints that is not nil: the same numbers, in new memory.
-/
namespace Go.Proofs.Ythgbfakmkdifbaa
open Go.RowKit Go.Deep E
/-- the numbers of a list, as values -/
def iV (f : Nat → Int) (i : Nat) : Value := .int .i64 (f i)
def CloneRes (w : World) (l : Nat) (f : Nat → Int) (v : Value) (w' : World) : Prop := w'.ownsRow w.heap.size 3 1 v l ((List.range l).map (iV f)) ∧ Ext w w'
set_option maxRecDepth 100000 in
set_option maxHeartbeats 400000 in
theorem Clone_ints (ad : Addr) (l c : Nat) (f : Nat → Int) (w : World) (hl : l ≤ 1099511627776) (h : Ints w (some ad) l f) :
    Calls Try.prog 67 #[.slice (some ad) l c] w fun e w' => ∃ v, e = .returned v ∧ CloneRes w l f v w' := by
  have qT : ∀ (w : World) (a : Option Addr) (n c n' c' : Nat), (binOp .eql 30 (.slice a n c) (.slice none n' c')).run Try.prog w = .ok (.bool a.isNone) w := fun w a n c n' c' => Lib.run_eql_slice_nil w _ _ a n c n' c' Try.underlying30
  have HB : Hid (∀ i, i < l → ∃ bb o, some ad = some ⟨bb, o, none⟩ ∧ (w.alloc (.cells #[] 3)).cell? ⟨bb, o + i, none⟩ = some (iV f i)) := fun i hi => by
    obtain ⟨bb, o, h1, h2⟩ := h i hi
    exact ⟨bb, o, h1, alloc_keeps h2 _⟩
  have HS : Hid ((w.alloc (.cells #[] 3)).ownsRow w.heap.size 3 1 (.slice (some ⟨w.heap.size, 0, none⟩) 0 0) 0 []) := own_empty w (Nat.le_refl _) _
  clear h
  go_enter Try.func67, Try.ntmps67
  go_wp2_with (first | (at_builtin; refine append_vals (w.alloc (.cells #[] 3)) rfl (.tmp 5) (.tmp 6) 30 rfl w.heap.size 3 (.int .i64 0) 8 Try.underlying30 infoI rfl (.slice (some ⟨w.heap.size, 0, none⟩) 0 0) 0 [] rfl HS.out (some ad) l c (iV f) rfl HB.out (fun _ _ => rfl) (by omega) (by omega) (by simp) ?_) | go_in)
  intro v' w5 hown' hgrow
  have hx5 : Ext w w5 := ((Ext.refl w).alloc _ _).grow hgrow fun _ hk => by cases hk; exact Nat.le_refl _
  have HR : Hid (CloneRes w l f v' w5) := ⟨hown', hx5⟩
  clear hown' hgrow
  go_wp2_with fail
  go_ret
  exact ⟨_, rfl, HR.out⟩
end Go.Proofs.Ythgbfakmkdifbaa
/-
  comb.At: the pick with a number, in new memory.
-/
namespace Go.Proofs.Ythgbfakmkdifbaa
open Go.RowKit Go.Deep E
theorem room_ints (n : Nat) (hb : n ≤ 1073741824) (w : World) : (Instr.makeSlice 30 (.int .i64 0) (.int .i64 (n : Int))).run Try.prog w = .ok (.slice (some ⟨w.heap.size, 0, none⟩) 0 n) (w.alloc (.cells (madeCells #[.int .i64 0] n) 3)) := by
  obtain ⟨i, hi, hz, hs, hbb⟩ := info_parts infoI
  have hr := run_make (P := Try.prog) w 30 3 i (.int .i64 0) Try.underlying30 hi hz .i64 .i64 0 n (Int.le_refl _) (by omega) (by rw [hbb]; omega) (by omega)
  simp only [Int.toNat_natCast, hs, Nat.mul_one, Int.toNat_zero] at hr
  exact hr
theorem Count_is (n k : Nat) (c : Nat) (hc : cho n k = c) (w : World) (hn : n ≤ 12) (hk : k ≤ n) : Calls Try.prog 65 #[.int .i64 n, .int .i64 k] w fun e w' => e = .returned (.tuple #[.int .i64 c, .int .i64 0]) ∧ w' = w := by
  have h : maysP n k := ⟨⟨by omega, by omega⟩, by omega, by omega⟩
  have hv : cntV n k = (c : Int) := by unfold cntV; rw [if_pos h, ← hc]; rfl
  have he : cntE n k = 0 := if_pos h
  have := Count_any n k w
  rwa [hv, he] at this
theorem Count_not (n k : Int) (w : World) (h : ¬ maysP n k) : Calls Try.prog 65 #[.int .i64 n, .int .i64 k] w fun e w' => e = .returned (.tuple #[.int .i64 0, .int .i64 2]) ∧ w' = w := by
  have hv : cntV n k = 0 := if_neg h
  have he : cntE n k = 2 := if_neg h
  have := Count_any n k w
  rwa [hv, he] at this
/-- one step of the search -/
theorem pk_step (m k a r : Nat) (q : List Nat) (h : (pk m (k + 1) a)[r]? = some q) :
    ∃ m', m = m' + 1 ∧ (r < cho m' k → ∃ q', q = a :: q' ∧ (pk m' k (a + 1))[r]? = some q') ∧ (¬ r < cho m' k → (pk m' (k + 1) (a + 1))[r - cho m' k]? = some q) := by
  cases m with
  | zero => simp [pk] at h
  | succ m =>
    refine ⟨m, rfl, fun hr => ?_, fun hr => ?_⟩
    · change ((pk m k (a + 1)).map (a :: ·) ++ pk m (k + 1) (a + 1))[r]? = _ at h
      rw [List.getElem?_append_left (by simp [pk_len, hr]), List.getElem?_map] at h
      cases hq : (pk m k (a + 1))[r]? with
      | none => rw [hq] at h; cases h
      | some q' => rw [hq] at h; cases h; exact ⟨q', rfl, rfl⟩
    · change ((pk m k (a + 1)).map (a :: ·) ++ pk m (k + 1) (a + 1))[r]? = _ at h
      rw [List.getElem?_append_right (by simp [pk_len]; omega)] at h
      simpa [pk_len] using h
theorem pk_lt {m k s i : Nat} {p : List Nat} (h : (pk m k s)[i]? = some p) : i < cho m k := by
  rw [← pk_len m k s]
  rcases Nat.lt_or_ge i (pk m k s).length with h1 | h1
  · exact h1
  · rw [List.getElem?_eq_none h1] at h; cases h
/-- the pick p of k numbers was handed back, in new memory -/
def AtRes (w : World) (k : Nat) (p : List Nat) (e : Ending) (w' : World) : Prop := ∃ a c, e = .returned (.tuple #[.slice a k c, .int .i64 0]) ∧ Ext w w' ∧ Ints w' a k (pkF p)
end Go.Proofs.Ythgbfakmkdifbaa
/-
  comb.picked, Number: whether a list is a pick, and which one; the memory stays as it was.
-/
namespace Go.Proofs.Ythgbfakmkdifbaa
open Go.RowKit Go.Deep
/-- the r numbers from place j on ascend from s on, below n -/
def okF (n : Int) (f : Nat → Int) : Nat → Nat → Int → Bool
  | 0, _, _ => true
  | r + 1, j, s => if f j < s ∨ n ≤ f j then false else okF n f r (j + 1) (f j + 1)
def nat (f : Nat → Int) (i : Nat) : Nat := (f i).toNat
theorem okF_asc (N : Nat) (f : Nat → Int) : ∀ (r j s : Nat), okF N f r j s = true → asc s N (lst (nat f) j r) ∧ ∀ i, j ≤ i → i < j + r → f i = (nat f i : Int)
  | 0, j, s, _ => ⟨trivial, fun i h1 h2 => by omega⟩
  | r + 1, j, s, h => by
    unfold okF at h
    split at h
    · cases h
    · rename_i hc
      have e : f j = (nat f j : Int) := by unfold nat; omega
      rw [show f j + 1 = ((nat f j + 1 : Nat) : Int) by omega] at h
      obtain ⟨h1, h2⟩ := okF_asc N f r (j + 1) (nat f j + 1) h
      rw [lst_succ]
      refine ⟨⟨by omega, by omega, h1⟩, fun i hi1 hi2 => ?_⟩
      by_cases hij : i = j
      · rw [hij]; exact e
      · exact h2 i (by omega) (by omega)
theorem asc_okF (N : Nat) (f : Nat → Int) : ∀ (r j s : Nat) (p : List Nat), p.length = r → (∀ i, i < r → f (j + i) = (p.getD i 0 : Nat)) → asc s N p → okF N f r j s = true
  | 0, j, s, p, _, _, _ => rfl
  | r + 1, j, s, [], hl, _, _ => by cases hl
  | r + 1, j, s, a :: p, hl, hf, h => by
    have e : f j = (a : Int) := hf 0 (by omega)
    unfold okF
    rw [if_neg (by have := h.1; have := h.2.1; omega), e]
    refine asc_okF N f r (j + 1) (a + 1) p (by simpa using hl) (fun i hi => ?_) h.2.2
    have := hf (i + 1) (by omega)
    rw [show j + (i + 1) = j + 1 + i by omega] at this
    simpa using this
theorem asc_len : ∀ (p : List Nat) (s e : Nat), asc s e p → p.length ≤ e - s
  | [], _, _, _ => by simp
  | a :: p, s, e, h => by
    have := asc_len p (a + 1) e h.2.2
    have := h.1
    have := h.2.1
    simp only [List.length_cons]
    omega
def numE (n : Int) (l : Nat) (f : Nat → Int) : Int := if 0 ≤ n ∧ n ≤ 12 then (if okF n f l 0 0 = true then 0 else 4) else 2
def numV (n : Int) (l : Nat) (f : Nat → Int) : Int := if 0 ≤ n ∧ n ≤ 12 then (if okF n f l 0 0 = true then (nm n.toNat 0 (lst (nat f) 0 l) : Int) else 0) else 0
theorem nm_here (N a : Nat) (p : List Nat) (h : a < N) : nm (N - a) a (a :: p) = nm (N - (a + 1)) (a + 1) p := by
  rw [show N - a = N - (a + 1) + 1 by omega]
  show (if a = a then nm (N - (a + 1)) (a + 1) p else _) = _
  rw [if_pos rfl]
theorem nm_past (N x a : Nat) (p : List Nat) (h : x < a) (ha : a < N) : nm (N - x) x (a :: p) = cho (N - x - 1) p.length + nm (N - (x + 1)) (x + 1) (a :: p) := by
  rw [show N - x = N - (x + 1) + 1 by omega]
  show (if a = x then _ else cho (N - (x + 1)) p.length + nm (N - (x + 1)) (x + 1) (a :: p)) = _
  rw [if_neg (by omega)]
  rfl
end Go.Proofs.Ythgbfakmkdifbaa
/-
  quicksetref.CombNumber: the pick is looked for among all.
-/
namespace Go.Proofs.Ythgbfakmkdifbaa
open Go.RowKit Go.Deep E
/-- the first j numbers of both are the same -/
def eqTo (p : List Nat) (f : Nat → Int) (j : Nat) : Prop := ∀ x, x < j → f x = pkF p x
theorem eqTo_succ {p : List Nat} {f : Nat → Int} {j : Nat} : eqTo p f (j + 1) ↔ eqTo p f j ∧ f j = pkF p j := by
  constructor
  · exact fun h => ⟨fun x hx => h x (by omega), h j (by omega)⟩
  · intro h x hx
    by_cases e : x = j
    · rw [e]; exact h.2
    · exact h.1 x (by omega)
theorem lst_of_eqTo {p : List Nat} {f : Nat → Int} {l : Nat} (hl : p.length = l) (h : eqTo p f l) : lst (nat f) 0 l = p := by
  apply List.ext_getElem?
  intro i
  by_cases hi : i < l
  · have := h i hi
    have e : nat f i = p[i]?.getD 0 := by unfold nat; rw [this]; unfold pkF; simp
    have hi' : i < p.length := by omega
    simp [lst, hi, e, hi']
  · simp [lst, hi]
    omega
theorem eqTo_of_lst {f : Nat → Int} {l : Nat} (hn : ∀ i, i < l → f i = (nat f i : Int)) : eqTo (lst (nat f) 0 l) f l := fun x hx => by
  rw [hn x hx]
  unfold pkF
  simp [lst, hx]
theorem okF_of_eqTo {N l i : Nat} {f : Nat → Int} {p : List Nat} (hp : (pk N l 0)[i]? = some p) (h : eqTo p f l) : okF N f l 0 0 = true := by
  obtain ⟨h1, h2⟩ := pk_mem _ _ _ _ (List.mem_of_getElem? hp)
  refine asc_okF N f l 0 0 p h1 (fun x hx => ?_) (by rw [Nat.zero_add] at h2; exact h2)
  rw [Nat.zero_add, h x hx]
  simp [pkF]
theorem num_of_eqTo {N l i : Nat} {f : Nat → Int} {p : List Nat} (hN : N ≤ 12) (hp : (pk N l 0)[i]? = some p) (h : eqTo p f l) : numV N l f = i ∧ numE N l f = 0 := by
  have hok := okF_of_eqTo hp h
  have hl := (pk_mem _ _ _ _ (List.mem_of_getElem? hp)).1
  have e := lst_of_eqTo hl h
  have hs : (0 : Int) ≤ N ∧ (N : Int) ≤ 12 := by omega
  unfold numV numE
  rw [if_pos hs, if_pos hs, if_pos hok, if_pos hok]
  refine ⟨?_, rfl⟩
  rw [e, show ((N : Int)).toNat = N from rfl, nm_pk N l 0 i p hp]
theorem num_none {N l : Nat} {f : Nat → Int} (hN : N ≤ 12) (h : ∀ (i : Nat) p, (pk N l 0)[i]? = some p → ¬ eqTo p f l) : numV N l f = 0 ∧ numE N l f = 4 := by
  have hs : (0 : Int) ≤ N ∧ (N : Int) ≤ 12 := by omega
  have hok : ¬ okF N f l 0 0 = true := fun hok => by
    obtain ⟨hasc, hnat⟩ := okF_asc N f l 0 0 hok
    have h1 := pk_nm N 0 (lst (nat f) 0 l) (by rw [Nat.zero_add]; exact hasc)
    rw [lst_len] at h1
    exact h _ _ h1 (eqTo_of_lst fun i hi => hnat i (by omega) (by omega))
  unfold numV numE
  rw [if_pos hs, if_pos hs, if_neg hok, if_neg hok]
  exact ⟨rfl, rfl⟩
def sameTo (bo : Bool) (p : List Nat) (f : Nat → Int) (j : Nat) : Prop := bo = true ↔ eqTo p f j
theorem sameTo.yes {p : List Nat} {f : Nat → Int} {j : Nat} (h : sameTo true p f j) : eqTo p f j := h.1 rfl
theorem sameTo.no {p : List Nat} {f : Nat → Int} {j : Nat} (h : sameTo false p f j) : ¬ eqTo p f j := fun e => by have := h.2 e; cases this
theorem ext_drewN (w : World) (k : Nat) : Ext w (w.drewN k) := ⟨⟨rfl, rfl, rfl, Nat.le_refl _, fun _ _ => rfl⟩⟩
end Go.Proofs.Ythgbfakmkdifbaa
/-
  comb.All: its inner walk adds the picks that begin with the numbers laid so far, in order; all picks, in new memory.
-/
namespace Go.Proofs.Ythgbfakmkdifbaa
open Go.RowKit Go.Deep E
/-- the numbers laid, as values -/
def gV (g : Nat → Nat) (i : Nat) : Value := nV (g i)
def capt (bk bp bq bn bw : Nat) : Array Value := #[.pointer (some ⟨bk, 0, none⟩), .pointer (some ⟨bp, 0, none⟩), .pointer (some ⟨bq, 0, none⟩), .pointer (some ⟨bn, 0, none⟩), .pointer (some ⟨bw, 0, none⟩)]
/-- where the variables lie -/
structure Lay (w0 : World) (B bk bp bq bn bw Q : Nat) : Prop where
  ck : w0.heap.size ≤ bk ∧ bk < B
  cp : w0.heap.size ≤ bp ∧ bp < B
  cq : w0.heap.size ≤ bq ∧ bq < B
  cn : w0.heap.size ≤ bn ∧ bn < B
  cw : w0.heap.size ≤ bw ∧ bw < B
  cQ : w0.heap.size ≤ Q ∧ Q < B
  ckQ : bk ≠ Q
  cnQ : bn ≠ Q
/-- what they hold: the picks so far are L, the numbers laid are g -/
structure AllSt (w0 : World) (B bk bp bq bn bw Q K N : Nat) (w : World) (g : Nat → Nat) (v : Value) (vs : List Value) (L : List (List Nat)) : Prop where
  cext : Ext w0 w
  csize : B ≤ w.heap.size
  ck : w.heap[bk]? = some (.cells #[.int .i64 K] 3 (0, 0))
  cn : w.heap[bn]? = some (.cells #[.int .i64 N] 3 (0, 0))
  cq : w.heap[bq]? = some (.cells #[.slice (some ⟨Q, 0, none⟩) K K] 30 (0, 0))
  cw : w.heap[bw]? = some (.cells #[.func (.func 66) #[] (capt bk bp bq bn bw)] 93 (0, 0))
  crow : w.rowIs Q 3 K (gV g)
  cp : w.heap[bp]? = some (.cells #[v] 79 (0, 0))
  ctop : w.ownsRow w0.heap.size 30 1 v L.length vs
  cne : v.ownBlock ≠ some bq
  crows : rowsOk w B vs L
theorem block_ne {w : World} {b b' : Nat} {c c' : Array Value} {t t' : TypeId} {z z' : Nat × Nat} (h : w.heap[b]? = some (.cells c t z)) (h' : w.heap[b']? = some (.cells c' t' z')) (hne : t ≠ t') : b ≠ b' := fun e => by
  subst e
  rw [h] at h'
  cases h'
  exact hne rfl
theorem row_block {w : World} {b n : Nat} {t : TypeId} {f : Nat → Value} (h : w.rowIs b t n f) : ∃ c, w.heap[b]? = some (.cells c t (0, 0)) := by
  obtain ⟨c, h1, _⟩ := h
  exact ⟨c, h1⟩
section
variable {w0 w w' : World} {B bk bp bq bn bw Q K N : Nat} {g : Nat → Nat} {v : Value} {vs : List Value} {L : List (List Nat)}
theorem AllSt.grow (h : AllSt w0 B bk bp bq bn bw Q K N w g v vs L) (x : Ext w w') : AllSt w0 B bk bp bq bn bw Q K N w' g v vs L :=
  ⟨h.cext.trans x, Nat.le_trans h.csize x.size, (x.below.block _ (lt_of_block h.ck)).trans h.ck, (x.below.block _ (lt_of_block h.cn)).trans h.cn, (x.below.block _ (lt_of_block h.cq)).trans h.cq, (x.below.block _ (lt_of_block h.cw)).trans h.cw, x.rowIs h.crow, (x.below.block _ (lt_of_block h.cp)).trans h.cp, own_ext h.ctop x, h.cne, h.crows.ext x⟩
/-- a number is laid -/
theorem AllSt.lay (h : AllSt w0 B bk bp bq bn bw Q K N w g v vs L) (l : Lay w0 B bk bp bq bn bw Q) (i a : Nat) : AllSt w0 B bk bp bq bn bw Q K N (w.setCell ⟨Q, i, none⟩ (nV a)) (fun x => if x = i then a else g x) v vs L := by
  obtain ⟨cq, hcq⟩ := row_block h.crow
  have o : ∀ {b : Nat} {y}, b ≠ Q → w.heap[b]? = some y → (w.setCell ⟨Q, i, none⟩ (nV a)).heap[b]? = some y := fun hb hy => (Below.heap_setCell w ⟨Q, i, none⟩ _ _ hb).trans hy
  refine ⟨h.cext.setCell (p := ⟨Q, i, none⟩) l.cQ.1 _, by rw [show (w.setCell ⟨Q, i, none⟩ (nV a)).heap.size = w.heap.size by simp [World.setCell]]; exact h.csize, o l.ckQ h.ck, o l.cnQ h.cn, o (block_ne h.cq hcq (by decide)) h.cq, o (block_ne h.cw hcq (by decide)) h.cw, (h.crow.set i (nV a)).congr fun x _ => ?_, o (block_ne h.cp hcq (by decide)) h.cp, ?_, h.cne, ?_⟩
  · by_cases e : x = i
    · rw [if_pos e]; show nV a = nV (if x = i then a else g x); rw [if_pos e]
    · rw [if_neg e]; show nV (g x) = nV (if x = i then a else g x); rw [if_neg e]
  · refine ownsRow_setCell_other h.ctop (fun e => ?_) _
    obtain ⟨c, hc⟩ := own_block h.ctop e
    exact block_ne hc hcq (by decide) rfl
  · refine ⟨h.crows.1, fun x u p h1 h2 => ownsRow_setCell_other (h.crows.2 x u p h1 h2) (fun e => ?_) _⟩
    have : B ≤ Q := (own_ge (h.crows.2 x u p h1 h2) e).1
    have := l.cQ.2
    omega
/-- a row more -/
theorem AllSt.add {w1 : World} {u : Value} {pk : List Nat} {v' : Value} (h : AllSt w0 B bk bp bq bn bw Q K N w g v vs L) (l : Lay w0 B bk bp bq bn bw Q) (hu : w.ownsRow B 3 1 u pk.length (pk.map nV)) (hown : w1.ownsRow w0.heap.size 30 1 v' (L.length + 1) (vs ++ [u])) (hg : (w.alloc (.cells #[u] 30)).grownBy w1 v.ownBlock) (hat : v'.ownBlock = v.ownBlock ∨ ∀ b, v'.ownBlock = some b → w.heap.size ≤ b) :
    AllSt w0 B bk bp bq bn bw Q K N (w1.setCell ⟨bp, 0, none⟩ v') g v' (vs ++ [u]) (L ++ [pk]) ∧ w1.heap[bp]? = some (.cells #[v] 79 (0, 0)) := by
  have h1 := h.grow ((Ext.refl w).alloc #[u] 30)
  have keep : ∀ {b : Nat} {y}, v.ownBlock ≠ some b → (w.alloc (.cells #[u] 30)).heap[b]? = some y → w1.heap[b]? = some y := fun hb hy => (hg.block _ (lt_of_block hy) (fun e => hb e.symm)).trans hy
  have nb : ∀ {b : Nat} {c : Array Value} {t : TypeId} {z : Nat × Nat}, (w.alloc (.cells #[u] 30)).heap[b]? = some (.cells c t z) → t ≠ 30 → v.ownBlock ≠ some b := fun hb hne e => by
    obtain ⟨c, hc⟩ := own_block h1.ctop e
    exact block_ne hb hc hne rfl
  have kp := keep (nb h1.cp (by decide)) h1.cp
  obtain ⟨cq, hcq⟩ := row_block h1.crow
  have krow : w1.rowIs Q 3 K (gV g) := h1.crow.of_block ((hg.block _ (lt_of_block hcq) (fun e => nb hcq (by decide) e.symm)))
  have kk := keep (nb h1.ck (by decide)) h1.ck
  have kn := keep (nb h1.cn (by decide)) h1.cn
  have kw := keep (nb h1.cw (by decide)) h1.cw
  have kq := keep h1.cne h1.cq
  obtain ⟨cq1, hcq1⟩ := row_block krow
  have o : ∀ {b : Nat} {y}, b ≠ bp → w1.heap[b]? = some y → (w1.setCell ⟨bp, 0, none⟩ v').heap[b]? = some y := fun hb hy => (Below.heap_setCell w1 ⟨bp, 0, none⟩ _ _ hb).trans hy
  have hx1 : Ext w0 w1 := h1.cext.grow hg fun b hb => (own_ge h1.ctop hb).1
  have hsz : (w.alloc (.cells #[u] 30)).heap.size ≤ w1.heap.size := hg.size
  refine ⟨⟨hx1.setCell (p := ⟨bp, 0, none⟩) l.cp.1 _, ?_, o (block_ne kk kp (by decide)) kk, o (block_ne kn kp (by decide)) kn, o (block_ne kq kp (by decide)) kq, o (block_ne kw kp (by decide)) kw, krow.of_block (Below.heap_setCell w1 ⟨bp, 0, none⟩ _ _ (block_ne hcq1 kp (by decide))), one_setCell kp, ?_, ?_, ?_⟩, kp⟩
  · rw [show (w1.setCell ⟨bp, 0, none⟩ v').heap.size = w1.heap.size by simp [World.setCell]]
    exact Nat.le_trans h1.csize hsz
  · rw [List.length_append]
    refine ownsRow_setCell_other hown (fun e => ?_) _
    obtain ⟨c, hc⟩ := own_block hown e
    exact block_ne hc kp (by decide) rfl
  · rcases hat with hat | hat
    · rw [hat]; exact h.cne
    · intro e
      have := hat _ e
      have := lt_of_block h.cq
      omega
  · have hr := (h.crows.append (rowsOk.one hu)).ext ((Ext.refl w).alloc #[u] 30)
    have hr1 := hr.kept h1.ctop hg
    refine ⟨hr1.1, fun x y p h3 h4 => ownsRow_setCell_other (hr1.2 x y p h3 h4) (fun e => ?_) _⟩
    have : B ≤ bp := (own_ge (hr1.2 x y p h3 h4) e).1
    have := l.cp.2
    omega
end
def WalkRes (w0 : World) (B bk bp bq bn bw Q K N : Nat) (g : Nat → Nat) (place : Nat) (L : List (List Nat)) (w' : World) : Prop := ∃ g' v vs, (∀ x, x < place → g' x = g x) ∧ AllSt w0 B bk bp bq bn bw Q K N w' g' v vs L
theorem range_gV (g : Nat → Nat) (K : Nat) : (List.range K).map (iV fun i => (g i : Int)) = ((List.range K).map g).map nV := by simp [iV, nV]
theorem row_ints {w : World} {Q K : Nat} {g : Nat → Nat} (h : w.rowIs Q 3 K (gV g)) : Ints w (some ⟨Q, 0, none⟩) K (fun i => (g i : Int)) := fun i hi => ⟨Q, 0, rfl, by rw [Nat.zero_add, h.cell hi]; rfl⟩
end Go.Proofs.Ythgbfakmkdifbaa
/-
  comb.All's inner walk.
-/
namespace Go.Proofs.Ythgbfakmkdifbaa
open Go.RowKit Go.Deep E
set_option maxRecDepth 100000 in
set_option maxHeartbeats 1600000 in
theorem leaf_any (w0 : World) (B bk bp bq bn bw Q K N : Nat) (l : Lay w0 B bk bp bq bn bw Q) (hK : K ≤ 12) (least : Nat) (w : World) (g : Nat → Nat) (v : Value) (vs : List Value) (L : List (List Nat)) (hL : L.length ≤ 924) (h : AllSt w0 B bk bp bq bn bw Q K N w g v vs L) :
    Calls Try.prog 66 #[.int .i64 K, .int .i64 least, .pointer (some ⟨bk, 0, none⟩), .pointer (some ⟨bp, 0, none⟩), .pointer (some ⟨bq, 0, none⟩), .pointer (some ⟨bn, 0, none⟩), .pointer (some ⟨bw, 0, none⟩)] w fun e w' => e = .returned (.tuple #[]) ∧ WalkRes w0 B bk bp bq bn bw Q K N g K (L ++ [(List.range K).map g]) w' := by
  have HS : Hid (AllSt w0 B bk bp bq bn bw Q K N w g v vs L) := h
  have HLy : Hid (Lay w0 B bk bp bq bn bw Q) := l
  clear h l
  have ck := cell_of_one HS.out.ck
  have cq := cell_of_one HS.out.cq
  have HKP : Hid (∀ w', Ext w w' → w'.cell? ⟨bp, 0, none⟩ = some v) := fun w' x => x.keeps (cell_of_one HS.out.cp)
  have cp := HKP.out w (Ext.refl w)
  have cpd := HKP.out w.drew (Ext.refl w).drew
  have HC : Hid (∀ w', Ext w w' → Calls Try.prog 67 #[.slice (some ⟨Q, 0, none⟩) K K] w' fun e w'' => ∃ u, e = .returned u ∧ CloneRes w' K (fun i => (g i : Int)) u w'') := fun w' x => Clone_ints ⟨Q, 0, none⟩ K K _ w' (by omega) (row_ints (HS.out.grow x).crow)
  have HFN : Hid ((Try.f67.name == "runtime.NumGoroutine") = false ∧ Try.f67.body.isNone = false) := ⟨by kernel_rfl, by kernel_rfl⟩
  obtain ⟨i0, hi0, hz0, hz1, hz2⟩ := info_parts infoIs
  have HI0 : Hid (Try.prog.info? 30 = some i0 ∧ i0.zero = some (.slice none 0 0) ∧ i0.size = 1 ∧ i0.bytes = 24) := ⟨hi0, hz0, hz1, hz2⟩
  clear hi0 hz0 hz1 hz2
  have hqb : L.length + 1 ≤ maxLen := by unfold maxLen; omega
  have HOW : Hid (∀ w' u, Ext w w' → (w'.alloc (.cells #[u] 30)).ownsRow w0.heap.size 30 1 v L.length vs) := fun w' u x => own_ext HS.out.ctop (x.alloc _ _)
  have HNW : Hid (∀ (w' : World) u j' y, [u][j']? = some y → (w'.alloc (.cells #[u] 30)).cell? ((⟨w'.heap.size, 0, none⟩ : Addr).add j') = some y) := by
    intro w' u j' y hj'
    match j', hj' with
    | 0, hj' => cases hj'; simp [Addr.add]
  have HONE : Hid (∀ (a : Option Addr) (n c : Nat), ∀ y ∈ [Value.slice a n c], y.oneCell' = true) := by
    intro a n c y hy; simp at hy; subst hy; rfl
  have HSZ : Hid (∀ w' u, Ext w w' → w0.heap.size ≤ (w'.alloc (.cells #[u] 30)).heap.size) := fun w' u x => by
    have h1 := HS.out.cext.size
    have h2 := x.size
    simp; omega
  have HNX : Hid (∀ w2 w5 (a : Option Addr) (c gg cap : Nat), Ext w w2 → w2.ownsRow w.heap.size 3 1 (.slice a K c) K ((List.range K).map (iV fun i => (g i : Int))) → w5.ownsRow w0.heap.size 30 1 (.slice (some ⟨gg, 0, none⟩) (L.length + 1) cap) (L.length + 1) (vs ++ [.slice a K c]) → (w2.alloc (.cells #[.slice a K c] 30)).grownBy w5 v.ownBlock → (v.ownBlock = some gg ∨ gg = w2.heap.size + 1) →
      WalkRes w0 B bk bp bq bn bw Q K N g K (L ++ [(List.range K).map g]) (w5.setCell ⟨bp, 0, none⟩ (.slice (some ⟨gg, 0, none⟩) (L.length + 1) cap)) ∧ w5.cell? ⟨bp, 0, none⟩ = some v ∧ w5.frozen? ⟨bp, 0, none⟩ = false) := fun w2 w5 a c gg cap x ho hown hg hat => by
    have h2 := HS.out.grow x
    have hu := own_mono ho HS.out.csize
    rw [range_gV] at hu
    have hadd := h2.add HLy.out (u := .slice a K c) (pk := (List.range K).map g) (v' := .slice (some ⟨gg, 0, none⟩) (L.length + 1) cap) (by simpa using hu) hown hg (by
      rcases hat with e | e
      · exact Or.inl e.symm
      · exact Or.inr fun b hb => by cases hb; show w2.heap.size ≤ gg; omega)
    exact ⟨⟨g, _, _, fun _ _ => rfl, hadd.1⟩, cell_of_one hadd.2, free_of_one hadd.2⟩
  go_enter Try.func66, Try.ntmps66
  go_wp2_with fail
  go_region_law (first
    | (refine step_callx (by rfl) 67 Try.func67 HFN.out.1 HFN.out.2 _ _ (by rfl) [.slice (some ⟨Q, 0, none⟩) K K] (by simp [Act.eval]) (fun u w'' => CloneRes w.drew K (fun i => (g i : Int)) u w'') (HC.out w.drew (Ext.refl w).drew) ?_; intro u w2 hR; obtain ⟨hou, hx2⟩ := hR; obtain ⟨au, cu, hue, _⟩ := own_slice hou; subst hue; have hx3 : Ext w w2 := (Ext.refl w).drew.trans hx2; have hc2 := HKP.out w2 hx3; have hc3 := HKP.out (w2.alloc (.cells #[.slice au K cu] 30)) (hx3.alloc _ _))
    | (refine step_append_lies _ (by rfl) (.tmp 13) (.tmp 16) 79 (by rfl) w0.heap.size 30 i0 (.slice none 0 0) 1 24 Try.underlying79 HI0.out.1 HI0.out.2.1 HI0.out.2.2.1 HI0.out.2.2.2 (by rfl) (by omega) v L.length vs (by simp [Act.eval]) (HOW.out w2 _ hx3) ⟨w2.heap.size, 0, none⟩ 1 1 [.slice au K cu] (by simp [Act.eval]) (by rfl) (HNW.out w2 _) (HONE.out _ _ _) (by omega) hqb (by omega) (HSZ.out w2 _ hx3) (w2.heap.size + 1) (by simp) ?_; intro gg cap w5 hown5 hgrow5 hat5 hlt5; have hnx := HNX.out w2 w5 au cu gg cap hx3 hou hown5 hgrow5 hat5; obtain ⟨hn1, hn2, hn3⟩ := hnx))
  all_goals
    have HN1 : Hid (WalkRes w0 B bk bp bq bn bw Q K N g K (L ++ [(List.range K).map g]) (w5.setCell ⟨bp, 0, none⟩ (.slice (some ⟨gg, 0, none⟩) (L.length + 1) cap))) := hn1
    clear hown5 hgrow5 hat5 hlt5 hn1 hn2 hn3
    go_wp2_with fail
    refine bodyPost_ret (results_none rfl _ _ _) rfl ?_
    exact ⟨rfl, HN1.out⟩
/-- what begins with the numbers laid -/
def pre (g : Nat → Nat) (place : Nat) (l : List (List Nat)) : List (List Nat) := l.map ((List.range place).map g ++ ·)
theorem pre_congr {g g' : Nat → Nat} {place : Nat} (h : ∀ x, x < place → g' x = g x) (l : List (List Nat)) : pre g' place l = pre g place l := by
  unfold pre
  rw [List.map_congr_left (l := List.range place) (f := g') (g := g) fun x hx => h x (List.mem_range.1 hx)]
theorem pre_step {g : Nat → Nat} {place a m d : Nat} : pre g place (pk (m + 1) (d + 1) a) = pre (fun x => if x = place then a else g x) (place + 1) (pk m d (a + 1)) ++ pre g place (pk m (d + 1) (a + 1)) := by
  show pre g place ((pk m d (a + 1)).map (a :: ·) ++ pk m (d + 1) (a + 1)) = _
  unfold pre
  rw [List.map_append, List.map_map]
  congr 1
  apply List.map_congr_left
  intro p _
  show (List.range place).map g ++ a :: p = _
  rw [List.range_succ, List.map_append]
  simp only [List.map_cons, List.map_nil, List.append_assoc, List.cons_append, List.nil_append, if_true]
  congr 1
  apply List.map_congr_left
  intro x hx
  have := List.mem_range.1 hx
  rw [if_neg (by omega)]
theorem pre_nil (g : Nat → Nat) (l : List (List Nat)) : pre g 0 l = l := by simp [pre]
theorem pre_len (g : Nat → Nat) (place : Nat) (l : List (List Nat)) : (pre g place l).length = l.length := by simp [pre]
set_option maxRecDepth 100000 in
set_option maxHeartbeats 1600000 in
theorem walk_any (w0 : World) (B bk bp bq bn bw Q K N : Nat) (l : Lay w0 B bk bp bq bn bw Q) (hN : N ≤ 12) (hKN : K ≤ N) : ∀ (d place least : Nat) (w : World) (g : Nat → Nat) (v : Value) (vs : List Value) (L : List (List Nat)), place + d = K → least ≤ N → L.length + cho (N - least) d ≤ 924 + 1 → AllSt w0 B bk bp bq bn bw Q K N w g v vs L →
    Calls Try.prog 66 #[.int .i64 place, .int .i64 least, .pointer (some ⟨bk, 0, none⟩), .pointer (some ⟨bp, 0, none⟩), .pointer (some ⟨bq, 0, none⟩), .pointer (some ⟨bn, 0, none⟩), .pointer (some ⟨bw, 0, none⟩)] w fun e w' => e = .returned (.tuple #[]) ∧ WalkRes w0 B bk bp bq bn bw Q K N g place (L ++ pre g place (pk (N - least) d least)) w' := by
  intro d
  induction d with
  | zero =>
    intro place least w g v vs L hp hl hlen h
    obtain rfl : K = place := by omega
    rw [cho_zero] at hlen
    have := leaf_any w0 B bk bp bq bn bw Q K N l (by omega) least w g v vs L (by omega) h
    rw [pk_zero]
    simpa [pre] using this
  | succ d ih =>
    intro place least w g v vs L hp hl hlen h
    have HIH : Hid (∀ (place least : Nat) (w : World) (g : Nat → Nat) (v : Value) (vs : List Value) (L : List (List Nat)), place + d = K → least ≤ N → L.length + cho (N - least) d ≤ 924 + 1 → AllSt w0 B bk bp bq bn bw Q K N w g v vs L →
      Calls Try.prog 66 #[.int .i64 place, .int .i64 least, .pointer (some ⟨bk, 0, none⟩), .pointer (some ⟨bp, 0, none⟩), .pointer (some ⟨bq, 0, none⟩), .pointer (some ⟨bn, 0, none⟩), .pointer (some ⟨bw, 0, none⟩)] w fun e w' => e = .returned (.tuple #[]) ∧ WalkRes w0 B bk bp bq bn bw Q K N g place (L ++ pre g place (pk (N - least) d least)) w') := ih
    have HS : Hid (AllSt w0 B bk bp bq bn bw Q K N w g v vs L) := h
    have HLy : Hid (Lay w0 B bk bp bq bn bw Q) := l
    have HLN : Hid (L.length + cho (N - least) (d + 1) ≤ 924 + 1) := hlen
    clear h l ih hlen
    have ck := cell_of_one HS.out.ck
    have hpk : place < K := by omega
    have hne : ((place : Int) == (K : Int)) = false := by rw [beq_eq_false_iff_ne]; omega
    go_enter Try.func66, Try.ntmps66
    go_wp2_with fail
    go_loopw [9] (fun a wr => ∃ ai : Nat, ai ≤ N ∧ a = .int .i64 ai ∧ ∃ g1 v1 vs1 L1, Hid (∀ x, x < place → g1 x = g x) ∧ AllSt w0 B bk bp bq bn bw Q K N wr g1 v1 vs1 L1 ∧ Hid (L1 ++ pre g place (pk (N - ai) (d + 1) ai) = L ++ pre g place (pk (N - least) (d + 1) least))) (fun a _ => N + 1 - (intOf a).toNat)
    case atStart => exact ⟨least, hl, rfl, g, v, vs, L, fun _ _ => rfl, HS.out, rfl⟩
    case round =>
      clear ck
      obtain ⟨ai, hai, rfl, g1, v1, vs1, L1, HG, hst, HT⟩ := hrel
      have HS1 : Hid (AllSt w0 B bk bp bq bn bw Q K N wr g1 v1 vs1 L1) := hst
      clear hst
      have ck := cell_of_one HS1.out.ck
      have cn := cell_of_one HS1.out.cn
      have cq := cell_of_one HS1.out.cq
      have hlen1 : L1.length + cho (N - ai) (d + 1) ≤ 924 + 1 := by
        have h1 := congrArg List.length HT.out
        rw [List.length_append, List.length_append, pre_len, pre_len, pk_len, pk_len] at h1
        have := HLN.out
        omega
      by_cases hlt : ai + (d + 1) ≤ N
      · have hrow := HS1.out.crow
        have hcell := hrow.cell hpk
        have hfr := hrow.frozen place
        have cw1 := cell_of_one (HS1.out.lay HLy.out place ai).cw
        unfold capt at cw1
        have HS2 : Hid (AllSt w0 B bk bp bq bn bw Q K N (wr.setCell ⟨Q, place, none⟩ (nV ai)) (fun x => if x = place then ai else g1 x) v1 vs1 L1) := HS1.out.lay HLy.out place ai
        obtain ⟨m, hm⟩ : ∃ m, N - ai = m + 1 := ⟨N - ai - 1, by omega⟩
        have hle2 : L1.length + cho (N - (ai + 1)) d ≤ 924 + 1 := by
          rw [hm] at hlen1
          unfold cho at hlen1
          rw [show N - (ai + 1) = m by omega]
          omega
        have HL2 : Hid (L1.length + cho (N - (ai + 1)) d ≤ 924 + 1) := hle2
        have HM : Hid (N - ai = m + 1) := hm
        clear hrow hlen1 hle2 hm
        unfold nV at cw1
        go_wp2_with (first | (go_at_call 66; refine (HIH.out (place + 1) (ai + 1) _ _ v1 vs1 L1 (by omega) (by omega) HL2.out HS2.out).mono ?_; rintro e w2 ⟨rfl, hres⟩; have HRES : Hid (WalkRes w0 B bk bp bq bn bw Q K N (fun x => if x = place then ai else g1 x) (place + 1) (L1 ++ pre (fun x => if x = place then ai else g1 x) (place + 1) (pk (N - (ai + 1)) d (ai + 1))) w2) := hres; clear hres))
        obtain ⟨g2, v2, vs2, hg2, hst2⟩ := HRES.out
        go_roundw
        case rel =>
          refine ⟨ai + 1, by omega, by go_num, g2, v2, vs2, _, fun x hx => ?_, hst2, ?_⟩
          · rw [hg2 x (by omega)]
            show (if x = place then ai else g1 x) = g x
            rw [if_neg (by omega), HG.out x hx]
          · show L1 ++ pre (fun x => if x = place then ai else g1 x) (place + 1) (pk (N - (ai + 1)) d (ai + 1)) ++ pre g place (pk (N - (ai + 1)) (d + 1) (ai + 1)) = _
            rw [← HT.out, HM.out, pre_step, show N - (ai + 1) = m by have := HM.out; omega, List.append_assoc]
            congr 2
            refine pre_congr (fun x hx => ?_) _
            by_cases e : x = place
            · rw [if_pos e, if_pos e]
            · rw [if_neg e, if_neg e, HG.out x (by omega)]
        case measure => simp [intOf]; omega
      · have HE : Hid (L1 = L ++ pre g place (pk (N - least) (d + 1) least)) := by
          have h1 := HT.out
          rw [pk_few (N - ai) (d + 1) ai (by omega)] at h1
          rw [show pre g place [] = [] from rfl, List.append_nil] at h1
          exact h1
        clear hlen1
        go_wp2_with fail
        go_end0
        refine ⟨rfl, g1, v1, vs1, HG.out, ?_⟩
        rw [← HE.out]
        exact HS1.out
theorem made_gV (w : World) (K : Nat) : (w.alloc (.cells (madeCells #[.int .i64 0] K) 3)).rowIs w.heap.size 3 K (gV fun _ => 0) := World.rowIs_made w (.int .i64 0) K 3
theorem room_rows (n : Nat) (hb : n ≤ 1073741824) (w : World) : (Instr.makeSlice 79 (.int .i64 0) (.int .i64 (n : Int))).run Try.prog w = .ok (.slice (some ⟨w.heap.size, 0, none⟩) 0 n) (w.alloc (.cells (madeCells #[.slice none 0 0] n) 30)) := by
  obtain ⟨i, hi, hz, hs, hbb⟩ := info_parts infoIs
  have hr := run_make (P := Try.prog) w 79 30 i (.slice none 0 0) Try.underlying79 hi hz .i64 .i64 0 n (Int.le_refl _) (by omega) (by rw [hbb]; omega) (by omega)
  simp only [Int.toNat_natCast, hs, Nat.mul_one, Int.toNat_zero] at hr
  exact hr
theorem new_at (w : World) (o : Obj) (k : Nat) (hk : w.heap.size = k) : (w.alloc o).heap[k]? = some o := by subst hk; exact heap_alloc_new w o
theorem ext_block {w w' : World} (x : Ext w w') {k : Nat} {o : Obj} (h : w.heap[k]? = some o) : w'.heap[k]? = some o := (x.below.block k (lt_of_block h)).trans h
theorem all_start (w : World) (N K c : Nat) (hc : c ≤ 924) :
    AllSt w (w.heap.size + 1 + 1 + 1 + 1 + 1 + 1 + 1) (w.heap.size + 1) (w.heap.size + 1 + 1 + 1) (w.heap.size + 1 + 1 + 1 + 1 + 1) w.heap.size (w.heap.size + 1 + 1 + 1 + 1 + 1 + 1) (w.heap.size + 1 + 1 + 1 + 1) K N
      (((((((w.alloc (.cells #[.int .i64 N] 3)).alloc (.cells #[.int .i64 K] 3)).alloc (.cells (madeCells #[.slice none 0 0] c) 30)).alloc (.cells #[.slice (some ⟨w.heap.size + 1 + 1, 0, none⟩) 0 c] 79)).alloc (.cells (madeCells #[.int .i64 0] K) 3)).alloc (.cells #[.slice (some ⟨w.heap.size + 1 + 1 + 1 + 1, 0, none⟩) K K] 30)).alloc (.cells #[.func (.func 66) #[] (capt (w.heap.size + 1) (w.heap.size + 1 + 1 + 1) (w.heap.size + 1 + 1 + 1 + 1 + 1) w.heap.size (w.heap.size + 1 + 1 + 1 + 1 + 1 + 1))] 93))
      (fun _ => 0) (.slice (some ⟨w.heap.size + 1 + 1, 0, none⟩) 0 c) [] [] := by
  have x (v : World) (cs : Array Value) (t : TypeId) : Ext v (v.alloc (.cells cs t)) := (Ext.refl v).alloc _ _
  have e1 : (w.alloc (.cells #[.int .i64 N] 3)).heap.size = w.heap.size + 1 := by simp
  generalize hw1 : w.alloc (.cells #[.int .i64 N] 3) = w1 at *
  have b1 : w1.heap[w.heap.size]? = some (.cells #[.int .i64 N] 3 (0, 0)) := by rw [← hw1]; exact heap_alloc_new w _
  have x1 : Ext w w1 := by rw [← hw1]; exact x w _ _
  clear hw1
  have e2 : (w1.alloc (.cells #[.int .i64 K] 3)).heap.size = w.heap.size + 1 + 1 := by simp [e1]
  have b2 := new_at w1 (.cells #[.int .i64 K] 3 (0, 0)) _ e1
  have x2 := x w1 #[.int .i64 K] 3
  generalize w1.alloc (.cells #[.int .i64 K] 3) = w2 at *
  have e3 : (w2.alloc (.cells (madeCells #[.slice none 0 0] c) 30)).heap.size = w.heap.size + 1 + 1 + 1 := by simp [e2]
  have x3 := x w2 (madeCells #[.slice none 0 0] c) 30
  have o3 : (w2.alloc (.cells (madeCells #[.slice none 0 0] c) 30)).ownsRow w.heap.size 30 1 (.slice (some ⟨w.heap.size + 1 + 1, 0, none⟩) 0 c) 0 [] := by
    rw [← e2]
    exact World.ownsRow_made w2 _ c (by omega) (by unfold maxLen; omega) (by simp [size_madeCells])
  generalize w2.alloc (.cells (madeCells #[.slice none 0 0] c) 30) = w3 at *
  have e4 : (w3.alloc (.cells #[.slice (some ⟨w.heap.size + 1 + 1, 0, none⟩) 0 c] 79)).heap.size = w.heap.size + 1 + 1 + 1 + 1 := by simp [e3]
  have b4 := new_at w3 (.cells #[.slice (some ⟨w.heap.size + 1 + 1, 0, none⟩) 0 c] 79 (0, 0)) _ e3
  have x4 := x w3 #[.slice (some ⟨w.heap.size + 1 + 1, 0, none⟩) 0 c] 79
  generalize w3.alloc (.cells #[.slice (some ⟨w.heap.size + 1 + 1, 0, none⟩) 0 c] 79) = w4 at *
  have e5 : (w4.alloc (.cells (madeCells #[.int .i64 0] K) 3)).heap.size = w.heap.size + 1 + 1 + 1 + 1 + 1 := by simp [e4]
  have r5 := made_gV w4 K
  rw [e4] at r5
  have x5 := x w4 (madeCells #[.int .i64 0] K) 3
  generalize w4.alloc (.cells (madeCells #[.int .i64 0] K) 3) = w5 at *
  have e6 : (w5.alloc (.cells #[.slice (some ⟨w.heap.size + 1 + 1 + 1 + 1, 0, none⟩) K K] 30)).heap.size = w.heap.size + 1 + 1 + 1 + 1 + 1 + 1 := by simp [e5]
  have b6 := new_at w5 (.cells #[.slice (some ⟨w.heap.size + 1 + 1 + 1 + 1, 0, none⟩) K K] 30 (0, 0)) _ e5
  have x6 := x w5 #[.slice (some ⟨w.heap.size + 1 + 1 + 1 + 1, 0, none⟩) K K] 30
  generalize w5.alloc (.cells #[.slice (some ⟨w.heap.size + 1 + 1 + 1 + 1, 0, none⟩) K K] 30) = w6 at *
  generalize hf : Value.func (.func 66) #[] (capt (w.heap.size + 1) (w.heap.size + 1 + 1 + 1) (w.heap.size + 1 + 1 + 1 + 1 + 1) w.heap.size (w.heap.size + 1 + 1 + 1 + 1 + 1 + 1)) = fv
  have e7 : (w6.alloc (.cells #[fv] 93)).heap.size = w.heap.size + 1 + 1 + 1 + 1 + 1 + 1 + 1 := by simp [e6]
  have b7 := new_at w6 (.cells #[fv] 93 (0, 0)) _ e6
  have x7 := x w6 #[fv] 93
  generalize w6.alloc (.cells #[fv] 93) = w7 at *
  subst hf
  refine ⟨((((((x1.trans x2).trans x3).trans x4).trans x5).trans x6).trans x7), by omega, ?_, ?_, ext_block x7 b6, b7, (x6.trans x7).rowIs r5, ext_block ((x5.trans x6).trans x7) b4, own_ext o3 (((x4.trans x5).trans x6).trans x7), ?_, rowsOk.nil _ _⟩
  · exact ext_block ((((x3.trans x4).trans x5).trans x6).trans x7) b2
  · exact ext_block (((((x2.trans x3).trans x4).trans x5).trans x6).trans x7) b1
  · intro e
    simp [Value.ownBlock] at e
theorem all_lay (w : World) : Lay w (w.heap.size + 1 + 1 + 1 + 1 + 1 + 1 + 1) (w.heap.size + 1) (w.heap.size + 1 + 1 + 1) (w.heap.size + 1 + 1 + 1 + 1 + 1) w.heap.size (w.heap.size + 1 + 1 + 1 + 1 + 1 + 1) (w.heap.size + 1 + 1 + 1 + 1) :=
  ⟨by omega, by omega, by omega, by omega, by omega, by omega, by omega, by omega⟩
def AllRes (w : World) (L : List (List Nat)) (e : Ending) (w' : World) : Prop := ∃ v vs, e = .returned (.tuple #[v, .int .i64 0]) ∧ Pks w w' v vs L
set_option maxRecDepth 100000 in
set_option maxHeartbeats 1600000 in
theorem All_ok (N K : Nat) (w : World) (hN : N ≤ 12) (hK : K ≤ N) :
    Calls Try.prog 49 #[.int .i64 N, .int .i64 K] w fun e w' => AllRes w (pk N K 0) e w' := by
  obtain ⟨c, hc⟩ : ∃ c, cho N K = c := ⟨_, rfl⟩
  have hcl := cho_le N (by omega) K (by omega)
  rw [hc] at hcl
  have HC : Hid (cho N K = c) := hc
  clear hc
  have hmk := make_ints K (by omega)
  have hmr := room_rows c (by omega)
  have hmf : ∀ (fn : Fn) (first cap : Array Value) (w : World), (Instr.makeFunc fn first cap).run Try.prog w = .ok (.func fn first cap) w := fun _ _ _ _ => rfl
  have hsf : ∀ (fn : Fn) (f c : Array Value) (a : Addr) (m : Mode) (w : World), (store a (.func fn f c) m).run Try.prog w = stored Try.prog w a (.func fn f c) m := fun fn f c a m w => run_store Try.prog w a (.func fn f c) m rfl
  go_enter Try.func49, Try.ntmps49
  go_wp2_with (first | (go_at_call 65; refine (Count_is N K c HC.out _ hN hK).mono ?_; rintro e w1 ⟨rfl, hw1⟩; have hw2 := hw1.symm; clear hw1; subst hw2))
  have HST : Hid (AllSt w _ _ _ _ _ _ _ K N _ _ _ _ _) := all_start w N K c hcl
  unfold capt at HST
  refine (walk_any w _ _ _ _ _ _ _ K N (all_lay w) hN hK K 0 0 _ _ _ _ _ (by omega) (by omega) (by rw [Nat.sub_zero, HC.out]; simp; omega) HST.out).mono ?_
  rintro e w2 ⟨rfl, hres⟩
  obtain ⟨g2, v2, vs2, _, hst⟩ := hres
  rw [pre_nil, List.nil_append, Nat.sub_zero] at hst
  obtain ⟨a2, c2, rfl, _⟩ := own_slice hst.ctop
  have hcp := cell_of_one hst.cp
  have HP : Hid (Pks w w2 (.slice a2 (pk N K 0).length c2) vs2 (pk N K 0)) := ⟨hst.cext, hst.ctop, hst.crows.mono (by omega)⟩
  clear hst HST
  go_wp2_with fail
  go_ret2
  exact ⟨_, _, rfl, HP.out⟩
set_option maxRecDepth 100000 in
theorem All_no (n k : Int) (w : World) (h : ¬ maysP n k) :
    Calls Try.prog 49 #[.int .i64 n, .int .i64 k] w fun e w' => e = .returned (.tuple #[.slice none 0 0, .int .i64 2]) ∧ Ext w w' := by
  have H : Hid (¬ maysP n k) := h
  clear h
  go_enter Try.func49, Try.ntmps49
  go_wp2_with (first | (go_at_call 65; refine (Count_not _ _ _ H.out).mono ?_; rintro e w1 ⟨rfl, hw1⟩; have hw2 := hw1.symm; clear hw1; subst hw2))
  go_ret2
  exact ⟨rfl, ((Ext.refl _).alloc _ _).alloc _ _⟩
end Go.Proofs.Ythgbfakmkdifbaa
/-
  comb.Number at a pick; what quicksetkeep.Several hands back is one.
-/
namespace Go.Proofs.Ythgbfakmkdifbaa
open Go.RowKit Go.Deep E
theorem eqTo_self (p : List Nat) (l : Nat) : eqTo p (pkF p) l := fun _ _ => rfl
theorem asc_filter (f : Nat → Bool) (n : Nat) : ∀ (k s : Nat), s + k ≤ n → asc s n ((List.range' s k).filter f)
  | 0, s, _ => trivial
  | k + 1, s, h => by
    rw [List.range'_succ, List.filter_cons]
    have ih := asc_filter f n k (s + 1) (by omega)
    split
    · exact ⟨Nat.le_refl _, by omega, ih⟩
    · exact asc_mono ih (by omega)
theorem asc_PL (n : Nat) (has : Nat → Bool) : asc 0 n (PL n has) := by
  have := asc_filter has n n 0 (by omega)
  unfold PL
  rwa [List.range_eq_range']
theorem PL_pick (n : Nat) (has : Nat → Bool) : (pk n (PL n has).length 0)[nm n 0 (PL n has)]? = some (PL n has) := pk_nm n 0 _ (by rw [Nat.zero_add]; exact asc_PL n has)
end Go.Proofs.Ythgbfakmkdifbaa
/-
  quicksetkeep.pickAhead; picks in their order, one behind the other.
-/
namespace Go.Proofs.Ythgbfakmkdifbaa
open Go.RowKit Go.Deep E
theorem pkF_zero (a : Nat) (p : List Nat) : pkF (a :: p) 0 = (a : Int) := rfl
theorem pkF_succ (a : Nat) (p : List Nat) (x : Nat) : pkF (a :: p) (x + 1) = pkF p x := rfl
theorem pk_lex : ∀ (m k s i : Nat) (p q : List Nat), (pk m k s)[i]? = some p → (pk m k s)[i + 1]? = some q → ∃ t, t < k ∧ (∀ x, x < t → pkF p x = pkF q x) ∧ pkF p t < pkF q t
  | m, 0, s, i, p, q, hp, hq => by rw [pk_zero] at hq; simp at hq
  | 0, k + 1, s, i, p, q, hp, hq => by simp [pk] at hp
  | m + 1, k + 1, s, i, p, q, hp, hq => by
    have hl := pk_len m k (s + 1)
    change ((pk m k (s + 1)).map (s :: ·) ++ pk m (k + 1) (s + 1))[i]? = _ at hp
    change ((pk m k (s + 1)).map (s :: ·) ++ pk m (k + 1) (s + 1))[i + 1]? = _ at hq
    by_cases h1 : i < cho m k
    · rw [List.getElem?_append_left (by simp [hl, h1]), List.getElem?_map] at hp
      cases hp' : (pk m k (s + 1))[i]? with
      | none => rw [hp'] at hp; cases hp
      | some p' =>
        rw [hp'] at hp
        cases hp
        by_cases h2 : i + 1 < cho m k
        · rw [List.getElem?_append_left (by simp [hl, h2]), List.getElem?_map] at hq
          cases hq' : (pk m k (s + 1))[i + 1]? with
          | none => rw [hq'] at hq; cases hq
          | some q' =>
            rw [hq'] at hq
            cases hq
            obtain ⟨t, ht, h3, h4⟩ := pk_lex m k (s + 1) i p' q' hp' hq'
            refine ⟨t + 1, by omega, fun x hx => ?_, h4⟩
            cases x with
            | zero => rfl
            | succ x => exact h3 x (by omega)
        · rw [List.getElem?_append_right (by simp [hl]; omega)] at hq
          have hm := pk_mem _ _ _ _ (List.mem_of_getElem? hq)
          cases q with
          | nil => simp at hm
          | cons b q =>
            have := hm.2.1
            refine ⟨0, by omega, fun x hx => by omega, ?_⟩
            show (s : Int) < (b : Int)
            omega
    · rw [List.getElem?_append_right (by simp [hl]; omega)] at hp hq
      simp only [List.length_map, hl] at hp hq
      rw [show i + 1 - cho m k = i - cho m k + 1 by omega] at hq
      exact pk_lex m (k + 1) (s + 1) _ p q hp hq
theorem asc_bd : ∀ (p : List Nat) (s e : Nat), asc s e p → ∀ x, x < p.length → (s : Int) ≤ pkF p x ∧ pkF p x < e ∧ (∀ y, y < x → pkF p y < pkF p x)
  | [], _, _, _, x, hx => by simp at hx
  | a :: p, s, e, h, 0, _ => by
    have h1 := h.1
    have h2 := h.2.1
    refine ⟨?_, ?_, fun y hy => by omega⟩
    · show (s : Int) ≤ (a : Int); omega
    · show (a : Int) < (e : Int); omega
  | a :: p, s, e, h, x + 1, hx => by
    obtain ⟨h1, h2, h3⟩ := asc_bd p (a + 1) e h.2.2 x (by simpa using hx)
    have h0 := h.1
    rw [pkF_succ]
    refine ⟨by omega, h2, fun y hy => ?_⟩
    cases y with
    | zero => rw [pkF_zero]; omega
    | succ y => rw [pkF_succ]; exact h3 y (by omega)
theorem asc_at {p : List Nat} {M x : Nat} (h : asc 0 M p) (hx : x < p.length) : ∃ v : Nat, pkF p x = (v : Int) ∧ v < M ∧ ∀ y, x = y + 1 → ∃ u : Nat, pkF p y = (u : Int) ∧ u < v := by
  obtain ⟨h1, h2, h3⟩ := asc_bd p 0 M h x hx
  refine ⟨(pkF p x).toNat, by omega, by omega, fun y e => ?_⟩
  have h4 := (asc_bd p 0 M h y (by omega)).1
  have h5 := h3 y (by omega)
  exact ⟨(pkF p y).toNat, by omega, by omega⟩
theorem ext_drewK (w : World) (k : Nat) : Ext w (w.drewN k) := ⟨⟨rfl, rfl, rfl, Nat.le_refl _, fun _ _ => rfl⟩⟩
end Go.Proofs.Ythgbfakmkdifbaa
