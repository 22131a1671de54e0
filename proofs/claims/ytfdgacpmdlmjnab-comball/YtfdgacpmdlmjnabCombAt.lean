/-
  comb.At: the pick with a number, in new memory.
-/
import Derived.Test.YtfdgacpmdlmjnabChecked
import Derived.WalkKit
import Derived.Laws.MakeOwn
import Derived.Test.YtfdgacpmdlmjnabCombBase
import Derived.Test.YtfdgacpmdlmjnabRefAt
namespace Go.Proofs.Ytfdgacpmdlmjnab
open Go.RowKit Go.Deep E
theorem room_ints (n : Nat) (hb : n ≤ 1073741824) (w : World) : (Instr.makeSlice 29 (.int .i64 0) (.int .i64 (n : Int))).run Try.prog w = .ok (.slice (some ⟨w.heap.size, 0, none⟩) 0 n) (w.alloc (.cells (madeCells #[.int .i64 0] n) 3)) := by
  obtain ⟨i, hi, hz, hs, hbb⟩ := info_parts infoI
  have hr := run_make (P := Try.prog) w 29 3 i (.int .i64 0) Try.underlying29 hi hz .i64 .i64 0 n (Int.le_refl _) (by omega) (by rw [hbb]; omega) (by omega)
  simp only [Int.toNat_natCast, hs, Nat.mul_one, Int.toNat_zero] at hr
  exact hr
theorem Count_is (n k : Nat) (c : Nat) (hc : cho n k = c) (w : World) (hn : n ≤ 12) (hk : k ≤ n) : Calls Try.prog 7 #[.int .i64 n, .int .i64 k] w fun e w' => e = .returned (.tuple #[.int .i64 c, .int .i64 0]) ∧ w' = w := by
  have h : maysP n k := ⟨⟨by omega, by omega⟩, by omega, by omega⟩
  have hv : cntV n k = (c : Int) := by unfold cntV; rw [if_pos h, ← hc]; rfl
  have he : cntE n k = 0 := if_pos h
  have := Count_any n k w
  rwa [hv, he] at this
theorem Count_not (n k : Int) (w : World) (h : ¬ maysP n k) : Calls Try.prog 7 #[.int .i64 n, .int .i64 k] w fun e w' => e = .returned (.tuple #[.int .i64 0, .int .i64 2]) ∧ w' = w := by
  have hv : cntV n k = 0 := if_neg h
  have he : cntE n k = 2 := if_neg h
  have := Count_any n k w
  rwa [hv, he] at this
set_option maxRecDepth 100000 in
theorem At_none (n k i : Int) (w : World) (h : ¬ maysP n k) :
    Calls Try.prog 10 #[.int .i64 n, .int .i64 k, .int .i64 i] w fun e w' => e = .returned (.tuple #[.slice none 0 0, .int .i64 2]) ∧ w' = w := by
  have H : Hid (¬ maysP n k) := h
  clear h
  go_enter Try.func10, Try.ntmps10
  go_wp2_with (first | (go_at_call 7; refine (Count_not _ _ _ H.out).mono ?_; rintro e w1 ⟨rfl, hw1⟩; have hw2 := hw1.symm; clear hw1; subst hw2))
  go_ret2
  exact ⟨rfl, rfl⟩
set_option maxRecDepth 100000 in
theorem At_no (n k : Nat) (i : Int) (w : World) (hn : n ≤ 12) (hk : k ≤ n) (hi : i < 0 ∨ (cho n k : Int) ≤ i) :
    Calls Try.prog 10 #[.int .i64 n, .int .i64 k, .int .i64 i] w fun e w' => e = .returned (.tuple #[.slice none 0 0, .int .i64 2]) ∧ w' = w := by
  obtain ⟨c, hc⟩ : ∃ c, cho n k = c := ⟨_, rfl⟩
  rw [hc] at hi
  have HC : Hid (cho n k = c) := hc
  clear hc
  rcases hi with hi | hi
  · go_enter Try.func10, Try.ntmps10
    go_wp2_with (first | (go_at_call 7; refine (Count_is n k c HC.out _ hn hk).mono ?_; rintro e w1 ⟨rfl, hw1⟩; have hw2 := hw1.symm; clear hw1; subst hw2))
    go_ret2
    exact ⟨rfl, rfl⟩
  · go_enter Try.func10, Try.ntmps10
    go_wp2_with (first | (go_at_call 7; refine (Count_is n k c HC.out _ hn hk).mono ?_; rintro e w1 ⟨rfl, hw1⟩; have hw2 := hw1.symm; clear hw1; subst hw2))
    go_ret2
    exact ⟨rfl, rfl⟩
/-- one step of the search -/
theorem pk_step (m k a r : Nat) (q : List Nat) (h : (pk m (k + 1) a)[r]? = some q) :
    ∃ m', m = m' + 1 ∧ (r < cho m' k → ∃ q', q = a :: q' ∧ (pk m' k (a + 1))[r]? = some q') ∧ (¬ r < cho m' k → (pk m' (k + 1) (a + 1))[r - cho m' k]? = some q) := by
  cases m with
  | zero => simp [pk] at h
  | succ m =>
    refine ⟨m, rfl, fun hr => ?_, fun hr => ?_⟩
    · change ((pk m k (a + 1)).map (a :: ·) ++ pk m (k + 1) (a + 1))[r]? = _ at h
      rw [List.getElem?_append_left (by simp [pk_len, hr]), List.getElem?_map] at h
      cases hq : (pk m k (a + 1))[r]? with
      | none => rw [hq] at h; cases h
      | some q' => rw [hq] at h; cases h; exact ⟨q', rfl, rfl⟩
    · change ((pk m k (a + 1)).map (a :: ·) ++ pk m (k + 1) (a + 1))[r]? = _ at h
      rw [List.getElem?_append_right (by simp [pk_len]; omega)] at h
      simpa [pk_len] using h
theorem pk_lt {m k s i : Nat} {p : List Nat} (h : (pk m k s)[i]? = some p) : i < cho m k := by
  rw [← pk_len m k s]
  rcases Nat.lt_or_ge i (pk m k s).length with h1 | h1
  · exact h1
  · rw [List.getElem?_eq_none h1] at h; cases h
/-- the pick p of k numbers was handed back, in new memory -/
def AtRes (w : World) (k : Nat) (p : List Nat) (e : Ending) (w' : World) : Prop := ∃ a c, e = .returned (.tuple #[.slice a k c, .int .i64 0]) ∧ Ext w w' ∧ Ints w' a k (pkF p)
set_option maxRecDepth 100000 in
set_option maxHeartbeats 800000 in
theorem At_ok (n k i : Nat) (p : List Nat) (w : World) (hn : n ≤ 12) (hk : k ≤ n) (hp : (pk n k 0)[i]? = some p) :
    Calls Try.prog 10 #[.int .i64 n, .int .i64 k, .int .i64 i] w fun e w' => AtRes w k p e w' := by
  obtain ⟨c, hc⟩ : ∃ c, cho n k = c := ⟨_, rfl⟩
  have hic := pk_lt hp
  have hcl := cho_le n (by omega) k (by omega)
  rw [hc] at hic hcl
  have hpl := (pk_mem _ _ _ _ (List.mem_of_getElem? hp)).1
  have HC : Hid (cho n k = c) := hc
  have HP : Hid ((pk n k 0)[i]? = some p) := hp
  have hmk := room_ints k (by omega)
  clear hc hp
  have hd1 : decide (c ≤ i) = false := by simp; omega
  have hd2 : decide ((i : Int) < 0) = false := decide_eq_false (by omega)
  have HM : Hid ((w.alloc (.cells (madeCells #[.int .i64 0] k) 3)).ownsRow w.heap.size 3 1 (.slice (some ⟨w.heap.size, 0, none⟩) 0 k) 0 []) := World.ownsRow_made w _ k (Nat.le_refl _) (by unfold maxLen; omega) (by simp [size_madeCells])
  go_enter Try.func10, Try.ntmps10
  go_wp2_with (first | (go_at_call 7; refine (Count_is n k c HC.out _ hn hk).mono ?_; rintro e w1 ⟨rfl, hw1⟩; have hw2 := hw1.symm; clear hw1; subst hw2))
  go_loopw [2, 10, 11] (fun r v a wr => ∃ (ri ai : Nat) (pre q : List Nat), ri ≤ 924 ∧ ai ≤ n ∧ pre.length + q.length = k ∧ r = .int .i64 ri ∧ a = .int .i64 ai ∧ Ext w wr ∧ wr.ownsRow w.heap.size 3 1 v pre.length (pre.map nV) ∧ Hid (pre ++ q = p) ∧ Hid ((pk (n - ai) q.length ai)[ri]? = some q)) (fun _ _ a _ => n - (intOf a).toNat)
  case atStart => exact ⟨i, 0, [], p, by omega, Nat.zero_le _, by simpa using hpl, rfl, rfl, (Ext.refl w).alloc _ _, HM.out, rfl, by rw [hpl]; exact HP.out⟩
  case round =>
    clear HM
    obtain ⟨ri, ai, pre, q, hri, hai, hlen, rfl, rfl, hex, hown, HQ, HK⟩ := hrel
    obtain ⟨va, vc, rfl, _⟩ := own_slice hown
    have HO : Hid (wr.ownsRow w.heap.size 3 1 (.slice va pre.length vc) pre.length (pre.map nV)) := hown
    clear hown
    cases q with
    | nil =>
      have hpk : pre.length = k := by simpa using hlen
      have e : pre = p := by simpa using HQ.out
      subst e
      subst hpk
      have HI : Hid (Ints wr va pre.length (pkF pre)) := own_ints rfl HO.out
      clear HO HQ HK hlen
      go_wp2_with fail
      go_ret2
      exact ⟨_, _, rfl, hex, HI.out⟩
    | cons b q =>
      obtain ⟨m, hm, hA, hB⟩ := pk_step _ _ _ _ _ HK.out
      have hlen' : pre.length + (q.length + 1) = k := hlen
      obtain ⟨C, hC⟩ : ∃ C, cho m q.length = C := ⟨_, rfl⟩
      rw [hC] at hA hB
      have e1 : (k : Int) - (pre.length : Int) = ((k - pre.length : Nat) : Int) := by omega
      have HC' : Hid (cho (n - ai - 1) (k - pre.length - 1) = C) := by
        show cho (n - ai - 1) (k - pre.length - 1) = C
        rw [← hC, show n - ai - 1 = m by omega, show k - pre.length - 1 = q.length by omega]
      have HA : Hid (ri < C → ∃ q', b :: q = ai :: q' ∧ (pk m q.length (ai + 1))[ri]? = some q') := hA
      have HB : Hid (¬ ri < C → (pk m (q.length + 1) (ai + 1))[ri - C]? = some (b :: q)) := hB
      have hsz := hex.size
      have hpre : pre.length ≤ 12 := by omega
      have hlt : pre.length < k := by omega
      have hain : ai < n := by omega
      have HM : Hid (n - ai = m + 1) := hm
      clear hA hB hC hlen HK hm
      by_cases hr : ri < C
      · obtain ⟨q', hq', hk'⟩ := HA.out hr
        cases hq'
        go_wp2_with (first | (go_at_call 18; refine (with_any n (k - pre.length) ai _ (by omega) (by omega) (by omega)).mono ?_; rw [HC'.out]; rintro e w1 ⟨rfl, hw1⟩; have hw2 := hw1.symm; clear hw1; subst hw2) | (at_builtin; refine append_one wr rfl _ _ 29 rfl w.heap.size 3 (.int .i64 0) 8 Try.underlying29 infoI rfl (.slice va pre.length vc) pre.length (pre.map nV) rfl HO.out (.int .i64 ai) 1 rfl rfl (by omega) (by omega) hsz ?_) | go_in)
        intro v' w10 hown' hgrow
        have hx10 : Ext w w10 := (hex.alloc _ _).grow hgrow fun b hb => (own_ge HO.out hb).1
        have R1 : Hid (w10.ownsRow w.heap.size 3 1 v' (pre ++ [ai]).length ((pre ++ [ai]).map nV)) := by
          have h := hown'
          show w10.ownsRow w.heap.size 3 1 v' (pre ++ [ai]).length ((pre ++ [ai]).map nV)
          simpa [nV] using h
        have HK' : Hid ((pk m q.length (ai + 1))[ri]? = some q) := hk'
        clear hown' hgrow HO hk'
        go_wp2_with fail
        go_roundw
        case rel => exact ⟨ri, ai + 1, pre ++ [ai], q, hri, by omega, by simp; omega, rfl, by go_num, hx10, R1.out, (by have h := HQ.out; show (pre ++ [ai]) ++ q = p; simpa using h), by rw [show n - (ai + 1) = m by have := HM.out; omega]; exact HK'.out⟩
        case measure => simp [intOf]; omega
      · have hk' := HB.out hr
        have HK' : Hid ((pk m (q.length + 1) (ai + 1))[ri - C]? = some (b :: q)) := hk'
        clear hk'
        go_wp2_with (first | (go_at_call 18; refine (with_any n (k - pre.length) ai _ (by omega) (by omega) (by omega)).mono ?_; rw [HC'.out]; rintro e w1 ⟨rfl, hw1⟩; have hw2 := hw1.symm; clear hw1; subst hw2))
        go_roundw
        case rel => exact ⟨ri - C, ai + 1, pre, b :: q, by omega, by omega, hlen', by go_num, by go_num, hex, HO.out, HQ.out, by rw [show n - (ai + 1) = m by have := HM.out; omega]; exact HK'.out⟩
        case measure => simp [intOf]; omega
end Go.Proofs.Ytfdgacpmdlmjnab
