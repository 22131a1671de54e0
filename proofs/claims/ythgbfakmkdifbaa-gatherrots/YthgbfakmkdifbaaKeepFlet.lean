/-
  quicksetkeep.Words, quicksetkeep.sure, quicksetkeep.sameBytes of bytes that differ, and flet.Of of words; the world only grows.
-/
import Derived.Test.YthgbfakmkdifbaaFlets
import Derived.Test.YthgbfakmkdifbaaMk
import Derived.Test.YthgbfakmkdifbaaByb
import Derived.Test.YthgbfakmkdifbaaKeeps
namespace Go.Proofs.Ythgbfakmkdifbaa
open Go.RowKit Go.Deep E
theorem Of_words (a : Option Addr) (k c : Nat) (B : Nat → E) (w : World) (hn : 4 * k ≤ c) (hc : c ≤ 9223372036854775807) (h : Byts w a (4 * k) B) :
    Calls Try.prog 19 #[.slice a (4 * k) c] w fun e w' =>
      e = .returned (.tuple #[.agg #[.int .i64 (mw (fun _ => 0) (wrdOf B) k 0), .int .i64 (mw (fun _ => 0) (wrdOf B) k 1), .int .i64 (mw (fun _ => 0) (wrdOf B) k 2), .int .i64 (mw (fun _ => 0) (wrdOf B) k 3)], .int .i64 0]) ∧ Ext w w' := by
  refine (Of_any a (4 * k) c B w hn hc h).mono fun e w' hh => ⟨?_, hh.2⟩
  rw [hh.1]
  unfold moreV moreE
  simp only [show 4 * k % 4 = 0 by omega, if_true, show 4 * k / 4 = k by omega, mo_mw]
theorem More_words (s : Nat → Int) (a : Option Addr) (k c : Nat) (B : Nat → E) (w : World) (hn : 4 * k ≤ c) (hc : c ≤ 9223372036854775807) (h : Byts w a (4 * k) B) :
    Calls Try.prog 36 #[.agg #[.int .i64 (s 0), .int .i64 (s 1), .int .i64 (s 2), .int .i64 (s 3)], .slice a (4 * k) c] w fun e w' =>
      e = .returned (.tuple #[.agg #[.int .i64 (mw s (wrdOf B) k 0), .int .i64 (mw s (wrdOf B) k 1), .int .i64 (mw s (wrdOf B) k 2), .int .i64 (mw s (wrdOf B) k 3)], .int .i64 0]) ∧ Ext w w' := by
  refine (More_any s a (4 * k) c B w hn hc h).mono fun e w' hh => ⟨?_, hh.2⟩
  rw [hh.1]
  unfold moreV moreE
  simp only [show 4 * k % 4 = 0 by omega, if_true, show 4 * k / 4 = k by omega, mo_mw]
/-- a slice of bytes that a call made by append: its bytes, and its room -/
theorem own_room {w : World} {base : Nat} {t : TypeId} {v : Value} {n : Nat} {r : Nat → E} (h : w.ownsRow base t 1 v n ((List.range n).map (bvs r))) : ∃ a c, v = .slice a n c ∧ Byts w a n r ∧ n ≤ c ∧ c ≤ 9223372036854775807 := by
  obtain ⟨a, c, rfl, hb⟩ := own_byts h
  refine ⟨a, c, rfl, hb, ?_⟩
  obtain ⟨_, h2⟩ := h
  rcases h2 with ⟨e, rfl⟩ | ⟨g, cap, cur, e, _, _, h5, h6, _⟩
  · cases e; omega
  · cases e
    have h7 : c ≤ 9223372036854775807 := h6
    exact ⟨h5, h7⟩
/-- one list behind the other -/
def catB (j : Nat) (f g : Nat → E) (i : Nat) : E := if i < j then f i else g (i - j)
theorem cat_map (j k : Nat) (f g : Nat → E) : (List.range j).map (bvs f) ++ (List.range k).map (bvs g) = (List.range (j + k)).map (bvs (catB j f g)) := by
  rw [List.range_add, List.map_append, List.map_map]
  congr 1
  · refine List.map_congr_left fun i hi => ?_
    have := List.mem_range.1 hi
    unfold bvs catB
    rw [if_pos this]
  · refine List.map_congr_left fun i hi => ?_
    show bvs g i = bvs (catB j f g) (j + i)
    unfold bvs catB
    rw [if_neg (by omega), show j + i - j = i by omega]
theorem wrd_catL {j k : Nat} {f g : Nat → E} (h : k < j) : wrdOf (catB (4 * j) f g) k = wrdOf f k := by
  unfold wrdOf catB
  rw [if_pos (by omega), if_pos (by omega), if_pos (by omega), if_pos (by omega)]
theorem wrd_catR (j k : Nat) (f g : Nat → E) : wrdOf (catB (4 * j) f g) (j + k) = wrdOf g k := by
  unfold wrdOf catB
  rw [if_neg (by omega), if_neg (by omega), if_neg (by omega), if_neg (by omega), show 4 * (j + k) - 4 * j = 4 * k by omega, show 4 * (j + k) + 1 - 4 * j = 4 * k + 1 by omega, show 4 * (j + k) + 2 - 4 * j = 4 * k + 2 by omega, show 4 * (j + k) + 3 - 4 * j = 4 * k + 3 by omega]
/-- in parts the sum is the same -/
theorem mw_catB (j k : Nat) (f g : Nat → E) : mw (fun _ => 0) (wrdOf (catB (4 * j) f g)) (j + k) = mw (mw (fun _ => 0) (wrdOf f) j) (wrdOf g) k := by
  rw [mw_cat, mw_congr (W' := wrdOf f) j fun i hi => wrd_catL hi, mw_congr (W' := wrdOf g) k fun i _ => wrd_catR j i f g]
theorem cat_sw (p : Nat) (f : Nat → E) (i : Nat) : catB (4 * p + 4 + 4) (catB (4 * p + 4) (catB (4 * p) f fun i => f (4 * p + 4 + i)) fun i => f (4 * p + i)) (fun i => f (4 * p + 8 + i)) i = swB p f i := by
  unfold catB swB
  by_cases h1 : i < 4 * p
  · rw [if_pos (by omega), if_pos (by omega), if_pos h1, if_pos h1]
  · by_cases h2 : i < 4 * p + 4
    · rw [if_pos (by omega), if_pos h2, if_neg h1, if_neg h1, if_pos h2]
      exact congrArg f (by omega)
    · by_cases h3 : i < 4 * p + 8
      · rw [if_pos (by omega), if_neg h2, if_neg h1, if_neg h2, if_pos h3]
        exact congrArg f (by omega)
      · rw [if_neg (by omega), if_neg h1, if_neg h2, if_neg h3]
        exact congrArg f (by omega)
theorem wrd_no (i : Nat) : wrdOf (fun _ => ze) i = 0 := by
  unfold wrdOf wd
  rw [show ev ze = 0 from rfl]
  rfl
theorem mw0_in (W : Nat → Int) (k i : Nat) : -9223372036854775808 ≤ mw (fun _ => 0) W k i ∧ mw (fun _ => 0) W k i ≤ 9223372036854775807 := mw_in (fun _ => by omega) k i
/-- how many words of n bytes are taken -/
def wk (n : Nat) : Nat := (if n ≤ 400 then n else 400) / 4
theorem wk_le (n : Nat) : 4 * wk n ≤ n ∧ wk n ≤ 100 := by unfold wk; split <;> omega
/-- the bytes of the number 1 -/
def oneB (i : Nat) : E := of (if i = 0 then 1 else 0)
theorem oneB_sum (i : Nat) (hi : i < 4) : mw (fun _ => 0) (wrdOf oneB) 1 i = 1 := by
  match i, hi with
  | 0, _ => decide +kernel
  | 1, _ => decide +kernel
  | 2, _ => decide +kernel
  | 3, _ => decide +kernel
set_option maxRecDepth 100000 in
set_option maxHeartbeats 400000 in
theorem sameBytesK_no (a a' : Option Addr) (n c c' : Nat) (f g : Nat → E) (w : World) (hn : n ≤ 9223372036854775807) (h : Byts w a n f) (h' : Byts w a' n g) (he : ¬ ∀ i, i < n → f i = g i) :
    Calls Try.prog 18 #[.slice a n c, .slice a' n c'] w fun e w' => e = .returned (.bool false) ∧ Ext w w' := by
  have HH : Hid (Byts w a n f) := h
  have HI : Hid (Byts w a' n g) := h'
  have HE : Hid (¬ ∀ i, i < n → f i = g i) := he
  clear h h' he
  have hB : ((n : Int) != (n : Int)) = false := by simp
  go_enter Try.func18, Try.ntmps18
  go_wp2_with fail
  go_loopw [5] (fun i wr => ∃ k : Nat, k ≤ n ∧ i = .int .i64 k ∧ Ext w wr ∧ Hid (∀ i, i < k → f i = g i)) (fun i _ => n - (intOf i).toNat)
  case atStart => exact ⟨0, Nat.zero_le _, rfl, Ext.refl _, fun i hi => by omega⟩
  case round =>
    obtain ⟨k, hk, rfl, hx, HK⟩ := hrel
    by_cases hlt : k < n
    · obtain ⟨b, o, rfl, hck⟩ := (HH.out.ext hx) k hlt
      obtain ⟨b', o', rfl, hck'⟩ := (HI.out.ext hx) k hlt
      by_cases e : f k = g k
      · have HK2 : Hid (∀ i, i < k + 1 → f i = g i) := fun i hi => by
          by_cases q : i = k
          · rw [q]; exact e
          · exact HK.out i (by omega)
        rw [← e] at hck'
        have hC : (ev (f k) != ev (f k)) = false := by simp
        clear e
        go_wp2_with fail
        go_region
        go_wp2_with fail
        go_roundw
        case rel => exact ⟨k + 1, by omega, by go_num, hx.drew, HK2⟩
        case measure => simp [intOf]; omega
      · have hC : (ev (f k) != ev (g k)) = true := by
          rw [bne_iff_ne]
          intro q
          exact e (by rw [← of_ev (f k), q, of_ev])
        clear e
        go_wp2_with fail
        go_region
        go_wp2_with fail
        go_ret
        exact ⟨rfl, hx.drew⟩
    · exfalso
      exact HE.out fun i hi => HK.out i (by omega)
end Go.Proofs.Ythgbfakmkdifbaa
