/-
  quicksetref.CombAll, CombAt: the picks, and the one with a number.
-/
import Derived.Test.YtfdgacpmdlmjnaaChecked
import Derived.WalkKit
import Derived.Test.YtfdgacpmdlmjnaaRefPicks
namespace Go.Proofs.Ytfdgacpmdlmjnaa
open Go.RowKit Go.Deep E
theorem zeroI : ((0 : Nat) : Int) = 0 := rfl
set_option maxRecDepth 100000 in
set_option maxHeartbeats 400000 in
theorem CombAll_ok (n k : Nat) (w : World) (hn : n ≤ 12) (hk : k ≤ n) :
    Calls Try.prog 15 #[.int .i64 n, .int .i64 k] w fun e w' => ∃ v vs, e = .returned (.tuple #[v, .int .i64 0]) ∧ Pks w w' v vs (pk n k 0) := by
  have hd : (!decide (maysP n k)) = false := by rw [decide_eq_true ⟨⟨by omega, by omega⟩, by omega, by omega⟩]; rfl
  go_enter Try.func15, Try.ntmps15
  go_wp2_with (first | (go_at_call 41; refine (pickRange_any _ _ _).mono ?_; rw [hd]; rintro e w1 ⟨rfl, hw1⟩; have hw2 := hw1.symm; clear hw1; subst hw2) | (go_at_call 44; refine (picks_any n hn n k 0 _ (by omega) (by omega)).mono ?_; rintro e w1 ⟨v1, vs1, rfl, hp1⟩; obtain ⟨a1, c1, rfl, _⟩ := own_slice hp1.top; have HP1 : Hid (Pks w w1 (.slice a1 (pk n k 0).length c1) vs1 (pk n k 0)) := hp1; clear hp1))
  go_ret2
  exact ⟨_, _, rfl, HP1.out⟩
set_option maxRecDepth 100000 in
set_option maxHeartbeats 400000 in
theorem CombAll_no (n k : Int) (w : World) (h : ¬ maysP n k) :
    Calls Try.prog 15 #[.int .i64 n, .int .i64 k] w fun e w' => e = .returned (.tuple #[.slice none 0 0, .int .i64 2]) ∧ w' = w := by
  have hd : (!decide (maysP n k)) = true := by rw [decide_eq_false h]; rfl
  clear h
  go_enter Try.func15, Try.ntmps15
  go_wp2_with (first | (go_at_call 41; refine (pickRange_any _ _ _).mono ?_; rw [hd]; rintro e w1 ⟨rfl, hw1⟩; have hw2 := hw1.symm; clear hw1; subst hw2))
  go_ret2
  exact ⟨rfl, rfl⟩
set_option maxRecDepth 100000 in
set_option maxHeartbeats 400000 in
theorem RCombAt_none (n k i : Int) (w : World) (h : ¬ maysP n k) :
    Calls Try.prog 20 #[.int .i64 n, .int .i64 k, .int .i64 i] w fun e w' => e = .returned (.tuple #[.slice none 0 0, .int .i64 2]) ∧ w' = w := by
  have hd : (!decide (maysP n k)) = true := by rw [decide_eq_false h]; rfl
  clear h
  go_enter Try.func20, Try.ntmps20
  go_wp2_with (first | (go_at_call 41; refine (pickRange_any _ _ _).mono ?_; rw [hd]; rintro e w1 ⟨rfl, hw1⟩; have hw2 := hw1.symm; clear hw1; subst hw2))
  go_ret2
  exact ⟨rfl, rfl⟩
set_option maxRecDepth 100000 in
set_option maxHeartbeats 400000 in
theorem RCombAt_no (n k : Nat) (i : Int) (w : World) (hn : n ≤ 12) (hk : k ≤ n) (hi : i < 0 ∨ (cho n k : Int) ≤ i) :
    Calls Try.prog 20 #[.int .i64 n, .int .i64 k, .int .i64 i] w fun e w' => e = .returned (.tuple #[.slice none 0 0, .int .i64 2]) ∧ Ext w w' := by
  have hd : (!decide (maysP n k)) = false := by rw [decide_eq_true ⟨⟨by omega, by omega⟩, by omega, by omega⟩]; rfl
  obtain ⟨L, hL⟩ : ∃ L, pk n k 0 = L := ⟨_, rfl⟩
  have hLl : L.length = cho n k := by rw [← hL, pk_len]
  rw [← hLl] at hi
  have HL : Hid (pk n k 0 = L) := hL
  clear hL hLl
  rcases hi with hi | hi
  · go_enter Try.func20, Try.ntmps20
    go_wp2_with (first | (go_at_call 41; refine (pickRange_any _ _ _).mono ?_; rw [hd]; rintro e w1 ⟨rfl, hw1⟩; have hw2 := hw1.symm; clear hw1; subst hw2) | (go_at_call 44; refine (picks_any n hn n k 0 _ (by omega) (by omega)).mono ?_; rw [HL.out]; rintro e w1 ⟨v1, vs1, rfl, hp1⟩; obtain ⟨a1, c1, rfl, _⟩ := own_slice hp1.top; have HP1 : Hid (Pks w w1 (.slice a1 L.length c1) vs1 L) := hp1; clear hp1))
    go_ret2
    exact ⟨rfl, HP1.out.ext⟩
  · go_enter Try.func20, Try.ntmps20
    go_wp2_with (first | (go_at_call 41; refine (pickRange_any _ _ _).mono ?_; rw [hd]; rintro e w1 ⟨rfl, hw1⟩; have hw2 := hw1.symm; clear hw1; subst hw2) | (go_at_call 44; refine (picks_any n hn n k 0 _ (by omega) (by omega)).mono ?_; rw [HL.out]; rintro e w1 ⟨v1, vs1, rfl, hp1⟩; obtain ⟨a1, c1, rfl, _⟩ := own_slice hp1.top; have HP1 : Hid (Pks w w1 (.slice a1 L.length c1) vs1 L) := hp1; clear hp1))
    go_ret2
    exact ⟨rfl, HP1.out.ext⟩
/-- the numbers of a pick, as a function of the place -/
def pkF (p : List Nat) (i : Nat) : Int := ((p[i]?.getD 0 : Nat) : Int)
theorem own_ints {w : World} {base : Nat} {e : TypeId} {a : Option Addr} {c n : Nat} {p : List Nat} (hn : p.length = n) (h : w.ownsRow base e 1 (.slice a n c) n (p.map nV)) : Ints w a n (pkF p) := by
  subst hn
  intro i hi
  obtain ⟨b, o, h1, h2⟩ := own_slice_at h i hi
  refine ⟨b, o, h1, ?_⟩
  rw [h2]
  simp [hi, nV, pkF]
set_option maxRecDepth 100000 in
set_option maxHeartbeats 400000 in
theorem RCombAt_ok (n k i : Nat) (p : List Nat) (w : World) (hn : n ≤ 12) (hk : k ≤ n) (hp : (pk n k 0)[i]? = some p) :
    Calls Try.prog 20 #[.int .i64 n, .int .i64 k, .int .i64 i] w fun e w' => ∃ a c, e = .returned (.tuple #[.slice a k c, .int .i64 0]) ∧ Ext w w' ∧ Ints w' a k (pkF p) := by
  have hd : (!decide (maysP n k)) = false := by rw [decide_eq_true ⟨⟨by omega, by omega⟩, by omega, by omega⟩]; rfl
  have hpl := (pk_mem _ _ _ _ (List.mem_of_getElem? hp)).1
  obtain ⟨L, hL⟩ : ∃ L, pk n k 0 = L := ⟨_, rfl⟩
  have hLl : L.length ≤ 924 := by rw [← hL, pk_len]; exact cho_le n (by omega) k (by omega)
  rw [hL] at hp
  have hi : i < L.length := by
    rcases Nat.lt_or_ge i L.length with h1 | h1
    · exact h1
    · rw [List.getElem?_eq_none h1] at hp; cases hp
  have HL : Hid (pk n k 0 = L) := hL
  have HP : Hid (L[i]? = some p) := hp
  clear hL hp
  go_enter Try.func20, Try.ntmps20
  go_wp2_with (first | (go_at_call 41; refine (pickRange_any _ _ _).mono ?_; rw [hd]; rintro e w1 ⟨rfl, hw1⟩; have hw2 := hw1.symm; clear hw1; subst hw2) | (go_at_call 44; refine (picks_any n hn n k 0 _ (by omega) (by omega)).mono ?_; rw [HL.out]; rintro e w1 ⟨v1, vs1, rfl, hp1⟩; obtain ⟨u, p', hu, hp', hpo⟩ := hp1.row.at hi; rw [HP.out] at hp'; cases hp'; rw [hpl] at hpo; obtain ⟨g, c, hgc, hcell⟩ := ones_cell hp1.top hu hi; subst hgc; obtain ⟨b, cb, hub, _⟩ := own_slice hpo; subst hub; have HI : Hid (Ints w1 b k (pkF p)) := own_ints hpl hpo; have HX : Hid (Ext w w1) := hp1.ext; clear hp1 hpo hu))
  go_ret2
  exact ⟨_, _, rfl, HX.out, HI.out⟩
end Go.Proofs.Ytfdgacpmdlmjnaa
