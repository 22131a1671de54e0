/-
  A pick is found by its number: for every number and every list of ints comb.Number, Count and At, at the numbers made of them, answer so; no condition.
-/
import Derived.Test.YtfdgacpmdlmjnabRows
import Derived.WalkKit
import Derived.ProofKit
import Derived.OpenShut
import Derived.ChangeOld
import Derived.Below
import Derived.BigQuiet
import Derived.Deep.CutRange
import Derived.Deep.QuietTactic
import Derived.Deep.RegionLaw
import Derived.Test.YtfdgacpmdlmjnabOpn
import Derived.Test.YtfdgacpmdlmjnabChecked
import Derived.Test.YtfdgacpmdlmjnabCombKeep
import Derived.Test.YtfdgacpmdlmjnabKeepSev
import Derived.Test.YtfdgacpmdlmjnabSameKeep
import Derived.Test.YtfdgacpmdlmjnabKeepPick
namespace Go.Proofs.Ytfdgacpmdlmjnab.combBack
open Go.ChangeShapes Go.WideShapes Go.ChangeAt Go.RowKit
set_option linter.unusedVariables false
theorem one_pick (a0 : Int) : ∃ M : Nat, 1 + a0 % 12 = M ∧ 1 ≤ M ∧ M ≤ 12 := ⟨(1 + a0 % 12).toNat, by omega, by omega, by omega⟩
theorem ret_boolK {a b : Bool} (h : a = b) : Ending.returned (.bool a) = .returned (.bool b) := by rw [h]
theorem inV_nV : inV = nV := rfl
set_option maxRecDepth 100000 in
set_option maxHeartbeats 4000000 in
theorem walk (a0 : Int) (a1 : Option Addr) (n1 c1 : Nat) (f1 : Nat → Int) (w : World) (w0 : -9223372036854775808 ≤ a0 ∧ a0 ≤ 9223372036854775807) (h1 : Ints w a1 n1 f1) (b1 : n1 ≤ 9223372036854775807 ∧ ∀ i, i < n1 → -9223372036854775808 ≤ f1 i ∧ f1 i ≤ 9223372036854775807) :
    Calls Try.prog 4 #[.int .i64 a0, .slice a1 n1 c1] w fun e w' => e = .returned (.bool true) ∧ Ext w w' := by
  have HH : Hid (Ints w a1 n1 f1) := h1
  have HB : Hid (∀ i, i < n1 → -9223372036854775808 ≤ f1 i ∧ f1 i ≤ 9223372036854775807) := b1.2
  have hn1 : n1 ≤ 9223372036854775807 := b1.1
  clear h1 b1
  obtain ⟨M, hM, hM1, hM2⟩ := one_pick a0
  have HM : Hid (1 + a0 % 12 = M) := hM
  clear hM
  go_enter Try.func4, Try.ntmps4
  go_wp2_with fail
  refine (Picked_any a0 12 _ (by omega) (by omega) (by omega) (by omega)).mono ?_
  rintro e w1 ⟨rfl, rfl⟩
  have hm0 : 0 ≤ a0 % 12 ∧ a0 % 12 < 12 := by omega
  obtain ⟨z, hz⟩ : ∃ z, a0 % 12 = z := ⟨_, rfl⟩
  rw [hz]
  have hzM : 1 + z = (M : Int) := by rw [← hz]; exact HM.out
  have hz0 : z = (M : Int) - 1 := by omega
  subst hz0
  have e1 : (1 : Int) + ((M : Int) - 1) = (M : Int) := by omega
  clear hz hzM hm0
  go_wp2_with fail
  refine (Several_any a1 n1 c1 f1 M M _ hn1 (by omega) (by omega) HH.out HB.out).mono ?_
  rintro e w2 ⟨has, v, rfl, hown, hmost, _, hx2⟩
  obtain ⟨p, hp⟩ : ∃ p, PL M has = p := ⟨_, rfl⟩
  have hpk := PL_pick M has
  rw [hp] at hown hmost hpk
  obtain ⟨T, hT⟩ : ∃ T, nm M 0 p = T := ⟨_, rfl⟩
  rw [hT] at hpk
  have hTc := pk_lt hpk
  obtain ⟨C, hC⟩ : ∃ C, cho M p.length = C := ⟨_, rfl⟩
  rw [hC] at hTc
  have hCl : C ≤ 924 := by rw [← hC]; exact cho_le M (by omega) _ (by omega)
  obtain ⟨a, c, rfl, hcs⟩ := own_slice hown
  rw [inV_nV] at hown
  have HI : Hid (Ints w2 a p.length (pkF p)) := own_ints rfl hown
  have HP : Hid ((pk M p.length 0)[T]? = some p) := hpk
  have HC : Hid (cho M p.length = C) := hC
  clear hp hpk hT hC hown hcs
  go_wp2_with (first | (at_builtin; refine append_vals w2 rfl (.const (.slice none 0 0)) (.tmp 24) 29 rfl w2.heap.size 3 (.int .i64 0) 8 Try.underlying29 infoI rfl (.slice none 0 0) 0 [] rfl (World.ownsRow_nil _ _ _ _) a p.length c (fun i => .int .i64 (pkF p i)) rfl HI.out (fun _ _ => rfl) (by omega) (by omega) (Nat.le_refl _) ?_) | go_in)
  intro v' w3 hown' hgrow
  have hx3 : Ext w2 w3 := (Ext.refl w2).grow hgrow fun _ hk => by cases hk
  obtain ⟨a9, c9, rfl, h9⟩ := own_slice hown'
  have HJ : Hid (Ints w3 a9 p.length (pkF p)) := fun i hi => by
    obtain ⟨b, o, q1, q2⟩ := h9 i (by simpa using hi)
    exact ⟨b, o, q1, by rw [q2]; simp [hi]⟩
  clear hown' hgrow h9
  go_wp2_with fail
  refine (Number_ok M p p.length T a9 _ _ hM2 HP.out HJ.out).mono ?_
  rintro e w4 ⟨rfl, rfl⟩
  go_wp2_with fail
  refine (Count_is M p.length C HC.out _ hM2 hmost).mono ?_
  rintro e w5 ⟨rfl, rfl⟩
  go_wp2_with fail
  refine (At_ok M p.length T p _ hM2 hmost HP.out).mono ?_
  rintro e w6 ⟨a6, c6, rfl, hx6, hI6⟩
  have HI6 : Hid (Ints w6 a6 p.length (pkF p)) := hI6
  clear hI6
  go_wp2_with fail
  refine (At_no M p.length C _ hM2 hmost (Or.inr (by rw [HC.out]; omega))).mono ?_
  rintro e w7 ⟨rfl, rfl⟩
  go_wp2_with fail
  refine (ksameInts_any a a6 p.length c c6 (pkF p) (pkF p) _ (by omega) (HI.out.ext (hx3.trans hx6)) HI6.out (fun _ _ => rfl)).mono ?_
  rintro e w8 ⟨rfl, hx8⟩
  go_wp2_with fail
  go_ret
  exact ⟨ret_boolK (by simp), ((hx2.trans hx3).trans hx6).trans hx8⟩
end Go.Proofs.Ytfdgacpmdlmjnab.combBack
