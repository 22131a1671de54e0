/-
  All picks stand once, in order, each with its number: for every two numbers of type int comb.All, Count, Number and At, at the numbers made of them, answer so; no condition.
-/
import Derived.Test.YtfdgacpmdlmjnabRows
import Derived.WalkKit
import Derived.ProofKit
import Derived.OpenShut
import Derived.ChangeOld
import Derived.Below
import Derived.BigQuiet
import Derived.Deep.CutRange
import Derived.Deep.QuietTactic
import Derived.Deep.RegionLaw
import Derived.Test.YtfdgacpmdlmjnabOpn
import Derived.Test.YtfdgacpmdlmjnabChecked
import Derived.Test.YtfdgacpmdlmjnabCombKeep2
import Derived.Test.YtfdgacpmdlmjnabCombAllX
import Derived.Test.YtfdgacpmdlmjnabPksMat
import Derived.Test.YtfdgacpmdlmjnabSameKeep
import Derived.Test.YtfdgacpmdlmjnabKeepPick
namespace Go.Proofs.Ytfdgacpmdlmjnab.combAll
open Go.ChangeShapes Go.WideShapes Go.ChangeAt Go.RowKit
set_option linter.unusedVariables false
theorem all_parts (a0 a1 : Int) : ∃ M J : Nat, (a0 % 9 = M ∧ M ≤ 8) ∧ a1 % ((M : Int) + 1) = J ∧ J ≤ M := by
  obtain ⟨M, hM⟩ : ∃ M : Nat, a0 % 9 = M := ⟨(a0 % 9).toNat, by omega⟩
  have h1 := Int.emod_nonneg a1 (b := (M : Int) + 1) (by omega)
  have h2 := Int.emod_lt_of_pos a1 (b := (M : Int) + 1) (by omega)
  exact ⟨M, (a1 % ((M : Int) + 1)).toNat, ⟨hM, by omega⟩, by omega, by omega⟩
theorem ret_boolL {a b : Bool} (h : a = b) : Ending.returned (.bool a) = .returned (.bool b) := by rw [h]
/-- the row r of the list lies there -/
theorem pks_rowAt {w w' : World} {a : Option Addr} {c J : Nat} {vs : List Value} {L : List (List Nat)} (h : Pks w w' (.slice a L.length c) vs L) {r : Nat} {p : List Nat} (hp : L[r]? = some p) (hl : p.length = J) : ∃ g b cb, a = some ⟨g, 0, none⟩ ∧ w'.cell? ⟨g, r, none⟩ = some (.slice b J cb) ∧ Ints w' b J (pkF p) := by
  have hr : r < L.length := by
    rcases Nat.lt_or_ge r L.length with h1 | h1
    · exact h1
    · rw [List.getElem?_eq_none h1] at hp; cases hp
  obtain ⟨u, p', h1, h2, h3⟩ := h.row.at hr
  rw [hp] at h2
  cases h2
  obtain ⟨g, cg, hg, hc⟩ := ones_cell h.top h1 hr
  cases hg
  rw [hl] at h3
  obtain ⟨b, cb, rfl, _⟩ := own_slice h3
  exact ⟨g, b, cb, rfl, hc, own_ints hl h3⟩
set_option maxRecDepth 100000 in
set_option maxHeartbeats 4000000 in
theorem walk (a0 : Int) (a1 : Int) (w : World) (w0 : -9223372036854775808 ≤ a0 ∧ a0 ≤ 9223372036854775807) (w1 : -9223372036854775808 ≤ a1 ∧ a1 ≤ 9223372036854775807) :
    Calls Try.prog 3 #[.int .i64 a0, .int .i64 a1] w fun e w' => e = .returned (.bool true) ∧ Ext w w' := by
  obtain ⟨M, J, ⟨hM, hM1⟩, hJ, hJM⟩ := all_parts a0 a1
  obtain ⟨L, hL⟩ : ∃ L, pk M J 0 = L := ⟨_, rfl⟩
  have hLC : L.length = cho M J := by rw [← hL, pk_len]
  have hLl : L.length ≤ 924 := by rw [hLC]; exact cho_le M (by omega) J (by omega)
  have hL1 : 1 ≤ L.length := by rw [hLC]; exact cho_pos M J hJM
  have HM : Hid (a0 % 9 = M) := hM
  have HJ : Hid (a1 % ((M : Int) + 1) = J) := hJ
  have HL : Hid (pk M J 0 = L) := hL
  have HLC : Hid (cho M J = L.length) := hLC.symm
  clear hM hJ hL hLC
  go_enter Try.func3, Try.ntmps3
  go_wp2_with fail
  refine (Picked_any a0 9 _ (by omega) (by omega) (by omega) (by omega)).mono ?_
  rintro e w1 ⟨rfl, rfl⟩
  rw [HM.out]
  go_wp2_with fail
  refine (Picked_any a1 ((M : Int) + 1) _ (by omega) (by omega) (by omega) (by omega)).mono ?_
  rintro e w2 ⟨rfl, rfl⟩
  rw [HJ.out]
  go_wp2_with fail
  refine (All_ok M J _ (by omega) hJM).mono ?_
  rw [HL.out]
  rintro e w3 ⟨x, vx, rfl, hX⟩
  obtain ⟨ax, cx, rfl, _⟩ := own_slice hX.top
  have HX : Hid (Pks w2 w3 (.slice ax L.length cx) vx L) := hX
  clear hX
  go_wp2_with fail
  refine (Count_is M J L.length HLC.out _ (by omega) hJM).mono ?_
  rintro e w4 ⟨rfl, hw4⟩
  subst hw4
  have k1 : ((L.length : Int) != (L.length : Int)) = false := by simp
  have k2 : ¬ (L.length : Int) < 1 := by omega
  go_wp2_with fail
  clear k1 k2
  go_loopw [11] (fun i wr => ∃ x : Nat, x ≤ L.length ∧ i = .int .i64 x ∧ Ext w4 wr) (fun i _ => L.length - (intOf i).toNat)
  case atStart => exact ⟨0, Nat.zero_le _, rfl, Ext.refl _⟩
  case round =>
    obtain ⟨i, hi, rfl, hex⟩ := hrel
    by_cases hlt : i < L.length
    · obtain ⟨p, hp⟩ : ∃ p, L[i]? = some p := ⟨_, List.getElem?_eq_getElem hlt⟩
      have hpm := pk_mem M J 0 p (by rw [HL.out]; exact List.mem_of_getElem? hp)
      rw [Nat.zero_add] at hpm
      obtain ⟨hpl, hasc⟩ := hpm
      obtain ⟨g, b, cb, rfl, hcell, hints⟩ := pks_rowAt HX.out hp hpl
      have HCE : Hid (w4.cell? ⟨g, i, none⟩ = some (.slice b J cb)) := hcell
      have HIN : Hid (Ints w4 b J (pkF p)) := hints
      have HP : Hid (L[i]? = some p) := hp
      have HAS : Hid (asc 0 M p) := hasc
      have hce := hex.keeps HCE.out
      have kJ : ((J : Int) != (J : Int)) = false := by simp
      clear hcell hints hp hasc
      generalize hw0 : wr = wk at *
      clear hw0
      go_wp2_with fail
      clear kJ hce
      go_loopw [12] (fun a wr => ∃ y : Nat, y ≤ J ∧ a = .int .i64 y ∧ Ext w4 wr) (fun a _ => J - (intOf a).toNat)
      case atStart => exact ⟨0, Nat.zero_le _, rfl, hex⟩
      case round =>
        obtain ⟨y, hy, rfl, hexi⟩ := hrel
        have hce := hexi.keeps HCE.out
        by_cases hyJ : y < J
        · obtain ⟨v, hv, hvM, hprev⟩ := asc_at HAS.out (x := y) (by omega)
          obtain ⟨br, o, rfl, hcy⟩ := (HIN.out.ext hexi) y hyJ
          rw [hv] at hcy
          have d1 : decide ((v : Int) < 0) = false := decide_eq_false (by omega)
          have d2 : decide (M ≤ v) = false := decide_eq_false (by omega)
          have d3 : decide ((M : Int) ≤ (v : Int)) = false := decide_eq_false (by omega)
          by_cases hy0 : y = 0
          · subst hy0
            rw [Nat.add_zero] at hcy
            clear hprev
            go_wp2_with fail
            go_quiet (fail)
            go_wp2_with fail
            go_roundw
            case rel => exact ⟨1, by omega, rfl, hexi.trans (ext_drewK _ _)⟩
            case measure => simp [intOf]; omega
          · obtain ⟨u, hu, huv⟩ := hprev (y - 1) (by omega)
            have hi1 : ((y : Int) - 1).toNat = y - 1 := by omega
            have hcz := (HIN.out.ext hexi) (y - 1) (by omega)
            obtain ⟨br', o', hbr, hcz⟩ := hcz
            cases hbr
            rw [hu] at hcz
            have d4 : decide ((v : Int) ≤ (u : Int)) = false := decide_eq_false (by omega)
            have d5 : decide (v ≤ u) = false := decide_eq_false (by omega)
            have d6 : decide (0 < (y : Int)) = true := decide_eq_true (by omega)
            have d7 : decide (0 < y) = true := decide_eq_true (by omega)
            have i4 : (0 : Int) < (y : Int) := by omega
            have i5 : (y : Int) - 1 < (J : Int) := by omega
            have i6 : (y : Int) < (J : Int) := by omega
            clear hprev
            go_wp2_with fail
            go_quiet (fail)
            go_wp2_with fail
            go_roundw
            case rel => exact ⟨y + 1, by omega, by go_num, hexi.trans (ext_drewK _ _)⟩
            case measure => simp [intOf]; omega
        · obtain rfl : y = J := by omega
          rcases Nat.eq_zero_or_pos i with hi0 | hi0
          case' inl =>
            have dI : decide (0 < (i : Int)) = false := decide_eq_false (by omega)
            have dI2 : decide (0 < i) = false := decide_eq_false (by omega)
            go_wp2_with fail
            go_quiet (fail)
            have hx5 : Ext w4 (wr.drewN nq) := hexi.trans (ext_drewK _ _)
            clear hce dI dI2 hi0
            generalize wr.drewN nq = w5 at *
          case' inr =>
            obtain ⟨q, hq⟩ : ∃ q, L[i - 1]? = some q := ⟨_, List.getElem?_eq_getElem (by omega)⟩
            have hql := (pk_mem M y 0 q (by rw [HL.out]; exact List.mem_of_getElem? hq)).1
            obtain ⟨g', b', cb', hgg, hcell', hints'⟩ := pks_rowAt HX.out hq hql
            cases hgg
            obtain ⟨t, ht, hte, htl⟩ := pk_lex M y 0 (i - 1) q p (by rw [HL.out]; exact hq) (by rw [HL.out, show i - 1 + 1 = i by omega]; exact HP.out)
            have HIQ : Hid (Ints w4 b' y (pkF q)) := hints'
            have HTE : Hid ((∀ x, x < t → pkF q x = pkF p x) ∧ pkF q t < pkF p t) := ⟨hte, htl⟩
            have hce' := hexi.keeps hcell'
            have gA := fun x : Gr wr => x.ext.keeps hce
            have gB := fun x : Gr wr => x.ext.keeps hce'
            have hi1 : ((i : Int) - 1).toNat = i - 1 := by omega
            have dI : decide (0 < (i : Int)) = true := decide_eq_true (by omega)
            have dI2 : decide (0 < i) = true := decide_eq_true (by omega)
            have i1 : (i : Int) - 1 < (L.length : Int) := by omega
            have i2 : (i : Int) < (L.length : Int) := by omega
            have i3 : 0 < (i : Int) := by omega
            clear hcell' hints' hte htl hce hce' hq
            go_wp2_with fail
            refine wp_region_grows 14 (by kernel_rfl) (by kernel_rfl) (fun hne => ?_)
            simp only [List.take_succ_cons, List.take_zero, List.drop_succ_cons, List.drop_zero]
            repeat (go_big_quiet_step (first | (go_at_call 8; exact Calls.grown (pickAhead_any b' b y cb' cb (pkF q) (pkF p) t _ (by omega) (HIQ.out.ext (hexi.trans (Gr.ext _))) (HIN.out.ext (hexi.trans (Gr.ext _))) ht HTE.out.1 HTE.out.2))))
            refine wpQuiet_nil ?_
            intro w5 hw5
            obtain ⟨x5, rfl⟩ := hw5
            have hx5 : Ext w4 x5.w' := hexi.trans x5.ext
            clear gA gB dI dI2 i1 i2 i3 hi1 hi0
            generalize x5.w' = w5 at *
          all_goals
            have hce5 := hx5.keeps HCE.out
            have HI5 : Hid (Ints w5 b y (pkF p)) := HIN.out.ext hx5
            have kI : ((i : Int) != (i : Int)) = false := by simp
            go_wp2_with (first | (at_builtin; refine append_vals w5 rfl (.const (.slice none 0 0)) (.tmp 130) 29 rfl w5.heap.size 3 (.int .i64 0) 8 Try.underlying29 infoI rfl (.slice none 0 0) 0 [] rfl (World.ownsRow_nil _ _ _ _) b y cb (fun i => .int .i64 (pkF p i)) rfl HI5.out (fun _ _ => rfl) (by omega) (by omega) (Nat.le_refl _) ?_) | go_in)
            intro v' w6 hown' hgrow
            have hx6 : Ext w5 w6 := (Ext.refl w5).grow hgrow fun _ hk => by cases hk
            obtain ⟨a9, c9, rfl, h9⟩ := own_slice hown'
            have HJ9 : Hid (Ints w6 a9 y (pkF p)) := fun i hi => by
              obtain ⟨bb, o, q1, q2⟩ := h9 i (by simpa using hi)
              exact ⟨bb, o, q1, by rw [q2]; simp [hi]⟩
            clear hown' hgrow h9
            go_wp2_with fail
            refine (Number_ok M p y i a9 _ _ (by omega) (by rw [HL.out]; exact HP.out) HJ9.out).mono ?_
            rintro e w7 ⟨rfl, hw7⟩
            subst hw7
            go_wp2_with fail
            refine (At_ok M y i p _ (by omega) hJM (by rw [HL.out]; exact HP.out)).mono ?_
            rintro e w8 ⟨a8, c8, rfl, hx8, hI8⟩
            have HI8 : Hid (Ints w8 a8 y (pkF p)) := hI8
            have hce8 := (hx6.trans hx8).keeps hce5
            clear hI8
            go_wp2_with fail
            refine (ksameInts_any a8 b y c8 cb (pkF p) (pkF p) _ (by omega) HI8.out (HI5.out.ext (hx6.trans hx8)) (fun _ _ => rfl)).mono ?_
            rintro e w9 ⟨rfl, hx9⟩
            go_wp2_with fail
            go_roundw
            case rel => exact ⟨i + 1, by omega, by go_num, ((hx5.trans hx6).trans hx8).trans hx9⟩
            case measure => simp [intOf]; omega
    · go_wp2_with fail
      go_ret
      exact ⟨rfl, HX.out.ext.trans hex⟩
end Go.Proofs.Ytfdgacpmdlmjnab.combAll
