/-
  What is added and what is cut make the whole: for every list of ints and every two ints span.Size, Add, Cut and Both, at the set and the range made of them, answer so; no condition.
-/
import Derived.Test.YtfekiccjcfdmkaaRows
import Derived.WalkKit
import Derived.ProofKit
import Derived.OpenShut
import Derived.ChangeOld
import Derived.Below
import Derived.BigQuiet
import Derived.Deep.CutRange
import Derived.Deep.QuietTactic
import Derived.Deep.RegionLaw
import Derived.Test.YtfekiccjcfdmkaaOpn
import Derived.Test.YtfekiccjcfdmkaaChecked
import Derived.Test.YtfekiccjcfdmkaaKeepSpan
import Derived.Test.YtfekiccjcfdmkaaSpanSz
import Derived.Test.YtfekiccjcfdmkaaSpanNum
import Derived.Test.YtfekiccjcfdmkaaSameR
import Derived.Test.YtfekiccjcfdmkaaQuiets
namespace Go.Proofs.Ytfekiccjcfdmkaa.spanCounts
open Go.ChangeShapes Go.WideShapes Go.ChangeAt Go.RowKit
set_option linter.unusedVariables false
theorem memB_eqN {L : List (Int × Int)} {P : Int → Prop} {b : Bool} (k : Int) (h : ∀ k, memL k L ↔ P k) (hb : b = true ↔ P k) : memB k L = b := by
  have e : memB k L = true ↔ b = true := by rw [memB_iff, h, hb]
  cases h1 : memB k L <;> cases h2 : b <;> rw [h1, h2] at e <;> simp at e <;> rfl
theorem szL_set {L : List (Int × Int)} (h : Nrm L) (hb : ∀ k, memL k L → 0 ≤ k ∧ k < 359) : szL L = sumB (fun k => memB k L) 359 :=
  szL_sum 359 L h fun r hr => by have := (nrm_may h hb).2.2 r hr; omega
theorem oneB_two (a b : Bool) : oneB (a || b) = oneB (a && !b) + oneB b := by cases a <;> cases b <;> rfl
theorem oneB_part (a b : Bool) : oneB a = oneB (a && !b) + oneB (a && b) := by cases a <;> cases b <;> rfl
theorem sums {X A B C : List (Int × Int)} {x y : Int} (nX : Nrm X) (nA : Nrm A) (nB : Nrm B) (nC : Nrm C) (hX : ∀ k, memL k X → 0 ≤ k ∧ k < 359) (hxy : 0 ≤ x ∧ x < y ∧ y ≤ 359)
    (hA : ∀ q, memL q A ↔ (memL q X ∨ memL q [(x, y)])) (hB : ∀ q, memL q B ↔ (memL q X ∧ ¬ memL q [(x, y)])) (hC : ∀ q, memL q C ↔ (memL q X ∧ memL q [(x, y)])) :
    szL A = szL B + y - x ∧ szL X = szL B + szL C ∧ (0 ≤ szL B ∧ szL B ≤ 1000000) ∧ (0 ≤ szL C ∧ szL C ≤ 1000) ∧ szL B + szL C ≤ 1000000 := by
  have hr : ∀ k, memL k [(x, y)] → 0 ≤ k ∧ k < 359 := fun k hk => by have := (memL_one _ _ _).1 hk; omega
  have bA : ∀ k, memL k A → 0 ≤ k ∧ k < 359 := fun k hk => by
    rcases (hA k).1 hk with q | q
    · exact hX k q
    · exact hr k q
  have bB : ∀ k, memL k B → 0 ≤ k ∧ k < 359 := fun k hk => hX k ((hB k).1 hk).1
  have bC : ∀ k, memL k C → 0 ≤ k ∧ k < 359 := fun k hk => hX k ((hC k).1 hk).1
  have nR : Nrm [(x, y)] := ⟨hxy.2.1, fun s hs => by simp at hs, trivial⟩
  have eR : y - x = sumB (fun k => memB k [(x, y)]) 359 := by
    rw [← szL_set nR hr]
    simp [szL]
  have e1 : sumB (fun k => memB k A) 359 = sumB (fun k => memB k B) 359 + sumB (fun k => memB k [(x, y)]) 359 := sumB_add (fun k => by
    have h1 : memB k A = (memB k X || memB k [(x, y)]) := memB_eqN k hA (by rw [Bool.or_eq_true, memB_iff, memB_iff])
    have h2 : memB k B = (memB k X && !memB k [(x, y)]) := memB_eqN k hB (by rw [Bool.and_eq_true, memB_iff, Bool.not_eq_true', memB_false])
    show oneB (memB k A) = oneB (memB k B) + oneB (memB k [(x, y)])
    rw [h1, h2]
    exact oneB_two _ _) _
  have e2 : sumB (fun k => memB k X) 359 = sumB (fun k => memB k B) 359 + sumB (fun k => memB k C) 359 := sumB_add (fun k => by
    have h1 : memB k C = (memB k X && memB k [(x, y)]) := memB_eqN k hC (by rw [Bool.and_eq_true, memB_iff, memB_iff])
    have h2 : memB k B = (memB k X && !memB k [(x, y)]) := memB_eqN k hB (by rw [Bool.and_eq_true, memB_iff, Bool.not_eq_true', memB_false])
    show oneB (memB k X) = oneB (memB k B) + oneB (memB k C)
    rw [h1, h2]
    exact oneB_part _ _) _
  have hs : ∀ (p : Int → Bool) (n : Nat), 0 ≤ sumB p n ∧ sumB p n ≤ n := fun p n => by
    induction n with
    | zero => simp [sumB]
    | succ n ih =>
      have : 0 ≤ oneB (p n) ∧ oneB (p n) ≤ 1 := by cases p n <;> decide
      simp only [sumB]
      omega
  rw [szL_set nA bA, szL_set nB bB, szL_set nX hX, szL_set nC bC]
  have b1 := hs (fun k => memB k B) 359
  have b2 := hs (fun k => memB k C) 359
  omega
set_option maxRecDepth 100000 in
set_option maxHeartbeats 4000000 in
theorem walk (a0 : Option Addr) (n0 c0 : Nat) (f0 : Nat → Int) (a1 : Int) (a2 : Int) (w : World) (h0 : Ints w a0 n0 f0) (b0 : n0 ≤ 9223372036854775807 ∧ ∀ i, i < n0 → -9223372036854775808 ≤ f0 i ∧ f0 i ≤ 9223372036854775807) (w1 : -9223372036854775808 ≤ a1 ∧ a1 ≤ 9223372036854775807) (w2 : -9223372036854775808 ≤ a2 ∧ a2 ≤ 9223372036854775807) :
    Calls Try.prog 8 #[.slice a0 n0 c0, .int .i64 a1, .int .i64 a2] w fun e w' => e = .returned (.bool true) ∧ Ext w w' := by
  have HH0 : Hid (Ints w a0 n0 f0) := h0
  have HB0 : Hid (∀ i, i < n0 → -9223372036854775808 ≤ f0 i ∧ f0 i ≤ 9223372036854775807) := b0.2
  have hn0 : n0 ≤ 9223372036854775807 := b0.1
  have HW1 : Hid (-9223372036854775808 ≤ a1 ∧ a1 ≤ 9223372036854775807) := w1
  have HW2 : Hid (-9223372036854775808 ≤ a2 ∧ a2 ≤ 9223372036854775807) := w2
  clear h0 b0 w1 w2
  have S1 := SetOf_any a0 n0 c0 f0 12 _ w (by omega) hn0 HH0.out HB0.out rfl
  go_enter Try.func8, Try.ntmps8
  go_wp2_with fail
  refine S1.mono ?_
  rintro e z1 ⟨v1, rfl, X, aX, cX, rfl, hX1, hX2, hX3, hX4, hX5, hx1⟩
  have HX : Hid (Nrm X ∧ (∀ k, memL k X → 0 ≤ k ∧ k < 359) ∧ Rngs z1 aX X ∧ mayB X = true) := ⟨hX1, fun k hk => SetP_bd ((hX2 k).1 hk), hX3, hX4⟩
  clear hX1 hX2 hX3 hX4 S1
  go_wp2_with fail
  refine (RangeOf_any a1 a2 z1 HW1.out HW2.out).mono ?_
  rintro e z3 ⟨rfl, hx3⟩
  have hrb := rF_bd a1 a2
  have HRM : Hid (mayB [(rF a1, rT a1 a2)] = true) := may_rng a1 a2
  generalize rF a1 = x at *
  generalize rT a1 a2 = y at *
  have x4 : Ext z3 (z3.alloc (.cells #[.int .i64 x, .int .i64 y] 24)) := (Ext.refl z3).alloc _ _
  have HC0 : Hid ((z3.alloc (.cells #[.int .i64 x, .int .i64 y] 24)).cell? ⟨z3.heap.size, 0, none⟩ = some (.int .i64 x)) := new_cell z3 #[.int .i64 x, .int .i64 y] 24 0
  have HC1 : Hid ((z3.alloc (.cells #[.int .i64 x, .int .i64 y] 24)).cell? ⟨z3.heap.size, 1, none⟩ = some (.int .i64 y)) := new_cell z3 #[.int .i64 x, .int .i64 y] 24 1
  have HX4 : Hid (Ext z1 (z3.alloc (.cells #[.int .i64 x, .int .i64 y] 24)) ∧ Ext w (z3.alloc (.cells #[.int .i64 x, .int .i64 y] 24))) := ⟨hx3.trans x4, (hx1.trans hx3).trans x4⟩
  have HA := SpAdd_any aX X.length cX X x y (z3.alloc (.cells #[.int .i64 x, .int .i64 y] 24)) rfl (by omega) (HX.out.2.2.1.ext HX4.out.1) (may_bdd HX.out.2.2.2) (by omega)
  clear hx3 x4 hx1
  go_wp2_with fail
  refine HA.mono ?_
  rintro e z5 ⟨v5, er5, rfl, hs5, hx5⟩
  have bA : Hid (∀ q, (memL q X ∨ memL q [(x, y)]) → 0 ≤ q ∧ q < 359) := fun q hq => by
    rcases hq with hq | hq
    · exact HX.out.2.1 q hq
    · have := (memL_one _ _ _).1 hq; omega
  obtain ⟨rfl, A, aA, cA, rfl, hA1, hA2, hA3, hA4, hA5⟩ := hs5.list (by rw [HX.out.2.2.2, HRM.out]; rfl) bA.out
  have HAs : Hid (Nrm A ∧ (∀ q, memL q A ↔ (memL q X ∨ memL q [(x, y)])) ∧ Rngs z5 aA A ∧ mayB A = true) := ⟨hA1, hA2, hA3, hA4⟩
  have d0 := hx5.keeps HC0.out
  have d1 := hx5.keeps HC1.out
  have HD5 : Hid (z5.cell? ⟨z3.heap.size, 0, none⟩ = some (.int .i64 x) ∧ z5.cell? ⟨z3.heap.size, 1, none⟩ = some (.int .i64 y)) := ⟨d0, d1⟩
  have HX5 : Hid (Ext z1 z5 ∧ Ext w z5) := ⟨HX4.out.1.trans hx5, HX4.out.2.trans hx5⟩
  have HCu := SpCut_any aX X.length cX X x y z5 rfl (by omega) (HX.out.2.2.1.ext HX5.out.1) (may_bdd HX.out.2.2.2) (by omega)
  clear hs5 hx5 hA1 hA2 hA3 hA4 HA
  go_wp2_with fail
  refine HCu.mono ?_
  rintro e z6 ⟨v6, er6, rfl, hs6, hx6⟩
  obtain ⟨rfl, B, aB, cB, rfl, hB1, hB2, hB3, hB4, hB5⟩ := hs6.list (by rw [HX.out.2.2.2, HRM.out]; rfl) (fun q hq => HX.out.2.1 q hq.1)
  have HBs : Hid (Nrm B ∧ (∀ q, memL q B ↔ (memL q X ∧ ¬ memL q [(x, y)])) ∧ Rngs z6 aB B ∧ mayB B = true) := ⟨hB1, hB2, hB3, hB4⟩
  have HX6 : Hid (Ext z1 z6 ∧ Ext z5 z6 ∧ Ext w z6) := ⟨HX5.out.1.trans hx6, hx6, HX5.out.2.trans hx6⟩
  have e0 := hx6.keeps HD5.out.1
  have e1 := hx6.keeps HD5.out.2
  have x7 : Ext z6 (z6.alloc (.cells #[.int .i64 x, .int .i64 y] 24)) := (Ext.refl z6).alloc _ _
  have HBo := SpBoth_any aX (some ⟨z6.heap.size, 0, none⟩) X.length 1 cX 1 X [(x, y)] (z6.alloc (.cells #[.int .i64 x, .int .i64 y] 24)) rfl (by omega) rfl (by omega) (HX.out.2.2.1.ext (HX6.out.1.trans x7)) (rngs_one (new_cell z6 #[.int .i64 x, .int .i64 y] 24 0) (new_cell z6 #[.int .i64 x, .int .i64 y] 24 1)) (may_bdd HX.out.2.2.2) (may_bdd HRM.out)
  clear hs6 hx6 hB1 hB2 hB3 hB4 HCu d0 d1
  go_wp2_with fail
  refine HBo.mono ?_
  rintro e z7 ⟨v7, er7, rfl, hs7, hx7⟩
  obtain ⟨rfl, C, aC, cC, rfl, hC1, hC2, hC3, hC4, hC5⟩ := hs7.list (by rw [HX.out.2.2.2, HRM.out]; rfl) (fun q hq => HX.out.2.1 q hq.1)
  have HCs : Hid (Nrm C ∧ (∀ q, memL q C ↔ (memL q X ∧ memL q [(x, y)])) ∧ Rngs z7 aC C ∧ mayB C = true) := ⟨hC1, hC2, hC3, hC4⟩
  have HX7 : Hid (Ext z1 z7 ∧ Ext z5 z7 ∧ Ext z6 z7 ∧ Ext w z7) := ⟨HX6.out.1.trans (x7.trans hx7), HX6.out.2.1.trans (x7.trans hx7), x7.trans hx7, HX6.out.2.2.trans (x7.trans hx7)⟩
  have g0 := (x7.trans hx7).keeps e0
  have g1 := (x7.trans hx7).keeps e1
  have HG : Hid (z7.cell? ⟨z3.heap.size, 0, none⟩ = some (.int .i64 x) ∧ z7.cell? ⟨z3.heap.size, 1, none⟩ = some (.int .i64 y)) := ⟨g0, g1⟩
  have HDc := SpCut_any aA A.length cA A x y z7 rfl (by omega) (HAs.out.2.2.1.ext HX7.out.2.1) (may_bdd HAs.out.2.2.2) (by omega)
  clear hs7 hx7 hC1 hC2 hC3 hC4 HBo x7 e0 e1
  go_wp2_with fail
  refine HDc.mono ?_
  rintro e z8 ⟨v8, er8, rfl, hs8, hx8⟩
  obtain ⟨rfl, D, aD, cD, rfl, hD1, hD2, hD3, hD4, hD5⟩ := hs8.list (by rw [HAs.out.2.2.2, HRM.out]; rfl) (fun q hq => bA.out q ((HAs.out.2.1 q).1 hq.1))
  have eDB : D = B := Nrm.uniq D B hD1 HBs.out.1 fun q => by
    rw [hD2, HBs.out.2.1, HAs.out.2.1]
    constructor
    · rintro ⟨h1 | h1, h2⟩
      · exact ⟨h1, h2⟩
      · exact absurd h1 h2
    · rintro ⟨h1, h2⟩
      exact ⟨Or.inl h1, h2⟩
  subst eDB
  have HDs : Hid (Rngs z8 aD D) := hD3
  have HSm := sums HX.out.1 HAs.out.1 HBs.out.1 HCs.out.1 HX.out.2.1 (by omega) HAs.out.2.1 HBs.out.2.1 HCs.out.2.1
  have HX8 : Hid (Ext z1 z8 ∧ Ext z5 z8 ∧ Ext z6 z8 ∧ Ext z7 z8 ∧ Ext w z8) := ⟨HX7.out.1.trans hx8, HX7.out.2.1.trans hx8, HX7.out.2.2.1.trans hx8, hx8, HX7.out.2.2.2.trans hx8⟩
  clear hs8 hD1 hD2 hD3 hD4 HDc g0 g1
  obtain ⟨sm1, sm2, sm3, sm4, sm5⟩ := HSm
  have zX : sizeV X = szL D + szL C := by unfold sizeV; rw [HX.out.2.2.2, if_pos rfl, sm2]
  have zA : sizeV A = szL D + y - x := by unfold sizeV; rw [HAs.out.2.2.2, if_pos rfl, sm1]
  have zB : sizeV D = szL D := by unfold sizeV; rw [HBs.out.2.2.2, if_pos rfl]
  have zC : sizeV C = szL C := by unfold sizeV; rw [HCs.out.2.2.2, if_pos rfl]
  have ZX := SpSize_any aX X.length cX X z8 rfl (by omega) (HX.out.2.2.1.ext HX8.out.1) (may_bdd HX.out.2.2.2)
  rw [zX] at ZX
  clear sm1 sm2 hx8
  go_wp2_with fail
  refine ZX.mono ?_
  rintro e z9 ⟨rfl, hx9⟩
  have ZA : Hid (∀ u : Gr z9, Calls Try.prog 22 #[.slice aA A.length cA] u.w' fun e w'' => e = .returned (.int .i64 (szL D + y - x)) ∧ Ext u.w' w'') := fun u => zA ▸ SpSize_any aA A.length cA A u.w' rfl (by omega) (HAs.out.2.2.1.ext ((HX8.out.2.1.trans hx9).trans u.ext)) (may_bdd HAs.out.2.2.2)
  have ZB : Hid (∀ u : Gr z9, Calls Try.prog 22 #[.slice aB D.length cB] u.w' fun e w'' => e = .returned (.int .i64 (szL D)) ∧ Ext u.w' w'') := fun u => (congrArg (fun s => Calls Try.prog 22 #[.slice aB D.length cB] u.w' fun e w'' => e = .returned (.int .i64 s) ∧ Ext u.w' w'') zB).mp (SpSize_any aB D.length cB D u.w' rfl (by omega) (HBs.out.2.2.1.ext ((HX8.out.2.2.1.trans hx9).trans u.ext)) (may_bdd HBs.out.2.2.2))
  have ZC : Hid (∀ u : Gr z9, Calls Try.prog 22 #[.slice aC C.length cC] u.w' fun e w'' => e = .returned (.int .i64 (szL C)) ∧ Ext u.w' w'') := fun u => (congrArg (fun s => Calls Try.prog 22 #[.slice aC C.length cC] u.w' fun e w'' => e = .returned (.int .i64 s) ∧ Ext u.w' w'') zC).mp (SpSize_any aC C.length cC C u.w' rfl (by omega) (HCs.out.2.2.1.ext ((HX8.out.2.2.2.1.trans hx9).trans u.ext)) (may_bdd HCs.out.2.2.2))
  have ZS : Hid (∀ u : Gr z9, Calls Try.prog 18 #[.slice aD D.length cD, .slice aB D.length cB] u.w' fun e w'' => e = .returned (.bool true) ∧ Ext u.w' w'') := fun u => keepSameR_any aD aB D.length cD cB D u.w' rfl (by omega) (HDs.out.ext (hx9.trans u.ext)) (HBs.out.2.2.1.ext ((HX8.out.2.2.1.trans hx9).trans u.ext))
  have c0 := fun u : Gr z9 => ((HX8.out.2.2.2.1.trans hx9).trans u.ext).keeps HG.out.1
  have c1 := fun u : Gr z9 => ((HX8.out.2.2.2.1.trans hx9).trans u.ext).keeps HG.out.2
  have HZ : Hid (Ext w z9) := HX8.out.2.2.2.2.trans hx9
  clear zX zA zB zC ZX hx9 HX HAs HBs HCs HDs HG HX4 HX5 HX6 HX7 HX8 HD5 HRM bA HC0 HC1
  generalize szL D = sB at *
  generalize szL C = sC at *
  have dG1 : decide (0 ≤ sB + sC) = true := decide_eq_true (by omega)
  have dG2 : decide (sB + sC < 1048576) = true := decide_eq_true (by omega)
  go_wp2_with fail
  refine wp_region_grows 33 (by kernel_rfl) (by kernel_rfl) (fun hne => ?_)
  simp only [List.take_succ_cons, List.take_zero, List.drop_succ_cons, List.drop_zero]
  iterate 9 (go_big_quiet_step (first | (go_at_call 22; exact Calls.grown (ZA.out _))))
  iterate 13 (go_big_quiet_step (first | (go_at_call 22; exact Calls.grown (ZB.out _))))
  iterate 2 (go_big_quiet_step (first | (go_at_call 22; exact Calls.grown (ZC.out _))))
  repeat (go_big_quiet_step (first | (go_at_call 18; exact Calls.grown (ZS.out _))))
  refine wpQuiet_nil ?_
  intro z10 hz10
  obtain ⟨u, rfl⟩ := hz10
  go_wp2_with fail
  go_ret
  exact ⟨ret_boolS (by simp), HZ.out.trans u.ext⟩
end Go.Proofs.Ytfekiccjcfdmkaa.spanCounts
