/-
  A number is in what was added, not in what was cut, and in both if it is in both: for every two lists of ints and every three ints span.Add, Cut, Both and Has, at the sets made of them, answer so; no condition.
-/
import Derived.Test.YtfekiccjcfdmkaaRows
import Derived.WalkKit
import Derived.ProofKit
import Derived.OpenShut
import Derived.ChangeOld
import Derived.Below
import Derived.BigQuiet
import Derived.Deep.CutRange
import Derived.Deep.QuietTactic
import Derived.Deep.RegionLaw
import Derived.Test.YtfekiccjcfdmkaaOpn
import Derived.Test.YtfekiccjcfdmkaaChecked
import Derived.Test.YtfekiccjcfdmkaaKeepSpan
import Derived.Test.YtfekiccjcfdmkaaSpanHs
namespace Go.Proofs.Ytfekiccjcfdmkaa.spanTells
open Go.ChangeShapes Go.WideShapes Go.ChangeAt Go.RowKit
set_option linter.unusedVariables false
theorem has_mem {L : List (Int × Int)} (h : mayB L = true) (k : Int) : hasB L k = memB k L := by
  unfold hasB
  rw [h]
  rfl
theorem memB_eq {L : List (Int × Int)} {P : Int → Prop} {b : Bool} (k : Int) (h : ∀ k, memL k L ↔ P k) (hb : b = true ↔ P k) : memB k L = b := by
  have e : memB k L = true ↔ b = true := by rw [memB_iff, h, hb]
  cases h1 : memB k L <;> cases h2 : b <;> rw [h1, h2] at e <;> simp at e <;> rfl
theorem memB_rng (k x y : Int) : memB k [(x, y)] = (decide (x ≤ k) && decide (k < y)) := by
  unfold memB
  simp
set_option maxRecDepth 100000 in
set_option maxHeartbeats 4000000 in
theorem walk (a0 : Option Addr) (n0 c0 : Nat) (f0 : Nat → Int) (a1 : Option Addr) (n1 c1 : Nat) (f1 : Nat → Int) (a2 : Int) (a3 : Int) (a4 : Int) (w : World) (h0 : Ints w a0 n0 f0) (b0 : n0 ≤ 9223372036854775807 ∧ ∀ i, i < n0 → -9223372036854775808 ≤ f0 i ∧ f0 i ≤ 9223372036854775807) (h1 : Ints w a1 n1 f1) (b1 : n1 ≤ 9223372036854775807 ∧ ∀ i, i < n1 → -9223372036854775808 ≤ f1 i ∧ f1 i ≤ 9223372036854775807) (w2 : -9223372036854775808 ≤ a2 ∧ a2 ≤ 9223372036854775807) (w3 : -9223372036854775808 ≤ a3 ∧ a3 ≤ 9223372036854775807) (w4 : -9223372036854775808 ≤ a4 ∧ a4 ≤ 9223372036854775807) :
    Calls Try.prog 7 #[.slice a0 n0 c0, .slice a1 n1 c1, .int .i64 a2, .int .i64 a3, .int .i64 a4] w fun e w' => e = .returned (.bool true) ∧ Ext w w' := by
  have HH0 : Hid (Ints w a0 n0 f0) := h0
  have HH1 : Hid (Ints w a1 n1 f1) := h1
  have HB0 : Hid (∀ i, i < n0 → -9223372036854775808 ≤ f0 i ∧ f0 i ≤ 9223372036854775807) := b0.2
  have HB1 : Hid (∀ i, i < n1 → -9223372036854775808 ≤ f1 i ∧ f1 i ≤ 9223372036854775807) := b1.2
  have hn0 : n0 ≤ 9223372036854775807 := b0.1
  have hn1 : n1 ≤ 9223372036854775807 := b1.1
  have HW2 : Hid (-9223372036854775808 ≤ a2 ∧ a2 ≤ 9223372036854775807) := w2
  have HW3 : Hid (-9223372036854775808 ≤ a3 ∧ a3 ≤ 9223372036854775807) := w3
  have HW4 : Hid (-9223372036854775808 ≤ a4 ∧ a4 ≤ 9223372036854775807) := w4
  clear h0 h1 b0 b1 w2 w3 w4
  have S1 := SetOf_any a0 n0 c0 f0 12 _ w (by omega) hn0 HH0.out HB0.out rfl
  go_enter Try.func7, Try.ntmps7
  go_wp2_with fail
  refine S1.mono ?_
  rintro e z1 ⟨v1, rfl, X, aX, cX, rfl, hX1, hX2, hX3, hX4, hX5, hx1⟩
  have S2 := SetOf_any a1 n1 c1 f1 12 _ z1 (by omega) hn1 (HH1.out.ext hx1) HB1.out rfl
  have HX : Hid ((∀ k, memL k X ↔ SetP f0 (min (n0 / 2) 12) k) ∧ Rngs z1 aX X ∧ mayB X = true) := ⟨hX2, hX3, hX4⟩
  clear hX1 hX2 hX3 hX4 S1
  go_wp2_with fail
  refine S2.mono ?_
  rintro e z2 ⟨v2, rfl, Y, aY, cY, rfl, hY1, hY2, hY3, hY4, hY5, hx2⟩
  have HY : Hid ((∀ k, memL k Y ↔ SetP f1 (min (n1 / 2) 12) k) ∧ Rngs z2 aY Y ∧ mayB Y = true) := ⟨hY2, hY3, hY4⟩
  have HXX : Hid (Ext w z2 ∧ Ext z1 z2) := ⟨hx1.trans hx2, hx2⟩
  clear hY1 hY2 hY3 hY4 S2 hx1 hx2
  go_wp2_with fail
  refine (RangeOf_any a2 a3 z2 HW2.out HW3.out).mono ?_
  rintro e z3 ⟨rfl, hx3⟩
  have hrb := rF_bd a2 a3
  have HRM : Hid (mayB [(rF a2, rT a2 a3)] = true) := may_rng a2 a3
  generalize rF a2 = x at *
  generalize rT a2 a3 = y at *
  go_wp2_with fail
  refine (Picked_any a4 400 _ (by omega) (by omega) HW4.out.1 HW4.out.2).mono ?_
  rintro e z4 ⟨rfl, rfl⟩
  have hk0 : 0 ≤ a4 % 400 ∧ a4 % 400 < 400 := by omega
  generalize a4 % 400 = k at *
  have x4 : Ext z3 (z3.alloc (.cells #[.int .i64 x, .int .i64 y] 24)) := (Ext.refl z3).alloc _ _
  have HC0 : Hid ((z3.alloc (.cells #[.int .i64 x, .int .i64 y] 24)).cell? ⟨z3.heap.size, 0, none⟩ = some (.int .i64 x)) := new_cell z3 #[.int .i64 x, .int .i64 y] 24 0
  have HC1 : Hid ((z3.alloc (.cells #[.int .i64 x, .int .i64 y] 24)).cell? ⟨z3.heap.size, 1, none⟩ = some (.int .i64 y)) := new_cell z3 #[.int .i64 x, .int .i64 y] 24 1
  have HX4 : Hid (Ext z2 (z3.alloc (.cells #[.int .i64 x, .int .i64 y] 24))) := hx3.trans x4
  have HA := SpAdd_any aX X.length cX X x y (z3.alloc (.cells #[.int .i64 x, .int .i64 y] 24)) rfl (by omega) (HX.out.2.1.ext (HXX.out.2.trans HX4.out)) (may_bdd HX.out.2.2) (by omega)
  clear hx3 x4
  by_cases l1 : x ≤ k
  · by_cases l2 : k < y
    · have HIn : Hid (memB k [(x, y)] = true) := by show _ = _; rw [memB_rng, decide_eq_true l1, decide_eq_true l2]; rfl
      go_wp2_with fail
      refine HA.mono ?_
      rintro e z5 ⟨v5, er5, rfl, hs5, hx5⟩
      obtain ⟨rfl, A, aA, cA, rfl, hA1, hA2, hA3, hA4, hA5⟩ := hs5.list (by rw [HX.out.2.2, HRM.out]; rfl) (fun q hq => by
        rcases hq with hq | hq
        · exact SetP_bd ((HX.out.1 q).1 hq)
        · have := (memL_one _ _ _).1 hq; omega)
      have HAs : Hid ((∀ q, memL q A ↔ (memL q X ∨ memL q [(x, y)])) ∧ Rngs z5 aA A ∧ mayB A = true) := ⟨hA2, hA3, hA4⟩
      have d0 := hx5.keeps HC0.out
      have d1 := hx5.keeps HC1.out
      have HX5 : Hid (Ext z2 z5) := HX4.out.trans hx5
      have HCu := SpCut_any aX X.length cX X x y z5 rfl (by omega) (HX.out.2.1.ext (HXX.out.2.trans HX5.out)) (may_bdd HX.out.2.2) (by omega)
      clear hs5 hx5 hA1 hA2 hA3 hA4 HA
      go_wp2_with fail
      refine HCu.mono ?_
      rintro e z6 ⟨v6, er6, rfl, hs6, hx6⟩
      obtain ⟨rfl, B, aB, cB, rfl, hB1, hB2, hB3, hB4, hB5⟩ := hs6.list (by rw [HX.out.2.2, HRM.out]; rfl) (fun q hq => SetP_bd ((HX.out.1 q).1 hq.1))
      have HBs : Hid ((∀ q, memL q B ↔ (memL q X ∧ ¬ memL q [(x, y)])) ∧ Rngs z6 aB B ∧ mayB B = true) := ⟨hB2, hB3, hB4⟩
      have HX6 : Hid (Ext z2 z6 ∧ Ext z5 z6) := ⟨HX5.out.trans hx6, hx6⟩
      have HBo := SpBoth_any aX aY X.length Y.length cX cY X Y z6 rfl (by omega) rfl (by omega) (HX.out.2.1.ext (HXX.out.2.trans HX6.out.1)) (HY.out.2.1.ext HX6.out.1) (may_bdd HX.out.2.2) (may_bdd HY.out.2.2)
      clear hs6 hx6 hB1 hB2 hB3 hB4 HCu d0 d1
      go_wp2_with fail
      refine HBo.mono ?_
      rintro e z7 ⟨v7, er7, rfl, hs7, hx7⟩
      obtain ⟨rfl, C, aC, cC, rfl, hC1, hC2, hC3, hC4, hC5⟩ := hs7.list (by rw [HX.out.2.2, HY.out.2.2]; rfl) (fun q hq => SetP_bd ((HX.out.1 q).1 hq.1))
      have HCs : Hid ((∀ q, memL q C ↔ (memL q X ∧ memL q Y)) ∧ Rngs z7 aC C ∧ mayB C = true) := ⟨hC2, hC3, hC4⟩
      have HX7 : Hid (Ext z1 z7 ∧ Ext z2 z7 ∧ Ext z5 z7 ∧ Ext z6 z7) := ⟨(HXX.out.2.trans HX6.out.1).trans hx7, HX6.out.1.trans hx7, HX6.out.2.trans hx7, hx7⟩
      clear hs7 hx7 hC1 hC2 hC3 hC4 HBo
      have MA : Hid (∀ w', Ext z7 w' → Calls Try.prog 20 #[.slice aA A.length cA] w' fun e w'' => e = .returned (.bool true) ∧ Ext w' w'') := fun w' q => HAs.out.2.2 ▸ SpMay_any aA A.length cA A w' rfl (by omega) (HAs.out.2.1.ext (HX7.out.2.2.1.trans q)) (may_bdd HAs.out.2.2)
      have MB : Hid (∀ w', Ext z7 w' → Calls Try.prog 20 #[.slice aB B.length cB] w' fun e w'' => e = .returned (.bool true) ∧ Ext w' w'') := fun w' q => HBs.out.2.2 ▸ SpMay_any aB B.length cB B w' rfl (by omega) (HBs.out.2.1.ext (HX7.out.2.2.2.trans q)) (may_bdd HBs.out.2.2)
      have MC : Hid (∀ w', Ext z7 w' → Calls Try.prog 20 #[.slice aC C.length cC] w' fun e w'' => e = .returned (.bool true) ∧ Ext w' w'') := fun w' q => HCs.out.2.2 ▸ SpMay_any aC C.length cC C w' rfl (by omega) (HCs.out.2.1.ext q) (may_bdd HCs.out.2.2)
      go_wp2_with fail
      refine (MA.out _ (Ext.refl _)).mono ?_
      rintro e z8 ⟨rfl, hx8⟩
      go_wp2_with fail
      refine (MB.out _ hx8).mono ?_
      rintro e z9 ⟨rfl, hx9⟩
      go_wp2_with fail
      refine (MC.out _ (hx8.trans hx9)).mono ?_
      rintro e z10 ⟨rfl, hx10⟩
      have HXA : Hid (Ext z7 z10) := (hx8.trans hx9).trans hx10
      have PX : Hid (∀ w', Ext z7 w' → Calls Try.prog 21 #[.slice aX X.length cX, .int .i64 k] w' fun e w'' => e = .returned (.bool (memB k X)) ∧ Ext w' w'') := fun w' q => has_mem HX.out.2.2 k ▸ SpHas_any aX X.length cX X k w' rfl (by omega) (HX.out.2.1.ext (HX7.out.1.trans q)) (may_bdd HX.out.2.2)
      have PY : Hid (∀ w', Ext z7 w' → Calls Try.prog 21 #[.slice aY Y.length cY, .int .i64 k] w' fun e w'' => e = .returned (.bool (memB k Y)) ∧ Ext w' w'') := fun w' q => has_mem HY.out.2.2 k ▸ SpHas_any aY Y.length cY Y k w' rfl (by omega) (HY.out.2.1.ext (HX7.out.2.1.trans q)) (may_bdd HY.out.2.2)
      have eA : memB k A = (memB k X || true) := by
        rw [← HIn.out]
        refine memB_eq k HAs.out.1 ?_
        rw [Bool.or_eq_true, memB_iff, memB_iff]
      have eB : memB k B = (memB k X && !true) := by
        rw [← HIn.out]
        refine memB_eq k HBs.out.1 ?_
        rw [Bool.and_eq_true, memB_iff, Bool.not_eq_true', memB_false]
      have eC : memB k C = (memB k X && memB k Y) := by
        refine memB_eq k HCs.out.1 ?_
        rw [Bool.and_eq_true, memB_iff, memB_iff]
      have PA : Hid (∀ w', Ext z7 w' → Calls Try.prog 21 #[.slice aA A.length cA, .int .i64 k] w' fun e w'' => e = .returned (.bool (memB k X || true)) ∧ Ext w' w'') := fun w' q => eA ▸ has_mem HAs.out.2.2 k ▸ SpHas_any aA A.length cA A k w' rfl (by omega) (HAs.out.2.1.ext (HX7.out.2.2.1.trans q)) (may_bdd HAs.out.2.2)
      have PB : Hid (∀ w', Ext z7 w' → Calls Try.prog 21 #[.slice aB B.length cB, .int .i64 k] w' fun e w'' => e = .returned (.bool (memB k X && !true)) ∧ Ext w' w'') := fun w' q => eB ▸ has_mem HBs.out.2.2 k ▸ SpHas_any aB B.length cB B k w' rfl (by omega) (HBs.out.2.1.ext (HX7.out.2.2.2.trans q)) (may_bdd HBs.out.2.2)
      have PC : Hid (∀ w', Ext z7 w' → Calls Try.prog 21 #[.slice aC C.length cC, .int .i64 k] w' fun e w'' => e = .returned (.bool (memB k X && memB k Y)) ∧ Ext w' w'') := fun w' q => eC ▸ has_mem HCs.out.2.2 k ▸ SpHas_any aC C.length cC C k w' rfl (by omega) (HCs.out.2.1.ext q) (may_bdd HCs.out.2.2)
      have HZ : Hid (Ext w z7) := HXX.out.1.trans HX7.out.2.1
      clear eA eB eC hx8 hx9 hx10 MA MB MC HAs HBs HCs HX HY HIn HRM HX4 HX5 HX6 HX7 HC0 HC1 HXX
      generalize memB k X = bX at *
      generalize memB k Y = bY at *
      cases bX with
      | true =>
        go_wp2_with fail
        refine (PX.out _ (HXA.out)).mono ?_
        rintro e y0 ⟨rfl, hy0⟩
        go_wp2_with fail
        refine (PA.out _ (HXA.out.trans hy0)).mono ?_
        rintro e y1 ⟨rfl, hy1⟩
        go_wp2_with fail
        refine (PB.out _ ((HXA.out.trans hy0).trans hy1)).mono ?_
        rintro e y2 ⟨rfl, hy2⟩
        go_wp2_with fail
        refine (PC.out _ (((HXA.out.trans hy0).trans hy1).trans hy2)).mono ?_
        rintro e y3 ⟨rfl, hy3⟩
        go_wp2_with fail
        refine (PY.out _ ((((HXA.out.trans hy0).trans hy1).trans hy2).trans hy3)).mono ?_
        rintro e y4 ⟨rfl, hy4⟩
        go_wp2_with fail
        go_ret
        exact ⟨ret_boolS (by cases bY <;> first | rfl | (simp; omega)), HZ.out.trans (((((HXA.out.trans hy0).trans hy1).trans hy2).trans hy3).trans hy4)⟩
      | false =>
        go_wp2_with fail
        refine (PX.out _ (HXA.out)).mono ?_
        rintro e y0 ⟨rfl, hy0⟩
        go_wp2_with fail
        refine (PA.out _ (HXA.out.trans hy0)).mono ?_
        rintro e y1 ⟨rfl, hy1⟩
        go_wp2_with fail
        refine (PB.out _ ((HXA.out.trans hy0).trans hy1)).mono ?_
        rintro e y2 ⟨rfl, hy2⟩
        go_wp2_with fail
        refine (PC.out _ (((HXA.out.trans hy0).trans hy1).trans hy2)).mono ?_
        rintro e y3 ⟨rfl, hy3⟩
        go_wp2_with fail
        go_ret
        exact ⟨ret_boolS (by first | rfl | (simp; omega)), HZ.out.trans ((((HXA.out.trans hy0).trans hy1).trans hy2).trans hy3)⟩
    · have HIn : Hid (memB k [(x, y)] = false) := by show _ = _; rw [memB_rng, decide_eq_false l2, Bool.and_false]
      go_wp2_with fail
      refine HA.mono ?_
      rintro e z5 ⟨v5, er5, rfl, hs5, hx5⟩
      obtain ⟨rfl, A, aA, cA, rfl, hA1, hA2, hA3, hA4, hA5⟩ := hs5.list (by rw [HX.out.2.2, HRM.out]; rfl) (fun q hq => by
        rcases hq with hq | hq
        · exact SetP_bd ((HX.out.1 q).1 hq)
        · have := (memL_one _ _ _).1 hq; omega)
      have HAs : Hid ((∀ q, memL q A ↔ (memL q X ∨ memL q [(x, y)])) ∧ Rngs z5 aA A ∧ mayB A = true) := ⟨hA2, hA3, hA4⟩
      have d0 := hx5.keeps HC0.out
      have d1 := hx5.keeps HC1.out
      have HX5 : Hid (Ext z2 z5) := HX4.out.trans hx5
      have HCu := SpCut_any aX X.length cX X x y z5 rfl (by omega) (HX.out.2.1.ext (HXX.out.2.trans HX5.out)) (may_bdd HX.out.2.2) (by omega)
      clear hs5 hx5 hA1 hA2 hA3 hA4 HA
      go_wp2_with fail
      refine HCu.mono ?_
      rintro e z6 ⟨v6, er6, rfl, hs6, hx6⟩
      obtain ⟨rfl, B, aB, cB, rfl, hB1, hB2, hB3, hB4, hB5⟩ := hs6.list (by rw [HX.out.2.2, HRM.out]; rfl) (fun q hq => SetP_bd ((HX.out.1 q).1 hq.1))
      have HBs : Hid ((∀ q, memL q B ↔ (memL q X ∧ ¬ memL q [(x, y)])) ∧ Rngs z6 aB B ∧ mayB B = true) := ⟨hB2, hB3, hB4⟩
      have HX6 : Hid (Ext z2 z6 ∧ Ext z5 z6) := ⟨HX5.out.trans hx6, hx6⟩
      have HBo := SpBoth_any aX aY X.length Y.length cX cY X Y z6 rfl (by omega) rfl (by omega) (HX.out.2.1.ext (HXX.out.2.trans HX6.out.1)) (HY.out.2.1.ext HX6.out.1) (may_bdd HX.out.2.2) (may_bdd HY.out.2.2)
      clear hs6 hx6 hB1 hB2 hB3 hB4 HCu d0 d1
      go_wp2_with fail
      refine HBo.mono ?_
      rintro e z7 ⟨v7, er7, rfl, hs7, hx7⟩
      obtain ⟨rfl, C, aC, cC, rfl, hC1, hC2, hC3, hC4, hC5⟩ := hs7.list (by rw [HX.out.2.2, HY.out.2.2]; rfl) (fun q hq => SetP_bd ((HX.out.1 q).1 hq.1))
      have HCs : Hid ((∀ q, memL q C ↔ (memL q X ∧ memL q Y)) ∧ Rngs z7 aC C ∧ mayB C = true) := ⟨hC2, hC3, hC4⟩
      have HX7 : Hid (Ext z1 z7 ∧ Ext z2 z7 ∧ Ext z5 z7 ∧ Ext z6 z7) := ⟨(HXX.out.2.trans HX6.out.1).trans hx7, HX6.out.1.trans hx7, HX6.out.2.trans hx7, hx7⟩
      clear hs7 hx7 hC1 hC2 hC3 hC4 HBo
      have MA : Hid (∀ w', Ext z7 w' → Calls Try.prog 20 #[.slice aA A.length cA] w' fun e w'' => e = .returned (.bool true) ∧ Ext w' w'') := fun w' q => HAs.out.2.2 ▸ SpMay_any aA A.length cA A w' rfl (by omega) (HAs.out.2.1.ext (HX7.out.2.2.1.trans q)) (may_bdd HAs.out.2.2)
      have MB : Hid (∀ w', Ext z7 w' → Calls Try.prog 20 #[.slice aB B.length cB] w' fun e w'' => e = .returned (.bool true) ∧ Ext w' w'') := fun w' q => HBs.out.2.2 ▸ SpMay_any aB B.length cB B w' rfl (by omega) (HBs.out.2.1.ext (HX7.out.2.2.2.trans q)) (may_bdd HBs.out.2.2)
      have MC : Hid (∀ w', Ext z7 w' → Calls Try.prog 20 #[.slice aC C.length cC] w' fun e w'' => e = .returned (.bool true) ∧ Ext w' w'') := fun w' q => HCs.out.2.2 ▸ SpMay_any aC C.length cC C w' rfl (by omega) (HCs.out.2.1.ext q) (may_bdd HCs.out.2.2)
      go_wp2_with fail
      refine (MA.out _ (Ext.refl _)).mono ?_
      rintro e z8 ⟨rfl, hx8⟩
      go_wp2_with fail
      refine (MB.out _ hx8).mono ?_
      rintro e z9 ⟨rfl, hx9⟩
      go_wp2_with fail
      refine (MC.out _ (hx8.trans hx9)).mono ?_
      rintro e z10 ⟨rfl, hx10⟩
      have HXA : Hid (Ext z7 z10) := (hx8.trans hx9).trans hx10
      have PX : Hid (∀ w', Ext z7 w' → Calls Try.prog 21 #[.slice aX X.length cX, .int .i64 k] w' fun e w'' => e = .returned (.bool (memB k X)) ∧ Ext w' w'') := fun w' q => has_mem HX.out.2.2 k ▸ SpHas_any aX X.length cX X k w' rfl (by omega) (HX.out.2.1.ext (HX7.out.1.trans q)) (may_bdd HX.out.2.2)
      have PY : Hid (∀ w', Ext z7 w' → Calls Try.prog 21 #[.slice aY Y.length cY, .int .i64 k] w' fun e w'' => e = .returned (.bool (memB k Y)) ∧ Ext w' w'') := fun w' q => has_mem HY.out.2.2 k ▸ SpHas_any aY Y.length cY Y k w' rfl (by omega) (HY.out.2.1.ext (HX7.out.2.1.trans q)) (may_bdd HY.out.2.2)
      have eA : memB k A = (memB k X || false) := by
        rw [← HIn.out]
        refine memB_eq k HAs.out.1 ?_
        rw [Bool.or_eq_true, memB_iff, memB_iff]
      have eB : memB k B = (memB k X && !false) := by
        rw [← HIn.out]
        refine memB_eq k HBs.out.1 ?_
        rw [Bool.and_eq_true, memB_iff, Bool.not_eq_true', memB_false]
      have eC : memB k C = (memB k X && memB k Y) := by
        refine memB_eq k HCs.out.1 ?_
        rw [Bool.and_eq_true, memB_iff, memB_iff]
      have PA : Hid (∀ w', Ext z7 w' → Calls Try.prog 21 #[.slice aA A.length cA, .int .i64 k] w' fun e w'' => e = .returned (.bool (memB k X || false)) ∧ Ext w' w'') := fun w' q => eA ▸ has_mem HAs.out.2.2 k ▸ SpHas_any aA A.length cA A k w' rfl (by omega) (HAs.out.2.1.ext (HX7.out.2.2.1.trans q)) (may_bdd HAs.out.2.2)
      have PB : Hid (∀ w', Ext z7 w' → Calls Try.prog 21 #[.slice aB B.length cB, .int .i64 k] w' fun e w'' => e = .returned (.bool (memB k X && !false)) ∧ Ext w' w'') := fun w' q => eB ▸ has_mem HBs.out.2.2 k ▸ SpHas_any aB B.length cB B k w' rfl (by omega) (HBs.out.2.1.ext (HX7.out.2.2.2.trans q)) (may_bdd HBs.out.2.2)
      have PC : Hid (∀ w', Ext z7 w' → Calls Try.prog 21 #[.slice aC C.length cC, .int .i64 k] w' fun e w'' => e = .returned (.bool (memB k X && memB k Y)) ∧ Ext w' w'') := fun w' q => eC ▸ has_mem HCs.out.2.2 k ▸ SpHas_any aC C.length cC C k w' rfl (by omega) (HCs.out.2.1.ext q) (may_bdd HCs.out.2.2)
      have HZ : Hid (Ext w z7) := HXX.out.1.trans HX7.out.2.1
      clear eA eB eC hx8 hx9 hx10 MA MB MC HAs HBs HCs HX HY HIn HRM HX4 HX5 HX6 HX7 HC0 HC1 HXX
      generalize memB k X = bX at *
      generalize memB k Y = bY at *
      cases bX with
      | true =>
        go_wp2_with fail
        refine (PX.out _ (HXA.out)).mono ?_
        rintro e y0 ⟨rfl, hy0⟩
        go_wp2_with fail
        refine (PA.out _ (HXA.out.trans hy0)).mono ?_
        rintro e y1 ⟨rfl, hy1⟩
        go_wp2_with fail
        refine (PB.out _ ((HXA.out.trans hy0).trans hy1)).mono ?_
        rintro e y2 ⟨rfl, hy2⟩
        go_wp2_with fail
        refine (PC.out _ (((HXA.out.trans hy0).trans hy1).trans hy2)).mono ?_
        rintro e y3 ⟨rfl, hy3⟩
        go_wp2_with fail
        refine (PY.out _ ((((HXA.out.trans hy0).trans hy1).trans hy2).trans hy3)).mono ?_
        rintro e y4 ⟨rfl, hy4⟩
        go_wp2_with fail
        go_ret
        exact ⟨ret_boolS (by cases bY <;> first | rfl | (simp; omega)), HZ.out.trans (((((HXA.out.trans hy0).trans hy1).trans hy2).trans hy3).trans hy4)⟩
      | false =>
        go_wp2_with fail
        refine (PX.out _ (HXA.out)).mono ?_
        rintro e y0 ⟨rfl, hy0⟩
        go_wp2_with fail
        refine (PA.out _ (HXA.out.trans hy0)).mono ?_
        rintro e y1 ⟨rfl, hy1⟩
        go_wp2_with fail
        refine (PB.out _ ((HXA.out.trans hy0).trans hy1)).mono ?_
        rintro e y2 ⟨rfl, hy2⟩
        go_wp2_with fail
        refine (PC.out _ (((HXA.out.trans hy0).trans hy1).trans hy2)).mono ?_
        rintro e y3 ⟨rfl, hy3⟩
        go_wp2_with fail
        go_ret
        exact ⟨ret_boolS (by first | rfl | (simp; omega)), HZ.out.trans ((((HXA.out.trans hy0).trans hy1).trans hy2).trans hy3)⟩
  · have HIn : Hid (memB k [(x, y)] = false) := by show _ = _; rw [memB_rng, decide_eq_false l1, Bool.false_and]
    go_wp2_with fail
    refine HA.mono ?_
    rintro e z5 ⟨v5, er5, rfl, hs5, hx5⟩
    obtain ⟨rfl, A, aA, cA, rfl, hA1, hA2, hA3, hA4, hA5⟩ := hs5.list (by rw [HX.out.2.2, HRM.out]; rfl) (fun q hq => by
      rcases hq with hq | hq
      · exact SetP_bd ((HX.out.1 q).1 hq)
      · have := (memL_one _ _ _).1 hq; omega)
    have HAs : Hid ((∀ q, memL q A ↔ (memL q X ∨ memL q [(x, y)])) ∧ Rngs z5 aA A ∧ mayB A = true) := ⟨hA2, hA3, hA4⟩
    have d0 := hx5.keeps HC0.out
    have d1 := hx5.keeps HC1.out
    have HX5 : Hid (Ext z2 z5) := HX4.out.trans hx5
    have HCu := SpCut_any aX X.length cX X x y z5 rfl (by omega) (HX.out.2.1.ext (HXX.out.2.trans HX5.out)) (may_bdd HX.out.2.2) (by omega)
    clear hs5 hx5 hA1 hA2 hA3 hA4 HA
    go_wp2_with fail
    refine HCu.mono ?_
    rintro e z6 ⟨v6, er6, rfl, hs6, hx6⟩
    obtain ⟨rfl, B, aB, cB, rfl, hB1, hB2, hB3, hB4, hB5⟩ := hs6.list (by rw [HX.out.2.2, HRM.out]; rfl) (fun q hq => SetP_bd ((HX.out.1 q).1 hq.1))
    have HBs : Hid ((∀ q, memL q B ↔ (memL q X ∧ ¬ memL q [(x, y)])) ∧ Rngs z6 aB B ∧ mayB B = true) := ⟨hB2, hB3, hB4⟩
    have HX6 : Hid (Ext z2 z6 ∧ Ext z5 z6) := ⟨HX5.out.trans hx6, hx6⟩
    have HBo := SpBoth_any aX aY X.length Y.length cX cY X Y z6 rfl (by omega) rfl (by omega) (HX.out.2.1.ext (HXX.out.2.trans HX6.out.1)) (HY.out.2.1.ext HX6.out.1) (may_bdd HX.out.2.2) (may_bdd HY.out.2.2)
    clear hs6 hx6 hB1 hB2 hB3 hB4 HCu d0 d1
    go_wp2_with fail
    refine HBo.mono ?_
    rintro e z7 ⟨v7, er7, rfl, hs7, hx7⟩
    obtain ⟨rfl, C, aC, cC, rfl, hC1, hC2, hC3, hC4, hC5⟩ := hs7.list (by rw [HX.out.2.2, HY.out.2.2]; rfl) (fun q hq => SetP_bd ((HX.out.1 q).1 hq.1))
    have HCs : Hid ((∀ q, memL q C ↔ (memL q X ∧ memL q Y)) ∧ Rngs z7 aC C ∧ mayB C = true) := ⟨hC2, hC3, hC4⟩
    have HX7 : Hid (Ext z1 z7 ∧ Ext z2 z7 ∧ Ext z5 z7 ∧ Ext z6 z7) := ⟨(HXX.out.2.trans HX6.out.1).trans hx7, HX6.out.1.trans hx7, HX6.out.2.trans hx7, hx7⟩
    clear hs7 hx7 hC1 hC2 hC3 hC4 HBo
    have MA : Hid (∀ w', Ext z7 w' → Calls Try.prog 20 #[.slice aA A.length cA] w' fun e w'' => e = .returned (.bool true) ∧ Ext w' w'') := fun w' q => HAs.out.2.2 ▸ SpMay_any aA A.length cA A w' rfl (by omega) (HAs.out.2.1.ext (HX7.out.2.2.1.trans q)) (may_bdd HAs.out.2.2)
    have MB : Hid (∀ w', Ext z7 w' → Calls Try.prog 20 #[.slice aB B.length cB] w' fun e w'' => e = .returned (.bool true) ∧ Ext w' w'') := fun w' q => HBs.out.2.2 ▸ SpMay_any aB B.length cB B w' rfl (by omega) (HBs.out.2.1.ext (HX7.out.2.2.2.trans q)) (may_bdd HBs.out.2.2)
    have MC : Hid (∀ w', Ext z7 w' → Calls Try.prog 20 #[.slice aC C.length cC] w' fun e w'' => e = .returned (.bool true) ∧ Ext w' w'') := fun w' q => HCs.out.2.2 ▸ SpMay_any aC C.length cC C w' rfl (by omega) (HCs.out.2.1.ext q) (may_bdd HCs.out.2.2)
    go_wp2_with fail
    refine (MA.out _ (Ext.refl _)).mono ?_
    rintro e z8 ⟨rfl, hx8⟩
    go_wp2_with fail
    refine (MB.out _ hx8).mono ?_
    rintro e z9 ⟨rfl, hx9⟩
    go_wp2_with fail
    refine (MC.out _ (hx8.trans hx9)).mono ?_
    rintro e z10 ⟨rfl, hx10⟩
    have HXA : Hid (Ext z7 z10) := (hx8.trans hx9).trans hx10
    have PX : Hid (∀ w', Ext z7 w' → Calls Try.prog 21 #[.slice aX X.length cX, .int .i64 k] w' fun e w'' => e = .returned (.bool (memB k X)) ∧ Ext w' w'') := fun w' q => has_mem HX.out.2.2 k ▸ SpHas_any aX X.length cX X k w' rfl (by omega) (HX.out.2.1.ext (HX7.out.1.trans q)) (may_bdd HX.out.2.2)
    have PY : Hid (∀ w', Ext z7 w' → Calls Try.prog 21 #[.slice aY Y.length cY, .int .i64 k] w' fun e w'' => e = .returned (.bool (memB k Y)) ∧ Ext w' w'') := fun w' q => has_mem HY.out.2.2 k ▸ SpHas_any aY Y.length cY Y k w' rfl (by omega) (HY.out.2.1.ext (HX7.out.2.1.trans q)) (may_bdd HY.out.2.2)
    have eA : memB k A = (memB k X || false) := by
      rw [← HIn.out]
      refine memB_eq k HAs.out.1 ?_
      rw [Bool.or_eq_true, memB_iff, memB_iff]
    have eB : memB k B = (memB k X && !false) := by
      rw [← HIn.out]
      refine memB_eq k HBs.out.1 ?_
      rw [Bool.and_eq_true, memB_iff, Bool.not_eq_true', memB_false]
    have eC : memB k C = (memB k X && memB k Y) := by
      refine memB_eq k HCs.out.1 ?_
      rw [Bool.and_eq_true, memB_iff, memB_iff]
    have PA : Hid (∀ w', Ext z7 w' → Calls Try.prog 21 #[.slice aA A.length cA, .int .i64 k] w' fun e w'' => e = .returned (.bool (memB k X || false)) ∧ Ext w' w'') := fun w' q => eA ▸ has_mem HAs.out.2.2 k ▸ SpHas_any aA A.length cA A k w' rfl (by omega) (HAs.out.2.1.ext (HX7.out.2.2.1.trans q)) (may_bdd HAs.out.2.2)
    have PB : Hid (∀ w', Ext z7 w' → Calls Try.prog 21 #[.slice aB B.length cB, .int .i64 k] w' fun e w'' => e = .returned (.bool (memB k X && !false)) ∧ Ext w' w'') := fun w' q => eB ▸ has_mem HBs.out.2.2 k ▸ SpHas_any aB B.length cB B k w' rfl (by omega) (HBs.out.2.1.ext (HX7.out.2.2.2.trans q)) (may_bdd HBs.out.2.2)
    have PC : Hid (∀ w', Ext z7 w' → Calls Try.prog 21 #[.slice aC C.length cC, .int .i64 k] w' fun e w'' => e = .returned (.bool (memB k X && memB k Y)) ∧ Ext w' w'') := fun w' q => eC ▸ has_mem HCs.out.2.2 k ▸ SpHas_any aC C.length cC C k w' rfl (by omega) (HCs.out.2.1.ext q) (may_bdd HCs.out.2.2)
    have HZ : Hid (Ext w z7) := HXX.out.1.trans HX7.out.2.1
    clear eA eB eC hx8 hx9 hx10 MA MB MC HAs HBs HCs HX HY HIn HRM HX4 HX5 HX6 HX7 HC0 HC1 HXX
    generalize memB k X = bX at *
    generalize memB k Y = bY at *
    cases bX with
    | true =>
      go_wp2_with fail
      refine (PX.out _ (HXA.out)).mono ?_
      rintro e y0 ⟨rfl, hy0⟩
      go_wp2_with fail
      refine (PA.out _ (HXA.out.trans hy0)).mono ?_
      rintro e y1 ⟨rfl, hy1⟩
      go_wp2_with fail
      refine (PB.out _ ((HXA.out.trans hy0).trans hy1)).mono ?_
      rintro e y2 ⟨rfl, hy2⟩
      go_wp2_with fail
      refine (PC.out _ (((HXA.out.trans hy0).trans hy1).trans hy2)).mono ?_
      rintro e y3 ⟨rfl, hy3⟩
      go_wp2_with fail
      refine (PY.out _ ((((HXA.out.trans hy0).trans hy1).trans hy2).trans hy3)).mono ?_
      rintro e y4 ⟨rfl, hy4⟩
      go_wp2_with fail
      go_ret
      exact ⟨ret_boolS (by cases bY <;> first | rfl | (simp; omega)), HZ.out.trans (((((HXA.out.trans hy0).trans hy1).trans hy2).trans hy3).trans hy4)⟩
    | false =>
      go_wp2_with fail
      refine (PX.out _ (HXA.out)).mono ?_
      rintro e y0 ⟨rfl, hy0⟩
      go_wp2_with fail
      refine (PA.out _ (HXA.out.trans hy0)).mono ?_
      rintro e y1 ⟨rfl, hy1⟩
      go_wp2_with fail
      refine (PB.out _ ((HXA.out.trans hy0).trans hy1)).mono ?_
      rintro e y2 ⟨rfl, hy2⟩
      go_wp2_with fail
      refine (PC.out _ (((HXA.out.trans hy0).trans hy1).trans hy2)).mono ?_
      rintro e y3 ⟨rfl, hy3⟩
      go_wp2_with fail
      go_ret
      exact ⟨ret_boolS (by first | rfl | (simp; omega)), HZ.out.trans ((((HXA.out.trans hy0).trans hy1).trans hy2).trans hy3)⟩
end Go.Proofs.Ytfekiccjcfdmkaa.spanTells
