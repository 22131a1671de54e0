/-
  A set has one list of ranges, in whatever order they came, and however often: for every list of ints and every int the two sets that are made of it are the same, range by range; no condition.
-/
import Derived.Test.YtfekiccjcfdmkaaRows
import Derived.WalkKit
import Derived.ProofKit
import Derived.OpenShut
import Derived.ChangeOld
import Derived.Below
import Derived.BigQuiet
import Derived.Deep.CutRange
import Derived.Deep.QuietTactic
import Derived.Deep.RegionLaw
import Derived.Test.YtfekiccjcfdmkaaOpn
import Derived.Test.YtfekiccjcfdmkaaChecked
import Derived.Test.YtfekiccjcfdmkaaSameMath
import Derived.Test.YtfekiccjcfdmkaaSameR
import Derived.Test.YtfekiccjcfdmkaaKeepTorn
import Derived.Test.YtfekiccjcfdmkaaOwnMore
namespace Go.Proofs.Ytfekiccjcfdmkaa.spanSame
open Go.ChangeShapes Go.WideShapes Go.ChangeAt Go.RowKit
set_option linter.unusedVariables false
theorem pv_append (f : Nat → Int) (n : Nat) : (List.range n).map (fun i => IV (f i)) ++ (List.range 2).map (fun i => IV (f (n + i))) = (List.range (n + 2)).map (fun i => IV (f i)) := by
  rw [List.range_add, List.map_append, List.map_map]
  rfl
theorem iv_cells {w : World} {base : Nat} {v : Value} {n : Nat} {f : Nat → Int} (h : w.ownsRow base 3 1 v n ((List.range n).map (fun i => IV (f i)))) : ∃ a c, v = .slice a n c ∧ Ints w a n f := by
  obtain ⟨a, c, rfl, hc⟩ := own_slice h
  refine ⟨a, c, rfl, fun i hi => ?_⟩
  obtain ⟨b, o, h1, h2⟩ := hc i hi
  exact ⟨b, o, h1, by rw [h2, List.getElem?_map, List.getElem?_range hi]; rfl⟩
theorem lit2 (W : World) (x y : Int) (t : TypeId) (g : Nat) (hg : g = W.heap.size) : ∀ i, i < 2 → ∃ b o, (some ⟨g, 0, none⟩ : Option Addr) = some ⟨b, o, none⟩ ∧ (W.alloc (.cells #[.int .i64 x, .int .i64 y] t)).cell? ⟨b, o + i, none⟩ = some (IV (if i = 0 then x else y)) := by
  subst hg
  intro i hi
  refine ⟨_, _, rfl, ?_⟩
  rw [Nat.zero_add, new_cell]
  match i, hi with
  | 0, _ => rfl
  | 1, _ => rfl
theorem two_f (f : Nat → Int) (n : Nat) : (List.range 2).map (fun i => IV (if i = 0 then f n else f (n + 1))) = (List.range 2).map (fun i => IV (f (n + i))) := rfl
set_option maxRecDepth 100000 in
set_option maxHeartbeats 4000000 in
theorem walk (a0 : Option Addr) (n0 c0 : Nat) (f0 : Nat → Int) (a1 : Int) (w : World) (h0 : Ints w a0 n0 f0) (b0 : n0 ≤ 9223372036854775807 ∧ ∀ i, i < n0 → -9223372036854775808 ≤ f0 i ∧ f0 i ≤ 9223372036854775807) (w1 : -9223372036854775808 ≤ a1 ∧ a1 ≤ 9223372036854775807) :
    Calls Try.prog 6 #[.slice a0 n0 c0, .int .i64 a1] w fun e w' => e = .returned (.bool true) ∧ Ext w w' := by
  have HH : Hid (Ints w a0 n0 f0) := h0
  have HB : Hid (∀ i, i < n0 → -9223372036854775808 ≤ f0 i ∧ f0 i ≤ 9223372036854775807) := b0.2
  have hn0 : n0 ≤ 9223372036854775807 := b0.1
  have HW1 : Hid (-9223372036854775808 ≤ a1 ∧ a1 ≤ 9223372036854775807) := w1
  clear h0 b0 w1
  obtain ⟨m, hm⟩ : ∃ m, m = min (n0 / 2) 12 := ⟨_, rfl⟩
  have HM : Hid (m = min (n0 / 2) 12) := hm
  have hmb : m ≤ n0 / 2 ∧ m ≤ 12 := by omega
  clear hm
  go_enter Try.func6, Try.ntmps6
  go_wp2_with fail
  go_loopw [5, 6] (fun v i wr => ∃ q : Nat, q ≤ m ∧ i = .int .i64 ((2 * q : Nat) : Int) ∧ Ext w wr ∧ wr.ownsRow w.heap.size 3 1 v (2 * q) ((List.range (2 * q)).map (fun i => IV (f0 i)))) (fun _ i _ => 2 * m - (intOf i).toNat)
  case atStart => exact ⟨0, Nat.zero_le _, rfl, Ext.refl _, World.ownsRow_nil _ _ _ _⟩
  case round =>
    obtain ⟨q, hq, rfl, hx, hown⟩ := hrel
    obtain ⟨q2, hq2⟩ : ∃ q2, 2 * q = q2 := ⟨_, rfl⟩
    rw [hq2] at hown ⊢
    have HQ2 : Hid (2 * q = q2) := hq2
    have hq2b : q2 ≤ 24 := by omega
    have HO : Hid (wr.ownsRow w.heap.size 3 1 u5 q2 ((List.range q2).map (fun i => IV (f0 i)))) := hown
    clear hown
    by_cases hlt : q < m
    · have hq2n : q2 + 1 < n0 := by omega
      have hq2K : q2 < 24 := by omega
      obtain ⟨b, o, rfl, hcs⟩ := HH.out.at (by omega)
      have g1 := fun u : Gr wr => (hx.trans u.ext).keeps (hcs q2 (by omega))
      have g2 := fun u : Gr wr => (hx.trans u.ext).keeps (hcs (q2 + 1) (by omega))
      have i1 : (q2 : Int) + 1 < (n0 : Int) := by omega
      have hi1 : ((q2 : Int) + 1).toNat = q2 + 1 := by omega
      clear hcs hq2
      go_wp2_with fail
      refine wp_region_grows1 10 (by kernel_rfl) (by kernel_rfl) rfl _ rfl (fun _ _ _ h => h) (fun hne => ?_)
      simp only [List.take_succ_cons, List.take_zero, List.drop_succ_cons, List.drop_zero]
      repeat (go_big_quiet_step (fail))
      refine wpQuiet_nil ?_
      intro w9 hw9
      obtain ⟨q9, rfl⟩ := hw9
      clear g1 g2
      go_wp2_with (first | (at_builtin; refine append_vals _ rfl _ _ 31 rfl w.heap.size 3 (.int .i64 0) 8 Try.underlying31 infoIE rfl u5 q2 _ rfl (own_ext HO.out (q9.ext.alloc _ _)) (some ⟨q9.w'.heap.size, 0, none⟩) 2 2 (fun i => IV (if i = 0 then f0 q2 else f0 (q2 + 1))) rfl ?_ ?_ (by omega) (by omega) ?_ ?_) | go_in)
      · exact lit2 _ _ _ _ _ rfl
      · exact fun _ _ => rfl
      · exact ((hx.trans q9.ext).alloc _ _).size
      intro v' w5 hown' hgrow'
      have hx5 : Ext w w5 := ((hx.trans q9.ext).alloc _ _).grow hgrow' fun k hk => own_geS HO.out hk
      have HO5 : Hid (w5.ownsRow w.heap.size 3 1 v' (q2 + 2) ((List.range (q2 + 2)).map (fun i => IV (f0 i)))) := by
        show World.ownsRow _ _ _ _ _ _ _
        rw [← pv_append, ← two_f]
        exact hown'
      clear hown' hgrow'
      go_wp2_with fail
      go_roundw
      case rel => exact ⟨q + 1, by omega, by rw [← HQ2.out]; go_num, hx5, by rw [show 2 * (q + 1) = q2 + 2 by have := HQ2.out; omega]; exact HO5.out⟩
      case measure => simp [intOf]; have := HQ2.out; omega
    · obtain rfl : q = m := by omega
      have hM2 := HM.out
      obtain ⟨a5, c5, rfl, hI⟩ := iv_cells HO.out
      have HI : Hid (Ints wr a5 q2 f0) := hI
      obtain ⟨T, hT⟩ : ∃ T : Nat, T = (a1 % (q : Int)).toNat := ⟨_, rfl⟩
      have HT : Hid (0 < q → a1 % (q : Int) = (T : Int) ∧ T < q) := fun h => by
        have h1 := Int.emod_nonneg a1 (show (q : Int) ≠ 0 by omega)
        have h2 := Int.emod_lt_of_pos a1 (show 0 < (q : Int) by omega)
        omega
      have hdiv : (q2 : Int).tdiv 2 = (q : Int) := by rw [Int.tdiv_eq_ediv_of_nonneg (by omega)]; omega
      clear hT hI
      obtain ⟨z1, hz1⟩ : ∃ z1, z1 = wr := ⟨_, rfl⟩
      subst hz1
      by_cases h1 : q2 + 1 < n0
      · have i1 : (q2 : Int) + 1 < (n0 : Int) := by omega
        have i2 : decide ((q2 : Int) < 24) = false := decide_eq_false (by omega)
        have i3 : decide (q2 < 24) = false := decide_eq_false (by omega)
        clear hM2 hq2
        go_wp2_with fail
        go_loopw [7, 9] (fun v i wi => ∃ j : Nat, j ≤ q ∧ i = .int .i64 j ∧ Ext z1 wi ∧ wi.ownsRow z1.heap.size 3 1 v (2 * j) ((OL f0 q T j).map IV)) (fun _ i _ => q - (intOf i).toNat)
        case atStart => exact ⟨0, Nat.zero_le _, rfl, Ext.refl _, World.ownsRow_nil _ _ _ _⟩
        case round =>
          obtain ⟨j, hj, rfl, hxj, hownj⟩ := hrel
          have HOj : Hid (wr.ownsRow z1.heap.size 3 1 u7 (2 * j) ((OL f0 q T j).map IV)) := hownj
          clear hownj
          by_cases hjt : j < q
          · obtain ⟨hT1, hT2⟩ := HT.out (by omega)
            have HP := Picked_any a1 q wr (by omega) (by omega) HW1.out.1 HW1.out.2
            rw [hT1] at HP
            obtain ⟨kk, hkk⟩ : ∃ kk, sgm q T j = kk := ⟨_, rfl⟩
            have hk1 : kk < q := by rw [← hkk]; exact sgm_lt (by omega)
            have htm : ((j : Int) + (T : Int)).tmod (q : Int) = (kk : Int) := by
              rw [Int.tmod_eq_emod_of_nonneg (by omega), ← hkk]
              unfold sgm
              push_cast
              rfl
            have HKK : Hid (sgm q T j = kk) := hkk
            clear hT1 hkk
            obtain ⟨b5, o5, rfl, hcs⟩ := HI.out.at (by have := HQ2.out; omega)
            have hq0 : ((q : Int) == 0) = false := by rw [beq_eq_false_iff_ne]; omega
            go_wp2_with fail
            refine HP.mono ?_
            rintro e w6 ⟨rfl, hw6⟩
            obtain rfl : wr = w6 := hw6.symm
            have hkq : 2 * kk + 1 < q2 := by have := HQ2.out; omega
            have cx := hxj.keeps (hcs (2 * kk) (by omega))
            have cy := hxj.keeps (hcs (2 * kk + 1) hkq)
            obtain ⟨x, hx9⟩ : ∃ x, f0 (2 * kk) = x := ⟨_, rfl⟩
            obtain ⟨y, hy9⟩ : ∃ y, f0 (2 * kk + 1) = y := ⟨_, rfl⟩
            rw [hx9] at cx
            rw [hy9] at cy
            have HXY : Hid (f0 (2 * kk) = x ∧ f0 (2 * kk + 1) = y) := ⟨hx9, hy9⟩
            obtain ⟨k2, hk2⟩ : ∃ k2, 2 * kk = k2 := ⟨_, rfl⟩
            rw [hk2] at cx cy hkq
            have k1 : IntKind.i64.wrap (2 * (kk : Int)) = (k2 : Int) := by rw [← hk2]; exact wrap_i64_id _ (by omega) (by omega)
            have k3 : IntKind.i64.wrap ((k2 : Int) + 1) = (k2 : Int) + 1 := wrap_i64_id _ (by omega) (by omega)
            have k4 : ((k2 : Int) + 1).toNat = k2 + 1 := by omega
            have k5 : (0 : Int) ≤ (k2 : Int) + 1 := by omega
            have k6 : k2 < q2 := by omega
            have k7 : (k2 : Int) + 1 < (q2 : Int) := by omega
            have HLit : Hid ((wr.alloc (.cells #[.int .i64 x, .int .i64 y] 3)).ownsRow z1.heap.size 3 1 (.slice (some ⟨wr.heap.size, 0, none⟩) 2 2) 2 [.int .i64 x, .int .i64 y]) := World.ownsRow_lit wr #[.int .i64 x, .int .i64 y] 2 hxj.size (by decide) rfl
            have hoj := HOj.out
            obtain ⟨a7, c7, rfl, hc7⟩ := own_slice hoj
            have HF7 : Hid (∀ i, i < 2 * j → ∃ b o, a7 = some ⟨b, o, none⟩ ∧ (wr.alloc (.cells #[.int .i64 x, .int .i64 y] 3)).drew.cell? ⟨b, o + i, none⟩ = some (IV (gD (OL f0 q T j) i))) := fun i hi => by
              obtain ⟨b, o, h1, h2⟩ := hc7 i hi
              have hl := OL_length f0 q T j
              rw [List.getElem?_map, List.getElem?_eq_getElem (show i < (OL f0 q T j).length by omega)] at h2
              refine ⟨b, o, h1, alloc_keeps (h2.trans ?_) _⟩
              rw [gD_of (List.getElem?_eq_getElem (show i < (OL f0 q T j).length by omega))]
              rfl
            have HSz : Hid (z1.heap.size ≤ (wr.alloc (.cells #[.int .i64 x, .int .i64 y] 3)).drew.heap.size) := (hxj.alloc _ _).size
            clear hcs hx9 hy9 hoj hc7 HP
            go_wp2_with fail
            go_region_law (refine step_append_vals (wr.alloc (.cells #[.int .i64 x, .int .i64 y] 3)).drew (by rfl) (.tmp 64) (.tmp 65) 31 (by rfl) z1.heap.size 3 (.int .i64 0) 8 Try.underlying31 infoIE (by rfl) (.slice (some ⟨wr.heap.size, 0, none⟩) 2 2) 2 [.int .i64 x, .int .i64 y] (by simp [Act.eval]) HLit.out a7 (2 * j) c7 (fun i => IV (gD (OL f0 q T j) i)) (by simp [Act.eval]) HF7.out (fun _ _ => rfl) (by omega) (by omega) HSz.out ?_; intro v8 w8 hown8 hgrow8)
            all_goals
              have hx8 : Ext z1 w8 := (hxj.alloc _ _).drew.grow hgrow8 fun k hk => by cases hk; exact hxj.size
              have HO8 : Hid (w8.ownsRow z1.heap.size 3 1 v8 (2 * (j + 1)) ((OL f0 q T (j + 1)).map IV)) := by
                have hl := OL_length f0 q T j
                have e := range_gD (OL f0 q T j)
                rw [hl] at e
                rw [e] at hown8
                show World.ownsRow _ _ _ _ _ _ _
                rw [show 2 * (j + 1) = 2 + 2 * j by omega]
                simp only [OL, HKK.out, HXY.out.1, HXY.out.2]
                exact hown8
              clear hown8 hgrow8
              go_wp2_with fail
              go_roundw
              case rel => exact ⟨j + 1, by omega, by go_num, hx8, HO8.out⟩
              case measure => simp [intOf]; omega
          · have ejq : q = j := by omega
            subst ejq
            have hoj := HOj.out
            obtain ⟨a7, c7, rfl, hc7⟩ := own_slice hoj
            have HF7 : Hid (∀ i, i < 2 * q → ∃ b o, a7 = some ⟨b, o, none⟩ ∧ wr.cell? ⟨b, o + i, none⟩ = some (IV (gD (OL f0 q T q) i))) := fun i hi => by
              obtain ⟨b, o, h1, h2⟩ := hc7 i hi
              have hl := OL_length f0 q T q
              rw [List.getElem?_map, List.getElem?_eq_getElem (show i < (OL f0 q T q).length by omega)] at h2
              refine ⟨b, o, h1, h2.trans ?_⟩
              rw [gD_of (List.getElem?_eq_getElem (show i < (OL f0 q T q).length by omega))]
              rfl
            have S1 := SetOf_tag a5 q2 c5 f0 12 q wr (by omega) (by omega) (HI.out.ext hxj) (fun i hi => HB.out i (by have := HQ2.out; omega)) (by have := HQ2.out; omega)
            clear hoj hc7
            go_wp2_with fail
            refine S1.mono ?_
            rintro e z3 ⟨v3, rfl, L1, aL1, cL1, rfl, n1, m1, r1, y1, l1, hx3, t1⟩
            have HL1 : Hid (Nrm L1 ∧ (∀ k, memL k L1 ↔ SetP f0 q k) ∧ Rngs z3 aL1 L1 ∧ RTag z3 aL1) := ⟨n1, m1, r1, t1⟩
            have HO3 : Hid (z3.ownsRow z1.heap.size 3 1 (.slice a7 (2 * q) c7) (2 * q) ((OL f0 q T q).map IV)) := own_ext HOj.out hx3
            have HX3 : Hid (Ext w z3 ∧ Ext z1 z3) := ⟨hx.trans (hxj.trans hx3), hxj.trans hx3⟩
            have HF3 : Hid (∀ i, i < 2 * q → ∃ b o, a7 = some ⟨b, o, none⟩ ∧ z3.cell? ⟨b, o + i, none⟩ = some (IV (gD (OL f0 q T q) i))) := fun i hi => by
              obtain ⟨b, o, h1, h2⟩ := HF7.out i hi
              exact ⟨b, o, h1, hx3.keeps h2⟩
            clear n1 m1 r1 t1 S1 hx3 HF7 HOj
            go_wp2_with (first | (at_builtin; refine append_vals z3 rfl _ _ 31 rfl z1.heap.size 3 (.int .i64 0) 8 Try.underlying31 infoIE rfl (.slice a7 (2 * q) c7) (2 * q) _ rfl HO3.out a7 (2 * q) c7 (fun i => IV (gD (OL f0 q T q) i)) rfl HF3.out (fun _ _ => rfl) (by omega) (by omega) HX3.out.2.size ?_) | go_in)
            intro v9 w9 hown9 hgrow9
            have hl := OL_length f0 q T q
            have e9 := range_gD (OL f0 q T q)
            rw [hl] at e9
            rw [e9, ← List.map_append] at hown9
            have hx9 : Ext w w9 := HX3.out.1.grow hgrow9 fun k hk => by
              have h5 := (HO3.out.lt k hk).1
              have h6 := hx.size
              omega
            have r9 : Rngs w9 aL1 L1 := fun i x y hi => by
              obtain ⟨b, o, h1, h2, h3⟩ := HL1.out.2.2.1 i x y hi
              obtain ⟨cur, hcur⟩ := HL1.out.2.2.2 b o none h1
              have hne : some b ≠ (Value.slice a7 (2 * q) c7).ownBlock := fun e => by
                obtain ⟨cur2, hc2⟩ := own_block HO3.out e.symm
                rw [hcur] at hc2
                cases hc2
              exact ⟨b, o, h1, hgrow9.cell h2 hne, hgrow9.cell h3 hne⟩
            obtain ⟨a9, c9, rfl, hc9⟩ := own_slice hown9
            have i9 : Ints w9 a9 (2 * q + 2 * q) (gD (OL f0 q T q ++ OL f0 q T q)) := fun i hi => by
              obtain ⟨b, o, h1, h2⟩ := hc9 i hi
              have hl2 : i < (OL f0 q T q ++ OL f0 q T q).length := by rw [List.length_append, hl]; omega
              rw [List.getElem?_map, List.getElem?_eq_getElem hl2] at h2
              refine ⟨b, o, h1, h2.trans ?_⟩
              rw [gD_of (List.getElem?_eq_getElem hl2)]
              rfl
            have hb9 : ∀ i, i < 2 * q + 2 * q → -9223372036854775808 ≤ gD (OL f0 q T q ++ OL f0 q T q) i ∧ gD (OL f0 q T q ++ OL f0 q T q) i ≤ 9223372036854775807 := fun i hi => by
              obtain ⟨p, hp, e1, e2⟩ := dbl_get f0 (m := q) (T := T) (i := i / 2) (by omega)
              have h7 := HQ2.out
              rcases (show i = 2 * (i / 2) ∨ i = 2 * (i / 2) + 1 by omega) with e | e
              · rw [e, e1]; exact HB.out _ (by omega)
              · rw [e, e2]; exact HB.out _ (by omega)
            have S2 := SetOf_any a9 (2 * q + 2 * q) c9 (gD (OL f0 q T q ++ OL f0 q T q)) 24 (2 * q) w9 (by omega) (by omega) i9 hb9 (by omega)
            have HX9 : Hid (Ext w w9) := hx9
            have HR9 : Hid (Rngs w9 aL1 L1) := r9
            clear hl e9 hown9 hgrow9 hx9 r9 hc9 i9 hb9
            go_wp2_with fail
            refine S2.mono ?_
            rintro e z4 ⟨v4, rfl, L2, aL2, cL2, rfl, n2, m2, r2, y2, l2, hx4⟩
            have eL : L1 = L2 := Nrm.uniq L1 L2 HL1.out.1 n2 fun k => by
              rw [HL1.out.2.1, m2]
              rcases Nat.eq_zero_or_pos q with e0 | e0
              · constructor
                · rintro ⟨i, hi, _⟩; omega
                · rintro ⟨i, hi, _⟩; omega
              · exact (dbl_set f0 (HT.out e0).2 k).symm
            subst eL
            have HSm := keepSameR_any aL1 aL2 L1.length cL1 cL2 L1 z4 rfl (by omega) (HR9.out.ext hx4) r2
            clear n2 m2 r2 y2 S2
            go_wp2_with fail
            refine HSm.mono ?_
            rintro e z5 ⟨rfl, hx5⟩
            go_wp2_with fail
            go_ret
            exact ⟨ret_boolS (by simp), (HX9.out.trans hx4).trans hx5⟩
      · have i1 : decide ((q2 : Int) + 1 < (n0 : Int)) = false := decide_eq_false (by omega)
        have i3 : decide (q2 + 1 < n0) = false := decide_eq_false (by omega)
        clear hM2 hq2
        go_wp2_with fail
        go_loopw [7, 9] (fun v i wi => ∃ j : Nat, j ≤ q ∧ i = .int .i64 j ∧ Ext z1 wi ∧ wi.ownsRow z1.heap.size 3 1 v (2 * j) ((OL f0 q T j).map IV)) (fun _ i _ => q - (intOf i).toNat)
        case atStart => exact ⟨0, Nat.zero_le _, rfl, Ext.refl _, World.ownsRow_nil _ _ _ _⟩
        case round =>
          obtain ⟨j, hj, rfl, hxj, hownj⟩ := hrel
          have HOj : Hid (wr.ownsRow z1.heap.size 3 1 u7 (2 * j) ((OL f0 q T j).map IV)) := hownj
          clear hownj
          by_cases hjt : j < q
          · obtain ⟨hT1, hT2⟩ := HT.out (by omega)
            have HP := Picked_any a1 q wr (by omega) (by omega) HW1.out.1 HW1.out.2
            rw [hT1] at HP
            obtain ⟨kk, hkk⟩ : ∃ kk, sgm q T j = kk := ⟨_, rfl⟩
            have hk1 : kk < q := by rw [← hkk]; exact sgm_lt (by omega)
            have htm : ((j : Int) + (T : Int)).tmod (q : Int) = (kk : Int) := by
              rw [Int.tmod_eq_emod_of_nonneg (by omega), ← hkk]
              unfold sgm
              push_cast
              rfl
            have HKK : Hid (sgm q T j = kk) := hkk
            clear hT1 hkk
            obtain ⟨b5, o5, rfl, hcs⟩ := HI.out.at (by have := HQ2.out; omega)
            have hq0 : ((q : Int) == 0) = false := by rw [beq_eq_false_iff_ne]; omega
            go_wp2_with fail
            refine HP.mono ?_
            rintro e w6 ⟨rfl, hw6⟩
            obtain rfl : wr = w6 := hw6.symm
            have hkq : 2 * kk + 1 < q2 := by have := HQ2.out; omega
            have cx := hxj.keeps (hcs (2 * kk) (by omega))
            have cy := hxj.keeps (hcs (2 * kk + 1) hkq)
            obtain ⟨x, hx9⟩ : ∃ x, f0 (2 * kk) = x := ⟨_, rfl⟩
            obtain ⟨y, hy9⟩ : ∃ y, f0 (2 * kk + 1) = y := ⟨_, rfl⟩
            rw [hx9] at cx
            rw [hy9] at cy
            have HXY : Hid (f0 (2 * kk) = x ∧ f0 (2 * kk + 1) = y) := ⟨hx9, hy9⟩
            obtain ⟨k2, hk2⟩ : ∃ k2, 2 * kk = k2 := ⟨_, rfl⟩
            rw [hk2] at cx cy hkq
            have k1 : IntKind.i64.wrap (2 * (kk : Int)) = (k2 : Int) := by rw [← hk2]; exact wrap_i64_id _ (by omega) (by omega)
            have k3 : IntKind.i64.wrap ((k2 : Int) + 1) = (k2 : Int) + 1 := wrap_i64_id _ (by omega) (by omega)
            have k4 : ((k2 : Int) + 1).toNat = k2 + 1 := by omega
            have k5 : (0 : Int) ≤ (k2 : Int) + 1 := by omega
            have k6 : k2 < q2 := by omega
            have k7 : (k2 : Int) + 1 < (q2 : Int) := by omega
            have HLit : Hid ((wr.alloc (.cells #[.int .i64 x, .int .i64 y] 3)).ownsRow z1.heap.size 3 1 (.slice (some ⟨wr.heap.size, 0, none⟩) 2 2) 2 [.int .i64 x, .int .i64 y]) := World.ownsRow_lit wr #[.int .i64 x, .int .i64 y] 2 hxj.size (by decide) rfl
            have hoj := HOj.out
            obtain ⟨a7, c7, rfl, hc7⟩ := own_slice hoj
            have HF7 : Hid (∀ i, i < 2 * j → ∃ b o, a7 = some ⟨b, o, none⟩ ∧ (wr.alloc (.cells #[.int .i64 x, .int .i64 y] 3)).drew.cell? ⟨b, o + i, none⟩ = some (IV (gD (OL f0 q T j) i))) := fun i hi => by
              obtain ⟨b, o, h1, h2⟩ := hc7 i hi
              have hl := OL_length f0 q T j
              rw [List.getElem?_map, List.getElem?_eq_getElem (show i < (OL f0 q T j).length by omega)] at h2
              refine ⟨b, o, h1, alloc_keeps (h2.trans ?_) _⟩
              rw [gD_of (List.getElem?_eq_getElem (show i < (OL f0 q T j).length by omega))]
              rfl
            have HSz : Hid (z1.heap.size ≤ (wr.alloc (.cells #[.int .i64 x, .int .i64 y] 3)).drew.heap.size) := (hxj.alloc _ _).size
            clear hcs hx9 hy9 hoj hc7 HP
            go_wp2_with fail
            go_region_law (refine step_append_vals (wr.alloc (.cells #[.int .i64 x, .int .i64 y] 3)).drew (by rfl) (.tmp 64) (.tmp 65) 31 (by rfl) z1.heap.size 3 (.int .i64 0) 8 Try.underlying31 infoIE (by rfl) (.slice (some ⟨wr.heap.size, 0, none⟩) 2 2) 2 [.int .i64 x, .int .i64 y] (by simp [Act.eval]) HLit.out a7 (2 * j) c7 (fun i => IV (gD (OL f0 q T j) i)) (by simp [Act.eval]) HF7.out (fun _ _ => rfl) (by omega) (by omega) HSz.out ?_; intro v8 w8 hown8 hgrow8)
            all_goals
              have hx8 : Ext z1 w8 := (hxj.alloc _ _).drew.grow hgrow8 fun k hk => by cases hk; exact hxj.size
              have HO8 : Hid (w8.ownsRow z1.heap.size 3 1 v8 (2 * (j + 1)) ((OL f0 q T (j + 1)).map IV)) := by
                have hl := OL_length f0 q T j
                have e := range_gD (OL f0 q T j)
                rw [hl] at e
                rw [e] at hown8
                show World.ownsRow _ _ _ _ _ _ _
                rw [show 2 * (j + 1) = 2 + 2 * j by omega]
                simp only [OL, HKK.out, HXY.out.1, HXY.out.2]
                exact hown8
              clear hown8 hgrow8
              go_wp2_with fail
              go_roundw
              case rel => exact ⟨j + 1, by omega, by go_num, hx8, HO8.out⟩
              case measure => simp [intOf]; omega
          · have ejq : q = j := by omega
            subst ejq
            have hoj := HOj.out
            obtain ⟨a7, c7, rfl, hc7⟩ := own_slice hoj
            have HF7 : Hid (∀ i, i < 2 * q → ∃ b o, a7 = some ⟨b, o, none⟩ ∧ wr.cell? ⟨b, o + i, none⟩ = some (IV (gD (OL f0 q T q) i))) := fun i hi => by
              obtain ⟨b, o, h1, h2⟩ := hc7 i hi
              have hl := OL_length f0 q T q
              rw [List.getElem?_map, List.getElem?_eq_getElem (show i < (OL f0 q T q).length by omega)] at h2
              refine ⟨b, o, h1, h2.trans ?_⟩
              rw [gD_of (List.getElem?_eq_getElem (show i < (OL f0 q T q).length by omega))]
              rfl
            have S1 := SetOf_tag a5 q2 c5 f0 12 q wr (by omega) (by omega) (HI.out.ext hxj) (fun i hi => HB.out i (by have := HQ2.out; omega)) (by have := HQ2.out; omega)
            clear hoj hc7
            go_wp2_with fail
            refine S1.mono ?_
            rintro e z3 ⟨v3, rfl, L1, aL1, cL1, rfl, n1, m1, r1, y1, l1, hx3, t1⟩
            have HL1 : Hid (Nrm L1 ∧ (∀ k, memL k L1 ↔ SetP f0 q k) ∧ Rngs z3 aL1 L1 ∧ RTag z3 aL1) := ⟨n1, m1, r1, t1⟩
            have HO3 : Hid (z3.ownsRow z1.heap.size 3 1 (.slice a7 (2 * q) c7) (2 * q) ((OL f0 q T q).map IV)) := own_ext HOj.out hx3
            have HX3 : Hid (Ext w z3 ∧ Ext z1 z3) := ⟨hx.trans (hxj.trans hx3), hxj.trans hx3⟩
            have HF3 : Hid (∀ i, i < 2 * q → ∃ b o, a7 = some ⟨b, o, none⟩ ∧ z3.cell? ⟨b, o + i, none⟩ = some (IV (gD (OL f0 q T q) i))) := fun i hi => by
              obtain ⟨b, o, h1, h2⟩ := HF7.out i hi
              exact ⟨b, o, h1, hx3.keeps h2⟩
            clear n1 m1 r1 t1 S1 hx3 HF7 HOj
            go_wp2_with (first | (at_builtin; refine append_vals z3 rfl _ _ 31 rfl z1.heap.size 3 (.int .i64 0) 8 Try.underlying31 infoIE rfl (.slice a7 (2 * q) c7) (2 * q) _ rfl HO3.out a7 (2 * q) c7 (fun i => IV (gD (OL f0 q T q) i)) rfl HF3.out (fun _ _ => rfl) (by omega) (by omega) HX3.out.2.size ?_) | go_in)
            intro v9 w9 hown9 hgrow9
            have hl := OL_length f0 q T q
            have e9 := range_gD (OL f0 q T q)
            rw [hl] at e9
            rw [e9, ← List.map_append] at hown9
            have hx9 : Ext w w9 := HX3.out.1.grow hgrow9 fun k hk => by
              have h5 := (HO3.out.lt k hk).1
              have h6 := hx.size
              omega
            have r9 : Rngs w9 aL1 L1 := fun i x y hi => by
              obtain ⟨b, o, h1, h2, h3⟩ := HL1.out.2.2.1 i x y hi
              obtain ⟨cur, hcur⟩ := HL1.out.2.2.2 b o none h1
              have hne : some b ≠ (Value.slice a7 (2 * q) c7).ownBlock := fun e => by
                obtain ⟨cur2, hc2⟩ := own_block HO3.out e.symm
                rw [hcur] at hc2
                cases hc2
              exact ⟨b, o, h1, hgrow9.cell h2 hne, hgrow9.cell h3 hne⟩
            obtain ⟨a9, c9, rfl, hc9⟩ := own_slice hown9
            have i9 : Ints w9 a9 (2 * q + 2 * q) (gD (OL f0 q T q ++ OL f0 q T q)) := fun i hi => by
              obtain ⟨b, o, h1, h2⟩ := hc9 i hi
              have hl2 : i < (OL f0 q T q ++ OL f0 q T q).length := by rw [List.length_append, hl]; omega
              rw [List.getElem?_map, List.getElem?_eq_getElem hl2] at h2
              refine ⟨b, o, h1, h2.trans ?_⟩
              rw [gD_of (List.getElem?_eq_getElem hl2)]
              rfl
            have hb9 : ∀ i, i < 2 * q + 2 * q → -9223372036854775808 ≤ gD (OL f0 q T q ++ OL f0 q T q) i ∧ gD (OL f0 q T q ++ OL f0 q T q) i ≤ 9223372036854775807 := fun i hi => by
              obtain ⟨p, hp, e1, e2⟩ := dbl_get f0 (m := q) (T := T) (i := i / 2) (by omega)
              have h7 := HQ2.out
              rcases (show i = 2 * (i / 2) ∨ i = 2 * (i / 2) + 1 by omega) with e | e
              · rw [e, e1]; exact HB.out _ (by omega)
              · rw [e, e2]; exact HB.out _ (by omega)
            have S2 := SetOf_any a9 (2 * q + 2 * q) c9 (gD (OL f0 q T q ++ OL f0 q T q)) 24 (2 * q) w9 (by omega) (by omega) i9 hb9 (by omega)
            have HX9 : Hid (Ext w w9) := hx9
            have HR9 : Hid (Rngs w9 aL1 L1) := r9
            clear hl e9 hown9 hgrow9 hx9 r9 hc9 i9 hb9
            go_wp2_with fail
            refine S2.mono ?_
            rintro e z4 ⟨v4, rfl, L2, aL2, cL2, rfl, n2, m2, r2, y2, l2, hx4⟩
            have eL : L1 = L2 := Nrm.uniq L1 L2 HL1.out.1 n2 fun k => by
              rw [HL1.out.2.1, m2]
              rcases Nat.eq_zero_or_pos q with e0 | e0
              · constructor
                · rintro ⟨i, hi, _⟩; omega
                · rintro ⟨i, hi, _⟩; omega
              · exact (dbl_set f0 (HT.out e0).2 k).symm
            subst eL
            have HSm := keepSameR_any aL1 aL2 L1.length cL1 cL2 L1 z4 rfl (by omega) (HR9.out.ext hx4) r2
            clear n2 m2 r2 y2 S2
            go_wp2_with fail
            refine HSm.mono ?_
            rintro e z5 ⟨rfl, hx5⟩
            go_wp2_with fail
            go_ret
            exact ⟨ret_boolS (by simp), (HX9.out.trans hx4).trans hx5⟩
end Go.Proofs.Ytfekiccjcfdmkaa.spanSame
