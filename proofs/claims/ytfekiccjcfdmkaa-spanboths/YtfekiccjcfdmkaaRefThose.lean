/-
  quicksetref.those: the ranges between places of which the first is so; in new memory.
-/
import Derived.Test.YtfekiccjcfdmkaaChecked
import Derived.WalkKit
import Derived.BigQuiet
import Derived.Test.YtfekiccjcfdmkaaEndsMath
import Derived.Test.YtfekiccjcfdmkaaRefEnds
import Derived.Test.YtfekiccjcfdmkaaQuiets
namespace Go.Proofs.Ytfekiccjcfdmkaa
open Go.RowKit Go.Deep
def ThoRes (P : List Int) (sf : Int → Bool) (v : Value) (er : Int) (w' : World) : Prop :=
  ∃ L, Tho P sf (P.length - 1) L ∧ ((200 < L.length ∧ v = .slice none 0 0 ∧ er = 8) ∨ (L.length ≤ 200 ∧ er = 0 ∧ ∃ a c, v = .slice a L.length c ∧ Rngs w' a L))
/-- the last of pairs, in memory -/
theorem own_last {w : World} {base : Nat} {v : Value} {m : Nat} {M : List (Int × Int)} {a x : Int} (hm : M.length = m) (h : w.ownsRow base 24 2 v (m + 1) (fl (M ++ [(a, x)]))) : ∃ g cap, v = .slice (some ⟨g, 0, none⟩) (m + 1) cap ∧ base ≤ g ∧ w.cell? ⟨g, m * 2 + 1, none⟩ = some (.int .i64 x) ∧ w.frozen? ⟨g, m * 2 + 1, none⟩ = false ∧
    ∀ y, (w.setCell ⟨g, m * 2 + 1, none⟩ (.int .i64 y)).ownsRow base 24 2 v (m + 1) (fl (M ++ [(a, y)])) := by
  obtain ⟨g, cap, rfl, hg, _⟩ := h.form (by omega)
  refine ⟨g, cap, rfl, hg, ?_, h.frozenAt _, fun y => ?_⟩
  · rw [h.cellAt _ (by omega)]
    exact (fl_get (i := m) (x := a) (by rw [List.getElem?_append_right (by omega), hm]; simp)).2
  · have := (h.stored (m * 2 + 1) (.int .i64 y)).1
    have e : (fl (M ++ [(a, x)])).set (m * 2 + 1) (.int .i64 y) = fl (M ++ [(a, y)]) := by
      rw [fl_append, fl_append, List.set_append_right _ _ (by rw [fl_length, hm]; omega), fl_length, hm, show m * 2 + 1 - m * 2 = 1 by omega]
      rfl
    rw [e] at this
    exact this
set_option maxRecDepth 100000 in
set_option maxHeartbeats 1600000 in
theorem those_any (g : Nat) (p1 p2 : Addr) (sf : Int → Bool) (a : Option Addr) (n c : Nat) (P : List Int) (w : World) (hl : P.length = n) (hn : n ≤ 1000) (hu : Up P) (hP : ∀ i z, P[i]? = some z → ∃ b o, a = some ⟨b, o, none⟩ ∧ w.cell? ⟨b, o + i, none⟩ = some (.int .i64 z))
    (eg : ∀ args w, (callFunc g args).run Try.prog w = .ok (.enter g args) w) (hw : ∀ x w', Ext w w' → Calls Try.prog g #[.int .i64 x, .pointer (some p1), .pointer (some p2)] w' fun e w'' => e = .returned (.bool (sf x)) ∧ Ext w' w'') :
    Calls Try.prog 27 #[.slice a n c, .func (.func g) #[] #[.pointer (some p1), .pointer (some p2)]] w fun e w' => ∃ v er, e = .returned (.tuple #[v, .int .i64 er]) ∧ ThoRes P sf v er w' ∧ Ext w w' := by
  have HN : Hid (P.length = n) := hl
  have HU : Hid (Up P) := hu
  have HP : Hid (∀ i z, P[i]? = some z → ∃ b o, a = some ⟨b, o, none⟩ ∧ w.cell? ⟨b, o + i, none⟩ = some (.int .i64 z)) := hP
  have HW : Hid (∀ x w', Ext w w' → Calls Try.prog g #[.int .i64 x, .pointer (some p1), .pointer (some p2)] w' fun e w'' => e = .returned (.bool (sf x)) ∧ Ext w' w'') := hw
  clear hl hu hP hw
  go_enter Try.func27, Try.ntmps27
  go_wp2_with fail
  go_loopw [6, 7] (fun v i wr => ∃ (q : Nat) (L : List (Int × Int)), q ≤ n - 1 ∧ i = .int .i64 q ∧ Tho P sf q L ∧ Ext w wr ∧ wr.ownsRow w.heap.size 24 2 v L.length (fl L)) (fun _ i _ => n - (intOf i).toNat)
  case atStart => exact ⟨0, [], Nat.zero_le _, rfl, Tho.start P sf, Ext.refl _, World.ownsRow_nil _ _ _ _⟩
  case round =>
    obtain ⟨q, L, hq, rfl, htho, hx, hown⟩ := hrel
    have HT : Hid (Tho P sf q L) := htho
    have HO : Hid (wr.ownsRow w.heap.size 24 2 u6 L.length (fl L)) := hown
    have hLq := htho.len
    clear htho hown
    by_cases hlt : q + 1 < n
    · obtain ⟨x, hx1⟩ : ∃ x, P[q]? = some x := ⟨_, List.getElem?_eq_getElem (by rw [HN.out]; omega)⟩
      obtain ⟨y, hy1⟩ : ∃ y, P[q + 1]? = some y := ⟨_, List.getElem?_eq_getElem (by rw [HN.out]; omega)⟩
      obtain ⟨b, o, rfl, hc1⟩ := HP.out q x hx1
      obtain ⟨b', o', hb', hc2⟩ := HP.out (q + 1) y hy1
      cases hb'
      have hd1 := hx.keeps hc1
      have HC1 : Hid (w.cell? ⟨b, o + q, none⟩ = some (.int .i64 x)) := hc1
      have HC2 : Hid (w.cell? ⟨b, o + (q + 1), none⟩ = some (.int .i64 y)) := hc2
      have HX : Hid (P[q]? = some x) := hx1
      have HY : Hid (P[q + 1]? = some y) := hy1
      clear hx1 hy1 hc1 hc2
      have hcw := HW.out x wr hx
      have i1 : (q : Int) + 1 < (n : Int) := by omega
      cases hv : sf x with
      | false =>
        rw [hv] at hcw
        have HV : Hid (sf x = false) := hv
        clear hv
        go_wp2_with fail
        refine hcw.mono ?_
        rintro e w1 ⟨rfl, hx1⟩
        go_wp2_with fail
        go_roundw
        case rel => exact ⟨q + 1, L, by omega, by go_num, HT.out.skip HU.out HX.out HV.out, hx.trans hx1, own_ext HO.out hx1⟩
        case measure => simp [intOf]; omega
      | true =>
        rw [hv] at hcw
        have HV : Hid (sf x = true) := hv
        clear hv
        rcases List.eq_nil_or_concat L with rfl | ⟨M, r, hr⟩
        · obtain ⟨_, aL, cL, rfl, _⟩ := own_rngs HO.out
          go_wp2_with fail
          refine hcw.mono ?_
          rintro e w1 ⟨rfl, hx1⟩
          have hxx := hx.trans hx1
          have gd1 := hxx.keeps HC1.out
          have gd2 := hxx.keeps HC2.out
          have HO1 : Hid (w1.ownsRow w.heap.size 24 2 (.slice aL 0 cL) 0 (fl [])) := own_ext HO.out hx1
          clear hd1 hcw
          go_wp2_with fail
          go_quiet (fail)
          go_wp2_with fail
          have g1 : ∀ k (y9 : Gr (w1.drewN k)), y9.w'.cell? ⟨b, o + q, none⟩ = some (.int .i64 x) := fun k y9 => (((Ext.refl w1).drewN k).trans y9.ext).keeps gd1
          have g2 : ∀ k (y9 : Gr (w1.drewN k)), y9.w'.cell? ⟨b, o + (q + 1), none⟩ = some (.int .i64 y) := fun k y9 => (((Ext.refl w1).drewN k).trans y9.ext).keeps gd2
          clear gd1 gd2
          refine wp_region_grows1 11 (by kernel_rfl) (by kernel_rfl) rfl _ rfl (fun _ _ _ h => h) (fun hne => ?_)
          simp only [List.take_succ_cons, List.take_zero, List.drop_succ_cons, List.drop_zero]
          repeat (go_big_quiet_step (fail))
          refine wpQuiet_nil ?_
          intro w9 hw9
          obtain ⟨q9, rfl⟩ := hw9
          have x9 : Ext w1 q9.w' := ((Ext.refl w1).drewN _).trans q9.ext
          clear g1 g2
          go_wp2_with (first | (at_builtin; refine append_prs _ rfl _ _ 22 rfl w.heap.size 24 (.agg #[.int .i64 0, .int .i64 0]) 16 Try.underlying22 infoR rfl (.slice aL 0 cL) 0 [] rfl (own_ext HO1.out (x9.alloc _ _)) _ 1 1 [(x, y)] rfl rfl ?_ (by omega) (by omega) (by omega) ?_ ?_) | go_in)
          · exact pair_news _ _ rfl _ _ _
          · exact ((hxx.trans x9).alloc _ _).size
          intro v' w5 hown' hgrow'
          have hx5 : Ext w w5 := ((hxx.trans x9).alloc _ _).grow hgrow' fun k hk => own_geS HO1.out hk
          have HO5 : Hid (w5.ownsRow w.heap.size 24 2 v' (0 + 1) (fl ([] ++ [(x, y)]))) := hown'
          clear hown' hgrow'
          go_wp2_with fail
          go_roundw
          case rel => exact ⟨q + 1, [] ++ [(x, y)], by omega, by go_num, HT.out.new HU.out HX.out HY.out HV.out (fun M r e => by simp at e), hx5, by rw [List.length_append]; first | exact HO5.out | (rw [List.length_append, HMl.out, List.append_assoc]; exact HO5.out)⟩
          case measure => simp [intOf]; omega
        · obtain ⟨a0, x0⟩ := r
          obtain ⟨m, hm⟩ : ∃ m, M.length = m := ⟨_, rfl⟩
          rw [List.concat_eq_append] at hr
          have hlm : L.length = m + 1 := by rw [hr, List.length_append, hm]; rfl
          have ho := HO.out
          rw [hlm, hr] at ho
          have hT := HT.out
          rw [hr] at hT
          have HT2 : Hid (Tho P sf q (M ++ [(a0, x0)])) := hT
          have HMl : Hid (M.length = m) := hm
          have hm1 : m + 1 ≤ q := by rw [← hlm]; exact hLq
          clear hlm hT hm hr HO HT
          obtain ⟨gL, cL, rfl, hgL, _⟩ := own_last HMl.out ho
          go_wp2_with fail
          refine hcw.mono ?_
          rintro e w1 ⟨rfl, hx1⟩
          have hxx := hx.trans hx1
          have gd1 := hxx.keeps HC1.out
          have gd2 := hxx.keeps HC2.out
          have HO1 : Hid (w1.ownsRow w.heap.size 24 2 (.slice (some ⟨gL, 0, none⟩) (m + 1) cL) (m + 1) (fl (M ++ [(a0, x0)]))) := own_ext ho hx1
          obtain ⟨gL', cL', hv', _, hcl, hfr, hset⟩ := own_last HMl.out HO1.out
          cases hv'
          have HS : Hid (∀ y, (w1.setCell ⟨gL, m * 2 + 1, none⟩ (.int .i64 y)).ownsRow w.heap.size 24 2 (.slice (some ⟨gL, 0, none⟩) (m + 1) cL) (m + 1) (fl (M ++ [(a0, y)]))) := hset
          clear hd1 hcw ho hset
          have dG : decide (0 < m + 1) = true := by simp
          have dG2 : decide ((0 : Int) < (m : Int) + 1) = true := decide_eq_true (by omega)
          have i2 : (m : Int) + 1 - 1 = (m : Int) := by omega
          have i3 : (m : Int) < (m : Int) + 1 := by omega
          by_cases hxe : x0 = x
          · subst hxe
            go_wp2_with fail
            go_quiet (fail)
            go_wp2_with fail
            go_roundw
            case rel => exact ⟨q + 1, M ++ [(a0, y)], by omega, by go_num, HT2.out.more HU.out HX.out HY.out HV.out, (hxx.drewN _).setCell (p := ⟨gL, m * 2 + 1, none⟩) hgL _, by rw [List.length_append, HMl.out]; exact HS.out y⟩
            case measure => simp [intOf]; omega
          · have dX : (x0 == x) = false := by simp [hxe]
            have HNe : Hid (x0 ≠ x) := hxe
            clear hxe
            go_wp2_with fail
            go_quiet (fail)
            clear dX hcl hfr
            go_wp2_with fail
            have g1 : ∀ k (y9 : Gr (w1.drewN k)), y9.w'.cell? ⟨b, o + q, none⟩ = some (.int .i64 x) := fun k y9 => (((Ext.refl w1).drewN k).trans y9.ext).keeps gd1
            have g2 : ∀ k (y9 : Gr (w1.drewN k)), y9.w'.cell? ⟨b, o + (q + 1), none⟩ = some (.int .i64 y) := fun k y9 => (((Ext.refl w1).drewN k).trans y9.ext).keeps gd2
            clear gd1 gd2
            refine wp_region_grows1 11 (by kernel_rfl) (by kernel_rfl) rfl _ rfl (fun _ _ _ h => h) (fun hne => ?_)
            simp only [List.take_succ_cons, List.take_zero, List.drop_succ_cons, List.drop_zero]
            repeat (go_big_quiet_step (fail))
            refine wpQuiet_nil ?_
            intro w9 hw9
            obtain ⟨q9, rfl⟩ := hw9
            have x9 : Ext w1 q9.w' := ((Ext.refl w1).drewN _).trans q9.ext
            clear g1 g2
            go_wp2_with (first | (at_builtin; refine append_prs _ rfl _ _ 22 rfl w.heap.size 24 (.agg #[.int .i64 0, .int .i64 0]) 16 Try.underlying22 infoR rfl (.slice (some ⟨gL, 0, none⟩) (m + 1) cL) (m + 1) (M ++ [(a0, x0)]) rfl (own_ext HO1.out (x9.alloc _ _)) _ 1 1 [(x, y)] rfl rfl ?_ (by omega) (by omega) (by omega) ?_ ?_) | go_in)
            · exact pair_news _ _ rfl _ _ _
            · exact ((hxx.trans x9).alloc _ _).size
            intro v' w5 hown' hgrow'
            have hx5 : Ext w w5 := ((hxx.trans x9).alloc _ _).grow hgrow' fun k hk => own_geS HO1.out hk
            have HO5 : Hid _ := hown'
            clear hown' hgrow'
            go_wp2_with fail
            go_roundw
            case rel => exact ⟨q + 1, (M ++ [(a0, x0)]) ++ [(x, y)], by omega, by go_num, HT2.out.new HU.out HX.out HY.out HV.out (fun M' r' e => by obtain ⟨_, e2⟩ := List.append_inj' e rfl; cases e2; exact HNe.out), hx5, by rw [List.length_append]; first | exact HO5.out | (rw [List.length_append, HMl.out, List.append_assoc]; exact HO5.out)⟩
            case measure => simp [intOf]; omega
    · have HE : Hid (Tho P sf (P.length - 1) L) := by
        show Tho _ _ _ _
        rw [HN.out, show n - 1 = q by omega]
        exact HT.out
      obtain ⟨_, aL, cL, rfl, hr⟩ := own_rngs HO.out
      have HR : Hid (Rngs wr aL L) := hr
      clear hr HT HO
      have i1 : ¬ (q : Int) + 1 < (n : Int) := by omega
      by_cases h200 : L.length ≤ 200
      · go_wp2_with fail
        go_ret2
        exact ⟨_, _, rfl, ⟨L, HE.out, Or.inr ⟨h200, rfl, _, _, rfl, HR.out⟩⟩, hx⟩
      · go_wp2_with fail
        go_ret2
        exact ⟨_, _, rfl, ⟨L, HE.out, Or.inl ⟨by omega, rfl, rfl⟩⟩, hx⟩
end Go.Proofs.Ytfekiccjcfdmkaa
