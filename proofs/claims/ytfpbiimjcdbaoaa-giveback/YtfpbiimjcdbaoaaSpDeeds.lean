/-
  quicksetkeep.Deeds: deeds made of wishes, and what they come to, all in new memory.
-/
import Derived.Test.YtfpbiimjcdbaoaaChecked
import Derived.WalkKit
import Derived.BigQuiet
import Derived.Deep.RegionLaw
import Derived.Deep.CutRange
import Derived.Deep.DeepCutAuto
import Derived.Deep.LoopGhost
import Derived.Deep.CutBlock
import Derived.Test.YtfpbiimjcdbaoaaKeepPick
import Derived.Test.YtfpbiimjcdbaoaaSpacePl
import Derived.Test.YtfpbiimjcdbaoaaPlayMath5
import Derived.Test.YtfpbiimjcdbaoaaSubTwo2
import Derived.Test.YtfpbiimjcdbaoaaSpaceOpen
namespace Go.Proofs.Ytfpbiimjcdbaoaa
open Go.RowKit Go.Deep
/-- ahead of wish q -/
structure DdI (w : World) (n q : Nat) (D : List (Int × Int × Int)) (T : List (Int × Int)) (vd vt : Value) (wr : World) : Prop where
  ext : Ext w wr
  len : D.length = q
  ok : ∀ d, d ∈ D → DeedOk n d
  tk : ∀ r, r ∈ T → 0 ≤ r.1 ∧ r.1 < r.2 ∧ r.2 ≤ (n : Int)
  few : T.length ≤ q
  out : wr.ownsRow w.heap.size 31 3 vd q (fl3 (fndV D))
  tks : wr.ownsRow w.heap.size 53 2 vt T.length (fl T)
/-- what Deeds tells -/
def DdRes (n K : Nat) (e : Ending) (w' : World) : Prop :=
  ∃ (D : List (Int × Int × Int)) (a b c : Option Addr) (ca cb cc : Nat), D.length ≤ K ∧ (∀ d, d ∈ D → DeedOk n d) ∧
    e = .returned (.tuple #[.slice a D.length ca, .slice b D.length cb, .slice c (playL n (fun _ => 0) D).2.length cc, .bool true]) ∧
    Tri w' a (fndV D) ∧ Tri w' b (fndV (playL n (fun _ => 0) D).1) ∧ Tri w' c (recV (playL n (fun _ => 0) D).2)
theorem infoDd3 : (Try.prog.info? 31).map (fun i => (i.zero, i.size, i.bytes)) = some (some (.agg #[.int .i64 0, .int .i64 0, .int .i64 0]), 3, 24) := by kernel_rfl
theorem infoRng2 : (Try.prog.info? 53).map (fun i => (i.zero, i.size, i.bytes)) = some (some (.agg #[.int .i64 0, .int .i64 0]), 2, 16) := by kernel_rfl
theorem pair_new (W : World) (g : Nat) (hg : g = W.heap.size) (x y : Int) (t : TypeId) : Rngs (W.alloc (.cells #[.int .i64 x, .int .i64 y] t)) (some ⟨g, 0, none⟩) [(x, y)] := by
  subst hg
  exact rngs_one (new_cell W #[.int .i64 x, .int .i64 y] t 0) (new_cell W #[.int .i64 x, .int .i64 y] t 1)
theorem snoc_all {α : Type} {p : α → Prop} {L : List α} {x : α} (h : ∀ r, r ∈ L → p r) (hx : p x) : ∀ r, r ∈ L ++ [x] → p r := fun r hr => by
  rcases List.mem_append.1 hr with h1 | h1
  · exact h r h1
  · rw [List.mem_singleton.1 h1]; exact hx
theorem cellsRng : Try.prog.cellsOf 53 = 2 := by kernel_rfl
theorem fndV_one3 (L : List (Int × Int × Int)) : one3 (fndV L) := fun r hr => by
  obtain ⟨s, _, rfl⟩ := List.mem_map.1 hr
  exact ⟨rfl, rfl, rfl⟩
theorem own_cap2 {w : World} {base : Nat} {e : TypeId} {v : Value} {n : Nat} {xs : List Value} (h : w.ownsRow base e 2 v n xs) {a : Option Addr} {c : Nat} (hv : v = .slice a n c) : n ≤ c ∧ c ≤ 9223372036854775807 := by
  obtain ⟨_, h2⟩ := h
  rcases h2 with ⟨h3, h4⟩ | ⟨g, cap, cur, h3, _, _, h5, h6, _⟩
  · rw [hv] at h3; cases h3; omega
  · rw [hv] at h3; cases h3
    have : c ≤ 9223372036854775807 := h6
    omega
theorem results_tmp4 {fn : Func} {t u v x : Tmp} (h : fn.results = #[.tmp t, .tmp u, .tmp v, .tmp x]) (tmps : Array Value) (P : Program) (w : World) :
    (results fn tmps).run P w = .ok (.tuple #[tmps.getD t undef, tmps.getD u undef, tmps.getD v undef, tmps.getD x undef]) w := by
  simp [results, h]
theorem play_told {n q : Nat} {D : List (Int × Int × Int)} {v u : Value} {er : Int} {w' : World} (h : PlayRes (playQ (n : Int) D) v u er w') (hD : D.length = q) (hn : 1 ≤ n ∧ n ≤ 100) (hq : q ≤ 300) :
    er = 0 ∧ ∃ a b c d m, v = .slice a q c ∧ u = .slice b m d ∧ (playL n (fun _ => 0) D).2.length = m ∧ m ≤ 1228800 ∧ Tri w' a (fndV (playL n (fun _ => 0) D).1) ∧ Tri w' b (recV (playL n (fun _ => 0) D).2) := by
  have hz : szB (n : Int) = true := by unfold szB; simp; omega
  have e : playQ (n : Int) D = .inr (playL n (fun _ => 0) D) := by
    unfold playQ
    rw [hz, if_pos rfl, if_pos (by omega), Int.toNat_natCast]
  rw [e] at h
  obtain ⟨h1, ⟨_, h2⟩, a, b, c, d, h3, h4, h5, h6⟩ := h
  rw [playL_len, hD] at h3
  exact ⟨h1, a, b, c, d, _, h3, h4, rfl, h2, h5, h6⟩
set_option maxRecDepth 100000 in
set_option maxHeartbeats 1600000 in
theorem Deeds_any (a : Option Addr) (m c : Nat) (L : List (Int × Int × Int)) (K n : Nat) (w : World) (hl : L.length = m) (hm : m ≤ 9223372036854775807) (h : Tri w a (fndV L)) (hb : ∀ r, r ∈ L → InI64 r.1 ∧ InI64 r.2.1 ∧ InI64 r.2.2) (hK : K ≤ 60) (hn : 1 ≤ n ∧ n ≤ 100) :
    Calls Try.prog 8 #[.slice a m c, .int .i64 K, .int .i64 n] w fun e w' => DdRes n K e w' ∧ Ext w w' := by
  have HL : Hid (L.length = m) := hl
  have HR : Hid (Tri w a (fndV L)) := h
  have HB : Hid (∀ r, r ∈ L → InI64 r.1 ∧ InI64 r.2.1 ∧ InI64 r.2.2) := hb
  clear h hb hl
  go_enter Try.func8, Try.ntmps8
  go_wp2_with fail
  go_loopg [10, 11, 12] (m + 1) (fun k vd vt i wr => ∃ (q : Nat) (D : List (Int × Int × Int)) (T : List (Int × Int)), k = m - q + 1 ∧ q ≤ m ∧ q ≤ K ∧ i = .int .i64 q ∧ DdI w n q D T vd vt wr)
  case atStart => exact ⟨0, [], [], rfl, Nat.zero_le _, Nat.zero_le _, rfl, Ext.refl _, rfl, fun _ h => by simp at h, fun _ h => by simp at h, Nat.le_refl _, World.ownsRow_nil _ _ _ _, World.ownsRow_nil _ _ _ _⟩
  case round =>
    obtain ⟨q, D, T, hk, hq, hqK, rfl, hd⟩ := hrel
    have HD : Hid (DdI w n q D T u10 u11 wr) := hd
    have HGK : Hid (gk = m - q + 1) := hk
    clear hd hk
    by_cases hlt : q < m
    · by_cases hltK : q < K
      · obtain ⟨⟨wk, ww, wz⟩, h1, h2, h3⟩ := drop_at (L := L) (k := q) (by rw [HL.out]; exact hlt)
        have hbd := HB.out _ h3
        unfold InI64 at hbd
        simp only at hbd
        obtain ⟨b, o, rfl, hc0, hc1, hc2⟩ := deed_at (HR.out.ext HD.out.ext) h1
        obtain ⟨C, hC, hC1⟩ := picked_is wz 12 (by omega)
        obtain ⟨kk, hkk, hkk1⟩ := picked_is wk 8 (by omega)
        have HC : Hid (wz % 12 = (C : Int)) := hC
        have HKK : Hid (wk % 8 = (kk : Int)) := hkk
        obtain ⟨hb1, hb2, hb3⟩ := hbd
        have hb0 := World.block_lt_of_cell? _ _ hc0
        have hqi : (q : Int) < (m : Int) := by omega
        have hqKi : (q : Int) < (K : Int) := by omega
        clear h1 h2 h3 hC hkk
        go_wp2_with fail
        refine (Picked_bd wz 12 C _ (by omega) (by omega) hb3 HC.out).mono ?_
        rintro e w1 ⟨rfl, rfl⟩
        have hc0' := alloc_keeps hc0 (.cells #[.int .i64 1, .int .i64 0, .int .i64 (1 + (C : Int))] 31)
        go_wp2_with fail
        refine (Picked_bd wk 8 kk _ (by omega) (by omega) hb1 HKK.out).mono ?_
        rintro e w2 ⟨rfl, rfl⟩
        clear hc0'
        go_upto_block 2 with fail
        have HX1 : Hid (Ext w w1) := HD.out.ext
        have hs1 := HD.out.ext.size
        have HBLK : Hid ((w1.alloc (.cells #[.int .i64 1, .int .i64 0, .int .i64 (1 + (C : Int))] 31)).heap[w1.heap.size]? = some (.cells #[.int .i64 1, .int .i64 0, .int .i64 (1 + (C : Int))] 31 (0, 0))) := heap_alloc_new _ _
        have HC0 : Hid (w1.cell? ⟨b, o + q * 3, none⟩ = some (.int .i64 wk)) := hc0
        have HC1 : Hid (w1.cell? ⟨b, o + q * 3 + 1, none⟩ = some (.int .i64 ww)) := hc1
        clear hc0 hc1 hc2
        go_cut [11, 15] (fun vt v15 wc => ∃ (d : Int × Int × Int) (T' : List (Int × Int)), DeedOk n d ∧ (∀ r, r ∈ T' → 0 ≤ r.1 ∧ r.1 < r.2 ∧ r.2 ≤ (n : Int)) ∧ T'.length ≤ q ∧ Ext w1 wc ∧ w1.heap.size < wc.heap.size ∧ wc.heap[w1.heap.size]? = some (.cells #[.int .i64 d.1, .int .i64 d.2.1, .int .i64 d.2.2] 31 (0, 0)) ∧ wc.ownsRow w.heap.size 53 2 vt T'.length (fl T'))
        case first =>
          have hc1' := alloc_keeps HC1.out (.cells #[.int .i64 1, .int .i64 0, .int .i64 (1 + (C : Int))] 31)
          by_cases hk0 : (kk : Int) = 0
          · have hk0b : ((kk : Int) == 0) = true := by rw [beq_iff_eq]; exact hk0
            have hcell := row3_cells HBLK.out
            obtain ⟨r0, r1, r2, r3⟩ := hcell
            have z0 := r3 0
            have z1 := r3 1
            have z2 := r3 2
            clear r3 hk0
            go_wp2_with fail
            go_meet
            exact ⟨(3, 0, 0), T, Or.inr (Or.inl rfl), HD.out.tk, HD.out.few, (Ext.refl w1).alloc _ _, by rw [World.size_alloc]; omega, heap_alloc_new _ _, own_ext HD.out.tks ((Ext.refl w1).alloc _ _)⟩
          · have hk0b : ((kk : Int) == 0) = false := by rw [beq_eq_false_iff_ne]; exact hk0
            obtain ⟨_, aT, cT, hu11, hT⟩ := own_rngs HD.out.tks
            have hcap := own_cap2 HD.out.tks hu11
            subst hu11
            obtain ⟨tl, htl⟩ : ∃ tl, T.length = tl := ⟨_, rfl⟩
            have HTL : Hid (T.length = tl) := htl
            have hfew := HD.out.few
            rw [htl] at hcap hfew
            have HTO1 : Hid (w1.ownsRow w.heap.size 53 2 (.slice aT tl cT) tl (fl T)) := by have h := HD.out.tks; rw [htl] at h; exact h
            have HTK1 : Hid (∀ r, r ∈ T → 0 ≤ r.1 ∧ r.1 < r.2 ∧ r.2 ≤ (n : Int)) := HD.out.tk
            have HT : Hid (Rngs w1 aT T) := hT
            clear hk0 hT HD
            rw [htl]
            clear htl
            by_cases hk4 : kk < 4
            · have hk4i : (kk : Int) < 4 := by omega
              by_cases ht0 : 0 < tl
              · have ht0i : (0 : Int) < (tl : Int) := by omega
                obtain ⟨j, hj, hj1⟩ := picked_is ww tl (by omega)
                obtain ⟨⟨x, y⟩, hx1, _, hx3⟩ := drop_at (L := T) (k := j) (by rw [HTL.out]; omega)
                obtain ⟨b2, o2, rfl, hcx, hcy⟩ := HT.out j x y hx1
                have htk := HTK1.out _ hx3
                simp only at htk
                have HJ : Hid (ww % (tl : Int) = (j : Int)) := hj
                have hcx' := alloc_keeps hcx (.cells #[.int .i64 1, .int .i64 0, .int .i64 (1 + (C : Int))] 31)
                have hcy' := alloc_keeps hcy (.cells #[.int .i64 1, .int .i64 0, .int .i64 (1 + (C : Int))] 31)
                have hwr : IntKind.i64.wrap (y - x) = y - x := by rw [IntKind.wrap_i64]; omega
                clear hx1 hx3 hcx hcy hj
                go_wp2_with fail
                refine (Picked_bd ww tl j _ (by omega) (by omega) hb2 HJ.out).mono ?_
                rintro e w3 ⟨rfl, rfl⟩
                go_wp2_with fail
                have XA : Hid (Ext w1 (w1.alloc (.cells #[.int .i64 1, .int .i64 0, .int .i64 (1 + (C : Int))] 31))) := (Ext.refl w1).alloc _ _
                have HSA : Hid (w1.heap.size < (w1.alloc (.cells #[.int .i64 1, .int .i64 0, .int .i64 (1 + (C : Int))] 31)).heap.size) := by show _ < _; rw [World.size_alloc]; omega
                clear hc1'
                generalize w1.alloc (.cells #[.int .i64 1, .int .i64 0, .int .i64 (1 + (C : Int))] 31) = wA at *
                have gA := fun z : Gr wA => z.ext.keeps hcx'
                have gB := fun z : Gr wA => z.ext.keeps hcy'
                clear hcx' hcy'
                refine wp_region_grows 17 (by kernel_rfl) (by kernel_rfl) (fun hne => ?_)
                simp only [List.take_succ_cons, List.take_zero, List.drop_succ_cons, List.drop_zero]
                repeat (go_big_quiet_step (fail))
                refine wpQuiet_nil ?_
                intro w4 hw4
                obtain ⟨x4, rfl⟩ := hw4
                have hblk4 := x4.ext.blk HBLK.out
                have HX4 : Hid (Ext w1 x4.w') := XA.out.trans x4.ext
                have HS4 : Hid (w1.heap.size < x4.w'.heap.size) := Nat.lt_of_lt_of_le HSA.out x4.ext.size
                clear gA gB hne
                generalize x4.w' = w5 at *
                have HB5 : Hid (w5.heap[w1.heap.size]? = some (.cells #[.int .i64 1, .int .i64 0, .int .i64 (1 + (C : Int))] 31 (0, 0))) := hblk4
                obtain ⟨r0, r1, r2, r3⟩ := row3_cells hblk4
                have z0 := r3 0
                have z1 := r3 1
                have z2 := r3 2
                clear r3 hblk4
                go_wp2_with fail
                have HB6 : Hid ((((w5.setCell ⟨w1.heap.size, 0, none⟩ (.int .i64 2)).setCell ⟨w1.heap.size, 1, none⟩ (.int .i64 x)).setCell ⟨w1.heap.size, 2, none⟩ (.int .i64 (y - x))).heap[w1.heap.size]? = some (.cells #[.int .i64 2, .int .i64 x, .int .i64 (y - x)] 31 (0, 0))) := row3_set HB5.out _ _ _
                have HX6 : Hid (Ext w1 (((w5.setCell ⟨w1.heap.size, 0, none⟩ (.int .i64 2)).setCell ⟨w1.heap.size, 1, none⟩ (.int .i64 x)).setCell ⟨w1.heap.size, 2, none⟩ (.int .i64 (y - x)))) := ((HX4.out.setCell (p := ⟨w1.heap.size, 0, none⟩) (Nat.le_refl _) _).setCell (p := ⟨w1.heap.size, 1, none⟩) (Nat.le_refl _) _).setCell (p := ⟨w1.heap.size, 2, none⟩) (Nat.le_refl _) _
                have HS6 : Hid (w1.heap.size < (((w5.setCell ⟨w1.heap.size, 0, none⟩ (.int .i64 2)).setCell ⟨w1.heap.size, 1, none⟩ (.int .i64 x)).setCell ⟨w1.heap.size, 2, none⟩ (.int .i64 (y - x))).heap.size) := (Array.getElem?_eq_some_iff.1 HB6.out).1
                clear r0 r1 r2 z0 z1 z2 HB5
                generalize ((w5.setCell ⟨w1.heap.size, 0, none⟩ (.int .i64 2)).setCell ⟨w1.heap.size, 1, none⟩ (.int .i64 x)).setCell ⟨w1.heap.size, 2, none⟩ (.int .i64 (y - x)) = w6 at *
                have hs1 := subP_h (P := Try.prog) Try.underlying38 cellsRng (some ⟨b2, o2, none⟩) tl cT j (by omega) (j : Int) rfl
                have hs2 := subP_l (P := Try.prog) Try.underlying38 cellsRng (some ⟨b2, o2, none⟩) tl cT (j + 1) (by omega) ((j : Int) + 1) (by omega)
                obtain ⟨A1, hA1⟩ : ∃ A1, subP (some ⟨b2, o2, none⟩) cT 0 = A1 := ⟨_, rfl⟩
                obtain ⟨A2, hA2⟩ : ∃ A2, subP (some ⟨b2, o2, none⟩) cT (j + 1) = A2 := ⟨_, rfl⟩
                obtain ⟨E1, hE1⟩ : ∃ E1, (T.drop 0).take j = E1 := ⟨_, rfl⟩
                obtain ⟨E2, hE2⟩ : ∃ E2, (T.drop (j + 1)).take (tl - (j + 1)) = E2 := ⟨_, rfl⟩
                obtain ⟨l2, hl2⟩ : ∃ l2, tl - (j + 1) = l2 := ⟨_, rfl⟩
                obtain ⟨c2, hc2⟩ : ∃ c2, cT - (j + 1) = c2 := ⟨_, rfl⟩
                rw [hA1] at hs1
                rw [hA2, hl2, hc2] at hs2
                have HE1 : Hid (∀ W, Ext w1 W → Rngs W A1 E1) := fun W x => by
                  rw [← hE1]
                  refine (HT.out.ext x).sub 0 j fun b o ha hlt => ?_
                  cases ha
                  rw [← hA1]
                  exact subP_some (by omega)
                have HE2 : Hid (∀ W, Ext w1 W → Rngs W A2 E2) := fun W x => by
                  rw [← hE2]
                  refine (HT.out.ext x).sub (j + 1) _ fun b o ha hlt => ?_
                  cases ha
                  rw [← hA2]
                  rw [HTL.out] at hlt
                  exact subP_some (by omega)
                have HL1 : Hid (E1.length = j) := by show _ = _; rw [← hE1, List.length_take, List.length_drop, HTL.out]; omega
                have HL2 : Hid (E2.length = l2) := by show _ = _; rw [← hE2, List.length_take, List.length_drop, HTL.out]; omega
                have HIN : Hid (∀ r, r ∈ E1 ++ E2 → r ∈ T) := fun r hr => by
                  rcases List.mem_append.1 hr with h | h
                  · rw [← hE1] at h; exact List.mem_of_mem_drop (List.mem_of_mem_take h)
                  · rw [← hE2] at h; exact List.mem_of_mem_drop (List.mem_of_mem_take h)
                have hl2q : l2 ≤ q := by omega
                have HLL : Hid (j + l2 + 1 = tl) := by show _ = _; omega
                have hwj : IntKind.i64.wrap ((j : Int) + 1) = (j : Int) + 1 := by rw [IntKind.wrap_i64]; omega
                have hjq : j ≤ q := by omega
                clear hA1 hA2 hE1 hE2 hl2 hc2 hwr HT
                go_region_law (first
                  | (refine step_append_pairs w6.drew (by rfl) (.const (.slice none 0 0)) (.tmp 87) 38 (by rfl) w6.drew.heap.size 53 (.agg #[.int .i64 0, .int .i64 0]) 16 Try.underlying38 infoRng2 (by rfl) (.slice none 0 0) 0 [] (by first | (simp [Act.eval]; done) | simp [Act.eval, Act.put]) (World.ownsRow_nil _ _ _ _) A1 j cT E1 HL1.out (by first | (simp [Act.eval]; done) | simp [Act.eval, Act.put]) (HE1.out _ HX6.out.drew) (by omega) (by omega) (by omega) (Nat.le_refl _) ?_; intro v7 w7 hown7 hgrow7; have hx7 : Ext w6.drew w7 := (Ext.refl w6.drew).grow hgrow7 fun _ hk => (by cases hk))
                  | (refine step_append_pairs w7 (by rfl) (.tmp 88) (.tmp 92) 38 (by rfl) w6.drew.heap.size 53 (.agg #[.int .i64 0, .int .i64 0]) 16 Try.underlying38 infoRng2 (by rfl) v7 (0 + j) ([] ++ E1) (by first | (simp [Act.eval]; done) | simp [Act.eval, Act.put]) hown7 A2 l2 c2 E2 HL2.out (by first | (simp [Act.eval]; done) | simp [Act.eval, Act.put]) (HE2.out _ (HX6.out.drew.trans hx7)) (by omega) (by omega) (by omega) hx7.size ?_; intro v8 w8 hown8 hgrow8; have hx8 : Ext w6.drew w8 := hx7.grow hgrow8 (fun b hb => own_geS hown7 hb)))
                all_goals
                  have HW8 : Hid (w8.ownsRow w6.drew.heap.size 53 2 v8 (0 + j + l2) (fl ([] ++ E1 ++ E2))) := hown8
                  have HX8 : Hid (Ext w6.drew w8) := hx8
                  clear hown7 hown8 hgrow7 hgrow8 hx7 hx8
                  go_wp2_with fail
                  go_meet
                  have e9 : (E1 ++ E2).length = 0 + j + l2 := by rw [List.length_append, HL1.out, HL2.out]; omega
                  refine ⟨(2, x, y - x), E1 ++ E2, Or.inr (Or.inr ⟨rfl, htk.1, by show 1 ≤ y - x; omega, by show x + (y - x) ≤ (n : Int); omega⟩), fun r hr => HTK1.out r (HIN.out r hr), by have := HLL.out; omega, HX6.out.drew.trans HX8.out, Nat.lt_of_lt_of_le HS6.out HX8.out.size, HX8.out.blk HB6.out, ?_⟩
                  rw [e9]
                  exact own_mono HW8.out (Nat.le_trans HX1.out.size HX6.out.drew.size)
              · obtain rfl : tl = 0 := by omega
                go_wp2_with fail
                go_meet
                exact ⟨(1, 0, 1 + (C : Int)), T, Or.inl ⟨rfl, rfl, by show (1 : Int) ≤ 1 + (C : Int); omega, by show 1 + (C : Int) ≤ 12; omega⟩, HTK1.out, by rw [HTL.out]; exact hfew, (Ext.refl w1).alloc _ _, by rw [World.size_alloc]; omega, heap_alloc_new _ _, by rw [HTL.out]; exact own_ext HTO1.out ((Ext.refl w1).alloc _ _)⟩
            · have hk4i : ¬ (kk : Int) < 4 := by omega
              go_wp2_with fail
              go_meet
              exact ⟨(1, 0, 1 + (C : Int)), T, Or.inl ⟨rfl, rfl, by show (1 : Int) ≤ 1 + (C : Int); omega, by show 1 + (C : Int) ≤ 12; omega⟩, HTK1.out, by rw [HTL.out]; exact hfew, (Ext.refl w1).alloc _ _, by rw [World.size_alloc]; omega, heap_alloc_new _ _, by rw [HTL.out]; exact own_ext HTO1.out ((Ext.refl w1).alloc _ _)⟩
        case rest =>
          obtain ⟨⟨d0, d1, d2⟩, T', hdok, htk, hfew, hxc, hsc, hblk, hown⟩ := hcut
          simp only at hblk
          have HDOK : Hid (DeedOk n (d0, d1, d2)) := hdok
          have HTK : Hid (∀ r, r ∈ T' → 0 ≤ r.1 ∧ r.1 < r.2 ∧ r.2 ≤ (n : Int)) := htk
          have HXC : Hid (Ext w1 wc) := hxc
          have HBL : Hid (wc.heap[w1.heap.size]? = some (.cells #[.int .i64 d0, .int .i64 d1, .int .i64 d2] 31 (0, 0))) := hblk
          have HTO : Hid (wc.ownsRow w.heap.size 53 2 u11 T'.length (fl T')) := hown
          have HO : Hid (wc.ownsRow w.heap.size 31 3 u10 q (fl3 (fndV D))) := own_ext HD.out.out hxc
          obtain ⟨k0, k1, k2, _⟩ := row3_cells hblk
          have hbd := hdok.bd hn.2
          clear hdok htk hxc hblk hown
          go_wp2_with (first | (at_builtin; refine append_tri _ rfl (.tmp 94) (.tmp 96) 24 rfl w.heap.size 31 (.agg #[.int .i64 0, .int .i64 0, .int .i64 0]) 24 Try.underlying24 infoDd3 rfl u10 q (fndV D) rfl (own_ext HO.out ((Ext.refl wc).alloc _ _)) (some ⟨wc.heap.size, 0, none⟩) 1 1 [(IV d0, IV d1, IV d2)] rfl rfl (tri_new _ _ rfl _ _ _ _) (fnd_one _ _ _) (by omega) (by omega) (by omega) ?_ ?_) | go_in)
          · rw [← World.size_alloc wc (.cells #[.int .i64 d0, .int .i64 d1, .int .i64 d2] 31)]; exact ((HX1.out.trans HXC.out).alloc _ _).size
          intro v5 w5 hown5 hgrow5
          have xA : Ext wc (wc.alloc (.cells #[.int .i64 d0, .int .i64 d1, .int .i64 d2] 31)) := (Ext.refl wc).alloc _ _
          have hx5 : Ext w w5 := ((HX1.out.trans HXC.out).trans xA).grow hgrow5 fun k hk => own_geS HO.out hk
          have hto5 := own_keep (own_ext HTO.out xA) (own_ext HO.out xA) hgrow5 (by decide)
          have hblk5 : w5.heap[w1.heap.size]? = some (.cells #[.int .i64 d0, .int .i64 d1, .int .i64 d2] 31 (0, 0)) := (hgrow5.block w1.heap.size (by have := xA.size; omega) (fun q => by have := HD.out.out.lt _ q.symm; omega)).trans (xA.blk HBL.out)
          obtain ⟨_, a5, c5, rfl, htri5⟩ := own_tri hown5
          have HO5 : Hid (w5.ownsRow w.heap.size 31 3 (.slice a5 (q + 1) c5) (q + 1) (fl3 (fndV D ++ [(IV d0, IV d1, IV d2)]))) := hown5
          have HTR5 : Hid (Tri w5 a5 (fndV D ++ [(IV d0, IV d1, IV d2)])) := htri5
          have HX5 : Hid (Ext w w5) := hx5
          have HTO5 : Hid (w5.ownsRow w.heap.size 53 2 u11 T'.length (fl T')) := hto5
          have HB5 : Hid (w5.heap[w1.heap.size]? = some (.cells #[.int .i64 d0, .int .i64 d1, .int .i64 d2] 31 (0, 0))) := hblk5
          have HLD : Hid (D.length = q) := HD.out.len
          have HDL : Hid ((fndV D ++ [(IV d0, IV d1, IV d2)]).length = q + 1) := by show _ = _; rw [List.length_append]; unfold fndV; rw [List.length_map, HLD.out]; rfl
          have HD1 : Hid (one3 (fndV D ++ [(IV d0, IV d1, IV d2)])) := by show one3 _; rw [← fndV_snoc D (d0, d1, d2)]; exact fndV_one3 _
          have HOK : Hid (∀ d, d ∈ D → DeedOk n d) := HD.out.ok
          have hq60 : q < 60 := by omega
          clear hown5 hgrow5 xA hx5 hto5 hblk5 htri5 k0 k1 k2 HO HTO HBL HD
          go_wp2_with (first | (at_builtin; refine append_tri w5 rfl (.const (.slice none 0 0)) (.tmp 100) 24 rfl w5.heap.size 31 (.agg #[.int .i64 0, .int .i64 0, .int .i64 0]) 24 Try.underlying24 infoDd3 rfl (.slice none 0 0) 0 [] rfl (World.ownsRow_nil _ _ _ _) a5 (q + 1) c5 (fndV D ++ [(IV d0, IV d1, IV d2)]) HDL.out rfl HTR5.out HD1.out (by omega) (by omega) (by omega) (Nat.le_refl _) ?_) | go_in)
          intro v6 w6 hown6 hgrow6
          have hx6 : Ext w5 w6 := (Ext.refl w5).grow hgrow6 fun _ hk => by cases hk
          obtain ⟨_, a6, c6, rfl, htri6⟩ := own_tri hown6
          have HX6 : Hid (Ext w5 w6) := hx6
          have hbdD : BddD (D ++ [(d0, d1, d2)]) := fun r hr => by
            rcases List.mem_append.1 hr with h | h
            · have := (HOK.out r h).bd hn.2; omega
            · obtain rfl := List.mem_singleton.1 h
              simp only
              omega
          have HPl := Play_any (n : Int) a6 (q + 1) c6 (D ++ [(d0, d1, d2)]) w6 (by rw [List.length_append, HLD.out]; rfl) (by omega) (by rw [fndV_snoc]; exact htri6) hbdD
          clear hown6 hgrow6 hx6 htri6 hbdD
          go_wp2_with fail
          refine HPl.mono ?_
          rintro e w7 ⟨vF, vR, er, rfl, hres, hx7⟩
          obtain ⟨rfl, aF, bF, cF, dF, mR, rfl, rfl, _, _, htriF, _⟩ := play_told (q := q + 1) hres (by rw [List.length_append, HLD.out]; rfl) hn (by omega)
          have hlast := playL_last n (fun _ => 0) D (d0, d1, d2)
          rw [HLD.out] at hlast
          obtain ⟨rr, hrr⟩ : ∃ rr, doS n (playE n (fun _ => 0) D) (d0, d1, d2) = rr := ⟨_, rfl⟩
          rw [hrr] at hlast
          obtain ⟨bG, oG, rfl, hg0, hg1, hg2⟩ := deed_at htriF hlast
          obtain ⟨rc, hrc⟩ : ∃ rc, rr.code = rc := ⟨_, rfl⟩
          obtain ⟨rp, hrp⟩ : ∃ rp, rr.place = rp := ⟨_, rfl⟩
          obtain ⟨lf, hlf⟩ : ∃ lf, cntS rr.st 0 n = lf := ⟨_, rfl⟩
          rw [hrc] at hg0
          rw [hrp] at hg1
          rw [hlf] at hg2
          have HRR : Hid (doS n (playE n (fun _ => 0) D) (d0, d1, d2) = rr) := hrr
          have HRC : Hid (rr.code = rc) := hrc
          have HRP : Hid (rr.place = rp) := hrp
          have HX7 : Hid (Ext w5 w7) := HX6.out.trans hx7
          have hb7 := HX7.out.blk HB5.out
          obtain ⟨k0, k1, k2, _⟩ := row3_cells hb7
          have k0' := fun o => alloc_keeps k0 o
          have k2' := fun o => alloc_keeps k2 o
          have HT7 : Hid (w7.ownsRow w.heap.size 53 2 u11 T'.length (fl T')) := own_ext HTO5.out HX7.out
          have HO7 : Hid (w7.ownsRow w.heap.size 31 3 (.slice a5 (q + 1) c5) (q + 1) (fl3 (fndV (D ++ [(d0, d1, d2)])))) := by show World.ownsRow ..; rw [fndV_snoc]; exact own_ext HO5.out HX7.out
          have hqq : IntKind.i64.wrap (((q + 1 : Nat) : Int) - 1) = (q : Int) := by rw [IntKind.wrap_i64]; omega
          have hq1i : (q : Int) < ((q + 1 : Nat) : Int) := by omega
          clear HPl hres hx7 hlast hrr hrc hrp hlf htriF hb7 HTR5
          rcases hbd.1 with rfl | hne
          · by_cases hc0 : rc = 0
            · obtain rfl : rc = 0 := hc0
              have ttk := take_ok n (playE n (fun _ => 0) D) d1 d2 (by rw [HRR.out, HRC.out])
              rw [HRR.out, HRP.out] at ttk
              obtain ⟨t1, t2, t3, _, _⟩ := ttk
              have hwn : IntKind.i64.wrap ((n : Int) - d2) = (n : Int) - d2 := by rw [IntKind.wrap_i64]; omega
              have hwp : IntKind.i64.wrap (rp + d2) = rp + d2 := by rw [IntKind.wrap_i64]; omega
              have hp0 : ¬ rp < 0 := by omega
              have hp0d : decide (rp < 0) = false := decide_eq_false hp0
              have hpn : ¬ (n : Int) - d2 < rp := by omega
              have xx : Ext w7 ((w7.alloc (.cells #[.int .i64 0, .int .i64 rp, .int .i64 lf] 34)).alloc (.cells #[.int .i64 rp, .int .i64 (rp + d2)] 53)) := ((Ext.refl w7).alloc _ _).alloc _ _
              have HXX : Hid (Ext w7 ((w7.alloc (.cells #[.int .i64 0, .int .i64 rp, .int .i64 lf] 34)).alloc (.cells #[.int .i64 rp, .int .i64 (rp + d2)] 53))) := xx
              have hs7 := (HX5.out.trans HX7.out).size
              clear xx
              go_wp2_with (first | (at_builtin; refine append_pairs _ rfl (.tmp 141) (.tmp 150) 38 rfl w.heap.size 53 (.agg #[.int .i64 0, .int .i64 0]) 16 Try.underlying38 infoRng2 rfl u11 T'.length T' rfl (own_ext HT7.out HXX.out) (some ⟨w7.heap.size + 1, 0, none⟩) 1 1 [(rp, rp + d2)] rfl rfl (pair_new _ _ (World.size_alloc _ _).symm _ _ _) (by omega) (by omega) (by omega) (Nat.le_trans hs7 HXX.out.size) ?_) | go_in)
              intro v8 w8 hown8 hgrow8
              have HN : Hid (DdI w n (q + 1) (D ++ [(1, d1, d2)]) (T' ++ [(rp, rp + d2)]) (.slice a5 (q + 1) c5) v8 w8) := by
                refine ⟨(((HX5.out.trans HX7.out).trans HXX.out)).grow hgrow8 fun k hk => own_geS HT7.out hk, by rw [List.length_append, HLD.out]; rfl, snoc_all HOK.out HDOK.out, snoc_all HTK.out ⟨t2, by omega, t3⟩, by rw [List.length_append]; simp; omega, own_keep (own_ext HO7.out HXX.out) (own_ext HT7.out HXX.out) hgrow8 (by decide), ?_⟩
                rw [List.length_append]
                exact hown8
              clear hown8 hgrow8 k0 k1 k2 k0' k2' hg0 hg1 hg2
              go_wp2_with fail
              go_roundg (m - (q + 1) + 1)
              case measure => have := HGK.out; omega
              case rel => exact ⟨q + 1, _, _, rfl, by omega, by omega, by go_num, HN.out⟩
            · have hcb : (rc == 0) = false := by rw [beq_eq_false_iff_ne]; exact hc0
              have HN : Hid (DdI w n (q + 1) (D ++ [(1, d1, d2)]) T' (.slice a5 (q + 1) c5) u11 (w7.alloc (.cells #[.int .i64 rc, .int .i64 rp, .int .i64 lf] 34))) := by
                have xx : Ext w7 (w7.alloc (.cells #[.int .i64 rc, .int .i64 rp, .int .i64 lf] 34)) := (Ext.refl w7).alloc _ _
                exact ⟨(HX5.out.trans HX7.out).trans xx, by rw [List.length_append, HLD.out]; rfl, snoc_all HOK.out HDOK.out, HTK.out, by omega, own_ext HO7.out xx, own_ext HT7.out xx⟩
              go_wp2_with fail
              go_roundg (m - (q + 1) + 1)
              case measure => have := HGK.out; omega
              case rel => exact ⟨q + 1, _, _, rfl, by omega, by omega, by go_num, HN.out⟩
          · have hdb : (d0 == 1) = false := by rw [beq_eq_false_iff_ne]; omega
            have HN : Hid (DdI w n (q + 1) (D ++ [(d0, d1, d2)]) T' (.slice a5 (q + 1) c5) u11 (w7.alloc (.cells #[.int .i64 rc, .int .i64 rp, .int .i64 lf] 34))) := by
              have xx : Ext w7 (w7.alloc (.cells #[.int .i64 rc, .int .i64 rp, .int .i64 lf] 34)) := (Ext.refl w7).alloc _ _
              exact ⟨(HX5.out.trans HX7.out).trans xx, by rw [List.length_append, HLD.out]; rfl, snoc_all HOK.out HDOK.out, HTK.out, by omega, own_ext HO7.out xx, own_ext HT7.out xx⟩
            go_wp2_with fail
            go_roundg (m - (q + 1) + 1)
            case measure => have := HGK.out; omega
            case rel => exact ⟨q + 1, _, _, rfl, by omega, by omega, by go_num, HN.out⟩
      · have hend : ¬ (q : Int) < (K : Int) := by omega
        have hlti : (q : Int) < (m : Int) := by omega
        have HD2 : Hid (DdI w n q D T u10 u11 wr) := HD.out
        obtain ⟨_, a10, c10, hu10, htri⟩ := own_tri HD2.out.out
        subst hu10
        have HTR : Hid (Tri wr a10 (fndV D)) := htri
        have HLD : Hid (D.length = q) := HD2.out.len
        have HDL : Hid ((fndV D).length = q) := by show _ = _; unfold fndV; rw [List.length_map, HLD.out]
        have HX : Hid (Ext w wr) := HD2.out.ext
        have HOK : Hid (∀ d, d ∈ D → DeedOk n d) := HD2.out.ok
        have hq60 : q ≤ 60 := by omega
        clear htri HD HD2
        go_wp2_with (first | (at_builtin; refine append_tri wr rfl (.const (.slice none 0 0)) (.tmp 154) 24 rfl wr.heap.size 31 (.agg #[.int .i64 0, .int .i64 0, .int .i64 0]) 24 Try.underlying24 infoDd3 rfl (.slice none 0 0) 0 [] rfl (World.ownsRow_nil _ _ _ _) a10 q c10 (fndV D) HDL.out rfl HTR.out (fndV_one3 _) (by omega) (by omega) (by omega) (Nat.le_refl _) ?_) | go_in)
        intro v6 w6 hown6 hgrow6
        have HX6 : Hid (Ext wr w6) := (Ext.refl wr).grow hgrow6 fun _ hk => by cases hk
        have hown6' : w6.ownsRow wr.heap.size 31 3 v6 q (fl3 (fndV D)) := by simpa using hown6
        obtain ⟨_, a6, c6, rfl, htri6⟩ := own_tri hown6'
        have hbdD : BddD D := fun r hr => by have := (HOK.out r hr).bd hn.2; omega
        have HPl := Play_any (n : Int) a6 q c6 D w6 HLD.out (by omega) htri6 hbdD
        clear hown6 hown6' hgrow6 htri6 hbdD
        go_wp2_with fail
        refine HPl.mono ?_
        rintro e w7 ⟨vF, vR, er, rfl, hres, hx7⟩
        obtain ⟨rfl, aF, bF, cF, dF, mR, rfl, rfl, hmR, _, htriF, htriR⟩ := play_told (q := q) hres HLD.out hn (by omega)
        have HF : Hid (Tri w7 aF (fndV (playL n (fun _ => 0) D).1) ∧ Tri w7 bF (recV (playL n (fun _ => 0) D).2) ∧ (playL n (fun _ => 0) D).2.length = mR) := ⟨htriF, htriR, hmR⟩
        have HX7 : Hid (Ext wr w7) := HX6.out.trans hx7
        clear HPl hres hx7 htriF htriR hmR
        go_wp2_with fail
        (try simp only [Exit.inBlock, Exit.then])
        refine bodyPost_ret (results_tmp4 rfl _ _ _) rfl ?_
        refine ⟨⟨D, a10, aF, bF, c10, cF, dF, by rw [HLD.out]; exact hqK, HOK.out, ?_, HTR.out.ext HX7.out, HF.out.1, HF.out.2.1⟩, HX.out.trans HX7.out⟩
        rw [HLD.out, HF.out.2.2]
        rfl
    · have hend : ¬ (q : Int) < (m : Int) := by omega
      have HD2 : Hid (DdI w n q D T u10 u11 wr) := HD.out
      obtain ⟨_, a10, c10, hu10, htri⟩ := own_tri HD2.out.out
      subst hu10
      have HTR : Hid (Tri wr a10 (fndV D)) := htri
      have HLD : Hid (D.length = q) := HD2.out.len
      have HDL : Hid ((fndV D).length = q) := by show _ = _; unfold fndV; rw [List.length_map, HLD.out]
      have HX : Hid (Ext w wr) := HD2.out.ext
      have HOK : Hid (∀ d, d ∈ D → DeedOk n d) := HD2.out.ok
      have hq60 : q ≤ 60 := by omega
      clear htri HD HD2
      go_wp2_with (first | (at_builtin; refine append_tri wr rfl (.const (.slice none 0 0)) (.tmp 154) 24 rfl wr.heap.size 31 (.agg #[.int .i64 0, .int .i64 0, .int .i64 0]) 24 Try.underlying24 infoDd3 rfl (.slice none 0 0) 0 [] rfl (World.ownsRow_nil _ _ _ _) a10 q c10 (fndV D) HDL.out rfl HTR.out (fndV_one3 _) (by omega) (by omega) (by omega) (Nat.le_refl _) ?_) | go_in)
      intro v6 w6 hown6 hgrow6
      have HX6 : Hid (Ext wr w6) := (Ext.refl wr).grow hgrow6 fun _ hk => by cases hk
      have hown6' : w6.ownsRow wr.heap.size 31 3 v6 q (fl3 (fndV D)) := by simpa using hown6
      obtain ⟨_, a6, c6, rfl, htri6⟩ := own_tri hown6'
      have hbdD : BddD D := fun r hr => by have := (HOK.out r hr).bd hn.2; omega
      have HPl := Play_any (n : Int) a6 q c6 D w6 HLD.out (by omega) htri6 hbdD
      clear hown6 hown6' hgrow6 htri6 hbdD
      go_wp2_with fail
      refine HPl.mono ?_
      rintro e w7 ⟨vF, vR, er, rfl, hres, hx7⟩
      obtain ⟨rfl, aF, bF, cF, dF, mR, rfl, rfl, hmR, _, htriF, htriR⟩ := play_told (q := q) hres HLD.out hn (by omega)
      have HF : Hid (Tri w7 aF (fndV (playL n (fun _ => 0) D).1) ∧ Tri w7 bF (recV (playL n (fun _ => 0) D).2) ∧ (playL n (fun _ => 0) D).2.length = mR) := ⟨htriF, htriR, hmR⟩
      have HX7 : Hid (Ext wr w7) := HX6.out.trans hx7
      clear HPl hres hx7 htriF htriR hmR
      go_wp2_with fail
      (try simp only [Exit.inBlock, Exit.then])
      refine bodyPost_ret (results_tmp4 rfl _ _ _) rfl ?_
      refine ⟨⟨D, a10, aF, bF, c10, cF, dF, by rw [HLD.out]; exact hqK, HOK.out, ?_, HTR.out.ext HX7.out, HF.out.1, HF.out.2.1⟩, HX.out.trans HX7.out⟩
      rw [HLD.out, HF.out.2.2]
      rfl
end Go.Proofs.Ytfpbiimjcdbaoaa
