/-
  The document's GeomColumns: the sectors of all rows are dealt out, one by one.
-/
import Derived.Test.YthgbfakmkdifbaaChecked
import Derived.WalkKit
import Derived.BigQuiet
import Derived.OwnWalk
import Derived.Test.YthgbfakmkdifbaaQuiets
import Derived.Test.YthgbfakmkdifbaaGeos
namespace Go.Proofs.Ythgbfakmkdifbaa
open Go.RowKit Go.Deep
theorem cell4_congr {d p a : Nat} {f g : Nat → Nat} {i : Nat} (h : f i = g i) : cell4 d p a f i = cell4 d p a g i := by
  unfold cell4
  rw [h]
theorem GcI.counts {w wr : World} {v : Value} {d p a m : Nat} {f g : Nat → Nat} (h : GcI w v m (cell4 d p a f) wr) (e : ∀ i, i < m → f i = g i) : GcI w v m (cell4 d p a g) wr := h.congr (fun i => cell4_len d p a g i) fun i hi => cell4_congr (e i hi)
theorem GcI.snoc {w wr w4 w5 : World} {v v5 : Value} {d p a m : Nat} {f : Nat → Nat} (h : GcI w v m (cell4 d p a f) wr) (x : Ext wr w4) {cs : List Value} (hown : w5.ownsRow w.heap.size 59 4 v5 (m + 1) (((List.range m).map (cell4 d p a f)).flatten ++ cs)) (hg : w4.grownBy w5 v.ownBlock)
    (hcs : cs = cell4 d p a (fun i => if i = m then 0 else f i) m) : GcI w v5 (m + 1) (cell4 d p a (fun i => if i = m then 0 else f i)) w5 := by
  refine ⟨?_, fun i => rfl, (h.ext.trans x).grow hg fun k hk => own_geD (own_ext h.own x) hk⟩
  rw [List.range_succ, List.map_append]
  have e : (List.range m).map (cell4 d p a fun i => if i = m then 0 else f i) = (List.range m).map (cell4 d p a f) := range_congr fun i hi => cell4_congr (if_neg (by omega))
  rw [e, List.map_cons, List.map_nil, ← hcs, List.flatten_append]
  simpa using hown
theorem GcI.inc {w wr : World} {g c d p a m : Nat} {f : Nat → Nat} (h : GcI w (.slice (some ⟨g, 0, none⟩) m c) m (cell4 d p a f) wr) (hg : w.heap.size ≤ g) {k : Nat} (hk : k < m) {v : Value} (hv : v = .int .i64 ((f k + 1 : Nat) : Int)) : GcI w (.slice (some ⟨g, 0, none⟩) m c) m (cell4 d p a fun i => f i + if i = k then 1 else 0) (wr.setCell ⟨g, k * 4 + 2, none⟩ v) := by
  refine (h.set hg hk (j := 2) (by omega) v).congr (fun i => rfl) fun i hi => ?_
  by_cases e : i = k
  · subst e
    rw [if_pos rfl, hv]
    show (cell4 d p a f i).set 2 _ = _
    unfold cell4
    simp
  · rw [if_neg e]
    exact cell4_congr (by rw [if_neg e]; rfl)
set_option maxRecDepth 100000 in
set_option maxHeartbeats 6400000 in
theorem GeomColumns_any (d p a c : Int) (w : World) : Calls Try.prog 26 #[.int .i64 d, .int .i64 p, .int .i64 a, .int .i64 c] w fun e w' => GcRes d p a c e w' ∧ Ext w w' := by
  have H1 := badShape_any d p w
  cases h1 : (okD d && okPar d p) with
  | false =>
    have HV : Hid (okG d p a c = false) := by show _ = _; unfold okG; rw [h1]; rfl
    rw [h1] at H1
    go_enter Try.func26, Try.ntmps26
    go_wp2_with fail
    refine H1.mono ?_
    rintro e w1 ⟨rfl, rfl⟩
    go_wp2_with fail
    go_ret2
    exact ⟨GcRes.no HV.out, Ext.refl _⟩
  | true =>
    rw [h1] at H1
    by_cases gcl1 : c < 1
    · have HV : Hid (okG d p a c = false) := by
        have : okCnt c = false := by unfold okCnt; simp; omega
        show _ = _
        unfold okG
        rw [this]
        simp
      go_enter Try.func26, Try.ntmps26
      go_wp2_with fail
      refine H1.mono ?_
      rintro e w1 ⟨rfl, rfl⟩
      go_wp2_with fail
      go_ret2
      exact ⟨GcRes.no HV.out, Ext.refl _⟩
    by_cases g32lc : 32 < c
    · have HV : Hid (okG d p a c = false) := by
        have : okCnt c = false := by unfold okCnt; simp; omega
        show _ = _
        unfold okG
        rw [this]
        simp
      go_enter Try.func26, Try.ntmps26
      go_wp2_with fail
      refine H1.mono ?_
      rintro e w1 ⟨rfl, rfl⟩
      go_wp2_with fail
      go_ret2
      exact ⟨GcRes.no HV.out, Ext.refl _⟩
    by_cases gal0 : a < 0
    · have HV : Hid (okG d p a c = false) := by
        have : okAd a = false := by unfold okAd; simp; omega
        show _ = _
        unfold okG
        rw [this]
        simp
      go_enter Try.func26, Try.ntmps26
      go_wp2_with fail
      refine H1.mono ?_
      rintro e w1 ⟨rfl, rfl⟩
      go_wp2_with fail
      go_ret2
      exact ⟨GcRes.no HV.out, Ext.refl _⟩
    by_cases g65536la : 65536 < a
    · have HV : Hid (okG d p a c = false) := by
        have : okAd a = false := by unfold okAd; simp; omega
        show _ = _
        unfold okG
        rw [this]
        simp
      go_enter Try.func26, Try.ntmps26
      go_wp2_with fail
      refine H1.mono ?_
      rintro e w1 ⟨rfl, rfl⟩
      go_wp2_with fail
      go_ret2
      exact ⟨GcRes.no HV.out, Ext.refl _⟩
    have hc : 1 ≤ c ∧ c ≤ 32 := by omega
    have ha : 0 ≤ a ∧ a ≤ 65536 := by omega
    have h5 : okD d = true ∧ okPar d p = true := by simpa using h1
    have hd := (okD_iff d).1 h5.1
    have hp := (okPar_iff d p).1 h5.2
    have HV : Hid (okG d p a c = true) := by
      show _ = _
      unfold okG
      rw [h1, (okCnt_iff c).2 hc, (okAd_iff a).2 ha]
      rfl
    clear h1 h5
    obtain ⟨x, rfl⟩ := Int.eq_ofNat_of_zero_le (show 0 ≤ d by omega)
    obtain ⟨y, rfl⟩ := Int.eq_ofNat_of_zero_le (show 0 ≤ p by omega)
    obtain ⟨z, rfl⟩ := Int.eq_ofNat_of_zero_le (show 0 ≤ c by omega)
    obtain ⟨q, rfl⟩ := Int.eq_ofNat_of_zero_le (show 0 ≤ a by omega)
    obtain ⟨W, hW⟩ : ∃ W : Nat, W = colN x y z := ⟨_, rfl⟩
    have HW : Hid (W = colN x y z) := hW
    have hW8 : W ≤ 8 := by
      rw [hW]
      unfold colN nRow
      omega
    have hz : ((x : Int) == 0) = false := by rw [beq_eq_false_iff_ne]; omega
    clear hW
    go_enter Try.func26, Try.ntmps26
    go_wp2_with fail
    refine H1.mono ?_
    rintro e w1 ⟨rfl, rfl⟩
    clear H1
    go_wp2_with fail
    go_loopw [10, 11] (fun v l wr => ∃ (r K m : Nat) (h : Nat → Nat), l = .int .i64 r ∧ Hid (K = r * (x - y)) ∧ K < z + (x - y) ∧ r ≤ K ∧ GcI w1 v m (cell4 x y q h) wr ∧ m = (if r = 0 then 0 else W) ∧ Hid (∀ i, i < m → h i = cntR x y z r i)) (fun _ l _ => 64 - (intOf l).toNat)
    case atStart => exact ⟨0, 0, 0, fun _ => 0, rfl, (by omega : 0 = 0 * (x - y)), by omega, by omega, ⟨World.ownsRow_nil _ _ _ _, fun i => rfl, Ext.refl _⟩, rfl, fun i hi => rfl⟩
    case round =>
      obtain ⟨r, K, m, h, rfl, HK, hK, hrK, hgi, hm, Hh⟩ := hrel
      have HG : Hid (GcI w1 u10 m (cell4 x y q h) wr) := hgi
      have HM : Hid (m = (if r = 0 then 0 else W)) := hm
      clear hgi hm
      have hmul : (r : Int) * ((x : Int) - (y : Int)) = (K : Int) := by
        rw [show (x : Int) - (y : Int) = ((x - y : Nat) : Int) by omega, HK.out]
        push_cast
        rfl
      by_cases hlt : K < z
      · obtain ⟨n, hn⟩ : ∃ n : Nat, n = nRow x y z r := ⟨_, rfl⟩
        have HN : Hid (n = nRow x y z r) := hn
        have hn2 : n = y + min (x - y) (z - K) := by rw [hn, HK.out]; rfl
        have HNW : Hid (n ≤ W ∧ (r = 0 → n = W)) := by
          constructor
          · rw [hn2, HW.out]
            unfold colN nRow
            omega
          · intro h0
            rw [hn, HW.out, h0]
            rfl
        have hnW := HNW.out.1
        have HK2 : Hid (K + (x - y) = (r + 1) * (x - y)) := by
          show _ = _
          rw [HK.out, Nat.add_mul, Nat.one_mul]
        clear hn
        by_cases hr0 : r = 0
        · subst hr0
          have hrb : (((0 : Nat) : Int) == 0) = true := rfl
          by_cases hbig : x - y ≤ z - K
          · have hm0 := HM.out
            rw [if_pos rfl] at hm0
            subst hm0
            clear HM
            have hgo : (x : Int) - (y : Int) ≤ (z : Int) - (K : Int) := by omega
            have hmi : min ((x : Int) - (y : Int)) ((z : Int) - (K : Int)) = (x : Int) - (y : Int) := by omega
            have hnv : ((y : Int) + ((x : Int) - (y : Int))) = (n : Int) := by omega
            go_wp2_with fail
            go_loopw [10, 13] (fun v i wr => ∃ (k : Nat) (h : Nat → Nat), k ≤ n ∧ i = .int .i64 k ∧ GcI w1 v k (cell4 x y q h) wr ∧ Hid (∀ i, i < k → h i = cntR x y z 0 i + if i < k then 1 else 0)) (fun _ i _ => n - (intOf i).toNat)
            case atStart => exact ⟨0, fun _ => 0, Nat.zero_le _, rfl, HG.out.counts fun i hi => by omega, fun i hi => by omega⟩
            case round =>
              clear Hh HG
              obtain ⟨k, h, hk, rfl, hgi, Hh⟩ := hrel
              have HG : Hid (GcI w1 u10 k (cell4 x y q h) wr) := hgi
              clear hgi
              by_cases hkn : k < n
              · obtain ⟨X1, hX1⟩ : ∃ X1 : Nat, X1 = (q + k) % x := ⟨_, rfl⟩
                obtain ⟨X2, hX2⟩ : ∃ X2 : Nat, X2 = (q + k) / x := ⟨_, rfl⟩
                have hq : ((q : Int) + (k : Int)).tdiv x = X2 := by
                  rw [Int.tdiv_eq_ediv_of_nonneg (by omega), hX2]
                  rfl
                have hr : ((q : Int) + (k : Int)).tmod x = X1 := by
                  rw [Int.tmod_eq_emod_of_nonneg (by omega), hX1]
                  rfl
                have hq' : ((q : Int) + (k : Int)) / x = X2 := by rw [← hq, Int.tdiv_eq_ediv_of_nonneg (by omega)]
                have hr' : ((q : Int) + (k : Int)) % x = X1 := by rw [← hr, Int.tmod_eq_emod_of_nonneg (by omega)]
                have hX2b : X2 ≤ q + k := by rw [hX2]; exact Nat.div_le_self _ _
                have HX1 : Hid (X1 = (q + k) % x) := hX1
                have HX2 : Hid (X2 = (q + k) / x) := hX2
                clear hX1 hX2
                by_cases hky : k < y
                · have hkyI : (k : Int) < (y : Int) := by omega
                  have hbd : ∀ w : World, (Instr.build 59 #[(0, .int .i64 (X1 : Int)), (1, .int .i64 (X2 : Int)), (3, .bool true)]).run Try.prog w = .ok (.agg #[.int .i64 X1, .int .i64 X2, .int .i64 0, .bool true]) w := fun w => by
                    simp [Instr.build, run_underlying Try.underlying59, go_sem]
                  go_wp2_with fail
                  refine wp_region_grows1 11 (by kernel_rfl) (by kernel_rfl) rfl _ rfl (fun _ _ _ h => h) (fun hne => ?_)
                  simp only [List.take_succ_cons, List.take_zero, List.drop_succ_cons, List.drop_zero]
                  repeat (go_big_quiet_step (fail))
                  refine wpQuiet_nil ?_
                  intro w4 hw4
                  obtain ⟨u, rfl⟩ := hw4
                  go_wp2_with (first | (at_builtin; refine append_els _ rfl (.tmp 66) (.tmp 77) 51 rfl 4 (by omega) w1.heap.size 59 (.agg #[.int .i64 0, .int .i64 0, .int .i64 0, .bool false]) 32 Try.underlying51 infoCol rfl u10 k ((List.range k).map (cell4 x y q h)) rfl ?_ (some ⟨u.w'.heap.size, 0, none⟩) 1 1 [[.int .i64 X1, .int .i64 X2, .int .i64 0, .bool true]] rfl rfl ?_ (Szd.one rfl) ?_ ?_ ?_ ?_ ?_ ?_) | go_in)
                  · exact own_ext HG.out.own (u.ext.alloc _ _)
                  · exact els_new _ _ rfl _ _ _
                  · intro cs hcs v hv
                    rw [List.mem_singleton.1 hcs] at hv
                    simp only [List.mem_cons, List.not_mem_nil, or_false] at hv
                    rcases hv with rfl | rfl | rfl | rfl <;> rfl
                  · omega
                  · omega
                  · omega
                  · exact ((HG.out.ext.trans u.ext).alloc _ _).size
                  intro v5 w5 hown5 hgrow5
                  have hg5 := HG.out.snoc (cs := [.int .i64 X1, .int .i64 X2, .int .i64 0, .bool true]) (u.ext.alloc _ _) hown5 hgrow5 (by unfold cell4; rw [← HX1.out, ← HX2.out, decide_eq_true hky]; simp)
                  clear hown5 hgrow5
                  obtain ⟨g5, c5, rfl, hlo⟩ := hg5.slice (by omega)
                  have HG5 : Hid (GcI w1 (.slice (some ⟨g5, 0, none⟩) (k + 1) c5) (k + 1) (cell4 x y q (fun i => if i = k then 0 else h i)) w5) := hg5
                  have c2 : w5.cell? ⟨g5, k * 4 + 2, none⟩ = some (.int .i64 0) := (hg5.cell (show k < k + 1 by omega) (j := 2) (by unfold cell4; simp)).1
                  have c3 : w5.frozen? ⟨g5, k * 4 + 2, none⟩ = false := (hg5.cell (show k < k + 1 by omega) (j := 2) (v := .int .i64 0) (by unfold cell4; simp)).2
                  have hkk : (k : Int) < ((k + 1 : Nat) : Int) := by omega
                  have hkk2 : (k : Int) < (k : Int) + 1 := by omega
                  clear hg5
                  go_wp2_with fail
                  go_roundw
                  case rel =>
                    refine ⟨k + 1, _, by omega, by go_num, HG5.out.inc hlo (by omega) (by rw [if_pos rfl]; rfl), fun i hi => ?_⟩
                    by_cases e : i = k
                    · subst e
                      rw [if_pos rfl, if_pos rfl, if_pos (by omega)]
                      rfl
                    · have := Hh.out i (by omega)
                      rw [if_pos (by omega)] at this
                      rw [if_neg e, if_neg e, if_pos (by omega), this]
                  case measure => simp [intOf]; omega
                · have hkyI : ¬ (k : Int) < (y : Int) := by omega
                  have hbd : ∀ w : World, (Instr.build 59 #[(0, .int .i64 (X1 : Int)), (1, .int .i64 (X2 : Int)), (3, .bool false)]).run Try.prog w = .ok (.agg #[.int .i64 X1, .int .i64 X2, .int .i64 0, .bool false]) w := fun w => by
                    simp [Instr.build, run_underlying Try.underlying59, go_sem]
                  go_wp2_with fail
                  refine wp_region_grows1 11 (by kernel_rfl) (by kernel_rfl) rfl _ rfl (fun _ _ _ h => h) (fun hne => ?_)
                  simp only [List.take_succ_cons, List.take_zero, List.drop_succ_cons, List.drop_zero]
                  repeat (go_big_quiet_step (fail))
                  refine wpQuiet_nil ?_
                  intro w4 hw4
                  obtain ⟨u, rfl⟩ := hw4
                  go_wp2_with (first | (at_builtin; refine append_els _ rfl (.tmp 66) (.tmp 77) 51 rfl 4 (by omega) w1.heap.size 59 (.agg #[.int .i64 0, .int .i64 0, .int .i64 0, .bool false]) 32 Try.underlying51 infoCol rfl u10 k ((List.range k).map (cell4 x y q h)) rfl ?_ (some ⟨u.w'.heap.size, 0, none⟩) 1 1 [[.int .i64 X1, .int .i64 X2, .int .i64 0, .bool false]] rfl rfl ?_ (Szd.one rfl) ?_ ?_ ?_ ?_ ?_ ?_) | go_in)
                  · exact own_ext HG.out.own (u.ext.alloc _ _)
                  · exact els_new _ _ rfl _ _ _
                  · intro cs hcs v hv
                    rw [List.mem_singleton.1 hcs] at hv
                    simp only [List.mem_cons, List.not_mem_nil, or_false] at hv
                    rcases hv with rfl | rfl | rfl | rfl <;> rfl
                  · omega
                  · omega
                  · omega
                  · exact ((HG.out.ext.trans u.ext).alloc _ _).size
                  intro v5 w5 hown5 hgrow5
                  have hg5 := HG.out.snoc (cs := [.int .i64 X1, .int .i64 X2, .int .i64 0, .bool false]) (u.ext.alloc _ _) hown5 hgrow5 (by unfold cell4; rw [← HX1.out, ← HX2.out, decide_eq_false hky]; simp)
                  clear hown5 hgrow5
                  obtain ⟨g5, c5, rfl, hlo⟩ := hg5.slice (by omega)
                  have HG5 : Hid (GcI w1 (.slice (some ⟨g5, 0, none⟩) (k + 1) c5) (k + 1) (cell4 x y q (fun i => if i = k then 0 else h i)) w5) := hg5
                  have c2 : w5.cell? ⟨g5, k * 4 + 2, none⟩ = some (.int .i64 0) := (hg5.cell (show k < k + 1 by omega) (j := 2) (by unfold cell4; simp)).1
                  have c3 : w5.frozen? ⟨g5, k * 4 + 2, none⟩ = false := (hg5.cell (show k < k + 1 by omega) (j := 2) (v := .int .i64 0) (by unfold cell4; simp)).2
                  have hkk : (k : Int) < ((k + 1 : Nat) : Int) := by omega
                  have hkk2 : (k : Int) < (k : Int) + 1 := by omega
                  clear hg5
                  go_wp2_with fail
                  go_roundw
                  case rel =>
                    refine ⟨k + 1, _, by omega, by go_num, HG5.out.inc hlo (by omega) (by rw [if_pos rfl]; rfl), fun i hi => ?_⟩
                    by_cases e : i = k
                    · subst e
                      rw [if_pos rfl, if_pos rfl, if_pos (by omega)]
                      rfl
                    · have := Hh.out i (by omega)
                      rw [if_pos (by omega)] at this
                      rw [if_neg e, if_neg e, if_pos (by omega), this]
                  case measure => simp [intOf]; omega
              · obtain rfl : k = n := by omega
                clear hkn hk
                go_wp2_with fail
                go_roundw
                case rel =>
                  refine ⟨1, K + (x - y), k, h, by go_num, HK2.out, by omega, by omega, HG.out, by rw [if_neg (by omega)]; first | exact HNW.out.2 rfl | exact HNW.out.2 trivial, fun i hi => ?_⟩
                  rw [Hh.out i hi]
                  show _ = cntR x y z 0 i + if i < nRow x y z 0 then 1 else 0
                  rw [← HN.out]
                case measure => simp [intOf]
          · have hm0 := HM.out
            rw [if_pos rfl] at hm0
            subst hm0
            clear HM
            have hgo : ¬ (x : Int) - (y : Int) ≤ (z : Int) - (K : Int) := by omega
            have hmi : min ((x : Int) - (y : Int)) ((z : Int) - (K : Int)) = (z : Int) - (K : Int) := by omega
            have hnv : ((y : Int) + ((z : Int) - (K : Int))) = (n : Int) := by omega
            go_wp2_with fail
            go_loopw [10, 13] (fun v i wr => ∃ (k : Nat) (h : Nat → Nat), k ≤ n ∧ i = .int .i64 k ∧ GcI w1 v k (cell4 x y q h) wr ∧ Hid (∀ i, i < k → h i = cntR x y z 0 i + if i < k then 1 else 0)) (fun _ i _ => n - (intOf i).toNat)
            case atStart => exact ⟨0, fun _ => 0, Nat.zero_le _, rfl, HG.out.counts fun i hi => by omega, fun i hi => by omega⟩
            case round =>
              clear Hh HG
              obtain ⟨k, h, hk, rfl, hgi, Hh⟩ := hrel
              have HG : Hid (GcI w1 u10 k (cell4 x y q h) wr) := hgi
              clear hgi
              by_cases hkn : k < n
              · obtain ⟨X1, hX1⟩ : ∃ X1 : Nat, X1 = (q + k) % x := ⟨_, rfl⟩
                obtain ⟨X2, hX2⟩ : ∃ X2 : Nat, X2 = (q + k) / x := ⟨_, rfl⟩
                have hq : ((q : Int) + (k : Int)).tdiv x = X2 := by
                  rw [Int.tdiv_eq_ediv_of_nonneg (by omega), hX2]
                  rfl
                have hr : ((q : Int) + (k : Int)).tmod x = X1 := by
                  rw [Int.tmod_eq_emod_of_nonneg (by omega), hX1]
                  rfl
                have hq' : ((q : Int) + (k : Int)) / x = X2 := by rw [← hq, Int.tdiv_eq_ediv_of_nonneg (by omega)]
                have hr' : ((q : Int) + (k : Int)) % x = X1 := by rw [← hr, Int.tmod_eq_emod_of_nonneg (by omega)]
                have hX2b : X2 ≤ q + k := by rw [hX2]; exact Nat.div_le_self _ _
                have HX1 : Hid (X1 = (q + k) % x) := hX1
                have HX2 : Hid (X2 = (q + k) / x) := hX2
                clear hX1 hX2
                by_cases hky : k < y
                · have hkyI : (k : Int) < (y : Int) := by omega
                  have hbd : ∀ w : World, (Instr.build 59 #[(0, .int .i64 (X1 : Int)), (1, .int .i64 (X2 : Int)), (3, .bool true)]).run Try.prog w = .ok (.agg #[.int .i64 X1, .int .i64 X2, .int .i64 0, .bool true]) w := fun w => by
                    simp [Instr.build, run_underlying Try.underlying59, go_sem]
                  go_wp2_with fail
                  refine wp_region_grows1 11 (by kernel_rfl) (by kernel_rfl) rfl _ rfl (fun _ _ _ h => h) (fun hne => ?_)
                  simp only [List.take_succ_cons, List.take_zero, List.drop_succ_cons, List.drop_zero]
                  repeat (go_big_quiet_step (fail))
                  refine wpQuiet_nil ?_
                  intro w4 hw4
                  obtain ⟨u, rfl⟩ := hw4
                  go_wp2_with (first | (at_builtin; refine append_els _ rfl (.tmp 66) (.tmp 77) 51 rfl 4 (by omega) w1.heap.size 59 (.agg #[.int .i64 0, .int .i64 0, .int .i64 0, .bool false]) 32 Try.underlying51 infoCol rfl u10 k ((List.range k).map (cell4 x y q h)) rfl ?_ (some ⟨u.w'.heap.size, 0, none⟩) 1 1 [[.int .i64 X1, .int .i64 X2, .int .i64 0, .bool true]] rfl rfl ?_ (Szd.one rfl) ?_ ?_ ?_ ?_ ?_ ?_) | go_in)
                  · exact own_ext HG.out.own (u.ext.alloc _ _)
                  · exact els_new _ _ rfl _ _ _
                  · intro cs hcs v hv
                    rw [List.mem_singleton.1 hcs] at hv
                    simp only [List.mem_cons, List.not_mem_nil, or_false] at hv
                    rcases hv with rfl | rfl | rfl | rfl <;> rfl
                  · omega
                  · omega
                  · omega
                  · exact ((HG.out.ext.trans u.ext).alloc _ _).size
                  intro v5 w5 hown5 hgrow5
                  have hg5 := HG.out.snoc (cs := [.int .i64 X1, .int .i64 X2, .int .i64 0, .bool true]) (u.ext.alloc _ _) hown5 hgrow5 (by unfold cell4; rw [← HX1.out, ← HX2.out, decide_eq_true hky]; simp)
                  clear hown5 hgrow5
                  obtain ⟨g5, c5, rfl, hlo⟩ := hg5.slice (by omega)
                  have HG5 : Hid (GcI w1 (.slice (some ⟨g5, 0, none⟩) (k + 1) c5) (k + 1) (cell4 x y q (fun i => if i = k then 0 else h i)) w5) := hg5
                  have c2 : w5.cell? ⟨g5, k * 4 + 2, none⟩ = some (.int .i64 0) := (hg5.cell (show k < k + 1 by omega) (j := 2) (by unfold cell4; simp)).1
                  have c3 : w5.frozen? ⟨g5, k * 4 + 2, none⟩ = false := (hg5.cell (show k < k + 1 by omega) (j := 2) (v := .int .i64 0) (by unfold cell4; simp)).2
                  have hkk : (k : Int) < ((k + 1 : Nat) : Int) := by omega
                  have hkk2 : (k : Int) < (k : Int) + 1 := by omega
                  clear hg5
                  go_wp2_with fail
                  go_roundw
                  case rel =>
                    refine ⟨k + 1, _, by omega, by go_num, HG5.out.inc hlo (by omega) (by rw [if_pos rfl]; rfl), fun i hi => ?_⟩
                    by_cases e : i = k
                    · subst e
                      rw [if_pos rfl, if_pos rfl, if_pos (by omega)]
                      rfl
                    · have := Hh.out i (by omega)
                      rw [if_pos (by omega)] at this
                      rw [if_neg e, if_neg e, if_pos (by omega), this]
                  case measure => simp [intOf]; omega
                · have hkyI : ¬ (k : Int) < (y : Int) := by omega
                  have hbd : ∀ w : World, (Instr.build 59 #[(0, .int .i64 (X1 : Int)), (1, .int .i64 (X2 : Int)), (3, .bool false)]).run Try.prog w = .ok (.agg #[.int .i64 X1, .int .i64 X2, .int .i64 0, .bool false]) w := fun w => by
                    simp [Instr.build, run_underlying Try.underlying59, go_sem]
                  go_wp2_with fail
                  refine wp_region_grows1 11 (by kernel_rfl) (by kernel_rfl) rfl _ rfl (fun _ _ _ h => h) (fun hne => ?_)
                  simp only [List.take_succ_cons, List.take_zero, List.drop_succ_cons, List.drop_zero]
                  repeat (go_big_quiet_step (fail))
                  refine wpQuiet_nil ?_
                  intro w4 hw4
                  obtain ⟨u, rfl⟩ := hw4
                  go_wp2_with (first | (at_builtin; refine append_els _ rfl (.tmp 66) (.tmp 77) 51 rfl 4 (by omega) w1.heap.size 59 (.agg #[.int .i64 0, .int .i64 0, .int .i64 0, .bool false]) 32 Try.underlying51 infoCol rfl u10 k ((List.range k).map (cell4 x y q h)) rfl ?_ (some ⟨u.w'.heap.size, 0, none⟩) 1 1 [[.int .i64 X1, .int .i64 X2, .int .i64 0, .bool false]] rfl rfl ?_ (Szd.one rfl) ?_ ?_ ?_ ?_ ?_ ?_) | go_in)
                  · exact own_ext HG.out.own (u.ext.alloc _ _)
                  · exact els_new _ _ rfl _ _ _
                  · intro cs hcs v hv
                    rw [List.mem_singleton.1 hcs] at hv
                    simp only [List.mem_cons, List.not_mem_nil, or_false] at hv
                    rcases hv with rfl | rfl | rfl | rfl <;> rfl
                  · omega
                  · omega
                  · omega
                  · exact ((HG.out.ext.trans u.ext).alloc _ _).size
                  intro v5 w5 hown5 hgrow5
                  have hg5 := HG.out.snoc (cs := [.int .i64 X1, .int .i64 X2, .int .i64 0, .bool false]) (u.ext.alloc _ _) hown5 hgrow5 (by unfold cell4; rw [← HX1.out, ← HX2.out, decide_eq_false hky]; simp)
                  clear hown5 hgrow5
                  obtain ⟨g5, c5, rfl, hlo⟩ := hg5.slice (by omega)
                  have HG5 : Hid (GcI w1 (.slice (some ⟨g5, 0, none⟩) (k + 1) c5) (k + 1) (cell4 x y q (fun i => if i = k then 0 else h i)) w5) := hg5
                  have c2 : w5.cell? ⟨g5, k * 4 + 2, none⟩ = some (.int .i64 0) := (hg5.cell (show k < k + 1 by omega) (j := 2) (by unfold cell4; simp)).1
                  have c3 : w5.frozen? ⟨g5, k * 4 + 2, none⟩ = false := (hg5.cell (show k < k + 1 by omega) (j := 2) (v := .int .i64 0) (by unfold cell4; simp)).2
                  have hkk : (k : Int) < ((k + 1 : Nat) : Int) := by omega
                  have hkk2 : (k : Int) < (k : Int) + 1 := by omega
                  clear hg5
                  go_wp2_with fail
                  go_roundw
                  case rel =>
                    refine ⟨k + 1, _, by omega, by go_num, HG5.out.inc hlo (by omega) (by rw [if_pos rfl]; rfl), fun i hi => ?_⟩
                    by_cases e : i = k
                    · subst e
                      rw [if_pos rfl, if_pos rfl, if_pos (by omega)]
                      rfl
                    · have := Hh.out i (by omega)
                      rw [if_pos (by omega)] at this
                      rw [if_neg e, if_neg e, if_pos (by omega), this]
                  case measure => simp [intOf]; omega
              · obtain rfl : k = n := by omega
                clear hkn hk
                go_wp2_with fail
                go_roundw
                case rel =>
                  refine ⟨1, K + (x - y), k, h, by go_num, HK2.out, by omega, by omega, HG.out, by rw [if_neg (by omega)]; first | exact HNW.out.2 rfl | exact HNW.out.2 trivial, fun i hi => ?_⟩
                  rw [Hh.out i hi]
                  show _ = cntR x y z 0 i + if i < nRow x y z 0 then 1 else 0
                  rw [← HN.out]
                case measure => simp [intOf]
        · have hrb : ((r : Int) == 0) = false := by rw [beq_eq_false_iff_ne]; omega
          by_cases hbig : x - y ≤ z - K
          · have hm0 := HM.out
            rw [if_neg hr0] at hm0
            subst hm0
            clear HM
            have hgo : (x : Int) - (y : Int) ≤ (z : Int) - (K : Int) := by omega
            have hmi : min ((x : Int) - (y : Int)) ((z : Int) - (K : Int)) = (x : Int) - (y : Int) := by omega
            have hnv : ((y : Int) + ((x : Int) - (y : Int))) = (n : Int) := by omega
            go_wp2_with fail
            go_loopw [10, 13] (fun v i wr => ∃ (k : Nat) (h : Nat → Nat), k ≤ n ∧ i = .int .i64 k ∧ GcI w1 v m (cell4 x y q h) wr ∧ Hid (∀ i, i < m → h i = cntR x y z r i + if i < k then 1 else 0)) (fun _ i _ => n - (intOf i).toNat)
            case atStart => exact ⟨0, h, Nat.zero_le _, rfl, HG.out, fun i hi => by rw [if_neg (by omega)]; exact Hh.out i hi⟩
            case round =>
              clear Hh HG
              obtain ⟨k, h, hk, rfl, hgi, Hh⟩ := hrel
              by_cases hkn : k < n
              · obtain ⟨g5, c5, hu, hlo⟩ := hgi.slice (by omega)
                subst hu
                have HG5 : Hid (GcI w1 (.slice (some ⟨g5, 0, none⟩) m c5) m (cell4 x y q h) wr) := hgi
                have hhk : Hid (h k ≤ 64) := by
                  show _ ≤ _
                  rw [Hh.out k (by omega)]
                  have := cntR_le x y z r k
                  split <;> omega
                have hhk2 := hhk.out
                obtain ⟨H, hH⟩ : ∃ H : Nat, H = h k := ⟨_, rfl⟩
                have c2 : wr.cell? ⟨g5, k * 4 + 2, none⟩ = some (.int .i64 (H : Nat)) := (hgi.cell (show k < m by omega) (j := 2) (by unfold cell4; rw [hH]; rfl)).1
                have c3 : wr.frozen? ⟨g5, k * 4 + 2, none⟩ = false := (hgi.cell (show k < m by omega) (j := 2) (v := .int .i64 (h k : Nat)) (by unfold cell4; rfl)).2
                have hkk : (k : Int) < (m : Int) := by omega
                rw [← hH] at hhk2
                have HH : Hid (H = h k) := hH
                clear hgi hH
                go_wp2_with fail
                go_roundw
                case rel =>
                  refine ⟨k + 1, _, by omega, by go_num, HG5.out.inc hlo (by omega) (by rw [← HH.out]; rfl), fun i hi => ?_⟩
                  rw [Hh.out i hi]
                  by_cases e : i = k
                  · subst e
                    rw [if_neg (by omega), if_pos rfl, if_pos (by omega)]
                  · rw [if_neg e]
                    by_cases l : i < k
                    · rw [if_pos l, if_pos (by omega)]
                    · rw [if_neg l, if_neg (by omega)]
                case measure => simp [intOf]; omega
              · obtain rfl : k = n := by omega
                clear hkn hk
                have HG : Hid (GcI w1 u10 m (cell4 x y q h) wr) := hgi
                clear hgi
                go_wp2_with fail
                go_roundw
                case rel =>
                  refine ⟨r + 1, K + (x - y), m, h, by go_num, HK2.out, by omega, by omega, HG.out, by rw [if_neg (by omega)], fun i hi => ?_⟩
                  rw [Hh.out i hi]
                  show _ = cntR x y z r i + if i < nRow x y z r then 1 else 0
                  rw [← HN.out]
                case measure => simp [intOf]; omega
          · have hm0 := HM.out
            rw [if_neg hr0] at hm0
            subst hm0
            clear HM
            have hgo : ¬ (x : Int) - (y : Int) ≤ (z : Int) - (K : Int) := by omega
            have hmi : min ((x : Int) - (y : Int)) ((z : Int) - (K : Int)) = (z : Int) - (K : Int) := by omega
            have hnv : ((y : Int) + ((z : Int) - (K : Int))) = (n : Int) := by omega
            go_wp2_with fail
            go_loopw [10, 13] (fun v i wr => ∃ (k : Nat) (h : Nat → Nat), k ≤ n ∧ i = .int .i64 k ∧ GcI w1 v m (cell4 x y q h) wr ∧ Hid (∀ i, i < m → h i = cntR x y z r i + if i < k then 1 else 0)) (fun _ i _ => n - (intOf i).toNat)
            case atStart => exact ⟨0, h, Nat.zero_le _, rfl, HG.out, fun i hi => by rw [if_neg (by omega)]; exact Hh.out i hi⟩
            case round =>
              clear Hh HG
              obtain ⟨k, h, hk, rfl, hgi, Hh⟩ := hrel
              by_cases hkn : k < n
              · obtain ⟨g5, c5, hu, hlo⟩ := hgi.slice (by omega)
                subst hu
                have HG5 : Hid (GcI w1 (.slice (some ⟨g5, 0, none⟩) m c5) m (cell4 x y q h) wr) := hgi
                have hhk : Hid (h k ≤ 64) := by
                  show _ ≤ _
                  rw [Hh.out k (by omega)]
                  have := cntR_le x y z r k
                  split <;> omega
                have hhk2 := hhk.out
                obtain ⟨H, hH⟩ : ∃ H : Nat, H = h k := ⟨_, rfl⟩
                have c2 : wr.cell? ⟨g5, k * 4 + 2, none⟩ = some (.int .i64 (H : Nat)) := (hgi.cell (show k < m by omega) (j := 2) (by unfold cell4; rw [hH]; rfl)).1
                have c3 : wr.frozen? ⟨g5, k * 4 + 2, none⟩ = false := (hgi.cell (show k < m by omega) (j := 2) (v := .int .i64 (h k : Nat)) (by unfold cell4; rfl)).2
                have hkk : (k : Int) < (m : Int) := by omega
                rw [← hH] at hhk2
                have HH : Hid (H = h k) := hH
                clear hgi hH
                go_wp2_with fail
                go_roundw
                case rel =>
                  refine ⟨k + 1, _, by omega, by go_num, HG5.out.inc hlo (by omega) (by rw [← HH.out]; rfl), fun i hi => ?_⟩
                  rw [Hh.out i hi]
                  by_cases e : i = k
                  · subst e
                    rw [if_neg (by omega), if_pos rfl, if_pos (by omega)]
                  · rw [if_neg e]
                    by_cases l : i < k
                    · rw [if_pos l, if_pos (by omega)]
                    · rw [if_neg l, if_neg (by omega)]
                case measure => simp [intOf]; omega
              · obtain rfl : k = n := by omega
                clear hkn hk
                have HG : Hid (GcI w1 u10 m (cell4 x y q h) wr) := hgi
                clear hgi
                go_wp2_with fail
                go_roundw
                case rel =>
                  refine ⟨r + 1, K + (x - y), m, h, by go_num, HK2.out, by omega, by omega, HG.out, by rw [if_neg (by omega)], fun i hi => ?_⟩
                  rw [Hh.out i hi]
                  show _ = cntR x y z r i + if i < nRow x y z r then 1 else 0
                  rw [← HN.out]
                case measure => simp [intOf]; omega
      · have hr0 : r ≠ 0 := fun h0 => by
          have := HK.out
          rw [h0, Nat.zero_mul] at this
          omega
        have hk : prt z (x - y) = r := prt_uniq _ _ _ (by rw [← HK.out]; omega) (by rw [← HK.out]; omega)
        have hmW := HM.out
        rw [if_neg hr0] at hmW
        have HF : Hid (∀ i, i < m → cell4 x y q h i = cell4 x y q (cntC x y z) i) := fun i hi => cell4_congr (by rw [Hh.out i hi, cntC, hk])
        have HMW : Hid (m = colN x y z) := hmW.trans HW.out
        clear hk hmW
        go_wp2_with fail
        go_ret2
        exact ⟨GcRes.yes HV.out HG.out HMW.out HF.out, HG.out.ext⟩
end Go.Proofs.Ythgbfakmkdifbaa
