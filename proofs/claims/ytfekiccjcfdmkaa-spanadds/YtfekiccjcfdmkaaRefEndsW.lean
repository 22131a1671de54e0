/-
  quicksetref.ends, walked.
-/
import Derived.Test.YtfekiccjcfdmkaaRefEnds
namespace Go.Proofs.Ytfekiccjcfdmkaa
open Go.RowKit Go.Deep
theorem iv_one (P : List Int) : ∀ v ∈ P.map IV ++ [Value.int .i64 0], v.oneCell' = true := by
  intro v hv
  rcases List.mem_append.1 hv with h | h
  · obtain ⟨z, _, rfl⟩ := List.mem_map.1 h
    rfl
  · rw [List.mem_singleton] at h
    subst h
    rfl
theorem high_of {P : List Int} (hu : Up P) {r : Nat} {z nn : Int} (hz : P[r]? = some z) (h1 : nn ≤ z) (h2 : z ≠ nn) : ∀ i z', r ≤ i → P[i]? = some z' → nn < z' := by
  intro i z' hi hz'
  rcases Nat.lt_or_ge r i with c | c
  · have := hu r i z z' c hz hz'
    omega
  · obtain rfl : i = r := by omega
    rw [hz] at hz'
    cases hz'
    omega
theorem low_of {P : List Int} (hu : Up P) {r : Nat} {z nn : Int} (h0 : 0 < r) (hz : P[r - 1]? = some z) (h1 : ¬ nn ≤ z) : ∀ i z', i < r → P[i]? = some z' → z' < nn := by
  intro i z' hi hz'
  rcases Nat.lt_or_ge i (r - 1) with c | c
  · have := hu i (r - 1) z' z c hz' hz
    omega
  · obtain rfl : i = r - 1 := by omega
    rw [hz] at hz'
    cases hz'
    omega
def EndsRes (w : World) (m : Nat) (LL : Nat → List (Int × Int)) (v : Value) (w' : World) : Prop :=
  ∃ P, Up P ∧ (∀ j, j < m → Ends P (LL j)) ∧ P.length ≤ 800 ∧ w'.ownsRow w.heap.size 3 1 v P.length (P.map IV) ∧ Ext w w'
set_option maxRecDepth 100000 in
set_option maxHeartbeats 3200000 in
theorem ends_any (lb m cm : Nat) (A : Nat → Option Addr) (N C : Nat → Nat) (LL : Nat → List (Int × Int)) (w : World) (hm : m ≤ 2)
    (hN : ∀ j, j < m → (LL j).length = N j ∧ N j ≤ 200) (hcell : ∀ j, j < m → w.cell? ⟨lb, j, none⟩ = some (.slice (A j) (N j) (C j))) (hR : ∀ j, j < m → Rngs w (A j) (LL j)) :
    Calls Try.prog 28 #[.slice (some ⟨lb, 0, none⟩) m cm] w fun e w' => ∃ v, e = .returned v ∧ EndsRes w m LL v w' := by
  have HN : Hid (∀ j, j < m → (LL j).length = N j ∧ N j ≤ 200) := hN
  have HC : Hid (∀ j, j < m → w.cell? ⟨lb, j, none⟩ = some (.slice (A j) (N j) (C j))) := hcell
  have HR : Hid (∀ j, j < m → Rngs w (A j) (LL j)) := hR
  clear hN hcell hR
  go_enter Try.func28, Try.ntmps28
  go_wp2_with fail
  go_loopw [3, 13] (fun v i wr => ∃ (j : Nat) (P : List Int), j ≤ m ∧ i = .int .i64 j ∧ MI w LL j 0 v P wr) (fun _ i _ => m - (intOf i).toNat)
  case atStart => exact ⟨0, [], Nat.zero_le _, rfl, MI.start w LL⟩
  case round =>
    obtain ⟨j, P, hj, rfl, hmi⟩ := hrel
    have HM : Hid (MI w LL j 0 u3 P wr) := hmi
    clear hmi
    by_cases hlt : j < m
    · have hcj := HM.out.ext.keeps (HC.out j hlt)
      have hlen := HN.out j hlt
      have HLn : Hid ((LL j).length = N j) := hlen.1
      have hNb : N j ≤ 200 := hlen.2
      have HRj : Hid (∀ w', Ext w w' → Rngs w' (A j) (LL j)) := fun w' q => (HR.out j hlt).ext q
      obtain ⟨aj, haj⟩ : ∃ aj, A j = aj := ⟨_, rfl⟩
      rw [haj] at hcj HRj
      clear haj hlen
      go_wp2_with fail
      go_loopw [3, 19] (fun v i wi => ∃ (q : Nat) (P : List Int), q ≤ N j ∧ i = .int .i64 q ∧ MI w LL j q v P wi) (fun _ i _ => N j - (intOf i).toNat)
      case atStart => exact ⟨0, P, Nat.zero_le _, rfl, HM.out⟩
      case round =>
        clear HM hcj
        obtain ⟨q, P, hq, rfl, hmi⟩ := hrel
        have HM : Hid (MI w LL j q u3 P wr) := hmi
        clear hmi
        by_cases hqt : q < N j
        · obtain ⟨⟨x, y⟩, h1, h2, h3⟩ := drop_at (L := LL j) (k := q) (by rw [HLn.out]; exact hqt)
          obtain ⟨b, o, rfl, hc1, hc2⟩ := (HRj.out _ HM.out.ext) q x y h1
          have HE : Hid ((LL j)[q]? = some (x, y)) := h1
          clear h1 h2 h3
          obtain ⟨wo, hwo⟩ : ∃ wo, wo = wr := ⟨_, rfl⟩
          subst hwo
          go_wp2_with fail
          go_loopw [3, 29] (fun v i wi => ∃ (t : Nat) (P' : List Int), t ≤ 2 ∧ i = .int .i64 t ∧ InI w (wo.heap.size + 1) x y P t v P' wi) (fun _ i _ => 2 - (intOf i).toNat)
          case atStart => exact ⟨0, P, Nat.zero_le _, rfl, InI.start HM.out _ _ _⟩
          case round =>
            clear hc1 hc2
            obtain ⟨t, P', ht, rfl, hin⟩ := hrel
            by_cases htt : t < 2
            · have HI0 : Hid (InI w (wo.heap.size + 1) x y P t u3 P' wr) := hin
              obtain ⟨n3, hn3⟩ : ∃ n3, P'.length = n3 := ⟨_, rfl⟩
              have hown := hin.own
              rw [hn3] at hown
              obtain ⟨a3, c3, rfl, hcs⟩ := own_slice hown
              have HI : Hid (InI w (wo.heap.size + 1) x y P t (.slice a3 n3 c3) P' wr) := HI0.out
              have HCell : Hid (∀ i z, P'[i]? = some z → ∃ b o, a3 = some ⟨b, o, none⟩ ∧ wr.cell? ⟨b, o + i, none⟩ = some (.int .i64 z)) := fun i z hz => by
                obtain ⟨b, o, h1, h2⟩ := hcs i (by have := lt_of_get hz; omega)
                refine ⟨b, o, h1, ?_⟩
                rw [h2, List.getElem?_map, hz]
                rfl
              have HO : Hid (wr.ownsRow w.heap.size 3 1 (.slice a3 n3 c3) n3 (P'.map IV)) := hown
              have HN3 : Hid (P'.length = n3) := hn3
              have hn3b : n3 ≤ 2000 := by have h1 := hin.len; have h2 := HM.out.len; omega
              have hsz3 : w.heap.size ≤ wr.heap.size := hin.ext.size
              have hlt := hin.lit t htt
              obtain ⟨nn, hnn⟩ : ∃ nn, e2 x y t = nn := ⟨_, rfl⟩
              rw [hnn] at hlt
              have HNN : Hid (e2 x y t = nn) := hnn
              clear hnn hin hown hcs hn3 HI0
              go_wp2_with fail
              go_loop [10] (fun s => ∃ r : Nat, r ≤ n3 ∧ s = .int .i64 r ∧ Hid (∀ i z, r ≤ i → P'[i]? = some z → nn ≤ z)) (fun s => (intOf s).toNat)
              case atStart => exact ⟨n3, Nat.le_refl _, rfl, fun i z hi hz => by have h1 := lt_of_get hz; have h2 := HN3.out; omega⟩
              case round =>
                obtain ⟨r, hr', rfl, HGe⟩ := hrel
                have hr : r ≤ P'.length := by rw [HN3.out]; exact hr'
                have HRl : Hid (r ≤ P'.length) := hr
                clear hlt hr
                by_cases h0 : 0 < r
                · obtain ⟨z, hz⟩ : ∃ z, P'[r - 1]? = some z := ⟨_, List.getElem?_eq_getElem (by rw [HN3.out]; omega)⟩
                  obtain ⟨b3, o3, hb3, hc3⟩ := HCell.out (r - 1) z hz
                  have HZ : Hid (P'[r - 1]? = some z) := hz
                  clear hz
                  have hi1 : ((r : Int) - 1).toNat = r - 1 := by omega
                  by_cases hge : nn ≤ z
                  · subst hb3
                    go_wp2_with fail
                    go_round
                    case rel => exact ⟨r - 1, by omega, by go_num, fun i z' hi hz' => by
                      rcases Nat.lt_or_ge i r with c | c
                      · obtain rfl : i = r - 1 := by omega
                        have h5 := HZ.out
                        rw [hz'] at h5
                        cases h5
                        exact hge
                      · exact HGe.out i z' c hz'⟩
                    case measure => simp [intOf]; omega
                  · have HLow : Hid (∀ i z', i < r → P'[i]? = some z' → z' < nn) := low_of HI.out.up h0 HZ.out hge
                    subst hb3
                    by_cases hrn : r < n3
                    · obtain ⟨z2, hz2⟩ : ∃ z2, P'[r]? = some z2 := ⟨_, List.getElem?_eq_getElem (by rw [HN3.out]; exact hrn)⟩
                      obtain ⟨b4, o4, hb4, hc4⟩ := HCell.out r z2 hz2
                      cases hb4
                      have HZ2 : Hid (P'[r]? = some z2) := hz2
                      clear hz2
                      have dR : decide (r < n3) = true := decide_eq_true hrn
                      by_cases heq : z2 = nn
                      · have HMem : Hid (e2 x y t ∈ P') := by show _ ∈ _; rw [HNN.out, ← heq]; exact List.mem_of_getElem? HZ2.out
                        have dX : (z2 == nn) = true := by simp [heq]
                        clear heq
                        go_wp2_with fail
                        go_roundw
                        case rel => exact ⟨t + 1, P', by omega, by go_num, HI.out.skip htt HMem.out⟩
                        case measure => simp [intOf]; omega
                      · have HHigh : Hid (∀ i z, r ≤ i → P'[i]? = some z → nn < z) := high_of HI.out.up HZ2.out (HGe.out r z2 (Nat.le_refl _) HZ2.out) heq
                        have dX : (z2 == nn) = false := by simp [heq]
                        clear heq
                        go_wp2_with (first | (at_builtin; refine append_one_lies wr rfl _ _ 31 rfl w.heap.size 3 (.int .i64 0) 8 Try.underlying31 infoIE rfl (.slice (some ⟨b3, o3, none⟩) n3 c3) n3 (P'.map IV) rfl HO.out (.int .i64 0) 1 rfl rfl (by decide) (by omega) hsz3 ?_) | go_in)
                        intro g cap w5 hown5 hgrow5 hat5 hcap5
                        have HO5 : Hid (w5.ownsRow w.heap.size 3 1 (.slice (some ⟨g, 0, none⟩) (n3 + 1) cap) (n3 + 1) (P'.map IV ++ [Value.int .i64 0])) := hown5
                        have HG5 : Hid _ := hgrow5
                        have HA5 : Hid _ := hat5
                        clear hown5 hgrow5 hat5
                        obtain ⟨A1, hA1⟩ : ∃ A1, subA (some (⟨g, 0, none⟩ : Addr)) cap (r + 1) = A1 := ⟨_, rfl⟩
                        obtain ⟨L1, hL1⟩ : ∃ L1, n3 + 1 - (r + 1) = L1 := ⟨_, rfl⟩
                        obtain ⟨C1, hC1⟩ : ∃ C1, cap - (r + 1) = C1 := ⟨_, rfl⟩
                        obtain ⟨A2, hA2⟩ : ∃ A2, subA (some (⟨g, 0, none⟩ : Addr)) cap r = A2 := ⟨_, rfl⟩
                        obtain ⟨L2, hL2⟩ : ∃ L2, n3 + 1 - r = L2 := ⟨_, rfl⟩
                        obtain ⟨C2, hC2⟩ : ∃ C2, cap - r = C2 := ⟨_, rfl⟩
                        have hs1 : ∀ w, (Instr.slice 31 (.slice (some ⟨g, 0, none⟩) (n3 + 1) cap) (some (.int .i64 ((r : Int) + 1))) none none).run Try.prog w = .ok (.slice A1 L1 C1) w := fun w => by
                          rw [← hA1, ← hL1, ← hC1]
                          exact sub_l (P := Try.prog) Try.underlying31 cellsIE _ _ _ (r + 1) (by omega) _ (by omega) w
                        have hs2 : ∀ w, (Instr.slice 31 (.slice (some ⟨g, 0, none⟩) (n3 + 1) cap) (some (.int .i64 (r : Int))) none none).run Try.prog w = .ok (.slice A2 L2 C2) w := fun w => by
                          rw [← hA2, ← hL2, ← hC2]
                          exact sub_l (P := Try.prog) Try.underlying31 cellsIE _ _ _ r (by omega) _ rfl w
                        have H1 : Hid (subA (some (⟨g, 0, none⟩ : Addr)) cap (r + 1) = A1 ∧ n3 + 1 - (r + 1) = L1 ∧ cap - (r + 1) = C1) := ⟨hA1, hL1, hC1⟩
                        have H2 : Hid (subA (some (⟨g, 0, none⟩ : Addr)) cap r = A2 ∧ n3 + 1 - r = L2 ∧ cap - r = C2) := ⟨hA2, hL2, hC2⟩
                        clear hA1 hL1 hC1 hA2 hL2 hC2
                        go_wp2_with fail
                        refine wp_region_grows 7 (by kernel_rfl) (by kernel_rfl) (fun hne => ?_)
                        simp only [List.take_succ_cons, List.take_zero, List.drop_succ_cons, List.drop_zero]
                        repeat (go_big_quiet_step (fail))
                        refine wpQuiet_nil ?_
                        intro w9 hw9
                        obtain ⟨q9, rfl⟩ := hw9
                        clear hs1 hs2
                        refine copy_up rfl (.tmp 66) (.tmp 69) 31 rfl 3 Try.underlying31 sizeIE w.heap.size g (n3 + 1) cap r (P'.map IV ++ [Value.int .i64 0]) (own_ext HO5.out q9.ext) ?_ ?_ ?_ ?_ ?_
                        · omega
                        · exact iv_one P'
                        · rw [H1.out.1, H1.out.2.1, H1.out.2.2]; rfl
                        · rw [H2.out.1, H2.out.2.1, H2.out.2.2]; rfl
                        intro w10 hown10 hgrow10
                        have hfr := hown10.frozenAt r
                        obtain ⟨uu, huu⟩ : ∃ uu, w10.cell? ⟨g, r, none⟩ = some uu := by
                          rw [hown10.cellAt r (by omega)]
                          exact ⟨_, List.getElem?_eq_getElem (by rw [hown10.1]; omega)⟩
                        have HO10 : Hid (w10.ownsRow w.heap.size 3 1 (.slice (some ⟨g, 0, none⟩) (n3 + 1) cap) (n3 + 1) ((P'.map IV ++ [Value.int .i64 0]).take (r + 1) ++ ((P'.map IV ++ [Value.int .i64 0]).drop r).take (n3 + 1 - (r + 1)))) := hown10
                        have HG10 : Hid (q9.w'.grownBy w10 (some g)) := hgrow10
                        clear hown10 hgrow10 H1 H2
                        go_wp2_with fail
                        go_roundw
                        case rel => exact ⟨t + 1, putAt P' r nn, by omega, by go_num, by
                          have e3 := HN3.out
                          subst e3
                          exact HI.out.put htt HNN.out HRl.out HLow.out HHigh.out HO5.out HG5.out HA5.out q9.ext HO10.out HG10.out⟩
                        case measure => simp [intOf]; omega
                    · have HHigh : Hid (∀ i z, r ≤ i → P'[i]? = some z → nn < z) := fun i z hi hz => by
                        have h1 := lt_of_get hz
                        have h2 := HN3.out
                        omega
                      have dR : decide (r < n3) = false := decide_eq_false hrn
                      go_wp2_with (first | (at_builtin; refine append_one_lies wr rfl _ _ 31 rfl w.heap.size 3 (.int .i64 0) 8 Try.underlying31 infoIE rfl (.slice (some ⟨b3, o3, none⟩) n3 c3) n3 (P'.map IV) rfl HO.out (.int .i64 0) 1 rfl rfl (by decide) (by omega) hsz3 ?_) | go_in)
                      intro g cap w5 hown5 hgrow5 hat5 hcap5
                      have HO5 : Hid (w5.ownsRow w.heap.size 3 1 (.slice (some ⟨g, 0, none⟩) (n3 + 1) cap) (n3 + 1) (P'.map IV ++ [Value.int .i64 0])) := hown5
                      have HG5 : Hid _ := hgrow5
                      have HA5 : Hid _ := hat5
                      clear hown5 hgrow5 hat5
                      obtain ⟨A1, hA1⟩ : ∃ A1, subA (some (⟨g, 0, none⟩ : Addr)) cap (r + 1) = A1 := ⟨_, rfl⟩
                      obtain ⟨L1, hL1⟩ : ∃ L1, n3 + 1 - (r + 1) = L1 := ⟨_, rfl⟩
                      obtain ⟨C1, hC1⟩ : ∃ C1, cap - (r + 1) = C1 := ⟨_, rfl⟩
                      obtain ⟨A2, hA2⟩ : ∃ A2, subA (some (⟨g, 0, none⟩ : Addr)) cap r = A2 := ⟨_, rfl⟩
                      obtain ⟨L2, hL2⟩ : ∃ L2, n3 + 1 - r = L2 := ⟨_, rfl⟩
                      obtain ⟨C2, hC2⟩ : ∃ C2, cap - r = C2 := ⟨_, rfl⟩
                      have hs1 : ∀ w, (Instr.slice 31 (.slice (some ⟨g, 0, none⟩) (n3 + 1) cap) (some (.int .i64 ((r : Int) + 1))) none none).run Try.prog w = .ok (.slice A1 L1 C1) w := fun w => by
                        rw [← hA1, ← hL1, ← hC1]
                        exact sub_l (P := Try.prog) Try.underlying31 cellsIE _ _ _ (r + 1) (by omega) _ (by omega) w
                      have hs2 : ∀ w, (Instr.slice 31 (.slice (some ⟨g, 0, none⟩) (n3 + 1) cap) (some (.int .i64 (r : Int))) none none).run Try.prog w = .ok (.slice A2 L2 C2) w := fun w => by
                        rw [← hA2, ← hL2, ← hC2]
                        exact sub_l (P := Try.prog) Try.underlying31 cellsIE _ _ _ r (by omega) _ rfl w
                      have H1 : Hid (subA (some (⟨g, 0, none⟩ : Addr)) cap (r + 1) = A1 ∧ n3 + 1 - (r + 1) = L1 ∧ cap - (r + 1) = C1) := ⟨hA1, hL1, hC1⟩
                      have H2 : Hid (subA (some (⟨g, 0, none⟩ : Addr)) cap r = A2 ∧ n3 + 1 - r = L2 ∧ cap - r = C2) := ⟨hA2, hL2, hC2⟩
                      clear hA1 hL1 hC1 hA2 hL2 hC2
                      go_wp2_with fail
                      refine wp_region_grows 7 (by kernel_rfl) (by kernel_rfl) (fun hne => ?_)
                      simp only [List.take_succ_cons, List.take_zero, List.drop_succ_cons, List.drop_zero]
                      repeat (go_big_quiet_step (fail))
                      refine wpQuiet_nil ?_
                      intro w9 hw9
                      obtain ⟨q9, rfl⟩ := hw9
                      clear hs1 hs2
                      refine copy_up rfl (.tmp 66) (.tmp 69) 31 rfl 3 Try.underlying31 sizeIE w.heap.size g (n3 + 1) cap r (P'.map IV ++ [Value.int .i64 0]) (own_ext HO5.out q9.ext) ?_ ?_ ?_ ?_ ?_
                      · omega
                      · exact iv_one P'
                      · rw [H1.out.1, H1.out.2.1, H1.out.2.2]; rfl
                      · rw [H2.out.1, H2.out.2.1, H2.out.2.2]; rfl
                      intro w10 hown10 hgrow10
                      have hfr := hown10.frozenAt r
                      obtain ⟨uu, huu⟩ : ∃ uu, w10.cell? ⟨g, r, none⟩ = some uu := by
                        rw [hown10.cellAt r (by omega)]
                        exact ⟨_, List.getElem?_eq_getElem (by rw [hown10.1]; omega)⟩
                      have HO10 : Hid (w10.ownsRow w.heap.size 3 1 (.slice (some ⟨g, 0, none⟩) (n3 + 1) cap) (n3 + 1) ((P'.map IV ++ [Value.int .i64 0]).take (r + 1) ++ ((P'.map IV ++ [Value.int .i64 0]).drop r).take (n3 + 1 - (r + 1)))) := hown10
                      have HG10 : Hid (q9.w'.grownBy w10 (some g)) := hgrow10
                      clear hown10 hgrow10 H1 H2
                      go_wp2_with fail
                      go_roundw
                      case rel => exact ⟨t + 1, putAt P' r nn, by omega, by go_num, by
                        have e3 := HN3.out
                        subst e3
                        exact HI.out.put htt HNN.out HRl.out HLow.out HHigh.out HO5.out HG5.out HA5.out q9.ext HO10.out HG10.out⟩
                      case measure => simp [intOf]; omega
                · have HLow : Hid (∀ i z', i < r → P'[i]? = some z' → z' < nn) := fun i z' hi _ => by omega
                  have dZ : decide (0 < r) = false := decide_eq_false h0
                  by_cases hrn : r < n3
                  · obtain ⟨z2, hz2⟩ : ∃ z2, P'[r]? = some z2 := ⟨_, List.getElem?_eq_getElem (by rw [HN3.out]; exact hrn)⟩
                    obtain ⟨b4, o4, hb4, hc4⟩ := HCell.out r z2 hz2
                    cases hb4
                    have HZ2 : Hid (P'[r]? = some z2) := hz2
                    clear hz2
                    have dR : decide (r < n3) = true := decide_eq_true hrn
                    by_cases heq : z2 = nn
                    · have HMem : Hid (e2 x y t ∈ P') := by show _ ∈ _; rw [HNN.out, ← heq]; exact List.mem_of_getElem? HZ2.out
                      have dX : (z2 == nn) = true := by simp [heq]
                      clear heq
                      go_wp2_with fail
                      go_roundw
                      case rel => exact ⟨t + 1, P', by omega, by go_num, HI.out.skip htt HMem.out⟩
                      case measure => simp [intOf]; omega
                    · have HHigh : Hid (∀ i z, r ≤ i → P'[i]? = some z → nn < z) := high_of HI.out.up HZ2.out (HGe.out r z2 (Nat.le_refl _) HZ2.out) heq
                      have dX : (z2 == nn) = false := by simp [heq]
                      clear heq
                      go_wp2_with (first | (at_builtin; refine append_one_lies wr rfl _ _ 31 rfl w.heap.size 3 (.int .i64 0) 8 Try.underlying31 infoIE rfl (.slice (some ⟨b4, o4, none⟩) n3 c3) n3 (P'.map IV) rfl HO.out (.int .i64 0) 1 rfl rfl (by decide) (by omega) hsz3 ?_) | go_in)
                      intro g cap w5 hown5 hgrow5 hat5 hcap5
                      have HO5 : Hid (w5.ownsRow w.heap.size 3 1 (.slice (some ⟨g, 0, none⟩) (n3 + 1) cap) (n3 + 1) (P'.map IV ++ [Value.int .i64 0])) := hown5
                      have HG5 : Hid _ := hgrow5
                      have HA5 : Hid _ := hat5
                      clear hown5 hgrow5 hat5
                      obtain ⟨A1, hA1⟩ : ∃ A1, subA (some (⟨g, 0, none⟩ : Addr)) cap (r + 1) = A1 := ⟨_, rfl⟩
                      obtain ⟨L1, hL1⟩ : ∃ L1, n3 + 1 - (r + 1) = L1 := ⟨_, rfl⟩
                      obtain ⟨C1, hC1⟩ : ∃ C1, cap - (r + 1) = C1 := ⟨_, rfl⟩
                      obtain ⟨A2, hA2⟩ : ∃ A2, subA (some (⟨g, 0, none⟩ : Addr)) cap r = A2 := ⟨_, rfl⟩
                      obtain ⟨L2, hL2⟩ : ∃ L2, n3 + 1 - r = L2 := ⟨_, rfl⟩
                      obtain ⟨C2, hC2⟩ : ∃ C2, cap - r = C2 := ⟨_, rfl⟩
                      have hs1 : ∀ w, (Instr.slice 31 (.slice (some ⟨g, 0, none⟩) (n3 + 1) cap) (some (.int .i64 ((r : Int) + 1))) none none).run Try.prog w = .ok (.slice A1 L1 C1) w := fun w => by
                        rw [← hA1, ← hL1, ← hC1]
                        exact sub_l (P := Try.prog) Try.underlying31 cellsIE _ _ _ (r + 1) (by omega) _ (by omega) w
                      have hs2 : ∀ w, (Instr.slice 31 (.slice (some ⟨g, 0, none⟩) (n3 + 1) cap) (some (.int .i64 (r : Int))) none none).run Try.prog w = .ok (.slice A2 L2 C2) w := fun w => by
                        rw [← hA2, ← hL2, ← hC2]
                        exact sub_l (P := Try.prog) Try.underlying31 cellsIE _ _ _ r (by omega) _ rfl w
                      have H1 : Hid (subA (some (⟨g, 0, none⟩ : Addr)) cap (r + 1) = A1 ∧ n3 + 1 - (r + 1) = L1 ∧ cap - (r + 1) = C1) := ⟨hA1, hL1, hC1⟩
                      have H2 : Hid (subA (some (⟨g, 0, none⟩ : Addr)) cap r = A2 ∧ n3 + 1 - r = L2 ∧ cap - r = C2) := ⟨hA2, hL2, hC2⟩
                      clear hA1 hL1 hC1 hA2 hL2 hC2
                      go_wp2_with fail
                      refine wp_region_grows 7 (by kernel_rfl) (by kernel_rfl) (fun hne => ?_)
                      simp only [List.take_succ_cons, List.take_zero, List.drop_succ_cons, List.drop_zero]
                      repeat (go_big_quiet_step (fail))
                      refine wpQuiet_nil ?_
                      intro w9 hw9
                      obtain ⟨q9, rfl⟩ := hw9
                      clear hs1 hs2
                      refine copy_up rfl (.tmp 66) (.tmp 69) 31 rfl 3 Try.underlying31 sizeIE w.heap.size g (n3 + 1) cap r (P'.map IV ++ [Value.int .i64 0]) (own_ext HO5.out q9.ext) ?_ ?_ ?_ ?_ ?_
                      · omega
                      · exact iv_one P'
                      · rw [H1.out.1, H1.out.2.1, H1.out.2.2]; rfl
                      · rw [H2.out.1, H2.out.2.1, H2.out.2.2]; rfl
                      intro w10 hown10 hgrow10
                      have hfr := hown10.frozenAt r
                      obtain ⟨uu, huu⟩ : ∃ uu, w10.cell? ⟨g, r, none⟩ = some uu := by
                        rw [hown10.cellAt r (by omega)]
                        exact ⟨_, List.getElem?_eq_getElem (by rw [hown10.1]; omega)⟩
                      have HO10 : Hid (w10.ownsRow w.heap.size 3 1 (.slice (some ⟨g, 0, none⟩) (n3 + 1) cap) (n3 + 1) ((P'.map IV ++ [Value.int .i64 0]).take (r + 1) ++ ((P'.map IV ++ [Value.int .i64 0]).drop r).take (n3 + 1 - (r + 1)))) := hown10
                      have HG10 : Hid (q9.w'.grownBy w10 (some g)) := hgrow10
                      clear hown10 hgrow10 H1 H2
                      go_wp2_with fail
                      go_roundw
                      case rel => exact ⟨t + 1, putAt P' r nn, by omega, by go_num, by
                        have e3 := HN3.out
                        subst e3
                        exact HI.out.put htt HNN.out HRl.out HLow.out HHigh.out HO5.out HG5.out HA5.out q9.ext HO10.out HG10.out⟩
                      case measure => simp [intOf]; omega
                  · have HHigh : Hid (∀ i z, r ≤ i → P'[i]? = some z → nn < z) := fun i z hi hz => by
                      have h1 := lt_of_get hz
                      have h2 := HN3.out
                      omega
                    have dR : decide (r < n3) = false := decide_eq_false hrn
                    go_wp2_with (first | (at_builtin; refine append_one_lies wr rfl _ _ 31 rfl w.heap.size 3 (.int .i64 0) 8 Try.underlying31 infoIE rfl (.slice a3 n3 c3) n3 (P'.map IV) rfl HO.out (.int .i64 0) 1 rfl rfl (by decide) (by omega) hsz3 ?_) | go_in)
                    intro g cap w5 hown5 hgrow5 hat5 hcap5
                    have HO5 : Hid (w5.ownsRow w.heap.size 3 1 (.slice (some ⟨g, 0, none⟩) (n3 + 1) cap) (n3 + 1) (P'.map IV ++ [Value.int .i64 0])) := hown5
                    have HG5 : Hid _ := hgrow5
                    have HA5 : Hid _ := hat5
                    clear hown5 hgrow5 hat5
                    obtain ⟨A1, hA1⟩ : ∃ A1, subA (some (⟨g, 0, none⟩ : Addr)) cap (r + 1) = A1 := ⟨_, rfl⟩
                    obtain ⟨L1, hL1⟩ : ∃ L1, n3 + 1 - (r + 1) = L1 := ⟨_, rfl⟩
                    obtain ⟨C1, hC1⟩ : ∃ C1, cap - (r + 1) = C1 := ⟨_, rfl⟩
                    obtain ⟨A2, hA2⟩ : ∃ A2, subA (some (⟨g, 0, none⟩ : Addr)) cap r = A2 := ⟨_, rfl⟩
                    obtain ⟨L2, hL2⟩ : ∃ L2, n3 + 1 - r = L2 := ⟨_, rfl⟩
                    obtain ⟨C2, hC2⟩ : ∃ C2, cap - r = C2 := ⟨_, rfl⟩
                    have hs1 : ∀ w, (Instr.slice 31 (.slice (some ⟨g, 0, none⟩) (n3 + 1) cap) (some (.int .i64 ((r : Int) + 1))) none none).run Try.prog w = .ok (.slice A1 L1 C1) w := fun w => by
                      rw [← hA1, ← hL1, ← hC1]
                      exact sub_l (P := Try.prog) Try.underlying31 cellsIE _ _ _ (r + 1) (by omega) _ (by omega) w
                    have hs2 : ∀ w, (Instr.slice 31 (.slice (some ⟨g, 0, none⟩) (n3 + 1) cap) (some (.int .i64 (r : Int))) none none).run Try.prog w = .ok (.slice A2 L2 C2) w := fun w => by
                      rw [← hA2, ← hL2, ← hC2]
                      exact sub_l (P := Try.prog) Try.underlying31 cellsIE _ _ _ r (by omega) _ rfl w
                    have H1 : Hid (subA (some (⟨g, 0, none⟩ : Addr)) cap (r + 1) = A1 ∧ n3 + 1 - (r + 1) = L1 ∧ cap - (r + 1) = C1) := ⟨hA1, hL1, hC1⟩
                    have H2 : Hid (subA (some (⟨g, 0, none⟩ : Addr)) cap r = A2 ∧ n3 + 1 - r = L2 ∧ cap - r = C2) := ⟨hA2, hL2, hC2⟩
                    clear hA1 hL1 hC1 hA2 hL2 hC2
                    go_wp2_with fail
                    refine wp_region_grows 7 (by kernel_rfl) (by kernel_rfl) (fun hne => ?_)
                    simp only [List.take_succ_cons, List.take_zero, List.drop_succ_cons, List.drop_zero]
                    repeat (go_big_quiet_step (fail))
                    refine wpQuiet_nil ?_
                    intro w9 hw9
                    obtain ⟨q9, rfl⟩ := hw9
                    clear hs1 hs2
                    refine copy_up rfl (.tmp 66) (.tmp 69) 31 rfl 3 Try.underlying31 sizeIE w.heap.size g (n3 + 1) cap r (P'.map IV ++ [Value.int .i64 0]) (own_ext HO5.out q9.ext) ?_ ?_ ?_ ?_ ?_
                    · omega
                    · exact iv_one P'
                    · rw [H1.out.1, H1.out.2.1, H1.out.2.2]; rfl
                    · rw [H2.out.1, H2.out.2.1, H2.out.2.2]; rfl
                    intro w10 hown10 hgrow10
                    have hfr := hown10.frozenAt r
                    obtain ⟨uu, huu⟩ : ∃ uu, w10.cell? ⟨g, r, none⟩ = some uu := by
                      rw [hown10.cellAt r (by omega)]
                      exact ⟨_, List.getElem?_eq_getElem (by rw [hown10.1]; omega)⟩
                    have HO10 : Hid (w10.ownsRow w.heap.size 3 1 (.slice (some ⟨g, 0, none⟩) (n3 + 1) cap) (n3 + 1) ((P'.map IV ++ [Value.int .i64 0]).take (r + 1) ++ ((P'.map IV ++ [Value.int .i64 0]).drop r).take (n3 + 1 - (r + 1)))) := hown10
                    have HG10 : Hid (q9.w'.grownBy w10 (some g)) := hgrow10
                    clear hown10 hgrow10 H1 H2
                    go_wp2_with fail
                    go_roundw
                    case rel => exact ⟨t + 1, putAt P' r nn, by omega, by go_num, by
                      have e3 := HN3.out
                      subst e3
                      exact HI.out.put htt HNN.out HRl.out HLow.out HHigh.out HO5.out HG5.out HA5.out q9.ext HO10.out HG10.out⟩
                    case measure => simp [intOf]; omega
            · obtain rfl : t = 2 := by omega
              have HM2 : Hid (MI w LL j (q + 1) u3 P' wr) := hin.end HM.out HE.out
              clear hin
              go_wp2_with fail
              go_roundw
              case rel => exact ⟨q + 1, P', by omega, by go_num, HM2.out⟩
              case measure => simp [intOf]; omega
        · have HM2 : Hid (MI w LL (j + 1) 0 u3 P wr) := HM.out.next (by rw [HLn.out]; omega) (by rw [HLn.out]; exact hNb)
          go_wp2_with fail
          go_roundw
          case rel => exact ⟨j + 1, P, by omega, by go_num, HM2.out⟩
          case measure => simp [intOf]; omega
    · obtain rfl : j = m := by omega
      go_wp2_with fail
      go_ret
      exact ⟨_, rfl, P, HM.out.up, HM.out.all, by have := HM.out.len; omega, HM.out.own, HM.out.ext⟩
end Go.Proofs.Ytfekiccjcfdmkaa
