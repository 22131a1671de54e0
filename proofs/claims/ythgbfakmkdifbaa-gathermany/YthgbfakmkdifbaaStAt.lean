/-
  stripe.turned, stripe.at, stripe.fit: plain answers.
-/
import Derived.Test.YthgbfakmkdifbaaChecked
import Derived.WalkKit
import Derived.BigQuiet
import Derived.Deep.CutRange
import Derived.Deep.QuietTactic
import Derived.Deep.RegionLaw
import Derived.Test.YthgbfakmkdifbaaStPcs
import Derived.Test.YthgbfakmkdifbaaQuiets
namespace Go.Proofs.Ythgbfakmkdifbaa
open Go.RowKit Go.Deep E
set_option maxRecDepth 100000 in
theorem turned_any (r p n : Nat) (w : World) (hp : p ≤ n) (hn : n ≤ 8) (hr : r < n) : Calls Try.prog 47 #[.int .i64 r, .int .i64 p, .int .i64 n] w fun e w' => e = .returned (.int .i64 (((r + n - p) % n : Nat) : Int)) ∧ w' = w := by
  have hz : ((n : Int) == 0) = false := by rw [beq_eq_false_iff_ne]; omega
  have hq : ((r : Int) + n - p).tmod n = ((r + n - p) % n : Nat) := by
    rw [Int.tmod_eq_emod_of_nonneg (by omega), show ((r : Int) + n - p) = ((r + n - p : Nat) : Int) by omega]
    rfl
  have hqb : (r + n - p) % n < n := Nat.mod_lt _ (by omega)
  go_enter Try.func47, Try.ntmps47
  go_wp2_with fail
  go_ret
  exact ⟨ret_intS (by first | rfl | (rw [show ((r : Int) + n - p) = ((r + n - p : Nat) : Int) by omega]; rfl)), rfl⟩
set_option maxRecDepth 100000 in
set_option maxHeartbeats 800000 in
theorem stAt_any (al : Option Addr) (nl cl : Nat) (fl : Nat → Int) (ap : Option Addr) (np cp : Nat) (g : Nat → Nat) (w : World) (hnp : np ≤ 1048576) (hg : ∀ i, i < np → g i < nl) (hl : Ints w al nl fl) (hp : Ints w ap np fun i => ((g i : Nat) : Int)) :
    Calls Try.prog 33 #[.slice al nl cl, .slice ap np cp] w fun e w' => e = .returned (.slice (some ⟨w.heap.size, 0, none⟩) np np) ∧ w'.rowIs w.heap.size 3 np (fun i => .int .i64 (fl (g i))) ∧ Ext w w' := by
  have HL : Hid (Ints w al nl fl) := hl
  have HP : Hid (Ints w ap np fun i => ((g i : Nat) : Int)) := hp
  have HG : Hid (∀ i, i < np → g i < nl) := hg
  clear hl hp hg
  have hmk := make_ints np (by omega)
  go_enter Try.func33, Try.ntmps33
  go_wp2_with fail
  have hr0 : (w.alloc (.cells (madeCells #[.int .i64 0] np) 3)).rowIs w.heap.size 3 np (fun i => if i < 0 then .int .i64 (fl (g i)) else .int .i64 0) := (World.rowIs_made w (.int .i64 0) np 3).congr fun i _ => by rw [if_neg (by omega)]
  have hx0 : Ext w (w.alloc (.cells (madeCells #[.int .i64 0] np) 3)) := (Ext.refl w).alloc _ _
  generalize w.alloc (.cells (madeCells #[.int .i64 0] np) 3) = w1 at *
  clear hmk
  go_loopw [13] (fun i wr => ∃ k : Nat, k ≤ np ∧ i = .int .i64 k ∧ Ext w wr ∧ wr.rowIs w.heap.size 3 np (fun i => if i < k then .int .i64 (fl (g i)) else .int .i64 0)) (fun i _ => np - (intOf i).toNat)
  case atStart => exact ⟨0, Nat.zero_le _, rfl, hx0, hr0⟩
  case round =>
    clear hr0 hx0
    obtain ⟨k, hk, rfl, hx, hr⟩ := hrel
    have HR : Hid (wr.rowIs w.heap.size 3 np (fun i => if i < k then .int .i64 (fl (g i)) else .int .i64 0)) := hr
    clear hr
    by_cases hlt : k < np
    · obtain ⟨bp, op, rfl, hcp⟩ := (HP.out.ext hx) k hlt
      obtain ⟨j, hj⟩ : ∃ j, g k = j := ⟨_, rfl⟩
      have hjl := HG.out k hlt
      dsimp only at hcp
      rw [hj] at hjl hcp
      obtain ⟨bl, ol, rfl, hcl⟩ := (HL.out.ext hx) j hjl
      have hjl2 : (j : Int) < (nl : Int) := by omega
      have hct := HR.out.cell hlt
      rw [if_neg (by omega)] at hct
      have hft := HR.out.frozen k
      have HN : Hid ((wr.setCell ⟨w.heap.size, k, none⟩ (.int .i64 (fl j))).rowIs w.heap.size 3 np (fun i => if i < k + 1 then .int .i64 (fl (g i)) else .int .i64 0)) := (HR.out.set k _).congr fun i _ => by
        by_cases e : i = k
        · subst e; rw [if_pos rfl, if_pos (by omega), hj]
        · rw [if_neg e]
          by_cases l : i < k
          · rw [if_pos l, if_pos (by omega)]
          · rw [if_neg l, if_neg (by omega)]
      have HX : Hid (Ext w (wr.setCell ⟨w.heap.size, k, none⟩ (.int .i64 (fl j)))) := hx.setCell (p := ⟨w.heap.size, k, none⟩) (Nat.le_refl _) _
      clear hj
      go_wp2_with fail
      go_roundw
      case rel => exact ⟨k + 1, by omega, by go_num, HX.out, HN.out⟩
      case measure => simp [intOf]; omega
    · obtain rfl : np = k := by omega
      go_wp2_with fail
      go_ret
      exact ⟨rfl, HR.out.congr fun i hi => by rw [if_pos hi], hx⟩
/-- do the pieces fit the columns? -/
def fitAt (T : Nat → Bool) (L wd : Nat → Nat) (r : Nat) : Bool := T r || decide (L r = wd r)
def fitN (n : Nat) (T : Nat → Bool) (L wd : Nat → Nat) : Bool := (List.range n).all (fitAt T L wd)
theorem fitN_true {n : Nat} {T : Nat → Bool} {L wd : Nat → Nat} (h : ∀ r, r < n → fitAt T L wd r = true) : fitN n T L wd = true := by
  unfold fitN
  rw [List.all_eq_true]
  exact fun r hr => h r (List.mem_range.1 hr)
theorem fitN_false {n : Nat} {T : Nat → Bool} {L wd : Nat → Nat} {r : Nat} (hr : r < n) (h : fitAt T L wd r = false) : fitN n T L wd = false := by
  cases e : fitN n T L wd
  · rfl
  · unfold fitN at e
    rw [List.all_eq_true] at e
    rw [e r (List.mem_range.2 hr)] at h
    cases h
theorem fitN_at {n : Nat} {T : Nat → Bool} {L wd : Nat → Nat} (h : fitN n T L wd = true) {r : Nat} (hr : r < n) (ht : T r = false) : L r = wd r := by
  unfold fitN at h
  rw [List.all_eq_true] at h
  have := h r (List.mem_range.2 hr)
  unfold fitAt at this
  rw [ht] at this
  simpa using this
set_option maxRecDepth 100000 in
set_option maxHeartbeats 1600000 in
theorem fit_any (a : Option Addr) (n cn : Nat) (T : Nat → Bool) (A : Nat → Option Addr) (L C : Nat → Nat) (F : Nat → Nat → E) (ac : Option Addr) (m cm d p ad c : Nat) (w : World) (hn : n ≤ 9223372036854775807) (hm : m ≤ 8) (hL : ∀ r, r < n → L r ≤ 9223372036854775807) (ho : StOk d p c) (hmc : m = colN d p c) (h : Pcs w a n T A L C F) (hc : CnS w ac d p ad c 0 m) :
    Calls Try.prog 29 #[.slice a n cn, .slice ac m cm] w fun e w' => e = .returned (.bool (decide (n = m) && fitN n T L (wdB d p c))) ∧ Ext w w' := by
  have HH : Hid (Pcs w a n T A L C F) := h
  have HC : Hid (CnS w ac d p ad c 0 m) := hc
  have HO : Hid (StOk d p c) := ho
  have HM : Hid (m = colN d p c) := hmc
  have HLB : Hid (∀ r, r < n → L r ≤ 9223372036854775807) := hL
  clear h hc ho hmc hL
  by_cases hnm : n = m
  · subst hnm
    go_enter Try.func29, Try.ntmps29
    go_wp2_with fail
    go_loopw [14] (fun i wr => ∃ k : Nat, k ≤ n ∧ i = .int .i64 k ∧ Ext w wr ∧ Hid (∀ r, r < k → fitAt T L (wdB d p c) r = true)) (fun i _ => n - (intOf i).toNat)
    case atStart => exact ⟨0, Nat.zero_le _, rfl, Ext.refl _, fun r hr => by omega⟩
    case round =>
      obtain ⟨k, hk, rfl, hx, hall⟩ := hrel
      by_cases hlt : k < n
      · obtain ⟨⟨bb, o, rfl, h1, h2⟩, _⟩ := (HH.out.ext hx) k hlt
        obtain ⟨bc, oc, x, y, z, rfl, g0, g1, g2, g3⟩ := (HC.out.ext hx).at hlt
        obtain ⟨q, hq⟩ : ∃ q, cntC d p c k = q := ⟨_, rfl⟩
        have hqb := HO.out.cnt (i := k) (by rw [← HM.out]; exact hlt)
        rw [Nat.zero_add, hq] at g2
        rw [hq] at hqb
        have HW : Hid (wdB d p c k = 128 * q) := by show _ = _; unfold wdB; rw [hq]
        obtain ⟨t, ht⟩ : ∃ t, T k = t := ⟨_, rfl⟩
        obtain ⟨l, hl⟩ : ∃ l, L k = l := ⟨_, rfl⟩
        have HT : Hid (T k = t) := ht
        have HLK : Hid (L k = l) := hl
        have hlb := HLB.out k hlt
        rw [ht] at h1
        rw [hl] at h2 hlb
        have hqb2 : q ≤ 32 := by omega
        have hal := (Ext.refl wr).alloc #[.bool t, .slice (A k) l (C k)] 42
        have hHX : Ext w (wr.alloc (.cells #[.bool t, .slice (A k) l (C k)] 42)) := hx.trans hal
        have f0 : (wr.alloc (.cells #[.bool t, .slice (A k) l (C k)] 42)).cell? ⟨wr.heap.size, 0, none⟩ = some (.bool t) := by rw [new_cell]; rfl
        have f1 : (wr.alloc (.cells #[.bool t, .slice (A k) l (C k)] 42)).cell? ⟨wr.heap.size, 1, none⟩ = some (.slice (A k) l (C k)) := by rw [new_cell]; rfl
        have e0 := hal.keeps g0
        have e1 := hal.keeps g1
        have e2 := hal.keeps g2
        have e3 := hal.keeps g3
        clear hq ht hl hqb hal
        go_upto_region 6 with fail
        generalize wr.alloc (.cells #[.bool t, .slice (A k) l (C k)] 42) = w2 at *
        have HX2 : Hid (Ext w w2) := hHX
        have HALL : Hid (∀ r, r < k → fitAt T L (wdB d p c) r = true) := hall
        have hqn : (128 : Int) * (q : Int) = ((128 * q : Nat) : Int) := by omega
        have d0 : ∀ y : Gr w2, y.w'.cell? ⟨wr.heap.size, 0, none⟩ = some (.bool t) := fun y => y.ext.keeps f0
        have d1 : ∀ y : Gr w2, y.w'.cell? ⟨wr.heap.size, 1, none⟩ = some (.slice (A k) l (C k)) := fun y => y.ext.keeps f1
        have k0 : ∀ y : Gr w2, y.w'.cell? ⟨bc, oc + k * 4, none⟩ = some (.int .i64 x) := fun y => y.ext.keeps e0
        have k1 : ∀ u : Gr w2, u.w'.cell? ⟨bc, oc + k * 4 + 1, none⟩ = some (.int .i64 y) := fun u => u.ext.keeps e1
        have k2 : ∀ u : Gr w2, u.w'.cell? ⟨bc, oc + k * 4 + 2, none⟩ = some (.int .i64 q) := fun u => u.ext.keeps e2
        have k3 : ∀ u : Gr w2, u.w'.cell? ⟨bc, oc + k * 4 + 3, none⟩ = some (.bool z) := fun u => u.ext.keeps e3
        clear hall hHX f0 f1 e0 e1 e2 e3 h1 h2 g0 g1 g2 g3
        have hki : (k : Int) < (n : Int) := by omega
        cases t with
        | true =>
          have HF : Hid (fitAt T L (wdB d p c) k = true) := by show _ = _; unfold fitAt; rw [HT.out]; rfl
          refine wp_region_grows 13 (by kernel_rfl) (by kernel_rfl) (fun hne => ?_)
          simp only [List.take_succ_cons, List.take_zero, List.drop_succ_cons, List.drop_zero]
          repeat (go_big_quiet_step (first | (go_at_call 39; exact Calls.grown (width_any x y _ q z rfl _ (by omega)))))
          refine wpQuiet_nil ?_
          intro w4 hw4
          obtain ⟨y4, rfl⟩ := hw4
          have HXY : Hid (Ext w y4.w') := HX2.out.trans y4.ext
          clear d0 d1 k0 k1 k2 k3
          go_wp2_with fail
          go_roundw
          case rel => exact ⟨k + 1, by omega, by go_num, HXY.out, fun r hr => by
            by_cases e : r = k
            · rw [e]; exact HF.out
            · exact HALL.out r (by omega)⟩
          case measure => simp [intOf]; omega
        | false =>
          by_cases hlq : l = 128 * q
          · have HF : Hid (fitAt T L (wdB d p c) k = true) := by
              show _ = _
              unfold fitAt
              rw [HT.out, HLK.out, HW.out, hlq]
              simp
            have hb0 : ((l : Int) != 128 * (q : Int)) = false := by rw [hlq]; simp
            have hl4 : l ≤ 4096 := by omega
            clear hlq hlb hqn
            refine wp_region_grows 13 (by kernel_rfl) (by kernel_rfl) (fun hne => ?_)
            simp only [List.take_succ_cons, List.take_zero, List.drop_succ_cons, List.drop_zero]
            repeat (go_big_quiet_step (first | (go_at_call 39; exact Calls.grown (width_any x y _ q z rfl _ (by omega)))))
            refine wpQuiet_nil ?_
            intro w4 hw4
            obtain ⟨y4, rfl⟩ := hw4
            have HXY : Hid (Ext w y4.w') := HX2.out.trans y4.ext
            clear d0 d1 k0 k1 k2 k3
            go_wp2_with fail
            go_roundw
            case rel => exact ⟨k + 1, by omega, by go_num, HXY.out, fun r hr => by
              by_cases e : r = k
              · rw [e]; exact HF.out
              · exact HALL.out r (by omega)⟩
            case measure => simp [intOf]; omega
          · have HF : Hid (fitN n T L (wdB d p c) = false) := fitN_false hlt (by
              unfold fitAt
              rw [HT.out, HLK.out, HW.out]
              simp [hlq])
            clear hqn
            have hb1 : ((l : Int) != 128 * (q : Int)) = true := by rw [bne_iff_ne]; omega
            refine wp_region_grows 13 (by kernel_rfl) (by kernel_rfl) (fun hne => ?_)
            simp only [List.take_succ_cons, List.take_zero, List.drop_succ_cons, List.drop_zero]
            repeat (go_big_quiet_step (first | (go_at_call 39; exact Calls.grown (width_any x y _ q z rfl _ (by omega)))))
            refine wpQuiet_nil ?_
            intro w4 hw4
            obtain ⟨y4, rfl⟩ := hw4
            have HXY : Hid (Ext w y4.w') := HX2.out.trans y4.ext
            clear d0 d1 k0 k1 k2 k3
            go_wp2_with fail
            go_ret
            rw [HF.out]
            exact ⟨ret_boolB (by simp), HXY.out⟩
      · obtain rfl : n = k := by omega
        have HFN : Hid (fitN n T L (wdB d p c) = true) := fitN_true hall.out
        go_wp2_with fail
        go_ret
        exact ⟨ret_boolB (by rw [HFN.out]; simp), hx⟩
  · have hne : ((n : Int) == (m : Int)) = false := by rw [beq_eq_false_iff_ne]; omega
    have hne2 : ((n : Int) != (m : Int)) = true := by rw [bne_iff_ne]; omega
    have HD : Hid (decide (n = m) = false) := decide_eq_false hnm
    clear hnm
    go_enter Try.func29, Try.ntmps29
    go_wp2_with fail
    go_ret
    rw [HD.out]
    exact ⟨rfl, Ext.refl _⟩
end Go.Proofs.Ythgbfakmkdifbaa
