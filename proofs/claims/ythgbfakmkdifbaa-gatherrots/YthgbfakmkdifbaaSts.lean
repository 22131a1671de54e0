/-
  Pieces as they lie in memory; stripe.places, turned, at: plain answers.
-/
import Derived.Test.YthgbfakmkdifbaaChecked
import Derived.WalkKit
import Derived.BigQuiet
import Derived.Deep.CutRange
import Derived.Deep.QuietTactic
import Derived.Deep.RegionLaw
import Derived.Test.YthgbfakmkdifbaaStp
import Derived.Test.YthgbfakmkdifbaaParCopied
import Derived.Test.YthgbfakmkdifbaaCombs
import Derived.Test.YthgbfakmkdifbaaQuiets
import Derived.StillTail
import Derived.StillTailTactics
import Derived.Lib.AppendZerosOnto
import Derived.Test.YthgbfakmkdifbaaRegAlloc
import Derived.Test.YthgbfakmkdifbaaKeepAll
import Derived.RangeFuncNested
import Derived.RangeFuncBound
import Derived.RangeFuncCalls
import Derived.RangeFuncLeaves
import Derived.Shelf.Abstract
import Derived.Shelf.RegionOpen
import Derived.OwnWalkIn
import Derived.TacticsInMore
import Derived.LoopNIn
import Derived.LoopIn
import Derived.Test.YthgbfakmkdifbaaMm
import Derived.Test.YthgbfakmkdifbaaPksMat
import Derived.Test.YthgbfakmkdifbaaFlets
import Derived.Test.YthgbfakmkdifbaaRegs
namespace Go.Proofs.Ythgbfakmkdifbaa
open Go.RowKit Go.Deep E
/-- pieces lie at a: number r is lost or not (T r), and has L r bytes (room for C r) at A r: F r -/
def Pcs (w : World) (a : Option Addr) (n : Nat) (T : Nat → Bool) (A : Nat → Option Addr) (L C : Nat → Nat) (F : Nat → Nat → E) : Prop :=
  ∀ r, r < n → (∃ b o, a = some ⟨b, o, none⟩ ∧ w.cell? ⟨b, o + r * 2, none⟩ = some (.bool (T r)) ∧ w.cell? ⟨b, o + r * 2 + 1, none⟩ = some (.slice (A r) (L r) (C r))) ∧ Byts w (A r) (L r) (F r)
theorem Pcs.ext {w w' : World} {a : Option Addr} {n : Nat} {T : Nat → Bool} {A : Nat → Option Addr} {L C : Nat → Nat} {F : Nat → Nat → E} (h : Pcs w a n T A L C F) (x : Ext w w') : Pcs w' a n T A L C F := fun r hr => by
  obtain ⟨⟨b, o, h1, h2, h3⟩, h4⟩ := h r hr
  exact ⟨⟨b, o, h1, x.keeps h2, x.keeps h3⟩, h4.ext x⟩
/-- the places of the pieces that are lost (b), or of those that are not -/
def plcs (n : Nat) (T : Nat → Bool) (b : Bool) : List Nat := PL n fun r => T r == b
set_option maxRecDepth 100000 in
set_option maxHeartbeats 1600000 in
theorem stPlaces_any (a : Option Addr) (n cn : Nat) (T : Nat → Bool) (A : Nat → Option Addr) (L C : Nat → Nat) (F : Nat → Nat → E) (b : Bool) (w : World) (hn : n ≤ 1048576) (h : Pcs w a n T A L C F) :
    Calls Try.prog 30 #[.slice a n cn, .bool b] w fun e w' => (∃ v, e = .returned v ∧ w'.ownsRow w.heap.size 3 1 v (plcs n T b).length ((plcs n T b).map inV)) ∧ Ext w w' := by
  have HH : Hid (Pcs w a n T A L C F) := h
  clear h
  go_enter Try.func30, Try.ntmps30
  go_wp2_with fail
  go_loopw [5, 10] (fun v i wr => ∃ k : Nat, k ≤ n ∧ i = .int .i64 k ∧ Ext w wr ∧ wr.ownsRow w.heap.size 3 1 v (plcs k T b).length ((plcs k T b).map inV)) (fun _ i _ => n - (intOf i).toNat)
  case atStart => exact ⟨0, Nat.zero_le _, rfl, Ext.refl _, World.ownsRow_nil _ _ _ _⟩
  case round =>
    obtain ⟨k, hk, rfl, hx, hown⟩ := hrel
    have HO : Hid (wr.ownsRow w.heap.size 3 1 u5 (plcs k T b).length ((plcs k T b).map inV)) := hown
    clear hown
    by_cases hlt : k < n
    · obtain ⟨⟨bb, o, rfl, h1, h2⟩, _⟩ := (HH.out.ext hx) k hlt
      obtain ⟨t, ht⟩ : ∃ t, T k = t := ⟨_, rfl⟩
      rw [ht] at h1
      have hal := (Ext.refl wr).alloc #[.bool t, .slice (A k) (L k) (C k)] 42
      have HX : Hid (Ext w (wr.alloc (.cells #[.bool t, .slice (A k) (L k) (C k)] 42))) := hx.trans hal
      have HT : Hid (T k = t) := ht
      have hs := HX.out.size
      have HO2 : Hid ((wr.alloc (.cells #[.bool t, .slice (A k) (L k) (C k)] 42)).ownsRow w.heap.size 3 1 u5 (plcs k T b).length ((plcs k T b).map inV)) := own_ext HO.out hal
      have hln := PL_len k (fun r => T r == b)
      have hln2 : (plcs k T b).length ≤ k := hln
      clear ht hal hln
      cases t with
      | false => cases b with
        | false =>
          have hE : (T k == false) = true := by rw [HT.out]; rfl
          have HE : Hid (plcs (k + 1) T false = plcs k T false ++ [k]) := PL_yes (n := k) (ok := fun r => T r == false) hE
          clear hE
          go_upto_region 6 with fail
          generalize wr.alloc (.cells #[.bool false, .slice (A k) (L k) (C k)] 42) = w2 at *
          go_wp2_with (first | (at_builtin; refine append_one w2 rfl _ _ 30 rfl w.heap.size 3 (.int .i64 0) 8 Try.underlying30 infoInt rfl u5 (plcs k T false).length _ rfl HO2.out (.int .i64 k) 1 rfl rfl (by omega) (by omega) hs ?_) | fail)
          intro v' w5 hown' hgrow
          have HN : Hid (Ext w w5 ∧ w5.ownsRow w.heap.size 3 1 v' (plcs (k + 1) T false).length ((plcs (k + 1) T false).map inV)) := by
            refine ⟨(HX.out.alloc _ _).grow hgrow fun b hb => (own_ge HO2.out hb).1, ?_⟩
            rw [HE.out, List.length_append, List.map_append]
            exact hown'
          clear hown' hgrow
          go_wp2_with fail
          go_roundw
          case rel => exact ⟨k + 1, by omega, by go_num, HN.out.1, HN.out.2⟩
          case measure => simp [intOf]; omega
        | true =>
          have hE : (T k == true) = false := by rw [HT.out]; rfl
          have HN : Hid (plcs (k + 1) T true = plcs k T true) := PL_no (n := k) (ok := fun r => T r == true) hE
          clear hE
          go_wp2_with fail
          go_roundw
          case rel => exact ⟨k + 1, by omega, by go_num, HX.out, by rw [HN.out]; exact HO2.out⟩
          case measure => simp [intOf]; omega
      | true => cases b with
        | false =>
          have hE : (T k == false) = false := by rw [HT.out]; rfl
          have HN : Hid (plcs (k + 1) T false = plcs k T false) := PL_no (n := k) (ok := fun r => T r == false) hE
          clear hE
          go_wp2_with fail
          go_roundw
          case rel => exact ⟨k + 1, by omega, by go_num, HX.out, by rw [HN.out]; exact HO2.out⟩
          case measure => simp [intOf]; omega
        | true =>
          have hE : (T k == true) = true := by rw [HT.out]; rfl
          have HE : Hid (plcs (k + 1) T true = plcs k T true ++ [k]) := PL_yes (n := k) (ok := fun r => T r == true) hE
          clear hE
          go_upto_region 6 with fail
          generalize wr.alloc (.cells #[.bool true, .slice (A k) (L k) (C k)] 42) = w2 at *
          go_wp2_with (first | (at_builtin; refine append_one w2 rfl _ _ 30 rfl w.heap.size 3 (.int .i64 0) 8 Try.underlying30 infoInt rfl u5 (plcs k T true).length _ rfl HO2.out (.int .i64 k) 1 rfl rfl (by omega) (by omega) hs ?_) | fail)
          intro v' w5 hown' hgrow
          have HN : Hid (Ext w w5 ∧ w5.ownsRow w.heap.size 3 1 v' (plcs (k + 1) T true).length ((plcs (k + 1) T true).map inV)) := by
            refine ⟨(HX.out.alloc _ _).grow hgrow fun b hb => (own_ge HO2.out hb).1, ?_⟩
            rw [HE.out, List.length_append, List.map_append]
            exact hown'
          clear hown' hgrow
          go_wp2_with fail
          go_roundw
          case rel => exact ⟨k + 1, by omega, by go_num, HN.out.1, HN.out.2⟩
          case measure => simp [intOf]; omega
    · obtain rfl : n = k := by omega
      go_wp2_with fail
      go_ret
      exact ⟨⟨_, rfl, HO.out⟩, hx⟩
end Go.Proofs.Ythgbfakmkdifbaa
/-
  stripe.turned, stripe.at, stripe.fit: plain answers.
-/
namespace Go.Proofs.Ythgbfakmkdifbaa
open Go.RowKit Go.Deep E
set_option maxRecDepth 100000 in
theorem turned_any (r p n : Nat) (w : World) (hp : p ≤ n) (hn : n ≤ 8) (hr : r < n) : Calls Try.prog 47 #[.int .i64 r, .int .i64 p, .int .i64 n] w fun e w' => e = .returned (.int .i64 (((r + n - p) % n : Nat) : Int)) ∧ w' = w := by
  have hz : ((n : Int) == 0) = false := by rw [beq_eq_false_iff_ne]; omega
  have hq : ((r : Int) + n - p).tmod n = ((r + n - p) % n : Nat) := by
    rw [Int.tmod_eq_emod_of_nonneg (by omega), show ((r : Int) + n - p) = ((r + n - p : Nat) : Int) by omega]
    rfl
  have hqb : (r + n - p) % n < n := Nat.mod_lt _ (by omega)
  go_enter Try.func47, Try.ntmps47
  go_wp2_with fail
  go_ret
  exact ⟨ret_intS (by first | rfl | (rw [show ((r : Int) + n - p) = ((r + n - p : Nat) : Int) by omega]; rfl)), rfl⟩
set_option maxRecDepth 100000 in
set_option maxHeartbeats 800000 in
theorem stAt_any (al : Option Addr) (nl cl : Nat) (fl : Nat → Int) (ap : Option Addr) (np cp : Nat) (g : Nat → Nat) (w : World) (hnp : np ≤ 1048576) (hg : ∀ i, i < np → g i < nl) (hl : Ints w al nl fl) (hp : Ints w ap np fun i => ((g i : Nat) : Int)) :
    Calls Try.prog 33 #[.slice al nl cl, .slice ap np cp] w fun e w' => e = .returned (.slice (some ⟨w.heap.size, 0, none⟩) np np) ∧ w'.rowIs w.heap.size 3 np (fun i => .int .i64 (fl (g i))) ∧ Ext w w' := by
  have HL : Hid (Ints w al nl fl) := hl
  have HP : Hid (Ints w ap np fun i => ((g i : Nat) : Int)) := hp
  have HG : Hid (∀ i, i < np → g i < nl) := hg
  clear hl hp hg
  have hmk := make_ints np (by omega)
  go_enter Try.func33, Try.ntmps33
  go_wp2_with fail
  have hr0 : (w.alloc (.cells (madeCells #[.int .i64 0] np) 3)).rowIs w.heap.size 3 np (fun i => if i < 0 then .int .i64 (fl (g i)) else .int .i64 0) := (World.rowIs_made w (.int .i64 0) np 3).congr fun i _ => by rw [if_neg (by omega)]
  have hx0 : Ext w (w.alloc (.cells (madeCells #[.int .i64 0] np) 3)) := (Ext.refl w).alloc _ _
  generalize w.alloc (.cells (madeCells #[.int .i64 0] np) 3) = w1 at *
  clear hmk
  go_loopw [13] (fun i wr => ∃ k : Nat, k ≤ np ∧ i = .int .i64 k ∧ Ext w wr ∧ wr.rowIs w.heap.size 3 np (fun i => if i < k then .int .i64 (fl (g i)) else .int .i64 0)) (fun i _ => np - (intOf i).toNat)
  case atStart => exact ⟨0, Nat.zero_le _, rfl, hx0, hr0⟩
  case round =>
    clear hr0 hx0
    obtain ⟨k, hk, rfl, hx, hr⟩ := hrel
    have HR : Hid (wr.rowIs w.heap.size 3 np (fun i => if i < k then .int .i64 (fl (g i)) else .int .i64 0)) := hr
    clear hr
    by_cases hlt : k < np
    · obtain ⟨bp, op, rfl, hcp⟩ := (HP.out.ext hx) k hlt
      obtain ⟨j, hj⟩ : ∃ j, g k = j := ⟨_, rfl⟩
      have hjl := HG.out k hlt
      dsimp only at hcp
      rw [hj] at hjl hcp
      obtain ⟨bl, ol, rfl, hcl⟩ := (HL.out.ext hx) j hjl
      have hjl2 : (j : Int) < (nl : Int) := by omega
      have hct := HR.out.cell hlt
      rw [if_neg (by omega)] at hct
      have hft := HR.out.frozen k
      have HN : Hid ((wr.setCell ⟨w.heap.size, k, none⟩ (.int .i64 (fl j))).rowIs w.heap.size 3 np (fun i => if i < k + 1 then .int .i64 (fl (g i)) else .int .i64 0)) := (HR.out.set k _).congr fun i _ => by
        by_cases e : i = k
        · subst e; rw [if_pos rfl, if_pos (by omega), hj]
        · rw [if_neg e]
          by_cases l : i < k
          · rw [if_pos l, if_pos (by omega)]
          · rw [if_neg l, if_neg (by omega)]
      have HX : Hid (Ext w (wr.setCell ⟨w.heap.size, k, none⟩ (.int .i64 (fl j)))) := hx.setCell (p := ⟨w.heap.size, k, none⟩) (Nat.le_refl _) _
      clear hj
      go_wp2_with fail
      go_roundw
      case rel => exact ⟨k + 1, by omega, by go_num, HX.out, HN.out⟩
      case measure => simp [intOf]; omega
    · obtain rfl : np = k := by omega
      go_wp2_with fail
      go_ret
      exact ⟨rfl, HR.out.congr fun i hi => by rw [if_pos hi], hx⟩
/-- do the pieces fit the columns? -/
def fitAt (T : Nat → Bool) (L wd : Nat → Nat) (r : Nat) : Bool := T r || decide (L r = wd r)
def fitN (n : Nat) (T : Nat → Bool) (L wd : Nat → Nat) : Bool := (List.range n).all (fitAt T L wd)
theorem fitN_true {n : Nat} {T : Nat → Bool} {L wd : Nat → Nat} (h : ∀ r, r < n → fitAt T L wd r = true) : fitN n T L wd = true := by
  unfold fitN
  rw [List.all_eq_true]
  exact fun r hr => h r (List.mem_range.1 hr)
theorem fitN_false {n : Nat} {T : Nat → Bool} {L wd : Nat → Nat} {r : Nat} (hr : r < n) (h : fitAt T L wd r = false) : fitN n T L wd = false := by
  cases e : fitN n T L wd
  · rfl
  · unfold fitN at e
    rw [List.all_eq_true] at e
    rw [e r (List.mem_range.2 hr)] at h
    cases h
theorem fitN_at {n : Nat} {T : Nat → Bool} {L wd : Nat → Nat} (h : fitN n T L wd = true) {r : Nat} (hr : r < n) (ht : T r = false) : L r = wd r := by
  unfold fitN at h
  rw [List.all_eq_true] at h
  have := h r (List.mem_range.2 hr)
  unfold fitAt at this
  rw [ht] at this
  simpa using this
set_option maxRecDepth 100000 in
set_option maxHeartbeats 1600000 in
theorem fit_any (a : Option Addr) (n cn : Nat) (T : Nat → Bool) (A : Nat → Option Addr) (L C : Nat → Nat) (F : Nat → Nat → E) (ac : Option Addr) (m cm d p ad c : Nat) (w : World) (hn : n ≤ 9223372036854775807) (hm : m ≤ 8) (hL : ∀ r, r < n → L r ≤ 9223372036854775807) (ho : StOk d p c) (hmc : m = colN d p c) (h : Pcs w a n T A L C F) (hc : CnS w ac d p ad c 0 m) :
    Calls Try.prog 29 #[.slice a n cn, .slice ac m cm] w fun e w' => e = .returned (.bool (decide (n = m) && fitN n T L (wdB d p c))) ∧ Ext w w' := by
  have HH : Hid (Pcs w a n T A L C F) := h
  have HC : Hid (CnS w ac d p ad c 0 m) := hc
  have HO : Hid (StOk d p c) := ho
  have HM : Hid (m = colN d p c) := hmc
  have HLB : Hid (∀ r, r < n → L r ≤ 9223372036854775807) := hL
  clear h hc ho hmc hL
  by_cases hnm : n = m
  · subst hnm
    go_enter Try.func29, Try.ntmps29
    go_wp2_with fail
    go_loopw [14] (fun i wr => ∃ k : Nat, k ≤ n ∧ i = .int .i64 k ∧ Ext w wr ∧ Hid (∀ r, r < k → fitAt T L (wdB d p c) r = true)) (fun i _ => n - (intOf i).toNat)
    case atStart => exact ⟨0, Nat.zero_le _, rfl, Ext.refl _, fun r hr => by omega⟩
    case round =>
      obtain ⟨k, hk, rfl, hx, hall⟩ := hrel
      by_cases hlt : k < n
      · obtain ⟨⟨bb, o, rfl, h1, h2⟩, _⟩ := (HH.out.ext hx) k hlt
        obtain ⟨bc, oc, x, y, z, rfl, g0, g1, g2, g3⟩ := (HC.out.ext hx).at hlt
        obtain ⟨q, hq⟩ : ∃ q, cntC d p c k = q := ⟨_, rfl⟩
        have hqb := HO.out.cnt (i := k) (by rw [← HM.out]; exact hlt)
        rw [Nat.zero_add, hq] at g2
        rw [hq] at hqb
        have HW : Hid (wdB d p c k = 128 * q) := by show _ = _; unfold wdB; rw [hq]
        obtain ⟨t, ht⟩ : ∃ t, T k = t := ⟨_, rfl⟩
        obtain ⟨l, hl⟩ : ∃ l, L k = l := ⟨_, rfl⟩
        have HT : Hid (T k = t) := ht
        have HLK : Hid (L k = l) := hl
        have hlb := HLB.out k hlt
        rw [ht] at h1
        rw [hl] at h2 hlb
        have hqb2 : q ≤ 32 := by omega
        have hal := (Ext.refl wr).alloc #[.bool t, .slice (A k) l (C k)] 42
        have hHX : Ext w (wr.alloc (.cells #[.bool t, .slice (A k) l (C k)] 42)) := hx.trans hal
        have f0 : (wr.alloc (.cells #[.bool t, .slice (A k) l (C k)] 42)).cell? ⟨wr.heap.size, 0, none⟩ = some (.bool t) := by rw [new_cell]; rfl
        have f1 : (wr.alloc (.cells #[.bool t, .slice (A k) l (C k)] 42)).cell? ⟨wr.heap.size, 1, none⟩ = some (.slice (A k) l (C k)) := by rw [new_cell]; rfl
        have e0 := hal.keeps g0
        have e1 := hal.keeps g1
        have e2 := hal.keeps g2
        have e3 := hal.keeps g3
        clear hq ht hl hqb hal
        go_upto_region 6 with fail
        generalize wr.alloc (.cells #[.bool t, .slice (A k) l (C k)] 42) = w2 at *
        have HX2 : Hid (Ext w w2) := hHX
        have HALL : Hid (∀ r, r < k → fitAt T L (wdB d p c) r = true) := hall
        have hqn : (128 : Int) * (q : Int) = ((128 * q : Nat) : Int) := by omega
        have d0 : ∀ y : Gr w2, y.w'.cell? ⟨wr.heap.size, 0, none⟩ = some (.bool t) := fun y => y.ext.keeps f0
        have d1 : ∀ y : Gr w2, y.w'.cell? ⟨wr.heap.size, 1, none⟩ = some (.slice (A k) l (C k)) := fun y => y.ext.keeps f1
        have k0 : ∀ y : Gr w2, y.w'.cell? ⟨bc, oc + k * 4, none⟩ = some (.int .i64 x) := fun y => y.ext.keeps e0
        have k1 : ∀ u : Gr w2, u.w'.cell? ⟨bc, oc + k * 4 + 1, none⟩ = some (.int .i64 y) := fun u => u.ext.keeps e1
        have k2 : ∀ u : Gr w2, u.w'.cell? ⟨bc, oc + k * 4 + 2, none⟩ = some (.int .i64 q) := fun u => u.ext.keeps e2
        have k3 : ∀ u : Gr w2, u.w'.cell? ⟨bc, oc + k * 4 + 3, none⟩ = some (.bool z) := fun u => u.ext.keeps e3
        clear hall hHX f0 f1 e0 e1 e2 e3 h1 h2 g0 g1 g2 g3
        have hki : (k : Int) < (n : Int) := by omega
        cases t with
        | true =>
          have HF : Hid (fitAt T L (wdB d p c) k = true) := by show _ = _; unfold fitAt; rw [HT.out]; rfl
          refine wp_region_grows 13 (by kernel_rfl) (by kernel_rfl) (fun hne => ?_)
          simp only [List.take_succ_cons, List.take_zero, List.drop_succ_cons, List.drop_zero]
          repeat (go_big_quiet_step (first | (go_at_call 39; exact Calls.grown (width_any x y _ q z rfl _ (by omega)))))
          refine wpQuiet_nil ?_
          intro w4 hw4
          obtain ⟨y4, rfl⟩ := hw4
          have HXY : Hid (Ext w y4.w') := HX2.out.trans y4.ext
          clear d0 d1 k0 k1 k2 k3
          go_wp2_with fail
          go_roundw
          case rel => exact ⟨k + 1, by omega, by go_num, HXY.out, fun r hr => by
            by_cases e : r = k
            · rw [e]; exact HF.out
            · exact HALL.out r (by omega)⟩
          case measure => simp [intOf]; omega
        | false =>
          by_cases hlq : l = 128 * q
          · have HF : Hid (fitAt T L (wdB d p c) k = true) := by
              show _ = _
              unfold fitAt
              rw [HT.out, HLK.out, HW.out, hlq]
              simp
            have hb0 : ((l : Int) != 128 * (q : Int)) = false := by rw [hlq]; simp
            have hl4 : l ≤ 4096 := by omega
            clear hlq hlb hqn
            refine wp_region_grows 13 (by kernel_rfl) (by kernel_rfl) (fun hne => ?_)
            simp only [List.take_succ_cons, List.take_zero, List.drop_succ_cons, List.drop_zero]
            repeat (go_big_quiet_step (first | (go_at_call 39; exact Calls.grown (width_any x y _ q z rfl _ (by omega)))))
            refine wpQuiet_nil ?_
            intro w4 hw4
            obtain ⟨y4, rfl⟩ := hw4
            have HXY : Hid (Ext w y4.w') := HX2.out.trans y4.ext
            clear d0 d1 k0 k1 k2 k3
            go_wp2_with fail
            go_roundw
            case rel => exact ⟨k + 1, by omega, by go_num, HXY.out, fun r hr => by
              by_cases e : r = k
              · rw [e]; exact HF.out
              · exact HALL.out r (by omega)⟩
            case measure => simp [intOf]; omega
          · have HF : Hid (fitN n T L (wdB d p c) = false) := fitN_false hlt (by
              unfold fitAt
              rw [HT.out, HLK.out, HW.out]
              simp [hlq])
            clear hqn
            have hb1 : ((l : Int) != 128 * (q : Int)) = true := by rw [bne_iff_ne]; omega
            refine wp_region_grows 13 (by kernel_rfl) (by kernel_rfl) (fun hne => ?_)
            simp only [List.take_succ_cons, List.take_zero, List.drop_succ_cons, List.drop_zero]
            repeat (go_big_quiet_step (first | (go_at_call 39; exact Calls.grown (width_any x y _ q z rfl _ (by omega)))))
            refine wpQuiet_nil ?_
            intro w4 hw4
            obtain ⟨y4, rfl⟩ := hw4
            have HXY : Hid (Ext w y4.w') := HX2.out.trans y4.ext
            clear d0 d1 k0 k1 k2 k3
            go_wp2_with fail
            go_ret
            rw [HF.out]
            exact ⟨ret_boolB (by simp), HXY.out⟩
      · obtain rfl : n = k := by omega
        have HFN : Hid (fitN n T L (wdB d p c) = true) := fitN_true hall.out
        go_wp2_with fail
        go_ret
        exact ⟨ret_boolB (by rw [HFN.out]; simp), hx⟩
  · have hne : ((n : Int) == (m : Int)) = false := by rw [beq_eq_false_iff_ne]; omega
    have hne2 : ((n : Int) != (m : Int)) = true := by rw [bne_iff_ne]; omega
    have HD : Hid (decide (n = m) = false) := decide_eq_false hnm
    clear hnm
    go_enter Try.func29, Try.ntmps29
    go_wp2_with fail
    go_ret
    rw [HD.out]
    exact ⟨rfl, Ext.refl _⟩
end Go.Proofs.Ythgbfakmkdifbaa
/-
  stripe.dataFirst, slices.Grow of nil, slices.Concat of lists of ints: plain answers; the world only grows.
-/
namespace Go.Proofs.Ythgbfakmkdifbaa
open Go.RowKit Go.Deep E
/-- the place of column r in the order of par, and back -/
def sigP (n p r : Nat) : Nat := (r + n - p) % n
def tauP (n p j : Nat) : Nat := (j + p) % n
def stB (n p j : Nat) : Bool := !(decide (p < n) && decide (j < n)) || (decide (sigP n p (tauP n p j) = j) && decide (tauP n p (sigP n p j) = j) && decide (tauP n p j < n) && decide (sigP n p j < n))
theorem st_at {n p j : Nat} (hn : n ≤ 8) (hp : p < n) (hj : j < n) : sigP n p (tauP n p j) = j ∧ tauP n p (sigP n p j) = j ∧ tauP n p j < n ∧ sigP n p j < n := by
  have h : ∀ n, n < 9 → ∀ p, p < 8 → ∀ j, j < 8 → stB n p j = true := by decide +kernel
  have g := h n (by omega) p (by omega) j (by omega)
  unfold stB at g
  simp only [hp, hj, decide_true, Bool.and_self, Bool.not_true, Bool.false_or, Bool.and_eq_true, decide_eq_true_eq, and_assoc] at g
  exact g
set_option maxRecDepth 100000 in
set_option maxHeartbeats 1600000 in
theorem dataFirst_any (a : Option Addr) (n cn : Nat) (T : Nat → Bool) (A : Nat → Option Addr) (L C : Nat → Nat) (F : Nat → Nat → E) (p : Nat) (w : World) (hn : n ≤ 8) (hp : p < n) (h : Pcs w a n T A L C F) :
    Calls Try.prog 31 #[.slice a n cn, .int .i64 p] w fun e w' => (e = .returned (.slice (some ⟨w.heap.size, 0, none⟩) n n) ∧ Cols w' (some ⟨w.heap.size, 0, none⟩) n (fun j => A (tauP n p j)) (fun j => L (tauP n p j)) (fun j => C (tauP n p j)) (fun j => F (tauP n p j))) ∧ Ext w w' := by
  have HH : Hid (Pcs w a n T A L C F) := h
  clear h
  have hmk := make_cols n (by omega)
  go_enter Try.func31, Try.ntmps31
  go_wp2_with fail
  have hr0 : (w.alloc (.cells (madeCells #[.slice none 0 0] n) 22)).rowIs w.heap.size 22 n (fun j => if tauP n p j < 0 then .slice (A (tauP n p j)) (L (tauP n p j)) (C (tauP n p j)) else .slice none 0 0) := (World.rowIs_made w (.slice none 0 0) n 22).congr fun i _ => by rw [if_neg (by omega)]
  have hx0 : Ext w (w.alloc (.cells (madeCells #[.slice none 0 0] n) 22)) := (Ext.refl w).alloc _ _
  generalize w.alloc (.cells (madeCells #[.slice none 0 0] n) 22) = w1 at *
  clear hmk
  go_loopw [13] (fun i wr => ∃ k : Nat, k ≤ n ∧ i = .int .i64 k ∧ Ext w wr ∧ wr.rowIs w.heap.size 22 n (fun j => if tauP n p j < k then .slice (A (tauP n p j)) (L (tauP n p j)) (C (tauP n p j)) else .slice none 0 0)) (fun i _ => n - (intOf i).toNat)
  case atStart => exact ⟨0, Nat.zero_le _, rfl, hx0, hr0⟩
  case round =>
    clear hr0 hx0
    obtain ⟨k, hk, rfl, hx, hr⟩ := hrel
    have HR : Hid (wr.rowIs w.heap.size 22 n (fun j => if tauP n p j < k then .slice (A (tauP n p j)) (L (tauP n p j)) (C (tauP n p j)) else .slice none 0 0)) := hr
    clear hr
    by_cases hlt : k < n
    · obtain ⟨⟨bb, o, rfl, h1, h2⟩, _⟩ := (HH.out.ext hx) k hlt
      have hst := st_at hn hp hlt
      obtain ⟨j, hj⟩ : ∃ j, sigP n p k = j := ⟨_, rfl⟩
      have HJ : Hid (sigP n p k = j) := hj
      rw [hj] at hst
      have HTJ : Hid (tauP n p j = k) := hst.2.1
      have hjn := hst.2.2.2
      have hal := (Ext.refl wr).alloc #[.bool (T k), .slice (A k) (L k) (C k)] 42
      have hR2 := HR.out.alloc (.cells #[.bool (T k), .slice (A k) (L k) (C k)] 42)
      have hX2 : Ext w (wr.alloc (.cells #[.bool (T k), .slice (A k) (L k) (C k)] 42)) := hx.trans hal
      have f1 : (wr.alloc (.cells #[.bool (T k), .slice (A k) (L k) (C k)] 42)).cell? ⟨wr.heap.size, 1, none⟩ = some (.slice (A k) (L k) (C k)) := by rw [new_cell]; rfl
      clear hj hst hal
      go_upto_region 5 with fail
      generalize wr.alloc (.cells #[.bool (T k), .slice (A k) (L k) (C k)] 42) = w2 at *
      have hct := hR2.cell hjn
      rw [if_neg (by rw [HTJ.out]; omega)] at hct
      have hft := hR2.frozen j
      have hji : (j : Int) < (n : Int) := by omega
      have HN : Hid ((w2.setCell ⟨w.heap.size, j, none⟩ (.slice (A k) (L k) (C k))).rowIs w.heap.size 22 n (fun j => if tauP n p j < k + 1 then .slice (A (tauP n p j)) (L (tauP n p j)) (C (tauP n p j)) else .slice none 0 0)) := (hR2.set j _).congr fun i hi => by
        by_cases e : i = j
        · subst e; rw [if_pos rfl, HTJ.out, if_pos (by omega)]
        · rw [if_neg e]
          have : tauP n p i ≠ k := fun q => e (by have := (st_at hn hp hi).1; rw [q, HJ.out] at this; exact this.symm)
          by_cases l : tauP n p i < k
          · rw [if_pos l, if_pos (by omega)]
          · rw [if_neg l, if_neg (by omega)]
      have HX : Hid (Ext w (w2.setCell ⟨w.heap.size, j, none⟩ (.slice (A k) (L k) (C k)))) := hX2.setCell (p := ⟨w.heap.size, j, none⟩) (Nat.le_refl _) _
      have HTC := fun u : World => turned_any k p n u (by omega) hn hlt
      have e1 : (k + n - p) % n = j := HJ.out
      rw [e1] at HTC
      clear hR2 h1 h2 e1
      refine wp_region_still_tail 9 (by kernel_rfl) (by kernel_rfl) ?_
      simp only [List.take_succ_cons, List.take_zero, List.drop_succ_cons, List.drop_zero]
      repeat still_step
      still_call (HTC _)
      repeat still_step
      refine wpStill_nil ?_
      go_wp2_with fail
      go_roundw
      case rel => exact ⟨k + 1, by omega, by go_num, HX.out.drew, HN.out.of_block rfl⟩
      case measure => simp [intOf]; omega
    · obtain rfl : n = k := by omega
      go_wp2_with fail
      go_ret
      refine ⟨⟨rfl, fun r hr => ⟨⟨_, 0, rfl, ?_⟩, (HH.out.ext hx _ (st_at hn hp hr).2.2.1).2⟩⟩, hx⟩
      rw [Nat.zero_add, HR.out.cell hr, if_pos (st_at hn hp hr).2.2.1]
end Go.Proofs.Ythgbfakmkdifbaa
/-
  slices.Grow of nil and slices.Concat of lists of ints: plain answers; the world only grows.
-/
namespace Go.Proofs.Ythgbfakmkdifbaa
open Go.RowKit Go.Deep E
theorem sizeInt4 : Try.prog.cellsOf 3 = 1 := by kernel_rfl
/-- append(nil, make([]T, k)...) -/
theorem zeros_nil {P : Program} (w : World) (oT t tn : TypeId) (base : Nat) (e : TypeId) (z : Value) (bytes : Nat) (kn : IntKind) (ht : P.underlying t = some (.slice e)) (htn : P.underlying tn = some (.int kn))
    (hinfo : (P.info? e).map (fun i => (i.zero, i.size, i.bytes)) = some (some z, 1, bytes)) (hzs : z.cells = #[z])
    (k : Nat) (h0 : 0 < k) (hb : k * bytes ≤ 140737488355328) (hm : k ≤ 9223372036854775807) (hbase : base ≤ w.heap.size) :
    ∃ cap w', (Builtin.append_ #[t, tn] oT #[.slice none 0 0, .int .i64 (k : Int)]).run P w = .ok (.slice (some ⟨w.heap.size, 0, none⟩) k cap) w' ∧ w'.ownsRow base e 1 (.slice (some ⟨w.heap.size, 0, none⟩) k cap) k (List.replicate k z) ∧ Ext w w' := by
  obtain ⟨i0, hi, hz0, hzz, hzb⟩ := info_parts hinfo
  have hfc : (Builtin.firstCells i0.size 0 (.slice none 0 0)).run P w.drew = .ok ([] : List Value).toArray w.drew := by
    simp [Builtin.firstCells]
  have hr := Go.Lib.run_append_grow_zeros (P := P) w t tn oT e i0 z .i64 kn ht htn hi hz0 none 0 0 [] hfc k h0 (by rw [hzz]; omega) (by omega) (by omega) (by rw [hzb]; omega) (growslice_fits (by omega) (by rw [hzb]; simpa using hb))
  have hge := grownCap_ge w (0 + k) 0 e
  have hcm' : grownCap w (0 + k) 0 e ≤ maxLen := grownCap_le_maxLen w (0 + k) 0 e (by unfold maxLen; omega)
  rw [hzs, zeroCells_one, Nat.zero_add] at hr
  rw [Nat.zero_add] at hge hcm'
  refine ⟨_, _, hr, ⟨by simp, .inr ⟨w.heap.size, _, _, rfl, hbase, heap_alloc_new w.drew _, hge, hcm', ?_, ?_⟩⟩, ((Ext.refl w).drew).alloc _ _⟩
  · rw [zeroCells_one]
    simp only [Array.size_append, List.size_toArray, List.length_replicate, List.length_nil]
    omega
  · simp
set_option maxRecDepth 100000 in
set_option maxHeartbeats 800000 in
theorem Grow_nil (k : Nat) (w : World) (hk : k ≤ 1048576) :
    Calls Try.prog 51 #[.slice none 0 0, .int .i64 k] w fun e w' => (∃ v, e = .returned v ∧ w'.ownsRow w.heap.size 3 1 v 0 []) ∧ Ext w w' := by
  have hneg : ¬ ((k : Int) < 0) := by omega
  rcases Nat.eq_zero_or_pos k with e | h0
  · subst e
    go_enter Try.func51, Try.ntmps51
    go_wp2_with fail
    go_ret
    exact ⟨⟨_, rfl, World.ownsRow_nil _ _ _ _⟩, Ext.refl _⟩
  · have hk0 : (0 : Int) < (k : Int) := by omega
    obtain ⟨cap, w1, hr, hown, hx⟩ := zeros_nil (P := Try.prog) w 30 30 3 w.heap.size 3 (.int .i64 0) 8 .i64 Try.underlying30 Try.underlying3 infoInt rfl k h0 (by omega) (by omega) (Nat.le_refl _)
    have HR : Hid ((Builtin.append_ #[30, 3] 30 #[.slice none 0 0, .int .i64 (k : Int)]).run Try.prog w = .ok (.slice (some ⟨w.heap.size, 0, none⟩) k cap) w1) := hr
    have hsl0 : ∀ w, (Instr.slice 30 (.slice none 0 0) none (some (.int .i64 0)) none).run Try.prog w = .ok (.slice none 0 0) w := fun w => by
      have := sub_h (P := Try.prog) Try.underlying30 sizeInt4 none 0 0 0 (Nat.le_refl _) 0 rfl w
      simpa [subA] using this
    have HOW : Hid (w1.ownsRow w.heap.size 3 1 (.slice (some ⟨w.heap.size, 0, none⟩) k cap) k (List.replicate k (.int .i64 0))) := hown
    have hcap : k ≤ cap := by
      rcases hown.2 with ⟨e, _⟩ | ⟨g, cap', cur, e, _, _, h5, _⟩
      · cases e
      · cases e; exact h5
    have hsl1 : ∀ w', (Instr.slice 30 (.slice (some ⟨w.heap.size, 0, none⟩) k cap) none (some (.int .i64 0)) none).run Try.prog w' = .ok (.slice (some ⟨w.heap.size, 0, none⟩) 0 cap) w' := fun w' => by
      have := sub_h (P := Try.prog) Try.underlying30 sizeInt4 (some ⟨w.heap.size, 0, none⟩) k cap 0 (Nat.zero_le _) 0 rfl w'
      rw [subA_some (by omega)] at this
      exact this
    have HO2 : Hid (w1.ownsRow w.heap.size 3 1 (.slice (some ⟨w.heap.size, 0, none⟩) 0 cap) 0 []) := by
      obtain ⟨_, h2⟩ := hown
      rcases h2 with ⟨e, _⟩ | ⟨g, cap', cur, e, h3, h4, h5, h6, h7, h8⟩
      · cases e
      · cases e
        exact ⟨rfl, .inr ⟨_, _, cur, rfl, h3, h4, Nat.zero_le _, h6, h7, by simp⟩⟩
    clear hr hown
    go_enter Try.func51, Try.ntmps51
    go_wp2_with (first | (at_builtin; refine Go.Lib.wpList_append_run w rfl (.tmp 20) (.tmp 21) 30 3 rfl _ _ rfl rfl _ _ HR.out ?_) | fail)
    go_wp2_with fail
    go_ret
    exact ⟨⟨_, rfl, HO2.out⟩, hx⟩
/-- how many numbers the first k lists have; these -/
def sumN (L : Nat → Nat) : Nat → Nat
  | 0 => 0
  | k + 1 => sumN L k + L k
def catV (L : Nat → Nat) (F : Nat → Nat → Int) : Nat → List Value
  | 0 => []
  | k + 1 => catV L F k ++ (List.range (L k)).map fun i => .int .i64 (F k i)
theorem sumN_le {L : Nat → Nat} {b : Nat} : ∀ k, (∀ i, i < k → L i ≤ b) → sumN L k ≤ k * b
  | 0, _ => by simp [sumN]
  | k + 1, h => by
    have := sumN_le k fun i hi => h i (by omega)
    have := h k (by omega)
    unfold sumN
    rw [Nat.add_mul]
    omega
theorem sumN_mono {L : Nat → Nat} {i j : Nat} (h : i ≤ j) : sumN L i ≤ sumN L j := by
  induction j with
  | zero => rw [show i = 0 by omega]; exact Nat.le_refl _
  | succ j ih =>
    by_cases e : i = j + 1
    · rw [e]; exact Nat.le_refl _
    · have := ih (by omega)
      show sumN L i ≤ sumN L j + L j
      omega
set_option maxRecDepth 100000 in
set_option maxHeartbeats 1600000 in
theorem Concat_any (a : Option Addr) (n cn : Nat) (A : Nat → Option Addr) (L C : Nat → Nat) (F : Nat → Nat → Int) (w : World) (hn : n ≤ 8) (hL : ∀ i, i < n → L i ≤ 1024) (h : Mat w a n A L C F) :
    Calls Try.prog 35 #[.slice a n cn] w fun e w' => (∃ v, e = .returned v ∧ w'.ownsRow w.heap.size 3 1 v (sumN L n) (catV L F n)) ∧ Ext w w' := by
  have HH : Hid (Mat w a n A L C F) := h
  have HL : Hid (∀ i, i < n → L i ≤ 1024) := hL
  clear h hL
  go_enter Try.func35, Try.ntmps35
  go_wp2_with fail
  go_loopw [3, 11] (fun s i wr => ∃ k : Nat, k ≤ n ∧ i = .int .i64 k ∧ s = .int .i64 (sumN L k : Nat) ∧ Ext w wr) (fun _ i _ => n - (intOf i).toNat)
  case atStart => exact ⟨0, Nat.zero_le _, rfl, rfl, Ext.refl _⟩
  case round =>
    obtain ⟨k, hk, rfl, rfl, hx⟩ := hrel
    obtain ⟨s, hs⟩ : ∃ s, sumN L k = s := ⟨_, rfl⟩
    have HS : Hid (sumN L k = s) := hs
    have hsb : s ≤ 8192 := by
      have := sumN_le (L := L) (b := 1024) k fun i hi => HL.out i (by omega)
      rw [hs] at this
      omega
    rw [hs]
    clear hs
    by_cases hlt : k < n
    · obtain ⟨⟨b, o, rfl, hc⟩, _⟩ := (HH.out.ext hx) k hlt
      obtain ⟨l, hl⟩ : ∃ l, L k = l := ⟨_, rfl⟩
      have hlb := HL.out k hlt
      rw [hl] at hc hlb
      have HN : Hid (sumN L (k + 1) = s + l) := by show sumN L k + L k = s + l; rw [HS.out, hl]
      have hpos : ¬ ((s : Int) + (l : Int) < 0) := by omega
      clear hl
      go_wp2_with fail
      go_roundw
      case rel => exact ⟨k + 1, by omega, by go_num, by rw [HN.out]; go_num, hx⟩
      case measure => simp [intOf]; omega
    · obtain rfl : k = n := by omega
      go_wp2_with fail
      refine (Grow_nil s _ (by omega)).mono ?_
      rintro e w2 ⟨⟨v0, rfl, hv0⟩, hx2⟩
      go_wp2_with fail
      have HX2 : Hid (Ext w w2) := hx.trans hx2
      have hwr := hx.size
      have h0 : w2.ownsRow w.heap.size 3 1 v0 0 [] := own_mono hv0 hwr
      go_loopw [6, 27] (fun v i w3 => ∃ j : Nat, j ≤ k ∧ i = .int .i64 j ∧ Ext w w3 ∧ w3.ownsRow w.heap.size 3 1 v (sumN L j) (catV L F j)) (fun _ i _ => k - (intOf i).toNat)
      case atStart => exact ⟨0, Nat.zero_le _, rfl, HX2.out, h0⟩
      case round =>
        clear h0 hv0
        obtain ⟨j, hj, rfl, hx3, hown⟩ := hrel
        have HO : Hid (wr.ownsRow w.heap.size 3 1 u6 (sumN L j) (catV L F j)) := hown
        clear hown
        by_cases hjl : j < k
        · have hr3 := (HH.out.ext hx3) j hjl
          obtain ⟨⟨b, o, rfl, hc⟩, hI⟩ := hr3
          have hlb := HL.out j hjl
          have hsb2 : sumN L j ≤ 8192 := by
            have := sumN_mono (L := L) (show j ≤ k by omega)
            rw [HS.out] at this
            omega
          have HI : Hid (∀ i, i < L j → ∃ b o, A j = some ⟨b, o, none⟩ ∧ wr.cell? ⟨b, o + i, none⟩ = some (.int .i64 (F j i))) := hI
          have hs3 := hx3.size
          go_wp2_with (first | (at_builtin; refine append_vals wr rfl _ _ 30 rfl w.heap.size 3 (.int .i64 0) 8 Try.underlying30 infoInt rfl u6 (sumN L j) _ rfl HO.out (A j) (L j) (C j) (fun i => .int .i64 (F j i)) rfl HI.out (fun _ _ => rfl) (by omega) (by omega) hs3 ?_) | fail)
          intro v' w5 hown5 hgrow5
          have HN : Hid (Ext w w5 ∧ w5.ownsRow w.heap.size 3 1 v' (sumN L (j + 1)) (catV L F (j + 1))) := ⟨hx3.grow hgrow5 fun q hq => (own_ge HO.out hq).1, hown5⟩
          clear hown5 hgrow5
          go_wp2_with fail
          go_roundw
          case rel => exact ⟨j + 1, by omega, by go_num, HN.out.1, HN.out.2⟩
          case measure => simp [intOf]; omega
        · obtain rfl : j = k := by omega
          go_wp2_with fail
          go_ret
          exact ⟨⟨_, rfl, HO.out⟩, hx3⟩
end Go.Proofs.Ythgbfakmkdifbaa
/-
  What is made of columns again where some are taken as gone: as plain functions.
-/
namespace Go.Proofs.Ythgbfakmkdifbaa
open Go.RowKit Go.Deep E
/-- the columns as they were read, in the order of par -/
def gatZ (n p : Nat) (L : Nat → Nat) (F : Nat → Nat → E) (j : Nat) : Nat → E := padZ (L (tauP n p j)) (F (tauP n p j))
def hasP (n p : Nat) (has : Nat → Bool) (j : Nat) : Bool := has (tauP n p j)
/-- the columns made again -/
def rebC (n p : Nat) (hp : Nat → Bool) (Z : Nat → Nat → E) : Nat → Nat → E := rebD (n - p) p (PL n hp).length (pf n hp) Z
def catW (d p c : Nat) (R : Nat → Nat → E) : Nat → Nat → E
  | 0 => fun _ => ze
  | k + 1 => catB (offD d p c k) (catW d p c R k) (R k)
/-- the data, if the columns of 'has' are gone -/
def gatD (d p c : Nat) (has : Nat → Bool) (L : Nat → Nat) (F : Nat → Nat → E) : Nat → E := catW d p c (rebC (colN d p c) p (hasP (colN d p c) p has) (gatZ (colN d p c) p L F)) (colN d p c - p)
theorem hasB_iff {n : Nat} {f : Nat → Int} {x : Int} : hasB n f x = true ↔ ∃ i, i < n ∧ x = f i := ⟨hasB_ex, fun ⟨_, hi, e⟩ => hasB_true hi e⟩
theorem hasB_pf {n : Nat} {hp : Nat → Bool} {x : Int} : hasB (PL n hp).length (pf n hp) x = true ↔ ∃ k : Nat, k < n ∧ hp k = true ∧ x = k := by
  rw [hasB_iff]
  constructor
  · rintro ⟨i, hi, e⟩
    have := PL_at hi
    exact ⟨_, this.1, this.2, e⟩
  · rintro ⟨k, hk, h, e⟩
    obtain ⟨i, hi, e2⟩ := PL_ex hk h
    exact ⟨i, hi, by unfold pf; rw [e2]; exact e⟩
theorem rebD_ext {N p nl nl' : Nat} {fl fl' : Nat → Int} {Z : Nat → Nat → E} (h : ∀ x, hasB nl fl x = hasB nl' fl' x) : rebD N p nl fl Z = rebD N p nl' fl' Z := by
  have e : hasB nl fl = hasB nl' fl' := funext h
  unfold rebD lostPL rebZ holeL keptPL
  have e2 : lostZ nl fl Z = lostZ nl' fl' Z := by
    unfold lostZ
    rw [e]
  rw [e, e2]
theorem rebC_congr {n p : Nat} {hp hp' : Nat → Bool} {Z : Nat → Nat → E} (h : ∀ j, j < n → hp j = hp' j) : rebC n p hp Z = rebC n p hp' Z := by
  unfold rebC pf
  rw [PL_same h]
theorem gatD_congr {d p c : Nat} {has has' : Nat → Bool} {L : Nat → Nat} {F : Nat → Nat → E} (ho : StOk d p c) (h : ∀ r, r < colN d p c → has r = has' r) : gatD d p c has L F = gatD d p c has' L F := by
  have hN := ho.N
  unfold gatD
  rw [rebC_congr (hp' := hasP (colN d p c) p has') fun j hj => by unfold hasP; exact h _ (st_at hN.2 hN.1 hj).2.2.1]
/-- a list of places turned says what the places say -/
theorem turn_has {n p ng : Nat} {g : Nat → Nat} (hn : n ≤ 8) (hp : p < n) (hg : ∀ i, i < ng → g i < n) (x : Int) :
    hasB ng (fun i => ((sigP n p (g i) : Nat) : Int)) x = hasB (PL n (hasP n p fun r => hasB ng (fun i => ((g i : Nat) : Int)) r)).length (pf n (hasP n p fun r => hasB ng (fun i => ((g i : Nat) : Int)) r)) x := by
  rw [Bool.eq_iff_iff, hasB_iff, hasB_pf]
  unfold hasP
  constructor
  · rintro ⟨i, hi, e⟩
    have hs := st_at hn hp (hg i hi)
    refine ⟨sigP n p (g i), hs.2.2.2, ?_, e⟩
    rw [hs.2.1]
    exact hasB_true hi rfl
  · rintro ⟨k, hk, h, e⟩
    obtain ⟨i, hi, e2⟩ := hasB_ex h
    have hs := st_at hn hp hk
    refine ⟨i, hi, ?_⟩
    have e3 : g i = tauP n p k := by omega
    rw [e3, hs.1]
    exact e
theorem alike_const {n m nl : Nat} {fl : Nat → Int} (hm : m ≤ 4096) : keptAlike n (fun _ => m) nl fl = true := by
  unfold keptAlike
  refine alikeB_true fun i hi => ?_
  unfold colB
  simp [hm]
/-- a list of places, no two the same, no more than parity: it can be done -/
theorem rebE_list {n p m ng : Nat} {g : Nat → Nat} (hn : n ≤ 8) (hp : 1 ≤ p ∧ p ≤ 3) (hpn : p < n) (hm : m ≤ 4096) (hg : ∀ i, i < ng → g i < n) (hd : ∀ i j, i < j → j < ng → g i ≠ g j) (hng : ng ≤ p) : rebE n (fun _ => m) p ng (fun i => ((g i : Nat) : Int)) = 0 := by
  unfold rebE
  rw [fromTo_true (by omega), fromTo_true (by omega), alike_const hm, outB_false fun i hi => ⟨by omega, by have := hg i hi; omega⟩, dupB_false fun i hi => hasB_false fun j hj => by rw [beq_eq_false_iff_ne]; have := hd j i hj hi; omega]
  simp only [Bool.and_self, if_true, Bool.false_eq_true, if_false]
  rw [if_neg (by omega)]
theorem sig_inj {n p i j : Nat} (hn : n ≤ 8) (hp : p < n) (hi : i < n) (hj : j < n) (h : sigP n p i = sigP n p j) : i = j := by
  have h1 := (st_at hn hp hi).2.1
  have h2 := (st_at hn hp hj).2.1
  rw [h] at h1
  exact h1.symm.trans h2
end Go.Proofs.Ythgbfakmkdifbaa
/-
  stripe.without: the data, if some columns are rebuilt; the world only grows.
-/
namespace Go.Proofs.Ythgbfakmkdifbaa
open Go.RowKit Go.Deep E
theorem catW_map (d p c : Nat) (R : Nat → Nat → E) (k : Nat) : (List.range (offD d p c k)).map (bvs (catW d p c R k)) ++ (List.range (wdB d p c (p + k))).map (bvs (R k)) = (List.range (offD d p c (k + 1))).map (bvs (catW d p c R (k + 1))) := by
  rw [cat_map, offD_s]
  rfl
set_option maxRecDepth 100000 in
set_option maxHeartbeats 4000000 in
theorem without_any (a : Option Addr) (n cn : Nat) (A : Nat → Option Addr) (C : Nat → Nat) (Z : Nat → Nat → E) (ac : Option Addr) (cm d p ad c : Nat) (ag : Option Addr) (ng cg : Nat) (g : Nat → Nat) (w : World) (ho : StOk d p c) (hn : n = colN d p c) (hcm : n ≤ cm) (hg : ∀ i, i < ng → g i < n) (hd : ∀ i j, i < j → j < ng → g i ≠ g j) (hng : ng ≤ p)
    (h : Cols w a n A (fun _ => wdB d p c 0) C Z) (hc : CnS w ac d p ad c 0 n) (hgl : Ints w ag ng fun i => ((g i : Nat) : Int)) :
    Calls Try.prog 34 #[.slice a n cn, .slice ac n cm, .int .i64 p, .slice ag ng cg] w fun e w' => (∃ v, e = .returned v ∧ w'.ownsRow w.heap.size 5 1 v (128 * c) ((List.range (128 * c)).map (bvs (catW d p c (rebC n p (hasP n p fun r => hasB ng (fun i => ((g i : Nat) : Int)) r) Z) (n - p))))) ∧ Ext w w' := by
  have HH : Hid (Cols w a n A (fun _ => wdB d p c 0) C Z) := h
  have HC : Hid (CnS w ac d p ad c 0 n) := hc
  have HG : Hid (Ints w ag ng fun i => ((g i : Nat) : Int)) := hgl
  have HGB : Hid (∀ i, i < ng → g i < n) := hg
  have HO : Hid (StOk d p c) := ho
  have HN : Hid (n = colN d p c) := hn
  have hN := ho.N
  rw [← hn] at hN
  have hp1 := ho.p1
  have hp3 := ho.p3
  have hM := (ho.wd (i := 0) (by rw [← hn]; omega)).2.2
  obtain ⟨M, hMM⟩ : ∃ M, wdB d p c 0 = M := ⟨_, rfl⟩
  rw [hMM] at hM
  have HE : Hid (rebE n (fun _ => wdB d p c 0) p ng (fun i => ((sigP n p (g i) : Nat) : Int)) = 0) := by
    show _ = _
    rw [hMM]
    exact rebE_list hN.2 ⟨hp1, hp3⟩ hN.1 hM (fun i hi => (st_at hN.2 hN.1 (hg i hi)).2.2.2) (fun i j hij hj e => hd i j hij hj (sig_inj hN.2 hN.1 (hg i (by omega)) (hg j hj) e)) hng
  have HAL : Hid (keptAlike n (fun _ => wdB d p c 0) ng (fun i => ((sigP n p (g i) : Nat) : Int)) = true) := by show _ = _; rw [hMM]; exact alike_const hM
  have HTH : Hid (∀ x, hasB ng (fun i => ((sigP n p (g i) : Nat) : Int)) x = hasB (PL n (hasP n p fun r => hasB ng (fun i => ((g i : Nat) : Int)) r)).length (pf n (hasP n p fun r => hasB ng (fun i => ((g i : Nat) : Int)) r)) x) := turn_has hN.2 hN.1 hg
  obtain ⟨hnp, hn8⟩ := hN
  have hmk := make_ints ng (by omega)
  obtain ⟨b0, o0, _, _, _, hac, _, _, _, _⟩ := hc.at (i := 0) (by omega)
  subst hac
  clear h hc hgl hg ho hn hd hMM
  go_enter Try.func34, Try.ntmps34
  go_wp2_with fail
  have hr0 : (w.alloc (.cells (madeCells #[.int .i64 0] ng) 3)).rowIs w.heap.size 3 ng (fun i => if i < 0 then .int .i64 ((sigP n p (g i) : Nat) : Int) else .int .i64 0) := (World.rowIs_made w (.int .i64 0) ng 3).congr fun i _ => by rw [if_neg (by omega)]
  have hx0 : Ext w (w.alloc (.cells (madeCells #[.int .i64 0] ng) 3)) := (Ext.refl w).alloc _ _
  generalize w.alloc (.cells (madeCells #[.int .i64 0] ng) 3) = w1 at *
  clear hmk
  go_loopw [22] (fun i wr => ∃ k : Nat, k ≤ ng ∧ i = .int .i64 k ∧ Ext w wr ∧ wr.rowIs w.heap.size 3 ng (fun i => if i < k then .int .i64 ((sigP n p (g i) : Nat) : Int) else .int .i64 0)) (fun i _ => ng - (intOf i).toNat)
  case atStart => exact ⟨0, Nat.zero_le _, rfl, hx0, hr0⟩
  case round =>
    clear hr0 hx0
    obtain ⟨k, hk, rfl, hx, hr⟩ := hrel
    have HR : Hid (wr.rowIs w.heap.size 3 ng (fun i => if i < k then .int .i64 ((sigP n p (g i) : Nat) : Int) else .int .i64 0)) := hr
    clear hr
    by_cases hlt : k < ng
    · obtain ⟨bg, og, rfl, hcg⟩ := (HG.out.ext hx) k hlt
      obtain ⟨r, hrr⟩ : ∃ r, g k = r := ⟨_, rfl⟩
      have hrn := HGB.out k hlt
      dsimp only at hcg
      rw [hrr] at hcg hrn
      have HTC := fun u : World => turned_any r p n u (by omega) hn8 hrn
      obtain ⟨s, hs⟩ : ∃ s, (r + n - p) % n = s := ⟨_, rfl⟩
      have HS : Hid (sigP n p (g k) = s) := by show _ = _; rw [hrr]; exact hs
      rw [hs] at HTC
      have hct := HR.out.cell hlt
      rw [if_neg (by omega)] at hct
      have hft := HR.out.frozen k
      have HN2 : Hid ((wr.setCell ⟨w.heap.size, k, none⟩ (.int .i64 (s : Nat))).rowIs w.heap.size 3 ng (fun i => if i < k + 1 then .int .i64 ((sigP n p (g i) : Nat) : Int) else .int .i64 0)) := (HR.out.set k _).congr fun i _ => by
        by_cases e : i = k
        · subst e; rw [if_pos rfl, if_pos (by omega), HS.out]
        · rw [if_neg e]
          by_cases l : i < k
          · rw [if_pos l, if_pos (by omega)]
          · rw [if_neg l, if_neg (by omega)]
      have HX : Hid (Ext w (wr.setCell ⟨w.heap.size, k, none⟩ (.int .i64 (s : Nat)))) := hx.setCell (p := ⟨w.heap.size, k, none⟩) (Nat.le_refl _) _
      clear hrr hs
      go_wp2_with (first | (go_at_call 47; refine (HTC _).mono ?_; rintro e w2 ⟨rfl, rfl⟩) | fail)
      go_roundw
      case rel => exact ⟨k + 1, by omega, by go_num, HX.out, HN2.out⟩
      case measure => simp [intOf]; omega
    · obtain rfl : k = ng := by omega
      have HLI : Hid (Ints wr (some ⟨w.heap.size, 0, none⟩) k fun i => ((sigP n p (g i) : Nat) : Int)) := Ints.mk fun i hi => by
        have := HR.out.cell hi
        rw [if_pos hi] at this
        rw [Nat.zero_add]
        exact this
      have HX : Hid (Ext w wr) := hx
      clear HR
      obtain ⟨N, hNN⟩ : ∃ N, N + p = n := ⟨n - p, by omega⟩
      have hNp : n - p = N := by omega
      go_wp2_with fail
      refine (Rebuild_cap a n cn A _ C Z p N (some ⟨w.heap.size, 0, none⟩) k k (fun i => ((sigP n p (g i) : Nat) : Int)) _ hNN ⟨hp1, hp3⟩ (by omega) HAL.out hng (HH.out.ext HX.out) HLI.out HE.out).mono ?_
      rintro e w2 ⟨⟨rb, rc, rA, rC, rfl, hR, hcap⟩, hx2⟩
      have hZ : rebD N p k (fun i => ((sigP n p (g i) : Nat) : Int)) Z = rebC n p (hasP n p fun r => hasB k (fun i => ((g i : Nat) : Int)) r) Z := by
        unfold rebC
        rw [rebD_ext HTH.out, hNp]
      rw [hZ] at hR
      obtain ⟨R, hRR⟩ : ∃ R, rebC n p (hasP n p fun r => hasB k (fun i => ((g i : Nat) : Int)) r) Z = R := ⟨_, rfl⟩
      rw [hRR] at hR
      have HRR : Hid (rebC n p (hasP n p fun r => hasB k (fun i => ((g i : Nat) : Int)) r) Z = R) := hRR
      have HNP : Hid (n - p = N) := hNp
      have HR2 : Hid (Cols w2 rb n rA (fun _ => wdB d p c 0) rC R) := hR
      have HX2 : Hid (Ext w w2) := HX.out.trans hx2
      have hsl : ∀ w, (Instr.slice 51 (.slice (some ⟨b0, o0, none⟩) n cm) (some (.int .i64 (p : Int))) none none).run Try.prog w = .ok (.slice (some ⟨b0, o0 + p * 4, none⟩) N (cm - p)) w := fun w => by
        rw [subE_l (sz := 4) (by omega) Try.underlying51 sizeCol4 _ n cm p (by omega) _ rfl w, hNp, subE_some (by omega)]
      have HCS : Hid (CnS w2 (some ⟨b0, o0 + p * 4, none⟩) d p ad c p N) := by
        show CnS w2 _ d p ad c p N
        rw [← hNp, ← subE_some (sz := 4) (c := cm) (lo := p) (b := b0) (o := o0) (by omega)]
        exact (HC.out.ext HX2.out).sub p (by omega) hcm
      clear hR hRR hZ hx2 hx HLI HTH HE HAL
      have HPN : Hid (p + N = colN d p c) := by show _ = _; rw [← HN.out]; omega
      have hNb : 1 ≤ N ∧ N ≤ 8 := by omega
      have hwsz := HX2.out.size
      have hNn : N ≤ n := by omega
      have HCP : Hid (∀ r, r < n → wdB d p c 0 ≤ rC r) := hcap
      clear hNN hNp hcap
      go_wp2_with fail
      go_loopw [14, 47] (fun v i wr => ∃ j : Nat, j ≤ N ∧ i = .int .i64 j ∧ Ext w2 wr ∧ wr.ownsRow w2.heap.size 5 1 v (offD d p c j) ((List.range (offD d p c j)).map (bvs (catW d p c R j)))) (fun _ i _ => N - (intOf i).toNat)
      case atStart =>
        refine ⟨0, Nat.zero_le _, rfl, Ext.refl _, ?_⟩
        rw [offD_0]
        exact World.ownsRow_nil _ _ _ _
      case round =>
        obtain ⟨j, hj, rfl, hx3, hown⟩ := hrel
        have HO3 : Hid (wr.ownsRow w2.heap.size 5 1 u14 (offD d p c j) ((List.range (offD d p c j)).map (bvs (catW d p c R j)))) := hown
        clear hown
        by_cases hjl : j < N
        · obtain ⟨⟨bR, oR, rfl, hcR⟩, hBR⟩ := (HR2.out.ext hx3) j (by omega)
          obtain ⟨bc, oc, x, y, z, hac, h0, h1, h2, h3⟩ := (HCS.out.ext hx3).at hjl
          cases hac
          obtain ⟨q, hq⟩ : ∃ q, cntC d p c (p + j) = q := ⟨_, rfl⟩
          have hqb := HO.out.cnt (i := p + j) (by rw [← HPN.out]; omega)
          have HW : Hid (wdB d p c (p + j) = 128 * q) := by show _ = _; unfold wdB; rw [hq]
          have hwd0 := HO.out.wd (i := p + j) (by rw [← HPN.out]; omega)
          rw [HW.out] at hwd0
          rw [hq] at hqb h2
          have hof := HO.out.offs (i := j) (by rw [← HPN.out]; omega)
          rw [HW.out] at hof
          have hc32 := HO.out.c32
          have hbnd : 1 ≤ q ∧ q ≤ 32 ∧ 128 * q ≤ wdB d p c 0 ∧ wdB d p c 0 ≤ 4096 := ⟨hqb.1, by omega, hwd0.2.1, hwd0.2.2⟩
          obtain ⟨M0, hM0⟩ : ∃ M0, wdB d p c 0 = M0 := ⟨_, rfl⟩
          have hcap := HCP.out j (by omega)
          rw [hM0] at hcR hBR hbnd hcap
          obtain ⟨cr, hcr⟩ : ∃ cr, rC j = cr := ⟨_, rfl⟩
          rw [hcr] at hcR hcap
          have HB1 : Hid (Byts wr (rA j) M0 (R j)) := hBR
          clear hBR hcr
          obtain ⟨o, hoq⟩ : ∃ o, offD d p c j = o := ⟨_, rfl⟩
          have HOQ : Hid (offD d p c j = o) := hoq
          rw [hoq] at hof
          have hob : o ≤ 4096 := by omega
          clear hq hqb hwd0 hof hc32 hoq hM0
          have hal := (Ext.refl wr).alloc #[.int .i64 x, .int .i64 y, .int .i64 q, .bool z] 59
          have f0 : (wr.alloc (.cells #[.int .i64 x, .int .i64 y, .int .i64 q, .bool z] 59)).cell? ⟨wr.heap.size, 0, none⟩ = some (.int .i64 x) := by rw [new_cell]; rfl
          have f1 : (wr.alloc (.cells #[.int .i64 x, .int .i64 y, .int .i64 q, .bool z] 59)).cell? ⟨wr.heap.size, 1, none⟩ = some (.int .i64 y) := by rw [new_cell]; rfl
          have f2 : (wr.alloc (.cells #[.int .i64 x, .int .i64 y, .int .i64 q, .bool z] 59)).cell? ⟨wr.heap.size, 2, none⟩ = some (.int .i64 q) := by rw [new_cell]; rfl
          have f3 : (wr.alloc (.cells #[.int .i64 x, .int .i64 y, .int .i64 q, .bool z] 59)).cell? ⟨wr.heap.size, 3, none⟩ = some (.bool z) := by rw [new_cell]; rfl
          have hcR3 := hal.keeps hcR
          go_upto_region 12 with fail
          generalize wr.alloc (.cells #[.int .i64 x, .int .i64 y, .int .i64 q, .bool z] 59) = w3 at *
          have hsl2 : ∀ w, (Instr.slice 22 (.slice (rA j) M0 cr) none (some (.int .i64 (128 * (q : Int)))) none).run Try.prog w = .ok (.slice (subA (rA j) cr 0) (128 * q) cr) w := fun w => sub_h Try.underlying22 sizeB1 (rA j) M0 cr (128 * q) (by omega) _ (by omega) w
          have hsl3 : ∀ w, (Instr.slice 22 (.slice (rA j) M0 cr) none (some (.int .i64 ((128 * q : Nat) : Int))) none).run Try.prog w = .ok (.slice (subA (rA j) cr 0) (128 * q) cr) w := fun w => sub_h Try.underlying22 sizeB1 (rA j) M0 cr (128 * q) (by omega) _ rfl w
          have d0 : ∀ u : Gr w3, u.w'.cell? ⟨wr.heap.size, 0, none⟩ = some (.int .i64 x) := fun u => u.ext.keeps f0
          have d1 : ∀ u : Gr w3, u.w'.cell? ⟨wr.heap.size, 1, none⟩ = some (.int .i64 y) := fun u => u.ext.keeps f1
          have d2 : ∀ u : Gr w3, u.w'.cell? ⟨wr.heap.size, 2, none⟩ = some (.int .i64 q) := fun u => u.ext.keeps f2
          have d3 : ∀ u : Gr w3, u.w'.cell? ⟨wr.heap.size, 3, none⟩ = some (.bool z) := fun u => u.ext.keeps f3
          have d4 : ∀ u : Gr w3, u.w'.cell? ⟨bR, oR + j, none⟩ = some (.slice (rA j) M0 cr) := fun u => u.ext.keeps hcR3
          have hjn : j < n := by omega
          have hjni : (j : Int) < (n : Int) := by omega
          have HX3 : Hid (Ext wr w3) := hal
          have HX23 : Hid (Ext w2 wr) := hx3
          clear f0 f1 f2 f3 hcR hcR3 h0 h1 h2 h3 hal hx3
          refine wp_region_grows 8 (by kernel_rfl) (by kernel_rfl) (fun hne => ?_)
          simp only [List.take_succ_cons, List.take_zero, List.drop_succ_cons, List.drop_zero]
          repeat (go_big_quiet_step (first | (go_at_call 39; exact Calls.grown (width_any x y _ q z rfl _ (by omega)))))
          refine wpQuiet_nil ?_
          intro w4 hw4
          obtain ⟨y4, rfl⟩ := hw4
          have HXY : Hid (Ext wr y4.w') := HX3.out.trans y4.ext
          have HSB : Hid (∀ i, i < 128 * q → ∃ b o, subA (rA j) cr 0 = some ⟨b, o, none⟩ ∧ y4.w'.cell? ⟨b, o + i, none⟩ = some (bvs (R j) i)) := fun i hi => by
            obtain ⟨b1, o1, e1, e2⟩ := (HB1.out.ext HXY.out) i (by omega)
            refine ⟨b1, o1 + 0, by rw [e1, subA_some (by omega)], ?_⟩
            rw [Nat.add_zero]
            exact e2
          have HO4 : Hid (y4.w'.ownsRow w2.heap.size 5 1 u14 o ((List.range o).map (bvs (catW d p c R j)))) := by
            have := own_ext HO3.out HXY.out
            rw [HOQ.out] at this
            exact this
          have hs4 : w2.heap.size ≤ y4.w'.heap.size := Nat.le_trans HX23.out.size HXY.out.size
          clear d0 d1 d2 d3 d4
          go_wp2_with (first | (at_builtin; refine append_vals y4.w' rfl (.tmp 52) (.tmp 59) 22 rfl w2.heap.size 5 (.int .u8 0) 1 Try.underlying22 infoByte rfl u14 o _ rfl HO4.out (subA (rA j) cr 0) (128 * q) cr (bvs (R j)) rfl HSB.out (fun _ _ => rfl) (by omega) (by omega) hs4 ?_) | fail)
          intro v5 w5 hown5 hgrow5
          have HN5 : Hid (Ext w2 w5 ∧ w5.ownsRow w2.heap.size 5 1 v5 (offD d p c (j + 1)) ((List.range (offD d p c (j + 1))).map (bvs (catW d p c R (j + 1))))) := by
            refine ⟨?_, ?_⟩
            · exact (HX23.out.trans HXY.out).grow hgrow5 fun q hq => (own_ge HO4.out hq).1
            · rw [← catW_map, offD_s, HW.out, HOQ.out]
              exact hown5
          clear hown5 hgrow5
          go_wp2_with fail
          go_roundw
          case rel => exact ⟨j + 1, by omega, by go_num, HN5.out.1, HN5.out.2⟩
          case measure => simp [intOf]; omega
        · obtain rfl : j = N := by omega
          have HOF : Hid (offD d p c j = 128 * c) := by
            show _ = _
            rw [show j = colN d p c - p by rw [← HPN.out]; omega]
            exact HO.out.off
          have hxe : Ext w wr := HX2.out.trans hx3
          go_wp2_with fail
          go_ret
          rw [HRR.out, HNP.out]
          refine ⟨⟨_, rfl, ?_⟩, hxe⟩
          have := HO3.out
          rw [HOF.out] at this
          exact own_mono this hwsz
end Go.Proofs.Ythgbfakmkdifbaa
/-
  A range over a function whose rounds are handed slices: the law with what each round may know of the memory in which its slice lies.
-/
namespace Go.Proofs.Ythgbfakmkdifbaa
open Go.RowKit Go.Shelf Go.Deep
/-- all cells stay as they were -/
structure Kc (W W' : World) : Prop where
  os : W'.os = W.os
  tape : W'.tape = W.tape
  output : W'.output = W.output
  size : W.heap.size ≤ W'.heap.size
  block : ∀ (k : Nat) (o : Obj), W.heap[k]? = some o → o.isCells = true → W'.heap[k]? = some o
theorem Kc.refl (W : World) : Kc W W := ⟨rfl, rfl, rfl, Nat.le_refl _, fun _ _ h _ => h⟩
theorem Kc.trans {A B C : World} (h : Kc A B) (k : Kc B C) : Kc A C := ⟨k.os.trans h.os, k.tape.trans h.tape, k.output.trans h.output, Nat.le_trans h.size k.size, fun i o hi ho => k.block i o (h.block i o hi ho) ho⟩
theorem Kc.ext {A B : World} (h : Ext A B) : Kc A B := ⟨h.below.os, h.below.tape, h.below.output, h.below.size, fun k _ hk _ => (h.below.block k (Array.getElem?_eq_some_iff.1 hk).1).trans hk⟩
theorem Kc.put {A B : World} (h : Kc A B) {l : Nat} {o o' : Obj} (hl : B.heap[l]? = some o) (hc : o.isCells = false) : Kc A (B.putObj l o') :=
  h.trans ⟨rfl, rfl, rfl, by simp [World.putObj], fun k p hk hp => by
    have hne : k ≠ l := fun e => by
      subst e
      rw [hl] at hk
      cases hk
      rw [hc] at hp
      cases hp
    exact (World.putObj_heap_other hne).trans hk⟩
theorem Kc.keeps {W W' : World} (h : Kc W W') {p : Addr} {v : Value} (hv : W.cell? p = some v) : W'.cell? p = some v := by
  have hb : ∃ o, W.heap[p.block]? = some o ∧ o.isCells = true := by
    unfold World.cell? at hv
    split at hv
    · next c t f hh => exact ⟨_, hh, rfl⟩
    · cases hv
  obtain ⟨o, h1, h2⟩ := hb
  exact (World.cell?_of_block ((h.block _ o h1 h2).trans h1.symm)).trans hv
theorem Kc.ints {W W' : World} (h : Kc W W') {a : Option Addr} {n : Nat} {f : Nat → Int} (hi : Ints W a n f) : Ints W' a n f := fun i hl => by
  obtain ⟨b, o, h1, h2⟩ := hi i hl
  exact ⟨b, o, h1, h.keeps h2⟩
/-- all cells stay, and whatever lies below n₀ -/
def Kb (n₀ : Nat) (A B : World) : Prop := Kc A B ∧ Below n₀ A B
theorem Kb.ext {n₀ : Nat} {A B : World} (h : Ext A B) (hn : n₀ ≤ A.heap.size) : Kb n₀ A B := ⟨Kc.ext h, h.below.mono hn⟩
theorem Kb.trans {n₀ : Nat} {A B C : World} (h : Kb n₀ A B) (k : Kb n₀ B C) : Kb n₀ A C := ⟨h.1.trans k.1, h.2.trans k.2⟩
theorem Kb.put {n₀ : Nat} {A : World} {l : Nat} {o : Obj} (o' : Obj) (hl : A.heap[l]? = some o) (hc : o.isCells = false) (hn : n₀ ≤ l) : Kb n₀ A (A.putObj l o') := by
  refine ⟨(Kc.refl A).put hl hc, ⟨rfl, rfl, rfl, by simp [World.putObj], fun k hk => World.putObj_heap_other (by omega)⟩⟩
/-- how a round may be left -/
def rgPost {β : Type} (I : β → World → Prop) (Ix : World → Prop) (s' : β) (W : World) : Exit → Act → World → Prop
  | .normal, _, W' => Ext W W' ∧ I s' W'
  | .ret, _, W' => KeepsOthers W W' ∧ Ix W'
  | _, _, _ => False
/-- the iterator's word -/
def RgSeq {β : Type} (F : Fence) (n : Nat) (P : Program) (gf : Nat) (lb : Array Value) (Px : β → β → Value → World → Prop) (s0 all : β) (w : World) : Prop :=
  ∀ (l : Nat) (J : β → World → Prop) (Jx : World → Prop) (W : World), Kc w W → (∀ s A B, J s A → Ext A B → J s B) →
    (∀ s s' v W1, J s W1 → Px s s' v W1 → YieldAt F (n - 1) P l #[v] W1 fun e W' => (e = .returned (.bool true) ∧ J s' W' ∧ Kc W1 W') ∨ (e = .returned (.bool false) ∧ Jx W')) →
    J s0 W → CallsIn F n P gf (#[.func (.yield l) #[] #[]] ++ lb) W fun e W' => (∃ v, e = .returned v) ∧ (J all W' ∨ Jx W')
section
variable {F : Fence} {n : Nat} {P : Program} {w : World}
theorem wp_range_given {β : Type} {g : Operand} {ps : Array Tmp} {assign body : Code} {Q : Exit → Act → World → Prop} {a : Act} (hro : F.round = none) (h1 : 1 ≤ n) {gf : Nat} {lb : Array Value}
    (hg : a.eval g = .func (.func gf) #[] lb) (hFg : F.fn gf) (eg : Enters P gf) (hps : ps.size = 1)
    (I : β → World → Prop) (Ix : World → Prop) (Px : β → β → Value → World → Prop) (s0 all : β) (hseq : RgSeq F (n - 1) P gf lb Px s0 all w)
    (hI : ∀ s A B, I s A → Kb w.heap.size A B → I s B) (hIx : ∀ A B, Ix A → Kb w.heap.size A B → Ix B) (hPx : ∀ s s' v A B, Px s s' v A → Kc A B → Px s s' v B) (h0 : I s0 w) (a₁ : Array Value → Value → Act)
    (hassign : ∀ (l : Nat) (s s' : β) (v : Value) (W : World) (K : Act → World → Prop), I s W → Px s s' v W → K (a₁ a.tmps v) W → assign.wpIn (F.inRound l) (n - 1 - 1) P (Exit.then K (fun _ _ _ => False)) { tmps := (ps.zip #[v]).foldl (fun t (p, v) => t.setIfInBounds p v) a.tmps, defers := [] } W)
    (hbody : ∀ (l : Nat) (s s' : β) (v : Value) (W : World), I s W → Px s s' v W → body.wpIn (F.inRound l) (n - 1 - 1) P (rgPost I Ix s' W) (a₁ a.tmps v) W)
    (hdone : ∀ (D : Nat) (W : World), w.heap.size ≤ D → I all W → W.heap[D]? = some (.deferred (some [])) → Q .normal { a with defers := { target := .collected D, args := #[] } :: a.defers } W)
    (hstop : ∀ (D : Nat) (W : World), w.heap.size ≤ D → Ix W → W.heap[D]? = some (.deferred (some [])) → Code.ret.wpIn F n P Q { a with defers := { target := .collected D, args := #[] } :: a.defers } W) :
    (Code.rangeFunc g ps assign body).wpIn F n P Q a w := by
  refine wpIn_rangeFunc fun fn hfn => ?_
  rw [hro]
  -- the loop's record in its states
  let rc : LoopState → Option Code → Loop := fun st pe => { state := st, pending := pe, fn, tmps := a.tmps, params := ps, assign, body, defers := w.heap.size }
  have hx1 : Ext w ((w.alloc (.deferred (some []))).alloc (.loop (rc .ready none))) := ⟨((Below.refl _ w).alloc (Nat.le_refl _) _).alloc (by simp) _⟩
  have hL : ((w.alloc (.deferred (some []))).alloc (.loop (rc .ready none))).heap[w.heap.size + 1]? = some (.loop (rc .ready none)) := by
    have := World.alloc_heap_new (w.alloc (.deferred (some []))) (.loop (rc .ready none))
    rwa [World.size_alloc] at this
  have hD : ((w.alloc (.deferred (some []))).alloc (.loop (rc .ready none))).heap[w.heap.size]? = some (.deferred (some [])) := (Below.heap_alloc _ _ _ (by simp)).trans (World.alloc_heap_new w _)
  have hEL := run_enterLoop_outer (P := P) (w := w) fn a.tmps ps assign body
  refine ⟨w.heap.size + 1, [{ target := .collected w.heap.size, args := #[] }], (w.alloc (.deferred (some []))).alloc (.loop (rc .ready none)), { target := .fn (.func gf) lb, args := #[.func (.yield (w.heap.size + 1)) #[] #[]] }, (w.alloc (.deferred (some []))).alloc (.loop (rc .ready none)), gf, #[.func (.yield (w.heap.size + 1)) #[] #[]] ++ lb, (w.alloc (.deferred (some []))).alloc (.loop (rc .ready none)), hEL, ?_, ?_, ?_, fun _ => h1, ?_⟩
  · simp only [resolve, hg]
    simp [go_sem]
  · intro f' hf'
    simp [Target.leads] at hf'
    subst hf'
    exact hFg
  · simp [invoke, go_sem, eg _ _]
  · refine (hseq (w.heap.size + 1)
      (fun s W => I s W ∧ W.heap[w.heap.size + 1]? = some (.loop (rc .ready none)) ∧ W.heap[w.heap.size]? = some (.deferred (some [])))
      (fun W => Ix W ∧ W.heap[w.heap.size + 1]? = some (.loop (rc .done (some .ret))) ∧ W.heap[w.heap.size]? = some (.deferred (some [])))
      _ (Kc.ext hx1) (fun s A B hJ x => ?_) (fun s s' v W1 hJ hp => ?_) ⟨hI _ _ _ h0 (Kb.ext hx1 (Nat.le_refl _)), hL, hD⟩).mono ?_
    · exact ⟨hI _ _ _ hJ.1 (Kb.ext x (Nat.le_of_lt (Array.getElem?_eq_some_iff.1 hJ.2.2).1)), (x.below.block _ (Array.getElem?_eq_some_iff.1 hJ.2.1).1).trans hJ.2.1, (x.below.block _ (Array.getElem?_eq_some_iff.1 hJ.2.2).1).trans hJ.2.2⟩
    · -- a round
      obtain ⟨hi, hl, hd⟩ := hJ
      have hy := run_yield (P := P) (args := #[v]) hl (show (#[v] : Array Value).size = ps.size by rw [hps]; rfl)
      refine ⟨fn, _, assign, body, hy, roundIn_of_wpIn hfn (hassign _ s s' v W1 _ hi hp ⟨_, run_beginRound hl rfl, ?_⟩)⟩
      have hlt := (Array.getElem?_eq_some_iff.1 hl).1
      have hk2 : Kc W1 (W1.putObj (w.heap.size + 1) (.loop { rc .ready none with state := .busy })) := (Kc.refl W1).put hl rfl
      have hl2 : (W1.putObj (w.heap.size + 1) (.loop { rc .ready none with state := .busy })).heap[w.heap.size + 1]? = some (.loop { rc .ready none with state := .busy }) := World.putObj_heap_same hlt
      have hd2 : (W1.putObj (w.heap.size + 1) (.loop { rc .ready none with state := .busy })).heap[w.heap.size]? = some (.deferred (some [])) := (World.putObj_heap_other (by omega)).trans hd
      refine wpIn_mono (hbody _ s s' v _ (hI _ _ _ hi (Kb.put _ hl rfl (by omega))) (hPx _ _ _ _ _ hp hk2)) fun e a3 W3 hq => ?_
      cases e with
      | normal =>
        obtain ⟨hx3, hi3⟩ := hq
        have hl3 := (hx3.below.block _ (Array.getElem?_eq_some_iff.1 hl2).1).trans hl2
        have hd3 := (hx3.below.block _ (Array.getElem?_eq_some_iff.1 hd2).1).trans hd2
        have hr := run_endRound (P := P) none hl3
        exact ⟨_, _, hr, .inl ⟨rfl, ⟨hI _ _ _ hi3 (Kb.put _ hl3 rfl (by omega)), World.putObj_heap_same (Array.getElem?_eq_some_iff.1 hl3).1, (World.putObj_heap_other (by omega)).trans hd3⟩, (hk2.trans (Kc.ext hx3)).put hl3 rfl⟩⟩
      | ret =>
        obtain ⟨hk3, hi3⟩ := hq
        have hl3 := hk3.same _ _ hl2 rfl
        have hd3 := hk3.same _ _ hd2 rfl
        have hr := run_endRound (P := P) (some .ret) hl3
        exact ⟨_, _, hr, .inr ⟨rfl, hIx _ _ hi3 (Kb.put _ hl3 rfl (by omega)), World.putObj_heap_same (Array.getElem?_eq_some_iff.1 hl3).1, (World.putObj_heap_other (by omega)).trans hd3⟩⟩
      | exit id => exact hq.elim
      | goto t => exact hq.elim
      | panic ch => exact hq.elim
      | outgrown => exact hq.elim
    · -- behind the iterator
      rintro e W2 ⟨⟨v, rfl⟩, (⟨hi, hl, hd⟩ | ⟨hi, hl, hd⟩)⟩
      · exact ⟨none, _, run_endLoop (P := P) hl (by simp [rc]), hdone _ _ (Nat.le_refl _) (hI _ _ _ hi (Kb.put _ hl rfl (by omega))) ((World.putObj_heap_other (by omega)).trans hd)⟩
      · exact ⟨some .ret, _, run_endLoop (P := P) hl (by simp [rc]), hstop _ _ (Nat.le_refl _) (hIx _ _ hi (Kb.put _ hl rfl (by omega))) ((World.putObj_heap_other (by omega)).trans hd)⟩
end
end Go.Proofs.Ythgbfakmkdifbaa
/-
  stripe.picks: the iterator's word.
-/
namespace Go.Proofs.Ythgbfakmkdifbaa
open Go.RowKit Go.Shelf Go.Deep E
attribute [local go_sem] Oper.semAt_some
/-- all picks of fewer than m of N things, the smaller ones first -/
def allPk (N : Nat) : Nat → List (List Nat)
  | 0 => []
  | k + 1 => allPk N k ++ pk N k 0
theorem allPk_at {N m k i : Nat} (hk : k < m) (hi : i < (pk N k 0).length) : (allPk N m)[(allPk N k).length + i]? = (pk N k 0)[i]? := by
  induction m with
  | zero => omega
  | succ m ih =>
    by_cases e : k = m
    · subst e
      show (allPk N k ++ pk N k 0)[(allPk N k).length + i]? = _
      rw [List.getElem?_append_right (by omega), Nat.add_sub_cancel_left]
    · have h := ih (by omega)
      show (allPk N m ++ pk N m 0)[(allPk N k).length + i]? = _
      have hlt : (allPk N k).length + i < (allPk N m).length := by
        rw [List.getElem?_eq_getElem hi] at h
        exact (List.getElem?_eq_some_iff.1 h).1
      rw [List.getElem?_append_left hlt, h]
/-- the slice that a round is handed is pick number s -/
def PkAt (All : List (List Nat)) (s s' : Nat) (v : Value) (W : World) : Prop := s' = s + 1 ∧ ∃ (p : List Nat) (a : Option Addr) (c : Nat), All[s]? = some p ∧ v = .slice a p.length c ∧ Ints W a p.length (pkF p)
theorem PkAt.kc {All : List (List Nat)} {s s' : Nat} {v : Value} {A B : World} (h : PkAt All s s' v A) (k : Kc A B) : PkAt All s s' v B := by
  obtain ⟨h1, p, a, c, h2, h3, h4⟩ := h
  exact ⟨h1, p, a, c, h2, h3, k.ints h4⟩
theorem Kc.mat {W W' : World} (h : Kc W W') {a : Option Addr} {n : Nat} {A : Nat → Option Addr} {L C : Nat → Nat} {F : Nat → Nat → Int} (hm : Mat W a n A L C F) : Mat W' a n A L C F := fun r hr => by
  obtain ⟨⟨b, o, h1, h2⟩, h3⟩ := hm r hr
  exact ⟨⟨b, o, h1, h.keeps h2⟩, h.ints h3⟩
set_option maxRecDepth 100000 in
set_option maxHeartbeats 4000000 in
theorem picks1_in (n : Nat) (hn : 1 ≤ n) (l bm bn N q : Nat) (hN : N ≤ 12) (hq : q ≤ N) (J : Nat → World → Prop) (Jx : World → Prop)
    (hJ : ∀ s A B, J s A → Ext A B → J s B)
    (hY : ∀ s s' v W1, J s W1 → PkAt (allPk N (q + 1)) s s' v W1 → YieldAt Fence.wide (n - 1) Try.prog l #[v] W1 fun e W' => (e = .returned (.bool true) ∧ J s' W' ∧ Kc W1 W') ∨ (e = .returned (.bool false) ∧ Jx W'))
    (W : World) (hm : W.cell? ⟨bm, 0, none⟩ = some (.int .i64 q)) (hb : W.cell? ⟨bn, 0, none⟩ = some (.int .i64 N)) (h0 : J 0 W) :
    CallsIn Fence.wide n Try.prog 48 #[.func (.yield l) #[] #[], .pointer (some ⟨bm, 0, none⟩), .pointer (some ⟨bn, 0, none⟩)] W fun e W' => (∃ v, e = .returned v) ∧ (J (allPk N (q + 1)).length W' ∨ Jx W') := by
  have HB : Hid (W.cell? ⟨bn, 0, none⟩ = some (.int .i64 N)) := hb
  have HJ : Hid (∀ s A B, J s A → Ext A B → J s B) := hJ
  have HY : Hid (∀ s s' v W1, J s W1 → PkAt (allPk N (q + 1)) s s' v W1 → YieldAt Fence.wide (n - 1) Try.prog l #[v] W1 fun e W' => (e = .returned (.bool true) ∧ J s' W' ∧ Kc W1 W') ∨ (e = .returned (.bool false) ∧ Jx W')) := hY
  clear hb hJ hY
  refine callsIn_of_wp Try.func48 rfl trivial ?_ rfl
  simp only [Try.ntmps48, List.size_toArray, List.length_cons, List.length_nil, Nat.reduceAdd, Nat.reduceSub, Array.replicate_succ, Array.replicate_zero, List.push_toArray, List.append_toArray, List.nil_append, List.cons_append]
  gi_wp2
  gi_loopw [11] (fun i wr => ∃ k : Nat, k ≤ q + 1 ∧ i = .int .i64 k ∧ J (allPk N k).length wr ∧ Kc W wr) (fun i _ => q + 1 - (intOf i).toNat)
  case atStart => exact ⟨0, Nat.zero_le _, rfl, h0, Kc.refl _⟩
  case round =>
    obtain ⟨k, hk, rfl, hJk, hkc⟩ := hrel
    by_cases hlt : k < q + 1
    · have hcn := hkc.keeps HB.out
      have hki : (k : Int) < (q : Int) + 1 := by omega
      have HA := All_ok N k wr hN (by omega)
      gi_wp2_with (first | (refine ⟨trivial, ?_⟩; gi_at_call 49; refine (callsIn_wide.2 HA).mono ?_) | fail)
      rintro e w2 ⟨v, vs, rfl, hP⟩
      obtain ⟨al, cl, hv, _⟩ := own_slice hP.top
      subst hv
      obtain ⟨A, C, hMat⟩ := hP.mat
      have hx2 := hP.ext
      obtain ⟨m, hm2⟩ : ∃ m, (pk N k 0).length = m := ⟨_, rfl⟩
      have HML : Hid ((pk N k 0).length = m) := hm2
      have hmb : m ≤ 9223372036854775807 := by
        have := cho_le N (by omega) k (by omega)
        rw [← hm2, pk_len]
        omega
      rw [hm2] at hMat
      rw [hm2]
      have HMT : Hid (Mat w2 al m A (pkL (pk N k 0)) C (pkM (pk N k 0))) := hMat
      have HJ2 : Hid (J (allPk N k).length w2) := HJ.out _ _ _ hJk hx2
      have HK2 : Hid (Kc W w2) := hkc.trans (Kc.ext hx2)
      clear hP hMat hm2 hJk
      gi_wp2_with fail
      gi_loopw [22] (fun i wr => ∃ j : Nat, j ≤ m ∧ i = .int .i64 j ∧ J ((allPk N k).length + j) wr ∧ Kc w2 wr) (fun i _ => m - (intOf i).toNat)
      case atStart => exact ⟨0, Nat.zero_le _, rfl, HJ2.out, Kc.refl _⟩
      case round =>
        obtain ⟨j, hj, rfl, hJj, hkj⟩ := hrel
        by_cases hjl : j < m
        · obtain ⟨⟨b, o, hal, hc⟩, hI⟩ := (hkj.mat HMT.out) j hjl
          subst hal
          obtain ⟨p, hp⟩ : ∃ p, (pk N k 0)[j]? = some p := ⟨_, List.getElem?_eq_getElem (by rw [HML.out]; exact hjl)⟩
          have hpl : pkL (pk N k 0) j = p.length := by unfold pkL; rw [hp]; rfl
          have hpm : pkM (pk N k 0) j = pkF p := by unfold pkM; rw [hp]; rfl
          rw [hpl] at hc hI
          rw [hpm] at hI
          have hPx : PkAt (allPk N (q + 1)) ((allPk N k).length + j) ((allPk N k).length + j + 1) (.slice (A j) p.length (C j)) wr := ⟨rfl, p, A j, C j, by rw [allPk_at hlt (by rw [HML.out]; exact hjl)]; exact hp, rfl, hI⟩
          obtain ⟨fn, tmps, assign, body, hy, hR⟩ := HY.out _ _ _ wr hJj hPx
          have hji : (j : Int) < (m : Int) := by omega
          clear hPx hI hp hpl hpm
          gi_wp2_with fail
          refine hR.mono ?_
          rintro e W3 (⟨rfl, hJ3, hk3⟩ | ⟨rfl, hJx3⟩)
          · gi_wp2_with fail
            go_roundw
            case rel => exact ⟨j + 1, by omega, by go_num, hJ3, hkj.trans hk3⟩
            case measure => simp [intOf]; omega
          · gi_wp2_with fail
            refine bodyPost_ret (results_none rfl _ _ _) rfl ?_
            exact ⟨⟨_, rfl⟩, .inr hJx3⟩
        · obtain rfl : j = m := by omega
          gi_wp2_with fail
          go_roundw
          case rel => exact ⟨k + 1, by omega, by go_num, by
            show J (allPk N k ++ pk N k 0).length wr
            rw [List.length_append, HML.out]
            exact hJj, HK2.out.trans hkj⟩
          case measure => simp [intOf]; omega
    · obtain rfl : k = q + 1 := by omega
      gi_wp2
      go_end0
      exact ⟨⟨_, rfl⟩, .inl hJk⟩
end Go.Proofs.Ythgbfakmkdifbaa
/-
  The picks that Gather tries, and the places that are gone then: plain facts.
-/
namespace Go.Proofs.Ythgbfakmkdifbaa
open Go.RowKit Go.Deep E
theorem plcs_len (n : Nat) (T : Nat → Bool) : (plcs n T true).length + (plcs n T false).length = n := by
  have h := split_len n fun r => T r == true
  have e : (fun k => !(T k == true)) = fun r => T r == false := by
    funext r
    cases T r <;> rfl
  unfold plcs
  rw [← e]
  exact h
theorem plcs_at {n : Nat} {T : Nat → Bool} {b : Bool} {i : Nat} (h : i < (plcs n T b).length) : (plcs n T b).getD i 0 < n ∧ T ((plcs n T b).getD i 0) = b := by
  have := PL_at h
  exact ⟨this.1, eq_of_beq this.2⟩
/-- the places that are gone where a pick is taken as bad -/
def badL (n : Nat) (T : Nat → Bool) (p : List Nat) : List Nat := p.map fun i => (plcs n T false).getD i 0
def goneL (n : Nat) (T : Nat → Bool) (p : List Nat) : List Nat := plcs n T true ++ badL n T p
theorem allPk_in {N : Nat} {p : List Nat} : ∀ {m : Nat}, p ∈ allPk N m → ∃ k, k < m ∧ p ∈ pk N k 0
  | 0, h => by simp [allPk] at h
  | m + 1, h => by
    rcases List.mem_append.1 (show p ∈ allPk N m ++ pk N m 0 from h) with h | h
    · obtain ⟨k, h1, h2⟩ := allPk_in h
      exact ⟨k, by omega, h2⟩
    · exact ⟨m, by omega, h⟩
theorem pick_facts {N m : Nat} {p : List Nat} (h : p ∈ allPk N m) : p.length < m ∧ (∀ i, i < p.length → p.getD i 0 < N) ∧ ∀ i j, i < j → j < p.length → p.getD i 0 < p.getD j 0 := by
  obtain ⟨k, h1, h2⟩ := allPk_in h
  obtain ⟨h3, h4⟩ := pk_mem N k 0 p h2
  rw [Nat.zero_add] at h4
  have hb := asc_bd p 0 N h4
  have e : ∀ i, pkF p i = ((p.getD i 0 : Nat) : Int) := fun i => by unfold pkF; rw [List.getD_eq_getElem?_getD]
  refine ⟨by omega, fun i hi => ?_, fun i j hij hj => ?_⟩
  · have := (hb i hi).2.1
    rw [e] at this
    omega
  · have := (hb j hj).2.2 i hij
    rw [e, e] at this
    omega
theorem badL_len (n : Nat) (T : Nat → Bool) (p : List Nat) : (badL n T p).length = p.length := List.length_map _
theorem badL_at {n : Nat} {T : Nat → Bool} {p : List Nat} {i : Nat} (hi : i < p.length) : (badL n T p).getD i 0 = (plcs n T false).getD (p.getD i 0) 0 := by
  unfold badL
  rw [List.getD_eq_getElem?_getD, List.getElem?_map, List.getElem?_eq_getElem hi]
  simp only [Option.map_some, Option.getD_some]
  rw [List.getD_eq_getElem?_getD (l := p), List.getElem?_eq_getElem hi]
  rfl
theorem goneL_len (n : Nat) (T : Nat → Bool) (p : List Nat) : (goneL n T p).length = (plcs n T true).length + p.length := by unfold goneL; rw [List.length_append, badL_len]
theorem goneL_lo {n : Nat} {T : Nat → Bool} {p : List Nat} {i : Nat} (hi : i < (plcs n T true).length) : (goneL n T p).getD i 0 = (plcs n T true).getD i 0 := by
  unfold goneL
  rw [List.getD_eq_getElem?_getD, List.getD_eq_getElem?_getD, List.getElem?_append_left hi]
theorem goneL_hi {n : Nat} {T : Nat → Bool} {p : List Nat} {i : Nat} : (goneL n T p).getD ((plcs n T true).length + i) 0 = (badL n T p).getD i 0 := by
  unfold goneL
  rw [List.getD_eq_getElem?_getD, List.getD_eq_getElem?_getD, List.getElem?_append_right (by omega), Nat.add_sub_cancel_left]
section
variable {n m : Nat} {T : Nat → Bool} {p : List Nat}
theorem goneL_lt (hp : p ∈ allPk (plcs n T false).length m) {i : Nat} (hi : i < (goneL n T p).length) : (goneL n T p).getD i 0 < n := by
  have hf := pick_facts hp
  rw [goneL_len] at hi
  by_cases e : i < (plcs n T true).length
  · rw [goneL_lo e]; exact (plcs_at e).1
  · obtain ⟨j, rfl⟩ : ∃ j, i = (plcs n T true).length + j := ⟨i - (plcs n T true).length, by omega⟩
    rw [goneL_hi, badL_at (by omega)]
    exact (plcs_at (hf.2.1 j (by omega))).1
theorem goneL_ne (hp : p ∈ allPk (plcs n T false).length m) {i j : Nat} (hij : i < j) (hj : j < (goneL n T p).length) : (goneL n T p).getD i 0 ≠ (goneL n T p).getD j 0 := by
  have hf := pick_facts hp
  rw [goneL_len] at hj
  by_cases e : j < (plcs n T true).length
  · rw [goneL_lo e, goneL_lo (by omega)]
    exact Nat.ne_of_lt (PL_lt hij e)
  · obtain ⟨y, rfl⟩ : ∃ y, j = (plcs n T true).length + y := ⟨j - (plcs n T true).length, by omega⟩
    have hy := hf.2.1 y (by omega)
    rw [goneL_hi (i := y), badL_at (by omega)]
    by_cases e2 : i < (plcs n T true).length
    · rw [goneL_lo e2]
      intro q
      have h1 := (plcs_at e2).2
      have h2 := (plcs_at hy).2
      rw [q, h2] at h1
      cases h1
    · obtain ⟨x, rfl⟩ : ∃ x, i = (plcs n T true).length + x := ⟨i - (plcs n T true).length, by omega⟩
      rw [goneL_hi (i := x), badL_at (by omega)]
      exact Nat.ne_of_lt (PL_lt (hf.2.2 x y (by omega) (by omega)) hy)
end
theorem hasB_mem (l : List Nat) (r : Nat) : hasB l.length (fun i => ((l.getD i 0 : Nat) : Int)) r = decide (r ∈ l) := by
  rw [Bool.eq_iff_iff, hasB_iff, decide_eq_true_eq]
  constructor
  · rintro ⟨i, hi, e⟩
    have e2 : r = l.getD i 0 := by omega
    rw [e2, List.getD_eq_getElem?_getD, List.getElem?_eq_getElem hi]
    exact List.getElem_mem hi
  · intro h
    obtain ⟨i, hi, e⟩ := List.getElem_of_mem h
    refine ⟨i, hi, ?_⟩
    rw [List.getD_eq_getElem?_getD, List.getElem?_eq_getElem hi, Option.getD_some, e]
end Go.Proofs.Ythgbfakmkdifbaa
/-
  stripe.Gather where its columns fit: what it tells, as plain functions.
-/
namespace Go.Proofs.Ythgbfakmkdifbaa
open Go.RowKit Go.Shelf Go.Deep E
attribute [local go_sem] Oper.semAt_some
theorem picks_seq (n : Nat) (hn : 1 ≤ n) (bm bn N q : Nat) (hN : N ≤ 12) (hq : q ≤ N) (w : World) (hm : w.cell? ⟨bm, 0, none⟩ = some (.int .i64 q)) (hb : w.cell? ⟨bn, 0, none⟩ = some (.int .i64 N)) :
    RgSeq Fence.wide n Try.prog 48 #[.pointer (some ⟨bm, 0, none⟩), .pointer (some ⟨bn, 0, none⟩)] (PkAt (allPk N (q + 1))) 0 (allPk N (q + 1)).length w := fun l J Jx W hk hJ hY h0 =>
  picks1_in n hn l bm bn N q hN hq J Jx hJ hY W (hk.keeps hm) (hk.keeps hb) h0
set_option maxRecDepth 100000 in
theorem stPicks_any (N q : Nat) (w : World) : Calls Try.prog 32 #[.int .i64 N, .int .i64 q] w fun e w' => e = .returned (.func (.func 48) #[] #[.pointer (some ⟨w.heap.size + 1, 0, none⟩), .pointer (some ⟨w.heap.size, 0, none⟩)]) ∧ w' = (w.alloc (.cells #[.int .i64 N] 3)).alloc (.cells #[.int .i64 q] 3) := by
  go_enter Try.func32, Try.ntmps32
  go_wp2_with fail
  go_ret
  exact ⟨by simp, rfl⟩
/-- the data, if these are gone -/
def gatP (d p c : Nat) (T : Nat → Bool) (L : Nat → Nat) (F : Nat → Nat → E) (k : List Nat) : Nat → E := gatD d p c (fun r => decide (r ∈ goneL (colN d p c) T k)) L F
def sumB4 (c : Nat) (s : Nat → Int) (B : Nat → E) : Bool := (List.range 4).all fun i => decide (moreV (128 * c) (fun _ => 0) B i = s i)
/-- the first pick with which the data have the sum -/
def gatF (d p c : Nat) (T : Nat → Bool) (L : Nat → Nat) (F : Nat → Nat → E) (s : Nat → Int) : Option (List Nat) :=
  (allPk (plcs (colN d p c) T false).length (p - (plcs (colN d p c) T true).length + 1)).find? fun k => sumB4 c s (gatP d p c T L F k)
def GatRes (w' : World) (e : Ending) (d p c n : Nat) (T : Nat → Bool) (L : Nat → Nat) (F : Nat → Nat → E) (s : Nat → Int) : Prop :=
  match gatF d p c T L F s with
  | none => e = .returned (.tuple #[.slice none 0 0, .slice none 0 0, .int .i64 11])
  | some k => ∃ ad ab cb, e = .returned (.tuple #[.slice ad n n, .slice ab k.length cb, .int .i64 0]) ∧ Byts w' ad n (gatP d p c T L F k) ∧ Ints w' ab k.length fun i => (((badL (colN d p c) T k).getD i 0 : Nat) : Int)
theorem load_oneS {w : World} {ty : TypeId} {d : TypeDesc} (hu : Try.prog.underlying ty = some d) (hd : d.isRow = false) {ad : Addr} {v : Value} (h : w.cell? ad = some v) : (Instr.loadAt ty (.pointer (some ad))).run Try.prog w = .ok v w := by
  have hagg : (isAgg ty).run Try.prog w = .ok false w := by
    unfold isAgg
    rw [Sem.run_bind, run_underlying hu w]
    cases d <;> simp_all
  simp [Instr.loadAt, Instr.sureAddr, loadVar, Sem.run_bind, hagg, h]
/-- the values of the statement that lays all columns, by what was laid -/
def r9V (ap ac : Option Addr) (np cp cm p M : Nat) (g : Nat × Nat × Nat) : Nat → Value
  | 0 => .slice ap np cp
  | 1 => .int .i64 p
  | 2 => .slice (some ⟨g.1, 0, none⟩) np np
  | 3 => .slice ac np cm
  | 4 => .int .i64 M
  | 5 => .slice (some ⟨g.2.1, 0, none⟩) np np
  | 6 => .pointer (some ⟨g.2.2, 0, none⟩)
  | _ => undef
theorem r9V_2 {ap ac : Option Addr} {np cp cm p M x j : Nat} {g : Nat × Nat × Nat} (h : j ≠ 2) : r9V ap ac np cp cm p M (x, g.2) j = r9V ap ac np cp cm p M g j := by
  unfold r9V
  split <;> first | rfl | exact absurd rfl h
theorem r9V_5 {ap ac : Option Addr} {np cp cm p M x j : Nat} {g : Nat × Nat × Nat} (h : j ≠ 5) : r9V ap ac np cp cm p M (g.1, x, g.2.2) j = r9V ap ac np cp cm p M g j := by
  unfold r9V
  split <;> first | rfl | exact absurd rfl h
theorem r9V_6 {ap ac : Option Addr} {np cp cm p M x j : Nat} {g : Nat × Nat × Nat} (h : j ≠ 6) : r9V ap ac np cp cm p M (g.1, g.2.1, x) j = r9V ap ac np cp cm p M g j := by
  unfold r9V
  split <;> first | rfl | exact absurd rfl h
/-- what lies there -/
structure R9J (W6 : World) (np M : Nat) (A : Nat → Option Addr) (L C : Nat → Nat) (F Z : Nat → Nat → E) (g : Nat × Nat × Nat) (Ls : Nat → Bool) (w' : World) : Prop where
  ext : Ext W6 w'
  dat : Ls 2 = true → Cols w' (some ⟨g.1, 0, none⟩) np A L C F
  fil : Ls 5 = true → ∃ w0 G, BldB w0 w' g.2.1 np M np Z G
  bx : Ls 6 = true → w'.heap[g.2.2]? = some (.cells #[.slice none 0 0] 23 (0, 0)) ∧ W6.heap.size ≤ g.2.2
theorem Ext.cols2 {w w' : World} (x : Ext w w') {B n M : Nat} {Z : Nat → Nat → E} (h : ∃ w0 G, BldB w0 w B n M n Z G) : ∃ w0 G, BldB w0 w' B n M n Z G := by
  obtain ⟨w0, G, h⟩ := h
  exact ⟨w0, G, h.grow x⟩
theorem BldB.cols_set {w0 w : World} {B n M : Nat} {Z : Nat → Nat → E} {G : Nat → Nat} (h : BldB w0 w B n M n Z G) {g : Nat} {cs : Array Value} {t : TypeId} (hg : w.heap[g]? = some (.cells cs t (0, 0))) (h1 : t ≠ 22) (h2 : t ≠ 5) (v : Value) : Cols (w.setCell ⟨g, 0, none⟩ v) (some ⟨B, 0, none⟩) n (fun r => some ⟨G r, 0, none⟩) (fun _ => M) (fun _ => M) Z := by
  have ne : ∀ {b m : Nat} {e : TypeId} {f : Nat → Value}, w.rowIs b e m f → t ≠ e → b ≠ g := fun {b m e f} hr hne q => by
    subst q
    obtain ⟨c, hc, _⟩ := hr
    rw [hg] at hc
    cases hc
    exact hne rfl
  intro r hr
  have ht := h.top.setOther (a := ⟨g, 0, none⟩) (ne h.top h1) v
  have hw := (h.row r hr).setOther (a := ⟨g, 0, none⟩) (ne (h.row r hr) h2) v
  exact ⟨⟨B, 0, rfl, by rw [Nat.zero_add, ht.cell hr, if_pos hr]⟩, Byts.row hw (Nat.le_refl _)⟩
theorem R9J.next {W6 w' w'' : World} {np M : Nat} {A : Nat → Option Addr} {L C : Nat → Nat} {F Z : Nat → Nat → E} {g : Nat × Nat × Nat} {Ls : Nat → Bool} (h : R9J W6 np M A L C F Z g Ls w') (x : Ext w' w'') {i : Nat} (h2 : i ≠ 2) (h5 : i ≠ 5) (h6 : i ≠ 6) : R9J W6 np M A L C F Z g (updB Ls i) w'' :=
  ⟨h.ext.trans x, fun hl => (h.dat (by unfold updB at hl; rw [if_neg (by omega)] at hl; exact hl)).ext x, fun hl => x.cols2 (h.fil (by unfold updB at hl; rw [if_neg (by omega)] at hl; exact hl)), fun hl => ⟨extBlk x (h.bx (by unfold updB at hl; rw [if_neg (by omega)] at hl; exact hl)).1, (h.bx (by unfold updB at hl; rw [if_neg (by omega)] at hl; exact hl)).2⟩⟩
theorem zeroV_of {P : Program} {t : TypeId} {v : Value} (h : (P.info? t).map (fun i => i.zero) = some (some v)) : ∀ w, (zeroValue t).run P w = .ok v w := fun w => by
  cases hq : P.info? t with
  | none => simp [hq] at h
  | some i =>
    simp [hq] at h
    simp [zeroValue, typeInfo, hq, h]
theorem wp_allocs1 {P : Program} {Q : Exit → Act → World → Prop} {o : Oper} {a : Act} {w : World} {K : Act → World → Prop} (t : TypeId) (ho : o.op = .alloc t) (hz : ∀ w, (zeroValue t).run P w = .ok (.slice none 0 0) w) (h : K (a.put o.dst (.pointer (some ⟨w.heap.size, 0, none⟩))) (w.alloc (.cells #[.slice none 0 0] t))) : Oper.wp P o a w K Q := by
  unfold Oper.wp execOp
  simp only [ho]
  simp [Instr.alloc, hz, go_sem]
  exact h
theorem gat_none {d p c : Nat} {T : Nat → Bool} {L : Nat → Nat} {F : Nat → Nat → E} {s : Nat → Int} {All : List (List Nat)} (hA : All = allPk (plcs (colN d p c) T false).length (p - (plcs (colN d p c) T true).length + 1)) (h : ∀ i k, i < All.length → All[i]? = some k → sumB4 c s (gatP d p c T L F k) = false) : gatF d p c T L F s = none := by
  unfold gatF
  rw [← hA, List.find?_eq_none]
  intro k hk
  obtain ⟨i, hi, e⟩ := List.getElem_of_mem hk
  rw [h i k hi (by rw [List.getElem?_eq_getElem hi, e])]
  simp
theorem gat_some {d p c : Nat} {T : Nat → Bool} {L : Nat → Nat} {F : Nat → Nat → E} {s : Nat → Int} {All : List (List Nat)} {x : Nat} {k : List Nat} (hA : All = allPk (plcs (colN d p c) T false).length (p - (plcs (colN d p c) T true).length + 1)) (h : ∀ i k, i < x → All[i]? = some k → sumB4 c s (gatP d p c T L F k) = false) (hx : All[x]? = some k) (hk : sumB4 c s (gatP d p c T L F k) = true) : gatF d p c T L F s = some k := by
  unfold gatF
  rw [← hA]
  refine List.find?_eq_some_iff_getElem.2 ⟨hk, x, (List.getElem?_eq_some_iff.1 hx).1, (List.getElem?_eq_some_iff.1 hx).2, fun j hj => ?_⟩
  rw [h j _ hj (List.getElem?_eq_getElem _)]
  rfl
/-- what a round that has found the data leaves -/
structure GatX (w : World) (d p c n : Nat) (T : Nat → Bool) (L : Nat → Nat) (F : Nat → Nat → E) (s : Nat → Int) (g : Nat) (W : World) : Prop where
  ext : Below w.heap.size w W
  res : ∃ k ad ab cb, gatF d p c T L F s = some k ∧ W.heap[g]? = some (.cells #[.slice ad n n] 22 (0, 0)) ∧ W.heap[g + 1]? = some (.cells #[.slice ab k.length cb] 30 (0, 0)) ∧ W.heap[g + 1 + 1]? = some (.cells #[.int .i64 0] 24 (0, 0)) ∧
    Byts W ad n (gatP d p c T L F k) ∧ Ints W ab k.length fun i => (((badL (colN d p c) T k).getD i 0 : Nat) : Int)
theorem Kc.byts {W W' : World} (h : Kc W W') {a : Option Addr} {n : Nat} {f : Nat → E} (hi : Byts W a n f) : Byts W' a n f := fun i hl => by
  obtain ⟨b, o, h1, h2⟩ := hi i hl
  exact ⟨b, o, h1, h.keeps h2⟩
theorem Kc.cols {W W' : World} (h : Kc W W') {a : Option Addr} {n : Nat} {A : Nat → Option Addr} {L C : Nat → Nat} {F : Nat → Nat → E} (hm : Cols W a n A L C F) : Cols W' a n A L C F := fun r hr => by
  obtain ⟨⟨b, o, h1, h2⟩, h3⟩ := hm r hr
  exact ⟨⟨b, o, h1, h.keeps h2⟩, h.byts h3⟩
theorem Kc.els {W W' : World} (h : Kc W W') {a : Option Addr} {sz : Nat} {L : List (List Value)} (hm : Els W a sz L) : Els W' a sz L := fun i cs hi => by
  obtain ⟨b, o, h1, h2⟩ := hm i cs hi
  exact ⟨b, o, h1, fun j v hv => h.keeps (h2 j v hv)⟩
theorem GatX.kb {w A B : World} {d p c n : Nat} {T : Nat → Bool} {L : Nat → Nat} {F : Nat → Nat → E} {s : Nat → Int} {g n₀ : Nat} (h : GatX w d p c n T L F s g A) (k : Kb n₀ A B) (hn : w.heap.size ≤ n₀) : GatX w d p c n T L F s g B := by
  obtain ⟨h1, q, ad, ab, cb, h2, h3, h4, h5, h6, h7⟩ := h
  exact ⟨h1.trans (k.2.mono hn), q, ad, ab, cb, h2, k.1.block _ _ h3 rfl, k.1.block _ _ h4 rfl, k.1.block _ _ h5 rfl, k.1.byts h6, k.1.ints h7⟩
/-- the values of the statement that takes the data without what is gone -/
def r13V (va vc vp vl vb : Value) (g : Nat × Value × Value) : Nat → Value
  | 0 => va
  | 1 => vc
  | 2 => vp
  | 3 => vl
  | 4 => vb
  | 5 => .slice (some ⟨g.1, 0, none⟩) 2 2
  | 6 => g.2.1
  | 7 => g.2.2
  | _ => undef
theorem r13V_5 {va vc vp vl vb : Value} {x j : Nat} {g : Nat × Value × Value} (h : j ≠ 5) : r13V va vc vp vl vb (x, g.2) j = r13V va vc vp vl vb g j := by
  unfold r13V
  split <;> first | rfl | exact absurd rfl h
theorem r13V_6 {va vc vp vl vb x : Value} {j : Nat} {g : Nat × Value × Value} (h : j ≠ 6) : r13V va vc vp vl vb (g.1, x, g.2.2) j = r13V va vc vp vl vb g j := by
  unfold r13V
  split <;> first | rfl | exact absurd rfl h
theorem r13V_7 {va vc vp vl vb x : Value} {j : Nat} {g : Nat × Value × Value} (h : j ≠ 7) : r13V va vc vp vl vb (g.1, g.2.1, x) j = r13V va vc vp vl vb g j := by
  unfold r13V
  split <;> first | rfl | exact absurd rfl h
/-- what lies there -/
structure R13J (Wa : World) (M1 : World → Nat → Prop) (M2 M3 : World → Value → Prop) (g : Nat × Value × Value) (Ls : Nat → Bool) (w' : World) : Prop where
  ext : Ext Wa w'
  m1 : Ls 5 = true → ∀ Y, Ext w' Y → M1 Y g.1
  m2 : Ls 6 = true → ∀ Y, Ext w' Y → M2 Y g.2.1
  m3 : Ls 7 = true → ∀ Y, Ext w' Y → M3 Y g.2.2
theorem updB_ne {Ls : Nat → Bool} {i j : Nat} (h : j ≠ i) (hl : updB Ls i j = true) : Ls j = true := by
  unfold updB at hl
  rwa [if_neg h] at hl
theorem R13J.next {Wa w' w'' : World} {M1 : World → Nat → Prop} {M2 M3 : World → Value → Prop} {g : Nat × Value × Value} {Ls : Nat → Bool} (h : R13J Wa M1 M2 M3 g Ls w') (x : Ext w' w'') {i : Nat} (hi : i < 5) : R13J Wa M1 M2 M3 g (updB Ls i) w'' :=
  ⟨h.ext.trans x, fun hl Y y => h.m1 (updB_ne (by omega) hl) Y (x.trans y), fun hl Y y => h.m2 (updB_ne (by omega) hl) Y (x.trans y), fun hl Y y => h.m3 (updB_ne (by omega) hl) Y (x.trans y)⟩
theorem R13J.at5 {Wa w' w'' : World} {M1 : World → Nat → Prop} {M2 M3 : World → Value → Prop} {g : Nat × Value × Value} {Ls : Nat → Bool} (h : R13J Wa M1 M2 M3 g Ls w') (x : Ext w' w'') (b : Nat) (hb : ∀ Y, Ext w'' Y → M1 Y b) : R13J Wa M1 M2 M3 (b, g.2) (updB Ls 5) w'' :=
  ⟨h.ext.trans x, fun _ => hb, fun hl Y y => h.m2 (updB_ne (by omega) hl) Y (x.trans y), fun hl Y y => h.m3 (updB_ne (by omega) hl) Y (x.trans y)⟩
theorem R13J.at6 {Wa w' w'' : World} {M1 : World → Nat → Prop} {M2 M3 : World → Value → Prop} {g : Nat × Value × Value} {Ls : Nat → Bool} (h : R13J Wa M1 M2 M3 g Ls w') (x : Ext w' w'') (v : Value) (hb : ∀ Y, Ext w'' Y → M2 Y v) : R13J Wa M1 M2 M3 (g.1, v, g.2.2) (updB Ls 6) w'' :=
  ⟨h.ext.trans x, fun hl Y y => h.m1 (updB_ne (by omega) hl) Y (x.trans y), fun _ => hb, fun hl Y y => h.m3 (updB_ne (by omega) hl) Y (x.trans y)⟩
theorem R13J.at7 {Wa w' w'' : World} {M1 : World → Nat → Prop} {M2 M3 : World → Value → Prop} {g : Nat × Value × Value} {Ls : Nat → Bool} (h : R13J Wa M1 M2 M3 g Ls w') (x : Ext w' w'') (v : Value) (hb : ∀ Y, Ext w'' Y → M3 Y v) : R13J Wa M1 M2 M3 (g.1, g.2.1, v) (updB Ls 7) w'' :=
  ⟨h.ext.trans x, fun hl Y y => h.m1 (updB_ne (by omega) hl) Y (x.trans y), fun hl Y y => h.m2 (updB_ne (by omega) hl) Y (x.trans y), fun _ => hb⟩
theorem row1_set {w : World} {g : Nat} {a : Value} {t : TypeId} (h : w.heap[g]? = some (.cells #[a] t (0, 0))) (x : Value) : (w.setCell ⟨g, 0, none⟩ x).heap[g]? = some (.cells #[x] t (0, 0)) := by
  unfold World.setCell
  simp [Array.getElem?_modify, h]
theorem row1_oth {w : World} {g k : Nat} (h : k ≠ g) (x : Value) : (w.setCell ⟨g, 0, none⟩ x).heap[k]? = w.heap[k]? := Below.heap_setCell w ⟨g, 0, none⟩ x k h
theorem row1_cell {w : World} {g : Nat} {a : Value} {t : TypeId} (h : w.heap[g]? = some (.cells #[a] t (0, 0))) : w.cell? ⟨g, 0, none⟩ = some a := by rw [cell_of_row _ _ 0 _ _ _ h]; rfl
theorem row1_any {w : World} {g o : Nat} {a v : Value} {t : TypeId} (h : w.heap[g]? = some (.cells #[a] t (0, 0))) (hv : w.cell? ⟨g, o, none⟩ = some v) : v = a := by
  rw [cell_of_row _ _ o _ _ _ h] at hv
  match o, hv with
  | 0, hv => simpa using hv.symm
  | o + 1, hv => simp at hv
theorem GatX.make {w Wv : World} {d p c n : Nat} {T : Nat → Bool} {L : Nat → Nat} {F : Nat → Nat → E} {s : Nat → Int} {g gb : Nat} {k : List Nat} {ad : Option Addr} (cb kl : Nat) (hw : Below w.heap.size w Wv) (hgf : gatF d p c T L F s = some k) (hkl : k.length = kl)
    (h1 : Wv.heap[g]? = some (.cells #[.slice none 0 0] 22 (0, 0))) (h2 : Wv.heap[g + 1]? = some (.cells #[.slice none 0 0] 30 (0, 0))) (h3 : Wv.heap[g + 1 + 1]? = some (.cells #[.int .i64 0] 24 (0, 0))) (hg : w.heap.size ≤ g)
    (hb : Byts Wv ad n (gatP d p c T L F k)) (hgb : g + 2 < gb) (hi : Ints Wv (some ⟨gb, 0, none⟩) kl fun i => (((badL (colN d p c) T k).getD i 0 : Nat) : Int)) :
    GatX w d p c n T L F s g (((Wv.setCell ⟨g, 0, none⟩ (.slice ad n n)).setCell ⟨g + 1, 0, none⟩ (.slice (some ⟨gb, 0, none⟩) kl cb)).setCell ⟨g + 1 + 1, 0, none⟩ (.int .i64 0)) := by
  subst hkl
  have ho : ∀ b o v, Wv.cell? ⟨b, o, none⟩ = some v → b ≠ g → b ≠ g + 1 → b ≠ g + 1 + 1 → (((Wv.setCell ⟨g, 0, none⟩ (.slice ad n n)).setCell ⟨g + 1, 0, none⟩ (.slice (some ⟨gb, 0, none⟩) k.length cb)).setCell ⟨g + 1 + 1, 0, none⟩ (.int .i64 0)).cell? ⟨b, o, none⟩ = some v := fun b o v hv n1 n2 n3 => by
    rw [cell_other _ ⟨g + 1 + 1, 0, none⟩ ⟨b, o, none⟩ _ n3, cell_other _ ⟨g + 1, 0, none⟩ ⟨b, o, none⟩ _ n2, cell_other _ ⟨g, 0, none⟩ ⟨b, o, none⟩ _ n1]
    exact hv
  refine ⟨((hw.setCell (show w.heap.size ≤ g from hg) _).setCell (show w.heap.size ≤ g + 1 by omega) _).setCell (show w.heap.size ≤ g + 1 + 1 by omega) _, k, ad, some ⟨gb, 0, none⟩, cb, hgf, ?_, ?_, ?_, fun i hl => ?_, fun i hl => ?_⟩
  · rw [row1_oth (by omega), row1_oth (by omega)]
    exact row1_set h1 _
  · rw [row1_oth (by omega)]
    exact row1_set ((row1_oth (by omega) _).trans h2) _
  · exact row1_set ((row1_oth (by omega) _).trans ((row1_oth (by omega) _).trans h3)) _
  · obtain ⟨b, o, e, hv⟩ := hb i hl
    refine ⟨b, o, e, ho _ _ _ hv (fun q => ?_) (fun q => ?_) (fun q => ?_)⟩
    · subst q; have := row1_any h1 hv; cases this
    · subst q; have := row1_any h2 hv; cases this
    · subst q; have := row1_any h3 hv; cases this
  · obtain ⟨b, o, e, hv⟩ := hi i hl
    cases e
    exact ⟨_, _, rfl, ho _ _ _ hv (by omega) (by omega) (by omega)⟩
/-- a slice up to an index, nothing behind it shared -/
theorem sub_hm {P : Program} {T t : TypeId} (hT : P.underlying T = some (.slice t)) (hs : P.cellsOf t = 1) (a : Option Addr) (l c m : Nat) (h : m ≤ c) (w : World) :
    (Instr.slice T (.slice a l c) none (some (.int .i64 m)) (some (.int .i64 m))).run P w = .ok (.slice a m m) w := by
  have hT' : P.underlying T = some (.slice (P.elem T)) := by simp [Program.elem, hT]
  have he : P.elem T = t := by simp [Program.elem, hT]
  rw [run_slice_hm (P := P) w T _ l c hT' .i64 .i64 m m (by omega) (by omega) (by omega), he]
  have h3 : (sizeOf t).run P w = .ok 1 w := by
    unfold Program.cellsOf at hs
    cases hq : P.info? t with
    | none => simp [hq] at hs
    | some i =>
      simp [hq] at hs
      simp [sizeOf, typeInfo, hq, hs]
  rw [h3]
  have ha : ∀ a : Option Addr, a.map (·.add 0) = a := fun a => by cases a <;> simp [Addr.add]
  simp [Result.andThen, sliced]
  exact fun _ => ha a
theorem loadVar_one {w : World} {ty : TypeId} {d : TypeDesc} (hu : Try.prog.underlying ty = some d) (hd : d.isRow = false) {ad : Addr} {v : Value} (h : w.cell? ad = some v) : (loadVar ty ad).run Try.prog w = .ok v w := by
  have hagg : (isAgg ty).run Try.prog w = .ok false w := by
    unfold isAgg
    rw [Sem.run_bind, run_underlying hu w]
    cases d <;> simp_all
  simp [loadVar, Sem.run_bind, hagg, h]
theorem results_cell3 {P : Program} {fn : Func} {p q r : Tmp} {t1 t2 t3 : TypeId} (h : fn.results = #[.cell p t1, .cell q t2, .cell r t3]) (tmps : Array Value) (w : World) (a b c : Addr) {v1 v2 v3 : Value}
    (hp : tmps.getD p undef = .pointer (some a)) (hq : tmps.getD q undef = .pointer (some b)) (hr : tmps.getD r undef = .pointer (some c)) (l1 : (loadVar t1 a).run P w = .ok v1 w) (l2 : (loadVar t2 b).run P w = .ok v2 w) (l3 : (loadVar t3 c).run P w = .ok v3 w) :
    (results fn tmps).run P w = .ok (.tuple #[v1, v2, v3]) w := by
  have hp' : tmps[p]?.getD undef = .pointer (some a) := by simpa using hp
  have hq' : tmps[q]?.getD undef = .pointer (some b) := by simpa using hq
  have hr' : tmps[r]?.getD undef = .pointer (some c) := by simpa using hr
  simp [results, h, hp', hq', hr', asAddr, l1, l2, l3]
/-- three stores, one behind the other -/
theorem three_set {w : World} {g : Nat} {a b c : Value} {t1 t2 t3 : TypeId} (h1 : w.heap[g]? = some (.cells #[a] t1 (0, 0))) (h2 : w.heap[g + 1]? = some (.cells #[b] t2 (0, 0))) (h3 : w.heap[g + 1 + 1]? = some (.cells #[c] t3 (0, 0))) (x y z : Value) :
    (((w.setCell ⟨g, 0, none⟩ x).setCell ⟨g + 1, 0, none⟩ y).setCell ⟨g + 1 + 1, 0, none⟩ z).heap[g]? = some (.cells #[x] t1 (0, 0)) ∧ (((w.setCell ⟨g, 0, none⟩ x).setCell ⟨g + 1, 0, none⟩ y).setCell ⟨g + 1 + 1, 0, none⟩ z).heap[g + 1]? = some (.cells #[y] t2 (0, 0)) ∧ (((w.setCell ⟨g, 0, none⟩ x).setCell ⟨g + 1, 0, none⟩ y).setCell ⟨g + 1 + 1, 0, none⟩ z).heap[g + 1 + 1]? = some (.cells #[z] t3 (0, 0)) := by
  refine ⟨?_, ?_, ?_⟩
  · rw [row1_oth (by omega), row1_oth (by omega)]
    exact row1_set h1 _
  · rw [row1_oth (by omega)]
    exact row1_set ((row1_oth (by omega) _).trans h2) _
  · exact row1_set ((row1_oth (by omega) _).trans ((row1_oth (by omega) _).trans h3)) _
theorem res_three {w : World} {g : Nat} {x y z : Value} (h1 : w.heap[g]? = some (.cells #[x] 22 (0, 0))) (h2 : w.heap[g + 1]? = some (.cells #[y] 30 (0, 0))) (h3 : w.heap[g + 1 + 1]? = some (.cells #[z] 24 (0, 0))) {fn : Func} (h : fn.results = #[.cell 12 22, .cell 13 30, .cell 14 24]) (tmps : Array Value)
    (hp : tmps.getD 12 undef = .pointer (some ⟨g, 0, none⟩)) (hq : tmps.getD 13 undef = .pointer (some ⟨g + 1, 0, none⟩)) (hr : tmps.getD 14 undef = .pointer (some ⟨g + 1 + 1, 0, none⟩)) : (results fn tmps).run Try.prog w = .ok (.tuple #[x, y, z]) w :=
  results_cell3 h tmps w _ _ _ hp hq hr (loadVar_one Try.underlying22 rfl (row1_cell h1)) (loadVar_one Try.underlying30 rfl (row1_cell h2)) (loadVar_one Try.underlying24 rfl (row1_cell h3))
theorem gx_bslice2 {P : Program} {o : Oper} {a : Act} {w w' : World} {v p q : Value} (t : TypeId) (n : Nat) (x y : Operand) (ho : o.op = .buildSlice t n #[(0, x), (1, y)]) (hx : a.eval x = p) (hy : a.eval y = q) (hrun : (Instr.buildSlice t n #[(0, p), (1, q)]).run P w = .ok v w') : (execOp a.eval o).run P w = .ok (.value v) w' := by
  unfold execOp
  simp only [ho, List.map_toArray, List.map_cons, List.map_nil, hx, hy, Sem.run_bind, hrun, Result.andThen_ok, Sem.run_pure]
theorem bslice_two (a b : Option Addr) (n c m k : Nat) (w : World) : (Instr.buildSlice 79 2 #[(0, .slice a n c), (1, .slice b m k)]).run Try.prog w = .ok (.slice (some ⟨w.heap.size, 0, none⟩) 2 2) (w.alloc (.cells #[.slice a n c, .slice b m k] 30)) := by
  simp [Instr.buildSlice, go_sem]
end Go.Proofs.Ythgbfakmkdifbaa
