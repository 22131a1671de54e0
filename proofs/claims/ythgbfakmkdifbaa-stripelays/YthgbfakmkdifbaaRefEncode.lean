/-
  quicksetref.ParEncode at every list of columns and every number: the same plain functions; the world only grows.
-/
import Derived.Test.YthgbfakmkdifbaaChecked
import Derived.WalkKit
import Derived.BigQuiet
import Derived.Deep.QuietTactic
import Derived.Test.YthgbfakmkdifbaaPars
import Derived.Test.YthgbfakmkdifbaaCApp
import Derived.Test.YthgbfakmkdifbaaRefExp
import Derived.Test.YthgbfakmkdifbaaRfs
import Derived.Test.YthgbfakmkdifbaaByb
import Derived.Test.YthgbfakmkdifbaaQuiets
namespace Go.Proofs.Ythgbfakmkdifbaa
open Go.RowKit Go.Deep E
theorem expOf_wt (j i : Nat) (w : World) (hj : j ≤ 15) (hi : i ≤ 15) : Calls Try.prog 46 #[.int .i64 ((j : Int) * (i : Int))] w fun e w' => e = .returned (.int .i64 (ev (wt j i))) ∧ w' = w := by
  have h1 : j * i ≤ 15 * 15 := Nat.mul_le_mul hj hi
  have h := expOf_any (j * i) w (by omega)
  rw [Nat.mod_eq_of_lt (by omega), Int.natCast_mul] at h
  exact h
theorem expOf_wtG (j i : Nat) (w : World) (hj : j ≤ 15) (hi : i ≤ 15) : Calls Try.prog 46 #[.int .i64 ((j : Int) * (i : Int))] w fun e w' => e = .returned (.int .i64 (ev (wt j i))) ∧ Ext w w' :=
  (expOf_wt j i w hj hi).mono fun _ _ h => ⟨h.1, by rw [h.2]; exact Ext.refl _⟩
theorem mulOf_evG (x y : E) (w : World) : Calls Try.prog 45 #[.int .i64 (ev x), .int .i64 (ev y)] w fun e w' => e = .returned (.int .i64 (ev (mu x y))) ∧ Ext w w' :=
  (mulOf_ev x y w).mono fun _ _ h => ⟨h.1, by rw [h.2]; exact Ext.refl _⟩
set_option maxRecDepth 100000 in
set_option maxHeartbeats 1600000 in
theorem ParEncode_own (a : Option Addr) (n c : Nat) (A : Nat → Option Addr) (L C : Nat → Nat) (F : Nat → Nat → E) (p : Int) (w : World) (hn : n ≤ 9223372036854775807) (h : Cols w a n A L C F) :
    Calls Try.prog 27 #[.slice a n c, .int .i64 p] w fun e w' => (ColsRes w' e (encN n L p) (L 0) (enc n F) (encE n L p) ∧ ∀ b l c x, e = .returned (.tuple #[.slice (some b) l c, x]) → w.heap.size ≤ b.block) ∧ OwnRes w w' e (encN n L p) (L 0) (enc n F) (encE n L p) ∧ Ext w w' := by
  have HH : Hid (Cols w a n A L C F) := h
  clear h
  go_enter Try.func27, Try.ntmps27
  go_wp2_with fail
  refine (ParMay_any a n c A L C F _ hn HH.out).mono ?_
  rintro e w1 ⟨rfl, rfl⟩
  cases hM : pmayB n L
  · go_wp2_with fail
    go_ret2
    unfold encN encE encOk
    rw [hM]
    exact ⟨⟨ColsRes.none _ _ _ _, fun _ _ _ _ q => by cases q⟩, OwnRes.none _ _ _ _ _, Ext.refl _⟩
  · cases hP : fromTo 1 3 p
    · have HR : Hid (encN n L p = 0 ∧ encE n L p = 2) := by
        show _ ∧ _
        unfold encN encE encOk
        rw [hM, hP]
        exact ⟨rfl, rfl⟩
      have hpn := fromTo_not hP
      clear hM hP
      by_cases h1 : p < 1
      · go_wp2_with fail
        go_ret2
        rw [HR.out.1, HR.out.2]
        exact ⟨⟨ColsRes.none _ _ _ _, fun _ _ _ _ q => by cases q⟩, OwnRes.none _ _ _ _ _, Ext.refl _⟩
      · have h2 : 3 < p := by omega
        clear hpn
        go_wp2_with fail
        go_ret2
        rw [HR.out.1, HR.out.2]
        exact ⟨⟨ColsRes.none _ _ _ _, fun _ _ _ _ q => by cases q⟩, OwnRes.none _ _ _ _ _, Ext.refl _⟩
    · have hpb := fromTo_bd hP
      have HR : Hid (encN n L p = p.toNat ∧ encE n L p = 0) := by
        show _ ∧ _
        unfold encN encE encOk
        rw [hM, hP]
        exact ⟨rfl, rfl⟩
      obtain ⟨q, rfl⟩ := Int.eq_ofNat_of_zero_le (show 0 ≤ p by omega)
      have hnb : 1 ≤ n ∧ n ≤ 12 ∧ alikeB n L = true := by
        unfold pmayB at hM
        rw [Bool.and_eq_true] at hM
        have := fromTo_bd hM.1
        exact ⟨by omega, by omega, hM.2⟩
      have HA : Hid (alikeB n L = true) := hnb.2.2
      have hm := (alikeB_of hnb.2.2 (r := 0) (by omega)).2
      obtain ⟨hn1, hn2, _⟩ := hnb
      clear hM hP
      have hmk := make_cols q (by omega)
      have q1 : ¬ (q : Int) < 1 := by omega
      have q2 : ¬ (3 : Int) < (q : Int) := by omega
      go_wp2_with fail
      clear hmk
      have HB0 : Hid (ABld w1 (w1.alloc (.cells (madeCells #[.slice none 0 0] q) 22)) w1.heap.size q (L 0) 0 (fun _ => .slice none 0 0) (enc n F)) := ABld.start w1 q (L 0) (enc n F)
      generalize w1.alloc (.cells (madeCells #[.slice none 0 0] q) 22) = w3 at *
      obtain ⟨b, o, rfl, hc⟩ := HH.out.at (by omega)
      have hc0 := hc 0 (by omega)
      rw [Nat.add_zero] at hc0
      have HC : Hid (∀ r, r < n → w1.cell? ⟨b, o + r, none⟩ = some (.slice (A r) (L 0) (C r))) := fun r hr => by rw [hc r hr, (alikeB_of HA.out hr).1]
      have HF : Hid (∀ r, r < n → Byts w1 (A r) (L 0) (F r)) := fun r hr => by have := HH.out.col hr; rwa [(alikeB_of HA.out hr).1] at this
      clear hc HH
      go_loopw [24] (fun i wr => ∃ j : Nat, j ≤ q ∧ i = .int .i64 j ∧ ∃ V, ABld w1 wr w1.heap.size q (L 0) j V (enc n F)) (fun i _ => q - (intOf i).toNat)
      case atStart => exact ⟨0, Nat.zero_le _, rfl, _, HB0.out⟩
      case round =>
        clear HB0
        obtain ⟨j, hj, rfl, V, hb⟩ := hrel
        have HB : Hid (ABld w1 wr w1.heap.size q (L 0) j V (enc n F)) := hb
        clear hb
        by_cases hlt : j < q
        · have hcw := HB.out.ext.keeps hc0
          go_wp2_with fail
          clear hcw
          generalize hw0 : wr = wj at *
          clear hw0
          go_loopw [31] (fun i wi => ∃ k : Nat, k ≤ L 0 ∧ i = .int .i64 k ∧ ∃ v, AInn wj wi w1.heap.size q j k V v (enc n F j)) (fun i _ => L 0 - (intOf i).toNat)
          case atStart => exact ⟨0, Nat.zero_le _, rfl, _, AInn.start HB.out hlt _⟩
          case round =>
            obtain ⟨k, hk, rfl, v, hi⟩ := hrel
            have HI : Hid (AInn wj wr w1.heap.size q j k V v (enc n F j)) := hi
            have HX : Hid (Ext w1 wr) := Wro.after HB.out.ext hi.wro (fun i hi => by rw [hi]; exact Nat.le_refl _)
            clear hi
            by_cases hkt : k < L 0
            · go_wp2_with fail
              generalize hw0 : wr = wk at *
              clear hw0
              go_loopw [9, 36] (fun s i wi => ∃ r : Nat, r ≤ n ∧ i = .int .i64 r ∧ s = .int .i64 (ev (enc r F j k)) ∧ Ext wk wi) (fun _ i _ => n - (intOf i).toNat)
              case atStart => exact ⟨0, Nat.zero_le _, rfl, rfl, Ext.refl _⟩
              case round =>
                obtain ⟨r, hr, rfl, rfl, hx⟩ := hrel
                by_cases hrt : r < n
                · have hcr := fun y : Gr wr => ((HX.out.trans hx).trans y.ext).keeps (HC.out r hrt)
                  obtain ⟨b', o', hA', hcb⟩ := HF.out r hrt k hkt
                  have hcx := fun y : Gr wr => ((HX.out.trans hx).trans y.ext).keeps hcb
                  have hxor := xor_ev (enc r F j k) (mu (wt j r) (F r k))
                  have hbd := ev_bd (F r k)
                  obtain ⟨hb1, hb2⟩ := mul_bd (j := j) (i := r) (by omega) (by omega)
                  clear hcb
                  go_wp2_with fail
                  refine wp_region_grows 15 (by kernel_rfl) (by kernel_rfl) (fun hne => ?_)
                  simp only [List.take_succ_cons, List.take_zero, List.drop_succ_cons, List.drop_zero]
                  repeat (go_big_quiet_step (first | (go_at_call 46; exact Calls.grown (expOf_wtG j r _ (by omega) (by omega))) | (go_at_call 45; exact Calls.grown (mulOf_evG (wt j r) (F r k) _))))
                  refine wpQuiet_nil ?_
                  intro w4 hw4
                  obtain ⟨y, rfl⟩ := hw4
                  clear hcr hcx
                  go_wp2_with fail
                  go_roundw
                  case rel => exact ⟨r + 1, by omega, by go_num, rfl, hx.trans y.ext⟩
                  case measure => simp [intOf]; omega
                · obtain rfl : n = r := by omega
                  have hi3 := HI.out.grow hx
                  have hck := hi3.top.cell hlt
                  rw [if_pos rfl] at hck
                  have hpd := ev_bd (enc n F j k)
                  have hw8 : IntKind.u8.wrap (ev (enc n F j k)) = ev (enc n F j k) := by rw [IntKind.wrap_u8]; omega
                  have HI3 : Hid (wr.ownsRow wj.heap.size 5 1 v k ((List.range k).map (bvs (enc n F j)))) := hi3.cur
                  have hsz : wj.heap.size ≤ wr.heap.size := hi3.wro.size
                  clear hi3
                  go_wp2_with (first | (at_builtin; refine append_one wr rfl _ _ 22 rfl wj.heap.size 5 (.int .u8 0) 1 Try.underlying22 infoByte rfl v k _ rfl HI3.out (.int .u8 (ev (enc n F j k))) 1 rfl rfl (by omega) (by omega) hsz ?_) | go_in)
                  intro v' w5 hown' hgrow
                  obtain ⟨a9, c9, rfl, h9⟩ := own_slice hown'
                  clear h9
                  have hnx := HI.out.next (hx.alloc _ _) hown' hgrow
                  have hct := hnx.2.cell hlt
                  rw [if_pos rfl] at hct
                  have hft := hnx.2.frozen j
                  have HN : Hid (AInn wj (w5.setCell ⟨w1.heap.size, j, none⟩ (.slice a9 (k + 1) c9)) w1.heap.size q j (k + 1) V (.slice a9 (k + 1) c9) (enc n F j)) := hnx.1
                  clear hnx hown' hgrow hck
                  go_wp2_with fail
                  go_roundw
                  case rel => exact ⟨k + 1, by omega, by go_num, _, HN.out⟩
                  case measure => simp [intOf]; omega
            · have hkL : k = L 0 := by omega
              rw [hkL] at HI
              have HD : Hid (ABld w1 wr w1.heap.size q (L 0) (j + 1) (fun r => if r = j then v else V r) (enc n F)) := HI.out.done HB.out (Nat.le_refl _)
              go_wp2_with fail
              go_roundw
              case rel => exact ⟨j + 1, by omega, by go_num, _, HD.out⟩
              case measure => simp [intOf]; omega
        · obtain rfl : q = j := by omega
          obtain ⟨A', C', hcols⟩ := HB.out.cols
          have HQ : Hid (ColsRes wr (.returned (.tuple #[.slice (some ⟨w1.heap.size, 0, none⟩) q q, .int .i64 0])) q (L 0) (enc n F) 0) := ⟨_, _, _, _, rfl, hcols⟩
          have HOR : Hid (OwnRes w1 wr (.returned (.tuple #[.slice (some ⟨w1.heap.size, 0, none⟩) q q, .int .i64 0])) q (L 0) (enc n F) 0) := ⟨_, V, rfl, HB.out.capp (Nat.le_refl _) (Nat.le_refl _) (by omega)⟩
          have hx5 := HB.out.ext
          clear hcols
          go_wp2_with fail
          go_ret2
          rw [HR.out.1, HR.out.2]
          exact ⟨⟨HQ.out, fun _ _ _ _ q => by cases q; exact Nat.le_refl _⟩, HOR.out, hx5⟩
theorem ParEncode_new (a : Option Addr) (n c : Nat) (A : Nat → Option Addr) (L C : Nat → Nat) (F : Nat → Nat → E) (p : Int) (w : World) (hn : n ≤ 9223372036854775807) (h : Cols w a n A L C F) :
    Calls Try.prog 27 #[.slice a n c, .int .i64 p] w fun e w' => (ColsRes w' e (encN n L p) (L 0) (enc n F) (encE n L p) ∧ ∀ b l c x, e = .returned (.tuple #[.slice (some b) l c, x]) → w.heap.size ≤ b.block) ∧ Ext w w' :=
  (ParEncode_own a n c A L C F p w hn h).mono fun _ _ hh => ⟨hh.1, hh.2.2⟩
theorem ParEncode_any (a : Option Addr) (n c : Nat) (A : Nat → Option Addr) (L C : Nat → Nat) (F : Nat → Nat → E) (p : Int) (w : World) (hn : n ≤ 9223372036854775807) (h : Cols w a n A L C F) :
    Calls Try.prog 27 #[.slice a n c, .int .i64 p] w fun e w' => ColsRes w' e (encN n L p) (L 0) (enc n F) (encE n L p) ∧ Ext w w' :=
  (ParEncode_new a n c A L C F p w hn h).mono fun _ _ hh => ⟨hh.1.1, hh.2⟩
end Go.Proofs.Ythgbfakmkdifbaa
