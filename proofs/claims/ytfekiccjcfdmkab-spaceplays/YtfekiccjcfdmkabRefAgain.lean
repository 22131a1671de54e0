/-
  quicksetref.spaceAgain: the units behind records, as the document says; in new memory.
-/
import Derived.Test.YtfekiccjcfdmkabChecked
import Derived.WalkKit
import Derived.BigQuiet
import Derived.Test.YtfekiccjcfdmkabSpaceB
namespace Go.Proofs.Ytfekiccjcfdmkab
open Go.RowKit Go.Deep
set_option maxRecDepth 100000 in
set_option maxHeartbeats 1600000 in
theorem again_any (sz : Int) (a : Option Addr) (m c : Nat) (L : List (Bool × Int × Int)) (w : World) (hl : L.length = m) (hm : m ≤ 9223372036854775807) (h : Tri w a (recV L)) :
    Calls Try.prog 39 #[.int .i64 sz, .slice a m c] w fun e w' => ∃ v er, e = .returned (.tuple #[v, .int .i64 er]) ∧ BehRes 3 w sz (behS sz L) v er w' ∧ Ext w w' := by
  have HL : Hid (L.length = m) := hl
  have HR : Hid (Tri w a (recV L)) := h
  clear h hl
  by_cases hz1 : 1 ≤ sz
  · by_cases hz2 : sz ≤ 4096
    · have hz : szB sz = true := by unfold szB; simp [hz1, hz2]
      obtain ⟨n, rfl⟩ : ∃ n : Nat, sz = n := ⟨sz.toNat, by omega⟩
      have hn : 1 ≤ n ∧ n ≤ 4096 := by omega
      by_cases hm4 : m ≤ 4096
      · have HE : Hid (behS (n : Int) L = (match replayS n (fun _ => 0) L with | none => .inl 4 | some S => .inr S)) := by
          show _ = _
          unfold behS
          rw [hz, if_pos rfl, if_pos (by rw [HL.out]; exact hm4), Int.toNat_natCast]
          cases replayS n (fun _ => 0) L <;> rfl
        have hmk := make_now n hn.2
        clear hz
        go_enter Try.func39, Try.ntmps39
        go_wp2_with fail
        go_loopw [22] (fun i wr => ∃ (q : Nat) (S : Nat → Int), q ≤ m ∧ i = .int .i64 q ∧ Hid (replayS n S (L.drop q) = replayS n (fun _ => 0) L) ∧ Uns wr w.heap.size 3 n S ∧ Ext w wr) (fun i _ => m - (intOf i).toNat)
        case atStart => exact ⟨0, _, Nat.zero_le _, rfl, rfl, World.rowIs_made w (.int .i64 0) n 3, (Ext.refl w).alloc _ _⟩
        case round =>
          clear hmk
          obtain ⟨q, S, hq, rfl, HRp, hu, hx⟩ := hrel
          have HU : Hid (Uns wr w.heap.size 3 n S) := hu
          clear hu
          by_cases hlt : q < m
          · obtain ⟨⟨f, x, y⟩, h1, h2, h3⟩ := drop_at (L := L) (k := q) (by rw [HL.out]; exact hlt)
            have HD : Hid (L.drop q = (f, x, y) :: L.drop (q + 1)) := h2
            obtain ⟨b, o, rfl, hc0, hc1, hc2⟩ := rec_at (HR.out.ext hx) h1
            have x2 : Ext wr (wr.alloc (.cells #[.bool f, .int .i64 x, .int .i64 y] 72)) := (Ext.refl wr).alloc _ _
            have g0 := fun u : Gr (wr.alloc (.cells #[.bool f, .int .i64 x, .int .i64 y] 72)) => u.ext.keeps (new_cell wr #[.bool f, .int .i64 x, .int .i64 y] 72 0)
            have g1 := fun u : Gr (wr.alloc (.cells #[.bool f, .int .i64 x, .int .i64 y] 72)) => u.ext.keeps (new_cell wr #[.bool f, .int .i64 x, .int .i64 y] 72 1)
            have g2 := fun u : Gr (wr.alloc (.cells #[.bool f, .int .i64 x, .int .i64 y] 72)) => u.ext.keeps (new_cell wr #[.bool f, .int .i64 x, .int .i64 y] 72 2)
            clear h1 h2 h3
            cases hr : rmB x y with
            | false =>
              have HN : Hid (replayS n (fun _ => 0) L = none) := by
                show _ = _
                rw [← HRp.out, HD.out, rep_none (step_form hr)]
              go_wp2_with fail
              clear hc0 hc1 hc2
              refine wp_region_grows 24 (by kernel_rfl) (by kernel_rfl) (fun hne => ?_)
              simp only [List.take_succ_cons, List.take_zero, List.drop_succ_cons, List.drop_zero]
              repeat (go_big_quiet_step (first | (go_at_call 50; exact Calls.grown (RangeMay_val x y _ hr _))))
              refine wpQuiet_nil ?_
              intro w4 hw4
              obtain ⟨u, rfl⟩ := hw4
              clear g0 g1 g2
              go_wp2_with fail
              go_ret2
              exact ⟨_, _, rfl, by rw [HE.out, HN.out]; exact ⟨rfl, rfl, by decide⟩, (hx.trans x2).trans u.ext⟩
            | true =>
              have HRm : Hid (rmB x y = true) := hr
              obtain ⟨X, Y, rfl, rfl, hXY, hY⟩ := rmB_nat hr
              by_cases hyn : Y ≤ n
              · have i1 : (Y : Int) ≤ (n : Int) := by omega
                have dI : decide ((n : Int) < (Y : Int)) = false := decide_eq_false (by omega)
                have dI2 : decide (n < Y) = false := decide_eq_false (by omega)
                have HFl : Hid (∀ u : Gr (wr.alloc (.cells #[.bool f, .int .i64 X, .int .i64 Y] 72)), Calls Try.prog 51 #[.bool f] u.w' fun e w'' => e = .returned (.int .i64 (flagV f)) ∧ Ext u.w' w'') := fun u => (flag_any f u.w').mono fun _ _ hh => ⟨hh.1, by rw [hh.2]; exact Ext.refl _⟩
                have HIs : Hid (∀ u : Gr (wr.alloc (.cells #[.bool f, .int .i64 X, .int .i64 Y] 72)), Calls Try.prog 35 #[.slice (some ⟨w.heap.size, 0, none⟩) n n, .int .i64 X, .int .i64 Y, .int .i64 (flagV f)] u.w' fun e w'' => e = .returned (.bool (allS S X Y (flagV f))) ∧ Ext u.w' w'') := fun u =>
                  (ris_any w.heap.size n S X Y (flagV f) u.w' hn.2 (by omega) hyn (u.ext.rowIs (x2.rowIs HU.out))).mono fun _ _ hh => ⟨hh.1, by rw [hh.2]; exact Ext.refl _⟩
                cases ha : allS S X Y (flagV f) with
                | false =>
                  rw [ha] at HIs
                  have HN : Hid (replayS n (fun _ => 0) L = none) := by
                    show _ = _
                    rw [← HRp.out, HD.out, rep_none (step_not (by rw [Int.toNat_natCast, Int.toNat_natCast]; exact ha))]
                  clear ha
                  go_wp2_with fail
                  clear hc0 hc1 hc2
                  refine wp_region_grows 24 (by kernel_rfl) (by kernel_rfl) (fun hne => ?_)
                  simp only [List.take_succ_cons, List.take_zero, List.drop_succ_cons, List.drop_zero]
                  repeat (go_big_quiet_step (first | (go_at_call 50; exact Calls.grown (RangeMay_val _ _ _ hr _)) | (go_at_call 51; exact Calls.grown (HFl.out _)) | (go_at_call 35; exact Calls.grown (HIs.out _))))
                  refine wpQuiet_nil ?_
                  intro w4 hw4
                  obtain ⟨u, rfl⟩ := hw4
                  clear g0 g1 g2
                  go_wp2_with fail
                  go_ret2
                  exact ⟨_, _, rfl, by rw [HE.out, HN.out]; exact ⟨rfl, rfl, by decide⟩, (hx.trans x2).trans u.ext⟩
                | true =>
                  rw [ha] at HIs
                  have HS : Hid (replayS n (putS S X Y (1 - flagV f)) (L.drop (q + 1)) = replayS n (fun _ => 0) L) := by
                    show _ = _
                    rw [← HRp.out, HD.out, rep_some (step_ok HRm.out i1 (by rw [Int.toNat_natCast, Int.toNat_natCast]; exact ha)), Int.toNat_natCast, Int.toNat_natCast]
                    cases f <;> rfl
                  clear ha
                  have hfl : 0 ≤ flagV f ∧ flagV f ≤ 1 := by cases f <;> decide
                  go_wp2_with fail
                  clear hc0 hc1 hc2
                  refine wp_region_grows 24 (by kernel_rfl) (by kernel_rfl) (fun hne => ?_)
                  simp only [List.take_succ_cons, List.take_zero, List.drop_succ_cons, List.drop_zero]
                  repeat (go_big_quiet_step (first | (go_at_call 50; exact Calls.grown (RangeMay_val _ _ _ hr _)) | (go_at_call 51; exact Calls.grown (HFl.out _)) | (go_at_call 35; exact Calls.grown (HIs.out _))))
                  refine wpQuiet_nil ?_
                  intro w4 hw4
                  obtain ⟨u, rfl⟩ := hw4
                  have HXu : Hid (Ext w u.w' ∧ Ext wr u.w') := ⟨(hx.trans x2).trans u.ext, x2.trans u.ext⟩
                  have k0 := fun z : Gr u.w' => z.ext.keeps (g0 u)
                  have k1 := fun z : Gr u.w' => z.ext.keeps (g1 u)
                  have k2 := fun z : Gr u.w' => z.ext.keeps (g2 u)
                  clear g0 g1 g2
                  have HF2 : Hid (∀ z : Gr u.w', Calls Try.prog 51 #[.bool f] z.w' fun e w'' => e = .returned (.int .i64 (flagV f)) ∧ Ext z.w' w'') := fun z => (flag_any f z.w').mono fun _ _ hh => ⟨hh.1, by rw [hh.2]; exact Ext.refl _⟩
                  go_wp2_with fail
                  refine wp_region_grows 11 (by kernel_rfl) (by kernel_rfl) (fun hne => ?_)
                  simp only [List.take_succ_cons, List.take_zero, List.drop_succ_cons, List.drop_zero]
                  repeat (go_big_quiet_step (first | (go_at_call 51; exact Calls.grown (HF2.out _))))
                  refine wpQuiet_nil ?_
                  intro w5 hw5
                  obtain ⟨z, rfl⟩ := hw5
                  have HPt := rput_any w.heap.size n S X Y (1 - flagV f) z.w' hn.2 (by omega) hyn (z.ext.rowIs (HXu.out.2.rowIs HU.out))
                  clear k0 k1 k2
                  go_wp2_with fail
                  refine HPt.mono ?_
                  rintro e w6 ⟨rfl, hu6, hw6⟩
                  have HU6 : Hid (Uns w6 w.heap.size 3 n (putS S X Y (1 - flagV f))) := hu6
                  have HX6 : Hid (Ext w w6) := Wro.after (HXu.out.1.trans z.ext) hw6 fun i hi => by rw [hi]; exact Nat.le_refl _
                  clear hu6 hw6 HPt
                  go_wp2_with fail
                  go_roundw
                  case rel => exact ⟨q + 1, _, by omega, by go_num, HS.out, HU6.out, HX6.out⟩
                  case measure => simp [intOf]; omega
              · have HN : Hid (replayS n (fun _ => 0) L = none) := by
                  show _ = _
                  rw [← HRp.out, HD.out, rep_none (step_big (by omega))]
                have dI : decide ((n : Int) < (Y : Int)) = true := decide_eq_true (by omega)
                have dI2 : decide (n < Y) = true := decide_eq_true (by omega)
                go_wp2_with fail
                clear hc0 hc1 hc2
                refine wp_region_grows 24 (by kernel_rfl) (by kernel_rfl) (fun hne => ?_)
                simp only [List.take_succ_cons, List.take_zero, List.drop_succ_cons, List.drop_zero]
                repeat (go_big_quiet_step (first | (go_at_call 50; exact Calls.grown (RangeMay_val _ _ _ hr _))))
                refine wpQuiet_nil ?_
                intro w4 hw4
                obtain ⟨u, rfl⟩ := hw4
                clear g0 g1 g2
                go_wp2_with fail
                go_ret2
                exact ⟨_, _, rfl, by rw [HE.out, HN.out]; exact ⟨rfl, rfl, by decide⟩, (hx.trans x2).trans u.ext⟩
          · have e : L.drop q = [] := List.drop_eq_nil_of_le (by rw [HL.out]; omega)
            have HS : Hid (replayS n (fun _ => 0) L = some S) := by
              have := HRp.out
              rw [e] at this
              exact this.symm
            clear e
            go_wp2_with fail
            go_ret2
            exact ⟨_, _, rfl, by rw [HE.out, HS.out]; exact ⟨rfl, by omega, _, by simp, Nat.le_refl _, HU.out⟩, hx⟩
      · have HE : Hid (behS (n : Int) L = .inl 1) := by
          show _ = _
          unfold behS
          rw [hz, if_pos rfl, if_neg (by rw [HL.out]; exact hm4)]
        clear hz
        go_enter Try.func39, Try.ntmps39
        go_wp2_with fail
        go_ret2
        exact ⟨_, _, rfl, by rw [HE.out]; exact ⟨rfl, rfl, by decide⟩, Ext.refl _⟩
    · have HE : Hid (behS sz L = .inl 2) := by show _ = _; unfold behS szB; rw [decide_eq_false hz2]; simp
      go_enter Try.func39, Try.ntmps39
      go_wp2_with fail
      go_ret2
      exact ⟨_, _, rfl, by rw [HE.out]; exact ⟨rfl, rfl, by decide⟩, Ext.refl _⟩
  · have HE : Hid (behS sz L = .inl 2) := by show _ = _; unfold behS szB; rw [decide_eq_false hz1]; simp
    go_enter Try.func39, Try.ntmps39
    go_wp2_with fail
    go_ret2
    exact ⟨_, _, rfl, by rw [HE.out]; exact ⟨rfl, rfl, by decide⟩, Ext.refl _⟩
end Go.Proofs.Ytfekiccjcfdmkab
