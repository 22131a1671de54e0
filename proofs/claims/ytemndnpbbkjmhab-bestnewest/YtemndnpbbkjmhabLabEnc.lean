/-
  label.Encode at every label: the label's own sector in new memory, or ErrForm.
-/
import Derived.Test.YtemndnpbbkjmhabLabRd
import Derived.Test.YtemndnpbbkjmhabLabMay
import Derived.Test.YtemndnpbbkjmhabMk
import Derived.Test.YtemndnpbbkjmhabQuiets
import Derived.Deep.QuietTactic
namespace Go.Proofs.Ytemndnpbbkjmhab
open Go.RowKit Go.Deep E
/-- the first k numbers stand -/
def hdK (x : Nat → Int) (k i : Nat) : E := if i < 4 * k then byt (x (i / 4)) (i % 4) else ze
theorem hdK_put (x : Nat → Int) (k i : Nat) : putB (hdK x k) (4 * k) (x k) 4 i = hdK x (k + 1) i := by
  unfold putB hdK
  by_cases h1 : 4 * k ≤ i ∧ i < 4 * k + 4
  · rw [if_pos h1, if_pos (by omega), show i / 4 = k by omega, show i % 4 = i - 4 * k by omega]
  · rw [if_neg h1]
    by_cases h2 : i < 4 * k
    · rw [if_pos h2, if_pos (by omega)]
    · rw [if_neg h2, if_neg (by omega)]
theorem hd_made (x : Nat → Int) (i : Nat) : putS8 (hdK x 9) 36 (fun j => x (9 + j)) 4 i = hd x i := by
  unfold putS8 hdK hd
  by_cases h1 : i < 36
  · rw [if_neg (by omega), if_pos (by omega), if_pos h1]
  · rw [if_neg (show ¬ i < 4 * 9 by omega), if_neg h1]
    by_cases h2 : i < 68
    · rw [if_pos (by omega), if_pos h2]
    · rw [if_neg (by omega), if_neg h2]
theorem sec_made (x : Nat → Int) (i : Nat) (hi : i < 128) : putS8 (hd x) 96 (sealV (hd x)) 4 i = sec x i := by
  unfold putS8 sec
  by_cases h1 : i < 96
  · rw [if_neg (by omega), if_pos h1]
  · rw [if_pos (by omega), if_neg h1]
theorem row13_alloc (w : World) (t : TypeId) (f : Nat → Value) : (w.alloc (.cells #[f 0, f 1, f 2, f 3, f 4, f 5, f 6, f 7, f 8, f 9, f 10, f 11, f 12] t)).rowIs w.heap.size t 13 f :=
  World.rowIs_alloc w #[f 0, f 1, f 2, f 3, f 4, f 5, f 6, f 7, f 8, f 9, f 10, f 11, f 12] t f fun i hi => by
    have hi : i < 13 := hi
    match i, hi with
    | 0, _ => rfl
    | 1, _ => rfl
    | 2, _ => rfl
    | 3, _ => rfl
    | 4, _ => rfl
    | 5, _ => rfl
    | 6, _ => rfl
    | 7, _ => rfl
    | 8, _ => rfl
    | 9, _ => rfl
    | 10, _ => rfl
    | 11, _ => rfl
    | 12, _ => rfl
set_option maxRecDepth 100000 in
set_option maxHeartbeats 1600000 in
theorem Encode_f (x : Nat → Int) (w : World) (h : mayL x = false) : Calls Try.prog 15 #[.agg #[.int .i64 (x 0), .int .i64 (x 1), .int .i64 (x 2), .int .i64 (x 3), .int .i64 (x 4), .int .i64 (x 5), .int .i64 (x 6), .int .i64 (x 7), .int .i64 (x 8), .int .i64 (x 9), .int .i64 (x 10), .int .i64 (x 11), .int .i64 (x 12)]] w fun e w' => e = .returned (.tuple #[.slice none 0 0, .int .i64 4]) ∧ Ext w w' := by
  go_enter Try.func15, Try.ntmps15
  go_wp2_with fail
  refine (LMay_any x _).mono ?_
  rintro e w1 ⟨rfl, hx1⟩
  rw [h]
  have X1 : Hid (Ext w w1) := ((Ext.refl _).alloc _ _).trans hx1
  clear hx1
  go_wp2_with fail
  go_ret2
  exact ⟨rfl, X1.out⟩
set_option maxRecDepth 100000 in
set_option maxHeartbeats 4000000 in
theorem Encode_t (x : Nat → Int) (w : World) (h : mayL x = true) : Calls Try.prog 15 #[.agg #[.int .i64 (x 0), .int .i64 (x 1), .int .i64 (x 2), .int .i64 (x 3), .int .i64 (x 4), .int .i64 (x 5), .int .i64 (x 6), .int .i64 (x 7), .int .i64 (x 8), .int .i64 (x 9), .int .i64 (x 10), .int .i64 (x 11), .int .i64 (x 12)]] w fun e w' => (∃ g, w.heap.size ≤ g ∧ e = .returned (.tuple #[.slice (some ⟨g, 0, none⟩) 128 128, .int .i64 0]) ∧ w'.rowIs g 5 128 (bvs (sec x))) ∧ Ext w w' := by
  go_enter Try.func15, Try.ntmps15
  go_wp2_with fail
  refine (LMay_any x _).mono ?_
  rintro e w1 ⟨rfl, hx1⟩
  rw [h]
  have X1 : Hid (Ext w w1) := ((Ext.refl _).alloc _ _).trans hx1
  have R1 : Hid (w1.rowIs w.heap.size 28 13 (ivs x)) := hx1.rowIs (row13_alloc w 28 (ivs x))
  clear hx1
  have hmk : ∀ v, (Instr.makeSlice 22 (.int .i64 128) (.int .i64 128)).run Try.prog v = .ok (.slice (some ⟨v.heap.size, 0, none⟩) 128 128) (v.alloc (.cells (madeCells #[.int .u8 0] 128) 5)) := make_bytes 128 (by omega)
  go_wp2_with fail
  have X2 : Hid (Ext w1 (w1.alloc (.cells (madeCells #[.int .u8 0] 128) 5))) := (Ext.refl _).alloc _ _
  have B2 : Hid ((w1.alloc (.cells (madeCells #[.int .u8 0] 128) 5)).rowIs w1.heap.size 5 128 (bvs (hdK x 0))) :=
    (World.rowIs_made w1 (.int .u8 0) 128 5).congr fun i _ => by unfold bvs hdK; rw [if_neg (by omega)]; rfl
  have hG : w.heap.size ≤ w1.heap.size := X1.out.size
  have hne : w.heap.size < w1.heap.size := R1.out.lt
  refine (numbers_any w.heap.size _).mono ?_
  rintro e w3 ⟨rfl, hx3⟩
  have X3 : Hid (Ext w w3) := X1.out.trans (X2.out.trans hx3)
  have R3 : Hid (w3.rowIs w.heap.size 28 13 (ivs x)) := (X2.out.trans hx3).rowIs R1.out
  have B3 : Hid (w3.rowIs w1.heap.size 5 128 (bvs (hdK x 0))) := hx3.rowIs B2.out
  clear hx3 X2 B2 R1 X1 hmk
  generalize w1.heap.size = g at *
  go_wp2_with fail
  go_loopw [12] (fun i wr => ∃ k : Nat, k ≤ 9 ∧ i = .int .i64 k ∧ Wro (· = g) w3 wr ∧ wr.rowIs g 5 128 (bvs (hdK x k))) (fun i _ => 9 - (intOf i).toNat)
  case atStart => exact ⟨0, Nat.zero_le _, rfl, Wro.refl _ _, B3.out⟩
  case round =>
    obtain ⟨k, hk, rfl, hx, hr⟩ := hrel
    have HR : Hid (wr.rowIs g 5 128 (bvs (hdK x k))) := hr
    have RX : Hid (wr.rowIs w.heap.size 28 13 (ivs x)) := hx.rowIs R3.out (by show ¬ w.heap.size = g; omega)
    clear hr B3
    by_cases hlt : k < 9
    · have hck := (RX.out.drew).cell (i := k) (by omega)
      unfold ivs at hck
      obtain ⟨p, hp⟩ : ∃ p : Nat, p = 4 * k := ⟨_, rfl⟩
      have hslk := sub_lh (P := Try.prog) Try.underlying22 size8 (some ⟨g, 0, none⟩) 128 128 p 4 (by omega) (p : Int) ((p : Int) + 4) rfl (by omega)
      rw [subA_some (by omega), Nat.zero_add] at hslk
      have hix := index_arr (P := Try.prog) Try.underlying53 Try.underlying52 (by kernel_rfl) #[.pointer (some ⟨w.heap.size, 0, none⟩), .pointer (some ⟨w.heap.size, 1, none⟩), .pointer (some ⟨w.heap.size, 2, none⟩), .pointer (some ⟨w.heap.size, 3, none⟩), .pointer (some ⟨w.heap.size, 4, none⟩), .pointer (some ⟨w.heap.size, 5, none⟩), .pointer (some ⟨w.heap.size, 6, none⟩), .pointer (some ⟨w.heap.size, 7, none⟩), .pointer (some ⟨w.heap.size, 8, none⟩)] k hlt (.pointer (some ⟨w.heap.size, k, none⟩)) (by
        match k, hlt with
    | 0, _ => rfl
    | 1, _ => rfl
    | 2, _ => rfl
    | 3, _ => rfl
    | 4, _ => rfl
    | 5, _ => rfl
    | 6, _ => rfl
    | 7, _ => rfl
    | 8, _ => rfl)
      have hw1 : IntKind.i64.wrap ((k : Int) * 4) = (p : Int) := by rw [IntKind.wrap_i64]; omega
      have hw2 : IntKind.i64.wrap ((k : Int) + 1) = (k : Int) + 1 := by rw [IntKind.wrap_i64]; omega
      have hw3 : IntKind.i64.wrap (((k : Int) + 1) * 4) = (p : Int) + 4 := by rw [IntKind.wrap_i64]; omega
      have HP : Hid (p = 4 * k) := hp
      have hpb : p + 4 ≤ 128 := by omega
      clear hp
      go_wp2_with fail
      refine wp_region_still_tail 10 (by kernel_rfl) (by kernel_rfl) ?_
      simp only [List.take_succ_cons, List.take_zero, List.drop_succ_cons, List.drop_zero]
      repeat still_step
      refine wpStill_nil ?_
      go_wp2_with fail
      refine (write_any g p 4 (128 - p) 128 (hdK x k) (x k) (by omega) (by omega) _ (HR.out.drew)).mono ?_
      rintro e w4 ⟨rfl, hx4, hr4⟩
      have R4 : Hid (w4.rowIs g 5 128 (bvs (hdK x (k + 1)))) := by
        have e := HP.out
        subst e
        exact hr4.congr fun i _ => by unfold bvs; rw [hdK_put]
      clear hr4
      go_wp2_with fail
      go_roundw
      case rel => exact ⟨k + 1, by omega, by go_num, (hx.drew).trans hx4, R4.out⟩
      case measure => simp [intOf]; omega
    · obtain rfl : k = 9 := by omega
      have XW : Hid (Ext w wr) := Wro.after X3.out hx (fun i hi => by omega)
      clear hx hlt hk R3 X3
      have q0 := (RX.out.drew).cell (i := 9) (by omega)
      have q1 := (RX.out.drew).cell (i := 10) (by omega)
      have q2 := (RX.out.drew).cell (i := 11) (by omega)
      have q3 := (RX.out.drew).cell (i := 12) (by omega)
      unfold ivs at q0 q1 q2 q3
      have hs1 : ∀ v, (Instr.slice 22 (.slice (some ⟨g, 0, none⟩) 128 128) (some (.int .i64 36)) none none).run Try.prog v = .ok (.slice (some ⟨g, 36, none⟩) 92 92) v := sub_l (P := Try.prog) Try.underlying22 size8 (some ⟨g, 0, none⟩) 128 128 36 (by omega) 36 rfl
      go_wp2_with fail
      refine wp_region_still_tail 5 (by kernel_rfl) (by kernel_rfl) ?_
      simp only [List.take_succ_cons, List.take_zero, List.drop_succ_cons, List.drop_zero]
      repeat still_step
      refine wpStill_nil ?_
      go_wp2_with fail
      refine (writeSum_any g 36 92 92 128 (hdK x 9) (fun j => x (9 + j)) _ (by omega) (HR.out.drew)).mono ?_
      rintro e w5 ⟨rfl, hx5, hr5⟩
      have R5 : Hid (w5.rowIs g 5 128 (bvs (hd x))) := hr5.congr fun i _ => by unfold bvs; rw [hd_made]
      have X5 : Hid (Ext w w5) := Wro.after XW.out.drew hx5 (fun i hi => by omega)
      clear hr5 hx5 RX HR q0 q1 q2 q3 XW
      have hs2 : ∀ v, (Instr.slice 22 (.slice (some ⟨g, 0, none⟩) 128 128) (some (.int .i64 96)) none none).run Try.prog v = .ok (.slice (some ⟨g, 96, none⟩) 32 32) v := sub_l (P := Try.prog) Try.underlying22 size8 (some ⟨g, 0, none⟩) 128 128 96 (by omega) 96 rfl
      go_wp2_with fail
      refine wp_region_grows 4 (by kernel_rfl) (by kernel_rfl) (fun hne => ?_)
      simp only [List.take_succ_cons, List.take_zero, List.drop_succ_cons, List.drop_zero]
      repeat (go_big_quiet_step (first | (go_at_call 20; exact Calls.grown (seal_any (some ⟨g, 0, none⟩) 128 128 (hd x) _ (by omega) (by omega) ((Byts.row R5.out (by omega)).ext (Gr.ext _))))))
      refine wpQuiet_nil ?_
      intro w9 hw9
      obtain ⟨y, rfl⟩ := hw9
      go_wp2_with fail
      refine (writeSum_any g 96 32 32 128 (hd x) (sealV (hd x)) _ (by omega) (y.ext.rowIs R5.out)).mono ?_
      rintro e w6 ⟨rfl, hx6, hr6⟩
      have R6 : Hid (w6.rowIs g 5 128 (bvs (sec x))) := hr6.congr fun i hi => by unfold bvs; rw [sec_made x i hi]
      have X6 : Hid (Ext w w6) := Wro.after (X5.out.trans y.ext) hx6 (fun i hi => by omega)
      clear hr6 hx6
      go_wp2_with fail
      go_ret2
      exact ⟨⟨g, hG, rfl, R6.out⟩, X6.out⟩
end Go.Proofs.Ytemndnpbbkjmhab
