/-
  label.Decode at a sector whose seal fits; the world only grows.
-/
import Derived.Deep.CutRange
import Derived.Test.YtemndnpbbkjmhabLabDec
namespace Go.Proofs.Ytemndnpbbkjmhab
open Go.RowKit Go.Deep E
def prK (B : Nat → E) (k i : Nat) : Int := if i < k then prs B i else 0
theorem prK_put (B : Nat → E) (k : Nat) (v : Int) (hv : v = prs B k) (i : Nat) : (if i = k then Value.int .i64 v else ivs (prK B k) i) = ivs (prK B (k + 1)) i := by
  unfold ivs prK
  by_cases e : i = k
  · subst e
    rw [if_pos rfl, if_pos (by omega), hv]
  · rw [if_neg e]
    by_cases l : i < k
    · rw [if_pos l, if_pos (by omega)]
    · rw [if_neg l, if_neg (by omega)]
theorem prs_4 (B : Nat → E) (k : Nat) (hk : k < 9) : wrap64 (rdN (fun i => B (4 * k + i)) 4) = prs B k := by
  have h := rd4_bd fun i => B (4 * k + i)
  rw [wrap_in (by omega)]
  unfold prs
  rw [if_pos hk]
theorem prs_8 (B : Nat → E) (k : Nat) : rd8 (fun i => B (36 + i)) k = prs B (9 + k) := by
  unfold rd8 prs
  rw [if_neg (by omega), rdN_congr (B' := fun i => B (36 + 8 * (9 + k - 9) + i)) 8 fun i _ => by show B (36 + (8 * k + i)) = B (36 + 8 * (9 + k - 9) + i); rw [show 9 + k - 9 = k by omega, Nat.add_assoc]]
theorem put4at9 {w0 w : World} {g : Nat} {t : TypeId} (B : Nat → E) (x : Ext w0 w) (hg : w0.heap.size ≤ g) (h : w.rowIs g t 13 (ivs (prK B 9))) :
    Hid (((((w.setCell ⟨g, 9, none⟩ (.int .i64 (prs B 9))).setCell ⟨g, 10, none⟩ (.int .i64 (prs B 10))).setCell ⟨g, 11, none⟩ (.int .i64 (prs B 11))).setCell ⟨g, 12, none⟩ (.int .i64 (prs B 12))).rowIs g t 13 (ivs (prs B))) ∧
    Hid (Ext w0 ((((w.setCell ⟨g, 9, none⟩ (.int .i64 (prs B 9))).setCell ⟨g, 10, none⟩ (.int .i64 (prs B 10))).setCell ⟨g, 11, none⟩ (.int .i64 (prs B 11))).setCell ⟨g, 12, none⟩ (.int .i64 (prs B 12)))) := by
  refine ⟨((((h.set 9 _).set 10 _).set 11 _).set 12 _).congr fun i hi => ?_, (((x.setCell (p := ⟨g, 9, none⟩) hg _).setCell (p := ⟨g, 10, none⟩) hg _).setCell (p := ⟨g, 11, none⟩) hg _).setCell (p := ⟨g, 12, none⟩) hg _⟩
  have e : ∀ j, j < 9 → ivs (prK B 9) j = ivs (prs B) j := fun j hj => by unfold ivs prK; rw [if_pos hj]
  match i, hi with
  | 0, _ => exact e 0 (by omega)
  | 1, _ => exact e 1 (by omega)
  | 2, _ => exact e 2 (by omega)
  | 3, _ => exact e 3 (by omega)
  | 4, _ => exact e 4 (by omega)
  | 5, _ => exact e 5 (by omega)
  | 6, _ => exact e 6 (by omega)
  | 7, _ => exact e 7 (by omega)
  | 8, _ => exact e 8 (by omega)
  | 9, _ => rfl
  | 10, _ => rfl
  | 11, _ => rfl
  | 12, _ => rfl
theorem own_eqB {B : Nat → E} (h : sealB B = true) : eqB 128 (sec (prs B)) B = ownB B := by
  rw [Bool.eq_iff_iff, eqB_iff]
  exact own_all h
set_option maxRecDepth 100000 in
set_option maxHeartbeats 6400000 in
theorem Decode_seal (a : Option Addr) (c : Nat) (B : Nat → E) (w : World) (hc : 128 ≤ c ∧ c ≤ 9223372036854775807) (h : Byts w a 128 B) (hs : sealB B = true) :
    Calls Try.prog 9 #[.slice a 128 c] w fun e w' => (mayL (prs B) = true → ownB B = true → e = .returned (.tuple #[.agg #[.int .i64 (prs B 0), .int .i64 (prs B 1), .int .i64 (prs B 2), .int .i64 (prs B 3), .int .i64 (prs B 4), .int .i64 (prs B 5), .int .i64 (prs B 6), .int .i64 (prs B 7), .int .i64 (prs B 8), .int .i64 (prs B 9), .int .i64 (prs B 10), .int .i64 (prs B 11), .int .i64 (prs B 12)], .int .i64 0])) ∧ (¬ (mayL (prs B) = true ∧ ownB B = true) → e = .returned (.tuple #[.agg #[.int .i64 ((fun _ => (0 : Int)) 0), .int .i64 ((fun _ => (0 : Int)) 1), .int .i64 ((fun _ => (0 : Int)) 2), .int .i64 ((fun _ => (0 : Int)) 3), .int .i64 ((fun _ => (0 : Int)) 4), .int .i64 ((fun _ => (0 : Int)) 5), .int .i64 ((fun _ => (0 : Int)) 6), .int .i64 ((fun _ => (0 : Int)) 7), .int .i64 ((fun _ => (0 : Int)) 8), .int .i64 ((fun _ => (0 : Int)) 9), .int .i64 ((fun _ => (0 : Int)) 10), .int .i64 ((fun _ => (0 : Int)) 11), .int .i64 ((fun _ => (0 : Int)) 12)], .int .i64 4])) ∧ Ext w w' := by
  have HOW : Hid (eqB 128 (sec (prs B)) B = ownB B) := own_eqB hs
  obtain ⟨b, o, rfl, hcell⟩ := h.at (by omega)
  have HC : Hid (∀ i, i < 128 → w.cell? ⟨b, o + i, none⟩ = some (.int .u8 (ev (B i)))) := hcell
  have HB : Hid (Byts w (some ⟨b, o, none⟩) 128 B) := h
  have hs1 : ∀ v, (Instr.slice 22 (.slice (some ⟨b, o, none⟩) 128 c) (some (.int .i64 96)) none none).run Try.prog v = .ok (.slice (some ⟨b, o + 96, none⟩) 32 (c - 96)) v := fun v => by
    have := sub_l (P := Try.prog) Try.underlying22 size8 (some ⟨b, o, none⟩) 128 c 96 (by omega) 96 rfl v
    rw [subA_some (by omega)] at this
    exact this
  have HCC : Hid (128 ≤ c ∧ c ≤ 9223372036854775807) := hc
  obtain ⟨V1, hV1⟩ : ∃ V, V = Value.agg #[.int .i64 (rds B 0), .int .i64 (rds B 1), .int .i64 (rds B 2), .int .i64 (rds B 3)] := ⟨_, rfl⟩
  obtain ⟨V2, hV2⟩ : ∃ V, V = Value.agg #[.int .i64 (sealV B 0), .int .i64 (sealV B 1), .int .i64 (sealV B 2), .int .i64 (sealV B 3)] := ⟨_, rfl⟩
  have hgd : ∀ v, (eqGuard .neq 24 (.tmp 15) (.tmp 17) V1 V2).run Try.prog v = .ok () v := fun v => by rw [hV1, hV2]; exact guardSum _ _ _ _ v
  have hneq : ∀ v, (binOp .neq 24 V1 V2).run Try.prog v = .ok (.bool false) v := fun v => by
    rw [hV1, hV2, neqSum, hs]
    rfl
  have HV1 : Hid (V1 = Value.agg #[.int .i64 (rds B 0), .int .i64 (rds B 1), .int .i64 (rds B 2), .int .i64 (rds B 3)]) := hV1
  have HV2 : Hid (V2 = Value.agg #[.int .i64 (sealV B 0), .int .i64 (sealV B 1), .int .i64 (sealV B 2), .int .i64 (sealV B 3)]) := hV2
  clear h hcell hc hV1 hV2 hs
  go_enter Try.func9, Try.ntmps9
  go_wp2_with fail
  have X0 : Hid (Ext w (w.alloc (.cells #[.int .i64 ((fun _ => (0 : Int)) 0), .int .i64 ((fun _ => (0 : Int)) 1), .int .i64 ((fun _ => (0 : Int)) 2), .int .i64 ((fun _ => (0 : Int)) 3), .int .i64 ((fun _ => (0 : Int)) 4), .int .i64 ((fun _ => (0 : Int)) 5), .int .i64 ((fun _ => (0 : Int)) 6), .int .i64 ((fun _ => (0 : Int)) 7), .int .i64 ((fun _ => (0 : Int)) 8), .int .i64 ((fun _ => (0 : Int)) 9), .int .i64 ((fun _ => (0 : Int)) 10), .int .i64 ((fun _ => (0 : Int)) 11), .int .i64 ((fun _ => (0 : Int)) 12)] 28))) := (Ext.refl _).alloc _ _
  refine (readSum_any b (o + 96) 32 (c - 96) (fun i => B (96 + i)) _ (by have := HCC.out; omega) fun i hi => ?_).mono ?_
  · rw [Nat.add_assoc]
    exact X0.out.keeps (HC.out (96 + i) (by omega))
  rintro e w1 ⟨rfl, hx1⟩
  rw [rd8_96, rd8_96, rd8_96, rd8_96, ← HV1.out]
  have X1 : Hid (Ext w w1) := X0.out.trans hx1
  have T1 : Hid (w1.rowIs w.heap.size 28 13 (ivs (fun _ => (0 : Int)))) := hx1.rowIs (row13_alloc w 28 (ivs (fun _ => (0 : Int))))
  clear hx1 X0
  go_wp2_with fail
  refine (seal_any (some ⟨b, o, none⟩) 128 c B _ (by omega) (by have := HCC.out; omega) (HB.out.ext X1.out)).mono ?_
  rintro e w2 ⟨rfl, hx2⟩
  rw [← HV2.out]
  have X2 : Hid (Ext w w2) := X1.out.trans hx2
  have T2 : Hid (w2.rowIs w.heap.size 28 13 (ivs (fun _ => (0 : Int)))) := hx2.rowIs T1.out
  clear hx2 T1 X1
  have X3 : Hid (Ext w (w2.alloc (.cells #[.int .i64 ((fun _ => (0 : Int)) 0), .int .i64 ((fun _ => (0 : Int)) 1), .int .i64 ((fun _ => (0 : Int)) 2), .int .i64 ((fun _ => (0 : Int)) 3), .int .i64 ((fun _ => (0 : Int)) 4), .int .i64 ((fun _ => (0 : Int)) 5), .int .i64 ((fun _ => (0 : Int)) 6), .int .i64 ((fun _ => (0 : Int)) 7), .int .i64 ((fun _ => (0 : Int)) 8), .int .i64 ((fun _ => (0 : Int)) 9), .int .i64 ((fun _ => (0 : Int)) 10), .int .i64 ((fun _ => (0 : Int)) 11), .int .i64 ((fun _ => (0 : Int)) 12)] 28))) := X2.out.alloc _ _
  have T3 : Hid ((w2.alloc (.cells #[.int .i64 ((fun _ => (0 : Int)) 0), .int .i64 ((fun _ => (0 : Int)) 1), .int .i64 ((fun _ => (0 : Int)) 2), .int .i64 ((fun _ => (0 : Int)) 3), .int .i64 ((fun _ => (0 : Int)) 4), .int .i64 ((fun _ => (0 : Int)) 5), .int .i64 ((fun _ => (0 : Int)) 6), .int .i64 ((fun _ => (0 : Int)) 7), .int .i64 ((fun _ => (0 : Int)) 8), .int .i64 ((fun _ => (0 : Int)) 9), .int .i64 ((fun _ => (0 : Int)) 10), .int .i64 ((fun _ => (0 : Int)) 11), .int .i64 ((fun _ => (0 : Int)) 12)] 28)).rowIs w.heap.size 28 13 (ivs (fun _ => (0 : Int)))) := T2.out.alloc _
  have R3 : Hid ((w2.alloc (.cells #[.int .i64 ((fun _ => (0 : Int)) 0), .int .i64 ((fun _ => (0 : Int)) 1), .int .i64 ((fun _ => (0 : Int)) 2), .int .i64 ((fun _ => (0 : Int)) 3), .int .i64 ((fun _ => (0 : Int)) 4), .int .i64 ((fun _ => (0 : Int)) 5), .int .i64 ((fun _ => (0 : Int)) 6), .int .i64 ((fun _ => (0 : Int)) 7), .int .i64 ((fun _ => (0 : Int)) 8), .int .i64 ((fun _ => (0 : Int)) 9), .int .i64 ((fun _ => (0 : Int)) 10), .int .i64 ((fun _ => (0 : Int)) 11), .int .i64 ((fun _ => (0 : Int)) 12)] 28)).rowIs w2.heap.size 28 13 (ivs (prK B 0))) := row13_alloc w2 28 (ivs (fun _ => (0 : Int)))
  have hgt : w.heap.size < w2.heap.size := T2.out.lt
  go_upto_region 6 with fail
  clear hgd hneq T2 X2 HV1 HV2
  generalize w2.alloc (.cells #[.int .i64 ((fun _ => (0 : Int)) 0), .int .i64 ((fun _ => (0 : Int)) 1), .int .i64 ((fun _ => (0 : Int)) 2), .int .i64 ((fun _ => (0 : Int)) 3), .int .i64 ((fun _ => (0 : Int)) 4), .int .i64 ((fun _ => (0 : Int)) 5), .int .i64 ((fun _ => (0 : Int)) 6), .int .i64 ((fun _ => (0 : Int)) 7), .int .i64 ((fun _ => (0 : Int)) 8), .int .i64 ((fun _ => (0 : Int)) 9), .int .i64 ((fun _ => (0 : Int)) 10), .int .i64 ((fun _ => (0 : Int)) 11), .int .i64 ((fun _ => (0 : Int)) 12)] 28) = w3 at *
  generalize w2.heap.size = g at *
  go_wp2_with fail
  refine (numbers_any g _).mono ?_
  rintro e w4 ⟨rfl, hx4⟩
  have X4 : Hid (Ext w w4) := X3.out.trans hx4
  have T4 : Hid (w4.rowIs w.heap.size 28 13 (ivs (fun _ => (0 : Int)))) := hx4.rowIs T3.out
  have R4 : Hid (w4.rowIs g 28 13 (ivs (prK B 0))) := hx4.rowIs R3.out
  clear hx4 X3 T3 R3
  go_wp2_with fail
  go_loopw [21] (fun i wr => ∃ k : Nat, k ≤ 9 ∧ i = .int .i64 k ∧ Wro (· = g) w4 wr ∧ wr.rowIs g 28 13 (ivs (prK B k))) (fun i _ => 9 - (intOf i).toNat)
  case atStart => exact ⟨0, Nat.zero_le _, rfl, Wro.refl _ _, R4.out⟩
  case round =>
    obtain ⟨k, hk, rfl, hx, hr⟩ := hrel
    have HR : Hid (wr.rowIs g 28 13 (ivs (prK B k))) := hr
    have XW : Hid (Ext w wr) := Wro.after X4.out hx (fun i hi => by omega)
    clear hr R4
    by_cases hlt : k < 9
    · obtain ⟨p, hp⟩ : ∃ p : Nat, p = 4 * k := ⟨_, rfl⟩
      have hcc := HCC.out
      have hslk := sub_lh (P := Try.prog) Try.underlying22 size8 (some ⟨b, o, none⟩) 128 c p 4 (by omega) (p : Int) ((p : Int) + 4) rfl (by omega)
      rw [subA_some (by omega)] at hslk
      have hix := index_arr (P := Try.prog) Try.underlying53 Try.underlying52 (by kernel_rfl) #[.pointer (some ⟨g, 0, none⟩), .pointer (some ⟨g, 1, none⟩), .pointer (some ⟨g, 2, none⟩), .pointer (some ⟨g, 3, none⟩), .pointer (some ⟨g, 4, none⟩), .pointer (some ⟨g, 5, none⟩), .pointer (some ⟨g, 6, none⟩), .pointer (some ⟨g, 7, none⟩), .pointer (some ⟨g, 8, none⟩)] k hlt (.pointer (some ⟨g, k, none⟩)) (by
        match k, hlt with
    | 0, _ => rfl
    | 1, _ => rfl
    | 2, _ => rfl
    | 3, _ => rfl
    | 4, _ => rfl
    | 5, _ => rfl
    | 6, _ => rfl
    | 7, _ => rfl
    | 8, _ => rfl)
      have hw1 : IntKind.i64.wrap ((k : Int) * 4) = (p : Int) := by rw [IntKind.wrap_i64]; omega
      have hw2 : IntKind.i64.wrap ((k : Int) + 1) = (k : Int) + 1 := by rw [IntKind.wrap_i64]; omega
      have hw3 : IntKind.i64.wrap (((k : Int) + 1) * 4) = (p : Int) + 4 := by rw [IntKind.wrap_i64]; omega
      have hw4 : (k : Int) * 4 = (p : Int) := by omega
      have hw5 : ((k : Int) + 1) * 4 = (p : Int) + 4 := by omega
      have HP : Hid (p = 4 * k) := hp
      have hpb : p + 4 ≤ 128 := by omega
      clear hp hcc
      go_wp2_with fail
      refine (read_any b (o + p) 4 _ (fun i => B (p + i)) _ (by omega) fun i hi => ?_).mono ?_
      · rw [Nat.add_assoc]
        exact XW.out.keeps (HC.out (p + i) (by omega))
      rintro e w5 ⟨rfl, hx5⟩
      have hck := (hx5.rowIs HR.out).cell (i := k) (by omega)
      have hfk := (hx5.rowIs HR.out).frozen k
      rw [show ivs (prK B k) k = .int .i64 0 by unfold ivs prK; rw [if_neg (by omega)]] at hck
      have HVV : Hid (wrap64 (rdN (fun i => B (p + i)) 4) = prs B k) := by
        have e := HP.out
        subst e
        exact prs_4 B k hlt
      rw [HVV.out]
      clear hw1 hw2 hw3 hw4 hw5 hix hslk
      go_wp2_with fail
      go_roundw
      case rel =>
        exact ⟨k + 1, by omega, by go_num, (hx.then_ext hx5).setCell (p := ⟨g, k, none⟩) rfl _, ((hx5.rowIs HR.out).set k _).congr fun i _ => prK_put B k _ rfl i⟩
      case measure => simp [intOf]; omega
    · obtain rfl : k = 9 := by omega
      have T5 : Hid (wr.rowIs w.heap.size 28 13 (ivs (fun _ => (0 : Int)))) := hx.rowIs T4.out (by show ¬ w.heap.size = g; omega)
      have hs2 : ∀ v, (Instr.slice 22 (.slice (some ⟨b, o, none⟩) 128 c) (some (.int .i64 36)) none none).run Try.prog v = .ok (.slice (some ⟨b, o + 36, none⟩) 92 (c - 36)) v := fun v => by
        have hcc := HCC.out
        have := sub_l (P := Try.prog) Try.underlying22 size8 (some ⟨b, o, none⟩) 128 c 36 (by omega) 36 rfl v
        rw [subA_some (by omega)] at this
        exact this
      clear hx T4 X4 hlt hk hs1
      go_wp2_with fail
      refine (readSum_any b (o + 36) 92 (c - 36) (fun i => B (36 + i)) _ (by have := HCC.out; omega) fun i hi => ?_).mono ?_
      · rw [Nat.add_assoc]
        exact XW.out.keeps (HC.out (36 + i) (by omega))
      rintro e w6 ⟨rfl, hx6⟩
      rw [prs_8, prs_8, prs_8, prs_8]
      simp only [Nat.reduceAdd]
      have R6 : Hid (w6.rowIs g 28 13 (ivs (prK B 9))) := hx6.rowIs HR.out
      have T6 : Hid (w6.rowIs w.heap.size 28 13 (ivs (fun _ => (0 : Int)))) := hx6.rowIs T5.out
      have X6 : Hid (Ext w w6) := XW.out.trans hx6
      have c9 := R6.out.cell (i := 9) (by omega)
      have c10 := R6.out.cell (i := 10) (by omega)
      have c11 := R6.out.cell (i := 11) (by omega)
      have c12 := R6.out.cell (i := 12) (by omega)
      have f9 := R6.out.frozen 9
      have f10 := R6.out.frozen 10
      have f11 := R6.out.frozen 11
      have f12 := R6.out.frozen 12
      unfold ivs at c9 c10 c11 c12
      clear hx6 XW T5 HR hs2
      go_upto_region 12 with fail
      clear c9 c10 c11 c12 f9 f10 f11 f12
      have T7 : Hid (((((w6.setCell ⟨g, 9, none⟩ (.int .i64 (prs B 9))).setCell ⟨g, 10, none⟩ (.int .i64 (prs B 10))).setCell ⟨g, 11, none⟩ (.int .i64 (prs B 11))).setCell ⟨g, 12, none⟩ (.int .i64 (prs B 12))).rowIs w.heap.size 28 13 (ivs (fun _ => (0 : Int)))) :=
        Wro.rowIs (S := (· = g)) (((((Wro.refl (· = g) w6).setCell (p := ⟨g, 9, none⟩) rfl _).setCell (p := ⟨g, 10, none⟩) rfl _).setCell (p := ⟨g, 11, none⟩) rfl _).setCell (p := ⟨g, 12, none⟩) rfl _) T6.out (by show ¬ w.heap.size = g; omega)
      obtain ⟨HR7, HX7⟩ := put4at9 B X6.out (by omega) R6.out
      clear R6 T6 X6
      generalize ((((w6.setCell ⟨g, 9, none⟩ (.int .i64 (prs B 9))).setCell ⟨g, 10, none⟩ (.int .i64 (prs B 10))).setCell ⟨g, 11, none⟩ (.int .i64 (prs B 11))).setCell ⟨g, 12, none⟩ (.int .i64 (prs B 12))) = w7 at *
      have q0 := HR7.out.cell (i := 0) (by omega)
      have q1 := HR7.out.cell (i := 1) (by omega)
      have q2 := HR7.out.cell (i := 2) (by omega)
      have q3 := HR7.out.cell (i := 3) (by omega)
      have q4 := HR7.out.cell (i := 4) (by omega)
      have q5 := HR7.out.cell (i := 5) (by omega)
      have q6 := HR7.out.cell (i := 6) (by omega)
      have q7 := HR7.out.cell (i := 7) (by omega)
      have q8 := HR7.out.cell (i := 8) (by omega)
      have q9 := HR7.out.cell (i := 9) (by omega)
      have q10 := HR7.out.cell (i := 10) (by omega)
      have q11 := HR7.out.cell (i := 11) (by omega)
      have q12 := HR7.out.cell (i := 12) (by omega)
      unfold ivs at q0 q1 q2 q3 q4 q5 q6 q7 q8 q9 q10 q11 q12
      go_wp2_with fail
      clear q0 q1 q2 q3 q4 q5 q6 q7 q8 q9 q10 q11 q12
      by_cases hm : mayL (prs B) = true
      · refine (Encode_t (prs B) _ hm).mono ?_
        rintro e w8 ⟨⟨g8, hg8, rfl, hr8⟩, hx8⟩
        have X8 : Hid (Ext w w8) := HX7.out.trans hx8
        have T8 : Hid (w8.rowIs w.heap.size 28 13 (ivs (fun _ => (0 : Int)))) := hx8.rowIs T7.out
        have R8 : Hid (w8.rowIs g 28 13 (ivs (prs B))) := hx8.rowIs HR7.out
        have G8 : Hid (Byts w8 (some ⟨g8, 0, none⟩) 128 (sec (prs B))) := Byts.row hr8 (Nat.le_refl _)
        clear hx8 hr8 T7 HR7 HX7
        go_wp2_with fail
        refine (Equal_any (some ⟨g8, 0, none⟩) (some ⟨b, o, none⟩) 128 128 c (sec (prs B)) B _ (by omega) G8.out (HB.out.ext X8.out)).mono ?_
        rintro e w9 ⟨rfl, rfl⟩
        rw [HOW.out]
        have c0 := T8.out.cell (i := 0) (by omega)
        have f0 := T8.out.frozen 0
        have c1 := T8.out.cell (i := 1) (by omega)
        have f1 := T8.out.frozen 1
        have c2 := T8.out.cell (i := 2) (by omega)
        have f2 := T8.out.frozen 2
        have c3 := T8.out.cell (i := 3) (by omega)
        have f3 := T8.out.frozen 3
        have c4 := T8.out.cell (i := 4) (by omega)
        have f4 := T8.out.frozen 4
        have c5 := T8.out.cell (i := 5) (by omega)
        have f5 := T8.out.frozen 5
        have c6 := T8.out.cell (i := 6) (by omega)
        have f6 := T8.out.frozen 6
        have c7 := T8.out.cell (i := 7) (by omega)
        have f7 := T8.out.frozen 7
        have c8 := T8.out.cell (i := 8) (by omega)
        have f8 := T8.out.frozen 8
        have c9 := T8.out.cell (i := 9) (by omega)
        have f9 := T8.out.frozen 9
        have c10 := T8.out.cell (i := 10) (by omega)
        have f10 := T8.out.frozen 10
        have c11 := T8.out.cell (i := 11) (by omega)
        have f11 := T8.out.frozen 11
        have c12 := T8.out.cell (i := 12) (by omega)
        have f12 := T8.out.frozen 12
        unfold ivs at c0 c1 c2 c3 c4 c5 c6 c7 c8 c9 c10 c11 c12
        have q0 := R8.out.cell (i := 0) (by omega)
        have q1 := R8.out.cell (i := 1) (by omega)
        have q2 := R8.out.cell (i := 2) (by omega)
        have q3 := R8.out.cell (i := 3) (by omega)
        have q4 := R8.out.cell (i := 4) (by omega)
        have q5 := R8.out.cell (i := 5) (by omega)
        have q6 := R8.out.cell (i := 6) (by omega)
        have q7 := R8.out.cell (i := 7) (by omega)
        have q8 := R8.out.cell (i := 8) (by omega)
        have q9 := R8.out.cell (i := 9) (by omega)
        have q10 := R8.out.cell (i := 10) (by omega)
        have q11 := R8.out.cell (i := 11) (by omega)
        have q12 := R8.out.cell (i := 12) (by omega)
        unfold ivs at q0 q1 q2 q3 q4 q5 q6 q7 q8 q9 q10 q11 q12
        by_cases ho : ownB B = true
        · rw [ho]
          go_wp2_with fail
          have R9 := put13 (prs B) X8.out (Nat.le_refl _) T8.out
          have hin : (Try.prog.info? 28).map (·.size) = some 13 := by kernel_rfl
          refine bodyPost_ret (results_cell2 rfl _ _ w.heap.size 28 #[ivs (prs B) 0, ivs (prs B) 1, ivs (prs B) 2, ivs (prs B) 3, ivs (prs B) 4, ivs (prs B) 5, ivs (prs B) 6, ivs (prs B) 7, ivs (prs B) 8, ivs (prs B) 9, ivs (prs B) 10, ivs (prs B) 11, ivs (prs B) 12] (0, 0) _ (.int .i64 0) rfl rfl (row13 R9.1) Try.underlying28 rfl (in13 hin (ivs (prs B)))) rfl ?_
          exact ⟨fun _ _ => rfl, fun h => absurd ⟨hm, ho⟩ h, R9.2⟩
        · rw [show ownB B = false by simpa using ho]
          go_wp2_with fail
          have R9 := put13 (fun _ => (0 : Int)) X8.out (Nat.le_refl _) T8.out
          have hin : (Try.prog.info? 28).map (·.size) = some 13 := by kernel_rfl
          refine bodyPost_ret (results_cell2 rfl _ _ w.heap.size 28 #[ivs (fun _ => (0 : Int)) 0, ivs (fun _ => (0 : Int)) 1, ivs (fun _ => (0 : Int)) 2, ivs (fun _ => (0 : Int)) 3, ivs (fun _ => (0 : Int)) 4, ivs (fun _ => (0 : Int)) 5, ivs (fun _ => (0 : Int)) 6, ivs (fun _ => (0 : Int)) 7, ivs (fun _ => (0 : Int)) 8, ivs (fun _ => (0 : Int)) 9, ivs (fun _ => (0 : Int)) 10, ivs (fun _ => (0 : Int)) 11, ivs (fun _ => (0 : Int)) 12] (0, 0) _ (.int .i64 4) rfl rfl (row13 R9.1) Try.underlying28 rfl (in13 hin (ivs (fun _ => (0 : Int))))) rfl ?_
          exact ⟨fun _ h => absurd h ho, fun _ => rfl, R9.2⟩
      · refine (Encode_f (prs B) _ (by simpa using hm)).mono ?_
        rintro e w8 ⟨rfl, hx8⟩
        have X8 : Hid (Ext w w8) := HX7.out.trans hx8
        have T8 : Hid (w8.rowIs w.heap.size 28 13 (ivs (fun _ => (0 : Int)))) := hx8.rowIs T7.out
        clear hx8 T7 HR7 HX7
        have c0 := T8.out.cell (i := 0) (by omega)
        have f0 := T8.out.frozen 0
        have c1 := T8.out.cell (i := 1) (by omega)
        have f1 := T8.out.frozen 1
        have c2 := T8.out.cell (i := 2) (by omega)
        have f2 := T8.out.frozen 2
        have c3 := T8.out.cell (i := 3) (by omega)
        have f3 := T8.out.frozen 3
        have c4 := T8.out.cell (i := 4) (by omega)
        have f4 := T8.out.frozen 4
        have c5 := T8.out.cell (i := 5) (by omega)
        have f5 := T8.out.frozen 5
        have c6 := T8.out.cell (i := 6) (by omega)
        have f6 := T8.out.frozen 6
        have c7 := T8.out.cell (i := 7) (by omega)
        have f7 := T8.out.frozen 7
        have c8 := T8.out.cell (i := 8) (by omega)
        have f8 := T8.out.frozen 8
        have c9 := T8.out.cell (i := 9) (by omega)
        have f9 := T8.out.frozen 9
        have c10 := T8.out.cell (i := 10) (by omega)
        have f10 := T8.out.frozen 10
        have c11 := T8.out.cell (i := 11) (by omega)
        have f11 := T8.out.frozen 11
        have c12 := T8.out.cell (i := 12) (by omega)
        have f12 := T8.out.frozen 12
        unfold ivs at c0 c1 c2 c3 c4 c5 c6 c7 c8 c9 c10 c11 c12
        go_wp2_with fail
        have R9 := put13 (fun _ => (0 : Int)) X8.out (Nat.le_refl _) T8.out
        have hin : (Try.prog.info? 28).map (·.size) = some 13 := by kernel_rfl
        refine bodyPost_ret (results_cell2 rfl _ _ w.heap.size 28 #[ivs (fun _ => (0 : Int)) 0, ivs (fun _ => (0 : Int)) 1, ivs (fun _ => (0 : Int)) 2, ivs (fun _ => (0 : Int)) 3, ivs (fun _ => (0 : Int)) 4, ivs (fun _ => (0 : Int)) 5, ivs (fun _ => (0 : Int)) 6, ivs (fun _ => (0 : Int)) 7, ivs (fun _ => (0 : Int)) 8, ivs (fun _ => (0 : Int)) 9, ivs (fun _ => (0 : Int)) 10, ivs (fun _ => (0 : Int)) 11, ivs (fun _ => (0 : Int)) 12] (0, 0) _ (.int .i64 4) rfl rfl (row13 R9.1) Try.underlying28 rfl (in13 hin (ivs (fun _ => (0 : Int))))) rfl ?_
        exact ⟨fun h => absurd h hm, fun _ => rfl, R9.2⟩
theorem Decode_any (a : Option Addr) (n c : Nat) (B : Nat → E) (w : World) (hc : n ≤ c ∧ c ≤ 9223372036854775807) (h : Byts w a n B) :
    Calls Try.prog 9 #[.slice a n c] w fun e w' => e = .returned (.tuple #[.agg #[.int .i64 (decV n B 0), .int .i64 (decV n B 1), .int .i64 (decV n B 2), .int .i64 (decV n B 3), .int .i64 (decV n B 4), .int .i64 (decV n B 5), .int .i64 (decV n B 6), .int .i64 (decV n B 7), .int .i64 (decV n B 8), .int .i64 (decV n B 9), .int .i64 (decV n B 10), .int .i64 (decV n B 11), .int .i64 (decV n B 12)], .int .i64 (decE n B)]) ∧ Ext w w' := by
  by_cases hn : n = 128
  · subst hn
    by_cases hs : sealB B = true
    · refine (Decode_seal a c B w hc h hs).mono fun e w' hh => ?_
      obtain ⟨h1, h2, h3⟩ := hh
      refine ⟨?_, h3⟩
      by_cases hm : mayL (prs B) = true ∧ ownB B = true
      · have hE : decE 128 B = 0 := by unfold decE; rw [if_pos rfl, if_pos hs, if_pos hm]
        have hV : ∀ k, decV 128 B k = prs B k := fun k => by unfold decV; rw [if_pos hE]
        simp only [hE, hV]
        exact h1 hm.1 hm.2
      · have hE : decE 128 B = 4 := by unfold decE; rw [if_pos rfl, if_pos hs, if_neg hm]
        have hV : ∀ k, decV 128 B k = 0 := fun k => by unfold decV; rw [hE, if_neg (by decide)]
        simp only [hE, hV]
        exact h2 hm
    · have hs' : sealB B = false := by simpa using hs
      have hE : decE 128 B = 11 := by unfold decE; rw [if_pos rfl, if_neg hs]
      have hV : ∀ k, decV 128 B k = 0 := fun k => by unfold decV; rw [hE, if_neg (by decide)]
      simp only [hE, hV]
      exact Decode_sum a c B w hc h hs'
  · exact Decode_size a n c B w hn
end Go.Proofs.Ytemndnpbbkjmhab
