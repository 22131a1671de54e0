/-
  label.Decode at a list of bytes that has the size of a sector; the world only grows.
-/
import Derived.Test.YtemndnpbbkjmhabLabEnc
import Derived.Test.YtemndnpbbkjmhabLabEq
import Derived.Test.YtemndnpbbkjmhabLabCmp
import Derived.Test.YtemndnpbbkjmhabLabDec0
namespace Go.Proofs.Ytemndnpbbkjmhab
open Go.RowKit Go.Deep E
theorem rd8_96 (B : Nat → E) (k : Nat) : rd8 (fun i => B (96 + i)) k = rds B k := by
  unfold rd8 rds
  rw [rdN_congr (B' := fun i => B (96 + 8 * k + i)) 8 fun i _ => by show B (96 + (8 * k + i)) = B (96 + 8 * k + i); rw [Nat.add_assoc]]
theorem put13 {w0 w : World} {g : Nat} {t : TypeId} {f : Nat → Value} (S : Nat → Int) (x : Ext w0 w) (hg : w0.heap.size ≤ g) (h : w.rowIs g t 13 f) :
    (((((((((((((w.setCell ⟨g, 0, none⟩ (.int .i64 (S 0))).setCell ⟨g, 1, none⟩ (.int .i64 (S 1))).setCell ⟨g, 2, none⟩ (.int .i64 (S 2))).setCell ⟨g, 3, none⟩ (.int .i64 (S 3))).setCell ⟨g, 4, none⟩ (.int .i64 (S 4))).setCell ⟨g, 5, none⟩ (.int .i64 (S 5))).setCell ⟨g, 6, none⟩ (.int .i64 (S 6))).setCell ⟨g, 7, none⟩ (.int .i64 (S 7))).setCell ⟨g, 8, none⟩ (.int .i64 (S 8))).setCell ⟨g, 9, none⟩ (.int .i64 (S 9))).setCell ⟨g, 10, none⟩ (.int .i64 (S 10))).setCell ⟨g, 11, none⟩ (.int .i64 (S 11))).setCell ⟨g, 12, none⟩ (.int .i64 (S 12))).rowIs g t 13 (ivs S) ∧ Ext w0 (((((((((((((w.setCell ⟨g, 0, none⟩ (.int .i64 (S 0))).setCell ⟨g, 1, none⟩ (.int .i64 (S 1))).setCell ⟨g, 2, none⟩ (.int .i64 (S 2))).setCell ⟨g, 3, none⟩ (.int .i64 (S 3))).setCell ⟨g, 4, none⟩ (.int .i64 (S 4))).setCell ⟨g, 5, none⟩ (.int .i64 (S 5))).setCell ⟨g, 6, none⟩ (.int .i64 (S 6))).setCell ⟨g, 7, none⟩ (.int .i64 (S 7))).setCell ⟨g, 8, none⟩ (.int .i64 (S 8))).setCell ⟨g, 9, none⟩ (.int .i64 (S 9))).setCell ⟨g, 10, none⟩ (.int .i64 (S 10))).setCell ⟨g, 11, none⟩ (.int .i64 (S 11))).setCell ⟨g, 12, none⟩ (.int .i64 (S 12))) := by
  refine ⟨(((((((((((((h.set 0 _).set 1 _).set 2 _).set 3 _).set 4 _).set 5 _).set 6 _).set 7 _).set 8 _).set 9 _).set 10 _).set 11 _).set 12 _).congr fun i hi => ?_, (((((((((((((x.setCell (p := ⟨g, 0, none⟩) hg _).setCell (p := ⟨g, 1, none⟩) hg _).setCell (p := ⟨g, 2, none⟩) hg _).setCell (p := ⟨g, 3, none⟩) hg _).setCell (p := ⟨g, 4, none⟩) hg _).setCell (p := ⟨g, 5, none⟩) hg _).setCell (p := ⟨g, 6, none⟩) hg _).setCell (p := ⟨g, 7, none⟩) hg _).setCell (p := ⟨g, 8, none⟩) hg _).setCell (p := ⟨g, 9, none⟩) hg _).setCell (p := ⟨g, 10, none⟩) hg _).setCell (p := ⟨g, 11, none⟩) hg _).setCell (p := ⟨g, 12, none⟩) hg _)⟩
  match i, hi with
    | 0, _ => rfl
    | 1, _ => rfl
    | 2, _ => rfl
    | 3, _ => rfl
    | 4, _ => rfl
    | 5, _ => rfl
    | 6, _ => rfl
    | 7, _ => rfl
    | 8, _ => rfl
    | 9, _ => rfl
    | 10, _ => rfl
    | 11, _ => rfl
    | 12, _ => rfl
theorem row13 {w : World} {g : Nat} {t : TypeId} {f : Nat → Value} (h : w.rowIs g t 13 f) : w.heap[g]? = some (.cells #[f 0, f 1, f 2, f 3, f 4, f 5, f 6, f 7, f 8, f 9, f 10, f 11, f 12] t (0, 0)) :=
  rowN #[f 0, f 1, f 2, f 3, f 4, f 5, f 6, f 7, f 8, f 9, f 10, f 11, f 12] h rfl fun i hi => by
    match i, hi with
    | 0, _ => rfl
    | 1, _ => rfl
    | 2, _ => rfl
    | 3, _ => rfl
    | 4, _ => rfl
    | 5, _ => rfl
    | 6, _ => rfl
    | 7, _ => rfl
    | 8, _ => rfl
    | 9, _ => rfl
    | 10, _ => rfl
    | 11, _ => rfl
    | 12, _ => rfl
theorem in13 {t : TypeId} (h : (Try.prog.info? t).map (·.size) = some 13) (f : Nat → Value) : (Try.prog.info? t).map (·.size) = some (#[f 0, f 1, f 2, f 3, f 4, f 5, f 6, f 7, f 8, f 9, f 10, f 11, f 12] : Array Value).size := h
set_option maxRecDepth 100000 in
set_option maxHeartbeats 3200000 in
theorem Decode_sum (a : Option Addr) (c : Nat) (B : Nat → E) (w : World) (hc : 128 ≤ c ∧ c ≤ 9223372036854775807) (h : Byts w a 128 B) (hs : sealB B = false) :
    Calls Try.prog 9 #[.slice a 128 c] w fun e w' => e = .returned (.tuple #[.agg #[.int .i64 ((fun _ => (0 : Int)) 0), .int .i64 ((fun _ => (0 : Int)) 1), .int .i64 ((fun _ => (0 : Int)) 2), .int .i64 ((fun _ => (0 : Int)) 3), .int .i64 ((fun _ => (0 : Int)) 4), .int .i64 ((fun _ => (0 : Int)) 5), .int .i64 ((fun _ => (0 : Int)) 6), .int .i64 ((fun _ => (0 : Int)) 7), .int .i64 ((fun _ => (0 : Int)) 8), .int .i64 ((fun _ => (0 : Int)) 9), .int .i64 ((fun _ => (0 : Int)) 10), .int .i64 ((fun _ => (0 : Int)) 11), .int .i64 ((fun _ => (0 : Int)) 12)], .int .i64 11]) ∧ Ext w w' := by
  obtain ⟨b, o, rfl, hcell⟩ := h.at (by omega)
  have HC : Hid (∀ i, i < 128 → w.cell? ⟨b, o + i, none⟩ = some (.int .u8 (ev (B i)))) := hcell
  have HB : Hid (Byts w (some ⟨b, o, none⟩) 128 B) := h
  have hs1 : ∀ v, (Instr.slice 22 (.slice (some ⟨b, o, none⟩) 128 c) (some (.int .i64 96)) none none).run Try.prog v = .ok (.slice (some ⟨b, o + 96, none⟩) 32 (c - 96)) v := fun v => by
    have := sub_l (P := Try.prog) Try.underlying22 size8 (some ⟨b, o, none⟩) 128 c 96 (by omega) 96 rfl v
    rw [subA_some (by omega)] at this
    exact this
  have HCC : Hid (128 ≤ c ∧ c ≤ 9223372036854775807) := hc
  obtain ⟨V1, hV1⟩ : ∃ V, V = Value.agg #[.int .i64 (rds B 0), .int .i64 (rds B 1), .int .i64 (rds B 2), .int .i64 (rds B 3)] := ⟨_, rfl⟩
  obtain ⟨V2, hV2⟩ : ∃ V, V = Value.agg #[.int .i64 (sealV B 0), .int .i64 (sealV B 1), .int .i64 (sealV B 2), .int .i64 (sealV B 3)] := ⟨_, rfl⟩
  have hgd : ∀ v, (eqGuard .neq 24 (.tmp 15) (.tmp 17) V1 V2).run Try.prog v = .ok () v := fun v => by rw [hV1, hV2]; exact guardSum _ _ _ _ v
  have hneq : ∀ v, (binOp .neq 24 V1 V2).run Try.prog v = .ok (.bool true) v := fun v => by
    rw [hV1, hV2, neqSum, hs]
    rfl
  have HV1 : Hid (V1 = Value.agg #[.int .i64 (rds B 0), .int .i64 (rds B 1), .int .i64 (rds B 2), .int .i64 (rds B 3)]) := hV1
  have HV2 : Hid (V2 = Value.agg #[.int .i64 (sealV B 0), .int .i64 (sealV B 1), .int .i64 (sealV B 2), .int .i64 (sealV B 3)]) := hV2
  clear h hcell hc hV1 hV2 hs
  go_enter Try.func9, Try.ntmps9
  go_wp2_with fail
  have X0 : Hid (Ext w (w.alloc (.cells #[.int .i64 ((fun _ => (0 : Int)) 0), .int .i64 ((fun _ => (0 : Int)) 1), .int .i64 ((fun _ => (0 : Int)) 2), .int .i64 ((fun _ => (0 : Int)) 3), .int .i64 ((fun _ => (0 : Int)) 4), .int .i64 ((fun _ => (0 : Int)) 5), .int .i64 ((fun _ => (0 : Int)) 6), .int .i64 ((fun _ => (0 : Int)) 7), .int .i64 ((fun _ => (0 : Int)) 8), .int .i64 ((fun _ => (0 : Int)) 9), .int .i64 ((fun _ => (0 : Int)) 10), .int .i64 ((fun _ => (0 : Int)) 11), .int .i64 ((fun _ => (0 : Int)) 12)] 28))) := (Ext.refl _).alloc _ _
  refine (readSum_any b (o + 96) 32 (c - 96) (fun i => B (96 + i)) _ (by have := HCC.out; omega) fun i hi => ?_).mono ?_
  · rw [Nat.add_assoc]
    exact X0.out.keeps (HC.out (96 + i) (by omega))
  rintro e w1 ⟨rfl, hx1⟩
  rw [rd8_96, rd8_96, rd8_96, rd8_96, ← HV1.out]
  have X1 : Hid (Ext w w1) := X0.out.trans hx1
  have T1 : Hid (w1.rowIs w.heap.size 28 13 (ivs (fun _ => (0 : Int)))) := hx1.rowIs (row13_alloc w 28 (ivs (fun _ => (0 : Int))))
  clear hx1 X0
  go_wp2_with fail
  refine (seal_any (some ⟨b, o, none⟩) 128 c B _ (by omega) (by have := HCC.out; omega) (HB.out.ext X1.out)).mono ?_
  rintro e w2 ⟨rfl, hx2⟩
  rw [← HV2.out]
  have X2 : Hid (Ext w w2) := X1.out.trans hx2
  have T2 : Hid (w2.rowIs w.heap.size 28 13 (ivs (fun _ => (0 : Int)))) := hx2.rowIs T1.out
  clear hx2 T1 X1
  have c0 := T2.out.cell (i := 0) (by omega)
  have f0 := T2.out.frozen 0
  have c1 := T2.out.cell (i := 1) (by omega)
  have f1 := T2.out.frozen 1
  have c2 := T2.out.cell (i := 2) (by omega)
  have f2 := T2.out.frozen 2
  have c3 := T2.out.cell (i := 3) (by omega)
  have f3 := T2.out.frozen 3
  have c4 := T2.out.cell (i := 4) (by omega)
  have f4 := T2.out.frozen 4
  have c5 := T2.out.cell (i := 5) (by omega)
  have f5 := T2.out.frozen 5
  have c6 := T2.out.cell (i := 6) (by omega)
  have f6 := T2.out.frozen 6
  have c7 := T2.out.cell (i := 7) (by omega)
  have f7 := T2.out.frozen 7
  have c8 := T2.out.cell (i := 8) (by omega)
  have f8 := T2.out.frozen 8
  have c9 := T2.out.cell (i := 9) (by omega)
  have f9 := T2.out.frozen 9
  have c10 := T2.out.cell (i := 10) (by omega)
  have f10 := T2.out.frozen 10
  have c11 := T2.out.cell (i := 11) (by omega)
  have f11 := T2.out.frozen 11
  have c12 := T2.out.cell (i := 12) (by omega)
  have f12 := T2.out.frozen 12
  unfold ivs at c0 c1 c2 c3 c4 c5 c6 c7 c8 c9 c10 c11 c12
  go_wp2_with fail
  have R9 := put13 (fun _ => (0 : Int)) X2.out (Nat.le_refl _) T2.out
  have hin : (Try.prog.info? 28).map (·.size) = some 13 := by kernel_rfl
  refine bodyPost_ret (results_cell2 rfl _ _ w.heap.size 28 #[ivs (fun _ => (0 : Int)) 0, ivs (fun _ => (0 : Int)) 1, ivs (fun _ => (0 : Int)) 2, ivs (fun _ => (0 : Int)) 3, ivs (fun _ => (0 : Int)) 4, ivs (fun _ => (0 : Int)) 5, ivs (fun _ => (0 : Int)) 6, ivs (fun _ => (0 : Int)) 7, ivs (fun _ => (0 : Int)) 8, ivs (fun _ => (0 : Int)) 9, ivs (fun _ => (0 : Int)) 10, ivs (fun _ => (0 : Int)) 11, ivs (fun _ => (0 : Int)) 12] (0, 0) _ (.int .i64 11) rfl rfl (row13 R9.1) Try.underlying28 rfl (in13 hin (ivs (fun _ => (0 : Int))))) rfl ?_
  exact ⟨rfl, R9.2⟩
end Go.Proofs.Ytemndnpbbkjmhab
