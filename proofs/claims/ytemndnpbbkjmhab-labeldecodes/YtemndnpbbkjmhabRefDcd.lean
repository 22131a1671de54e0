/-
  The document's LabelDecoded at every list of bytes; the world only grows.
-/
import Derived.Deep.CutRange
import Derived.Deep.RegionWith
import Derived.Test.YtemndnpbbkjmhabRefDec
namespace Go.Proofs.Ytemndnpbbkjmhab
open Go.RowKit Go.Deep E
theorem eqB32 (B : Nat → E) : eqB 32 (sby (sealV B)) (fun i => B (96 + i)) = sealB B := by
  rw [Bool.eq_iff_iff, eqB_iff]
  constructor
  · intro h
    refine sealB_of fun k hk j hj => ?_
    have := h (8 * k + j) (by omega)
    rw [sby_at _ k j hj] at this
    rw [this, Nat.add_assoc]
  · intro h i hi
    have := seal_bytes h (i / 8) (by omega) (i % 8) (by omega)
    unfold sby
    rw [← this]
    congr 1
    omega
theorem eqB96 (B : Nat → E) : eqB 96 (hd (prs B)) B = ownB B := rfl
set_option maxRecDepth 100000 in
set_option maxHeartbeats 1600000 in
theorem LabelDecoded_size (a : Option Addr) (n c : Nat) (B : Nat → E) (w : World) (hn : n ≠ 128) :
    Calls Try.prog 11 #[.slice a n c] w fun e w' => e = .returned (.tuple #[.agg #[.int .i64 (decV n B 0), .int .i64 (decV n B 1), .int .i64 (decV n B 2), .int .i64 (decV n B 3), .int .i64 (decV n B 4), .int .i64 (decV n B 5), .int .i64 (decV n B 6), .int .i64 (decV n B 7), .int .i64 (decV n B 8), .int .i64 (decV n B 9), .int .i64 (decV n B 10), .int .i64 (decV n B 11), .int .i64 (decV n B 12)], .int .i64 (decE n B)]) ∧ Ext w w' := by
  have hE : decE n B = 1 := by unfold decE; rw [if_neg hn]
  have hV : ∀ k, decV n B k = 0 := fun k => by unfold decV; rw [hE, if_neg (by decide)]
  have hm : ((n : Int) != 128) = true := by rw [bne_iff_ne]; omega
  simp only [hE, hV]
  clear hE hV hn
  go_enter Try.func11, Try.ntmps11
  go_wp2_with fail
  refine bodyPost_ret (v := .tuple #[.agg #[.int .i64 ((fun _ => (0 : Int)) 0), .int .i64 ((fun _ => (0 : Int)) 1), .int .i64 ((fun _ => (0 : Int)) 2), .int .i64 ((fun _ => (0 : Int)) 3), .int .i64 ((fun _ => (0 : Int)) 4), .int .i64 ((fun _ => (0 : Int)) 5), .int .i64 ((fun _ => (0 : Int)) 6), .int .i64 ((fun _ => (0 : Int)) 7), .int .i64 ((fun _ => (0 : Int)) 8), .int .i64 ((fun _ => (0 : Int)) 9), .int .i64 ((fun _ => (0 : Int)) 10), .int .i64 ((fun _ => (0 : Int)) 11), .int .i64 ((fun _ => (0 : Int)) 12)], .int .i64 1]) (by simp [results, Try.results11, go_sem]) rfl ⟨rfl, ?_⟩
  exact ((Ext.refl _).alloc _ _).alloc _ _
set_option maxRecDepth 100000 in
set_option maxHeartbeats 3200000 in
theorem LabelDecoded_sum (a : Option Addr) (c : Nat) (B : Nat → E) (w : World) (hc : 128 ≤ c ∧ c ≤ 9223372036854775807) (h : Byts w a 128 B) (hs : sealB B = false) :
    Calls Try.prog 11 #[.slice a 128 c] w fun e w' => e = .returned (.tuple #[.agg #[.int .i64 ((fun _ => (0 : Int)) 0), .int .i64 ((fun _ => (0 : Int)) 1), .int .i64 ((fun _ => (0 : Int)) 2), .int .i64 ((fun _ => (0 : Int)) 3), .int .i64 ((fun _ => (0 : Int)) 4), .int .i64 ((fun _ => (0 : Int)) 5), .int .i64 ((fun _ => (0 : Int)) 6), .int .i64 ((fun _ => (0 : Int)) 7), .int .i64 ((fun _ => (0 : Int)) 8), .int .i64 ((fun _ => (0 : Int)) 9), .int .i64 ((fun _ => (0 : Int)) 10), .int .i64 ((fun _ => (0 : Int)) 11), .int .i64 ((fun _ => (0 : Int)) 12)], .int .i64 11]) ∧ Ext w w' := by
  obtain ⟨b, o, rfl, hcell⟩ := h.at (by omega)
  have HC : Hid (∀ i, i < 128 → w.cell? ⟨b, o + i, none⟩ = some (.int .u8 (ev (B i)))) := hcell
  have HB : Hid (Byts w (some ⟨b, o, none⟩) 128 B) := h
  have hs1 : ∀ v, (Instr.slice 22 (.slice (some ⟨b, o, none⟩) 128 c) (some (.int .i64 96)) none none).run Try.prog v = .ok (.slice (some ⟨b, o + 96, none⟩) 32 (c - 96)) v := fun v => by
    have := sub_l (P := Try.prog) Try.underlying22 size8 (some ⟨b, o, none⟩) 128 c 96 (by omega) 96 rfl v
    rw [subA_some (by omega)] at this
    exact this
  have hs0 : ∀ v, (Instr.slice 22 (.slice (some ⟨b, o, none⟩) 128 c) none (some (.int .i64 96)) none).run Try.prog v = .ok (.slice (some ⟨b, o, none⟩) 96 c) v := fun v => by
    have := sub_h (P := Try.prog) Try.underlying22 size8 (some ⟨b, o, none⟩) 128 c 96 (by omega) 96 rfl v
    rw [subA_some (by omega)] at this
    exact this
  have HB96 : Hid (Byts w (some ⟨b, o, none⟩) 96 B) := fun i hi => h i (by omega)
  have HB32 : Hid (Byts w (some ⟨b, o + 96, none⟩) 32 fun i => B (96 + i)) := Byts.mk fun i hi => by rw [Nat.add_assoc]; exact hcell (96 + i) (by omega)
  have HCC : Hid (128 ≤ c ∧ c ≤ 9223372036854775807) := hc
  have HEQ : Hid (eqB 32 (sby (sealV B)) (fun i => B (96 + i)) = false) := by rw [← hs]; exact eqB32 B
  have Q0 : Hid (((w.alloc (.cells #[.slice (some ⟨b, o, none⟩) 128 c] 22)).alloc (.cells #[.int .i64 ((fun _ => (0 : Int)) 0), .int .i64 ((fun _ => (0 : Int)) 1), .int .i64 ((fun _ => (0 : Int)) 2), .int .i64 ((fun _ => (0 : Int)) 3), .int .i64 ((fun _ => (0 : Int)) 4), .int .i64 ((fun _ => (0 : Int)) 5), .int .i64 ((fun _ => (0 : Int)) 6), .int .i64 ((fun _ => (0 : Int)) 7), .int .i64 ((fun _ => (0 : Int)) 8), .int .i64 ((fun _ => (0 : Int)) 9), .int .i64 ((fun _ => (0 : Int)) 10), .int .i64 ((fun _ => (0 : Int)) 11), .int .i64 ((fun _ => (0 : Int)) 12)] 28)).cell? ⟨w.heap.size, 0, none⟩ = some (.slice (some ⟨b, o, none⟩) 128 c)) := alloc_keeps (by rw [new_cell]; rfl) _
  have X0 : Hid (Ext w ((w.alloc (.cells #[.slice (some ⟨b, o, none⟩) 128 c] 22)).alloc (.cells #[.int .i64 ((fun _ => (0 : Int)) 0), .int .i64 ((fun _ => (0 : Int)) 1), .int .i64 ((fun _ => (0 : Int)) 2), .int .i64 ((fun _ => (0 : Int)) 3), .int .i64 ((fun _ => (0 : Int)) 4), .int .i64 ((fun _ => (0 : Int)) 5), .int .i64 ((fun _ => (0 : Int)) 6), .int .i64 ((fun _ => (0 : Int)) 7), .int .i64 ((fun _ => (0 : Int)) 8), .int .i64 ((fun _ => (0 : Int)) 9), .int .i64 ((fun _ => (0 : Int)) 10), .int .i64 ((fun _ => (0 : Int)) 11), .int .i64 ((fun _ => (0 : Int)) 12)] 28))) := ((Ext.refl _).alloc _ _).alloc _ _
  have T0 : Hid (((w.alloc (.cells #[.slice (some ⟨b, o, none⟩) 128 c] 22)).alloc (.cells #[.int .i64 ((fun _ => (0 : Int)) 0), .int .i64 ((fun _ => (0 : Int)) 1), .int .i64 ((fun _ => (0 : Int)) 2), .int .i64 ((fun _ => (0 : Int)) 3), .int .i64 ((fun _ => (0 : Int)) 4), .int .i64 ((fun _ => (0 : Int)) 5), .int .i64 ((fun _ => (0 : Int)) 6), .int .i64 ((fun _ => (0 : Int)) 7), .int .i64 ((fun _ => (0 : Int)) 8), .int .i64 ((fun _ => (0 : Int)) 9), .int .i64 ((fun _ => (0 : Int)) 10), .int .i64 ((fun _ => (0 : Int)) 11), .int .i64 ((fun _ => (0 : Int)) 12)] 28)).rowIs (w.heap.size + 1) 28 13 (ivs (fun _ => (0 : Int)))) := by
    have := row13_alloc (w.alloc (.cells #[.slice (some ⟨b, o, none⟩) 128 c] 22)) 28 (ivs (fun _ => (0 : Int)))
    simp only [World.size_alloc] at this
    exact this
  clear h hcell hc hs
  go_enter Try.func11, Try.ntmps11
  go_wp2_with fail
  generalize ((w.alloc (.cells #[.slice (some ⟨b, o, none⟩) 128 c] 22)).alloc (.cells #[.int .i64 ((fun _ => (0 : Int)) 0), .int .i64 ((fun _ => (0 : Int)) 1), .int .i64 ((fun _ => (0 : Int)) 2), .int .i64 ((fun _ => (0 : Int)) 3), .int .i64 ((fun _ => (0 : Int)) 4), .int .i64 ((fun _ => (0 : Int)) 5), .int .i64 ((fun _ => (0 : Int)) 6), .int .i64 ((fun _ => (0 : Int)) 7), .int .i64 ((fun _ => (0 : Int)) 8), .int .i64 ((fun _ => (0 : Int)) 9), .int .i64 ((fun _ => (0 : Int)) 10), .int .i64 ((fun _ => (0 : Int)) 11), .int .i64 ((fun _ => (0 : Int)) 12)] 28)) = w0 at *
  refine (SumMore_seal (some ⟨b, o, none⟩) c B _ (HB96.out.ext X0.out)).mono ?_
  rintro e w1 ⟨rfl, hx1⟩
  have X2 : Hid (Ext w (w1.alloc (.cells #[.int .i64 (sealV B 0), .int .i64 (sealV B 1), .int .i64 (sealV B 2), .int .i64 (sealV B 3)] 24))) := (X0.out.trans hx1).alloc _ _
  have T2 : Hid ((w1.alloc (.cells #[.int .i64 (sealV B 0), .int .i64 (sealV B 1), .int .i64 (sealV B 2), .int .i64 (sealV B 3)] 24)).rowIs (w.heap.size + 1) 28 13 (ivs (fun _ => (0 : Int)))) := (hx1.rowIs T0.out).alloc _
  have S2 : Hid ((w1.alloc (.cells #[.int .i64 (sealV B 0), .int .i64 (sealV B 1), .int .i64 (sealV B 2), .int .i64 (sealV B 3)] 24)).rowIs w1.heap.size 24 4 (ivs (sealV B))) := row4_alloc w1 24 (ivs (sealV B))
  have Q2 : Hid ((w1.alloc (.cells #[.int .i64 (sealV B 0), .int .i64 (sealV B 1), .int .i64 (sealV B 2), .int .i64 (sealV B 3)] 24)).cell? ⟨w.heap.size, 0, none⟩ = some (.slice (some ⟨b, o, none⟩) 128 c)) := alloc_keeps (hx1.keeps Q0.out) _
  clear hx1 X0 T0 Q0
  go_upto_region 4 with fail
  generalize w1.alloc (.cells #[.int .i64 (sealV B 0), .int .i64 (sealV B 1), .int .i64 (sealV B 2), .int .i64 (sealV B 3)] 24) = w2 at *
  generalize w1.heap.size = gs at *
  generalize hS : sealV B = S at *
  clear hS
  have d0 := S2.out.cell (i := 0) (by omega)
  have d1 := S2.out.cell (i := 1) (by omega)
  have d2 := S2.out.cell (i := 2) (by omega)
  have d3 := S2.out.cell (i := 3) (by omega)
  unfold ivs at d0 d1 d2 d3
  have hq := Q2.out
  go_cut [25] from 20 (fun v wc => v = .bool (!false) ∧ Ext w2 wc)
  case first =>
    go_region_with (first
      | (go_at_call 26; refine (sumBytes_any S _).mono ?_; rintro e y ⟨⟨vb, rfl, hob⟩, hxb⟩; have hqb := hxb.keeps hq; obtain ⟨ab, cb, rfl, hbb⟩ := own_byts hob)
      | (go_at_call 25; refine (refSame_any ab (some ⟨b, o + 96, none⟩) 32 cb (c - 96) (sby S) (fun i => B (96 + i)) _ (by omega) hbb ((HB32.out.ext X2.out).ext ((Ext.refl _).drew.trans hxb))).mono ?_; rintro e y' ⟨rfl, rfl⟩; rw [HEQ.out]))
    all_goals (go_wp2_with fail; go_meet)
    all_goals exact ⟨rfl, (Ext.refl _).drew.trans hxb⟩
  case rest =>
  obtain ⟨rfl, hxc⟩ := hcut
  have X3 : Hid (Ext w wc) := X2.out.trans hxc
  have T3 : Hid (wc.rowIs (w.heap.size + 1) 28 13 (ivs (fun _ => (0 : Int)))) := hxc.rowIs T2.out
  clear hq d0 d1 d2 d3
  have c0 := T3.out.cell (i := 0) (by omega)
  have f0 := T3.out.frozen 0
  have c1 := T3.out.cell (i := 1) (by omega)
  have f1 := T3.out.frozen 1
  have c2 := T3.out.cell (i := 2) (by omega)
  have f2 := T3.out.frozen 2
  have c3 := T3.out.cell (i := 3) (by omega)
  have f3 := T3.out.frozen 3
  have c4 := T3.out.cell (i := 4) (by omega)
  have f4 := T3.out.frozen 4
  have c5 := T3.out.cell (i := 5) (by omega)
  have f5 := T3.out.frozen 5
  have c6 := T3.out.cell (i := 6) (by omega)
  have f6 := T3.out.frozen 6
  have c7 := T3.out.cell (i := 7) (by omega)
  have f7 := T3.out.frozen 7
  have c8 := T3.out.cell (i := 8) (by omega)
  have f8 := T3.out.frozen 8
  have c9 := T3.out.cell (i := 9) (by omega)
  have f9 := T3.out.frozen 9
  have c10 := T3.out.cell (i := 10) (by omega)
  have f10 := T3.out.frozen 10
  have c11 := T3.out.cell (i := 11) (by omega)
  have f11 := T3.out.frozen 11
  have c12 := T3.out.cell (i := 12) (by omega)
  have f12 := T3.out.frozen 12
  unfold ivs at c0 c1 c2 c3 c4 c5 c6 c7 c8 c9 c10 c11 c12
  go_wp2_with fail
  have R9 := put13 (fun _ => (0 : Int)) X3.out (by show w.heap.size ≤ w.heap.size + 1; omega) T3.out
  have hin : (Try.prog.info? 28).map (·.size) = some 13 := by kernel_rfl
  refine bodyPost_ret (results_cell2 rfl _ _ (w.heap.size + 1) 28 #[ivs (fun _ => (0 : Int)) 0, ivs (fun _ => (0 : Int)) 1, ivs (fun _ => (0 : Int)) 2, ivs (fun _ => (0 : Int)) 3, ivs (fun _ => (0 : Int)) 4, ivs (fun _ => (0 : Int)) 5, ivs (fun _ => (0 : Int)) 6, ivs (fun _ => (0 : Int)) 7, ivs (fun _ => (0 : Int)) 8, ivs (fun _ => (0 : Int)) 9, ivs (fun _ => (0 : Int)) 10, ivs (fun _ => (0 : Int)) 11, ivs (fun _ => (0 : Int)) 12] (0, 0) _ (.int .i64 11) rfl rfl (row13 R9.1) Try.underlying28 rfl (in13 hin (ivs (fun _ => (0 : Int))))) rfl ?_
  exact ⟨rfl, R9.2⟩
end Go.Proofs.Ytemndnpbbkjmhab
