/-
  The document's LabelDecoded at a sector whose seal fits, and at every list of bytes; the world only grows.
-/
import Derived.Test.YtemndnpbbkjmhabRefDcd
namespace Go.Proofs.Ytemndnpbbkjmhab
open Go.RowKit Go.Deep E
def lit5 (V : Nat → Int) : Nat → Int
  | 0 => V 0
  | 1 => V 1
  | 2 => V 2
  | 3 => V 3
  | 4 => V 4
  | _ => 0
theorem put8prs {w0 w : World} {g : Nat} {ty : TypeId} (V : Nat → Int) (x : Ext w0 w) (hg : w0.heap.size ≤ g) (h : w.rowIs g ty 13 (ivs (lit5 V))) :
    Hid (((((((((w.setCell ⟨g, 5, none⟩ (.int .i64 (V 5))).setCell ⟨g, 6, none⟩ (.int .i64 (V 6))).setCell ⟨g, 7, none⟩ (.int .i64 (V 7))).setCell ⟨g, 8, none⟩ (.int .i64 (V 8))).setCell ⟨g, 9, none⟩ (.int .i64 (V 9))).setCell ⟨g, 10, none⟩ (.int .i64 (V 10))).setCell ⟨g, 11, none⟩ (.int .i64 (V 11))).setCell ⟨g, 12, none⟩ (.int .i64 (V 12))).rowIs g ty 13 (ivs V)) ∧ Hid (Ext w0 ((((((((w.setCell ⟨g, 5, none⟩ (.int .i64 (V 5))).setCell ⟨g, 6, none⟩ (.int .i64 (V 6))).setCell ⟨g, 7, none⟩ (.int .i64 (V 7))).setCell ⟨g, 8, none⟩ (.int .i64 (V 8))).setCell ⟨g, 9, none⟩ (.int .i64 (V 9))).setCell ⟨g, 10, none⟩ (.int .i64 (V 10))).setCell ⟨g, 11, none⟩ (.int .i64 (V 11))).setCell ⟨g, 12, none⟩ (.int .i64 (V 12)))) ∧ Hid (Wro (· = g) w ((((((((w.setCell ⟨g, 5, none⟩ (.int .i64 (V 5))).setCell ⟨g, 6, none⟩ (.int .i64 (V 6))).setCell ⟨g, 7, none⟩ (.int .i64 (V 7))).setCell ⟨g, 8, none⟩ (.int .i64 (V 8))).setCell ⟨g, 9, none⟩ (.int .i64 (V 9))).setCell ⟨g, 10, none⟩ (.int .i64 (V 10))).setCell ⟨g, 11, none⟩ (.int .i64 (V 11))).setCell ⟨g, 12, none⟩ (.int .i64 (V 12)))) := by
  refine ⟨((((((((h.set 5 _).set 6 _).set 7 _).set 8 _).set 9 _).set 10 _).set 11 _).set 12 _).congr fun i hi => ?_, ((((((((x.setCell (p := ⟨g, 5, none⟩) hg _).setCell (p := ⟨g, 6, none⟩) hg _).setCell (p := ⟨g, 7, none⟩) hg _).setCell (p := ⟨g, 8, none⟩) hg _).setCell (p := ⟨g, 9, none⟩) hg _).setCell (p := ⟨g, 10, none⟩) hg _).setCell (p := ⟨g, 11, none⟩) hg _).setCell (p := ⟨g, 12, none⟩) hg _), ?_⟩
  · have e : ∀ j, j < 5 → ivs (lit5 V) j = ivs V j := fun j hj => by
      match j, hj with
      | 0, _ => rfl
      | 1, _ => rfl
      | 2, _ => rfl
      | 3, _ => rfl
      | 4, _ => rfl
    match i, hi with
    | 0, _ => exact e 0 (by omega)
    | 1, _ => exact e 1 (by omega)
    | 2, _ => exact e 2 (by omega)
    | 3, _ => exact e 3 (by omega)
    | 4, _ => exact e 4 (by omega)
    | 5, _ => rfl
    | 6, _ => rfl
    | 7, _ => rfl
    | 8, _ => rfl
    | 9, _ => rfl
    | 10, _ => rfl
    | 11, _ => rfl
    | 12, _ => rfl
  · have z : Wro (· = g) w w := Wro.refl _ _
    exact ((((((((z.setCell (p := ⟨g, 5, none⟩) rfl _).setCell (p := ⟨g, 6, none⟩) rfl _).setCell (p := ⟨g, 7, none⟩) rfl _).setCell (p := ⟨g, 8, none⟩) rfl _).setCell (p := ⟨g, 9, none⟩) rfl _).setCell (p := ⟨g, 10, none⟩) rfl _).setCell (p := ⟨g, 11, none⟩) rfl _).setCell (p := ⟨g, 12, none⟩) rfl _)
set_option maxRecDepth 100000 in
set_option maxHeartbeats 12800000 in
theorem LabelDecoded_seal0 (V : Nat → Int) (a : Option Addr) (c : Nat) (B : Nat → E) (w : World) (hc : 128 ≤ c ∧ c ≤ 9223372036854775807) (h : Byts w a 128 B) (hs : sealB B = true) (hV : ∀ k, k < 13 → prs B k = V k) :
    Calls Try.prog 11 #[.slice a 128 c] w fun e w' => (mayL V = true → ownB B = true → e = .returned (.tuple #[.agg #[.int .i64 (V 0), .int .i64 (V 1), .int .i64 (V 2), .int .i64 (V 3), .int .i64 (V 4), .int .i64 (V 5), .int .i64 (V 6), .int .i64 (V 7), .int .i64 (V 8), .int .i64 (V 9), .int .i64 (V 10), .int .i64 (V 11), .int .i64 (V 12)], .int .i64 0])) ∧ (¬ (mayL V = true ∧ ownB B = true) → e = .returned (.tuple #[.agg #[.int .i64 ((fun _ => (0 : Int)) 0), .int .i64 ((fun _ => (0 : Int)) 1), .int .i64 ((fun _ => (0 : Int)) 2), .int .i64 ((fun _ => (0 : Int)) 3), .int .i64 ((fun _ => (0 : Int)) 4), .int .i64 ((fun _ => (0 : Int)) 5), .int .i64 ((fun _ => (0 : Int)) 6), .int .i64 ((fun _ => (0 : Int)) 7), .int .i64 ((fun _ => (0 : Int)) 8), .int .i64 ((fun _ => (0 : Int)) 9), .int .i64 ((fun _ => (0 : Int)) 10), .int .i64 ((fun _ => (0 : Int)) 11), .int .i64 ((fun _ => (0 : Int)) 12)], .int .i64 4])) ∧ Ext w w' := by
  have HV : Hid (∀ k, k < 13 → prs B k = V k) := hV
  have HOW : Hid (eqB 96 (hd V) B = ownB B) := by
    rw [Bool.eq_iff_iff, eqB_iff, ownB_iff]
    exact ⟨fun h i hi => by rw [hd_congr hV]; exact h i hi, fun h i hi => by rw [← hd_congr hV]; exact h i hi⟩
  clear hV
  obtain ⟨b, o, rfl, hcell⟩ := h.at (by omega)
  have HC : Hid (∀ i, i < 128 → w.cell? ⟨b, o + i, none⟩ = some (.int .u8 (ev (B i)))) := hcell
  have HB : Hid (Byts w (some ⟨b, o, none⟩) 128 B) := h
  have hs1 : ∀ v, (Instr.slice 22 (.slice (some ⟨b, o, none⟩) 128 c) (some (.int .i64 96)) none none).run Try.prog v = .ok (.slice (some ⟨b, o + 96, none⟩) 32 (c - 96)) v := fun v => by
    have := sub_l (P := Try.prog) Try.underlying22 size8 (some ⟨b, o, none⟩) 128 c 96 (by omega) 96 rfl v
    rw [subA_some (by omega)] at this
    exact this
  have hs0 : ∀ v, (Instr.slice 22 (.slice (some ⟨b, o, none⟩) 128 c) none (some (.int .i64 96)) none).run Try.prog v = .ok (.slice (some ⟨b, o, none⟩) 96 c) v := fun v => by
    have := sub_h (P := Try.prog) Try.underlying22 size8 (some ⟨b, o, none⟩) 128 c 96 (by omega) 96 rfl v
    rw [subA_some (by omega)] at this
    exact this
  have HB96 : Hid (Byts w (some ⟨b, o, none⟩) 96 B) := fun i hi => h i (by omega)
  have HB32 : Hid (Byts w (some ⟨b, o + 96, none⟩) 32 fun i => B (96 + i)) := Byts.mk fun i hi => by rw [Nat.add_assoc]; exact hcell (96 + i) (by omega)
  have HCC : Hid (128 ≤ c ∧ c ≤ 9223372036854775807) := hc
  have HEQ : Hid (eqB 32 (sby (sealV B)) (fun i => B (96 + i)) = true) := by rw [← hs]; exact eqB32 B
  have Q0 : Hid (((w.alloc (.cells #[.slice (some ⟨b, o, none⟩) 128 c] 22)).alloc (.cells #[.int .i64 ((fun _ => (0 : Int)) 0), .int .i64 ((fun _ => (0 : Int)) 1), .int .i64 ((fun _ => (0 : Int)) 2), .int .i64 ((fun _ => (0 : Int)) 3), .int .i64 ((fun _ => (0 : Int)) 4), .int .i64 ((fun _ => (0 : Int)) 5), .int .i64 ((fun _ => (0 : Int)) 6), .int .i64 ((fun _ => (0 : Int)) 7), .int .i64 ((fun _ => (0 : Int)) 8), .int .i64 ((fun _ => (0 : Int)) 9), .int .i64 ((fun _ => (0 : Int)) 10), .int .i64 ((fun _ => (0 : Int)) 11), .int .i64 ((fun _ => (0 : Int)) 12)] 28)).cell? ⟨w.heap.size, 0, none⟩ = some (.slice (some ⟨b, o, none⟩) 128 c)) := alloc_keeps (by rw [new_cell]; rfl) _
  have X0 : Hid (Ext w ((w.alloc (.cells #[.slice (some ⟨b, o, none⟩) 128 c] 22)).alloc (.cells #[.int .i64 ((fun _ => (0 : Int)) 0), .int .i64 ((fun _ => (0 : Int)) 1), .int .i64 ((fun _ => (0 : Int)) 2), .int .i64 ((fun _ => (0 : Int)) 3), .int .i64 ((fun _ => (0 : Int)) 4), .int .i64 ((fun _ => (0 : Int)) 5), .int .i64 ((fun _ => (0 : Int)) 6), .int .i64 ((fun _ => (0 : Int)) 7), .int .i64 ((fun _ => (0 : Int)) 8), .int .i64 ((fun _ => (0 : Int)) 9), .int .i64 ((fun _ => (0 : Int)) 10), .int .i64 ((fun _ => (0 : Int)) 11), .int .i64 ((fun _ => (0 : Int)) 12)] 28))) := ((Ext.refl _).alloc _ _).alloc _ _
  have T0 : Hid (((w.alloc (.cells #[.slice (some ⟨b, o, none⟩) 128 c] 22)).alloc (.cells #[.int .i64 ((fun _ => (0 : Int)) 0), .int .i64 ((fun _ => (0 : Int)) 1), .int .i64 ((fun _ => (0 : Int)) 2), .int .i64 ((fun _ => (0 : Int)) 3), .int .i64 ((fun _ => (0 : Int)) 4), .int .i64 ((fun _ => (0 : Int)) 5), .int .i64 ((fun _ => (0 : Int)) 6), .int .i64 ((fun _ => (0 : Int)) 7), .int .i64 ((fun _ => (0 : Int)) 8), .int .i64 ((fun _ => (0 : Int)) 9), .int .i64 ((fun _ => (0 : Int)) 10), .int .i64 ((fun _ => (0 : Int)) 11), .int .i64 ((fun _ => (0 : Int)) 12)] 28)).rowIs (w.heap.size + 1) 28 13 (ivs (fun _ => (0 : Int)))) := by
    have := row13_alloc (w.alloc (.cells #[.slice (some ⟨b, o, none⟩) 128 c] 22)) 28 (ivs (fun _ => (0 : Int)))
    simp only [World.size_alloc] at this
    exact this
  clear h hcell hc hs
  go_enter Try.func11, Try.ntmps11
  go_wp2_with fail
  generalize ((w.alloc (.cells #[.slice (some ⟨b, o, none⟩) 128 c] 22)).alloc (.cells #[.int .i64 ((fun _ => (0 : Int)) 0), .int .i64 ((fun _ => (0 : Int)) 1), .int .i64 ((fun _ => (0 : Int)) 2), .int .i64 ((fun _ => (0 : Int)) 3), .int .i64 ((fun _ => (0 : Int)) 4), .int .i64 ((fun _ => (0 : Int)) 5), .int .i64 ((fun _ => (0 : Int)) 6), .int .i64 ((fun _ => (0 : Int)) 7), .int .i64 ((fun _ => (0 : Int)) 8), .int .i64 ((fun _ => (0 : Int)) 9), .int .i64 ((fun _ => (0 : Int)) 10), .int .i64 ((fun _ => (0 : Int)) 11), .int .i64 ((fun _ => (0 : Int)) 12)] 28)) = w0 at *
  refine (SumMore_seal (some ⟨b, o, none⟩) c B _ (HB96.out.ext X0.out)).mono ?_
  rintro e w1 ⟨rfl, hx1⟩
  have X2 : Hid (Ext w (w1.alloc (.cells #[.int .i64 (sealV B 0), .int .i64 (sealV B 1), .int .i64 (sealV B 2), .int .i64 (sealV B 3)] 24))) := (X0.out.trans hx1).alloc _ _
  have T2 : Hid ((w1.alloc (.cells #[.int .i64 (sealV B 0), .int .i64 (sealV B 1), .int .i64 (sealV B 2), .int .i64 (sealV B 3)] 24)).rowIs (w.heap.size + 1) 28 13 (ivs (fun _ => (0 : Int)))) := (hx1.rowIs T0.out).alloc _
  have S2 : Hid ((w1.alloc (.cells #[.int .i64 (sealV B 0), .int .i64 (sealV B 1), .int .i64 (sealV B 2), .int .i64 (sealV B 3)] 24)).rowIs w1.heap.size 24 4 (ivs (sealV B))) := row4_alloc w1 24 (ivs (sealV B))
  have Q2 : Hid ((w1.alloc (.cells #[.int .i64 (sealV B 0), .int .i64 (sealV B 1), .int .i64 (sealV B 2), .int .i64 (sealV B 3)] 24)).cell? ⟨w.heap.size, 0, none⟩ = some (.slice (some ⟨b, o, none⟩) 128 c)) := alloc_keeps (hx1.keeps Q0.out) _
  clear hx1 X0 T0 Q0
  go_upto_region 4 with fail
  generalize w1.alloc (.cells #[.int .i64 (sealV B 0), .int .i64 (sealV B 1), .int .i64 (sealV B 2), .int .i64 (sealV B 3)] 24) = w2 at *
  generalize w1.heap.size = gs at *
  generalize hS : sealV B = S at *
  clear hS
  have d0 := S2.out.cell (i := 0) (by omega)
  have d1 := S2.out.cell (i := 1) (by omega)
  have d2 := S2.out.cell (i := 2) (by omega)
  have d3 := S2.out.cell (i := 3) (by omega)
  unfold ivs at d0 d1 d2 d3
  have hq := Q2.out
  go_cut [25] from 20 (fun v wc => v = .bool (!true) ∧ Ext w2 wc)
  case first =>
    go_region_with (first
      | (go_at_call 26; refine (sumBytes_any S _).mono ?_; rintro e y ⟨⟨vb, rfl, hob⟩, hxb⟩; have hqb := hxb.keeps hq; obtain ⟨ab, cb, rfl, hbb⟩ := own_byts hob)
      | (go_at_call 25; refine (refSame_any ab (some ⟨b, o + 96, none⟩) 32 cb (c - 96) (sby S) (fun i => B (96 + i)) _ (by omega) hbb ((HB32.out.ext X2.out).ext ((Ext.refl _).drew.trans hxb))).mono ?_; rintro e y' ⟨rfl, rfl⟩; rw [HEQ.out]))
    all_goals (go_wp2_with fail; go_meet)
    all_goals exact ⟨rfl, (Ext.refl _).drew.trans hxb⟩
  case rest =>
  obtain ⟨rfl, hxc⟩ := hcut
  have XK : Hid (Ext w wc) := X2.out.trans hxc
  have TK : Hid (wc.rowIs (w.heap.size + 1) 28 13 (ivs (fun _ => (0 : Int)))) := hxc.rowIs T2.out
  have QK : Hid (wc.cell? ⟨w.heap.size, 0, none⟩ = some (.slice (some ⟨b, o, none⟩) 128 c)) := hxc.keeps Q2.out
  clear hq d0 d1 d2 d3 hxc T2 Q2 S2 X2 hs1
  go_wp2_with fail
  refine (four_any w.heap.size b o c B 0 (by omega) _ HCC.out.1 QK.out (fun i hi => XK.out.keeps (HC.out i hi))).mono ?_
  rintro e wn ⟨rfl, hxn⟩
  skip
  rw [HV.out 0 (by omega)]
  have QN : Hid (wn.cell? ⟨w.heap.size, 0, none⟩ = some (.slice (some ⟨b, o, none⟩) 128 c)) := hxn.keeps QK.out
  have XN : Hid (Ext w wn) := XK.out.trans hxn
  have TN : Hid (wn.rowIs (w.heap.size + 1) 28 13 (ivs (fun _ => (0 : Int)))) := hxn.rowIs TK.out
  clear QK XK TK hxn
  generalize hwn : wn = wk at *
  clear hwn
  have QK := QN
  have XK := XN
  have TK := TN
  clear QN XN TN
  go_wp2_with fail
  refine (four_any w.heap.size b o c B 1 (by omega) _ HCC.out.1 QK.out (fun i hi => XK.out.keeps (HC.out i hi))).mono ?_
  rintro e wn ⟨rfl, hxn⟩
  skip
  rw [HV.out 1 (by omega)]
  have QN : Hid (wn.cell? ⟨w.heap.size, 0, none⟩ = some (.slice (some ⟨b, o, none⟩) 128 c)) := hxn.keeps QK.out
  have XN : Hid (Ext w wn) := XK.out.trans hxn
  have TN : Hid (wn.rowIs (w.heap.size + 1) 28 13 (ivs (fun _ => (0 : Int)))) := hxn.rowIs TK.out
  clear QK XK TK hxn
  generalize hwn : wn = wk at *
  clear hwn
  have QK := QN
  have XK := XN
  have TK := TN
  clear QN XN TN
  go_wp2_with fail
  refine (four_any w.heap.size b o c B 2 (by omega) _ HCC.out.1 QK.out (fun i hi => XK.out.keeps (HC.out i hi))).mono ?_
  rintro e wn ⟨rfl, hxn⟩
  skip
  rw [HV.out 2 (by omega)]
  have QN : Hid (wn.cell? ⟨w.heap.size, 0, none⟩ = some (.slice (some ⟨b, o, none⟩) 128 c)) := hxn.keeps QK.out
  have XN : Hid (Ext w wn) := XK.out.trans hxn
  have TN : Hid (wn.rowIs (w.heap.size + 1) 28 13 (ivs (fun _ => (0 : Int)))) := hxn.rowIs TK.out
  clear QK XK TK hxn
  generalize hwn : wn = wk at *
  clear hwn
  have QK := QN
  have XK := XN
  have TK := TN
  clear QN XN TN
  go_wp2_with fail
  refine (four_any w.heap.size b o c B 3 (by omega) _ HCC.out.1 QK.out (fun i hi => XK.out.keeps (HC.out i hi))).mono ?_
  rintro e wn ⟨rfl, hxn⟩
  skip
  rw [HV.out 3 (by omega)]
  have QN : Hid (wn.cell? ⟨w.heap.size, 0, none⟩ = some (.slice (some ⟨b, o, none⟩) 128 c)) := hxn.keeps QK.out
  have XN : Hid (Ext w wn) := XK.out.trans hxn
  have TN : Hid (wn.rowIs (w.heap.size + 1) 28 13 (ivs (fun _ => (0 : Int)))) := hxn.rowIs TK.out
  clear QK XK TK hxn
  generalize hwn : wn = wk at *
  clear hwn
  have QK := QN
  have XK := XN
  have TK := TN
  clear QN XN TN
  go_wp2_with fail
  refine (four_any w.heap.size b o c B 4 (by omega) _ HCC.out.1 QK.out (fun i hi => XK.out.keeps (HC.out i hi))).mono ?_
  rintro e wn ⟨rfl, hxn⟩
  skip
  rw [HV.out 4 (by omega)]
  have QN : Hid (wn.cell? ⟨w.heap.size, 0, none⟩ = some (.slice (some ⟨b, o, none⟩) 128 c)) := hxn.keeps QK.out
  have XN : Hid (Ext w wn) := XK.out.trans hxn
  have TN : Hid (wn.rowIs (w.heap.size + 1) 28 13 (ivs (fun _ => (0 : Int)))) := hxn.rowIs TK.out
  clear QK XK TK hxn
  generalize hwn : wn = wk at *
  clear hwn
  have QK := QN
  have XK := XN
  have TK := TN
  clear QN XN TN
  have X8 : Hid (Ext w (wk.alloc (.cells #[.int .i64 (V 0), .int .i64 (V 1), .int .i64 (V 2), .int .i64 (V 3), .int .i64 (V 4), .int .i64 0, .int .i64 0, .int .i64 0, .int .i64 0, .int .i64 0, .int .i64 0, .int .i64 0, .int .i64 0] 28))) := XK.out.alloc _ _
  have T8 : Hid ((wk.alloc (.cells #[.int .i64 (V 0), .int .i64 (V 1), .int .i64 (V 2), .int .i64 (V 3), .int .i64 (V 4), .int .i64 0, .int .i64 0, .int .i64 0, .int .i64 0, .int .i64 0, .int .i64 0, .int .i64 0, .int .i64 0] 28)).rowIs (w.heap.size + 1) 28 13 (ivs (fun _ => (0 : Int)))) := TK.out.alloc _
  have Q8 : Hid ((wk.alloc (.cells #[.int .i64 (V 0), .int .i64 (V 1), .int .i64 (V 2), .int .i64 (V 3), .int .i64 (V 4), .int .i64 0, .int .i64 0, .int .i64 0, .int .i64 0, .int .i64 0, .int .i64 0, .int .i64 0, .int .i64 0] 28)).cell? ⟨w.heap.size, 0, none⟩ = some (.slice (some ⟨b, o, none⟩) 128 c)) := alloc_keeps QK.out _
  have L8 : Hid ((wk.alloc (.cells #[.int .i64 (V 0), .int .i64 (V 1), .int .i64 (V 2), .int .i64 (V 3), .int .i64 (V 4), .int .i64 0, .int .i64 0, .int .i64 0, .int .i64 0, .int .i64 0, .int .i64 0, .int .i64 0, .int .i64 0] 28)).rowIs wk.heap.size 28 13 (ivs (lit5 V))) := (row13_alloc wk 28 (ivs (lit5 V)))
  have hgl : w.heap.size + 1 < wk.heap.size := TK.out.lt
  clear XK TK QK
  go_upto_region 9 with fail
  generalize wk.alloc (.cells #[.int .i64 (V 0), .int .i64 (V 1), .int .i64 (V 2), .int .i64 (V 3), .int .i64 (V 4), .int .i64 0, .int .i64 0, .int .i64 0, .int .i64 0, .int .i64 0, .int .i64 0, .int .i64 0, .int .i64 0] 28) = wl at *
  generalize wk.heap.size = gl at *
  have XK := X8
  have TK := T8
  have QK := Q8
  have LK := L8
  clear X8 T8 Q8 L8
  go_wp2_with fail
  refine (four_any w.heap.size b o c B 5 (by omega) _ HCC.out.1 QK.out (fun i hi => XK.out.keeps (HC.out i hi))).mono ?_
  rintro e wn ⟨rfl, hxn⟩
  skip
  rw [HV.out 5 (by omega)]
  have QN : Hid (wn.cell? ⟨w.heap.size, 0, none⟩ = some (.slice (some ⟨b, o, none⟩) 128 c)) := hxn.keeps QK.out
  have XN : Hid (Ext w wn) := XK.out.trans hxn
  have TN : Hid (wn.rowIs (w.heap.size + 1) 28 13 (ivs (fun _ => (0 : Int)))) := hxn.rowIs TK.out
  have LN : Hid (wn.rowIs gl 28 13 (ivs (lit5 V))) := hxn.rowIs LK.out
  clear LK
  clear QK XK TK hxn
  generalize hwn : wn = wk at *
  clear hwn
  have QK := QN
  have XK := XN
  have TK := TN
  have LK := LN
  clear QN XN TN LN
  go_wp2_with fail
  refine (four_any w.heap.size b o c B 6 (by omega) _ HCC.out.1 QK.out (fun i hi => XK.out.keeps (HC.out i hi))).mono ?_
  rintro e wn ⟨rfl, hxn⟩
  skip
  rw [HV.out 6 (by omega)]
  have QN : Hid (wn.cell? ⟨w.heap.size, 0, none⟩ = some (.slice (some ⟨b, o, none⟩) 128 c)) := hxn.keeps QK.out
  have XN : Hid (Ext w wn) := XK.out.trans hxn
  have TN : Hid (wn.rowIs (w.heap.size + 1) 28 13 (ivs (fun _ => (0 : Int)))) := hxn.rowIs TK.out
  have LN : Hid (wn.rowIs gl 28 13 (ivs (lit5 V))) := hxn.rowIs LK.out
  clear LK
  clear QK XK TK hxn
  generalize hwn : wn = wk at *
  clear hwn
  have QK := QN
  have XK := XN
  have TK := TN
  have LK := LN
  clear QN XN TN LN
  go_wp2_with fail
  refine (four_any w.heap.size b o c B 7 (by omega) _ HCC.out.1 QK.out (fun i hi => XK.out.keeps (HC.out i hi))).mono ?_
  rintro e wn ⟨rfl, hxn⟩
  skip
  rw [HV.out 7 (by omega)]
  have QN : Hid (wn.cell? ⟨w.heap.size, 0, none⟩ = some (.slice (some ⟨b, o, none⟩) 128 c)) := hxn.keeps QK.out
  have XN : Hid (Ext w wn) := XK.out.trans hxn
  have TN : Hid (wn.rowIs (w.heap.size + 1) 28 13 (ivs (fun _ => (0 : Int)))) := hxn.rowIs TK.out
  have LN : Hid (wn.rowIs gl 28 13 (ivs (lit5 V))) := hxn.rowIs LK.out
  clear LK
  clear QK XK TK hxn
  generalize hwn : wn = wk at *
  clear hwn
  have QK := QN
  have XK := XN
  have TK := TN
  have LK := LN
  clear QN XN TN LN
  go_wp2_with fail
  refine (four_any w.heap.size b o c B 8 (by omega) _ HCC.out.1 QK.out (fun i hi => XK.out.keeps (HC.out i hi))).mono ?_
  rintro e wn ⟨rfl, hxn⟩
  skip
  rw [HV.out 8 (by omega)]
  have QN : Hid (wn.cell? ⟨w.heap.size, 0, none⟩ = some (.slice (some ⟨b, o, none⟩) 128 c)) := hxn.keeps QK.out
  have XN : Hid (Ext w wn) := XK.out.trans hxn
  have TN : Hid (wn.rowIs (w.heap.size + 1) 28 13 (ivs (fun _ => (0 : Int)))) := hxn.rowIs TK.out
  have LN : Hid (wn.rowIs gl 28 13 (ivs (lit5 V))) := hxn.rowIs LK.out
  clear LK
  clear QK XK TK hxn
  generalize hwn : wn = wk at *
  clear hwn
  have QK := QN
  have XK := XN
  have TK := TN
  have LK := LN
  clear QN XN TN LN
  go_wp2_with fail
  refine (eight_any w.heap.size b o c B 0 (by omega) _ HCC.out.1 QK.out (fun i hi => XK.out.keeps (HC.out i hi))).mono ?_
  rintro e wn ⟨rfl, hxn⟩
  simp only [Nat.reduceAdd]
  rw [HV.out 9 (by omega)]
  have QN : Hid (wn.cell? ⟨w.heap.size, 0, none⟩ = some (.slice (some ⟨b, o, none⟩) 128 c)) := hxn.keeps QK.out
  have XN : Hid (Ext w wn) := XK.out.trans hxn
  have TN : Hid (wn.rowIs (w.heap.size + 1) 28 13 (ivs (fun _ => (0 : Int)))) := hxn.rowIs TK.out
  have LN : Hid (wn.rowIs gl 28 13 (ivs (lit5 V))) := hxn.rowIs LK.out
  clear LK
  clear QK XK TK hxn
  generalize hwn : wn = wk at *
  clear hwn
  have QK := QN
  have XK := XN
  have TK := TN
  have LK := LN
  clear QN XN TN LN
  go_wp2_with fail
  refine (eight_any w.heap.size b o c B 1 (by omega) _ HCC.out.1 QK.out (fun i hi => XK.out.keeps (HC.out i hi))).mono ?_
  rintro e wn ⟨rfl, hxn⟩
  simp only [Nat.reduceAdd]
  rw [HV.out 10 (by omega)]
  have QN : Hid (wn.cell? ⟨w.heap.size, 0, none⟩ = some (.slice (some ⟨b, o, none⟩) 128 c)) := hxn.keeps QK.out
  have XN : Hid (Ext w wn) := XK.out.trans hxn
  have TN : Hid (wn.rowIs (w.heap.size + 1) 28 13 (ivs (fun _ => (0 : Int)))) := hxn.rowIs TK.out
  have LN : Hid (wn.rowIs gl 28 13 (ivs (lit5 V))) := hxn.rowIs LK.out
  clear LK
  clear QK XK TK hxn
  generalize hwn : wn = wk at *
  clear hwn
  have QK := QN
  have XK := XN
  have TK := TN
  have LK := LN
  clear QN XN TN LN
  go_wp2_with fail
  refine (eight_any w.heap.size b o c B 2 (by omega) _ HCC.out.1 QK.out (fun i hi => XK.out.keeps (HC.out i hi))).mono ?_
  rintro e wn ⟨rfl, hxn⟩
  simp only [Nat.reduceAdd]
  rw [HV.out 11 (by omega)]
  have QN : Hid (wn.cell? ⟨w.heap.size, 0, none⟩ = some (.slice (some ⟨b, o, none⟩) 128 c)) := hxn.keeps QK.out
  have XN : Hid (Ext w wn) := XK.out.trans hxn
  have TN : Hid (wn.rowIs (w.heap.size + 1) 28 13 (ivs (fun _ => (0 : Int)))) := hxn.rowIs TK.out
  have LN : Hid (wn.rowIs gl 28 13 (ivs (lit5 V))) := hxn.rowIs LK.out
  clear LK
  clear QK XK TK hxn
  generalize hwn : wn = wk at *
  clear hwn
  have QK := QN
  have XK := XN
  have TK := TN
  have LK := LN
  clear QN XN TN LN
  go_wp2_with fail
  refine (eight_any w.heap.size b o c B 3 (by omega) _ HCC.out.1 QK.out (fun i hi => XK.out.keeps (HC.out i hi))).mono ?_
  rintro e wn ⟨rfl, hxn⟩
  simp only [Nat.reduceAdd]
  rw [HV.out 12 (by omega)]
  have QN : Hid (wn.cell? ⟨w.heap.size, 0, none⟩ = some (.slice (some ⟨b, o, none⟩) 128 c)) := hxn.keeps QK.out
  have XN : Hid (Ext w wn) := XK.out.trans hxn
  have TN : Hid (wn.rowIs (w.heap.size + 1) 28 13 (ivs (fun _ => (0 : Int)))) := hxn.rowIs TK.out
  have LN : Hid (wn.rowIs gl 28 13 (ivs (lit5 V))) := hxn.rowIs LK.out
  clear LK
  clear QK XK TK hxn
  generalize hwn : wn = wk at *
  clear hwn
  have QK := QN
  have XK := XN
  have TK := TN
  have LK := LN
  clear QN XN TN LN
  have c5 := LK.out.cell (i := 5) (by omega)
  have f5 := LK.out.frozen 5
  rw [show ivs (lit5 V) 5 = .int .i64 0 from rfl] at c5
  have c6 := LK.out.cell (i := 6) (by omega)
  have f6 := LK.out.frozen 6
  rw [show ivs (lit5 V) 6 = .int .i64 0 from rfl] at c6
  have c7 := LK.out.cell (i := 7) (by omega)
  have f7 := LK.out.frozen 7
  rw [show ivs (lit5 V) 7 = .int .i64 0 from rfl] at c7
  have c8 := LK.out.cell (i := 8) (by omega)
  have f8 := LK.out.frozen 8
  rw [show ivs (lit5 V) 8 = .int .i64 0 from rfl] at c8
  have c9 := LK.out.cell (i := 9) (by omega)
  have f9 := LK.out.frozen 9
  rw [show ivs (lit5 V) 9 = .int .i64 0 from rfl] at c9
  have c10 := LK.out.cell (i := 10) (by omega)
  have f10 := LK.out.frozen 10
  rw [show ivs (lit5 V) 10 = .int .i64 0 from rfl] at c10
  have c11 := LK.out.cell (i := 11) (by omega)
  have f11 := LK.out.frozen 11
  rw [show ivs (lit5 V) 11 = .int .i64 0 from rfl] at c11
  have c12 := LK.out.cell (i := 12) (by omega)
  have f12 := LK.out.frozen 12
  rw [show ivs (lit5 V) 12 = .int .i64 0 from rfl] at c12
  go_upto_region 10 with fail
  clear c5 c6 c7 c8 c9 c10 c11 c12 f5 f6 f7 f8 f9 f10 f11 f12
  obtain ⟨L9, X9, Z9⟩ := put8prs V XK.out (by omega) LK.out
  have T9 : Hid (((((((((wk.setCell ⟨gl, 5, none⟩ (.int .i64 (V 5))).setCell ⟨gl, 6, none⟩ (.int .i64 (V 6))).setCell ⟨gl, 7, none⟩ (.int .i64 (V 7))).setCell ⟨gl, 8, none⟩ (.int .i64 (V 8))).setCell ⟨gl, 9, none⟩ (.int .i64 (V 9))).setCell ⟨gl, 10, none⟩ (.int .i64 (V 10))).setCell ⟨gl, 11, none⟩ (.int .i64 (V 11))).setCell ⟨gl, 12, none⟩ (.int .i64 (V 12))).rowIs (w.heap.size + 1) 28 13 (ivs (fun _ => (0 : Int)))) := Z9.out.rowIs TK.out (by show ¬ w.heap.size + 1 = gl; omega)
  have Q9 : Hid (((((((((wk.setCell ⟨gl, 5, none⟩ (.int .i64 (V 5))).setCell ⟨gl, 6, none⟩ (.int .i64 (V 6))).setCell ⟨gl, 7, none⟩ (.int .i64 (V 7))).setCell ⟨gl, 8, none⟩ (.int .i64 (V 8))).setCell ⟨gl, 9, none⟩ (.int .i64 (V 9))).setCell ⟨gl, 10, none⟩ (.int .i64 (V 10))).setCell ⟨gl, 11, none⟩ (.int .i64 (V 11))).setCell ⟨gl, 12, none⟩ (.int .i64 (V 12))).cell? ⟨w.heap.size, 0, none⟩ = some (.slice (some ⟨b, o, none⟩) 128 c)) := Z9.out.cell QK.out (by show ¬ w.heap.size = gl; omega)
  clear XK TK QK LK Z9
  generalize (((((((wk.setCell ⟨gl, 5, none⟩ (.int .i64 (V 5))).setCell ⟨gl, 6, none⟩ (.int .i64 (V 6))).setCell ⟨gl, 7, none⟩ (.int .i64 (V 7))).setCell ⟨gl, 8, none⟩ (.int .i64 (V 8))).setCell ⟨gl, 9, none⟩ (.int .i64 (V 9))).setCell ⟨gl, 10, none⟩ (.int .i64 (V 10))).setCell ⟨gl, 11, none⟩ (.int .i64 (V 11))).setCell ⟨gl, 12, none⟩ (.int .i64 (V 12)) = w9 at *
  have q0 := L9.out.cell (i := 0) (by omega)
  have q1 := L9.out.cell (i := 1) (by omega)
  have q2 := L9.out.cell (i := 2) (by omega)
  have q3 := L9.out.cell (i := 3) (by omega)
  have q4 := L9.out.cell (i := 4) (by omega)
  have q5 := L9.out.cell (i := 5) (by omega)
  have q6 := L9.out.cell (i := 6) (by omega)
  have q7 := L9.out.cell (i := 7) (by omega)
  have q8 := L9.out.cell (i := 8) (by omega)
  have q9 := L9.out.cell (i := 9) (by omega)
  have q10 := L9.out.cell (i := 10) (by omega)
  have q11 := L9.out.cell (i := 11) (by omega)
  have q12 := L9.out.cell (i := 12) (by omega)
  unfold ivs at q0 q1 q2 q3 q4 q5 q6 q7 q8 q9 q10 q11 q12
  have hq := Q9.out
  by_cases hm : mayL V = true
  · go_cut [69] from 59 (fun v wc => v = .bool (!ownB B) ∧ Ext w9 wc)
    case first =>
      go_region_with (first
        | (go_at_call 30; refine (LabelMay_any V _).mono ?_; rintro e y ⟨rfl, hxm⟩; rw [hm]; have hqm := hxm.keeps hq; have r0 := hxm.keeps q0; have r1 := hxm.keeps q1; have r2 := hxm.keeps q2; have r3 := hxm.keeps q3; have r4 := hxm.keeps q4; have r5 := hxm.keeps q5; have r6 := hxm.keeps q6; have r7 := hxm.keeps q7; have r8 := hxm.keeps q8; have r9 := hxm.keeps q9; have r10 := hxm.keeps q10; have r11 := hxm.keeps q11; have r12 := hxm.keeps q12)
        | (go_at_call 31; refine (labelBytes_any V _).mono ?_; rintro e z ⟨⟨vb, rfl, hob⟩, hxb⟩; have hqb := hxb.keeps hqm; obtain ⟨ab, cb, rfl, hbb⟩ := own_byts hob)
        | (go_at_call 25; refine (refSame_any ab (some ⟨b, o, none⟩) 96 cb c (hd V) B _ (by omega) hbb ((HB96.out.ext X9.out).ext ((Ext.refl _).drew.trans (hxm.trans hxb)))).mono ?_; rintro e z' ⟨rfl, rfl⟩; rw [HOW.out]))
      all_goals (go_wp2_with fail; go_meet)
      all_goals exact ⟨rfl, (Ext.refl _).drew.trans (hxm.trans hxb)⟩
    case rest =>
    obtain ⟨rfl, hxc⟩ := hcut
    have X10 : Hid (Ext w wc) := X9.out.trans hxc
    have T10 : Hid (wc.rowIs (w.heap.size + 1) 28 13 (ivs (fun _ => (0 : Int)))) := hxc.rowIs T9.out
    have L10 : Hid (wc.rowIs gl 28 13 (ivs V)) := hxc.rowIs L9.out
    clear hq q0 q1 q2 q3 q4 q5 q6 q7 q8 q9 q10 q11 q12
    by_cases ho : ownB B = true
    · rw [ho]
      have c0 := T10.out.cell (i := 0) (by omega)
      have f0 := T10.out.frozen 0
      have c1 := T10.out.cell (i := 1) (by omega)
      have f1 := T10.out.frozen 1
      have c2 := T10.out.cell (i := 2) (by omega)
      have f2 := T10.out.frozen 2
      have c3 := T10.out.cell (i := 3) (by omega)
      have f3 := T10.out.frozen 3
      have c4 := T10.out.cell (i := 4) (by omega)
      have f4 := T10.out.frozen 4
      have c5 := T10.out.cell (i := 5) (by omega)
      have f5 := T10.out.frozen 5
      have c6 := T10.out.cell (i := 6) (by omega)
      have f6 := T10.out.frozen 6
      have c7 := T10.out.cell (i := 7) (by omega)
      have f7 := T10.out.frozen 7
      have c8 := T10.out.cell (i := 8) (by omega)
      have f8 := T10.out.frozen 8
      have c9 := T10.out.cell (i := 9) (by omega)
      have f9 := T10.out.frozen 9
      have c10 := T10.out.cell (i := 10) (by omega)
      have f10 := T10.out.frozen 10
      have c11 := T10.out.cell (i := 11) (by omega)
      have f11 := T10.out.frozen 11
      have c12 := T10.out.cell (i := 12) (by omega)
      have f12 := T10.out.frozen 12
      unfold ivs at c0 c1 c2 c3 c4 c5 c6 c7 c8 c9 c10 c11 c12
      have q0 := L10.out.cell (i := 0) (by omega)
      have q1 := L10.out.cell (i := 1) (by omega)
      have q2 := L10.out.cell (i := 2) (by omega)
      have q3 := L10.out.cell (i := 3) (by omega)
      have q4 := L10.out.cell (i := 4) (by omega)
      have q5 := L10.out.cell (i := 5) (by omega)
      have q6 := L10.out.cell (i := 6) (by omega)
      have q7 := L10.out.cell (i := 7) (by omega)
      have q8 := L10.out.cell (i := 8) (by omega)
      have q9 := L10.out.cell (i := 9) (by omega)
      have q10 := L10.out.cell (i := 10) (by omega)
      have q11 := L10.out.cell (i := 11) (by omega)
      have q12 := L10.out.cell (i := 12) (by omega)
      unfold ivs at q0 q1 q2 q3 q4 q5 q6 q7 q8 q9 q10 q11 q12
      go_wp2_with fail
      have R9 := put13 V X10.out (by show w.heap.size ≤ w.heap.size + 1; omega) T10.out
      have hin : (Try.prog.info? 28).map (·.size) = some 13 := by kernel_rfl
      refine bodyPost_ret (results_cell2 rfl _ _ (w.heap.size + 1) 28 #[ivs V 0, ivs V 1, ivs V 2, ivs V 3, ivs V 4, ivs V 5, ivs V 6, ivs V 7, ivs V 8, ivs V 9, ivs V 10, ivs V 11, ivs V 12] (0, 0) _ (.int .i64 0) rfl rfl (row13 R9.1) Try.underlying28 rfl (in13 hin (ivs V))) rfl ?_
      first | exact ⟨rfl, R9.2⟩ | exact ⟨fun _ _ => rfl, fun h => absurd ⟨hm, ho⟩ h, R9.2⟩
    · rw [show ownB B = false by simpa using ho]
      have c0 := T10.out.cell (i := 0) (by omega)
      have f0 := T10.out.frozen 0
      have c1 := T10.out.cell (i := 1) (by omega)
      have f1 := T10.out.frozen 1
      have c2 := T10.out.cell (i := 2) (by omega)
      have f2 := T10.out.frozen 2
      have c3 := T10.out.cell (i := 3) (by omega)
      have f3 := T10.out.frozen 3
      have c4 := T10.out.cell (i := 4) (by omega)
      have f4 := T10.out.frozen 4
      have c5 := T10.out.cell (i := 5) (by omega)
      have f5 := T10.out.frozen 5
      have c6 := T10.out.cell (i := 6) (by omega)
      have f6 := T10.out.frozen 6
      have c7 := T10.out.cell (i := 7) (by omega)
      have f7 := T10.out.frozen 7
      have c8 := T10.out.cell (i := 8) (by omega)
      have f8 := T10.out.frozen 8
      have c9 := T10.out.cell (i := 9) (by omega)
      have f9 := T10.out.frozen 9
      have c10 := T10.out.cell (i := 10) (by omega)
      have f10 := T10.out.frozen 10
      have c11 := T10.out.cell (i := 11) (by omega)
      have f11 := T10.out.frozen 11
      have c12 := T10.out.cell (i := 12) (by omega)
      have f12 := T10.out.frozen 12
      unfold ivs at c0 c1 c2 c3 c4 c5 c6 c7 c8 c9 c10 c11 c12
      go_wp2_with fail
      have R9 := put13 (fun _ => (0 : Int)) X10.out (by show w.heap.size ≤ w.heap.size + 1; omega) T10.out
      have hin : (Try.prog.info? 28).map (·.size) = some 13 := by kernel_rfl
      refine bodyPost_ret (results_cell2 rfl _ _ (w.heap.size + 1) 28 #[ivs (fun _ => (0 : Int)) 0, ivs (fun _ => (0 : Int)) 1, ivs (fun _ => (0 : Int)) 2, ivs (fun _ => (0 : Int)) 3, ivs (fun _ => (0 : Int)) 4, ivs (fun _ => (0 : Int)) 5, ivs (fun _ => (0 : Int)) 6, ivs (fun _ => (0 : Int)) 7, ivs (fun _ => (0 : Int)) 8, ivs (fun _ => (0 : Int)) 9, ivs (fun _ => (0 : Int)) 10, ivs (fun _ => (0 : Int)) 11, ivs (fun _ => (0 : Int)) 12] (0, 0) _ (.int .i64 4) rfl rfl (row13 R9.1) Try.underlying28 rfl (in13 hin (ivs (fun _ => (0 : Int))))) rfl ?_
      first | exact ⟨rfl, R9.2⟩ | exact ⟨fun _ h => absurd h ho, fun _ => rfl, R9.2⟩
  · have hm' : mayL V = false := by simpa using hm
    go_cut [69] from 59 (fun v wc => v = .bool true ∧ Ext w9 wc)
    case first =>
      go_region_with (go_at_call 30; refine (LabelMay_any V _).mono ?_; rintro e y ⟨rfl, hxm⟩; rw [hm'])
      all_goals (go_wp2_with fail; go_meet)
      all_goals exact ⟨rfl, (Ext.refl _).drew.trans hxm⟩
    case rest =>
    obtain ⟨rfl, hxc⟩ := hcut
    have X10 : Hid (Ext w wc) := X9.out.trans hxc
    have T10 : Hid (wc.rowIs (w.heap.size + 1) 28 13 (ivs (fun _ => (0 : Int)))) := hxc.rowIs T9.out
    clear hq q0 q1 q2 q3 q4 q5 q6 q7 q8 q9 q10 q11 q12
    have c0 := T10.out.cell (i := 0) (by omega)
    have f0 := T10.out.frozen 0
    have c1 := T10.out.cell (i := 1) (by omega)
    have f1 := T10.out.frozen 1
    have c2 := T10.out.cell (i := 2) (by omega)
    have f2 := T10.out.frozen 2
    have c3 := T10.out.cell (i := 3) (by omega)
    have f3 := T10.out.frozen 3
    have c4 := T10.out.cell (i := 4) (by omega)
    have f4 := T10.out.frozen 4
    have c5 := T10.out.cell (i := 5) (by omega)
    have f5 := T10.out.frozen 5
    have c6 := T10.out.cell (i := 6) (by omega)
    have f6 := T10.out.frozen 6
    have c7 := T10.out.cell (i := 7) (by omega)
    have f7 := T10.out.frozen 7
    have c8 := T10.out.cell (i := 8) (by omega)
    have f8 := T10.out.frozen 8
    have c9 := T10.out.cell (i := 9) (by omega)
    have f9 := T10.out.frozen 9
    have c10 := T10.out.cell (i := 10) (by omega)
    have f10 := T10.out.frozen 10
    have c11 := T10.out.cell (i := 11) (by omega)
    have f11 := T10.out.frozen 11
    have c12 := T10.out.cell (i := 12) (by omega)
    have f12 := T10.out.frozen 12
    unfold ivs at c0 c1 c2 c3 c4 c5 c6 c7 c8 c9 c10 c11 c12
    go_wp2_with fail
    have R9 := put13 (fun _ => (0 : Int)) X10.out (by show w.heap.size ≤ w.heap.size + 1; omega) T10.out
    have hin : (Try.prog.info? 28).map (·.size) = some 13 := by kernel_rfl
    refine bodyPost_ret (results_cell2 rfl _ _ (w.heap.size + 1) 28 #[ivs (fun _ => (0 : Int)) 0, ivs (fun _ => (0 : Int)) 1, ivs (fun _ => (0 : Int)) 2, ivs (fun _ => (0 : Int)) 3, ivs (fun _ => (0 : Int)) 4, ivs (fun _ => (0 : Int)) 5, ivs (fun _ => (0 : Int)) 6, ivs (fun _ => (0 : Int)) 7, ivs (fun _ => (0 : Int)) 8, ivs (fun _ => (0 : Int)) 9, ivs (fun _ => (0 : Int)) 10, ivs (fun _ => (0 : Int)) 11, ivs (fun _ => (0 : Int)) 12] (0, 0) _ (.int .i64 4) rfl rfl (row13 R9.1) Try.underlying28 rfl (in13 hin (ivs (fun _ => (0 : Int))))) rfl ?_
    first | exact ⟨rfl, R9.2⟩ | exact ⟨fun h => absurd h hm, fun _ => rfl, R9.2⟩
theorem LabelDecoded_seal (a : Option Addr) (c : Nat) (B : Nat → E) (w : World) (hc : 128 ≤ c ∧ c ≤ 9223372036854775807) (h : Byts w a 128 B) (hs : sealB B = true) :
    Calls Try.prog 11 #[.slice a 128 c] w fun e w' => (mayL (prs B) = true → ownB B = true → e = .returned (.tuple #[.agg #[.int .i64 (prs B 0), .int .i64 (prs B 1), .int .i64 (prs B 2), .int .i64 (prs B 3), .int .i64 (prs B 4), .int .i64 (prs B 5), .int .i64 (prs B 6), .int .i64 (prs B 7), .int .i64 (prs B 8), .int .i64 (prs B 9), .int .i64 (prs B 10), .int .i64 (prs B 11), .int .i64 (prs B 12)], .int .i64 0])) ∧ (¬ (mayL (prs B) = true ∧ ownB B = true) → e = .returned (.tuple #[.agg #[.int .i64 ((fun _ => (0 : Int)) 0), .int .i64 ((fun _ => (0 : Int)) 1), .int .i64 ((fun _ => (0 : Int)) 2), .int .i64 ((fun _ => (0 : Int)) 3), .int .i64 ((fun _ => (0 : Int)) 4), .int .i64 ((fun _ => (0 : Int)) 5), .int .i64 ((fun _ => (0 : Int)) 6), .int .i64 ((fun _ => (0 : Int)) 7), .int .i64 ((fun _ => (0 : Int)) 8), .int .i64 ((fun _ => (0 : Int)) 9), .int .i64 ((fun _ => (0 : Int)) 10), .int .i64 ((fun _ => (0 : Int)) 11), .int .i64 ((fun _ => (0 : Int)) 12)], .int .i64 4])) ∧ Ext w w' :=
  LabelDecoded_seal0 (prs B) a c B w hc h hs fun _ _ => rfl
theorem LabelDecoded_any (a : Option Addr) (n c : Nat) (B : Nat → E) (w : World) (hc : n ≤ c ∧ c ≤ 9223372036854775807) (h : Byts w a n B) :
    Calls Try.prog 11 #[.slice a n c] w fun e w' => e = .returned (.tuple #[.agg #[.int .i64 (decV n B 0), .int .i64 (decV n B 1), .int .i64 (decV n B 2), .int .i64 (decV n B 3), .int .i64 (decV n B 4), .int .i64 (decV n B 5), .int .i64 (decV n B 6), .int .i64 (decV n B 7), .int .i64 (decV n B 8), .int .i64 (decV n B 9), .int .i64 (decV n B 10), .int .i64 (decV n B 11), .int .i64 (decV n B 12)], .int .i64 (decE n B)]) ∧ Ext w w' := by
  by_cases hn : n = 128
  · subst hn
    by_cases hs : sealB B = true
    · refine (LabelDecoded_seal a c B w hc h hs).mono fun e w' hh => ?_
      obtain ⟨h1, h2, h3⟩ := hh
      refine ⟨?_, h3⟩
      by_cases hm : mayL (prs B) = true ∧ ownB B = true
      · have hE : decE 128 B = 0 := by unfold decE; rw [if_pos rfl, if_pos hs, if_pos hm]
        have hV : ∀ k, decV 128 B k = prs B k := fun k => by unfold decV; rw [if_pos hE]
        simp only [hE, hV]
        exact h1 hm.1 hm.2
      · have hE : decE 128 B = 4 := by unfold decE; rw [if_pos rfl, if_pos hs, if_neg hm]
        have hV : ∀ k, decV 128 B k = 0 := fun k => by unfold decV; rw [hE, if_neg (by decide)]
        simp only [hE, hV]
        exact h2 hm
    · have hs' : sealB B = false := by simpa using hs
      have hE : decE 128 B = 11 := by unfold decE; rw [if_pos rfl, if_neg hs]
      have hV : ∀ k, decV 128 B k = 0 := fun k => by unfold decV; rw [hE, if_neg (by decide)]
      simp only [hE, hV]
      exact LabelDecoded_sum a c B w hc h hs'
  · exact LabelDecoded_size a n c B w hn
end Go.Proofs.Ytemndnpbbkjmhab
