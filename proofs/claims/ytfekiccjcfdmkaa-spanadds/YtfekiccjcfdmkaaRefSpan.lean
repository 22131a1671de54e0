/-
  quicksetref.SpanAdd, SpanCut, SpanBoth: the document's own: not of the form, or the one list of the set; in new memory.
-/
import Derived.Test.YtfekiccjcfdmkaaChecked
import Derived.WalkKit
import Derived.BigQuiet
import Derived.Test.YtfekiccjcfdmkaaSpanHs
import Derived.Test.YtfekiccjcfdmkaaRefEndsW
import Derived.Test.YtfekiccjcfdmkaaRefThose
import Derived.Test.YtfekiccjcfdmkaaSpanOps2
namespace Go.Proofs.Ytfekiccjcfdmkaa
open Go.RowKit Go.Deep
def opAdd (a b : Bool) : Bool := a || b
def opCut (a b : Bool) : Bool := a && !b
def opBoth (a b : Bool) : Bool := a && b
set_option maxRecDepth 100000 in
set_option maxHeartbeats 400000 in
theorem RAdd1_any (a b : Option Addr) (n m c d : Nat) (L M : List (Int × Int)) (k : Int) (p1 p2 : Addr) (w : World) (hn : L.length = n) (hm : M.length = m) (hnc : n ≤ 9223372036854775807) (hmc : m ≤ 9223372036854775807) (h : Rngs w a L) (h' : Rngs w b M) (g1 : w.cell? p1 = some (.slice a n c)) (g2 : w.cell? p2 = some (.slice b m d)) :
    Calls Try.prog 29 #[.int .i64 k, .pointer (some p1), .pointer (some p2)] w fun e w' => e = .returned (.bool (opAdd (hasB L k) (hasB M k))) ∧ Ext w w' := by
  have H1 := SpanHas_any a n c L k w hn hnc h
  have H2 : Hid (∀ w', Ext w w' → Calls Try.prog 30 #[.slice b m d, .int .i64 k] w' fun e w'' => e = .returned (.bool (hasB M k)) ∧ Ext w' w'') := fun w' x => SpanHas_any b m d M k w' hm hmc (h'.ext x)
  have H3 : Hid (∀ w', Ext w w' → w'.cell? p2 = some (.slice b m d)) := fun w' x => x.keeps g2
  unfold opAdd
  clear h h' g2 hn hm
  cases hv : hasB L k with
  | true =>
    rw [hv] at H1
    go_enter Try.func29, Try.ntmps29
    go_wp2_with fail
    refine H1.mono ?_
    rintro e w1 ⟨rfl, hx1⟩
    go_wp2_with fail
    go_ret
    exact ⟨ret_boolS rfl, hx1⟩
  | false =>
    rw [hv] at H1
    go_enter Try.func29, Try.ntmps29
    go_wp2_with fail
    refine H1.mono ?_
    rintro e w1 ⟨rfl, hx1⟩
    have g3 := H3.out _ hx1
    go_wp2_with fail
    refine (H2.out _ hx1).mono ?_
    rintro e w2 ⟨rfl, hx2⟩
    go_wp2_with fail
    go_ret
    exact ⟨ret_boolS (by simp), hx1.trans hx2⟩
set_option maxRecDepth 100000 in
set_option maxHeartbeats 400000 in
theorem RCut1_any (a b : Option Addr) (n m c d : Nat) (L M : List (Int × Int)) (k : Int) (p1 p2 : Addr) (w : World) (hn : L.length = n) (hm : M.length = m) (hnc : n ≤ 9223372036854775807) (hmc : m ≤ 9223372036854775807) (h : Rngs w a L) (h' : Rngs w b M) (g1 : w.cell? p1 = some (.slice a n c)) (g2 : w.cell? p2 = some (.slice b m d)) :
    Calls Try.prog 32 #[.int .i64 k, .pointer (some p1), .pointer (some p2)] w fun e w' => e = .returned (.bool (opCut (hasB L k) (hasB M k))) ∧ Ext w w' := by
  have H1 := SpanHas_any a n c L k w hn hnc h
  have H2 : Hid (∀ w', Ext w w' → Calls Try.prog 30 #[.slice b m d, .int .i64 k] w' fun e w'' => e = .returned (.bool (hasB M k)) ∧ Ext w' w'') := fun w' x => SpanHas_any b m d M k w' hm hmc (h'.ext x)
  have H3 : Hid (∀ w', Ext w w' → w'.cell? p2 = some (.slice b m d)) := fun w' x => x.keeps g2
  unfold opCut
  clear h h' g2 hn hm
  cases hv : hasB L k with
  | false =>
    rw [hv] at H1
    go_enter Try.func32, Try.ntmps32
    go_wp2_with fail
    refine H1.mono ?_
    rintro e w1 ⟨rfl, hx1⟩
    go_wp2_with fail
    go_ret
    exact ⟨ret_boolS rfl, hx1⟩
  | true =>
    rw [hv] at H1
    go_enter Try.func32, Try.ntmps32
    go_wp2_with fail
    refine H1.mono ?_
    rintro e w1 ⟨rfl, hx1⟩
    have g3 := H3.out _ hx1
    go_wp2_with fail
    refine (H2.out _ hx1).mono ?_
    rintro e w2 ⟨rfl, hx2⟩
    go_wp2_with fail
    go_ret
    exact ⟨ret_boolS (by simp), hx1.trans hx2⟩
set_option maxRecDepth 100000 in
set_option maxHeartbeats 400000 in
theorem RBoth1_any (a b : Option Addr) (n m c d : Nat) (L M : List (Int × Int)) (k : Int) (p1 p2 : Addr) (w : World) (hn : L.length = n) (hm : M.length = m) (hnc : n ≤ 9223372036854775807) (hmc : m ≤ 9223372036854775807) (h : Rngs w a L) (h' : Rngs w b M) (g1 : w.cell? p1 = some (.slice a n c)) (g2 : w.cell? p2 = some (.slice b m d)) :
    Calls Try.prog 34 #[.int .i64 k, .pointer (some p1), .pointer (some p2)] w fun e w' => e = .returned (.bool (opBoth (hasB L k) (hasB M k))) ∧ Ext w w' := by
  have H1 := SpanHas_any a n c L k w hn hnc h
  have H2 : Hid (∀ w', Ext w w' → Calls Try.prog 30 #[.slice b m d, .int .i64 k] w' fun e w'' => e = .returned (.bool (hasB M k)) ∧ Ext w' w'') := fun w' x => SpanHas_any b m d M k w' hm hmc (h'.ext x)
  have H3 : Hid (∀ w', Ext w w' → w'.cell? p2 = some (.slice b m d)) := fun w' x => x.keeps g2
  unfold opBoth
  clear h h' g2 hn hm
  cases hv : hasB L k with
  | false =>
    rw [hv] at H1
    go_enter Try.func34, Try.ntmps34
    go_wp2_with fail
    refine H1.mono ?_
    rintro e w1 ⟨rfl, hx1⟩
    go_wp2_with fail
    go_ret
    exact ⟨ret_boolS rfl, hx1⟩
  | true =>
    rw [hv] at H1
    go_enter Try.func34, Try.ntmps34
    go_wp2_with fail
    refine H1.mono ?_
    rintro e w1 ⟨rfl, hx1⟩
    have g3 := H3.out _ hx1
    go_wp2_with fail
    refine (H2.out _ hx1).mono ?_
    rintro e w2 ⟨rfl, hx2⟩
    go_wp2_with fail
    go_ret
    exact ⟨ret_boolS (by simp), hx1.trans hx2⟩
theorem rmB_may (x y : Int) : rmB x y = mayB [(x, y)] := by
  unfold rmB mayB
  simp [okB]
theorem two_cells (W : World) (g : Nat) (hg : g = W.heap.size) (a b : Option Addr) (n m c d : Nat) (t : TypeId) : ∀ j, j < 2 → (W.alloc (.cells #[.slice a n c, .slice b m d] t)).cell? ⟨g, j, none⟩ = some (.slice (two a b j) (two n m j) (two c d j)) := by
  subst hg
  intro j hj
  rw [new_cell]
  match j, hj with
  | 0, _ => rfl
  | 1, _ => rfl
/-- from the ranges between the ends to the set -/
theorem ThoRes.set {P : List Int} {A B : List (Int × Int)} {op : Bool → Bool → Bool} {v : Value} {er : Int} {w' : World} (hA : mayB A = true) (hB : mayB B = true) (h0 : op false false = false) (hu : Up P) (hl : P.length ≤ 800) (eA : Ends P A) (eB : Ends P B) (h : ThoRes P (fun k => op (hasB A k) (hasB B k)) v er w') : SetRes true (fun k => op (memB k A) (memB k B) = true) v er w' := by
  obtain ⟨L, h1, h2⟩ := h
  have e : (fun k => op (hasB A k) (hasB B k)) = fun k => op (memB k A) (memB k B) := by
    funext k
    unfold hasB
    rw [hA, hB]
    rfl
  rw [e] at h1
  exact Or.inr ⟨rfl, L, h1.nrm, fun k => Tho.set h0 hu eA eB h1 k, by have := h1.len; omega, h2⟩
set_option maxRecDepth 100000 in
set_option maxHeartbeats 800000 in
theorem RSpanAdd_any (a : Option Addr) (n c : Nat) (L : List (Int × Int)) (x y : Int) (w : World) (hn : L.length = n) (hn' : n ≤ 9223372036854775807) (h : Rngs w a L) :
    Calls Try.prog 10 #[.slice a n c, .agg #[.int .i64 x, .int .i64 y]] w fun e w' => OpRes w (mayB L && mayB [(x, y)]) (fun k => opAdd (memB k L) (memB k [(x, y)]) = true) e w' := by
  have HL : Hid (L.length = n) := hn
  have HR : Hid (∀ w', Ext w w' → Rngs w' a L) := fun w' q => h.ext q
  obtain ⟨w0, hw0⟩ : ∃ w0, w0 = (w.alloc (.cells #[.slice a n c] 22)).alloc (.cells #[.int .i64 x, .int .i64 y] 24) := ⟨_, rfl⟩
  have x0 : Ext w w0 := by rw [hw0]; exact ((Ext.refl w).alloc _ _).alloc _ _
  have HCa : Hid (w0.cell? ⟨w.heap.size, 0, none⟩ = some (.slice a n c)) := by
    show _ = _
    rw [hw0]
    exact alloc_keeps (new_cell w #[.slice a n c] _ 0) _
  have HCx : Hid (w0.cell? ⟨w.heap.size + 1, 0, none⟩ = some (.int .i64 x) ∧ w0.cell? ⟨w.heap.size + 1, 1, none⟩ = some (.int .i64 y)) := by
    have e0 := new_cell (w.alloc (.cells #[.slice a n c] 22)) #[.int .i64 x, .int .i64 y] 24 0
    have e1 := new_cell (w.alloc (.cells #[.slice a n c] 22)) #[.int .i64 x, .int .i64 y] 24 1
    rw [World.size_alloc] at e0 e1
    rw [hw0]
    exact ⟨e0, e1⟩
  have HM := SpanMay_any a n c L w0 hn hn' (h.ext x0)
  rw [hw0] at HM
  have HX0 : Hid (Ext w w0) := x0
  have HW0 : Hid (w0 = (w.alloc (.cells #[.slice a n c] 22)).alloc (.cells #[.int .i64 x, .int .i64 y] 24)) := hw0
  clear hn h hw0 x0
  cases hm : mayB L with
  | false =>
    rw [hm] at HM
    go_enter Try.func10, Try.ntmps10
    go_wp2_with fail
    refine HM.mono ?_
    rintro e w1 ⟨rfl, hx1⟩
    go_wp2_with fail
    go_ret2
    exact ⟨_, _, rfl, Or.inl ⟨by simp, rfl, rfl⟩, (HX0.out.trans (by rw [HW0.out]; exact hx1))⟩
  | true =>
    rw [hm] at HM
    have HMa : Hid (mayB L = true) := hm
    have hn2 : n ≤ 200 := by rw [← HL.out]; exact ((mayB_iff L).1 hm).1
    clear hm
    go_enter Try.func10, Try.ntmps10
    go_wp2_with fail
    refine HM.mono ?_
    rintro e w1 ⟨rfl, hx1⟩
    rw [← HW0.out] at hx1
    have c0 := hx1.keeps HCx.out.1
    have c1 := hx1.keeps HCx.out.2
    have HX1 : Hid (Ext w0 w1) := hx1
    clear hx1 HM
    cases hr : rmB x y with
    | false =>
      have hcr := RangeMay_val x y false hr w1
      have HMb : Hid (mayB [(x, y)] = false) := by show _ = _; rw [← rmB_may]; exact hr
      clear hr
      go_wp2_with fail
      refine hcr.mono ?_
      rintro e w2 ⟨rfl, hx2⟩
      go_wp2_with fail
      go_ret2
      exact ⟨_, _, rfl, Or.inl ⟨by rw [HMb.out]; simp, rfl, rfl⟩, (HX0.out.trans HX1.out).trans hx2⟩
    | true =>
      have hcr := RangeMay_val x y true hr w1
      have HMb : Hid (mayB [(x, y)] = true) := by show _ = _; rw [← rmB_may]; exact hr
      clear hr
      go_wp2_with fail
      refine hcr.mono ?_
      rintro e w2 ⟨rfl, hx2⟩
      have d0 := hx2.keeps c0
      have d1 := hx2.keeps c1
      have da := (HX1.out.trans hx2).keeps HCa.out
      have dk : ∀ o1 o2, ((w2.alloc o1).alloc o2).cell? ⟨w.heap.size, 0, none⟩ = some (.slice a n c) := fun o1 o2 => alloc_keeps (alloc_keeps da o1) o2
      have HX2 : Hid (Ext w0 w2) := HX1.out.trans hx2
      clear c0 c1 hcr hx2
      obtain ⟨w3, hw3⟩ : ∃ w3, w3 = ((w2.alloc (.cells #[.int .i64 x, .int .i64 y] 24)).alloc (.cells #[.slice (some ⟨w2.heap.size, 0, none⟩) 1 1] 22)).alloc (.cells #[.slice a n c, .slice (some ⟨w2.heap.size, 0, none⟩) 1 1] 22) := ⟨_, rfl⟩
      have x3 : Ext w2 w3 := by rw [hw3]; exact (((Ext.refl w2).alloc _ _).alloc _ _).alloc _ _
      have hone : Rngs w3 (some ⟨w2.heap.size, 0, none⟩) [(x, y)] := by
        have y0 : Ext (w2.alloc (.cells #[.int .i64 x, .int .i64 y] 24)) w3 := by rw [hw3]; exact ((Ext.refl _).alloc _ _).alloc _ _
        exact rngs_one (y0.keeps (new_cell w2 #[.int .i64 x, .int .i64 y] 24 0)) (y0.keeps (new_cell w2 #[.int .i64 x, .int .i64 y] 24 1))
      have hp2 : w3.cell? ⟨w2.heap.size + 1, 0, none⟩ = some (.slice (some ⟨w2.heap.size, 0, none⟩) 1 1) := by
        have e := new_cell (w2.alloc (.cells #[.int .i64 x, .int .i64 y] 24)) #[.slice (some ⟨w2.heap.size, 0, none⟩) 1 1] 22 0
        rw [World.size_alloc] at e
        rw [hw3]
        exact alloc_keeps e _
      have xx3 : Ext w w3 := (HX0.out.trans HX2.out).trans x3
      have hE := ends_any (w2.heap.size + 2) 2 2 (two a (some ⟨w2.heap.size, 0, none⟩)) (two n 1) (two c 1) (two L [(x, y)]) w3 (Nat.le_refl _)
        (fun j hj => match j, hj with | 0, _ => ⟨HL.out, hn2⟩ | 1, _ => ⟨rfl, by show 1 ≤ 200; omega⟩) (by rw [hw3]; exact two_cells _ _ (by simp only [World.size_alloc]) _ _ _ _ _ _ _)
        (fun j hj => match j, hj with | 0, _ => HR.out _ xx3 | 1, _ => hone)
      rw [hw3] at hE
      have HF : Hid (∀ k w', Ext w3 w' → Calls Try.prog 29 #[.int .i64 k, .pointer (some ⟨w.heap.size, 0, none⟩), .pointer (some ⟨w2.heap.size + 1, 0, none⟩)] w' fun e w'' => e = .returned (.bool (opAdd (hasB L k) (hasB [(x, y)] k))) ∧ Ext w' w'') := fun k w' q =>
        RAdd1_any a (some ⟨w2.heap.size, 0, none⟩) n 1 c 1 L [(x, y)] k _ _ w' HL.out rfl (by omega) (by omega) (HR.out _ (xx3.trans q)) (hone.ext q) ((x3.trans q).keeps da) (q.keeps hp2)
      have HX3 : Hid (Ext w w3) := xx3
      have HW3 : Hid (w3 = ((w2.alloc (.cells #[.int .i64 x, .int .i64 y] 24)).alloc (.cells #[.slice (some ⟨w2.heap.size, 0, none⟩) 1 1] 22)).alloc (.cells #[.slice a n c, .slice (some ⟨w2.heap.size, 0, none⟩) 1 1] 22)) := hw3
      have eg : ∀ args w, (callFunc 29 args).run Try.prog w = .ok (.enter 29 args) w := enters_of Try.func29 (by kernel_rfl) rfl
      have HEG : Hid (∀ args w, (callFunc 29 args).run Try.prog w = .ok (.enter 29 args) w) := eg
      clear x3 hone hp2 xx3 hw3 eg
      go_wp2_with fail
      refine hE.mono ?_
      rw [← HW3.out]
      rintro e w4 ⟨v4, rfl, P, hu, hends, hlen, hown, hx4⟩
      obtain ⟨a4, c4, rfl, hcs⟩ := own_slice hown
      have HPu : Hid (Up P ∧ Ends P L ∧ Ends P [(x, y)] ∧ P.length ≤ 800) := ⟨hu, hends 0 (by omega), hends 1 (by omega), hlen⟩
      have HT := those_any 29 ⟨w.heap.size, 0, none⟩ ⟨w2.heap.size + 1, 0, none⟩ (fun k => opAdd (hasB L k) (hasB [(x, y)] k)) a4 P.length c4 P w4 rfl (by omega) hu
        (fun i z hz => by
          obtain ⟨b, o, h1, h2⟩ := hcs i (lt_of_get hz)
          refine ⟨b, o, h1, ?_⟩
          rw [h2, List.getElem?_map, hz]
          rfl) HEG.out (fun k w' q => HF.out k w' (hx4.trans q))
      have HX4 : Hid (Ext w w4) := HX3.out.trans hx4
      clear hu hends hlen hown hcs hx4 hE HF d0 d1 da dk
      go_wp2_with fail
      refine HT.mono ?_
      rintro e w5 ⟨v5, er, rfl, hres, hx5⟩
      have HS : Hid (SetRes true (fun k => opAdd (memB k L) (memB k [(x, y)]) = true) v5 er w5) := hres.set HMa.out HMb.out rfl HPu.out.1 HPu.out.2.2.2 HPu.out.2.1 HPu.out.2.2.1
      clear hres HT
      go_wp2_with fail
      go_ret2
      exact ⟨_, _, rfl, HS.out.congr (by rw [HMb.out]; rfl) (fun _ _ => Iff.rfl), HX4.out.trans hx5⟩
set_option maxRecDepth 100000 in
set_option maxHeartbeats 800000 in
theorem RSpanCut_any (a : Option Addr) (n c : Nat) (L : List (Int × Int)) (x y : Int) (w : World) (hn : L.length = n) (hn' : n ≤ 9223372036854775807) (h : Rngs w a L) :
    Calls Try.prog 13 #[.slice a n c, .agg #[.int .i64 x, .int .i64 y]] w fun e w' => OpRes w (mayB L && mayB [(x, y)]) (fun k => opCut (memB k L) (memB k [(x, y)]) = true) e w' := by
  have HL : Hid (L.length = n) := hn
  have HR : Hid (∀ w', Ext w w' → Rngs w' a L) := fun w' q => h.ext q
  obtain ⟨w0, hw0⟩ : ∃ w0, w0 = (w.alloc (.cells #[.slice a n c] 22)).alloc (.cells #[.int .i64 x, .int .i64 y] 24) := ⟨_, rfl⟩
  have x0 : Ext w w0 := by rw [hw0]; exact ((Ext.refl w).alloc _ _).alloc _ _
  have HCa : Hid (w0.cell? ⟨w.heap.size, 0, none⟩ = some (.slice a n c)) := by
    show _ = _
    rw [hw0]
    exact alloc_keeps (new_cell w #[.slice a n c] _ 0) _
  have HCx : Hid (w0.cell? ⟨w.heap.size + 1, 0, none⟩ = some (.int .i64 x) ∧ w0.cell? ⟨w.heap.size + 1, 1, none⟩ = some (.int .i64 y)) := by
    have e0 := new_cell (w.alloc (.cells #[.slice a n c] 22)) #[.int .i64 x, .int .i64 y] 24 0
    have e1 := new_cell (w.alloc (.cells #[.slice a n c] 22)) #[.int .i64 x, .int .i64 y] 24 1
    rw [World.size_alloc] at e0 e1
    rw [hw0]
    exact ⟨e0, e1⟩
  have HM := SpanMay_any a n c L w0 hn hn' (h.ext x0)
  rw [hw0] at HM
  have HX0 : Hid (Ext w w0) := x0
  have HW0 : Hid (w0 = (w.alloc (.cells #[.slice a n c] 22)).alloc (.cells #[.int .i64 x, .int .i64 y] 24)) := hw0
  clear hn h hw0 x0
  cases hm : mayB L with
  | false =>
    rw [hm] at HM
    go_enter Try.func13, Try.ntmps13
    go_wp2_with fail
    refine HM.mono ?_
    rintro e w1 ⟨rfl, hx1⟩
    go_wp2_with fail
    go_ret2
    exact ⟨_, _, rfl, Or.inl ⟨by simp, rfl, rfl⟩, (HX0.out.trans (by rw [HW0.out]; exact hx1))⟩
  | true =>
    rw [hm] at HM
    have HMa : Hid (mayB L = true) := hm
    have hn2 : n ≤ 200 := by rw [← HL.out]; exact ((mayB_iff L).1 hm).1
    clear hm
    go_enter Try.func13, Try.ntmps13
    go_wp2_with fail
    refine HM.mono ?_
    rintro e w1 ⟨rfl, hx1⟩
    rw [← HW0.out] at hx1
    have c0 := hx1.keeps HCx.out.1
    have c1 := hx1.keeps HCx.out.2
    have HX1 : Hid (Ext w0 w1) := hx1
    clear hx1 HM
    cases hr : rmB x y with
    | false =>
      have hcr := RangeMay_val x y false hr w1
      have HMb : Hid (mayB [(x, y)] = false) := by show _ = _; rw [← rmB_may]; exact hr
      clear hr
      go_wp2_with fail
      refine hcr.mono ?_
      rintro e w2 ⟨rfl, hx2⟩
      go_wp2_with fail
      go_ret2
      exact ⟨_, _, rfl, Or.inl ⟨by rw [HMb.out]; simp, rfl, rfl⟩, (HX0.out.trans HX1.out).trans hx2⟩
    | true =>
      have hcr := RangeMay_val x y true hr w1
      have HMb : Hid (mayB [(x, y)] = true) := by show _ = _; rw [← rmB_may]; exact hr
      clear hr
      go_wp2_with fail
      refine hcr.mono ?_
      rintro e w2 ⟨rfl, hx2⟩
      have d0 := hx2.keeps c0
      have d1 := hx2.keeps c1
      have da := (HX1.out.trans hx2).keeps HCa.out
      have dk : ∀ o1 o2, ((w2.alloc o1).alloc o2).cell? ⟨w.heap.size, 0, none⟩ = some (.slice a n c) := fun o1 o2 => alloc_keeps (alloc_keeps da o1) o2
      have HX2 : Hid (Ext w0 w2) := HX1.out.trans hx2
      clear c0 c1 hcr hx2
      obtain ⟨w3, hw3⟩ : ∃ w3, w3 = ((w2.alloc (.cells #[.int .i64 x, .int .i64 y] 24)).alloc (.cells #[.slice (some ⟨w2.heap.size, 0, none⟩) 1 1] 22)).alloc (.cells #[.slice a n c, .slice (some ⟨w2.heap.size, 0, none⟩) 1 1] 22) := ⟨_, rfl⟩
      have x3 : Ext w2 w3 := by rw [hw3]; exact (((Ext.refl w2).alloc _ _).alloc _ _).alloc _ _
      have hone : Rngs w3 (some ⟨w2.heap.size, 0, none⟩) [(x, y)] := by
        have y0 : Ext (w2.alloc (.cells #[.int .i64 x, .int .i64 y] 24)) w3 := by rw [hw3]; exact ((Ext.refl _).alloc _ _).alloc _ _
        exact rngs_one (y0.keeps (new_cell w2 #[.int .i64 x, .int .i64 y] 24 0)) (y0.keeps (new_cell w2 #[.int .i64 x, .int .i64 y] 24 1))
      have hp2 : w3.cell? ⟨w2.heap.size + 1, 0, none⟩ = some (.slice (some ⟨w2.heap.size, 0, none⟩) 1 1) := by
        have e := new_cell (w2.alloc (.cells #[.int .i64 x, .int .i64 y] 24)) #[.slice (some ⟨w2.heap.size, 0, none⟩) 1 1] 22 0
        rw [World.size_alloc] at e
        rw [hw3]
        exact alloc_keeps e _
      have xx3 : Ext w w3 := (HX0.out.trans HX2.out).trans x3
      have hE := ends_any (w2.heap.size + 2) 2 2 (two a (some ⟨w2.heap.size, 0, none⟩)) (two n 1) (two c 1) (two L [(x, y)]) w3 (Nat.le_refl _)
        (fun j hj => match j, hj with | 0, _ => ⟨HL.out, hn2⟩ | 1, _ => ⟨rfl, by show 1 ≤ 200; omega⟩) (by rw [hw3]; exact two_cells _ _ (by simp only [World.size_alloc]) _ _ _ _ _ _ _)
        (fun j hj => match j, hj with | 0, _ => HR.out _ xx3 | 1, _ => hone)
      rw [hw3] at hE
      have HF : Hid (∀ k w', Ext w3 w' → Calls Try.prog 32 #[.int .i64 k, .pointer (some ⟨w.heap.size, 0, none⟩), .pointer (some ⟨w2.heap.size + 1, 0, none⟩)] w' fun e w'' => e = .returned (.bool (opCut (hasB L k) (hasB [(x, y)] k))) ∧ Ext w' w'') := fun k w' q =>
        RCut1_any a (some ⟨w2.heap.size, 0, none⟩) n 1 c 1 L [(x, y)] k _ _ w' HL.out rfl (by omega) (by omega) (HR.out _ (xx3.trans q)) (hone.ext q) ((x3.trans q).keeps da) (q.keeps hp2)
      have HX3 : Hid (Ext w w3) := xx3
      have HW3 : Hid (w3 = ((w2.alloc (.cells #[.int .i64 x, .int .i64 y] 24)).alloc (.cells #[.slice (some ⟨w2.heap.size, 0, none⟩) 1 1] 22)).alloc (.cells #[.slice a n c, .slice (some ⟨w2.heap.size, 0, none⟩) 1 1] 22)) := hw3
      have eg : ∀ args w, (callFunc 32 args).run Try.prog w = .ok (.enter 32 args) w := enters_of Try.func32 (by kernel_rfl) rfl
      have HEG : Hid (∀ args w, (callFunc 32 args).run Try.prog w = .ok (.enter 32 args) w) := eg
      clear x3 hone hp2 xx3 hw3 eg
      go_wp2_with fail
      refine hE.mono ?_
      rw [← HW3.out]
      rintro e w4 ⟨v4, rfl, P, hu, hends, hlen, hown, hx4⟩
      obtain ⟨a4, c4, rfl, hcs⟩ := own_slice hown
      have HPu : Hid (Up P ∧ Ends P L ∧ Ends P [(x, y)] ∧ P.length ≤ 800) := ⟨hu, hends 0 (by omega), hends 1 (by omega), hlen⟩
      have HT := those_any 32 ⟨w.heap.size, 0, none⟩ ⟨w2.heap.size + 1, 0, none⟩ (fun k => opCut (hasB L k) (hasB [(x, y)] k)) a4 P.length c4 P w4 rfl (by omega) hu
        (fun i z hz => by
          obtain ⟨b, o, h1, h2⟩ := hcs i (lt_of_get hz)
          refine ⟨b, o, h1, ?_⟩
          rw [h2, List.getElem?_map, hz]
          rfl) HEG.out (fun k w' q => HF.out k w' (hx4.trans q))
      have HX4 : Hid (Ext w w4) := HX3.out.trans hx4
      clear hu hends hlen hown hcs hx4 hE HF d0 d1 da dk
      go_wp2_with fail
      refine HT.mono ?_
      rintro e w5 ⟨v5, er, rfl, hres, hx5⟩
      have HS : Hid (SetRes true (fun k => opCut (memB k L) (memB k [(x, y)]) = true) v5 er w5) := hres.set HMa.out HMb.out rfl HPu.out.1 HPu.out.2.2.2 HPu.out.2.1 HPu.out.2.2.1
      clear hres HT
      go_wp2_with fail
      go_ret2
      exact ⟨_, _, rfl, HS.out.congr (by rw [HMb.out]; rfl) (fun _ _ => Iff.rfl), HX4.out.trans hx5⟩
set_option maxRecDepth 100000 in
set_option maxHeartbeats 800000 in
theorem RSpanBoth_any (a b : Option Addr) (n m c d : Nat) (L M : List (Int × Int)) (w : World) (hn : L.length = n) (hn' : n ≤ 9223372036854775807) (hm0 : M.length = m) (hm' : m ≤ 9223372036854775807) (h : Rngs w a L) (h' : Rngs w b M) :
    Calls Try.prog 15 #[.slice a n c, .slice b m d] w fun e w' => OpRes w (mayB L && mayB M) (fun k => opBoth (memB k L) (memB k M) = true) e w' := by
  have HL : Hid (L.length = n) := hn
  have HLm : Hid (M.length = m) := hm0
  have HR : Hid (∀ w', Ext w w' → Rngs w' a L) := fun w' q => h.ext q
  have HRm : Hid (∀ w', Ext w w' → Rngs w' b M) := fun w' q => h'.ext q
  obtain ⟨w0, hw0⟩ : ∃ w0, w0 = (w.alloc (.cells #[.slice a n c] 22)).alloc (.cells #[.slice b m d] 22) := ⟨_, rfl⟩
  have x0 : Ext w w0 := by rw [hw0]; exact ((Ext.refl w).alloc _ _).alloc _ _
  have HCa : Hid (w0.cell? ⟨w.heap.size, 0, none⟩ = some (.slice a n c)) := by
    show _ = _
    rw [hw0]
    exact alloc_keeps (new_cell w #[.slice a n c] _ 0) _
  have HCb : Hid (w0.cell? ⟨w.heap.size + 1, 0, none⟩ = some (.slice b m d)) := by
    have e0 := new_cell (w.alloc (.cells #[.slice a n c] 22)) #[.slice b m d] 22 0
    rw [World.size_alloc] at e0
    show _ = _
    rw [hw0]
    exact e0
  have HM := SpanMay_any a n c L w0 hn hn' (h.ext x0)
  rw [hw0] at HM
  have HX0 : Hid (Ext w w0) := x0
  have HW0 : Hid (w0 = (w.alloc (.cells #[.slice a n c] 22)).alloc (.cells #[.slice b m d] 22)) := hw0
  clear hn hm0 h h' hw0 x0
  cases hm : mayB L with
  | false =>
    rw [hm] at HM
    go_enter Try.func15, Try.ntmps15
    go_wp2_with fail
    refine HM.mono ?_
    rintro e w1 ⟨rfl, hx1⟩
    go_wp2_with fail
    go_ret2
    exact ⟨_, _, rfl, Or.inl ⟨by simp, rfl, rfl⟩, (HX0.out.trans (by rw [HW0.out]; exact hx1))⟩
  | true =>
    rw [hm] at HM
    have HMa : Hid (mayB L = true) := hm
    have hn2 : n ≤ 200 := by rw [← HL.out]; exact ((mayB_iff L).1 hm).1
    clear hm
    go_enter Try.func15, Try.ntmps15
    go_wp2_with fail
    refine HM.mono ?_
    rintro e w1 ⟨rfl, hx1⟩
    rw [← HW0.out] at hx1
    have cb := hx1.keeps HCb.out
    have HX1 : Hid (Ext w0 w1) := hx1
    have hcr := SpanMay_any b m d M w1 HLm.out hm' (HRm.out _ (HX0.out.trans hx1))
    clear hx1 HM
    cases hr : mayB M with
    | false =>
      rw [hr] at hcr
      have HMb : Hid (mayB M = false) := hr
      clear hr
      go_wp2_with fail
      refine hcr.mono ?_
      rintro e w2 ⟨rfl, hx2⟩
      go_wp2_with fail
      go_ret2
      exact ⟨_, _, rfl, Or.inl ⟨by rw [HMb.out]; rfl, rfl, rfl⟩, (HX0.out.trans HX1.out).trans hx2⟩
    | true =>
      rw [hr] at hcr
      have HMb : Hid (mayB M = true) := hr
      have hm2 : m ≤ 200 := by rw [← HLm.out]; exact ((mayB_iff M).1 hr).1
      clear hr
      go_wp2_with fail
      refine hcr.mono ?_
      rintro e w2 ⟨rfl, hx2⟩
      have da := (HX1.out.trans hx2).keeps HCa.out
      have db := (HX1.out.trans hx2).keeps HCb.out
      have HX2 : Hid (Ext w0 w2) := HX1.out.trans hx2
      clear cb hcr hx2
      obtain ⟨w3, hw3⟩ : ∃ w3, w3 = w2.alloc (.cells #[.slice a n c, .slice b m d] 22) := ⟨_, rfl⟩
      have x3 : Ext w2 w3 := by rw [hw3]; exact (Ext.refl w2).alloc _ _
      have xx3 : Ext w w3 := (HX0.out.trans HX2.out).trans x3
      have hE := ends_any w2.heap.size 2 2 (two a b) (two n m) (two c d) (two L M) w3 (Nat.le_refl _)
        (fun j hj => match j, hj with | 0, _ => ⟨HL.out, hn2⟩ | 1, _ => ⟨HLm.out, hm2⟩) (by rw [hw3]; exact two_cells _ _ rfl _ _ _ _ _ _ _)
        (fun j hj => match j, hj with | 0, _ => HR.out _ xx3 | 1, _ => HRm.out _ xx3)
      rw [hw3] at hE
      have HF : Hid (∀ k w', Ext w3 w' → Calls Try.prog 34 #[.int .i64 k, .pointer (some ⟨w.heap.size, 0, none⟩), .pointer (some ⟨w.heap.size + 1, 0, none⟩)] w' fun e w'' => e = .returned (.bool (opBoth (hasB L k) (hasB M k))) ∧ Ext w' w'') := fun k w' q =>
        RBoth1_any a b n m c d L M k _ _ w' HL.out HLm.out (by omega) (by omega) (HR.out _ (xx3.trans q)) (HRm.out _ (xx3.trans q)) ((x3.trans q).keeps da) ((x3.trans q).keeps db)
      have HX3 : Hid (Ext w w3) := xx3
      have HW3 : Hid (w3 = w2.alloc (.cells #[.slice a n c, .slice b m d] 22)) := hw3
      have eg : ∀ args w, (callFunc 34 args).run Try.prog w = .ok (.enter 34 args) w := enters_of Try.func34 (by kernel_rfl) rfl
      have HEG : Hid (∀ args w, (callFunc 34 args).run Try.prog w = .ok (.enter 34 args) w) := eg
      clear x3 xx3 hw3 eg
      go_wp2_with fail
      refine hE.mono ?_
      rw [← HW3.out]
      rintro e w4 ⟨v4, rfl, P, hu, hends, hlen, hown, hx4⟩
      obtain ⟨a4, c4, rfl, hcs⟩ := own_slice hown
      have HPu : Hid (Up P ∧ Ends P L ∧ Ends P M ∧ P.length ≤ 800) := ⟨hu, hends 0 (by omega), hends 1 (by omega), hlen⟩
      have HT := those_any 34 ⟨w.heap.size, 0, none⟩ ⟨w.heap.size + 1, 0, none⟩ (fun k => opBoth (hasB L k) (hasB M k)) a4 P.length c4 P w4 rfl (by omega) hu
        (fun i z hz => by
          obtain ⟨b, o, h1, h2⟩ := hcs i (lt_of_get hz)
          refine ⟨b, o, h1, ?_⟩
          rw [h2, List.getElem?_map, hz]
          rfl) HEG.out (fun k w' q => HF.out k w' (hx4.trans q))
      have HX4 : Hid (Ext w w4) := HX3.out.trans hx4
      clear hu hends hlen hown hcs hx4 hE HF da db
      go_wp2_with fail
      refine HT.mono ?_
      rintro e w5 ⟨v5, er, rfl, hres, hx5⟩
      have HS : Hid (SetRes true (fun k => opBoth (memB k L) (memB k M) = true) v5 er w5) := hres.set HMa.out HMb.out rfl HPu.out.1 HPu.out.2.2.2 HPu.out.2.1 HPu.out.2.2.1
      clear hres HT
      go_wp2_with fail
      go_ret2
      exact ⟨_, _, rfl, HS.out.congr (by rw [HMb.out]; rfl) (fun _ _ => Iff.rfl), HX4.out.trans hx5⟩
end Go.Proofs.Ytfekiccjcfdmkaa
