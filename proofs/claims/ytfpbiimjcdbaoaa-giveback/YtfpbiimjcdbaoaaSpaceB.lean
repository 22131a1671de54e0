/-
  space.behind and quicksetref.spaceAgain: the units behind records; in new memory.
-/
import Derived.Test.YtfpbiimjcdbaoaaChecked
import Derived.WalkKit
import Derived.BigQuiet
import Derived.Test.YtfpbiimjcdbaoaaRefSp
import Derived.Test.YtfpbiimjcdbaoaaSpanOps2
namespace Go.Proofs.Ytfpbiimjcdbaoaa
open Go.RowKit Go.Deep
def recV (L : List (Bool × Int × Int)) : List V3 := L.map fun r => (.bool r.1, IV r.2.1, IV r.2.2)
def BddR (L : List (Bool × Int × Int)) : Prop := ∀ r, r ∈ L → (-9223372036854775808 ≤ r.2.1 ∧ r.2.1 ≤ 9223372036854775807) ∧ -9223372036854775808 ≤ r.2.2 ∧ r.2.2 ≤ 9223372036854775807
/-- refused (with what), or the units -/
def behS (sz : Int) (L : List (Bool × Int × Int)) : Int ⊕ (Nat → Int) :=
  if szB sz then (if L.length ≤ 4096 then (match replayS sz.toNat (fun _ => 0) L with | none => .inl 4 | some S => .inr S) else .inl 1) else .inl 2
def BehRes (t : TypeId) (w : World) (sz : Int) (q : Int ⊕ (Nat → Int)) (v : Value) (er : Int) (w' : World) : Prop :=
  match q with
  | .inl k => v = .slice none 0 0 ∧ er = k ∧ k ≠ 0
  | .inr S => er = 0 ∧ (1 ≤ sz ∧ sz ≤ 4096) ∧ ∃ g, v = .slice (some ⟨g, 0, none⟩) sz.toNat sz.toNat ∧ w.heap.size ≤ g ∧ Uns w' g t sz.toNat S
theorem rec_at {w : World} {a : Option Addr} {L : List (Bool × Int × Int)} (h : Tri w a (recV L)) {q : Nat} {f : Bool} {x y : Int} (hq : L[q]? = some (f, x, y)) : ∃ b o, a = some ⟨b, o, none⟩ ∧ w.cell? ⟨b, o + q * 3, none⟩ = some (.bool f) ∧ w.cell? ⟨b, o + q * 3 + 1, none⟩ = some (.int .i64 x) ∧ w.cell? ⟨b, o + q * 3 + 2, none⟩ = some (.int .i64 y) :=
  h q (.bool f) (IV x) (IV y) (by unfold recV; rw [List.getElem?_map, hq]; rfl)
theorem infoSt : (Try.prog.info? 63).map (fun i => (i.zero, i.size, i.bytes)) = some (some (.int .i64 0), 1, 8) := by kernel_rfl
theorem infoIU : (Try.prog.info? 3).map (fun i => (i.zero, i.size, i.bytes)) = some (some (.int .i64 0), 1, 8) := by kernel_rfl
theorem make_units (n : Nat) (hb : n ≤ 4096) (w : World) : (Instr.makeSlice 56 (.int .i64 (n : Int)) (.int .i64 (n : Int))).run Try.prog w = .ok (.slice (some ⟨w.heap.size, 0, none⟩) n n) (w.alloc (.cells (madeCells #[.int .i64 0] n) 63)) :=
  run_make_row' (P := Try.prog) 56 63 (.int .i64 0) 8 Try.underlying56 infoSt rfl .i64 .i64 n (by omega) (by omega) w
theorem rmB_one (x y : Int) : mayB [(x, y)] = rmB x y := by
  unfold rmB mayB
  simp [okB]
section
variable {n : Nat} {S : Nat → Int} {f : Bool} {x y : Int} {l : List (Bool × Int × Int)}
theorem rep_none (h : stepR n S (f, x, y) = none) : replayS n S ((f, x, y) :: l) = none := by
  unfold replayS
  rw [h]
  rfl
theorem rep_some {S' : Nat → Int} (h : stepR n S (f, x, y) = some S') : replayS n S ((f, x, y) :: l) = replayS n S' l := by
  rw [replayS, h]
  rfl
theorem step_form (h : rmB x y = false) : stepR n S (f, x, y) = none := by
  unfold stepR
  simp [h]
theorem step_big (h : ¬ y ≤ (n : Int)) : stepR n S (f, x, y) = none := by
  unfold stepR
  simp [h]
theorem step_not (h : allS S x.toNat y.toNat (if f then 1 else 0) = false) : stepR n S (f, x, y) = none := by
  unfold stepR
  simp only [h, Bool.and_false]
  rfl
theorem step_ok (h1 : rmB x y = true) (h2 : y ≤ (n : Int)) (h3 : allS S x.toNat y.toNat (if f then 1 else 0) = true) : stepR n S (f, x, y) = some (putS S x.toNat y.toNat (if f then 0 else 1)) := by
  unfold stepR
  simp only [h1, h3, decide_eq_true h2]
  rfl
end
theorem rmB_nat {x y : Int} (h : rmB x y = true) : ∃ X Y : Nat, x = X ∧ y = Y ∧ X < Y ∧ Y ≤ 1048576 := by
  unfold rmB at h
  simp only [Bool.and_eq_true, decide_eq_true_eq] at h
  exact ⟨x.toNat, y.toNat, by omega, by omega, by omega, by omega⟩
set_option maxRecDepth 100000 in
set_option maxHeartbeats 1600000 in
theorem behind_any (sz : Int) (a : Option Addr) (m c : Nat) (L : List (Bool × Int × Int)) (w : World) (hl : L.length = m) (hm : m ≤ 9223372036854775807) (h : Tri w a (recV L)) (hb : BddR L) :
    Calls Try.prog 19 #[.int .i64 sz, .slice a m c] w fun e w' => ∃ v er, e = .returned (.tuple #[v, .int .i64 er]) ∧ BehRes 63 w sz (behS sz L) v er w' ∧ Ext w w' := by
  have HL : Hid (L.length = m) := hl
  have HR : Hid (Tri w a (recV L)) := h
  have HB : Hid (BddR L) := hb
  have HM := Smay_any sz w
  clear h hb hl
  cases hz : szB sz with
  | false =>
    rw [hz] at HM
    have HE : Hid (behS sz L = .inl 2) := by show _ = _; unfold behS; rw [hz]; rfl
    clear hz
    go_enter Try.func19, Try.ntmps19
    go_wp2_with fail
    refine HM.mono ?_
    rintro e w1 ⟨rfl, rfl⟩
    go_wp2_with fail
    go_ret2
    exact ⟨_, _, rfl, by rw [HE.out]; exact ⟨rfl, rfl, by decide⟩, Ext.refl _⟩
  | true =>
    rw [hz] at HM
    have hz2 : 1 ≤ sz ∧ sz ≤ 4096 := by unfold szB at hz; simpa using hz
    obtain ⟨n, rfl⟩ : ∃ n : Nat, sz = n := ⟨sz.toNat, by omega⟩
    have hn : 1 ≤ n ∧ n ≤ 4096 := by omega
    by_cases hm4 : m ≤ 4096
    · have HE : Hid (behS (n : Int) L = (match replayS n (fun _ => 0) L with | none => .inl 4 | some S => .inr S)) := by
        show _ = _
        unfold behS
        rw [hz, if_pos rfl, if_pos (by rw [HL.out]; exact hm4), Int.toNat_natCast]
      have hmk := make_units n hn.2
      clear hz
      go_enter Try.func19, Try.ntmps19
      go_wp2_with fail
      refine HM.mono ?_
      rintro e w1 ⟨rfl, hw1⟩
      obtain rfl : w = w1 := hw1.symm
      go_wp2_with fail
      go_loopw [21] (fun i wr => ∃ (q : Nat) (S : Nat → Int), q ≤ m ∧ i = .int .i64 q ∧ Hid (replayS n S (L.drop q) = replayS n (fun _ => 0) L) ∧ Uns wr w.heap.size 63 n S ∧ Ext w wr) (fun i _ => m - (intOf i).toNat)
      case atStart => exact ⟨0, _, Nat.zero_le _, rfl, rfl, World.rowIs_made w (.int .i64 0) n 63, (Ext.refl w).alloc _ _⟩
      case round =>
        clear hmk HM
        obtain ⟨q, S, hq, rfl, HRp, hu, hx⟩ := hrel
        have HU : Hid (Uns wr w.heap.size 63 n S) := hu
        clear hu
        by_cases hlt : q < m
        · obtain ⟨⟨f, x, y⟩, h1, h2, h3⟩ := drop_at (L := L) (k := q) (by rw [HL.out]; exact hlt)
          have hbd := HB.out _ h3
          simp only at hbd
          have HD : Hid (L.drop q = (f, x, y) :: L.drop (q + 1)) := h2
          obtain ⟨b, o, rfl, hc0, hc1, hc2⟩ := rec_at (HR.out.ext hx) h1
          obtain ⟨w2, hw2⟩ : ∃ w2, w2 = (wr.alloc (.cells #[.bool f, .int .i64 x, .int .i64 y] 69)).alloc (.cells #[.int .i64 x, .int .i64 y] 53) := ⟨_, rfl⟩
          have x2 : Ext wr w2 := by rw [hw2]; exact ((Ext.refl wr).alloc _ _).alloc _ _
          have e0 : w2.cell? ⟨wr.heap.size + 1, 0, none⟩ = some (.int .i64 x) := by
            have e := new_cell (wr.alloc (.cells #[.bool f, .int .i64 x, .int .i64 y] 69)) #[.int .i64 x, .int .i64 y] 53 0
            rw [World.size_alloc] at e
            rw [hw2]; exact e
          have e1 : w2.cell? ⟨wr.heap.size + 1, 1, none⟩ = some (.int .i64 y) := by
            have e := new_cell (wr.alloc (.cells #[.bool f, .int .i64 x, .int .i64 y] 69)) #[.int .i64 x, .int .i64 y] 53 1
            rw [World.size_alloc] at e
            rw [hw2]; exact e
          have HMy := SpMay_any (some ⟨wr.heap.size + 1, 0, none⟩) 1 1 [(x, y)] w2 rfl (by omega) (rngs_one e0 e1) (bdd_one hbd)
          rw [rmB_one, hw2] at HMy
          have HK : Hid (w2.cell? ⟨wr.heap.size, 0, none⟩ = some (.bool f) ∧ w2.cell? ⟨wr.heap.size, 1, none⟩ = some (.int .i64 x) ∧ w2.cell? ⟨wr.heap.size, 2, none⟩ = some (.int .i64 y)) := by
            rw [hw2]
            exact ⟨alloc_keeps (new_cell wr #[.bool f, .int .i64 x, .int .i64 y] 69 0) _, alloc_keeps (new_cell wr #[.bool f, .int .i64 x, .int .i64 y] 69 1) _, alloc_keeps (new_cell wr #[.bool f, .int .i64 x, .int .i64 y] 69 2) _⟩
          have HX2 : Hid (Ext wr w2) := x2
          have HW2 : Hid (w2 = (wr.alloc (.cells #[.bool f, .int .i64 x, .int .i64 y] 69)).alloc (.cells #[.int .i64 x, .int .i64 y] 53)) := hw2
          clear h1 h2 h3 x2 e0 e1 hw2
          cases hr : rmB x y with
          | false =>
            rw [hr] at HMy
            have HN : Hid (replayS n (fun _ => 0) L = none) := by
              show _ = _
              rw [← HRp.out, HD.out, rep_none (step_form hr)]
            clear hr
            go_wp2_with fail
            refine HMy.mono ?_
            rw [← HW2.out]
            rintro e w3 ⟨rfl, hx3⟩
            go_wp2_with fail
            go_ret2
            exact ⟨_, _, rfl, by rw [HE.out, HN.out]; exact ⟨rfl, rfl, by decide⟩, (hx.trans HX2.out).trans hx3⟩
          | true =>
            rw [hr] at HMy
            have HRm : Hid (rmB x y = true) := hr
            obtain ⟨X, Y, rfl, rfl, hXY, hY⟩ := rmB_nat hr
            clear hr hbd
            go_wp2_with fail
            refine HMy.mono ?_
            rw [← HW2.out]
            rintro e w3 ⟨rfl, hx3⟩
            have k0 := hx3.keeps HK.out.1
            have k1 := hx3.keeps HK.out.2.1
            have k2 := hx3.keeps HK.out.2.2
            have HX3 : Hid (Ext w w3 ∧ Ext wr w3) := ⟨(hx.trans HX2.out).trans hx3, HX2.out.trans hx3⟩
            clear hx3 HMy hc0 hc1 hc2
            by_cases hyn : Y ≤ n
            · cases f with
              | true =>
                have HT := turn_any w.heap.size n S X Y 1 0 w3 hn.2 hXY hyn (HX3.out.2.rowIs HU.out)
                have i1 : (Y : Int) ≤ (n : Int) := by omega
                cases ha : allS S X Y 1 with
                | false =>
                  rw [ha] at HT
                  have HN : Hid (replayS n (fun _ => 0) L = none) := by
                    show _ = _
                    rw [← HRp.out, HD.out, rep_none (step_not (by rw [Int.toNat_natCast, Int.toNat_natCast]; exact ha))]
                  clear ha
                  go_wp2_with fail
                  refine HT.mono ?_
                  rintro e w4 ⟨rfl, _, hw4⟩
                  go_wp2_with fail
                  go_ret2
                  exact ⟨_, _, rfl, by rw [HE.out, HN.out]; exact ⟨rfl, rfl, by decide⟩, Wro.after HX3.out.1 hw4 fun i hi => by rw [hi]; exact Nat.le_refl _⟩
                | true =>
                  rw [ha] at HT
                  have HS : Hid (replayS n (putS S X Y 0) (L.drop (q + 1)) = replayS n (fun _ => 0) L) := by
                    show _ = _
                    rw [← HRp.out, HD.out, rep_some (step_ok HRm.out i1 (by rw [Int.toNat_natCast, Int.toNat_natCast]; exact ha)), Int.toNat_natCast, Int.toNat_natCast]
                    rfl
                  have HTS : Hid (turnS S X Y 1 0 = putS S X Y 0) := by show _ = _; unfold turnS; rw [ha]; rfl
                  clear ha
                  go_wp2_with fail
                  refine HT.mono ?_
                  rintro e w4 ⟨rfl, hu4, hw4⟩
                  rw [HTS.out] at hu4
                  have HU4 : Hid (Uns w4 w.heap.size 63 n (putS S X Y 0)) := hu4
                  have HX4 : Hid (Ext w w4) := Wro.after HX3.out.1 hw4 fun i hi => by rw [hi]; exact Nat.le_refl _
                  clear hu4 hw4 HT
                  go_wp2_with fail
                  go_roundw
                  case rel => exact ⟨q + 1, _, by omega, by go_num, HS.out, HU4.out, HX4.out⟩
                  case measure => simp [intOf]; omega
              | false =>
                have HT := turn_any w.heap.size n S X Y 0 1 w3 hn.2 hXY hyn (HX3.out.2.rowIs HU.out)
                have i1 : (Y : Int) ≤ (n : Int) := by omega
                cases ha : allS S X Y 0 with
                | false =>
                  rw [ha] at HT
                  have HN : Hid (replayS n (fun _ => 0) L = none) := by
                    show _ = _
                    rw [← HRp.out, HD.out, rep_none (step_not (by rw [Int.toNat_natCast, Int.toNat_natCast]; exact ha))]
                  clear ha
                  go_wp2_with fail
                  refine HT.mono ?_
                  rintro e w4 ⟨rfl, _, hw4⟩
                  go_wp2_with fail
                  go_ret2
                  exact ⟨_, _, rfl, by rw [HE.out, HN.out]; exact ⟨rfl, rfl, by decide⟩, Wro.after HX3.out.1 hw4 fun i hi => by rw [hi]; exact Nat.le_refl _⟩
                | true =>
                  rw [ha] at HT
                  have HS : Hid (replayS n (putS S X Y 1) (L.drop (q + 1)) = replayS n (fun _ => 0) L) := by
                    show _ = _
                    rw [← HRp.out, HD.out, rep_some (step_ok HRm.out i1 (by rw [Int.toNat_natCast, Int.toNat_natCast]; exact ha)), Int.toNat_natCast, Int.toNat_natCast]
                    rfl
                  have HTS : Hid (turnS S X Y 0 1 = putS S X Y 1) := by show _ = _; unfold turnS; rw [ha]; rfl
                  clear ha
                  go_wp2_with fail
                  refine HT.mono ?_
                  rintro e w4 ⟨rfl, hu4, hw4⟩
                  rw [HTS.out] at hu4
                  have HU4 : Hid (Uns w4 w.heap.size 63 n (putS S X Y 1)) := hu4
                  have HX4 : Hid (Ext w w4) := Wro.after HX3.out.1 hw4 fun i hi => by rw [hi]; exact Nat.le_refl _
                  clear hu4 hw4 HT
                  go_wp2_with fail
                  go_roundw
                  case rel => exact ⟨q + 1, _, by omega, by go_num, HS.out, HU4.out, HX4.out⟩
                  case measure => simp [intOf]; omega
            · have HN : Hid (replayS n (fun _ => 0) L = none) := by
                show _ = _
                rw [← HRp.out, HD.out, rep_none (step_big (by omega))]
              have i1 : (n : Int) < (Y : Int) := by omega
              go_wp2_with fail
              go_ret2
              exact ⟨_, _, rfl, by rw [HE.out, HN.out]; exact ⟨rfl, rfl, by decide⟩, HX3.out.1⟩
        · have e : L.drop q = [] := List.drop_eq_nil_of_le (by rw [HL.out]; omega)
          have HS : Hid (replayS n (fun _ => 0) L = some S) := by
            have := HRp.out
            rw [e] at this
            exact this.symm
          clear e
          go_wp2_with fail
          go_ret2
          exact ⟨_, _, rfl, by rw [HE.out, HS.out]; exact ⟨rfl, by omega, _, by simp, Nat.le_refl _, HU.out⟩, hx⟩
    · have HE : Hid (behS (n : Int) L = .inl 1) := by
        show _ = _
        unfold behS
        rw [hz, if_pos rfl, if_neg (by rw [HL.out]; exact hm4)]
      clear hz
      go_enter Try.func19, Try.ntmps19
      go_wp2_with fail
      refine HM.mono ?_
      rintro e w1 ⟨rfl, rfl⟩
      go_wp2_with fail
      go_ret2
      exact ⟨_, _, rfl, by rw [HE.out]; exact ⟨rfl, rfl, by decide⟩, Ext.refl _⟩
end Go.Proofs.Ytfpbiimjcdbaoaa
