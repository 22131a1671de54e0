/-
  drive: settle: what is kept of what waits comes onto the plate.
-/
import Derived.Test.YtgboboojjboocaaChecked
import Derived.WalkKit
import Derived.BigQuiet
import Derived.Laws.Tables
import Derived.Laws.Rows
import Derived.Test.YtgboboojjboocaaDrLay
namespace Go.Proofs.Ytgboboojjboocaa
open Go.RowKit Go.Deep E
/-- what is kept, told by its number, comes onto the plate -/
def setK (κ : Nat → Bool) : Nat → List (Nat × (Nat → E)) → List ((Nat → E) × Bool) → List ((Nat → E) × Bool)
  | _, [], PL => PL
  | k, x :: l, PL => setK κ (k + 1) l (if κ k then PL.set x.1 (x.2, false) else PL)
set_option maxRecDepth 100000 in
set_option maxHeartbeats 1600000 in
theorem settleA_any (base gd gp _gj n : Nat) (κ : Nat → Bool) (PL : List ((Nat → E) × Bool)) (W : List (Nat × (Nat → E))) (wv : Value) (dead : Bool) (w : World) (hn : n ≤ 512) (hW : W.length ≤ 300) (hat : ∀ x, x ∈ W → x.1 < n) (h : DSt w base gd gp n PL W wv dead)
    (hκ : ∀ (k : Nat) (w' : World), k ≤ 300 → Wro (· = gp) w w' → Calls Try.prog 23 (#[.int .i64 k] ++ #[]) w' fun e w'' => e = .returned (.bool (κ k)) ∧ w'' = w') :
    Calls Try.prog 22 #[.pointer (some ⟨gd, 0, none⟩), .func (.func 23) #[] #[]] w fun e w' => e = .returned (.tuple #[]) ∧ DSt w' base gd gp n (setK κ 0 W PL) [] (.slice none 0 0) dead ∧ Wro (fun k => k = gd ∨ k = gp) w w' := by
  have HD : Hid (DSt w base gd gp n PL W wv dead) := h
  have HK : Hid (∀ (k : Nat) (w' : World), k ≤ 300 → Wro (· = gp) w w' → Calls Try.prog 23 (#[.int .i64 k] ++ #[]) w' fun e w'' => e = .returned (.bool (κ k)) ∧ w'' = w') := hκ
  have HA : Hid (∀ x, x ∈ W → x.1 < n) := hat
  obtain ⟨hlen, a, c, hwv, hac, hc, hels⟩ := own_els h.row (Szd.map wtC_len W) (by omega)
  subst hwv
  obtain ⟨m, hm⟩ : ∃ m, W.length = m := ⟨_, rfl⟩
  have HM : Hid (W.length = m) := hm
  have HE : Hid (Els w a 129 (W.map wtC)) := hels
  obtain ⟨b0, b1, _, _⟩ := cells_drive h.box
  rw [hm] at b1 hW
  clear h hκ hat hels hlen hac
  go_enter Try.func22, Try.ntmps22
  go_wp2_with fail
  clear b0 b1 hm
  go_loopw [11] (fun i wr => ∃ (q : Nat) (PL' : List ((Nat → E) × Bool)), q ≤ m ∧ i = .int .i64 q ∧ DSt wr base gd gp n PL' W (.slice a m c) dead ∧ Wro (· = gp) w wr ∧ setK κ q (W.drop q) PL' = setK κ 0 W PL) (fun i _ => m - (intOf i).toNat)
  case atStart => exact ⟨0, PL, Nat.zero_le _, rfl, by have h := HD.out; rw [HM.out] at h; exact h, Wro.refl _ _, rfl⟩
  case round =>
    obtain ⟨q, PL', hq, rfl, hd, hx, hs⟩ := hrel
    have HDr : Hid (DSt wr base gd gp n PL' W (.slice a m c) dead) := hd
    have HXr : Hid (Wro (· = gp) w wr) := hx
    by_cases hlt : q < m
    · obtain ⟨x, e1, e2, e3⟩ := drop_at (L := W) (k := q) (by rw [HM.out]; exact hlt)
      rw [e2] at hs
      have HS : Hid (setK κ (q + 1) (W.drop (q + 1)) (if κ q then PL'.set x.1 (x.2, false) else PL') = setK κ 0 W PL) := hs
      have hxn := HA.out x e3
      have hrow := hd.row
      rw [HM.out] at hrow
      obtain ⟨b, o, rfl, hr⟩ := own_els_at hrow (Szd.map wtC_len W) (by omega) q (wtC x) (by rw [List.getElem?_map, e1]; rfl)
      have hqi : (q : Int) < (m : Int) := by omega
      have hz := (zero_of_info zeroWt).1
      have hiw : (Try.prog.info? 63).map (·.size) = some (wtC x).length := by rw [wtC_len]; exact (zero_of_info zeroWt).2
      have hiw2 : (Try.prog.info? 63).map (·.size) = some (wtC x).toArray.size := by rw [List.size_toArray, wtC_len]; exact (zero_of_info zeroWt).2
      have hone : (wtC x).toArray.all (·.oneCell') = true := all_oneCell_toArray (wtC_one x)
      have hsz : (Value.int .i64 0 :: Z128).toArray.size = (wtC x).toArray.size := by rw [List.size_toArray, List.size_toArray, wtC_len, List.length_cons, Z128_len]
      have hnew : (wr.alloc (.cells (Value.int .i64 0 :: Z128).toArray 63)).heap[wr.heap.size]? = some (.cells (Value.int .i64 0 :: Z128).toArray 63 (0, 0)) := heap_alloc_new _ _
      have e9 : (wr.alloc (.cells (Value.int .i64 0 :: Z128).toArray 63)).setRow wr.heap.size (wtC x).toArray = wr.alloc (boxW x) := World.setRow_alloc_new _ _ _ _
      have HX2 : Hid (Ext wr (wr.alloc (boxW x))) := (Ext.refl wr).alloc _ _
      clear hd hx hs e1 e2 e3 hrow
      go_wp2_with (first | (refine wpList_load_mid rfl 63 _ rfl b (o + q * 129) rfl (wtC x) _ hr Try.underlying63 rfl hiw ?_) | (refine wpList_store_row rfl 63 _ _ rfl wr.heap.size (wtC x).toArray rfl rfl 63 _ hnew hiw2 hsz hone ?_) | fail)
      have hcall := HK.out q (wr.alloc (boxW x)) (by omega) (HXr.out.then_ext HX2.out)
      simp only [Array.append_empty] at hcall
      refine hcall.mono ?_
      rintro e w1 ⟨rfl, rfl⟩
      have f0 := boxW_at wr x
      have f1 := boxW_range wr x
      have hi1 : (Try.prog.info? 61).map (·.size) = some (cts x.2).length := by rw [cts_len]; exact sizeCon
      have HL := lay_any base gd gp n x.1 PL' W (.slice (some ⟨b, o, none⟩) m c) dead x.2 (wr.alloc (boxW x)) hn hxn (HDr.out.ext HX2.out)
      clear hcall hr hz hiw hiw2 hone hsz hnew e9
      cases hb : κ q with
      | true =>
        rw [hb, if_pos rfl] at HS
        clear hb
        go_wp2_with (first | (refine wpList_load_mid rfl 61 _ rfl wr.heap.size 1 rfl (cts x.2) _ f1 Try.underlying61 rfl hi1 ?_) | fail)
        refine HL.mono ?_
        rintro e w2 ⟨rfl, hd2, hw2⟩
        go_wp2_with fail
        go_roundw
        case rel => exact ⟨q + 1, _, by omega, by go_num, hd2, (HXr.out.then_ext HX2.out).trans hw2, HS.out⟩
        case measure => simp [intOf]; omega
      | false =>
        rw [hb, if_neg (by decide)] at HS
        clear hb HL
        go_wp2_with fail
        go_roundw
        case rel => exact ⟨q + 1, PL', by omega, by go_num, HDr.out.ext HX2.out, HXr.out.then_ext HX2.out, HS.out⟩
        case measure => simp [intOf]; omega
    · obtain rfl : m = q := by omega
      have hqi : ¬ (m : Int) < (m : Int) := by omega
      rw [show W.drop m = [] from List.drop_eq_nil_of_le (by rw [HM.out]; exact Nat.le_refl _)] at hs
      have HS : Hid (PL' = setK κ 0 W PL) := hs
      obtain ⟨b0, b1, _, bz⟩ := cells_drive hd.box
      have bz1 := bz 1
      clear hs hd hx bz
      go_wp2_with fail
      (try simp only [Exit.inBlock, Exit.then])
      refine bodyPost_end (results_none rfl _ _ _) rfl ?_
      refine ⟨rfl, ?_, (HXr.out.mono (T := fun k => k = gd ∨ k = gp) fun k hk => Or.inr hk).setCell (p := ⟨gd, 1, none⟩) (Or.inl rfl) _⟩
      rw [← HS.out]
      exact HDr.out.setRow (World.ownsRow_nil _ _ _ _)
set_option maxRecDepth 100000 in
set_option maxHeartbeats 1600000 in
theorem settleB_any (base gd gp gj n : Nat) (κ : Nat → Bool) (PL : List ((Nat → E) × Bool)) (W : List (Nat × (Nat → E))) (wv : Value) (dead : Bool) (w : World) (hn : n ≤ 512) (hW : W.length ≤ 300) (hat : ∀ x, x ∈ W → x.1 < n) (h : DSt w base gd gp n PL W wv dead)
    (hκ : ∀ (k : Nat) (w' : World), k ≤ 300 → Wro (· = gp) w w' → Calls Try.prog 24 (#[.int .i64 k] ++ #[.pointer (some ⟨gj, 0, none⟩)]) w' fun e w'' => e = .returned (.bool (κ k)) ∧ w'' = w') :
    Calls Try.prog 22 #[.pointer (some ⟨gd, 0, none⟩), .func (.func 24) #[] #[.pointer (some ⟨gj, 0, none⟩)]] w fun e w' => e = .returned (.tuple #[]) ∧ DSt w' base gd gp n (setK κ 0 W PL) [] (.slice none 0 0) dead ∧ Wro (fun k => k = gd ∨ k = gp) w w' := by
  have HD : Hid (DSt w base gd gp n PL W wv dead) := h
  have HK : Hid (∀ (k : Nat) (w' : World), k ≤ 300 → Wro (· = gp) w w' → Calls Try.prog 24 (#[.int .i64 k] ++ #[.pointer (some ⟨gj, 0, none⟩)]) w' fun e w'' => e = .returned (.bool (κ k)) ∧ w'' = w') := hκ
  have HA : Hid (∀ x, x ∈ W → x.1 < n) := hat
  obtain ⟨hlen, a, c, hwv, hac, hc, hels⟩ := own_els h.row (Szd.map wtC_len W) (by omega)
  subst hwv
  obtain ⟨m, hm⟩ : ∃ m, W.length = m := ⟨_, rfl⟩
  have HM : Hid (W.length = m) := hm
  have HE : Hid (Els w a 129 (W.map wtC)) := hels
  obtain ⟨b0, b1, _, _⟩ := cells_drive h.box
  rw [hm] at b1 hW
  clear h hκ hat hels hlen hac
  go_enter Try.func22, Try.ntmps22
  go_wp2_with fail
  clear b0 b1 hm
  go_loopw [11] (fun i wr => ∃ (q : Nat) (PL' : List ((Nat → E) × Bool)), q ≤ m ∧ i = .int .i64 q ∧ DSt wr base gd gp n PL' W (.slice a m c) dead ∧ Wro (· = gp) w wr ∧ setK κ q (W.drop q) PL' = setK κ 0 W PL) (fun i _ => m - (intOf i).toNat)
  case atStart => exact ⟨0, PL, Nat.zero_le _, rfl, by have h := HD.out; rw [HM.out] at h; exact h, Wro.refl _ _, rfl⟩
  case round =>
    obtain ⟨q, PL', hq, rfl, hd, hx, hs⟩ := hrel
    have HDr : Hid (DSt wr base gd gp n PL' W (.slice a m c) dead) := hd
    have HXr : Hid (Wro (· = gp) w wr) := hx
    by_cases hlt : q < m
    · obtain ⟨x, e1, e2, e3⟩ := drop_at (L := W) (k := q) (by rw [HM.out]; exact hlt)
      rw [e2] at hs
      have HS : Hid (setK κ (q + 1) (W.drop (q + 1)) (if κ q then PL'.set x.1 (x.2, false) else PL') = setK κ 0 W PL) := hs
      have hxn := HA.out x e3
      have hrow := hd.row
      rw [HM.out] at hrow
      obtain ⟨b, o, rfl, hr⟩ := own_els_at hrow (Szd.map wtC_len W) (by omega) q (wtC x) (by rw [List.getElem?_map, e1]; rfl)
      have hqi : (q : Int) < (m : Int) := by omega
      have hz := (zero_of_info zeroWt).1
      have hiw : (Try.prog.info? 63).map (·.size) = some (wtC x).length := by rw [wtC_len]; exact (zero_of_info zeroWt).2
      have hiw2 : (Try.prog.info? 63).map (·.size) = some (wtC x).toArray.size := by rw [List.size_toArray, wtC_len]; exact (zero_of_info zeroWt).2
      have hone : (wtC x).toArray.all (·.oneCell') = true := all_oneCell_toArray (wtC_one x)
      have hsz : (Value.int .i64 0 :: Z128).toArray.size = (wtC x).toArray.size := by rw [List.size_toArray, List.size_toArray, wtC_len, List.length_cons, Z128_len]
      have hnew : (wr.alloc (.cells (Value.int .i64 0 :: Z128).toArray 63)).heap[wr.heap.size]? = some (.cells (Value.int .i64 0 :: Z128).toArray 63 (0, 0)) := heap_alloc_new _ _
      have e9 : (wr.alloc (.cells (Value.int .i64 0 :: Z128).toArray 63)).setRow wr.heap.size (wtC x).toArray = wr.alloc (boxW x) := World.setRow_alloc_new _ _ _ _
      have HX2 : Hid (Ext wr (wr.alloc (boxW x))) := (Ext.refl wr).alloc _ _
      clear hd hx hs e1 e2 e3 hrow
      go_wp2_with (first | (refine wpList_load_mid rfl 63 _ rfl b (o + q * 129) rfl (wtC x) _ hr Try.underlying63 rfl hiw ?_) | (refine wpList_store_row rfl 63 _ _ rfl wr.heap.size (wtC x).toArray rfl rfl 63 _ hnew hiw2 hsz hone ?_) | fail)
      have hcall := HK.out q (wr.alloc (boxW x)) (by omega) (HXr.out.then_ext HX2.out)
      simp only [List.append_toArray, List.cons_append, List.nil_append] at hcall
      refine hcall.mono ?_
      rintro e w1 ⟨rfl, rfl⟩
      have f0 := boxW_at wr x
      have f1 := boxW_range wr x
      have hi1 : (Try.prog.info? 61).map (·.size) = some (cts x.2).length := by rw [cts_len]; exact sizeCon
      have HL := lay_any base gd gp n x.1 PL' W (.slice (some ⟨b, o, none⟩) m c) dead x.2 (wr.alloc (boxW x)) hn hxn (HDr.out.ext HX2.out)
      clear hcall hr hz hiw hiw2 hone hsz hnew e9
      cases hb : κ q with
      | true =>
        rw [hb, if_pos rfl] at HS
        clear hb
        go_wp2_with (first | (refine wpList_load_mid rfl 61 _ rfl wr.heap.size 1 rfl (cts x.2) _ f1 Try.underlying61 rfl hi1 ?_) | fail)
        refine HL.mono ?_
        rintro e w2 ⟨rfl, hd2, hw2⟩
        go_wp2_with fail
        go_roundw
        case rel => exact ⟨q + 1, _, by omega, by go_num, hd2, (HXr.out.then_ext HX2.out).trans hw2, HS.out⟩
        case measure => simp [intOf]; omega
      | false =>
        rw [hb, if_neg (by decide)] at HS
        clear hb HL
        go_wp2_with fail
        go_roundw
        case rel => exact ⟨q + 1, PL', by omega, by go_num, HDr.out.ext HX2.out, HXr.out.then_ext HX2.out, HS.out⟩
        case measure => simp [intOf]; omega
    · obtain rfl : m = q := by omega
      have hqi : ¬ (m : Int) < (m : Int) := by omega
      rw [show W.drop m = [] from List.drop_eq_nil_of_le (by rw [HM.out]; exact Nat.le_refl _)] at hs
      have HS : Hid (PL' = setK κ 0 W PL) := hs
      obtain ⟨b0, b1, _, bz⟩ := cells_drive hd.box
      have bz1 := bz 1
      clear hs hd hx bz
      go_wp2_with fail
      (try simp only [Exit.inBlock, Exit.then])
      refine bodyPost_end (results_none rfl _ _ _) rfl ?_
      refine ⟨rfl, ?_, (HXr.out.mono (T := fun k => k = gd ∨ k = gp) fun k hk => Or.inr hk).setCell (p := ⟨gd, 1, none⟩) (Or.inl rfl) _⟩
      rw [← HS.out]
      exact HDr.out.setRow (World.ownsRow_nil _ _ _ _)
end Go.Proofs.Ytgboboojjboocaa
