/-
  space: that, ranges, left, records: the stretches of units that are one thing, how many are free, and records of ranges; in new memory.
-/
import Derived.Test.YtfpbiimjcdbaoaaChecked
import Derived.WalkKit
import Derived.BigQuiet
import Derived.Test.YtfpbiimjcdbaoaaSpaceU
import Derived.Test.YtfpbiimjcdbaoaaSpanBtw
namespace Go.Proofs.Ytfpbiimjcdbaoaa
open Go.RowKit Go.Deep
/-- which units are v -/
def isS (S : Nat → Int) (v : Int) : Nat → Bool := fun i => S i == v
set_option maxRecDepth 100000 in
set_option maxHeartbeats 400000 in
theorem that1_any (g n : Nat) (S : Nat → Int) (v : Int) (u : Nat) (p1 p2 : Addr) (w : World) (hu : u < n) (_hn : n ≤ 4096) (h : Uns w g 63 n S) (h1 : w.cell? p1 = some (.slice (some ⟨g, 0, none⟩) n n)) (h2 : w.cell? p2 = some (.int .i64 v)) :
    Calls Try.prog 27 #[.int .i64 u, .pointer (some p1), .pointer (some p2)] w fun e w' => e = .returned (.bool (isS S v u)) ∧ Ext w w' := by
  have hc := h.cell hu
  unfold IV at hc
  unfold isS
  have i1 : (u : Int) < (n : Int) := by omega
  clear h
  go_enter Try.func27, Try.ntmps27
  go_wp2_with fail
  go_quiet (fail)
  go_wp2_with fail
  go_ret
  exact ⟨rfl, (Ext.refl w).drewN _⟩
theorem runs_no {p : Nat → Bool} {n : Nat} (h : p n = false) : runs p (n + 1) = runs p n := by simp [runs, h]
theorem runs_new {p : Nat → Bool} {n : Nat} (h : p n = true) (hl : lastB p n = false) : runs p (n + 1) = runs p n ++ [((n : Int), (n : Int) + 1)] := by simp [runs, h, hl]
theorem runs_more {p : Nat → Bool} {n : Nat} (h : p n = true) (hl : lastB p n = true) : ∃ M a, runs p n = M ++ [(a, (n : Int))] ∧ runs p (n + 1) = M ++ [(a, (n : Int) + 1)] := by
  obtain ⟨M, a, e⟩ := (runs_spec p n).last hl
  refine ⟨M, a, e, ?_⟩
  simp only [runs, h, hl, if_true]
  rw [e, bump_snoc]
/-- stretches, told -/
def RunRes (w : World) (p : Nat → Bool) (n : Nat) (v : Value) (w' : World) : Prop := w'.ownsRow w.heap.size 53 2 v (runs p n).length (fl (runs p n)) ∧ Ext w w'
set_option maxRecDepth 100000 in
set_option maxHeartbeats 800000 in
theorem ranges_any (n : Nat) (p : Nat → Bool) (p1 p2 : Addr) (w : World) (hn : n ≤ 4096) (hw : ∀ u w', u < n → Ext w w' → Calls Try.prog 27 #[.int .i64 (u : Nat), .pointer (some p1), .pointer (some p2)] w' fun e w'' => e = .returned (.bool (p u)) ∧ Ext w' w'') :
    Calls Try.prog 26 #[.int .i64 n, .func (.func 27) #[] #[.pointer (some p1), .pointer (some p2)]] w fun e w' => ∃ v, e = .returned v ∧ RunRes w p n v w' := by
  have HW : Hid (∀ u w', u < n → Ext w w' → Calls Try.prog 27 #[.int .i64 (u : Nat), .pointer (some p1), .pointer (some p2)] w' fun e w'' => e = .returned (.bool (p u)) ∧ Ext w' w'') := hw
  clear hw
  go_enter Try.func26, Try.ntmps26
  go_wp2_with fail
  go_loopw [5, 6, 10] (fun v o i wr => ∃ q : Nat, q ≤ n ∧ i = .int .i64 q ∧ o = .bool (lastB p q) ∧ Ext w wr ∧ wr.ownsRow w.heap.size 53 2 v (runs p q).length (fl (runs p q))) (fun _ _ i _ => n - (intOf i).toNat)
  case atStart => exact ⟨0, Nat.zero_le _, rfl, rfl, Ext.refl _, World.ownsRow_nil _ _ _ _⟩
  case round =>
    obtain ⟨q, hq, rfl, rfl, hx, hown⟩ := hrel
    have HO : Hid (wr.ownsRow w.heap.size 53 2 u5 (runs p q).length (fl (runs p q))) := hown
    clear hown
    by_cases hlt : q < n
    · have hcl := HW.out q wr hlt hx
      have hlen := runs_len p q
      cases hp : p q with
      | false =>
        rw [hp] at hcl
        have HP : Hid (runs p (q + 1) = runs p q ∧ lastB p (q + 1) = false) := ⟨runs_no hp, hp⟩
        clear hp
        go_wp2_with (first | (go_at_call 27; refine hcl.mono ?_; rintro e w1 ⟨rfl, hx1⟩))
        go_roundw
        case rel => exact ⟨q + 1, by omega, by go_num, by rw [HP.out.2], hx.trans hx1, by rw [HP.out.1]; exact own_ext HO.out hx1⟩
        case measure => simp [intOf]; omega
      | true =>
        rw [hp] at hcl
        cases hl : lastB p q with
        | true =>
          obtain ⟨M, a, e1, e2⟩ := runs_more hp hl
          have HP : Hid (runs p (q + 1) = M ++ [(a, (q : Int) + 1)] ∧ lastB p (q + 1) = true) := ⟨e2, hp⟩
          obtain ⟨m, hm⟩ : ∃ m, M.length = m := ⟨_, rfl⟩
          have hl2 : (runs p q).length = m + 1 := by rw [e1, List.length_append, hm]; rfl
          have ho := HO.out
          rw [hl2, e1] at ho
          have HMl : Hid (M.length = m) := hm
          have hmb : m ≤ 4096 := by omega
          clear hp hl e1 e2 hm hl2 HO
          obtain ⟨gL, cL, rfl, hgL, _⟩ := own_last HMl.out ho
          have i2 : (m : Int) + 1 - 1 = (m : Int) := by omega
          have i3 : (m : Int) < (m : Int) + 1 := by omega
          go_wp2_with (first | (go_at_call 27; refine hcl.mono ?_; rintro e w1 ⟨rfl, hx1⟩; obtain ⟨gL', cL', hv', _, hcl2, hfr, hset⟩ := own_last HMl.out (own_ext ho hx1); cases hv'))
          have HS : Hid ((w1.setCell ⟨gL, m * 2 + 1, none⟩ (.int .i64 ((q : Int) + 1))).ownsRow w.heap.size 53 2 (.slice (some ⟨gL, 0, none⟩) (m + 1) cL) (m + 1) (fl (M ++ [(a, (q : Int) + 1)]))) := hset _
          clear hset
          go_wp2_with fail
          go_roundw
          case rel => exact ⟨q + 1, by omega, by go_num, by rw [HP.out.2], (hx.trans hx1).setCell (p := ⟨gL, m * 2 + 1, none⟩) hgL _, by rw [HP.out.1, List.length_append, HMl.out]; exact HS.out⟩
          case measure => simp [intOf]; omega
        | false =>
          have HP : Hid (runs p (q + 1) = runs p q ++ [((q : Int), (q : Int) + 1)] ∧ lastB p (q + 1) = true) := ⟨runs_new hp hl, hp⟩
          obtain ⟨M, hM⟩ : ∃ M, runs p q = M := ⟨_, rfl⟩
          rw [hM] at HO HP hlen
          obtain ⟨m, hm⟩ : ∃ m, M.length = m := ⟨_, rfl⟩
          rw [hm] at HO hlen
          have HMl : Hid (M.length = m) := hm
          clear hp hl hM hm
          go_wp2_with (first | (go_at_call 27; refine hcl.mono ?_; rintro e w1 ⟨rfl, hx1⟩) | (at_builtin; refine append_prs _ rfl _ _ 38 rfl w.heap.size 53 (.agg #[.int .i64 0, .int .i64 0]) 16 Try.underlying38 infoR rfl u5 m M rfl (own_ext HO.out (hx1.alloc _ _)) _ 1 1 [((q : Int), 0)] rfl rfl ?_ (by omega) (by omega) (by omega) ?_ ?_) | go_in)
          · exact pair_news _ _ rfl _ _ _
          · exact ((hx.trans hx1).alloc _ _).size
          intro v' w5 hown' hgrow'
          have hx5 : Ext w w5 := ((hx.trans hx1).alloc _ _).grow hgrow' fun k hk => own_geS HO.out hk
          obtain ⟨gL, cL, rfl, hgL, hcl2, hfr, hset⟩ := own_last HMl.out hown'
          have HS : Hid ((w5.setCell ⟨gL, m * 2 + 1, none⟩ (.int .i64 ((q : Int) + 1))).ownsRow w.heap.size 53 2 (.slice (some ⟨gL, 0, none⟩) (m + 1) cL) (m + 1) (fl (M ++ [((q : Int), (q : Int) + 1)]))) := hset _
          clear hset hown' hgrow'
          have i2 : (m : Int) + 1 - 1 = (m : Int) := by omega
          have i3 : (m : Int) < (m : Int) + 1 := by omega
          go_wp2_with fail
          go_roundw
          case rel => exact ⟨q + 1, by omega, by go_num, by rw [HP.out.2], hx5.setCell (p := ⟨gL, m * 2 + 1, none⟩) hgL _, by rw [HP.out.1, List.length_append, HMl.out]; exact HS.out⟩
          case measure => simp [intOf]; omega
    · obtain rfl : q = n := by omega
      go_wp2_with fail
      go_ret
      exact ⟨_, rfl, HO.out, hx⟩
set_option maxRecDepth 100000 in
set_option maxHeartbeats 400000 in
theorem that_any (g n : Nat) (S : Nat → Int) (v : Int) (w : World) (hn : n ≤ 4096) (h : Uns w g 63 n S) :
    Calls Try.prog 20 #[.slice (some ⟨g, 0, none⟩) n n, .int .i64 v] w fun e w' => ∃ r, e = .returned r ∧ RunRes w (isS S v) n r w' := by
  obtain ⟨w0, hw0⟩ : ∃ w0, w0 = (w.alloc (.cells #[.slice (some ⟨g, 0, none⟩) n n] 56)).alloc (.cells #[.int .i64 v] 63) := ⟨_, rfl⟩
  have x0 : Ext w w0 := by rw [hw0]; exact ((Ext.refl w).alloc _ _).alloc _ _
  have c1 : w0.cell? ⟨w.heap.size, 0, none⟩ = some (.slice (some ⟨g, 0, none⟩) n n) := by
    rw [hw0]
    exact alloc_keeps (new_cell w #[.slice (some ⟨g, 0, none⟩) n n] 56 0) _
  have c2 : w0.cell? ⟨w.heap.size + 1, 0, none⟩ = some (.int .i64 v) := by
    have e := new_cell (w.alloc (.cells #[.slice (some ⟨g, 0, none⟩) n n] 56)) #[.int .i64 v] 63 0
    rw [World.size_alloc] at e
    rw [hw0]
    exact e
  have HR := ranges_any n (isS S v) ⟨w.heap.size, 0, none⟩ ⟨w.heap.size + 1, 0, none⟩ w0 hn fun u w' hu q => that1_any g n S v u _ _ w' hu hn (q.rowIs (x0.rowIs h)) (q.keeps c1) (q.keeps c2)
  have HX : Hid (Ext w w0) := x0
  have HW0 : Hid (w0 = (w.alloc (.cells #[.slice (some ⟨g, 0, none⟩) n n] 56)).alloc (.cells #[.int .i64 v] 63)) := hw0
  rw [hw0] at HR
  clear x0 c1 c2 h hw0
  go_enter Try.func20, Try.ntmps20
  go_wp2_with fail
  refine HR.mono ?_
  rw [← HW0.out]
  rintro e w1 ⟨r, rfl, ho, hx1⟩
  have HO : Hid (w1.ownsRow w.heap.size 53 2 r (runs (isS S v) n).length (fl (runs (isS S v) n))) := own_mono ho HX.out.size
  clear ho HR
  go_wp2_with fail
  go_ret
  exact ⟨_, rfl, HO.out, HX.out.trans hx1⟩
set_option maxRecDepth 100000 in
set_option maxHeartbeats 400000 in
theorem left_any (g n : Nat) (S : Nat → Int) (w : World) (hn : n ≤ 4096) (h : Uns w g 63 n S) :
    Calls Try.prog 18 #[.slice (some ⟨g, 0, none⟩) n n] w fun e w' => e = .returned (.int .i64 (cntS S 0 n)) ∧ w' = w := by
  have HU : Hid (Uns w g 63 n S) := h
  clear h
  go_enter Try.func18, Try.ntmps18
  go_wp2_with fail
  go_loop [3, 8] (fun c i => ∃ q : Nat, q ≤ n ∧ i = .int .i64 q ∧ c = .int .i64 (cntS S 0 q)) (fun _ i => n - (intOf i).toNat)
  case atStart => exact ⟨0, Nat.zero_le _, rfl, rfl⟩
  case round =>
    obtain ⟨q, hq, rfl, rfl⟩ := hrel
    by_cases hlt : q < n
    · have hc := HU.out.cell hlt
      unfold IV at hc
      have hb := cntS_bd S 0 q
      by_cases h0 : S q = 0
      · have HE : Hid (cntS S 0 (q + 1) = cntS S 0 q + 1) := by show _ = _; simp [cntS, h0, oneB]
        have d0 : (S q == 0) = true := by simp [h0]
        clear h0
        go_wp2_with fail
        go_round
        case rel => exact ⟨q + 1, by omega, by go_num, by rw [HE.out]⟩
        case measure => simp [intOf]; omega
      · have HE : Hid (cntS S 0 (q + 1) = cntS S 0 q) := by show _ = _; simp [cntS, h0, oneB]
        have d0 : (S q == 0) = false := by simp [h0]
        clear h0
        go_wp2_with fail
        go_round
        case rel => exact ⟨q + 1, by omega, by go_num, by rw [HE.out]⟩
        case measure => simp [intOf]; omega
    · obtain rfl : q = n := by omega
      go_wp2_with fail
      go_ret
      exact ⟨rfl, rfl⟩
theorem infoRec : (Try.prog.info? 69).map (fun i => (i.zero, i.size, i.bytes)) = some (some (.agg #[.bool false, .int .i64 0, .int .i64 0]), 3, 24) := by kernel_rfl
/-- records of ranges -/
def recL (f : Bool) (L : List (Int × Int)) : List V3 := L.map fun r => (.bool f, IV r.1, IV r.2)
theorem recL_snoc (f : Bool) (L : List (Int × Int)) (r : Int × Int) : recL f (L ++ [r]) = recL f L ++ [(.bool f, IV r.1, IV r.2)] := by
  unfold recL
  rw [List.map_append]
  rfl
theorem recL_one (f : Bool) (x y : Int) : one3 [((.bool f : Value), IV x, IV y)] := fun r hr => by
  rw [List.mem_singleton] at hr
  subst hr
  exact ⟨rfl, rfl, rfl⟩
set_option maxRecDepth 100000 in
set_option maxHeartbeats 400000 in
theorem records_any (f : Bool) (a : Option Addr) (n c : Nat) (L : List (Int × Int)) (w : World) (hl : L.length = n) (hn : n ≤ 4096) (h : Rngs w a L) :
    Calls Try.prog 21 #[.bool f, .slice a n c] w fun e w' => ∃ v, e = .returned v ∧ w'.ownsRow w.heap.size 69 3 v n (fl3 (recL f L)) ∧ Ext w w' := by
  have HL : Hid (L.length = n) := hl
  have HR : Hid (Rngs w a L) := h
  clear hl h
  go_enter Try.func21, Try.ntmps21
  go_wp2_with fail
  go_loopw [5, 10] (fun v i wr => ∃ q : Nat, q ≤ n ∧ i = .int .i64 q ∧ Ext w wr ∧ wr.ownsRow w.heap.size 69 3 v q (fl3 (recL f (L.take q)))) (fun _ i _ => n - (intOf i).toNat)
  case atStart => exact ⟨0, Nat.zero_le _, rfl, Ext.refl _, World.ownsRow_nil _ _ _ _⟩
  case round =>
    obtain ⟨q, hq, rfl, hx, hown⟩ := hrel
    have HO : Hid (wr.ownsRow w.heap.size 69 3 u5 q (fl3 (recL f (L.take q)))) := hown
    clear hown
    by_cases hlt : q < n
    · obtain ⟨⟨x, y⟩, h1, _, _⟩ := drop_at (L := L) (k := q) (by rw [HL.out]; exact hlt)
      obtain ⟨b, o, rfl, hc1, hc2⟩ := (HR.out.ext hx) q x y h1
      have HE : Hid (recL f (L.take (q + 1)) = recL f (L.take q) ++ [(.bool f, IV x, IV y)]) := by
        show _ = _
        rw [take_at h1, recL_snoc]
      clear h1
      go_wp2_with (first | (at_builtin; refine append_tri _ rfl _ _ 26 rfl w.heap.size 69 (.agg #[.bool false, .int .i64 0, .int .i64 0]) 24 Try.underlying26 infoRec rfl u5 q (recL f (L.take q)) rfl (own_ext HO.out (((Ext.refl wr).alloc _ _).alloc _ _)) (some ⟨wr.heap.size + 1, 0, none⟩) 1 1 [(.bool f, IV x, IV y)] rfl rfl ?_ (recL_one f x y) (by omega) (by omega) (by omega) ?_ ?_) | go_in)
      · exact tri_new _ _ (by rw [World.size_alloc]) _ _ _ _
      · exact ((hx.alloc _ _).alloc _ _).size
      intro v' w5 hown' hgrow'
      have hx5 : Ext w w5 := ((hx.alloc _ _).alloc _ _).grow hgrow' fun k hk => own_geS HO.out hk
      have HO5 : Hid (w5.ownsRow w.heap.size 69 3 v' (q + 1) (fl3 (recL f (L.take (q + 1))))) := by
        show World.ownsRow _ _ _ _ _ _ _
        rw [HE.out]
        exact hown'
      clear hown' hgrow'
      go_wp2_with fail
      go_roundw
      case rel => exact ⟨q + 1, by omega, by go_num, hx5, HO5.out⟩
      case measure => simp [intOf]; omega
    · obtain rfl : q = n := by omega
      have ho := HO.out
      rw [List.take_of_length_le (by rw [HL.out]; omega)] at ho
      have HO' : Hid (wr.ownsRow w.heap.size 69 3 u5 q (fl3 (recL f L))) := ho
      clear ho HO
      go_wp2_with fail
      go_ret
      exact ⟨_, rfl, HO'.out, hx⟩
end Go.Proofs.Ytfpbiimjcdbaoaa
