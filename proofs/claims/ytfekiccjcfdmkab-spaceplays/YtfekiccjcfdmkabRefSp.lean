/-
  quicksetref.spaceNow: is, put, stretches, count; flag: the document's own units.
-/
import Derived.Test.YtfekiccjcfdmkabChecked
import Derived.WalkKit
import Derived.BigQuiet
import Derived.Test.YtfekiccjcfdmkabSpaceR
namespace Go.Proofs.Ytfekiccjcfdmkab
open Go.RowKit Go.Deep
def flagV (b : Bool) : Int := if b then 1 else 0
set_option maxRecDepth 100000 in
theorem flag_any (b : Bool) (w : World) : Calls Try.prog 51 #[.bool b] w fun e w' => e = .returned (.int .i64 (flagV b)) ∧ w' = w := by
  cases b
  · go_enter Try.func51, Try.ntmps51
    go_wp2_with fail
    go_ret
    exact ⟨rfl, rfl⟩
  · go_enter Try.func51, Try.ntmps51
    go_wp2_with fail
    go_ret
    exact ⟨rfl, rfl⟩
set_option maxRecDepth 100000 in
set_option maxHeartbeats 400000 in
theorem ris_any (g n : Nat) (S : Nat → Int) (x y : Nat) (v : Int) (w : World) (hn : n ≤ 4096) (hxy : x ≤ y) (hy : y ≤ n) (h : Uns w g 3 n S) :
    Calls Try.prog 35 #[.slice (some ⟨g, 0, none⟩) n n, .int .i64 x, .int .i64 y, .int .i64 v] w fun e w' => e = .returned (.bool (allS S x y v)) ∧ w' = w := by
  have HU : Hid (Uns w g 3 n S) := h
  clear h
  go_enter Try.func35, Try.ntmps35
  go_wp2_with fail
  go_loop [9] (fun i => ∃ q : Nat, (x ≤ q ∧ q ≤ y) ∧ i = .int .i64 q ∧ Hid (∀ i, x ≤ i → i < q → S i = v)) (fun i => n - (intOf i).toNat)
  case atStart => exact ⟨x, ⟨Nat.le_refl _, hxy⟩, rfl, fun i h1 h2 => by omega⟩
  case round =>
    obtain ⟨q, hq, rfl, HA⟩ := hrel
    by_cases hlt : q < y
    · have hc := HU.out.cell (i := q) (by omega)
      unfold IV at hc
      have hqn : q < n := by omega
      by_cases he : S q = v
      · rw [he] at hc
        have HE : Hid (S q = v) := he
        clear he
        go_wp2_with fail
        go_round
        case rel => exact ⟨q + 1, by omega, by go_num, fun i h1 h2 => by
          rcases Nat.lt_or_ge i q with c | c
          · exact HA.out i h1 c
          · obtain rfl : i = q := by omega
            exact HE.out⟩
        case measure => simp [intOf]; omega
      · have HN : Hid (allS S x y v = false) := by
          show _ = _
          cases hb : allS S x y v with
          | false => rfl
          | true => exact absurd ((allS_iff S x y v).1 hb q hq.1 hlt) he
        have d0 : (S q != v) = true := by simp [he]
        clear he
        go_wp2_with fail
        go_ret
        exact ⟨ret_boolS HN.out.symm, rfl⟩
    · have HN : Hid (allS S x y v = true) := (allS_iff S x y v).2 fun i h1 h2 => HA.out i h1 (by omega)
      go_wp2_with fail
      go_ret
      exact ⟨ret_boolS HN.out.symm, rfl⟩
set_option maxRecDepth 100000 in
set_option maxHeartbeats 400000 in
theorem rput_any (g n : Nat) (S : Nat → Int) (x y : Nat) (v : Int) (w : World) (hn : n ≤ 4096) (hxy : x ≤ y) (hy : y ≤ n) (h : Uns w g 3 n S) :
    Calls Try.prog 34 #[.slice (some ⟨g, 0, none⟩) n n, .int .i64 x, .int .i64 y, .int .i64 v] w fun e w' => e = .returned (.tuple #[]) ∧ Uns w' g 3 n (putS S x y v) ∧ Wro (· = g) w w' := by
  have HU : Hid (Uns w g 3 n S) := h
  clear h
  go_enter Try.func34, Try.ntmps34
  go_wp2_with fail
  go_loopw [8] (fun i wr => ∃ q : Nat, x + q ≤ y ∧ i = .int .i64 ((x + q : Nat) : Int) ∧ Uns wr g 3 n (putS S x (x + q) v) ∧ Wro (· = g) w wr) (fun i _ => n - (intOf i).toNat)
  case atStart => exact ⟨0, by omega, rfl, by rw [Nat.add_zero, putS_none]; exact HU.out, Wro.refl _ _⟩
  case round =>
    obtain ⟨q, hq, rfl, hu, hx⟩ := hrel
    have HUr : Hid (Uns wr g 3 n (putS S x (x + q) v)) := hu
    clear hu
    obtain ⟨xq, hxq⟩ : ∃ xq, x + q = xq := ⟨_, rfl⟩
    have HXQ : Hid (x + q = xq) := hxq
    rw [hxq]
    by_cases hlt : xq < y
    · have hc := HUr.out.cell (i := xq) (by omega)
      have hf := World.rowIs.frozen HUr.out xq
      have hqn : xq < n := by omega
      unfold IV at hc
      have HS : Hid (Uns (wr.setCell ⟨g, xq, none⟩ (.int .i64 v)) g 3 n (putS S x (x + (q + 1)) v)) := by
        rw [← hxq]
        exact (HUr.out.set (x + q) v).congr fun j _ => putS_step S x q v j
      clear hxq
      go_wp2_with fail
      go_roundw
      case rel => exact ⟨q + 1, by have := HXQ.out; omega, by rw [show x + (q + 1) = xq + 1 by have := HXQ.out; omega]; go_num, HS.out, hx.setCell (p := ⟨g, xq, none⟩) rfl _⟩
      case measure => simp [intOf]; omega
    · have HE : Hid (x + q = y) := by show _ = _; omega
      clear hxq
      go_wp2_with fail
      go_end0
      exact ⟨rfl, by rw [← HE.out]; exact HUr.out, hx⟩
set_option maxRecDepth 100000 in
set_option maxHeartbeats 400000 in
theorem rcount_any (g n : Nat) (S : Nat → Int) (v : Int) (w : World) (hn : n ≤ 4096) (h : Uns w g 3 n S) :
    Calls Try.prog 36 #[.slice (some ⟨g, 0, none⟩) n n, .int .i64 v] w fun e w' => e = .returned (.int .i64 (cntS S v n)) ∧ w' = w := by
  have HU : Hid (Uns w g 3 n S) := h
  clear h
  go_enter Try.func36, Try.ntmps36
  go_wp2_with fail
  go_loop [5, 10] (fun c i => ∃ q : Nat, q ≤ n ∧ i = .int .i64 q ∧ c = .int .i64 (cntS S v q)) (fun _ i => n - (intOf i).toNat)
  case atStart => exact ⟨0, Nat.zero_le _, rfl, rfl⟩
  case round =>
    obtain ⟨q, hq, rfl, rfl⟩ := hrel
    by_cases hlt : q < n
    · have hc := HU.out.cell hlt
      unfold IV at hc
      have hb := cntS_bd S v q
      by_cases h0 : S q = v
      · have HE : Hid (cntS S v (q + 1) = cntS S v q + 1) := by show _ = _; simp [cntS, h0, oneB]
        have d0 : (S q == v) = true := by simp [h0]
        clear h0
        go_wp2_with fail
        go_round
        case rel => exact ⟨q + 1, by omega, by go_num, by rw [HE.out]⟩
        case measure => simp [intOf]; omega
      · have HE : Hid (cntS S v (q + 1) = cntS S v q) := by show _ = _; simp [cntS, h0, oneB]
        have d0 : (S q == v) = false := by simp [h0]
        clear h0
        go_wp2_with fail
        go_round
        case rel => exact ⟨q + 1, by omega, by go_num, by rw [HE.out]⟩
        case measure => simp [intOf]; omega
    · obtain rfl : q = n := by omega
      go_wp2_with fail
      go_ret
      exact ⟨rfl, rfl⟩
set_option maxRecDepth 100000 in
set_option maxHeartbeats 800000 in
theorem stretches_any (g n : Nat) (S : Nat → Int) (v : Int) (w : World) (hn : n ≤ 4096) (h : Uns w g 3 n S) :
    Calls Try.prog 33 #[.slice (some ⟨g, 0, none⟩) n n, .int .i64 v] w fun e w' => ∃ r, e = .returned r ∧ RunRes w (isS S v) n r w' := by
  have HU : Hid (Uns w g 3 n S) := h
  clear h
  go_enter Try.func33, Try.ntmps33
  go_wp2_with fail
  go_loopw [5, 10] (fun r i wr => ∃ q : Nat, q ≤ n ∧ i = .int .i64 q ∧ Ext w wr ∧ wr.ownsRow w.heap.size 58 2 r (runs (isS S v) q).length (fl (runs (isS S v) q))) (fun _ i _ => n - (intOf i).toNat)
  case atStart => exact ⟨0, Nat.zero_le _, rfl, Ext.refl _, World.ownsRow_nil _ _ _ _⟩
  case round =>
    obtain ⟨q, hq, rfl, hx, hown⟩ := hrel
    have HO : Hid (wr.ownsRow w.heap.size 58 2 u5 (runs (isS S v) q).length (fl (runs (isS S v) q))) := hown
    clear hown
    by_cases hlt : q < n
    · have hc := World.rowIs.cell (hx.rowIs HU.out) hlt
      unfold IV at hc
      have hlen := runs_len (isS S v) q
      cases hp : isS S v q with
      | false =>
        have HP : Hid (runs (isS S v) (q + 1) = runs (isS S v) q) := runs_no hp
        have d0 : (S q != v) = true := by unfold isS at hp; simpa using hp
        clear hp
        go_wp2_with fail
        go_roundw
        case rel => exact ⟨q + 1, by omega, by go_num, hx, by rw [HP.out]; exact HO.out⟩
        case measure => simp [intOf]; omega
      | true =>
        have d0 : (S q != v) = false := by unfold isS at hp; simpa using hp
        cases hl : lastB (isS S v) q with
        | true =>
          obtain ⟨M, a, e1, e2⟩ := runs_more hp hl
          have HP : Hid (runs (isS S v) (q + 1) = M ++ [(a, (q : Int) + 1)]) := e2
          obtain ⟨m, hm⟩ : ∃ m, M.length = m := ⟨_, rfl⟩
          have hl2 : (runs (isS S v) q).length = m + 1 := by rw [e1, List.length_append, hm]; rfl
          have ho := HO.out
          rw [hl2, e1] at ho
          have HMl : Hid (M.length = m) := hm
          have hmb : m ≤ 4096 := by omega
          clear hp hl e1 e2 hm hl2 HO
          obtain ⟨gL, cL, rfl, hgL, hcl2, hfr, hset⟩ := own_last HMl.out ho
          have HS : Hid ((wr.setCell ⟨gL, m * 2 + 1, none⟩ (.int .i64 ((q : Int) + 1))).ownsRow w.heap.size 58 2 (.slice (some ⟨gL, 0, none⟩) (m + 1) cL) (m + 1) (fl (M ++ [(a, (q : Int) + 1)]))) := hset _
          clear ho hset
          have dG : decide (0 < m + 1) = true := by simp
          have dG2 : decide ((0 : Int) < (m : Int) + 1) = true := decide_eq_true (by omega)
          have i2 : (m : Int) + 1 - 1 = (m : Int) := by omega
          have i3 : (m : Int) < (m : Int) + 1 := by omega
          go_wp2_with fail
          go_roundw
          case rel => exact ⟨q + 1, by omega, by go_num, hx.setCell (p := ⟨gL, m * 2 + 1, none⟩) hgL _, by rw [HP.out, List.length_append, HMl.out]; exact HS.out⟩
          case measure => simp [intOf]; omega
        | false =>
          have HP : Hid (runs (isS S v) (q + 1) = runs (isS S v) q ++ [((q : Int), (q : Int) + 1)]) := runs_new hp hl
          have hgap := (runs_spec (isS S v) q).gap hl
          rcases List.eq_nil_or_concat (runs (isS S v) q) with hM | ⟨M, ⟨a0, x0⟩, hM⟩
          · have ho := HO.out
            rw [hM] at ho HP
            obtain ⟨_, aL, cL, rfl, _⟩ := own_rngs ho
            have HO1 : Hid (wr.ownsRow w.heap.size 58 2 (.slice aL 0 cL) 0 (fl [])) := ho
            clear hp hl hM ho hgap
            go_wp2_with (first | (at_builtin; refine append_prs _ rfl _ _ 23 rfl w.heap.size 58 (.agg #[.int .i64 0, .int .i64 0]) 16 Try.underlying23 infoR rfl (.slice aL 0 cL) 0 [] rfl (own_ext HO1.out ((Ext.refl wr).alloc _ _)) _ 1 1 [((q : Int), (q : Int) + 1)] rfl rfl ?_ (by omega) (by omega) (by omega) ?_ ?_) | go_in)
            · first | exact pair_news _ _ rfl _ _ _ | exact fun _ _ h => h
            · first | exact (hx.alloc _ _).size | (have := hx.size; omega)
            intro v' w5 hown' hgrow'
            have hx5 : Ext w w5 := (hx.alloc _ _).grow hgrow' fun k hk => own_geS HO1.out hk
            have HO5 : Hid (w5.ownsRow w.heap.size 58 2 v' 1 (fl [((q : Int), (q : Int) + 1)])) := hown'
            clear hown' hgrow'
            go_wp2_with fail
            go_roundw
            case rel => exact ⟨q + 1, by omega, by go_num, hx5, by rw [HP.out]; exact HO5.out⟩
            case measure => simp [intOf]; omega
          · rw [List.concat_eq_append] at hM
            have hx0 : x0 < (q : Int) := hgap (a0, x0) (by rw [hM]; simp)
            obtain ⟨m, hm⟩ : ∃ m, M.length = m := ⟨_, rfl⟩
            have hl2 : (runs (isS S v) q).length = m + 1 := by rw [hM, List.length_append, hm]; rfl
            have ho := HO.out
            rw [hl2, hM] at ho
            rw [hM] at HP
            have HMl : Hid (M.length = m) := hm
            have hmb : m ≤ 4096 := by omega
            clear hp hl hm hl2 HO hgap hM
            have ho2 := ho
            obtain ⟨gL, cL, rfl, hgL, hcl2, _, _⟩ := own_last HMl.out ho
            have HO1 : Hid (wr.ownsRow w.heap.size 58 2 (.slice (some ⟨gL, 0, none⟩) (m + 1) cL) (m + 1) (fl (M ++ [(a0, x0)]))) := ho2
            clear ho ho2
            have dG : decide (0 < m + 1) = true := by simp
            have dG2 : decide ((0 : Int) < (m : Int) + 1) = true := decide_eq_true (by omega)
            have i2 : (m : Int) + 1 - 1 = (m : Int) := by omega
            have i3 : (m : Int) < (m : Int) + 1 := by omega
            have dX : (x0 == (q : Int)) = false := by rw [beq_eq_false_iff_ne]; omega
            go_wp2_with (first | (at_builtin; refine append_prs _ rfl _ _ 23 rfl w.heap.size 58 (.agg #[.int .i64 0, .int .i64 0]) 16 Try.underlying23 infoR rfl (.slice (some ⟨gL, 0, none⟩) (m + 1) cL) (m + 1) (M ++ [(a0, x0)]) rfl (own_ext HO1.out ((Ext.refl wr).alloc _ _)) _ 1 1 [((q : Int), (q : Int) + 1)] rfl rfl ?_ (by omega) (by omega) (by omega) ?_ ?_) | go_in)
            · first | exact pair_news _ _ rfl _ _ _ | exact fun _ _ h => h
            · first | exact (hx.alloc _ _).size | (have := hx.size; omega)
            intro v' w5 hown' hgrow'
            have hx5 : Ext w w5 := (hx.alloc _ _).grow hgrow' fun k hk => own_geS HO1.out hk
            have HO5 : Hid _ := hown'
            clear hown' hgrow'
            go_wp2_with fail
            go_roundw
            case rel => exact ⟨q + 1, by omega, by go_num, hx5, by rw [HP.out, List.length_append, List.length_append, HMl.out, List.append_assoc]; exact HO5.out⟩
            case measure => simp [intOf]; omega
    · obtain rfl : q = n := by omega
      go_wp2_with fail
      go_ret
      exact ⟨_, rfl, HO.out, hx⟩
end Go.Proofs.Ytfekiccjcfdmkab
