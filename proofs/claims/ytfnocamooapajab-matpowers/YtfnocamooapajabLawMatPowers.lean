/-
  powers of elements that all differ make a matrix that can be inverted, and if two are the same they do not (quicksetkeep.MatPowers returns true), at every argument; no condition.
-/
import Derived.Test.YtfnocamooapajabRows
import Derived.WalkKit
import Derived.ProofKit
import Derived.OpenShut
import Derived.ChangeOld
import Derived.Below
import Derived.Test.YtfnocamooapajabOpen
import Derived.Test.YtfnocamooapajabMatRE
import Derived.Test.YtfnocamooapajabSameKeep
import Derived.Test.YtfnocamooapajabGfPow
import Derived.Test.YtfnocamooapajabMatRow
namespace Go.Proofs.Ytfnocamooapajab.matPowers
open Go.ChangeShapes Go.WideShapes Go.ChangeAt Go.RowKit
set_option linter.unusedVariables false
theorem own : ownKnob Try.prog.godebug = none := by kernel_rfl
theorem laidOut : laidOutB Try.prog = true := by kernel_rfl
open E
theorem fn_next {w0 w4 w5 : World} {v v' : Value} {k : Nat} {r : Nat → E} {o : Obj} {t : TypeId} (hx : Ext w0 w4) (h : w4.ownsRow w0.heap.size t 1 v k ((List.range k).map fun x => .int .i64 (ev (r x))))
    (h' : w5.ownsRow w0.heap.size t 1 v' (k + 1) (((List.range k).map fun x => Value.int .i64 (ev (r x))) ++ [.int .i64 (ev (r k))])) (hg : (w4.alloc o).grownBy w5 v.ownBlock) :
    Ext w0 w5 ∧ w5.ownsRow w0.heap.size t 1 v' (k + 1) ((List.range (k + 1)).map fun x => .int .i64 (ev (r x))) := by
  refine ⟨⟨(hx.below.alloc hx.below.size o).grown hg (by have := hx.size; simp; omega) (fun k hk => (h.lt k hk).1)⟩, ?_⟩
  rw [List.range_succ, List.map_append]
  simpa using h'
theorem powV_ev (x : E) (k : Nat) : powV (ev x) k = ev (pw x k) ∧ powE (ev x) k = 0 := by
  have hx := ev_bd x
  have hB : powB (ev x) k = true := by unfold powB; rw [elB_of _ (by omega) hx.2]; simp
  unfold powV powE
  rw [if_pos hB, if_pos hB]
  exact ⟨rfl, rfl⟩
theorem Pow_E (x : E) (k : Nat) (w : World) (hk : k ≤ 8) : Calls Try.prog 14 #[.int .i64 (ev x), .int .i64 k] w fun e w' => e = .returned (.tuple #[.int .i64 (ev (pw x k)), .int .i64 0]) ∧ Ext w w' := by
  have h := Pow_any (ev x) k w (by omega)
  rw [(powV_ev x k).1, (powV_ev x k).2] at h
  exact h
theorem own_ints {w : World} {base : Nat} {t : TypeId} {v : Value} {n : Nat} {r : Nat → E} (h : w.ownsRow base t 1 v n ((List.range n).map fun x => .int .i64 (ev (r x)))) : ∃ a c, v = .slice a n c ∧ Ints w a n fun i => ev (r i) := by
  obtain ⟨a, c, hv, hc⟩ := own_slice h
  refine ⟨a, c, hv, fun i hi => ?_⟩
  obtain ⟨b, o, ha, hb⟩ := hc i hi
  exact ⟨b, o, ha, by rw [hb]; simp [hi]⟩
/-- the first i differ, and the next one from the first k -/
def Apt (x : Nat → E) (i k : Nat) : Prop := (∀ a, a < i → ∀ b, b < a → x a ≠ x b) ∧ ∀ b, b < k → x i ≠ x b
theorem apt_next {x : Nat → E} {i k : Nat} {ap : Bool} (h : ap = true ↔ Apt x i k) (hap : ap = true) : (ev (x i) != ev (x k)) = true ↔ Apt x i (k + 1) := by
  have h0 := h.1 hap
  rw [bne_iff_ne]
  constructor
  · intro hne
    refine ⟨h0.1, fun b hb => ?_⟩
    by_cases e : b = k
    · rw [e]; exact fun q => hne (by rw [q])
    · exact h0.2 b (by omega)
  · intro hA q
    exact hA.2 k (by omega) (ev_inj q)
theorem apt_stay {x : Nat → E} {i k : Nat} {ap : Bool} (h : ap = true ↔ Apt x i k) (hap : ap = false) : false = true ↔ Apt x i (k + 1) := by
  constructor
  · intro q; cases q
  · intro q
    have : ap = true := h.2 ⟨q.1, fun b hb => q.2 b (by omega)⟩
    rw [hap] at this; exact this
theorem apt_row {x : Nat → E} {i : Nat} {ap : Bool} (h : ap = true ↔ Apt x i i) : ap = true ↔ Apt x (i + 1) 0 := by
  rw [h]
  constructor
  · intro q
    refine ⟨fun a ha b hb => ?_, fun b hb => by omega⟩
    by_cases e : a = i
    · rw [e]; exact q.2 b (by omega)
    · exact q.1 a (by omega) b hb
  · intro q
    exact ⟨fun a ha b hb => q.1 a (by omega) b hb, fun b hb => q.1 i (by omega) b hb⟩
set_option maxRecDepth 100000 in
set_option maxHeartbeats 2000000 in
theorem walk (a0 : Option Addr) (n0 c0 : Nat) (f0 : Nat → Int) (a1 : Int) (w : World) (h0 : Ints w a0 n0 f0) (b0 : n0 ≤ 9223372036854775807 ∧ ∀ i, i < n0 → -9223372036854775808 ≤ f0 i ∧ f0 i ≤ 9223372036854775807) (w1 : -9223372036854775808 ≤ a1 ∧ a1 ≤ 9223372036854775807) :
    Calls Try.prog 5 #[.slice a0 n0 c0, .int .i64 a1] w fun e w' => e = .returned (.bool true) ∧ Ext w w' := by
  have HL : Hid (Ints w a0 n0 f0) := h0
  have BL : Hid (n0 ≤ 9223372036854775807 ∧ ∀ i, i < n0 → -9223372036854775808 ≤ f0 i ∧ f0 i ≤ 9223372036854775807) := b0
  have hn0 := b0.1
  clear h0 b0
  obtain ⟨n, hn⟩ : ∃ s, 1 + (a1 % 8).toNat = s := ⟨_, rfl⟩
  have kn : 1 ≤ n ∧ n ≤ 8 := hn ▸ side_bd a1
  have HN : Hid (1 + (a1 % 8).toNat = n) := hn
  clear hn
  go_enter Try.func5, Try.ntmps5
  go_wp2_with fail
  go_loopw [5, 6] (fun v i wr => ∃ k : Nat, k ≤ n ∧ i = .int .i64 k ∧ Ext w wr ∧ ∃ x : Nat → E, wr.ownsRow w.heap.size 3 1 v k ((List.range k).map fun y => .int .i64 (ev (x y)))) (fun _ i _ => n - (intOf i).toNat)
  case atStart => exact ⟨0, Nat.zero_le _, rfl, Ext.refl _, fun _ => ze, World.ownsRow_nil _ _ _ _⟩
  case round =>
    obtain ⟨k, hk, rfl, hx, x, hown⟩ := hrel
    have HO : Hid (wr.ownsRow w.heap.size 3 1 u5 k ((List.range k).map fun y => .int .i64 (ev (x y)))) := hown
    clear hown
    by_cases hlt : k < n
    · go_wp2_with fail
      refine (side_nat a1 n _ w1 HN.out).mono ?_
      rintro e w' ⟨rfl, rfl⟩
      by_cases hkl : k < n0
      · obtain ⟨b, o, rfl, hck⟩ := (HL.out.ext hx) k hkl
        have hbk := BL.out.2 k hkl
        go_wp2_with fail
        refine (Picked_any (f0 k) 256 _ (by omega) (by omega) hbk.1 hbk.2).mono ?_
        rintro e w2 ⟨rfl, rfl⟩
        obtain ⟨ex, hex⟩ : ∃ ex : E, f0 k % 256 = ev ex := ⟨of (f0 k % 256), (ev_of _ (Int.emod_nonneg _ (by omega)) (Int.emod_lt_of_pos _ (by omega))).symm⟩
        rw [hex]
        clear hex hck
        go_wp2_with (first | (at_builtin; refine append_one w2 rfl _ _ 22 rfl w.heap.size 3 (.int .i64 0) 8 Try.underlying22 infoInt rfl u5 k _ rfl HO.out (.int .i64 (ev ex)) 1 rfl rfl (by omega) (by omega) hx.size ?_) | go_in)
        intro v' w5 hown' hgrow
        have R := row_next hx HO.out hown' hgrow
        have R1 : Hid (Ext w w5 ∧ ∃ r : Nat → E, w5.ownsRow w.heap.size 3 1 v' (k + 1) ((List.range (k + 1)).map fun x => .int .i64 (ev (r x)))) := R
        clear hown' hgrow R
        go_wp2_with fail
        go_roundw
        case rel => exact ⟨k + 1, by omega, by go_num, R1.out.1, R1.out.2⟩
        case measure => simp [intOf]; omega
      · have hk2 : ev (of (k : Int)) = (k : Int) := ev_of _ (by omega) (by omega)
        have HK2 : Hid (ev (of (k : Int)) = (k : Int)) := hk2
        clear hk2
        go_wp2_with (first | (at_builtin; refine append_one w' rfl _ _ 22 rfl w.heap.size 3 (.int .i64 0) 8 Try.underlying22 infoInt rfl u5 k _ rfl HO.out (.int .i64 k) 1 rfl rfl (by omega) (by omega) hx.size ?_) | go_in)
        intro v' w5 hown' hgrow
        rw [← HK2.out] at hown'
        have R := row_next hx HO.out hown' hgrow
        have R1 : Hid (Ext w w5 ∧ ∃ r : Nat → E, w5.ownsRow w.heap.size 3 1 v' (k + 1) ((List.range (k + 1)).map fun x => .int .i64 (ev (r x)))) := R
        clear hown' hgrow R
        go_wp2_with fail
        go_roundw
        case rel => exact ⟨k + 1, by omega, by go_num, R1.out.1, R1.out.2⟩
        case measure => simp [intOf]; omega
    · obtain rfl : k = n := by omega
      clear hlt hk
      obtain ⟨ap, cp, rfl, hpt⟩ := own_ints HO.out
      obtain ⟨bp, op, rfl, hcp⟩ := hpt.at (by omega)
      have HP : Hid (∀ i, i < k → wr.cell? ⟨bp, op + i, none⟩ = some (.int .i64 (ev (x i)))) := hcp
      clear hcp hpt HO
      go_wp2_with fail
      refine (side_nat a1 k _ w1 HN.out).mono ?_
      rintro e w' ⟨rfl, rfl⟩
      generalize hwp : w' = wp at *
      clear hwp
      go_wp2_with fail
      go_loopw [8, 9, 10] (fun a v i wr => ∃ r : Nat, r ≤ k ∧ i = .int .i64 r ∧ (∃ V, MOf wp wr v r k V fun a c => pw (x a) c) ∧ ∃ t : Bool, a = .bool t ∧ Hid (t = true ↔ Apt x r 0)) (fun _ _ i _ => k - (intOf i).toNat)
      case atStart => exact ⟨0, Nat.zero_le _, rfl, ⟨fun _ => .int .i64 0, Ext.refl _, World.ownsRow_nil _ _ _ _, fun s hs => by omega⟩, true, rfl, ⟨fun _ => ⟨fun a ha => by omega, fun b hb => by omega⟩, fun _ => rfl⟩⟩
      case round =>
        obtain ⟨r, hr, rfl, ⟨V, hmo⟩, t, rfl, HT⟩ := hrel
        have HMO : Hid (MOf wp wr u9 r k V fun a c => pw (x a) c) := hmo
        have hxr := hmo.ext
        clear hmo
        by_cases hrt : r < k
        · generalize hw0 : wr = wr0 at *
          clear hw0
          have hcr := HP.out r hrt
          go_wp2_with fail
          go_loopw [8, 11] (fun a j wi => ∃ q : Nat, q ≤ r ∧ j = .int .i64 q ∧ Ext wr0 wi ∧ ∃ t : Bool, a = .bool t ∧ Hid (t = true ↔ Apt x r q)) (fun _ j _ => r - (intOf j).toNat)
          case atStart => exact ⟨0, Nat.zero_le _, rfl, Ext.refl _, t, rfl, HT⟩
          case round =>
            obtain ⟨q, hq, rfl, hxq, t2, rfl, HT2⟩ := hrel
            by_cases hqt : q < r
            · have hg1 := fun y : Gr wr => ((hxr.trans hxq).trans y.ext).keeps hcr
              have hg2 := fun y : Gr wr => ((hxr.trans hxq).trans y.ext).keeps (HP.out q (by omega))
              have hi1 : (r : Int) < (k : Int) := by omega
              have hi2 : (q : Int) < (k : Int) := by omega
              cases ht2 : t2
              · go_wp2_with fail
                refine wp_region_grows 12 (by kernel_rfl) (by kernel_rfl) (fun hne => ?_)
                simp only [List.take_succ_cons, List.take_zero, List.drop_succ_cons, List.drop_zero]
                repeat (go_big_quiet_step (fail))
                refine wpQuiet_nil ?_
                intro w4 hw4
                obtain ⟨y, rfl⟩ := hw4
                clear hg1 hg2
                go_wp2_with fail
                go_roundw
                case rel => exact ⟨q + 1, by omega, by go_num, hxq.trans y.ext, false, rfl, apt_stay HT2.out ht2⟩
                case measure => simp [intOf]; omega
              · go_wp2_with fail
                refine wp_region_grows 12 (by kernel_rfl) (by kernel_rfl) (fun hne => ?_)
                simp only [List.take_succ_cons, List.take_zero, List.drop_succ_cons, List.drop_zero]
                repeat (go_big_quiet_step (fail))
                refine wpQuiet_nil ?_
                intro w4 hw4
                obtain ⟨y, rfl⟩ := hw4
                clear hg1 hg2
                go_wp2_with fail
                go_roundw
                case rel => exact ⟨q + 1, by omega, by go_num, hxq.trans y.ext, _, rfl, apt_next HT2.out ht2⟩
                case measure => simp [intOf]; omega
            · obtain rfl : q = r := by omega
              have HMO2 : Hid (MOf wp wr u9 q k V fun a c => pw (x a) c) := HMO.out.ext' hxq
              have hxr2 := hxr.trans hxq
              clear HMO hxq hxr
              go_wp2_with fail
              generalize hw2 : wr = wr2 at *
              clear hw2
              go_loopw [12, 13] (fun v j wi => ∃ c : Nat, c ≤ k ∧ j = .int .i64 c ∧ Ext wr2 wi ∧ wi.ownsRow wr2.heap.size 3 1 v c ((List.range c).map fun y => .int .i64 (ev (pw (x q) y)))) (fun _ j _ => k - (intOf j).toNat)
              case atStart => exact ⟨0, Nat.zero_le _, rfl, Ext.refl _, World.ownsRow_nil _ _ _ _⟩
              case round =>
                obtain ⟨c, hc, rfl, hxc, hown⟩ := hrel
                have HO : Hid (wr.ownsRow wr2.heap.size 3 1 u12 c ((List.range c).map fun y => .int .i64 (ev (pw (x q) y)))) := hown
                clear hown
                by_cases hct : c < k
                · have hcc := (hxr2.trans hxc).keeps hcr
                  go_wp2_with fail
                  refine (Pow_E (x q) c _ (by omega)).mono ?_
                  rintro e w6 ⟨rfl, hx6⟩
                  have HO6 : Hid (w6.ownsRow wr2.heap.size 3 1 u12 c ((List.range c).map fun y => .int .i64 (ev (pw (x q) y)))) := own_ext HO.out hx6
                  have hx7 := hxc.trans hx6
                  clear hcc HO
                  by_cases hc0 : c = 0
                  · have k0 : ((c : Int) == 0) = true := by rw [beq_iff_eq]; omega
                    have k1 : (ev (pw (x q) c) != 1) = false := by rw [hc0]; rfl
                    clear hc0
                    go_wp2_with (first | (at_builtin; refine append_one w6 rfl _ _ 22 rfl wr2.heap.size 3 (.int .i64 0) 8 Try.underlying22 infoInt rfl u12 c _ rfl HO6.out (.int .i64 (ev (pw (x q) c))) 1 rfl rfl (by omega) (by omega) hx7.size ?_) | go_in)
                    intro v' w8 hown' hgrow
                    have R1 : Hid (Ext wr2 w8 ∧ w8.ownsRow wr2.heap.size 3 1 v' (c + 1) ((List.range (c + 1)).map fun y => .int .i64 (ev (pw (x q) y)))) := fn_next hx7 HO6.out hown' hgrow
                    clear hown' hgrow
                    go_wp2_with fail
                    go_roundw
                    case rel => exact ⟨c + 1, by omega, by go_num, R1.out.1, R1.out.2⟩
                    case measure => simp [intOf]; omega
                  · have k0 : ((c : Int) == 0) = false := by rw [beq_eq_false_iff_ne]; omega
                    go_wp2_with (first | (at_builtin; refine append_one w6 rfl _ _ 22 rfl wr2.heap.size 3 (.int .i64 0) 8 Try.underlying22 infoInt rfl u12 c _ rfl HO6.out (.int .i64 (ev (pw (x q) c))) 1 rfl rfl (by omega) (by omega) hx7.size ?_) | go_in)
                    intro v' w8 hown' hgrow
                    have R1 : Hid (Ext wr2 w8 ∧ w8.ownsRow wr2.heap.size 3 1 v' (c + 1) ((List.range (c + 1)).map fun y => .int .i64 (ev (pw (x q) y)))) := fn_next hx7 HO6.out hown' hgrow
                    clear hown' hgrow
                    go_wp2_with fail
                    go_roundw
                    case rel => exact ⟨c + 1, by omega, by go_num, R1.out.1, R1.out.2⟩
                    case measure => simp [intOf]; omega
                · obtain rfl : c = k := by omega
                  obtain ⟨a9, c9, rfl, hc9⟩ := own_slice HO.out
                  have HM3 : Hid (MOf wp wr u9 q c V fun a c => pw (x a) c) := HMO2.out.ext' hxc
                  have HT3 : Hid (wr.ownsRow wp.heap.size 22 1 u9 q ((List.range q).map V)) := HM3.out.top
                  have HRO : Hid (wr.ownsRow wp.heap.size 3 1 (.slice a9 c c9) c ((List.range c).map fun y => .int .i64 (ev (pw (x q) y)))) := own_mono HO.out hxr2.size
                  have hsz := HM3.out.ext.size
                  clear hc9 HO HMO2
                  go_wp2_with (first | (at_builtin; refine append_one wr rfl _ _ 23 rfl wp.heap.size 22 (.slice none 0 0) 24 Try.underlying23 infoInts rfl u9 q _ rfl HT3.out (.slice a9 c c9) 1 rfl rfl (by omega) (by omega) hsz ?_) | go_in)
                  intro v' w8 hown' hgrow
                  have R1 : Hid (∃ V, MOf wp w8 v' (q + 1) c V fun a c => pw (x a) c) := by
                    obtain ⟨V1, h1⟩ := HM3.out.next HRO.out hown' hgrow
                    refine ⟨V1, h1.congr fun s hs => ?_⟩
                    by_cases e : s < q
                    · rw [if_pos e]
                    · rw [if_neg e, show s = q by omega]
                  clear hown' hgrow
                  go_wp2_with fail
                  go_roundw
                  case rel => exact ⟨q + 1, by omega, by go_num, R1.out, t2, rfl, apt_row HT2.out⟩
                  case measure => simp [intOf]; omega
        · obtain rfl : r = k := by omega
          obtain ⟨am, cm, Am, Cm, rfl, hm9⟩ := HMO.out.mat
          have HM : Hid (Mat wr am r Am (fun _ => r) Cm fun a c => ev (pw (x a) c)) := hm9
          clear hm9 HMO
          cases ht : t
          · have hrk : (redTo r (fun a c => pw (x a) c) r).2 < r := by
              have hna : ¬ Apt x r 0 := fun q => by have := HT.out.2 q; rw [ht] at this; cases this
              have hex : ∃ a b, a < r ∧ b < a ∧ x a = x b := Classical.byContradiction fun q => hna ⟨fun a ha b hb e => q ⟨a, b, ha, hb, e⟩, fun b hb => by omega⟩
              obtain ⟨a, b, ha, hb, e⟩ := hex
              exact rank_twice ha (show b < r by omega) (by omega) fun k _ => by rw [e]
            have HRK : Hid ((redTo r (fun a c => pw (x a) c) r).2 < r) := hrk
            clear hrk
            go_wp2_with fail
            refine (Invert_no am r cm Am Cm (fun a c => pw (x a) c) _ kn HM.out HRK.out).mono ?_
            rintro e v2 ⟨⟨i, ci, Ai, Ci, rfl, hI⟩, x2⟩
            clear hI
            go_wp2_with fail
            go_ret
            exact ⟨rfl, (hx.trans hxr).trans x2⟩
          · have hap := HT.out.1 ht
            have HRK : Hid ((redTo r (fun a c => pw (x a) c) r).2 = r) := rank_powers x fun i j hi hj hne => by
              rcases Nat.lt_or_gt_of_ne hne with q | q
              · exact fun e => hap.1 j hj i q e.symm
              · exact hap.1 i hi j q
            clear hap
            have k1 : ((r : Int) == (r : Int)) = true := by simp
            go_wp2_with fail
            refine (Invert_yes am r cm Am Cm (fun a c => pw (x a) c) _ kn HM.out HRK.out).mono ?_
            rintro e v2 ⟨⟨i, ci, Ai, Ci, rfl, hI⟩, x2⟩
            clear hI
            go_wp2_with fail
            go_ret
            exact ⟨rfl, (hx.trans hxr).trans x2⟩
set_option maxRecDepth 100000 in
theorem lifted (os : Os) (started : os.Started) (H : Type) (enc : TypeId × Value → H) :
    ReturnsInHanded {} Try.checked os 5 .any (Rows.matPowersSpec.pre6 enc Try.prog Try.f5 Rows.matPowersRow.domain false) (Rows.matPowersSpec.post enc Try.prog Try.f5 false true false false) := by
  refine returnsInHanded_of_change (C := Try.checked) own started (by kernel_rfl) Try.func5
    (ChangeSpec.witness6 (enc := enc) (C := Try.checked) false ⟨#[], #[.slice none 0 0, .int .i64 0], []⟩ 8 (by kernel_rfl) (by kernel_rfl) (by kernel_rfl) (by kernel_rfl)) ?_
  intro W base args ds gs before hval0 hW hcnd _
  have hval : ∀ (j : Nat) t v, Try.f5.params[j]? = some t → args[j]? = some v → Value.okWide Try.prog W .any base t v := hval0
  have hW' := hW
  obtain ⟨p, q, hA0, hV, rfl, hfz, hnd⟩ := hW
  have hA : DataW.TrodAll enc Try.prog W 0 (fun _ => true) true Try.f5.params.toList args.toList ds p := hA0
  rw [Try.params5] at hA hval
  obtain ⟨v0, vs0, d0, ds0, p0, q0, hargs, rfl, rfl, h0, r0⟩ := trodAll_cons hA
  obtain ⟨v1, vs1, d1, ds1, p1, q1, rfl, rfl, rfl, h1, r1⟩ := trodAll_cons r0
  obtain ⟨rfl, rfl, rfl⟩ := trodAll_nil r1
  obtain rfl : args = #[v0, v1] := by cases args; simp_all
  obtain ⟨rfl, rfl⟩ := trodVars_none hV
  obtain ⟨a0, n0, c0, rfl⟩ := okWide_slice Try.underlying22 (hval 0 22 v0 rfl rfl)
  have k0 := h0
  have lt0 : ∀ x ∈ p0, x.block < W.heap.size := by obtain ⟨m, hm⟩ := k0; exact DataW.trod_lt m _ _ _ hm
  obtain ⟨f0, i0, b0⟩ := ints_of_trod Try.underlying22 Try.underlying3 (by kernel_rfl) h0
  obtain ⟨a1, rfl, rfl, rfl, w1⟩ := open_int Try.underlying3 (hval 1 3 v1 rfl rfl) h1
  clear hA0 hval0
  refine (walk a0 n0 c0 f0 a1 W i0 b0 (bounds_i64 w1)).mono fun e W' ⟨he, hx⟩ => ?_
  subst he
  have bel := hx.below
  exact ⟨_, rfl, _, _, _, [], _, [], hW', trodAll_mk1 (shut_bool Try.underlying4 _), (trodAll_cons_mk (Below.trod laidOut (by kernel_rfl) (of_decide_eq_true (by kernel_rfl)) k0 bel lt0) (trodAll_cons_mk (shut_int Try.underlying3 w1) trodAll_mk0)), rfl, bel.frame _, fun h => by cases h⟩
theorem over : Rows.matPowersRow.holds Try.pinned (OpenSpec.ofChange Rows.matPowersSpec) :=
  OpenClaim.holds_of_wide 5 Try.f5 rfl rfl rfl rfl rfl rfl rfl ⟨rfl, rfl, rfl, rfl, rfl⟩ rfl rfl rfl rfl rfl (by kernel_rfl) Try.func5 (by kernel_rfl)
    (of_decide_eq_true (by kernel_rfl)) (by unfold Func.isWrapper; first | (rw [if_pos (by decide +kernel)]; kernel_rfl) | (rw [if_neg (by decide +kernel)]; exact ⟨rfl, rfl⟩))
    (fun os started H enc _ => lifted os started H enc)
end Go.Proofs.Ytfnocamooapajab.matPowers
namespace Go.Proofs.Ytfnocamooapajab
theorem matPowers_holds : Rows.MatPowersSaid := matPowers.over
#print axioms matPowers_holds
end Go.Proofs.Ytfnocamooapajab
