/-
  quicksetref.RangeMay, SpanMay: may ranges be the list of a set, as the document says; the memory grows alone.
-/
import Derived.Test.YtfekiccjcfdmkaaChecked
import Derived.WalkKit
import Derived.BigQuiet
import Derived.Test.YtfekiccjcfdmkaaSpanMay
import Derived.Test.YtfekiccjcfdmkaaQuiets
namespace Go.Proofs.Ytfekiccjcfdmkaa
open Go.RowKit
def rmB (x y : Int) : Bool := decide (0 ≤ x) && decide (x < y) && decide (y ≤ 1048576)
set_option maxRecDepth 100000 in
set_option maxHeartbeats 400000 in
theorem RangeMay_any (x y : Int) (w : World) : Calls Try.prog 26 #[.agg #[.int .i64 x, .int .i64 y]] w fun e w' => e = .returned (.bool (rmB x y)) ∧ Ext w w' := by
  unfold rmB
  by_cases l1 : 0 ≤ x
  · by_cases l2 : x < y
    · rw [decide_eq_true l1, decide_eq_true l2]
      go_enter Try.func26, Try.ntmps26
      go_wp2_with fail
      go_ret
      exact ⟨ret_boolS (by simp), (Ext.refl _).alloc _ _⟩
    · rw [decide_eq_true l1, decide_eq_false l2]
      go_enter Try.func26, Try.ntmps26
      go_wp2_with fail
      go_ret
      exact ⟨ret_boolS (by simp), (Ext.refl _).alloc _ _⟩
  · rw [decide_eq_false l1]
    go_enter Try.func26, Try.ntmps26
    go_wp2_with fail
    go_ret
    exact ⟨ret_boolS (by simp), (Ext.refl _).alloc _ _⟩
theorem RangeMay_val (x y : Int) (v : Bool) (h : rmB x y = v) (w : World) : Calls Try.prog 26 #[.agg #[.int .i64 x, .int .i64 y]] w fun e w' => e = .returned (.bool v) ∧ Ext w w' := h ▸ RangeMay_any x y w
/-- what one range and the one behind it owe -/
def linkB (x y : Int) (l : List (Int × Int)) : Bool := rmB x y && (match l with | [] => true | r :: _ => decide (y < r.1))
/-- the same, range by range -/
def okR : List (Int × Int) → Bool
  | [] => true
  | r :: l => linkB r.1 r.2 l && okR l
theorem okB_okR (L : List (Int × Int)) (m : Int) (hm : 0 ≤ m) : okB m L = (okR L && (match L with | [] => true | r :: _ => decide (m ≤ r.1))) := by
  induction L generalizing m with
  | nil => rfl
  | cons r l ih =>
    obtain ⟨x, y⟩ := r
    show (decide (m ≤ x) && decide (x < y) && decide (y ≤ 1048576) && okB (y + 1) l) = (linkB x y l && okR l && decide (m ≤ x))
    unfold linkB rmB
    by_cases h1 : m ≤ x
    · by_cases h2 : x < y
      · rw [ih (y + 1) (by omega), decide_eq_true h1, decide_eq_true h2, decide_eq_true (show 0 ≤ x by omega)]
        cases l with
        | nil => simp
        | cons s l' =>
          have e : decide (y + 1 ≤ s.1) = decide (y < s.1) := by by_cases h : y < s.1 <;> simp [h] <;> omega
          simp only [e]
          cases okR (s :: l') <;> cases decide (y < s.1) <;> simp
      · simp [h2]
    · simp [h1]
theorem mayB_okR (L : List (Int × Int)) : mayB L = (decide (L.length ≤ 200) && okR L) := by
  unfold mayB
  rw [okB_okR L 0 (by omega)]
  cases L with
  | nil => simp [okR]
  | cons r l =>
    have e : (okR (r :: l) && decide (0 ≤ r.1)) = okR (r :: l) := by
      show ((linkB r.1 r.2 l && okR l) && decide (0 ≤ r.1)) = (linkB r.1 r.2 l && okR l)
      unfold linkB rmB
      cases decide (0 ≤ r.1) <;> simp
    simp only [e]
set_option maxRecDepth 100000 in
set_option maxHeartbeats 400000 in
theorem SpanMay_any (a : Option Addr) (n c : Nat) (L : List (Int × Int)) (w : World) (hn : L.length = n) (hc : n ≤ 9223372036854775807) (h : Rngs w a L) :
    Calls Try.prog 25 #[.slice a n c] w fun e w' => e = .returned (.bool (mayB L)) ∧ Ext w w' := by
  rw [mayB_okR]
  have HH : Hid (Rngs w a L) := h
  have HN : Hid (L.length = n) := hn
  clear h
  by_cases hs : n ≤ 200
  · have hm : (decide (L.length ≤ 200) && okR L) = okR L := by rw [hn, decide_eq_true hs]; rfl
    clear hn
    rw [hm]
    clear hm
    go_enter Try.func25, Try.ntmps25
    go_wp2_with fail
    go_loopw [3] (fun i wr => ∃ (k : Nat), k ≤ n ∧ i = .int .i64 k ∧ Ext w wr ∧ okR (L.drop k) = okR L) (fun i _ => n - (intOf i).toNat)
    case atStart => exact ⟨0, Nat.zero_le _, rfl, Ext.refl _, rfl⟩
    case round =>
      obtain ⟨k, hk, rfl, hx, ho⟩ := hrel
      have HO : Hid (okR (L.drop k) = okR L) := ho
      clear ho
      by_cases hlt : k < n
      · obtain ⟨⟨x, y⟩, h1, h2, h3⟩ := drop_at (L := L) (k := k) (by rw [HN.out]; exact hlt)
        obtain ⟨b, o, rfl, hc1, hc2⟩ := (HH.out.ext hx) k x y h1
        have g1 := fun q : Gr wr => q.ext.keeps hc1
        have g2 := fun q : Gr wr => q.ext.keeps hc2
        clear hc1 hc2 h1
        cases hr : rmB x y with
        | false =>
          have H2 : Hid (okR L = false) := by
            show _ = _
            rw [← HO.out, h2]
            show (linkB x y _ && _) = false
            unfold linkB
            rw [hr]
            simp
          clear h2 h3
          go_wp2_with fail
          refine wp_region_grows 26 (by kernel_rfl) (by kernel_rfl) (fun hne => ?_)
          simp only [List.take_succ_cons, List.take_zero, List.drop_succ_cons, List.drop_zero]
          repeat (go_big_quiet_step (first | (go_at_call 26; exact Calls.grown (RangeMay_val x y _ hr _))))
          refine wpQuiet_nil ?_
          intro w4 hw4
          obtain ⟨q, rfl⟩ := hw4
          clear g1 g2
          go_wp2_with fail
          go_ret
          exact ⟨ret_boolS H2.out.symm, hx.trans q.ext⟩
        | true =>
          by_cases hl1 : k + 1 < n
          · obtain ⟨⟨x', y'⟩, j1, j2, j3⟩ := drop_at (L := L) (k := k + 1) (by rw [HN.out]; exact hl1)
            obtain ⟨b', o', heq, hd1, hd2⟩ := (HH.out.ext hx) (k + 1) x' y' j1
            cases heq
            have g3 := fun q : Gr wr => q.ext.keeps hd1
            have H2 : Hid (okR L = (decide (y < x') && okR (L.drop (k + 1)))) := by
              show _ = _
              rw [← HO.out, h2, j2]
              show (rmB x y && decide (y < x') && okR _) = _
              rw [hr]
              rfl
            clear hd1 hd2 j1 j2 j3 h2 h3
            have hi1 : ((k : Int) + 1).toNat = k + 1 := by omega
            have dI : decide ((k : Int) + 1 < (n : Int)) = true := decide_eq_true (by omega)
            have dI2 : decide (k + 1 < n) = true := decide_eq_true (by omega)
            have i1 : (k : Int) + 1 < (n : Int) := by omega
            have i2 : (k : Int) < (n : Int) := by omega
            have i3 : 0 ≤ (k : Int) + 1 := by omega
            by_cases hy : y < x'
            · go_wp2_with fail
              refine wp_region_grows 26 (by kernel_rfl) (by kernel_rfl) (fun hne => ?_)
              simp only [List.take_succ_cons, List.take_zero, List.drop_succ_cons, List.drop_zero]
              repeat (go_big_quiet_step (first | (go_at_call 26; exact Calls.grown (RangeMay_val x y _ hr _))))
              refine wpQuiet_nil ?_
              intro w4 hw4
              obtain ⟨q, rfl⟩ := hw4
              clear g1 g2 g3
              go_wp2_with fail
              go_roundw
              case rel => exact ⟨k + 1, by omega, by go_num, hx.trans q.ext, by rw [H2.out, decide_eq_true hy]; simp⟩
              case measure => simp [intOf]; omega
            · go_wp2_with fail
              refine wp_region_grows 26 (by kernel_rfl) (by kernel_rfl) (fun hne => ?_)
              simp only [List.take_succ_cons, List.take_zero, List.drop_succ_cons, List.drop_zero]
              repeat (go_big_quiet_step (first | (go_at_call 26; exact Calls.grown (RangeMay_val x y _ hr _))))
              refine wpQuiet_nil ?_
              intro w4 hw4
              obtain ⟨q, rfl⟩ := hw4
              clear g1 g2 g3
              go_wp2_with fail
              go_ret
              exact ⟨ret_boolS (by rw [H2.out, decide_eq_false (show ¬ y < x' by omega)]; simp), hx.trans q.ext⟩
          · have H2 : Hid (okR L = okR (L.drop (k + 1))) := by
              show _ = _
              rw [← HO.out, h2, List.drop_eq_nil_of_le (show L.length ≤ k + 1 by rw [HN.out]; omega)]
              show (rmB x y && true && okR _) = _
              rw [hr]
              rfl
            clear h2 h3
            have dI : decide ((k : Int) + 1 < (n : Int)) = false := decide_eq_false (by omega)
            have dI2 : decide (k + 1 < n) = false := decide_eq_false (by omega)
            go_wp2_with fail
            refine wp_region_grows 26 (by kernel_rfl) (by kernel_rfl) (fun hne => ?_)
            simp only [List.take_succ_cons, List.take_zero, List.drop_succ_cons, List.drop_zero]
            repeat (go_big_quiet_step (first | (go_at_call 26; exact Calls.grown (RangeMay_val x y _ hr _))))
            refine wpQuiet_nil ?_
            intro w4 hw4
            obtain ⟨q, rfl⟩ := hw4
            clear g1 g2
            go_wp2_with fail
            go_roundw
            case rel => exact ⟨k + 1, by omega, by go_num, hx.trans q.ext, H2.out.symm⟩
            case measure => simp [intOf]; omega
      · have e : L.drop k = [] := List.drop_eq_nil_of_le (by rw [HN.out]; omega)
        have ho := HO.out
        rw [e] at ho
        have HO' : Hid (okR L = true) := ho.symm
        clear ho HO e
        go_wp2_with fail
        go_ret
        exact ⟨ret_boolS HO'.out.symm, hx⟩
  · have hm : (decide (L.length ≤ 200) && okR L) = false := by rw [hn, decide_eq_false hs]; simp
    rw [hm]
    clear hm hn
    go_enter Try.func25, Try.ntmps25
    go_wp2_with fail
    go_ret
    exact ⟨rfl, Ext.refl _⟩
end Go.Proofs.Ytfekiccjcfdmkaa
