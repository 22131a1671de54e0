/-
  quicksetref.pickRange, CombCount: Pascal's triangle, row by row, in new memory.
-/
import Derived.Test.YtfdgacpmdlmjnaaChecked
import Derived.WalkKit
import Derived.BigQuiet
import Derived.Deep.AppendLies
import Derived.Test.YtfdgacpmdlmjnaaCombBase
import Derived.Test.YtfdgacpmdlmjnaaQuiets
import Derived.Test.YtfdgacpmdlmjnaaByb
namespace Go.Proofs.Ytfdgacpmdlmjnaa
open Go.RowKit Go.Deep E
theorem ret_boolC {a b : Bool} (h : a = b) : Ending.returned (.bool a) = .returned (.bool b) := by rw [h]
set_option maxRecDepth 100000 in
set_option maxHeartbeats 400000 in
theorem pickRange_any (n k : Int) (w : World) : Calls Try.prog 41 #[.int .i64 n, .int .i64 k] w fun e w' => e = .returned (.bool (!decide (maysP n k))) ∧ w' = w := by
  by_cases h1 : 0 ≤ n
  · by_cases h2 : n ≤ 12
    · by_cases h3 : 0 ≤ k
      · by_cases h4 : k ≤ n
        · have hd : decide (maysP n k) = true := decide_eq_true ⟨⟨h1, h2⟩, h3, h4⟩
          rw [hd]
          go_enter Try.func41, Try.ntmps41
          go_wp2_with fail
          go_ret
          exact ⟨ret_boolC (by simp; omega), rfl⟩
        · have hd : decide (maysP n k) = false := decide_eq_false fun h => h4 h.2.2
          rw [hd]
          go_enter Try.func41, Try.ntmps41
          go_wp2_with fail
          go_ret
          exact ⟨rfl, rfl⟩
      · have hd : decide (maysP n k) = false := decide_eq_false fun h => h3 h.2.1
        rw [hd]
        go_enter Try.func41, Try.ntmps41
        go_wp2_with fail
        go_ret
        exact ⟨rfl, rfl⟩
    · have hd : decide (maysP n k) = false := decide_eq_false fun h => h2 h.1.2
      rw [hd]
      go_enter Try.func41, Try.ntmps41
      go_wp2_with fail
      go_ret
      exact ⟨rfl, rfl⟩
  · have hd : decide (maysP n k) = false := decide_eq_false fun h => h1 h.1.1
    rw [hd]
    go_enter Try.func41, Try.ntmps41
    go_wp2_with fail
    go_ret
    exact ⟨rfl, rfl⟩
theorem infoI : (Try.prog.info? 3).map (fun i => (i.zero, i.size, i.bytes)) = some (some (.int .i64 0), 1, 8) := by kernel_rfl
theorem infoIs : (Try.prog.info? 23).map (fun i => (i.zero, i.size, i.bytes)) = some (some (.slice none 0 0), 1, 24) := by kernel_rfl
/-- a row of Pascal's triangle -/
def chv (n j : Nat) : Value := .int .i64 (cho n j)
theorem own_lit (w : World) {base : Nat} (hb : base ≤ w.heap.size) (u : Value) (e : TypeId) : (w.alloc (.cells #[u] e)).ownsRow base e 1 (.slice (some ⟨w.heap.size, 0, none⟩) 1 1) 1 [u] :=
  ⟨rfl, .inr ⟨w.heap.size, 1, #[u], rfl, hb, heap_alloc_new w _, Nat.le_refl _, by unfold maxLen; omega, rfl, rfl⟩⟩
theorem own_int_slice {w : World} {base : Nat} {e : TypeId} {v : Value} {n : Nat} {f : Nat → Value} (h : w.ownsRow base e 1 v n ((List.range n).map f)) (h0 : 0 < n) : ∃ g c, v = .slice (some ⟨g, 0, none⟩) n c ∧ ∀ i, i < n → w.cell? ⟨g, i, none⟩ = some (f i) := by
  obtain ⟨g, c, h1, h2, h3⟩ := h.form h0
  subst h1
  refine ⟨g, c, rfl, fun i hi => ?_⟩
  rw [h.cellAt i (by omega)]
  simp [hi]
set_option maxRecDepth 100000 in
set_option maxHeartbeats 1600000 in
theorem CombCount_any (n k : Int) (w : World) :
    Calls Try.prog 13 #[.int .i64 n, .int .i64 k] w fun e w' => e = .returned (.tuple #[.int .i64 (cntV n k), .int .i64 (cntE n k)]) ∧ Ext w w' := by
  by_cases h : maysP n k
  · have hv : cntV n k = (cho n.toNat k.toNat : Int) := if_pos h
    have he : cntE n k = 0 := if_pos h
    have hd : (!decide (maysP n k)) = false := by rw [decide_eq_true h]; rfl
    rw [hv, he]
    obtain ⟨⟨h1, h2⟩, h3, h4⟩ := h
    obtain ⟨N, rfl⟩ := Int.eq_ofNat_of_zero_le h1
    obtain ⟨K, rfl⟩ := Int.eq_ofNat_of_zero_le h3
    have hN : N ≤ 12 := by omega
    have hK : K ≤ N := by omega
    clear h1 h2 h3 h4
    go_enter Try.func13, Try.ntmps13
    go_wp2_with (first | (go_at_call 41; refine (pickRange_any _ _ _).mono ?_; rw [hd]; rintro e w1 ⟨rfl, hw1⟩; have hw2 := hw1.symm; clear hw1; subst hw2))
    have HS : Hid ((w.alloc (.cells #[.int .i64 1] 3)).ownsRow w.heap.size 3 1 (.slice (some ⟨w.heap.size, 0, none⟩) 1 1) 1 [.int .i64 1]) := own_lit w (Nat.le_refl _) _ _
    go_loopw [6, 7] (fun v i wr => ∃ x : Nat, x ≤ N ∧ i = .int .i64 x ∧ Ext w wr ∧ wr.ownsRow w.heap.size 3 1 v (x + 1) ((List.range (x + 1)).map (chv x))) (fun _ i _ => N - (intOf i).toNat)
    case atStart => exact ⟨0, Nat.zero_le _, rfl, (Ext.refl w).alloc _ _, HS.out⟩
    case round =>
      clear HS
      obtain ⟨x, hx, rfl, hex, hown⟩ := hrel
      obtain ⟨g, c, rfl, hcell⟩ := own_int_slice hown (by omega)
      by_cases hlt : x < N
      · have HC : Hid (∀ i, i < x + 1 → wr.cell? ⟨g, i, none⟩ = some (chv x i)) := hcell
        clear hcell hown
        generalize hw0 : wr = wr0 at *
        clear hw0
        go_wp2_with fail
        have HS : Hid ((wr0.alloc (.cells #[.int .i64 1] 3)).ownsRow wr0.heap.size 3 1 (.slice (some ⟨wr0.heap.size, 0, none⟩) 1 1) 1 [.int .i64 1]) := own_lit wr0 (Nat.le_refl _) _ _
        go_loopw [8, 9] (fun v j wi => ∃ y : Nat, (1 ≤ y ∧ y ≤ x + 1) ∧ j = .int .i64 y ∧ Ext wr0 wi ∧ wi.ownsRow wr0.heap.size 3 1 v y ((List.range y).map (chv (x + 1)))) (fun _ j _ => x + 1 - (intOf j).toNat)
        case atStart => exact ⟨1, ⟨by omega, by omega⟩, rfl, (Ext.refl wr0).alloc _ _, HS.out⟩
        case round =>
          clear HS
          obtain ⟨y, hy, rfl, hxi, hown⟩ := hrel
          have HO : Hid (wr.ownsRow wr0.heap.size 3 1 u8 y ((List.range y).map (chv (x + 1)))) := hown
          clear hown
          by_cases hyt : y < x + 1
          · have g0 := fun q : Gr wr => (hxi.trans q.ext).keeps (HC.out (y - 1) (by omega))
            have g1 := fun q : Gr wr => (hxi.trans q.ext).keeps (HC.out y hyt)
            have hi1 : ((y : Int) - 1).toNat = y - 1 := by omega
            have b0 := cho_le x (by omega) (y - 1) (by omega)
            have b1 := cho_le x (by omega) y (by omega)
            unfold chv at g0 g1
            go_wp2_with fail
            refine wp_region_grows1 11 (by kernel_rfl) (by kernel_rfl) rfl _ rfl (fun _ _ _ h => h) (fun hne => ?_)
            simp only [List.take_succ_cons, List.take_zero, List.drop_succ_cons, List.drop_zero]
            repeat (go_big_quiet_step (fail))
            refine wpQuiet_nil ?_
            intro w9 hw9
            obtain ⟨q, rfl⟩ := hw9
            clear g0 g1
            have HO9 : Hid (q.w'.ownsRow wr0.heap.size 3 1 u8 y ((List.range y).map (chv (x + 1)))) := own_ext HO.out q.ext
            have hx9 := hxi.trans q.ext
            have hs9 := hx9.size
            go_wp2_with (first | (at_builtin; refine append_one q.w' rfl _ _ 23 rfl wr0.heap.size 3 (.int .i64 0) 8 Try.underlying23 infoI rfl u8 y _ rfl HO9.out (.int .i64 _) 1 rfl rfl (by omega) (by omega) hs9 ?_) | go_in)
            intro v' w10 hown' hgrow
            have hx10 : Ext wr0 w10 := (hx9.alloc _ _).grow hgrow fun b hb => (own_ge HO9.out hb).1
            have R1 : Hid (w10.ownsRow wr0.heap.size 3 1 v' (y + 1) ((List.range (y + 1)).map (chv (x + 1)))) := by
              rw [← range_map_succ]
              obtain ⟨z, rfl⟩ : ∃ z, y = z + 1 := ⟨y - 1, by omega⟩
              have e : chv (x + 1) (z + 1) = .int .i64 ((cho x z : Int) + (cho x (z + 1) : Int)) := by
                show Value.int .i64 ((cho x z + cho x (z + 1) : Nat) : Int) = _
                rw [Int.natCast_add]
              rw [e]
              exact hown'
            clear hown' hgrow HO HO9
            go_wp2_with fail
            go_roundw
            case rel => exact ⟨y + 1, by omega, by go_num, hx10, R1.out⟩
            case measure => simp [intOf]; omega
          · obtain rfl : y = x + 1 := by omega
            have hs9 := hxi.size
            go_wp2_with (first | (at_builtin; refine append_one wr rfl _ _ 23 rfl wr0.heap.size 3 (.int .i64 0) 8 Try.underlying23 infoI rfl u8 (x + 1) _ rfl HO.out (.int .i64 1) 1 rfl rfl (by omega) (by omega) hs9 ?_) | go_in)
            intro v' w10 hown' hgrow
            have hx10 : Ext wr0 w10 := (hxi.alloc _ _).grow hgrow fun b hb => (own_ge HO.out hb).1
            have R1 : Hid (w10.ownsRow w.heap.size 3 1 v' (x + 1 + 1) ((List.range (x + 1 + 1)).map (chv (x + 1)))) := by
              rw [← range_map_succ]
              have e : chv (x + 1) (x + 1) = .int .i64 1 := by unfold chv; rw [cho_all]; rfl
              rw [e, ← range_map_succ, List.append_assoc]
              exact own_mono hown' hex.size
            clear hown' hgrow HO
            go_wp2_with fail
            go_roundw
            case rel => exact ⟨x + 1, by omega, by go_num, hex.trans hx10, R1.out⟩
            case measure => simp [intOf]; omega
      · obtain rfl : x = N := by omega
        have hcK := hcell K (by omega)
        unfold chv at hcK
        clear hcell hown
        go_wp2_with fail
        go_ret2
        exact ⟨rfl, hex⟩
  · have hv : cntV n k = 0 := if_neg h
    have he : cntE n k = 2 := if_neg h
    have hd : (!decide (maysP n k)) = true := by rw [decide_eq_false h]; rfl
    rw [hv, he]
    clear h
    go_enter Try.func13, Try.ntmps13
    go_wp2_with (first | (go_at_call 41; refine (pickRange_any _ _ _).mono ?_; rw [hd]; rintro e w1 ⟨rfl, hw1⟩; have hw2 := hw1.symm; clear hw1; subst hw2))
    go_ret2
    exact ⟨rfl, Ext.refl _⟩
end Go.Proofs.Ytfdgacpmdlmjnaa
