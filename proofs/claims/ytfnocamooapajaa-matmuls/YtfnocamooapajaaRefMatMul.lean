/-
  quicksetref.MatMul at every two matrices, as plain functions; the world only grows.
-/
import Derived.Test.YtfnocamooapajaaChecked
import Derived.WalkKit
import Derived.StillTailTactics
import Derived.Test.YtfnocamooapajaaRefOps
import Derived.Test.YtfnocamooapajaaRefMay
import Derived.Test.YtfnocamooapajaaMatMul
namespace Go.Proofs.Ytfnocamooapajaa
open Go.RowKit Go.Deep E
/-- what stands there when k of the places are summed up -/
def pdE (F F' : Nat → Nat → Int) (k r c : Nat) : E := dot k (fun x => of (F r x)) fun x => of (F' x c)
set_option maxRecDepth 100000 in
set_option maxHeartbeats 1600000 in
theorem MatMul_any (a a' : Option Addr) (n c n' c' : Nat) (A A' : Nat → Option Addr) (L C L' C' : Nat → Nat) (F F' : Nat → Nat → Int) (w : World) (h : Mat w a n A L C F) (h' : Mat w a' n' A' L' C' F') (hn : n ≤ 9223372036854775807) (hl : ∀ r, r < n → L r ≤ 9223372036854775807) (hn' : n' ≤ 9223372036854775807) (hl' : ∀ r, r < n' → L' r ≤ 9223372036854775807) :
    Calls Try.prog 12 #[.slice a n c, .slice a' n' c'] w fun e w' => MatRes w' e (mulN n L F n' L' F') (L' 0) (prodE L F F') (mulE n L F n' L' F') ∧ Ext w w' := by
  have HH : Hid (Mat w a n A L C F) := h
  have HI : Hid (Mat w a' n' A' L' C' F') := h'
  have HN : Hid (∀ r, r < n → L r ≤ 9223372036854775807) := hl
  have HN' : Hid (∀ r, r < n' → L' r ≤ 9223372036854775807) := hl'
  clear h h' hl hl'
  go_enter Try.func12, Try.ntmps12
  go_wp2_with fail
  refine (MatMay_any a n c A L C F _ HH.out hn HN.out).mono ?_
  rintro e w1 ⟨rfl, rfl⟩
  cases hM : mayB n L F
  · go_wp2_with fail
    go_ret2
    rw [(mul_form hM).1, (mul_form hM).2]
    exact ⟨MatRes.none _ _ _ _, Ext.refl _⟩
  · obtain ⟨m1, m2, m3⟩ := mayB_of hM
    have M3 : Hid (Els n L F) := m3
    clear m3
    go_wp2_with fail
    refine (MatMay_any a' n' c' A' L' C' F' _ HI.out hn' HN'.out).mono ?_
    rintro e w2 ⟨rfl, rfl⟩
    cases hM' : mayB n' L' F'
    · go_wp2_with fail
      go_ret2
      rw [(mul_form' hM').1, (mul_form' hM').2]
      exact ⟨MatRes.none _ _ _ _, Ext.refl _⟩
    · obtain ⟨k1, k2, k3⟩ := mayB_of hM'
      have K3 : Hid (Els n' L' F') := k3
      clear k3
      obtain ⟨b, o, rfl, hc⟩ := HH.out.at (by omega)
      have hc0 := hc 0 (by omega)
      rw [Nat.add_zero] at hc0
      obtain ⟨b', o', rfl, hc'⟩ := HI.out.at (by omega)
      have hc0' := hc' 0 (by omega)
      rw [Nat.add_zero] at hc0'
      have HC : Hid (∀ r, r < n → w2.cell? ⟨b, o + r, none⟩ = some (.slice (A r) (L r) (C r))) := hc
      have HC' : Hid (∀ r, r < n' → w2.cell? ⟨b', o' + r, none⟩ = some (.slice (A' r) (L' r) (C' r))) := hc'
      clear hc hc'
      by_cases hL : L 0 = n'
      · have hB : ((L 0 : Int) != (n' : Int)) = false := by rw [hL]; simp
        have HL : Hid (L 0 = n') := hL
        clear hL
        have hmk := make_rows n (by omega)
        have hmk' := make_ints (L' 0) (by omega)
        go_wp2_with fail
        have h0 : Bld w2 (w2.alloc (.cells (madeCells #[.slice none 0 0] n) 28)) w2.heap.size n (L' 0) 0 (prodE L F F') (fun _ => 0) := Bld.start w2 n (L' 0) _ _
        generalize w2.alloc (.cells (madeCells #[.slice none 0 0] n) 28) = w3 at *
        go_loopw [30] (fun i wr => ∃ k : Nat, k ≤ n ∧ i = .int .i64 k ∧ ∃ G, Bld w2 wr w2.heap.size n (L' 0) k (prodE L F F') G) (fun i _ => n - (intOf i).toNat)
        case atStart => exact ⟨0, Nat.zero_le _, rfl, _, h0⟩
        case round =>
          clear h0
          obtain ⟨i, hi, rfl, G, hb⟩ := hrel
          by_cases hlt : i < n
          · have hci := hb.top.cell hlt
            rw [if_neg (by omega)] at hci
            have hfi := hb.top.frozen i
            have hin := hb.next (Nat.le_refl _)
            have hlt2 := hb.top.lt
            have hc0x := hb.ext.keeps hc0'
            have HI0 : Hid (Inn w2 ((wr.setCell ⟨w2.heap.size, i, none⟩ (.slice (some ⟨wr.heap.size, 0, none⟩) (L' 0) (L' 0))).alloc (.cells (madeCells #[.int .i64 0] (L' 0)) 3)) w2.heap.size n (L' 0) i (fun _ => ze) (prodE L F F') G wr.heap.size) := hin
            clear hb hin
            go_wp2_with fail
            clear hmk hmk' hci hfi hc0x
            generalize (wr.setCell ⟨w2.heap.size, i, none⟩ (.slice (some ⟨wr.heap.size, 0, none⟩) (L' 0) (L' 0))).alloc (.cells (madeCells #[.int .i64 0] (L' 0)) 3) = w4 at *
            generalize wr.heap.size = g at *
            go_loopw [43] (fun i_1 wi => ∃ k : Nat, k ≤ n' ∧ i_1 = .int .i64 k ∧ Inn w2 wi w2.heap.size n (L' 0) i (pdE F F' k i) (prodE L F F') G g) (fun i _ => n' - (intOf i).toNat)
            case atStart => exact ⟨0, Nat.zero_le _, rfl, HI0.out⟩
            case round =>
              clear HI0
              obtain ⟨k, hk, rfl, hin⟩ := hrel
              by_cases hkt : k < n'
              · have hck := hin.ext.keeps (HC'.out k hkt)
                have hLk : L' k = L' 0 := (K3.out k hkt).1
                have hLi : L i = L 0 := (M3.out i hlt).1
                have hl1 : L' k ≤ L' 0 := by omega
                have hl2 : L' 0 ≤ L' k := by omega
                have hl3 : n' ≤ L i := by have := HL.out; omega
                have hl4 : L i ≤ n' := by have := HL.out; omega
                obtain ⟨br, or, hAi, hrow⟩ := (M3.out.row HH.out hlt).at (by omega)
                obtain ⟨bv, ov, hAk, hvec⟩ := (K3.out.row HI.out hkt).at (by omega)
                have HROW : Hid (∀ x, x < L i → w2.cell? ⟨br, or + x, none⟩ = some (.int .i64 (ev (of (F i x))))) := hrow
                have HVEC : Hid (∀ x, x < L' k → w2.cell? ⟨bv, ov + x, none⟩ = some (.int .i64 (ev (of (F' k x))))) := hvec
                have HI1 : Hid (Inn w2 wr w2.heap.size n (L' 0) i (pdE F F' k i) (prodE L F F') G g) := hin
                clear hrow hvec hLk hLi hin
                go_wp2_with fail
                go_loopw [51] (fun i_1 wi => ∃ j : Nat, j ≤ L' k ∧ i_1 = .int .i64 j ∧ Inn w2 wi w2.heap.size n (L' 0) i (upto j (pdE F F' k i) (pdE F F' (k + 1) i)) (prodE L F F') G g) (fun i _ => L' k - (intOf i).toNat)
                case atStart => exact ⟨0, Nat.zero_le _, rfl, HI1.out.congr fun i hi => (if_neg (by omega)).symm⟩
                case round =>
                  clear HI1 hck
                  obtain ⟨j, hj, rfl, hin⟩ := hrel
                  by_cases hjt : j < L' k
                  · have hc1 := hin.top.cell hlt
                    rw [if_neg (by omega), if_pos rfl] at hc1
                    have hjm : j < L' 0 := by omega
                    have hc2 : wr.cell? ⟨g, j, none⟩ = some (.int .i64 (ev (pdE F F' k i j))) := by rw [hin.cur.cell hjm]; unfold evs; rw [upto_at]
                    have hf2 := hin.cur.frozen j
                    have hc3 := hin.ext.keeps (HC.out i hlt)
                    have hc4 := hin.ext.keeps (HROW.out k (by omega))
                    have hc5 := hin.ext.keeps (HC'.out k hkt)
                    have hc6 := hin.ext.keeps (HVEC.out j hjt)
                    rw [hAi] at hc3
                    rw [hAk] at hc5
                    have hi1 : (j : Int) < (L' 0 : Int) := by omega
                    have hi2 : (k : Int) < (L i : Int) := by omega
                    have hi3 : (j : Int) < (L' k : Int) := by omega
                    have HI2 : Hid (Inn w2 wr w2.heap.size n (L' 0) i (upto j (pdE F F' k i) (pdE F F' (k + 1) i)) (prodE L F F') G g) := hin
                    clear hin
                    go_wp2_with fail
                    refine wp_region_still_tail 24 (by kernel_rfl) (by kernel_rfl) ?_
                    simp only [List.take_succ_cons, List.take_zero, List.drop_succ_cons, List.drop_zero]
                    repeat still_step
                    still_call (mulOf_ev (of (F i k)) (of (F' k j)) _)
                    repeat still_step
                    refine wpStill_nil ?_
                    go_wp2_with fail
                    go_roundw
                    case rel =>
                      refine ⟨j + 1, by omega, by go_num, ?_⟩
                      have h6 := HI2.out.put j (pdE F F' (k + 1) i j)
                      rw [upto_put] at h6
                      rw [xor_ev]
                      exact h6.grow (Ext.refl _).drew
                    case measure => simp [intOf]; omega
                  · obtain rfl : j = L' k := by omega
                    go_wp2_with fail
                    go_roundw
                    case rel => exact ⟨k + 1, by omega, by go_num, hin.congr fun i hi => if_pos (by omega)⟩
                    case measure => simp [intOf]; omega
              · obtain rfl : k = n' := by omega
                go_wp2_with fail
                go_roundw
                case rel =>
                  refine ⟨i + 1, by omega, by go_num, _, (hin.congr fun c hc => ?_).done⟩
                  unfold prodE pdE
                  rw [HL.out]
                case measure => simp [intOf]; omega
          · obtain rfl : i = n := by omega
            go_wp2_with fail
            go_ret2
            rw [(mul_ok hM hM' HL.out).1, (mul_ok hM hM' HL.out).2]
            exact ⟨⟨_, _, _, _, rfl, hb.own.mat⟩, hb.ext⟩
      · have hB : ((L 0 : Int) != (n' : Int)) = true := by rw [bne_iff_ne]; omega
        have HL : Hid (¬ L 0 = n') := hL
        clear hL
        go_wp2_with fail
        go_ret2
        rw [(mul_size hM hM' HL.out).1, (mul_size hM hM' HL.out).2]
        exact ⟨MatRes.none _ _ _ _, Ext.refl _⟩
end Go.Proofs.Ytfnocamooapajaa
