/-
  span.May: may ranges be the list of a set; nothing is written.
-/
import Derived.Test.YtfpbiimjcdbaoaaChecked
import Derived.WalkKit
import Derived.BigQuiet
import Derived.Test.YtfpbiimjcdbaoaaSpanMem
namespace Go.Proofs.Ytfpbiimjcdbaoaa
open Go.RowKit
theorem ret_boolS {a b : Bool} (h : a = b) : Ending.returned (.bool a) = .returned (.bool b) := by rw [h]
set_option maxRecDepth 100000 in
set_option maxHeartbeats 400000 in
theorem SpMay_any (a : Option Addr) (n c : Nat) (L : List (Int × Int)) (w : World) (hn : L.length = n) (hc : n ≤ 9223372036854775807) (h : Rngs w a L) (hb : Bdd L) :
    Calls Try.prog 12 #[.slice a n c] w fun e w' => e = .returned (.bool (mayB L)) ∧ Ext w w' := by
  have HH : Hid (Rngs w a L) := h
  have HB : Hid (Bdd L) := hb
  have HN : Hid (L.length = n) := hn
  clear h hb
  by_cases hs : n ≤ 200
  · have hm : mayB L = okB 0 L := by unfold mayB; rw [hn, decide_eq_true hs]; rfl
    clear hn
    rw [hm]
    clear hm
    go_enter Try.func12, Try.ntmps12
    go_wp2_with fail
    go_loopw [3, 11] (fun m i wr => ∃ (k : Nat) (z : Int), k ≤ n ∧ i = .int .i64 k ∧ m = .int .i64 z ∧ (0 ≤ z ∧ z ≤ 1048577) ∧ Ext w wr ∧ okB z (L.drop k) = okB 0 L) (fun _ i _ => n - (intOf i).toNat)
    case atStart => exact ⟨0, 0, Nat.zero_le _, rfl, rfl, by omega, Ext.refl _, rfl⟩
    case round =>
      obtain ⟨k, z, hk, rfl, rfl, hz, hx, ho⟩ := hrel
      have HO : Hid (okB z (L.drop k) = okB 0 L) := ho
      clear ho
      by_cases hlt : k < n
      · obtain ⟨⟨x, y⟩, h1, h2, h3⟩ := drop_at (L := L) (k := k) (by rw [HN.out]; exact hlt)
        obtain ⟨b, o, rfl, hc1, hc2⟩ := (HH.out.ext hx) k x y h1
        obtain ⟨⟨b1, b2⟩, b3, b4⟩ := HB.out _ h3
        have H2 : Hid (okB 0 L = (decide (z ≤ x) && decide (x < y) && decide (y ≤ 1048576) && okB (y + 1) (L.drop (k + 1)))) := by
          show _ = _
          rw [← HO.out, h2]
          rfl
        clear h1 h2 h3
        simp only at b1 b2 b3 b4
        by_cases l1 : z ≤ x
        · by_cases l2 : x < y
          · by_cases l3 : y ≤ 1048576
            · go_wp2_with fail
              go_roundw
              case rel => exact ⟨k + 1, y + 1, by omega, by go_num, by go_num, by omega, hx.alloc _ _, by rw [H2.out]; simp [l1, l2, l3]⟩
              case measure => simp [intOf]; omega
            · go_wp2_with fail
              go_ret
              exact ⟨ret_boolS (by rw [H2.out, decide_eq_false (show ¬ y ≤ 1048576 by omega)]; simp), hx.alloc _ _⟩
          · go_wp2_with fail
            go_ret
            exact ⟨ret_boolS (by rw [H2.out, decide_eq_false (show ¬ x < y by omega)]; simp), hx.alloc _ _⟩
        · go_wp2_with fail
          go_ret
          exact ⟨ret_boolS (by rw [H2.out, decide_eq_false (show ¬ z ≤ x by omega)]; simp), hx.alloc _ _⟩
      · have e : L.drop k = [] := List.drop_eq_nil_of_le (by rw [HN.out]; omega)
        have ho := HO.out
        rw [e] at ho
        have HO' : Hid (okB 0 L = true) := ho.symm
        clear ho HO e
        go_wp2_with fail
        go_ret
        exact ⟨ret_boolS HO'.out.symm, hx⟩
  · have hm : mayB L = false := by unfold mayB; rw [hn, decide_eq_false hs]; simp
    rw [hm]
    clear hm hn
    go_enter Try.func12, Try.ntmps12
    go_wp2_with fail
    go_ret
    exact ⟨rfl, Ext.refl _⟩
end Go.Proofs.Ytfpbiimjcdbaoaa
