/-
  span.Has (slices.ContainsFunc, slices.IndexFunc, a closure) and the document's own: is a number in a set; the memory grows alone.
-/
import Derived.Test.YtfekiccjcfdmkabChecked
import Derived.WalkKit
import Derived.BigQuiet
import Derived.Test.YtfekiccjcfdmkabSpanMath
import Derived.Test.YtfekiccjcfdmkabRefSMay
namespace Go.Proofs.Ytfekiccjcfdmkab
open Go.RowKit
set_option maxRecDepth 100000 in
set_option maxHeartbeats 400000 in
theorem SpHas1_any (x y k : Int) (g : Nat) (w : World) (hg : w.cell? ⟨g, 0, none⟩ = some (.int .i64 k)) :
    Calls Try.prog 29 #[.agg #[.int .i64 x, .int .i64 y], .pointer (some ⟨g, 0, none⟩)] w fun e w' => e = .returned (.bool (decide (x ≤ k) && decide (k < y))) ∧ Ext w w' := by
  have hg' := fun o => alloc_keeps hg o
  clear hg
  by_cases l1 : x ≤ k
  · rw [decide_eq_true l1]
    go_enter Try.func29, Try.ntmps29
    go_wp2_with fail
    go_ret
    exact ⟨ret_boolS (by simp), (Ext.refl _).alloc _ _⟩
  · rw [decide_eq_false l1]
    go_enter Try.func29, Try.ntmps29
    go_wp2_with fail
    go_ret
    exact ⟨ret_boolS (by simp), (Ext.refl _).alloc _ _⟩
theorem memB_cons (k : Int) (r : Int × Int) (L : List (Int × Int)) : memB k (r :: L) = (decide (r.1 ≤ k) && decide (k < r.2) || memB k L) := rfl
set_option maxRecDepth 100000 in
set_option maxHeartbeats 400000 in
theorem IndexFunc_any (a : Option Addr) (n c : Nat) (L : List (Int × Int)) (k : Int) (g : Nat) (w : World) (hn : L.length = n) (hc : n ≤ 9223372036854775807) (h : Rngs w a L) (hg : w.cell? ⟨g, 0, none⟩ = some (.int .i64 k)) :
    Calls Try.prog 43 #[.slice a n c, .func (.func 29) #[] #[.pointer (some ⟨g, 0, none⟩)]] w fun e w' => ∃ z : Int, e = .returned (.int .i64 z) ∧ decide (0 ≤ z) = memB k L ∧ Ext w w' := by
  have HH : Hid (Rngs w a L) := h
  have HN : Hid (L.length = n) := hn
  have HGc : Hid (w.cell? ⟨g, 0, none⟩ = some (.int .i64 k)) := hg
  clear h hn hg
  go_enter Try.func43, Try.ntmps43
  go_wp2_with fail
  go_loopw [8] (fun i wr => ∃ q : Nat, q ≤ n ∧ i = .int .i64 q ∧ Ext w wr ∧ memB k (L.drop q) = memB k L) (fun i _ => n - (intOf i).toNat)
  case atStart => exact ⟨0, Nat.zero_le _, rfl, Ext.refl _, rfl⟩
  case round =>
    obtain ⟨q, hq, rfl, hx, ho⟩ := hrel
    have HO : Hid (memB k (L.drop q) = memB k L) := ho
    clear ho
    by_cases hlt : q < n
    · obtain ⟨⟨x, y⟩, h1, h2, h3⟩ := drop_at (L := L) (k := q) (by rw [HN.out]; exact hlt)
      obtain ⟨b, o, rfl, hc1, hc2⟩ := (HH.out.ext hx) q x y h1
      have H2 : Hid (memB k L = (decide (x ≤ k) && decide (k < y) || memB k (L.drop (q + 1)))) := by
        show _ = _
        rw [← HO.out, h2, memB_cons]
      clear h1 h2 h3
      have hcl := SpHas1_any x y k g wr (hx.keeps HGc.out)
      cases hd : (decide (x ≤ k) && decide (k < y)) with
      | true =>
        rw [hd] at hcl
        rw [hd] at H2
        go_wp2_with (first | (go_at_call 29; refine hcl.mono ?_; rintro e w1 ⟨rfl, hx1⟩))
        go_ret
        exact ⟨q, rfl, by rw [H2.out]; simp, hx.trans hx1⟩
      | false =>
        rw [hd] at hcl
        rw [hd] at H2
        go_wp2_with (first | (go_at_call 29; refine hcl.mono ?_; rintro e w1 ⟨rfl, hx1⟩))
        go_roundw
        case rel => exact ⟨q + 1, by omega, by go_num, hx.trans hx1, by rw [H2.out]; simp⟩
        case measure => simp [intOf]; omega
    · have e : L.drop q = [] := List.drop_eq_nil_of_le (by rw [HN.out]; omega)
      have ho := HO.out
      rw [e] at ho
      have HO' : Hid (memB k L = false) := ho.symm
      clear ho HO e
      go_wp2_with fail
      go_ret
      exact ⟨-1, rfl, by rw [HO'.out]; rfl, hx⟩
set_option maxRecDepth 100000 in
set_option maxHeartbeats 400000 in
theorem ContainsFunc_any (a : Option Addr) (n c : Nat) (L : List (Int × Int)) (k : Int) (g : Nat) (w : World) (hn : L.length = n) (hc : n ≤ 9223372036854775807) (h : Rngs w a L) (hg : w.cell? ⟨g, 0, none⟩ = some (.int .i64 k)) :
    Calls Try.prog 28 #[.slice a n c, .func (.func 29) #[] #[.pointer (some ⟨g, 0, none⟩)]] w fun e w' => e = .returned (.bool (memB k L)) ∧ Ext w w' := by
  have HI := IndexFunc_any a n c L k g w hn hc h hg
  clear hn h hg
  go_enter Try.func28, Try.ntmps28
  go_wp2_with (first | (go_at_call 43; refine HI.mono ?_; rintro e w1 ⟨z, rfl, hz, hx1⟩))
  go_ret
  exact ⟨rfl, hx1⟩
set_option maxRecDepth 100000 in
set_option maxHeartbeats 400000 in
theorem SpHas_any (a : Option Addr) (n c : Nat) (L : List (Int × Int)) (k : Int) (w : World) (hn : L.length = n) (hc : n ≤ 9223372036854775807) (h : Rngs w a L) (hb : Bdd L) :
    Calls Try.prog 12 #[.slice a n c, .int .i64 k] w fun e w' => e = .returned (.bool (hasB L k)) ∧ Ext w w' := by
  unfold hasB
  have x0 : Ext w (w.alloc (.cells #[.int .i64 k] 3)) := (Ext.refl w).alloc _ _
  have HM := SpMay_any a n c L _ hn hc (h.ext x0) hb
  cases hm : mayB L with
  | false =>
    rw [hm] at HM
    clear h hb hn
    go_enter Try.func12, Try.ntmps12
    go_wp2_with (first | (go_at_call 23; refine HM.mono ?_; rintro e w1 ⟨rfl, hx1⟩))
    go_ret
    exact ⟨rfl, x0.trans hx1⟩
  | true =>
    rw [hm] at HM
    have HC : Hid (∀ w1, Ext (w.alloc (.cells #[.int .i64 k] 3)) w1 → Calls Try.prog 28 #[.slice a n c, .func (.func 29) #[] #[.pointer (some ⟨w.heap.size, 0, none⟩)]] w1 fun e w' => e = .returned (.bool (memB k L)) ∧ Ext w1 w') :=
      fun w1 hx => ContainsFunc_any a n c L k w.heap.size w1 hn hc (h.ext (x0.trans hx)) (hx.keeps (new_cell w #[.int .i64 k] 3 0))
    clear h hb hn
    go_enter Try.func12, Try.ntmps12
    go_wp2_with (first | (go_at_call 23; refine HM.mono ?_; rintro e w1 ⟨rfl, hx1⟩) | (go_at_call 28; refine (HC.out w1 hx1).mono ?_; rintro e w2 ⟨rfl, hx2⟩))
    go_ret
    exact ⟨ret_boolS (by simp), (x0.trans hx1).trans hx2⟩
end Go.Proofs.Ytfekiccjcfdmkab
