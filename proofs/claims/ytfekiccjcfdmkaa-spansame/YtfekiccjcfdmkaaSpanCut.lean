/-
  span.Cut: the set without a range: not of the form, or the one list of the set; in new memory.
-/
import Derived.Test.YtfekiccjcfdmkaaChecked
import Derived.WalkKit
import Derived.BigQuiet
import Derived.Test.YtfekiccjcfdmkaaSpanOth
import Derived.Test.YtfekiccjcfdmkaaSpanOps2
namespace Go.Proofs.Ytfekiccjcfdmkaa
open Go.RowKit Go.Deep
theorem may_one {x y : Int} (h : mayB [(x, y)] = true) : 0 ≤ x ∧ x < y ∧ y ≤ 1048576 := by
  have := ((mayB_iff _).1 h).2.2 (x, y) (List.mem_singleton.2 rfl)
  exact this
theorem oth_mem (x y : Int) (h : 0 ≤ x ∧ x < y ∧ y ≤ 1048576) (k : Int) : memL k (othL x y) ↔ (0 ≤ k ∧ k < 1048576) ∧ ¬ (x ≤ k ∧ k < y) := by
  unfold othL othA
  by_cases h1 : 0 < x
  · rw [if_pos h1]
    by_cases h2 : y < 1048576
    · rw [if_pos h2, memL_snoc, memL_one]
      simp only
      omega
    · rw [if_neg h2, List.append_nil, memL_one]
      omega
  · rw [if_neg h1]
    by_cases h2 : y < 1048576
    · rw [if_pos h2, List.nil_append, memL_one]
      omega
    · rw [if_neg h2, List.append_nil]
      constructor
      · intro q
        exact absurd q (memL_nil k)
      · intro q
        omega
theorem oth_may (x y : Int) (h : 0 ≤ x ∧ x < y ∧ y ≤ 1048576) : mayB (othL x y) = true := by
  unfold othL othA mayB
  by_cases h1 : 0 < x
  · rw [if_pos h1]
    by_cases h2 : y < 1048576
    · rw [if_pos h2]
      simp [okB]
      omega
    · rw [if_neg h2]
      simp [okB]
      omega
  · rw [if_neg h1]
    by_cases h2 : y < 1048576
    · rw [if_pos h2]
      simp [okB]
      omega
    · rw [if_neg h2]
      simp [okB]
theorem may_bdd {L : List (Int × Int)} (h : mayB L = true) : Bdd L := fun r hr => by
  have := ((mayB_iff L).1 h).2.2 r hr
  omega
set_option maxRecDepth 100000 in
set_option maxHeartbeats 400000 in
theorem SpCut_any (a : Option Addr) (n c : Nat) (L : List (Int × Int)) (x y : Int) (w : World) (hn : L.length = n) (hn' : n ≤ 9223372036854775807) (h : Rngs w a L) (hb : Bdd L) (hr : (-9223372036854775808 ≤ x ∧ x ≤ 9223372036854775807) ∧ -9223372036854775808 ≤ y ∧ y ≤ 9223372036854775807) :
    Calls Try.prog 12 #[.slice a n c, .agg #[.int .i64 x, .int .i64 y]] w fun e w' => OpRes w (mayB L && mayB [(x, y)]) (fun q => memL q L ∧ ¬ memL q [(x, y)]) e w' := by
  obtain ⟨w1, hw1⟩ : ∃ w1, w1 = (w.alloc (.cells #[.int .i64 x, .int .i64 y] 24)).alloc (.cells #[.int .i64 x, .int .i64 y] 24) := ⟨_, rfl⟩
  have x1 : Ext w w1 := by rw [hw1]; exact ((Ext.refl w).alloc _ _).alloc _ _
  have hc0 : w1.cell? ⟨w.heap.size + 1, 0, none⟩ = some (.int .i64 x) := by
    have := new_cell (w.alloc (.cells #[.int .i64 x, .int .i64 y] 24)) #[.int .i64 x, .int .i64 y] 24 0
    rw [World.size_alloc] at this
    rw [hw1, this]; rfl
  have hc1 : w1.cell? ⟨w.heap.size + 1, 1, none⟩ = some (.int .i64 y) := by
    have := new_cell (w.alloc (.cells #[.int .i64 x, .int .i64 y] 24)) #[.int .i64 x, .int .i64 y] 24 1
    rw [World.size_alloc] at this
    rw [hw1, this]; rfl
  have HB0 : Hid (w1.cell? ⟨w.heap.size, 0, none⟩ = some (.int .i64 x)) := by
    show _ = _
    rw [hw1]
    exact alloc_keeps (new_cell w #[.int .i64 x, .int .i64 y] 24 0) _
  have HB1 : Hid (w1.cell? ⟨w.heap.size, 1, none⟩ = some (.int .i64 y)) := by
    show _ = _
    rw [hw1]
    exact alloc_keeps (new_cell w #[.int .i64 x, .int .i64 y] 24 1) _
  have HM := SpMay_any (some ⟨w.heap.size + 1, 0, none⟩) 1 1 [(x, y)] w1 rfl (by omega) (rngs_one hc0 hc1) (bdd_one hr)
  have HX1 : Hid (Ext w w1) := x1
  have HW1 : Hid (w1 = (w.alloc (.cells #[.int .i64 x, .int .i64 y] 24)).alloc (.cells #[.int .i64 x, .int .i64 y] 24)) := hw1
  have HL : Hid (L.length = n) := hn
  have HR : Hid (∀ w', Ext w w' → Rngs w' a L) := fun w' q => h.ext q
  have HBd : Hid (Bdd L) := hb
  rw [hw1] at HM
  clear hw1 x1 hc0 hc1 hn h hb
  cases hm : mayB [(x, y)] with
  | false =>
    rw [hm] at HM
    go_enter Try.func12, Try.ntmps12
    go_wp2_with fail
    refine HM.mono ?_
    rintro e w2 ⟨rfl, hx2⟩
    rw [← HW1.out] at hx2
    go_wp2_with fail
    go_ret2
    exact ⟨_, _, rfl, Or.inl ⟨by simp, rfl, rfl⟩, HX1.out.trans hx2⟩
  | true =>
    rw [hm] at HM
    have hxy := may_one hm
    have HXY : Hid (0 ≤ x ∧ x < y ∧ y ≤ 1048576) := hxy
    clear hm hr
    go_enter Try.func12, Try.ntmps12
    go_wp2_with fail
    refine HM.mono ?_
    rintro e w2 ⟨rfl, hx2⟩
    rw [← HW1.out] at hx2
    have b0 := hx2.keeps HB0.out
    have b1 := hx2.keeps HB1.out
    have HX2 : Hid (Ext w w2) := HX1.out.trans hx2
    clear hx2 HM
    go_wp2_with fail
    refine (others_any x y w2 HXY.out).mono ?_
    rintro e w3 ⟨v3, rfl, hown3, hx3⟩
    obtain ⟨_, a3, c3, rfl, hr3⟩ := own_rngs hown3
    have hle : (othL x y).length ≤ 200 := ((mayB_iff _).1 (oth_may x y HXY.out)).1
    have HBo := SpBoth_any a a3 n (othL x y).length c c3 L (othL x y) w3 HL.out hn' rfl (by omega) (HR.out _ (HX2.out.trans hx3)) hr3 HBd.out (may_bdd (oth_may x y HXY.out))
    have HX3 : Hid (Ext w w3) := HX2.out.trans hx3
    clear hown3 hx3 hr3 hle
    go_wp2_with fail
    refine HBo.mono ?_
    rintro e w4 ⟨v4, er, rfl, hs, hx4⟩
    have HS : Hid (SetRes (mayB L && true) (fun q => memL q L ∧ ¬ memL q [(x, y)]) v4 er w4) := hs.congr (by rw [oth_may x y HXY.out]) (fun ok k => by
      rw [oth_may x y HXY.out, Bool.and_true] at ok
      rw [oth_mem x y HXY.out, memL_one]
      constructor
      · rintro ⟨h1, h2⟩
        exact ⟨h1, h2.2⟩
      · rintro ⟨h1, h2⟩
        refine ⟨h1, ?_, h2⟩
        obtain ⟨r, hr, h3, h4⟩ := h1
        have := ((mayB_iff L).1 ok).2.2 r hr
        omega)
    clear hs HBo
    go_wp2_with fail
    go_ret2
    exact ⟨_, _, rfl, HS.out, HX3.out.trans hx4⟩
end Go.Proofs.Ytfekiccjcfdmkaa
