/-
  space: may, turn, that, left: what the units are, and how they become another thing.
-/
import Derived.Test.YtfpbiimjcdbaoaaChecked
import Derived.WalkKit
import Derived.BigQuiet
import Derived.Deep.OwnRows
import Derived.Test.YtfpbiimjcdbaoaaSpaceMath
import Derived.Test.YtfpbiimjcdbaoaaSpaceMem
import Derived.Test.YtfpbiimjcdbaoaaMm
import Derived.Test.YtfpbiimjcdbaoaaRefThose
namespace Go.Proofs.Ytfpbiimjcdbaoaa
open Go.RowKit Go.Deep
def szB (n : Int) : Bool := decide (1 ≤ n) && decide (n ≤ 4096)
set_option maxRecDepth 100000 in
theorem Smay_any (n : Int) (w : World) : Calls Try.prog 16 #[.int .i64 n] w fun e w' => e = .returned (.bool (szB n)) ∧ w' = w := by
  unfold szB
  by_cases h : 1 ≤ n
  · rw [decide_eq_true h]
    go_enter Try.func16, Try.ntmps16
    go_wp2_with fail
    go_ret
    exact ⟨ret_boolS (by simp), rfl⟩
  · rw [decide_eq_false h]
    go_enter Try.func16, Try.ntmps16
    go_wp2_with fail
    go_ret
    exact ⟨ret_boolS (by simp), rfl⟩
set_option maxRecDepth 100000 in
theorem turn1_any (s was : Int) (p : Addr) (w : World) (hp : w.cell? p = some (.int .i64 was)) : Calls Try.prog 29 #[.int .i64 s, .pointer (some p)] w fun e w' => e = .returned (.bool (s != was)) ∧ w' = w := by
  go_enter Try.func29, Try.ntmps29
  go_wp2_with fail
  go_ret
  exact ⟨rfl, rfl⟩
theorem allS_zero (f : Nat → Int) (x : Nat) (v : Int) : allS f x x v = true := by
  unfold allS
  rw [Nat.sub_self]
  rfl
set_option maxRecDepth 100000 in
set_option maxHeartbeats 400000 in
theorem IndexU_any (a : Option Addr) (n c : Nat) (f : Nat → Int) (was : Int) (p : Addr) (w : World) (hn : n ≤ 4096) (h : Ints w a n f) (hp : w.cell? p = some (.int .i64 was)) :
    Calls Try.prog 30 #[.slice a n c, .func (.func 29) #[] #[.pointer (some p)]] w fun e w' => ∃ z : Int, e = .returned (.int .i64 z) ∧ decide (0 ≤ z) = !allS f 0 n was ∧ w' = w := by
  have HI : Hid (Ints w a n f) := h
  have HP := fun s => turn1_any s was p w hp
  have HPP : Hid (∀ s, Calls Try.prog 29 #[.int .i64 s, .pointer (some p)] w fun e w' => e = .returned (.bool (s != was)) ∧ w' = w) := HP
  clear h hp HP
  go_enter Try.func30, Try.ntmps30
  go_wp2_with fail
  go_loop [8] (fun i => ∃ q : Nat, q ≤ n ∧ i = .int .i64 q ∧ Hid (∀ i, i < q → f i = was)) (fun i => n - (intOf i).toNat)
  case atStart => exact ⟨0, Nat.zero_le _, rfl, fun i hi => by omega⟩
  case round =>
    obtain ⟨q, hq, rfl, HA⟩ := hrel
    by_cases hlt : q < n
    · obtain ⟨b, o, rfl, hc⟩ := HI.out q hlt
      have hcl := HPP.out (f q)
      by_cases he : f q = was
      · rw [he] at hcl hc
        have e0 : (was != was) = false := by simp
        rw [e0] at hcl
        go_wp2_with (first | (go_at_call 29; refine hcl.mono ?_; rintro e w1 ⟨rfl, rfl⟩))
        go_round
        case rel => exact ⟨q + 1, by omega, by go_num, fun i hi => by
          rcases Nat.lt_or_ge i q with c | c
          · exact HA.out i c
          · obtain rfl : i = q := by omega
            exact he⟩
        case measure => simp [intOf]; omega
      · have e0 : (f q != was) = true := by simp [he]
        rw [e0] at hcl
        have HN : Hid (allS f 0 n was = false) := by
          show _ = _
          cases hb : allS f 0 n was with
          | false => rfl
          | true => exact absurd ((allS_iff f 0 n was).1 hb q (Nat.zero_le _) hlt) he
        clear he
        go_wp2_with (first | (go_at_call 29; refine hcl.mono ?_; rintro e w1 ⟨rfl, rfl⟩))
        go_ret
        exact ⟨q, rfl, by rw [HN.out]; simp, rfl⟩
    · have HN : Hid (allS f 0 n was = true) := (allS_iff f 0 n was).2 fun i _ hi => HA.out i (by omega)
      go_wp2_with fail
      go_ret
      exact ⟨-1, rfl, by rw [HN.out]; rfl, rfl⟩
set_option maxRecDepth 100000 in
set_option maxHeartbeats 400000 in
theorem ContainsU_any (a : Option Addr) (n c : Nat) (f : Nat → Int) (was : Int) (p : Addr) (w : World) (hn : n ≤ 4096) (h : Ints w a n f) (hp : w.cell? p = some (.int .i64 was)) :
    Calls Try.prog 28 #[.slice a n c, .func (.func 29) #[] #[.pointer (some p)]] w fun e w' => e = .returned (.bool (!allS f 0 n was)) ∧ w' = w := by
  have HI := IndexU_any a n c f was p w hn h hp
  clear h hp
  go_enter Try.func28, Try.ntmps28
  go_wp2_with (first | (go_at_call 30; refine HI.mono ?_; rintro e w1 ⟨z, rfl, hz, rfl⟩))
  go_ret
  exact ⟨by rw [← hz]; rfl, rfl⟩
/-- the units of a space: a block of its own -/
def Uns (w : World) (g : Nat) (t : TypeId) (n : Nat) (S : Nat → Int) : Prop := w.rowIs g t n fun i => IV (S i)
theorem Uns.ints {w : World} {g : Nat} {t : TypeId} {n : Nat} {S : Nat → Int} (h : Uns w g t n S) {x m : Nat} (hx : x + m ≤ n) : Ints w (some ⟨g, x, none⟩) m fun i => S (x + i) := fun i hi =>
  ⟨g, x, rfl, h.cell (i := x + i) (by omega)⟩
theorem Uns.congr {w : World} {g : Nat} {t : TypeId} {n : Nat} {S S' : Nat → Int} (h : Uns w g t n S) (e : ∀ i, i < n → S i = S' i) : Uns w g t n S' := World.rowIs.congr h fun i hi => by rw [e i hi]
theorem Uns.set {w : World} {g : Nat} {t : TypeId} {n : Nat} {S : Nat → Int} (h : Uns w g t n S) (i : Nat) (v : Int) : Uns (w.setCell ⟨g, i, none⟩ (.int .i64 v)) g t n (fun j => if j = i then v else S j) :=
  World.rowIs.congr (World.rowIs.set h i (.int .i64 v)) fun j _ => by
    by_cases e : j = i
    · simp [e, IV]
    · simp [e]
theorem allS_shift (S : Nat → Int) (x y : Nat) (v : Int) : allS (fun i => S (x + i)) 0 (y - x) v = allS S x y v := by
  unfold allS
  simp
theorem putS_step (S : Nat → Int) (x q : Nat) (v : Int) (j : Nat) : (if j = x + q then v else putS S x (x + q) v j) = putS S x (x + (q + 1)) v j := by
  unfold putS
  by_cases e : j = x + q
  · rw [if_pos e, if_pos (by omega)]
  · rw [if_neg e]
    by_cases c : x ≤ j ∧ j < x + q
    · rw [if_pos c, if_pos (by omega)]
    · rw [if_neg c, if_neg (by omega)]
theorem putS_none (S : Nat → Int) (x : Nat) (v : Int) : putS S x x v = S := by
  funext i
  unfold putS
  rw [if_neg (by omega)]
theorem cellsSt : Try.prog.cellsOf 63 = 1 := by kernel_rfl
/-- behind turn -/
def turnS (S : Nat → Int) (x y : Nat) (was is : Int) : Nat → Int := if allS S x y was then putS S x y is else S
set_option maxRecDepth 100000 in
set_option maxHeartbeats 800000 in
theorem turn_any (g n : Nat) (S : Nat → Int) (x y : Nat) (was is : Int) (w : World) (hn : n ≤ 4096) (hxy : x < y) (hy : y ≤ n) (h : Uns w g 63 n S) :
    Calls Try.prog 25 #[.slice (some ⟨g, 0, none⟩) n n, .agg #[.int .i64 x, .int .i64 y], .int .i64 was, .int .i64 is] w fun e w' =>
      e = .returned (.bool (allS S x y was)) ∧ Uns w' g 63 n (turnS S x y was is) ∧ Wro (· = g) w w' := by
  obtain ⟨w0, hw0⟩ : ∃ w0, w0 = (w.alloc (.cells #[.int .i64 x, .int .i64 y] 53)).alloc (.cells #[.int .i64 was] 63) := ⟨_, rfl⟩
  have x0 : Ext w w0 := by rw [hw0]; exact ((Ext.refl w).alloc _ _).alloc _ _
  have hp : w0.cell? ⟨w.heap.size + 1, 0, none⟩ = some (.int .i64 was) := by
    have e := new_cell (w.alloc (.cells #[.int .i64 x, .int .i64 y] 53)) #[.int .i64 was] 63 0
    rw [World.size_alloc] at e
    rw [hw0]
    exact e
  have HU : Hid (Uns w0 g 63 n S) := x0.rowIs h
  have HC := ContainsU_any (some ⟨g, x, none⟩) (y - x) (n - x) (fun i => S (x + i)) was ⟨w.heap.size + 1, 0, none⟩ w0 (by omega) (HU.out.ints (by omega)) hp
  rw [allS_shift] at HC
  have hs1 : ∀ w, (Instr.slice 56 (.slice (some ⟨g, 0, none⟩) n n) (some (.int .i64 (x : Int))) (some (.int .i64 (y : Int))) none).run Try.prog w = .ok (.slice (some ⟨g, x, none⟩) (y - x) (n - x)) w := fun w => by
    rw [sub_lh (P := Try.prog) Try.underlying56 cellsSt (some ⟨g, 0, none⟩) n n x (y - x) (by omega) _ _ rfl (by omega) w, subA_some (by omega), Nat.zero_add]
  obtain ⟨L, hL⟩ : ∃ L, y - x = L := ⟨_, rfl⟩
  obtain ⟨K, hK⟩ : ∃ K, n - x = K := ⟨_, rfl⟩
  rw [hL, hK] at hs1 HC
  have HL : Hid (y - x = L) := hL
  have hL4 : L ≤ 4096 := by omega
  have HX0 : Hid (Wro (· = g) w w0) := Wro.ext x0
  have HW0 : Hid (w0 = (w.alloc (.cells #[.int .i64 x, .int .i64 y] 53)).alloc (.cells #[.int .i64 was] 63)) := hw0
  rw [hw0] at HC
  have HB : Hid (x + L ≤ n) := by show _ ≤ _; omega
  clear h x0 hp hw0 hL hK
  cases hb : allS S x y was with
  | false =>
    rw [hb] at HC
    have HT : Hid (turnS S x y was is = S) := by show _ = _; unfold turnS; rw [hb]; rfl
    clear hb
    go_enter Try.func25, Try.ntmps25
    go_wp2_with fail
    refine HC.mono ?_
    rintro e w1 ⟨rfl, hw1⟩
    rw [← HW0.out] at hw1
    subst hw1
    go_wp2_with fail
    go_ret
    exact ⟨rfl, by rw [HT.out]; exact HU.out, HX0.out⟩
  | true =>
    rw [hb] at HC
    have HT : Hid (turnS S x y was is = putS S x (x + L) is) := by
      show _ = _
      unfold turnS
      rw [hb, if_pos rfl, ← HL.out, show x + (y - x) = y by omega]
    clear hb
    go_enter Try.func25, Try.ntmps25
    go_wp2_with fail
    refine HC.mono ?_
    rintro e w1 ⟨rfl, hw1⟩
    rw [← HW0.out] at hw1
    subst hw1
    clear HC hs1
    go_wp2_with fail
    go_loopw [22] (fun i wr => ∃ q : Nat, q ≤ L ∧ i = .int .i64 q ∧ Uns wr g 63 n (putS S x (x + q) is) ∧ Wro (· = g) w wr) (fun i _ => L - (intOf i).toNat)
    case atStart => exact ⟨0, Nat.zero_le _, rfl, by rw [Nat.add_zero, putS_none]; exact HU.out, HX0.out⟩
    case round =>
      obtain ⟨q, hq, rfl, hu, hx⟩ := hrel
      have HUr : Hid (Uns wr g 63 n (putS S x (x + q) is)) := hu
      clear hu
      by_cases hlt : q < L
      · have hc := HUr.out.cell (i := x + q) (by have := HB.out; omega)
        have hf := World.rowIs.frozen HUr.out (x + q)
        unfold IV at hc
        have HS : Hid (Uns (wr.setCell ⟨g, x + q, none⟩ (.int .i64 is)) g 63 n (putS S x (x + (q + 1)) is)) := (HUr.out.set (x + q) is).congr fun j _ => putS_step S x q is j
        go_wp2_with fail
        go_roundw
        case rel => exact ⟨q + 1, by omega, by go_num, HS.out, hx.setCell (p := ⟨g, x + q, none⟩) rfl _⟩
        case measure => simp [intOf]; omega
      · obtain rfl : q = L := by omega
        go_wp2_with fail
        go_ret
        exact ⟨rfl, by rw [HT.out]; exact HUr.out, hx⟩
end Go.Proofs.Ytfpbiimjcdbaoaa
