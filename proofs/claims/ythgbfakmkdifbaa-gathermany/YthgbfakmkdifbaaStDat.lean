/-
  stripe.dataFirst, slices.Grow of nil, slices.Concat of lists of ints: plain answers; the world only grows.
-/
import Derived.Test.YthgbfakmkdifbaaChecked
import Derived.WalkKit
import Derived.BigQuiet
import Derived.Deep.CutRange
import Derived.Deep.QuietTactic
import Derived.Deep.RegionLaw
import Derived.StillTail
import Derived.StillTailTactics
import Derived.Lib.AppendZerosOnto
import Derived.Test.YthgbfakmkdifbaaStAt
import Derived.Test.YthgbfakmkdifbaaRegAlloc
namespace Go.Proofs.Ythgbfakmkdifbaa
open Go.RowKit Go.Deep E
/-- the place of column r in the order of par, and back -/
def sigP (n p r : Nat) : Nat := (r + n - p) % n
def tauP (n p j : Nat) : Nat := (j + p) % n
def stB (n p j : Nat) : Bool := !(decide (p < n) && decide (j < n)) || (decide (sigP n p (tauP n p j) = j) && decide (tauP n p (sigP n p j) = j) && decide (tauP n p j < n) && decide (sigP n p j < n))
theorem st_at {n p j : Nat} (hn : n ≤ 8) (hp : p < n) (hj : j < n) : sigP n p (tauP n p j) = j ∧ tauP n p (sigP n p j) = j ∧ tauP n p j < n ∧ sigP n p j < n := by
  have h : ∀ n, n < 9 → ∀ p, p < 8 → ∀ j, j < 8 → stB n p j = true := by decide +kernel
  have g := h n (by omega) p (by omega) j (by omega)
  unfold stB at g
  simp only [hp, hj, decide_true, Bool.and_self, Bool.not_true, Bool.false_or, Bool.and_eq_true, decide_eq_true_eq, and_assoc] at g
  exact g
set_option maxRecDepth 100000 in
set_option maxHeartbeats 1600000 in
theorem dataFirst_any (a : Option Addr) (n cn : Nat) (T : Nat → Bool) (A : Nat → Option Addr) (L C : Nat → Nat) (F : Nat → Nat → E) (p : Nat) (w : World) (hn : n ≤ 8) (hp : p < n) (h : Pcs w a n T A L C F) :
    Calls Try.prog 31 #[.slice a n cn, .int .i64 p] w fun e w' => (e = .returned (.slice (some ⟨w.heap.size, 0, none⟩) n n) ∧ Cols w' (some ⟨w.heap.size, 0, none⟩) n (fun j => A (tauP n p j)) (fun j => L (tauP n p j)) (fun j => C (tauP n p j)) (fun j => F (tauP n p j))) ∧ Ext w w' := by
  have HH : Hid (Pcs w a n T A L C F) := h
  clear h
  have hmk := make_cols n (by omega)
  go_enter Try.func31, Try.ntmps31
  go_wp2_with fail
  have hr0 : (w.alloc (.cells (madeCells #[.slice none 0 0] n) 22)).rowIs w.heap.size 22 n (fun j => if tauP n p j < 0 then .slice (A (tauP n p j)) (L (tauP n p j)) (C (tauP n p j)) else .slice none 0 0) := (World.rowIs_made w (.slice none 0 0) n 22).congr fun i _ => by rw [if_neg (by omega)]
  have hx0 : Ext w (w.alloc (.cells (madeCells #[.slice none 0 0] n) 22)) := (Ext.refl w).alloc _ _
  generalize w.alloc (.cells (madeCells #[.slice none 0 0] n) 22) = w1 at *
  clear hmk
  go_loopw [13] (fun i wr => ∃ k : Nat, k ≤ n ∧ i = .int .i64 k ∧ Ext w wr ∧ wr.rowIs w.heap.size 22 n (fun j => if tauP n p j < k then .slice (A (tauP n p j)) (L (tauP n p j)) (C (tauP n p j)) else .slice none 0 0)) (fun i _ => n - (intOf i).toNat)
  case atStart => exact ⟨0, Nat.zero_le _, rfl, hx0, hr0⟩
  case round =>
    clear hr0 hx0
    obtain ⟨k, hk, rfl, hx, hr⟩ := hrel
    have HR : Hid (wr.rowIs w.heap.size 22 n (fun j => if tauP n p j < k then .slice (A (tauP n p j)) (L (tauP n p j)) (C (tauP n p j)) else .slice none 0 0)) := hr
    clear hr
    by_cases hlt : k < n
    · obtain ⟨⟨bb, o, rfl, h1, h2⟩, _⟩ := (HH.out.ext hx) k hlt
      have hst := st_at hn hp hlt
      obtain ⟨j, hj⟩ : ∃ j, sigP n p k = j := ⟨_, rfl⟩
      have HJ : Hid (sigP n p k = j) := hj
      rw [hj] at hst
      have HTJ : Hid (tauP n p j = k) := hst.2.1
      have hjn := hst.2.2.2
      have hal := (Ext.refl wr).alloc #[.bool (T k), .slice (A k) (L k) (C k)] 42
      have hR2 := HR.out.alloc (.cells #[.bool (T k), .slice (A k) (L k) (C k)] 42)
      have hX2 : Ext w (wr.alloc (.cells #[.bool (T k), .slice (A k) (L k) (C k)] 42)) := hx.trans hal
      have f1 : (wr.alloc (.cells #[.bool (T k), .slice (A k) (L k) (C k)] 42)).cell? ⟨wr.heap.size, 1, none⟩ = some (.slice (A k) (L k) (C k)) := by rw [new_cell]; rfl
      clear hj hst hal
      go_upto_region 5 with fail
      generalize wr.alloc (.cells #[.bool (T k), .slice (A k) (L k) (C k)] 42) = w2 at *
      have hct := hR2.cell hjn
      rw [if_neg (by rw [HTJ.out]; omega)] at hct
      have hft := hR2.frozen j
      have hji : (j : Int) < (n : Int) := by omega
      have HN : Hid ((w2.setCell ⟨w.heap.size, j, none⟩ (.slice (A k) (L k) (C k))).rowIs w.heap.size 22 n (fun j => if tauP n p j < k + 1 then .slice (A (tauP n p j)) (L (tauP n p j)) (C (tauP n p j)) else .slice none 0 0)) := (hR2.set j _).congr fun i hi => by
        by_cases e : i = j
        · subst e; rw [if_pos rfl, HTJ.out, if_pos (by omega)]
        · rw [if_neg e]
          have : tauP n p i ≠ k := fun q => e (by have := (st_at hn hp hi).1; rw [q, HJ.out] at this; exact this.symm)
          by_cases l : tauP n p i < k
          · rw [if_pos l, if_pos (by omega)]
          · rw [if_neg l, if_neg (by omega)]
      have HX : Hid (Ext w (w2.setCell ⟨w.heap.size, j, none⟩ (.slice (A k) (L k) (C k)))) := hX2.setCell (p := ⟨w.heap.size, j, none⟩) (Nat.le_refl _) _
      have HTC := fun u : World => turned_any k p n u (by omega) hn hlt
      have e1 : (k + n - p) % n = j := HJ.out
      rw [e1] at HTC
      clear hR2 h1 h2 e1
      refine wp_region_still_tail 9 (by kernel_rfl) (by kernel_rfl) ?_
      simp only [List.take_succ_cons, List.take_zero, List.drop_succ_cons, List.drop_zero]
      repeat still_step
      still_call (HTC _)
      repeat still_step
      refine wpStill_nil ?_
      go_wp2_with fail
      go_roundw
      case rel => exact ⟨k + 1, by omega, by go_num, HX.out.drew, HN.out.of_block rfl⟩
      case measure => simp [intOf]; omega
    · obtain rfl : n = k := by omega
      go_wp2_with fail
      go_ret
      refine ⟨⟨rfl, fun r hr => ⟨⟨_, 0, rfl, ?_⟩, (HH.out.ext hx _ (st_at hn hp hr).2.2.1).2⟩⟩, hx⟩
      rw [Nat.zero_add, HR.out.cell hr, if_pos (st_at hn hp hr).2.2.1]
end Go.Proofs.Ythgbfakmkdifbaa
