/-
  stripe.filled: columns filled up with bytes 0 to a size, in memory of their own.
-/
import Derived.Test.YthgbfakmkdifbaaChecked
import Derived.WalkKit
import Derived.BigQuiet
import Derived.Deep.CutRange
import Derived.Deep.QuietTactic
import Derived.Deep.RegionLaw
import Derived.Test.YthgbfakmkdifbaaStCut
namespace Go.Proofs.Ythgbfakmkdifbaa
open Go.RowKit Go.Deep E
def filF (L : Nat → Nat) (F : Nat → Nat → E) (r : Nat) : Nat → E := padZ (L r) (F r)
set_option maxRecDepth 100000 in
set_option maxHeartbeats 1600000 in
theorem filled_any (a : Option Addr) (n cn : Nat) (A : Nat → Option Addr) (L C : Nat → Nat) (F : Nat → Nat → E) (m : Nat) (w : World) (hn : n ≤ 1048576) (hm : m ≤ 1048576) (h : Cols w a n A L C F) :
    Calls Try.prog 24 #[.slice a n cn, .int .i64 m] w fun e w' => e = .returned (.slice (some ⟨w.heap.size, 0, none⟩) n n) ∧ ∃ G, BldB w w' w.heap.size n m n (filF L F) G := by
  have HH : Hid (Cols w a n A L C F) := h
  clear h
  have hmk := make_cols n (by omega)
  have hmk' := make_bytes m (by omega)
  go_enter Try.func24, Try.ntmps24
  go_wp2_with fail
  have h0 := BldB.start w n m (filF L F) (fun _ => 0)
  generalize w.alloc (.cells (madeCells #[.slice none 0 0] n) 22) = w1 at *
  clear hmk
  go_loopw [13] (fun i wr => ∃ k : Nat, k ≤ n ∧ i = .int .i64 k ∧ ∃ G, BldB w wr w.heap.size n m k (filF L F) G) (fun i _ => n - (intOf i).toNat)
  case atStart => exact ⟨0, Nat.zero_le _, rfl, _, h0⟩
  case round =>
    clear h0
    obtain ⟨k, hk, rfl, G, hb⟩ := hrel
    by_cases hlt : k < n
    · obtain ⟨⟨b, o, rfl, hcw⟩, hcol⟩ := HH.out k hlt
      have hck := hb.ext.keeps hcw
      have hct := hb.top.cell hlt
      rw [if_neg (by omega)] at hct
      have hft := hb.top.frozen k
      have hBl := hb.top.lt
      have HB1 : Hid (BldB w ((wr.setCell ⟨w.heap.size, k, none⟩ (.slice (some ⟨wr.heap.size, 0, none⟩) m m)).alloc (.cells (madeCells #[.int .u8 0] m) 5)) w.heap.size n m (k + 1) (fun r => if r = k then fun _ => ze else filF L F r) (fun r => if r = k then wr.heap.size else G r)) := hb.made (Nat.le_refl _)
      clear hb
      go_upto_region 6 with fail
      clear hck hct hft hBl
      generalize (wr.setCell ⟨w.heap.size, k, none⟩ (.slice (some ⟨wr.heap.size, 0, none⟩) m m)).alloc (.cells (madeCells #[.int .u8 0] m) 5) = w3 at *
      generalize wr.heap.size = gk at *
      have hct := HB1.out.top.cell hlt
      rw [if_pos (by omega), if_pos rfl] at hct
      have hrk := HB1.out.row k (by omega)
      rw [if_pos rfl, if_pos rfl] at hrk
      have HC : Hid (Byts w3 (A k) (L k) (F k)) := hcol.ext HB1.out.ext
      have HRK : Hid (w3.rowIs gk 5 m (bvs fun _ => ze)) := hrk
      clear hrk hcol
      go_wp2_with (refine copy_bytsM rfl (.tmp 26) (.tmp 27) 22 rfl 5 Try.underlying22 (sizeByte infoByte) gk m m (A k) (L k) (C k) rfl rfl _ HRK.out (F k) HC.out ?_)
      intro v5 w5 hr5 hw5
      have hg5 : (if k = k then gk else G k) = gk := if_pos rfl
      have H5 : Hid (BldB w w5 w.heap.size n m (k + 1) (filF L F) (fun r => if r = k then gk else G r)) := by
        have hr6 : w5.rowIs gk 5 m (bvs (filF L F k)) := hr5.congr fun i hi => by
          unfold bvs filF padZ
          by_cases e : i < L k
          · rw [if_pos e, if_pos e]
          · rw [if_neg e, if_neg e]
        refine (HB1.out.turn (r := k) (by omega) (filF L F k) (by rw [hg5]; exact hw5) (by rw [hg5]; exact hr6)).congr fun r hr i _ => ?_
        by_cases e : r = k
        · rw [if_pos e, e]
        · rw [if_neg e, if_neg e]
      clear hr5 hw5 hg5 hct
      go_wp2_with fail
      go_roundw
      case rel => exact ⟨k + 1, by omega, by go_num, _, H5.out⟩
      case measure => simp [intOf]; omega
    · obtain rfl : n = k := by omega
      go_wp2_with fail
      go_ret
      exact ⟨rfl, G, hb⟩
end Go.Proofs.Ythgbfakmkdifbaa
