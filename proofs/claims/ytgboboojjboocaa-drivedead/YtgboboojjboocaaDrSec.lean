/-
  quicksetkeep.SectorOf: a sector whose bytes all hang on a number.
-/
import Derived.Test.YtgboboojjboocaaChecked
import Derived.WalkKit
import Derived.BigQuiet
import Derived.StillTailTactics
import Derived.Deep.WholeRow
import Derived.Deep.OwnRows
import Derived.Laws.BitsAllLaws
import Derived.Test.YtgboboojjboocaaMk
import Derived.Test.YtgboboojjboocaaDrPlay
namespace Go.Proofs.Ytgboboojjboocaa
open Go.RowKit Go.Deep E
/-- byte i of the sector of a number -/
def secB (z : Int) (i : Nat) : E := of (z / 2 ^ (8 * (i % 8)) % 256)
theorem ev_secB (z : Int) (i : Nat) : ev (secB z i) = z / 2 ^ (8 * (i % 8)) % 256 := ev_of _ (by omega) (by omega)
/-- k bytes of it are made -/
def secU (z : Int) (k i : Nat) : E := if i < k then secB z i else ze
theorem secU_put (z : Int) (k : Nat) (v : Int) (hv : v = ev (secB z k)) (i : Nat) : (if i = k then Value.int .u8 v else bvs (secU z k) i) = bvs (secU z (k + 1)) i := by
  unfold bvs secU
  by_cases e : i = k
  · subst e
    rw [if_pos rfl, if_pos (by omega), hv]
  · rw [if_neg e]
    by_cases l : i < k
    · rw [if_pos l, if_pos (by omega)]
    · rw [if_neg l, if_neg (by omega)]
set_option maxRecDepth 100000 in
set_option maxHeartbeats 1600000 in
theorem SectorOf_any (z : Int) (w : World) :
    Calls Try.prog 16 #[.int .i64 z] w fun e w' => (e = .returned (.slice (some ⟨w.heap.size, 0, none⟩) 128 128) ∧ w'.rowIs w.heap.size 5 128 (bvs (secB z))) ∧ Ext w w' := by
  have hmk := make_bytes 128 (by omega) w
  rw [show ((128 : Nat) : Int) = 128 from rfl] at hmk
  go_enter Try.func16, Try.ntmps16
  go_wp2_with fail
  go_loopw [4] (fun i wr => ∃ k : Nat, k ≤ 128 ∧ i = .int .i64 k ∧ Ext w wr ∧ wr.rowIs w.heap.size 5 128 (bvs (secU z k))) (fun i _ => 128 - (intOf i).toNat)
  case atStart => exact ⟨0, Nat.zero_le _, rfl, (Ext.refl w).alloc _ _, (World.rowIs_made w (.int .u8 0) 128 5).congr fun i _ => by unfold bvs secU; rw [if_neg (by omega)]; rfl⟩
  case round =>
    obtain ⟨k, hk, rfl, hx, hr⟩ := hrel
    have HR : Hid (wr.rowIs w.heap.size 5 128 (bvs (secU z k))) := hr
    by_cases hlt : k < 128
    · have hck := hr.cell (i := k) (by omega)
      have hfk := hr.frozen k
      clear hr
      unfold bvs at hck
      go_wp2_with fail
      go_roundw
      case rel =>
        refine ⟨k + 1, by omega, by go_num, hx.setCell (p := ⟨w.heap.size, k, none⟩) (Nat.le_refl _) _, (HR.out.set k _).congr fun i _ => secU_put z k _ ?_ i⟩
        rw [ev_secB]
      case measure => simp [intOf]; omega
    · obtain rfl : k = 128 := by omega
      go_wp2_with fail
      go_ret
      exact ⟨⟨rfl, hr.congr fun i hi => by unfold bvs secU; rw [if_pos hi]⟩, hx⟩
end Go.Proofs.Ytgboboojjboocaa
