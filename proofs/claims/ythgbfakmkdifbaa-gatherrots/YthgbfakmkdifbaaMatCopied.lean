/-
  mat.copied of a matrix of elements: its rows at the beginning of longer ones, in new memory; the world only grows.
-/
import Derived.Test.YthgbfakmkdifbaaChecked
import Derived.WalkKit
import Derived.Test.YthgbfakmkdifbaaMatNew
import Derived.Test.YthgbfakmkdifbaaCopy
namespace Go.Proofs.Ythgbfakmkdifbaa
open Go.RowKit Go.Deep E
theorem sizeInt : (Try.prog.info? 3).map (·.size) = some 1 := by kernel_rfl
theorem Inn.wro {w0 wi w' : World} {B n m k : Nat} {R R' : Nat → E} {Z : Nat → Nat → E} {G : Nat → Nat} {g : Nat} (h : Inn w0 wi B n m k R Z G g) (hw : Wro (· = g) wi w') (hc : w'.rowIs g 3 m (evs R')) : Inn w0 w' B n m k R' Z G g :=
  ⟨Wro.after h.ext hw (fun i e => by rw [e]; exact h.new.1), hw.rowIs h.top (fun e => h.new.2 e.symm), fun r hr => hw.rowIs (h.row r hr) (h.old r hr).2.2, hc, h.old, h.new, h.inj⟩
/-- longer by zeros -/
def pad (l : Nat) (M : Nat → Nat → E) (r c : Nat) : E := if c < l then M r c else ze
set_option maxRecDepth 100000 in
set_option maxHeartbeats 800000 in
theorem copied_any (a : Option Addr) (n c l m : Nat) (A : Nat → Option Addr) (C : Nat → Nat) (M : Nat → Nat → E) (w : World) (hn : 1 ≤ n ∧ n ≤ 8) (hl : 1 ≤ l ∧ l ≤ m) (hm : m ≤ 16) (h : Mat w a n A (fun _ => l) C fun r i => ev (M r i)) :
    Calls Try.prog 93 #[.slice a n c, .int .i64 m] w fun e w' => e = .returned (.slice (some ⟨w.heap.size, 0, none⟩) n n) ∧ ∃ G, Bld w w' w.heap.size n m n (pad l M) G := by
  obtain ⟨b, o, rfl, hc⟩ := h.at (by omega)
  have HH : Hid (Mat w (some ⟨b, o, none⟩) n A (fun _ => l) C fun r i => ev (M r i)) := h
  have HC : Hid (∀ r, r < n → w.cell? ⟨b, o + r, none⟩ = some (.slice (A r) l (C r))) := hc
  clear h hc
  have hmk := make_rows n (by omega)
  have hmk' := make_ints m (by omega)
  go_enter Try.func93, Try.ntmps93
  go_wp2_with fail
  have h0 : Bld w (w.alloc (.cells (madeCells #[.slice none 0 0] n) 30)) w.heap.size n m 0 (pad l M) (fun _ => 0) := Bld.start w n m _ _
  generalize w.alloc (.cells (madeCells #[.slice none 0 0] n) 30) = w1 at *
  go_loopw [13] (fun i wr => ∃ k : Nat, k ≤ n ∧ i = .int .i64 k ∧ ∃ G, Bld w wr w.heap.size n m k (pad l M) G) (fun i _ => n - (intOf i).toNat)
  case atStart => exact ⟨0, Nat.zero_le _, rfl, _, h0⟩
  case round =>
    clear h0
    obtain ⟨k, hk, rfl, G, hb⟩ := hrel
    by_cases hlt : k < n
    · have hck := hb.top.cell hlt
      rw [if_neg (by omega)] at hck
      have hfk := hb.top.frozen k
      have hcm := hb.ext.keeps (HC.out k hlt)
      have hi := hb.next (Nat.le_refl _)
      have hlt2 := hb.top.lt
      have HI : Hid (Inn w ((wr.setCell ⟨w.heap.size, k, none⟩ (.slice (some ⟨wr.heap.size, 0, none⟩) m m)).alloc (.cells (madeCells #[.int .i64 0] m) 3)) w.heap.size n m k (fun _ => ze) (pad l M) G wr.heap.size) := hi
      clear hb hi
      go_wp2_with (refine copy_ints rfl (.tmp 26) (.tmp 27) 30 rfl 3 Try.underlying30 sizeInt wr.heap.size m m (A k) l (C k) rfl rfl _ HI.out.cur (fun i => ev (M k i)) ((HH.out.row hlt).ext HI.out.ext) hl.2 (by omega) ?_)
      intro w5 hr5 hw5
      have hi5 := HI.out.wro hw5 (R' := pad l M k) (hr5.congr fun i _ => by unfold evs pad; split <;> rfl)
      have H5 : Hid (Inn w w5 w.heap.size n m k (pad l M k) (pad l M) G wr.heap.size) := hi5
      clear hr5 hw5 hi5 HI
      go_wp2_with fail
      go_roundw
      case rel => exact ⟨k + 1, by omega, by go_num, _, H5.out.done⟩
      case measure => simp [intOf]; omega
    · obtain rfl : k = n := by omega
      go_wp2_with fail
      go_ret
      exact ⟨rfl, G, hb⟩
end Go.Proofs.Ythgbfakmkdifbaa
