/-
  span.Size and the document's own: how many numbers a set has; the memory grows alone.
-/
import Derived.Test.YtfpbiimjcdbaoaaChecked
import Derived.WalkKit
import Derived.BigQuiet
import Derived.Test.YtfpbiimjcdbaoaaSpanMath
import Derived.Test.YtfpbiimjcdbaoaaRefSMay
namespace Go.Proofs.Ytfpbiimjcdbaoaa
open Go.RowKit
theorem ret_intS {a b : Int} (h : a = b) : Ending.returned (.int .i64 a) = .returned (.int .i64 b) := by rw [h]
theorem szT_bd {L : List (Int × Int)} (hl : L.length ≤ 200) (h : ∀ r, r ∈ L → 0 ≤ r.1 ∧ r.1 < r.2 ∧ r.2 ≤ 1048576) (k : Nat) : 0 ≤ szL (L.take k) ∧ szL (L.take k) ≤ 209715200 := by
  have h1 := szL_bd (L.take k) fun r hr => h r (List.mem_of_mem_take hr)
  have h2 : (L.take k).length ≤ 200 := by rw [List.length_take]; omega
  omega
set_option maxRecDepth 100000 in
set_option maxHeartbeats 400000 in
theorem SpSize_any (a : Option Addr) (n c : Nat) (L : List (Int × Int)) (w : World) (hn : L.length = n) (hc : n ≤ 9223372036854775807) (h : Rngs w a L) (hb : Bdd L) :
    Calls Try.prog 13 #[.slice a n c] w fun e w' => e = .returned (.int .i64 (sizeV L)) ∧ Ext w w' := by
  have HH : Hid (Rngs w a L) := h
  have HB : Hid (Bdd L) := hb
  have HN : Hid (L.length = n) := hn
  clear h hb hn
  have HM := SpMay_any a n c L w HN.out hc HH.out HB.out
  cases hm : mayB L with
  | false =>
    have HV : Hid (sizeV L = 0) := by show _ = _; unfold sizeV; rw [hm]; rfl
    rw [hm] at HM
    go_enter Try.func13, Try.ntmps13
    go_wp2_with (first | (go_at_call 12; refine HM.mono ?_; rintro e w1 ⟨rfl, hx1⟩))
    go_ret
    exact ⟨ret_intS HV.out.symm, hx1⟩
  | true =>
    have HV : Hid (sizeV L = szL L) := by show _ = _; unfold sizeV; rw [hm]; rfl
    rw [hm] at HM
    obtain ⟨g1, _, g3⟩ := (mayB_iff L).1 hm
    have HG : Hid (∀ k, 0 ≤ szL (L.take k) ∧ szL (L.take k) ≤ 209715200) := fun k => szT_bd g1 g3 k
    have HG3 : Hid (∀ r, r ∈ L → 0 ≤ r.1 ∧ r.1 < r.2 ∧ r.2 ≤ 1048576) := g3
    clear g1 g3 hm
    go_enter Try.func13, Try.ntmps13
    go_wp2_with (first | (go_at_call 12; refine HM.mono ?_; rintro e w1 ⟨rfl, hx1⟩))
    clear HM
    go_loopw [3, 11] (fun s i wr => ∃ k : Nat, k ≤ n ∧ i = .int .i64 k ∧ s = .int .i64 (szL (L.take k)) ∧ Ext w wr) (fun _ i _ => n - (intOf i).toNat)
    case atStart => exact ⟨0, Nat.zero_le _, rfl, rfl, hx1⟩
    case round =>
      obtain ⟨k, hk, rfl, rfl, hx⟩ := hrel
      by_cases hlt : k < n
      · obtain ⟨⟨x, y⟩, h1, h2, h3⟩ := drop_at (L := L) (k := k) (by rw [HN.out]; exact hlt)
        obtain ⟨b, o, rfl, hc1, hc2⟩ := (HH.out.ext hx) k x y h1
        have gk := HG.out k
        have gr := HG3.out _ h3
        have HT : Hid (szL (L.take (k + 1)) = szL (L.take k) + (y - x)) := by
          show _ = _
          rw [take_at h1, szL_snoc]
        clear h1 h2 h3
        simp only at gr
        go_wp2_with fail
        go_roundw
        case rel => exact ⟨k + 1, by omega, by go_num, by rw [HT.out], hx.alloc _ _⟩
        case measure => simp [intOf]; omega
      · have e : L.take k = L := List.take_of_length_le (by rw [HN.out]; omega)
        have HE : Hid (szL (L.take k) = sizeV L) := by show _ = _; rw [e, HV.out]
        clear e
        go_wp2_with fail
        go_ret
        exact ⟨ret_intS HE.out, hx⟩
end Go.Proofs.Ytfpbiimjcdbaoaa
