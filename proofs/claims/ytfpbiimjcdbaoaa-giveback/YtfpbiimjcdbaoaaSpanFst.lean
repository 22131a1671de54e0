/-
  span.First and the document's own: the first range that is long enough; the memory grows alone.
-/
import Derived.Test.YtfpbiimjcdbaoaaChecked
import Derived.WalkKit
import Derived.BigQuiet
import Derived.Test.YtfpbiimjcdbaoaaSpanMath
import Derived.Test.YtfpbiimjcdbaoaaRefSMay
namespace Go.Proofs.Ytfpbiimjcdbaoaa
open Go.RowKit
/-- where it is, and what it comes to -/
def fV (L : List (Int × Int)) (k : Int) : Int := if mayB L && decide (1 ≤ k) then (fstL k L).getD 0 else 0
def fE (L : List (Int × Int)) (k : Int) : Int := if mayB L then (if 1 ≤ k then (if (fstL k L).isSome then 0 else 6) else 2) else 4
theorem ret_fS {a b c d : Int} (h : a = b) (k : c = d) : Ending.returned (.tuple #[.int .i64 a, .int .i64 c]) = .returned (.tuple #[.int .i64 b, .int .i64 d]) := by rw [h, k]
theorem SpFirst_may (a : Option Addr) (n c : Nat) (L : List (Int × Int)) (w : World) (hn : L.length = n) (hc : n ≤ 9223372036854775807) (h : Rngs w a L) (hb : Bdd L) :
    Calls Try.prog 12 #[.slice a n c] w fun e w' => e = .returned (.bool (mayB L)) ∧ Ext w w' := SpMay_any a n c L w hn hc h hb
set_option maxRecDepth 100000 in
set_option maxHeartbeats 400000 in
theorem SpFirst_any (a : Option Addr) (n c : Nat) (L : List (Int × Int)) (k : Int) (w : World) (hn : L.length = n) (hc : n ≤ 9223372036854775807) (h : Rngs w a L) (hb : Bdd L) :
    Calls Try.prog 15 #[.slice a n c, .int .i64 k] w fun e w' => e = .returned (.tuple #[.int .i64 (fV L k), .int .i64 (fE L k)]) ∧ Ext w w' := by
  have HH : Hid (Rngs w a L) := h
  have HN : Hid (L.length = n) := hn
  have HM := SpFirst_may a n c L w hn hc h hb
  clear h hn hb
  cases hm : mayB L with
  | false =>
    have HV : Hid (fV L k = 0 ∧ fE L k = 4) := by show _ ∧ _; unfold fV fE; rw [hm]; exact ⟨rfl, rfl⟩
    rw [hm] at HM
    go_enter Try.func15, Try.ntmps15
    go_wp2_with fail
    refine HM.mono ?_
    rintro e w1 ⟨rfl, hx1⟩
    go_wp2_with fail
    go_ret2
    exact ⟨ret_fS HV.out.1.symm HV.out.2.symm, hx1⟩
  | true =>
    rw [hm] at HM
    by_cases hk : 1 ≤ k
    · have HV : Hid (fV L k = (fstL k L).getD 0 ∧ fE L k = if (fstL k L).isSome then 0 else 6) := by show _ ∧ _; unfold fV fE; rw [hm, decide_eq_true hk, if_pos hk]; exact ⟨rfl, rfl⟩
      obtain ⟨_, _, g3⟩ := (mayB_iff L).1 hm
      have HG3 : Hid (∀ r, r ∈ L → 0 ≤ r.1 ∧ r.1 < r.2 ∧ r.2 ≤ 1048576) := g3
      clear g3 hm
      go_enter Try.func15, Try.ntmps15
      go_wp2_with fail
      refine HM.mono ?_
      rintro e w1 ⟨rfl, hx1⟩
      go_wp2_with fail
      clear HM
      go_loopw [15] (fun i wr => ∃ q : Nat, q ≤ n ∧ i = .int .i64 q ∧ Ext w wr ∧ fstL k (L.drop q) = fstL k L) (fun i _ => n - (intOf i).toNat)
      case atStart => exact ⟨0, Nat.zero_le _, rfl, hx1, rfl⟩
      case round =>
        obtain ⟨q, hq, rfl, hx, ho⟩ := hrel
        have HO : Hid (fstL k (L.drop q) = fstL k L) := ho
        clear ho
        by_cases hlt : q < n
        · obtain ⟨⟨x, y⟩, h1, h2, h3⟩ := drop_at (L := L) (k := q) (by rw [HN.out]; exact hlt)
          obtain ⟨b, o, rfl, hc1, hc2⟩ := (HH.out.ext hx) q x y h1
          have H2 : Hid (fstL k L = if k ≤ y - x then some x else fstL k (L.drop (q + 1))) := by
            show _ = _
            rw [← HO.out, h2]
            rfl
          have gr := HG3.out _ h3
          clear h1 h2 h3
          simp only at gr
          by_cases l1 : k ≤ y - x
          · go_wp2_with fail
            go_ret2
            refine ⟨ret_fS ?_ ?_, hx.alloc _ _⟩
            · rw [HV.out.1, H2.out, if_pos l1]; rfl
            · rw [HV.out.2, H2.out, if_pos l1]; rfl
          · go_wp2_with fail
            go_roundw
            case rel => exact ⟨q + 1, by omega, by go_num, hx.alloc _ _, by rw [H2.out, if_neg (by omega)]⟩
            case measure => simp [intOf]; omega
        · have e : L.drop q = [] := List.drop_eq_nil_of_le (by rw [HN.out]; omega)
          have ho := HO.out
          rw [e] at ho
          have HO' : Hid (fstL k L = none) := ho.symm
          clear ho HO e
          go_wp2_with fail
          go_ret2
          exact ⟨ret_fS (by rw [HV.out.1, HO'.out]; rfl) (by rw [HV.out.2, HO'.out]; rfl), hx⟩
    · have HV : Hid (fV L k = 0 ∧ fE L k = 2) := by show _ ∧ _; unfold fV fE; rw [hm, decide_eq_false hk, if_neg hk]; exact ⟨rfl, rfl⟩
      go_enter Try.func15, Try.ntmps15
      go_wp2_with fail
      refine HM.mono ?_
      rintro e w1 ⟨rfl, hx1⟩
      go_wp2_with fail
      go_ret2
      exact ⟨ret_fS HV.out.1.symm HV.out.2.symm, hx1⟩
end Go.Proofs.Ytfpbiimjcdbaoaa
