/-
  par.Encode at every list of columns and every number: what it tells, as plain functions; the world only grows.
-/
import Derived.Test.YthgbfakmkdifbaaChecked
import Derived.WalkKit
import Derived.Test.YthgbfakmkdifbaaParMay
import Derived.Test.YthgbfakmkdifbaaParAdd
import Derived.Test.YthgbfakmkdifbaaByb
namespace Go.Proofs.Ythgbfakmkdifbaa
open Go.RowKit Go.Deep E
def encOk (n : Nat) (L : Nat → Nat) (p : Int) : Bool := pmayB n L && fromTo 1 3 p
def encN (n : Nat) (L : Nat → Nat) (p : Int) : Nat := if encOk n L p then p.toNat else 0
def encE (n : Nat) (L : Nat → Nat) (p : Int) : Int := if pmayB n L then if fromTo 1 3 p then 0 else 2 else 4
/-- what Encode told, and that its list is its own, with no room to spare -/
def EncRes (w w' : World) (e : Ending) (n m : Nat) (D : Nat → Nat → E) (err : Int) : Prop :=
  ColsRes w' e n m D err ∧ (0 < n → ∃ B G, e = .returned (.tuple #[.slice (some ⟨B, 0, none⟩) n n, .int .i64 err]) ∧ BldB w w' B n m n D G ∧ w.heap.size ≤ B)
theorem EncRes.none (w w' : World) (m : Nat) (D : Nat → Nat → E) (err : Int) : EncRes w w' (.returned (.tuple #[.slice none 0 0, .int .i64 err])) 0 m D err := ⟨ColsRes.none _ _ _ _, fun h => by omega⟩
set_option maxRecDepth 100000 in
set_option maxHeartbeats 800000 in
theorem Encode_own (a : Option Addr) (n c : Nat) (A : Nat → Option Addr) (L C : Nat → Nat) (F : Nat → Nat → E) (p : Int) (w : World) (hn : n ≤ 9223372036854775807) (h : Cols w a n A L C F) :
    Calls Try.prog 23 #[.slice a n c, .int .i64 p] w fun e w' => EncRes w w' e (encN n L p) (L 0) (enc n F) (encE n L p) ∧ Ext w w' := by
  have HH : Hid (Cols w a n A L C F) := h
  clear h
  go_enter Try.func23, Try.ntmps23
  go_wp2_with fail
  refine (pMay_any a n c A L C F _ hn HH.out).mono ?_
  rintro e w1 ⟨rfl, hx1⟩
  cases hM : pmayB n L
  · go_wp2_with fail
    go_ret2
    unfold encN encE encOk
    rw [hM]
    exact ⟨EncRes.none _ _ _ _ _, hx1⟩
  · go_wp2_with fail
    refine (mayParity_any p _).mono ?_
    rintro e w2 ⟨rfl, rfl⟩
    cases hP : fromTo 1 3 p
    · go_wp2_with fail
      go_ret2
      unfold encN encE encOk
      rw [hM, hP]
      exact ⟨EncRes.none _ _ _ _ _, hx1⟩
    · have hpb := fromTo_bd hP
      obtain ⟨q, rfl⟩ := Int.eq_ofNat_of_zero_le (show 0 ≤ p by omega)
      have hnb : 1 ≤ n ∧ n ≤ 12 ∧ alikeB n L = true := by
        unfold pmayB at hM
        rw [Bool.and_eq_true] at hM
        have := fromTo_bd hM.1
        exact ⟨by omega, by omega, hM.2⟩
      have HA : Hid (alikeB n L = true) := hnb.2.2
      have hm := (alikeB_of hnb.2.2 (r := 0) (by omega)).2
      obtain ⟨hn1, hn2, _⟩ := hnb
      have hmk := make_cols q (by omega)
      go_wp2_with fail
      clear hmk
      have h0 := BldB.start w2 q (L 0) (enc n F) (fun _ => 0)
      generalize w2.alloc (.cells (madeCells #[.slice none 0 0] q) 22) = w3 at *
      go_loopw [18] (fun i wr => ∃ k : Nat, k ≤ q ∧ i = .int .i64 k ∧ ∃ G, BldB w2 wr w2.heap.size q (L 0) k (enc n F) G) (fun i _ => q - (intOf i).toNat)
      case atStart => exact ⟨0, Nat.zero_le _, rfl, _, h0⟩
      case round =>
        clear h0
        obtain ⟨k, hk, rfl, G, hb⟩ := hrel
        by_cases hlt : k < q
        · have HB : Hid (BldB w2 wr w2.heap.size q (L 0) k (enc n F) G) := hb
          clear hb
          go_wp2_with fail
          refine (encoded_any a n c A L C F k (L 0) _ ⟨hn1, by omega⟩ (by omega) (by omega) (HH.out.ext (hx1.trans HB.out.ext)) (fun r hr => (alikeB_of HA.out hr).1)).mono ?_
          rintro e w4 ⟨rfl, hr4, hx4⟩
          have HB4 := HB.out.grow hx4
          have hck := HB4.top.cell hlt
          rw [if_neg (by omega)] at hck
          have hfk := HB4.top.frozen k
          have HN : Hid (BldB w2 (w4.setCell ⟨w2.heap.size, k, none⟩ (.slice (some ⟨wr.heap.size, 0, none⟩) (L 0) (L 0))) w2.heap.size q (L 0) (k + 1) (enc n F) (fun r => if r = k then wr.heap.size else G r)) := HB.out.put (Nat.le_refl _) hx4 (Nat.le_refl _) hr4
          clear HB4 hr4 HB
          go_wp2_with fail
          go_roundw
          case rel => exact ⟨k + 1, by omega, by go_num, _, HN.out⟩
          case measure => simp [intOf]; omega
        · obtain rfl : k = q := by omega
          have HR : Hid (EncRes w wr (.returned (.tuple #[.slice (some ⟨w2.heap.size, 0, none⟩) k k, .int .i64 0])) k (L 0) (enc n F) 0) := ⟨⟨_, _, _, _, rfl, hb.cols⟩, fun _ => ⟨_, G, rfl, hb.back hx1, hx1.size⟩⟩
          have hx5 := hx1.trans hb.ext
          clear hb
          go_wp2_with fail
          go_ret2
          unfold encN encE encOk
          rw [hM, hP]
          exact ⟨HR.out, hx5⟩
theorem Encode_any (a : Option Addr) (n c : Nat) (A : Nat → Option Addr) (L C : Nat → Nat) (F : Nat → Nat → E) (p : Int) (w : World) (hn : n ≤ 9223372036854775807) (h : Cols w a n A L C F) :
    Calls Try.prog 23 #[.slice a n c, .int .i64 p] w fun e w' => ColsRes w' e (encN n L p) (L 0) (enc n F) (encE n L p) ∧ Ext w w' :=
  (Encode_own a n c A L C F p w hn h).mono fun _ _ hh => ⟨hh.1.1, hh.2⟩
end Go.Proofs.Ythgbfakmkdifbaa
