/-
  quicksetkeep.side and MatrixOf: a matrix of so many rows and columns, of elements; the world only grows.
-/
import Derived.Test.YtfnocamooapajaaChecked
import Derived.WalkKit
import Derived.BigQuiet
import Derived.Test.YtfnocamooapajaaKeepPick
import Derived.Test.YtfnocamooapajaaMake
import Derived.Test.YtfnocamooapajaaOwn
import Derived.Test.YtfnocamooapajaaLin
import Derived.Test.YtfnocamooapajaaQuietTail
import Derived.Test.YtfnocamooapajaaKeepMatBase
namespace Go.Proofs.Ytfnocamooapajaa
open Go.RowKit Go.Deep E
set_option maxRecDepth 100000 in
theorem kside_any (a : Int) (w : World) (ha : -9223372036854775808 ≤ a ∧ a ≤ 9223372036854775807) :
    Calls Try.prog 22 #[.int .i64 a] w fun e w' => e = .returned (.int .i64 ((1 + (a % 8).toNat : Nat) : Int)) ∧ w' = w := by
  have h1 := Int.emod_nonneg a (show (8 : Int) ≠ 0 by omega)
  have h2 := Int.emod_lt_of_pos a (show (0 : Int) < 8 by omega)
  go_enter Try.func22, Try.ntmps22
  go_wp2_with fail
  refine (Picked_any a 8 w (by omega) (by omega) ha.1 ha.2).mono ?_
  rintro e w' ⟨rfl, rfl⟩
  go_wp2_with fail
  go_ret
  exact ⟨ret_int (by omega), rfl⟩
set_option maxRecDepth 100000 in
set_option maxHeartbeats 800000 in
theorem MatrixOf_any (a : Option Addr) (n c : Nat) (f : Nat → Int) (R m : Nat) (w : World) (hR : R ≤ 8) (hm : m ≤ 8) (hn : n ≤ 9223372036854775807) (h : Ints w a n f) (hf : ∀ i, i < n → -9223372036854775808 ≤ f i ∧ f i ≤ 9223372036854775807) :
    Calls Try.prog 21 #[.slice a n c, .int .i64 R, .int .i64 m] w fun e w' => (∃ M, MatVal w' e R m M) ∧ Ext w w' := by
  have HH : Hid (Ints w a n f) := h
  have HF : Hid (∀ i, i < n → -9223372036854775808 ≤ f i ∧ f i ≤ 9223372036854775807) := hf
  clear h hf
  go_enter Try.func21, Try.ntmps21
  go_wp2_with fail
  go_loopw [7, 8] (fun v i wr => ∃ k : Nat, k ≤ R ∧ i = .int .i64 k ∧ ∃ V M, MOf w wr v k m V M) (fun _ i _ => R - (intOf i).toNat)
  case atStart => exact ⟨0, Nat.zero_le _, rfl, fun _ => .int .i64 0, fun _ _ => ze, Ext.refl _, World.ownsRow_nil _ _ _ _, fun s hs => by omega⟩
  case round =>
    obtain ⟨i, hi, rfl, V, M, hmo⟩ := hrel
    have hx := hmo.ext
    have HMO : Hid (MOf w wr u7 i m V M) := hmo
    clear hmo
    by_cases hlt : i < R
    · generalize hw0 : wr = wr0 at *
      go_wp2_with fail
      go_loopw [9, 10] (fun v i wi => ∃ k : Nat, k ≤ m ∧ i = .int .i64 k ∧ Ext wr0 wi ∧ ∃ r : Nat → E, wi.ownsRow wr0.heap.size 3 1 v k ((List.range k).map fun x => .int .i64 (ev (r x)))) (fun _ i _ => m - (intOf i).toNat)
      case atStart => exact ⟨0, Nat.zero_le _, rfl, Ext.refl _, fun _ => ze, World.ownsRow_nil _ _ _ _⟩
      case round =>
        obtain ⟨k, hk, rfl, hxi, r, hown⟩ := hrel
        by_cases hkt : k < m
        · by_cases hn0 : 0 < n
          · have hnb : (0 : Int) < (n : Int) := by omega
            have hq1 : i * m ≤ 64 := Nat.mul_le_mul (show i ≤ 8 by omega) hm
            have hq : (0 : Int) ≤ (i : Int) * (m : Int) ∧ (i : Int) * (m : Int) ≤ 64 := by
              have e : (i : Int) * (m : Int) = ((i * m : Nat) : Int) := by rw [Int.natCast_mul]
              rw [e]; omega
            obtain ⟨q, hqe, hqn⟩ : ∃ q : Nat, ((i : Int) * (m : Int) + (k : Int)) % (n : Int) = q ∧ q < n := by
              have h1 := Int.emod_nonneg ((i : Int) * (m : Int) + (k : Int)) (show (n : Int) ≠ 0 by omega)
              have h2 := Int.emod_lt_of_pos ((i : Int) * (m : Int) + (k : Int)) hnb
              exact ⟨(((i : Int) * (m : Int) + (k : Int)) % (n : Int)).toNat, by omega, by omega⟩
            obtain ⟨d, hde, hdn⟩ : ∃ d : Nat, ((i : Int) * (m : Int) + (k : Int)) / (n : Int) = d ∧ d ≤ 100 := by
              have h1 : 0 ≤ ((i : Int) * (m : Int) + (k : Int)) / (n : Int) := Int.ediv_nonneg (by omega) (by omega)
              have h2 : ((i : Int) * (m : Int) + (k : Int)) / (n : Int) ≤ (i : Int) * (m : Int) + (k : Int) := Int.ediv_le_self _ (by omega)
              exact ⟨(((i : Int) * (m : Int) + (k : Int)) / (n : Int)).toNat, by omega, by omega⟩
            obtain ⟨b, o, rfl, hcq⟩ := (HH.out.ext (hx.trans hxi)) q hqn
            have gC := fun x : Gr wr => x.ext.keeps hcq
            have hz : ((1 : Int) + (d : Int) == 0) = false := by rw [beq_eq_false_iff_ne]; omega
            clear hcq
            go_wp2_with fail
            refine wp_region_grows 21 (by kernel_rfl) (by kernel_rfl) (fun hne => ?_)
            simp only [List.take_succ_cons, List.take_zero, List.drop_succ_cons, List.drop_zero]
            repeat (go_big_quiet_step (fail))
            refine wpQuiet_nil ?_
            intro w4 hw4
            obtain ⟨x, rfl⟩ := hw4
            have hx4 := hxi.trans x.ext
            have HO4 : Hid (x.w'.ownsRow wr0.heap.size 3 1 u9 k ((List.range k).map fun x => .int .i64 (ev (r x)))) := own_ext hown x.ext
            clear gC hown
            generalize x.w' = w4 at *
            go_wp2_with fail
            have hwb := wrap64_bd ((f q).tdiv (1 + d))
            generalize wrap64 ((f q).tdiv (1 + d)) = z at *
            refine (Picked_any z 256 _ (by omega) (by omega) hwb.1 hwb.2).mono ?_
            rintro e w' ⟨rfl, rfl⟩
            obtain ⟨ex, hex⟩ : ∃ ex : E, z % 256 = ev ex := ⟨of (z % 256), (ev_of _ (Int.emod_nonneg z (by omega)) (Int.emod_lt_of_pos z (by omega))).symm⟩
            rw [hex]
            clear hex
            go_wp2_with (first | (at_builtin; refine append_one w' rfl _ _ 28 rfl wr0.heap.size 3 (.int .i64 0) 8 Try.underlying28 infoInt rfl u9 k _ rfl HO4.out (.int .i64 (ev ex)) 1 rfl rfl (by omega) (by omega) hx4.size ?_) | go_in)
            intro v' w5 hown' hgrow
            have R := row_next hx4 HO4.out hown' hgrow
            have R1 : Hid _ := R
            clear hown' hgrow R
            go_wp2_with fail
            go_roundw
            case rel => exact ⟨k + 1, by omega, by go_num, R1.out.1, R1.out.2⟩
            case measure => simp [intOf]; omega
          · have hnb : ¬ (0 : Int) < (n : Int) := by omega
            have hx4 := hxi
            have HO4 : Hid (wr.ownsRow wr0.heap.size 3 1 u9 k ((List.range k).map fun x => .int .i64 (ev (r x)))) := hown
            clear hown
            go_wp2_with (first | (at_builtin; refine append_one wr rfl _ _ 28 rfl wr0.heap.size 3 (.int .i64 0) 8 Try.underlying28 infoInt rfl u9 k _ rfl HO4.out (.int .i64 0) 1 rfl rfl (by omega) (by omega) hx4.size ?_) | go_in)
            intro v' w5 hown' hgrow
            have R := row_next (x := ze) hx4 HO4.out hown' hgrow
            have R1 : Hid _ := R
            clear hown' hgrow R
            go_wp2_with fail
            go_roundw
            case rel => exact ⟨k + 1, by omega, by go_num, R1.out.1, R1.out.2⟩
            case measure => simp [intOf]; omega
        · obtain rfl : k = m := by omega
          obtain ⟨a9, c9, rfl, hc9⟩ := own_slice hown
          have hmo := HMO.out.ext' hxi
          have hrow := own_mono hown hx.size
          have HM2 : Hid (MOf w wr u7 i k V M) := hmo
          have HT2 : Hid (wr.ownsRow w.heap.size 28 1 u7 i ((List.range i).map V)) := hmo.top
          have HRO : Hid (wr.ownsRow w.heap.size 3 1 (.slice a9 k c9) k ((List.range k).map fun x => .int .i64 (ev (r x)))) := hrow
          have hsz := hmo.ext.size
          clear hmo hrow hown hc9
          go_wp2_with (first | (at_builtin; refine append_one wr rfl _ _ 22 rfl w.heap.size 28 (.slice none 0 0) 24 Try.underlying22 infoInts rfl u7 i _ rfl HT2.out (.slice a9 k c9) 1 rfl rfl (by omega) (by omega) hsz ?_) | go_in)
          intro v' w5 hown' hgrow
          have RR := HM2.out.next HRO.out hown' hgrow
          have R1 : Hid _ := RR
          clear hown' hgrow RR
          go_wp2_with fail
          go_roundw
          case rel =>
            obtain ⟨V1, h1⟩ := R1.out
            exact ⟨i + 1, by omega, by go_num, V1, _, h1⟩
          case measure => simp [intOf]; omega
    · obtain rfl : i = R := by omega
      obtain ⟨a9, c9, A9, C9, rfl, hm9⟩ := HMO.out.mat
      have H9 : Hid (Mat wr a9 i A9 (fun _ => m) C9 fun r i => ev (M r i)) := hm9
      clear hm9
      go_wp2_with fail
      go_ret
      exact ⟨⟨M, a9, c9, A9, C9, rfl, H9.out⟩, hx⟩
end Go.Proofs.Ytfnocamooapajaa
