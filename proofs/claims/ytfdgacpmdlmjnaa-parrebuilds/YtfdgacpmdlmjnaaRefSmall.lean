/-
  quicksetref.solved of a matrix of up to four rows that can be inverted: what solves it, by determinants; the world only grows.
-/
import Derived.Test.YtfdgacpmdlmjnaaChecked
import Derived.WalkKit
import Derived.BigQuiet
import Derived.Test.YtfdgacpmdlmjnaaRefDet
import Derived.Test.YtfdgacpmdlmjnaaMatBase
namespace Go.Proofs.Ytfdgacpmdlmjnaa
open Go.RowKit Go.Deep E
theorem OwnC.mat {w : World} {B n m : Nat} {G Cp : Nat → Nat} {M : Nat → Nat → E} (h : OwnC w B n m G Cp M) : Mat w (some ⟨B, 0, none⟩) n (fun r => some ⟨G r, 0, none⟩) (fun _ => m) Cp fun r i => ev (M r i) := fun r hr =>
  ⟨⟨B, 0, rfl, by rw [Nat.zero_add]; exact h.top.cell hr⟩, Ints.mk fun i hi => by rw [Nat.zero_add]; exact (h.row r hr).cell hi⟩
/-- a list of numbers in new memory is told -/
def ListRes (w w' : World) (e : Ending) (n : Nat) (f : Nat → Int) : Prop := ∃ b c, e = .returned (.slice (some ⟨b, 0, none⟩) n c) ∧ w.heap.size ≤ b ∧ Ints w' (some ⟨b, 0, none⟩) n f
/-- in column i the first k places are those of v -/
def colK (k i : Nat) (M : Nat → Nat → E) (v : Nat → E) (r c : Nat) : E := if c = i ∧ r < k then v r else M r c
theorem colK_put (k i : Nat) (M : Nat → Nat → E) (v : Nat → E) : put1 (colK k i M v) k i (v k) = colK (k + 1) i M v := by
  funext r c
  unfold put1 colK
  by_cases e : r = k ∧ c = i
  · rw [if_pos e, if_pos ⟨e.2, by omega⟩, e.1]
  · rw [if_neg e]
    by_cases e2 : c = i ∧ r < k
    · rw [if_pos e2, if_pos ⟨e2.1, by omega⟩]
    · rw [if_neg e2, if_neg (fun h => by
        by_cases e3 : r = k
        · exact e ⟨e3, h.1⟩
        · exact e2 ⟨h.1, by omega⟩)]
set_option maxRecDepth 100000 in
set_option maxHeartbeats 3200000 in
theorem solved_small (a : Option Addr) (n c : Nat) (A : Nat → Option Addr) (C : Nat → Nat) (M : Nat → Nat → E) (a' : Option Addr) (c' : Nat) (v : Nat → E) (w : World) (hn : 1 ≤ n ∧ n ≤ 4) (h : Mat w a n A (fun _ => n) C fun r i => ev (M r i)) (hC : ∀ r, r < n → n ≤ C r)
    (hv : Ints w a' n fun i => ev (v i)) (hr : (redTo n M n).2 = n) :
    Calls Try.prog 36 #[.slice a n c, .slice a' n c'] w fun e w' => ListRes w w' e n (fun i => ev (sol n M v i)) ∧ Ext w w' := by
  obtain ⟨b, o, rfl, hvc⟩ := hv.at (by omega)
  have HH : Hid (Mat w a n A (fun _ => n) C fun r i => ev (M r i)) := h
  have HV : Hid (∀ i, i < n → w.cell? ⟨b, o + i, none⟩ = some (.int .i64 (ev (v i)))) := hvc
  have HCC : Hid (∀ r, r < n → n ≤ C r) := hC
  have HCR : Hid (detE n M ≠ ze ∧ ∀ i, i < n → mu (detE n fun r c => if c = i then v r else M r c) (iv (detE n M)) = sol n M v i) := cramer hr
  clear h hvc hC hv hr
  have hmk := make_ints n (by omega)
  go_enter Try.func36, Try.ntmps36
  go_wp2_with fail
  refine (det_any n (by omega) (by omega) a c A C M _ HH.out HCC.out).mono ?_
  rintro e w1 ⟨rfl, hx1⟩
  go_wp2_with fail
  clear hmk
  have hx0 : Ext w (w1.alloc (.cells (madeCells #[.int .i64 0] n) 3)) := hx1.alloc _ _
  have hr0 : (w1.alloc (.cells (madeCells #[.int .i64 0] n) 3)).rowIs w1.heap.size 3 n (fun j => .int .i64 (made 0 (fun i => ev (sol n M v i)) j)) := World.rowIs_made w1 (.int .i64 0) n 3
  have hsz := hx1.size
  generalize (w1.alloc (.cells (madeCells #[.int .i64 0] n) 3)) = w3 at *
  generalize w1.heap.size = ob at *
  clear hx1
  go_loopw [32] (fun ii wr => ∃ i : Nat, i ≤ n ∧ ii = .int .i64 i ∧ Ext w wr ∧ wr.rowIs ob 3 n (fun j => .int .i64 (made i (fun i => ev (sol n M v i)) j))) (fun ii _ => n - (intOf ii).toNat)
  case atStart => exact ⟨0, Nat.zero_le _, rfl, hx0, hr0⟩
  case round =>
    clear hx0 hr0
    obtain ⟨i, hi, rfl, hx, hro⟩ := hrel
    by_cases hlt : i < n
    · have HRO : Hid (wr.rowIs ob 3 n (fun j => .int .i64 (made i (fun i => ev (sol n M v i)) j))) := hro
      clear hro
      generalize hw0 : wr = wr0 at *
      clear hw0
      go_wp2_with fail
      refine (ownMatrix_any _ n c n A C M _ ⟨hn.1, by omega⟩ ⟨hn.1, by omega⟩ (HH.out.ext hx)).mono ?_
      rintro e w2 ⟨⟨B, cB, G0, Cp0, rfl, hown, hB0, hG0⟩, hx2⟩
      have HS0 : Hid (CSt w2 w2 B n n G0 G0 Cp0 M) := CSt.start hown
      have HBL : Hid (∀ x, BlkC n B G0 x → wr0.heap.size ≤ x) := fun x hx => by
        rcases hx with rfl | ⟨r, hr, rfl⟩
        · exact hB0
        · exact (hG0 r hr).1
      have HCP : Hid (∀ r, r < n → n ≤ Cp0 r) := fun r hr => (hG0 r hr).2.1
      have HX2 : Hid (Ext wr0 w2) := hx2
      clear hown hB0 hG0 hx2
      go_wp2_with fail
      go_loopw [39] (fun kk wi => ∃ k : Nat, k ≤ n ∧ kk = .int .i64 k ∧ CSt w2 wi B n n G0 G0 Cp0 (colK k i M v)) (fun kk _ => n - (intOf kk).toNat)
      case atStart => exact ⟨0, Nat.zero_le _, rfl, HS0.out.congr fun r _ c _ => (if_neg (by omega)).symm⟩
      case round =>
        clear HS0
        obtain ⟨k, hk, rfl, hst⟩ := hrel
        have hxw : Ext wr0 wr := Wro.after HX2.out hst.wro HBL.out
        by_cases hkt : k < n
        · have gA := fun x : Gr wr => x.ext.keeps (hst.own.top.cell hkt)
          have gB := fun x : Gr wr => x.ext.keeps ((hx.trans hxw).keeps (HV.out k hkt))
          have HST : Hid (CSt w2 wr B n n G0 G0 Cp0 (colK k i M v)) := hst
          clear hst
          go_wp2_with fail
          refine wp_region_grows 10 (by kernel_rfl) (by kernel_rfl) (fun hne => ?_)
          simp only [List.take_succ_cons, List.take_zero, List.drop_succ_cons, List.drop_zero]
          repeat (go_big_quiet_step (fail))
          refine wpQuiet_nil ?_
          intro w4 hw4
          obtain ⟨x, rfl⟩ := hw4
          have hr9 := HST.out.grow x.ext
          have hcx := (hr9.own.row k hkt).cell hlt
          have hfx := (hr9.own.row k hkt).frozen i
          have HR9 : Hid (CSt w2 x.w' B n n G0 G0 Cp0 (colK k i M v)) := hr9
          clear gA gB HST hr9
          go_wp2_with fail
          go_roundw
          case rel =>
            refine ⟨k + 1, by omega, by go_num, ?_⟩
            have h6 := HR9.out.put hkt i (v k)
            rw [colK_put] at h6
            exact h6
          case measure => simp [intOf]; omega
        · obtain rfl : k = n := by omega
          have HST : Hid (CSt w2 wr B k k G0 G0 Cp0 fun r c => if c = i then v r else M r c) := hst.congr fun r hr c _ => by
            unfold colK
            by_cases e : c = i
            · rw [if_pos ⟨e, hr⟩, if_pos e]
            · rw [if_neg (fun h => e h.1), if_neg e]
          have HRW : Hid (wr.rowIs ob 3 k (fun j => .int .i64 (made i (fun i => ev (sol k M v i)) j))) := HRO.out.of_block (hxw.below.block ob HRO.out.lt)
          clear hst HRO
          go_wp2_with fail
          refine (det_any k (by omega) (by omega) _ _ _ Cp0 _ _ HST.out.own.mat HCP.out).mono ?_
          rintro e w5 ⟨rfl, hx5⟩
          go_wp2_with fail
          refine (divOf_ev _ (detE k M) HCR.out.1 _).mono ?_
          rintro e w6 ⟨rfl, rfl⟩
          have HR6 : Hid (w6.rowIs ob 3 k (fun j => .int .i64 (made i (fun i => ev (sol k M v i)) j))) := HRW.out.of_block (hx5.below.block ob HRW.out.lt)
          have hc6 := HR6.out.cell hlt
          have hf6 := HR6.out.frozen i
          have hx6 := (hx.trans hxw).trans hx5
          clear HRW hx5 hxw
          go_wp2_with fail
          go_roundw
          case rel =>
            refine ⟨i + 1, by omega, by go_num, hx6.setCell (p := ⟨ob, i, none⟩) hsz _, ?_⟩
            have h6 := HR6.out.set i (.int .i64 (ev (sol k M v i)))
            rw [made_next i fun i => ev (sol k M v i)] at h6
            rw [HCR.out.2 i hlt]
            exact h6
          case measure => simp [intOf]; omega
    · obtain rfl : i = n := by omega
      have HRO : Hid (ListRes w wr (.returned (.slice (some ⟨ob, 0, none⟩) i i)) i fun j => ev (sol i M v j)) := ⟨_, _, rfl, hsz, (Ints.row hro).congr fun j hj => if_pos hj⟩
      clear hro
      go_wp2_with fail
      go_ret
      exact ⟨HRO.out, hx⟩
end Go.Proofs.Ytfdgacpmdlmjnaa
