/-
  label.readSum; the world only grows.
-/
import Derived.Test.YtemndnpbbkjmhabLabSum
namespace Go.Proofs.Ytemndnpbbkjmhab
open Go.RowKit Go.Deep E
/-- the k-th number of eight bytes -/
def rd8 (B : Nat → E) (k : Nat) : Int := wrap64 (rdN (fun i => B (8 * k + i)) 8)
def rdK (B : Nat → E) (k i : Nat) : Int := if i < k then rd8 B i else 0
theorem rdK_put (B : Nat → E) (k : Nat) (v : Int) (hv : v = rd8 B k) (i : Nat) : (if i = k then Value.int .i64 v else ivs (rdK B k) i) = ivs (rdK B (k + 1)) i := by
  unfold ivs rdK
  by_cases e : i = k
  · subst e
    rw [if_pos rfl, if_pos (by omega), hv]
  · rw [if_neg e]
    by_cases l : i < k
    · rw [if_pos l, if_pos (by omega)]
    · rw [if_neg l, if_neg (by omega)]
set_option maxRecDepth 100000 in
set_option maxHeartbeats 4000000 in
theorem readSum_any (b o m c : Nat) (B : Nat → E) (w : World) (hm : 32 ≤ m ∧ m ≤ c) (h : ∀ i, i < 32 → w.cell? ⟨b, o + i, none⟩ = some (.int .u8 (ev (B i)))) :
    Calls Try.prog 19 #[.slice (some ⟨b, o, none⟩) m c] w fun e w' => e = .returned (.agg #[.int .i64 (rd8 B 0), .int .i64 (rd8 B 1), .int .i64 (rd8 B 2), .int .i64 (rd8 B 3)]) ∧ Ext w w' := by
  have HB : Hid (∀ i, i < 32 → w.cell? ⟨b, o + i, none⟩ = some (.int .u8 (ev (B i)))) := h
  clear h
  go_enter Try.func19, Try.ntmps19
  go_wp2_with fail
  refine (sums_any (w.heap.size + 1) _).mono ?_
  rintro e w1 ⟨rfl, hx1⟩
  have X1 : Hid (Ext w w1) := (((Ext.refl _).alloc _ _).alloc _ _).trans hx1
  have T1 : Hid (w1.rowIs w.heap.size 24 4 (ivs fun _ => 0)) := hx1.rowIs ((row4_alloc w 24 (ivs fun _ => 0)).alloc _)
  have S1 : Hid (w1.rowIs (w.heap.size + 1) 24 4 (ivs (rdK B 0))) := by
    have := row4_alloc (w.alloc (.cells #[.int .i64 0, .int .i64 0, .int .i64 0, .int .i64 0] 24)) 24 (ivs (rdK B 0))
    simp only [World.size_alloc] at this
    exact hx1.rowIs this
  clear hx1
  go_wp2_with fail
  go_loopw [7] (fun i wr => ∃ k : Nat, k ≤ 4 ∧ i = .int .i64 k ∧ Wro (· = w.heap.size + 1) w1 wr ∧ wr.rowIs (w.heap.size + 1) 24 4 (ivs (rdK B k))) (fun i _ => 4 - (intOf i).toNat)
  case atStart => exact ⟨0, Nat.zero_le _, rfl, Wro.refl _ _, S1.out⟩
  case round =>
    obtain ⟨k, hk, rfl, hx, hr⟩ := hrel
    have HR : Hid (wr.rowIs (w.heap.size + 1) 24 4 (ivs (rdK B k))) := hr
    have XW : Hid (Ext w wr) := Wro.after X1.out hx (fun i hi => by omega)
    clear hr S1
    by_cases hlt : k < 4
    · obtain ⟨p, hp⟩ : ∃ p : Nat, p = 8 * k := ⟨_, rfl⟩
      have hslk := sub_lh (P := Try.prog) Try.underlying22 size8 (some ⟨b, o, none⟩) m c p 8 (by omega) (p : Int) ((p : Int) + 8) rfl (by omega)
      rw [subA_some (by omega)] at hslk
      have hix := index_arr (P := Try.prog) Try.underlying65 Try.underlying52 (by kernel_rfl) #[.pointer (some ⟨w.heap.size + 1, 0, none⟩), .pointer (some ⟨w.heap.size + 1, 1, none⟩), .pointer (some ⟨w.heap.size + 1, 2, none⟩), .pointer (some ⟨w.heap.size + 1, 3, none⟩)] k hlt (.pointer (some ⟨w.heap.size + 1, k, none⟩)) (by
        match k, hlt with
    | 0, _ => rfl
    | 1, _ => rfl
    | 2, _ => rfl
    | 3, _ => rfl)
      have hw1 : IntKind.i64.wrap ((k : Int) * 8) = (p : Int) := by rw [IntKind.wrap_i64]; omega
      have hw2 : IntKind.i64.wrap ((k : Int) + 1) = (k : Int) + 1 := by rw [IntKind.wrap_i64]; omega
      have hw3 : IntKind.i64.wrap (((k : Int) + 1) * 8) = (p : Int) + 8 := by rw [IntKind.wrap_i64]; omega
      have hw4 : (k : Int) * 8 = (p : Int) := by omega
      have hw5 : ((k : Int) + 1) * 8 = (p : Int) + 8 := by omega
      have HP : Hid (p = 8 * k) := hp
      have hpb : p + 8 ≤ 32 := by omega
      clear hp
      go_wp2_with fail
      refine (read_any b (o + p) 8 _ (fun i => B (p + i)) _ (by omega) fun i hi => ?_).mono ?_
      · rw [Nat.add_assoc]
        exact XW.out.keeps (HB.out (p + i) (by omega))
      rintro e w3 ⟨rfl, hx3⟩
      have hck := (hx3.rowIs HR.out).cell (i := k) hlt
      have hfk := (hx3.rowIs HR.out).frozen k
      rw [show ivs (rdK B k) k = .int .i64 0 by unfold ivs rdK; rw [if_neg (by omega)]] at hck
      clear hw1 hw2 hw3 hw4 hw5 hix hslk
      go_wp2_with fail
      go_roundw
      case rel =>
        refine ⟨k + 1, by omega, by go_num, (hx.then_ext hx3).setCell (p := ⟨w.heap.size + 1, k, none⟩) rfl _, ((hx3.rowIs HR.out).set k _).congr fun i _ => rdK_put B k _ ?_ i⟩
        have e := HP.out
        subst e
        exact (by unfold rd8; rfl)
      case measure => simp [intOf]; omega
    · obtain rfl : k = 4 := by omega
      have T2 : Hid (wr.rowIs w.heap.size 24 4 (ivs fun _ => 0)) := hx.rowIs T1.out (by omega)
      have q0 := HR.out.cell (i := 0) (by omega)
      have q1 := HR.out.cell (i := 1) (by omega)
      have q2 := HR.out.cell (i := 2) (by omega)
      have q3 := HR.out.cell (i := 3) (by omega)
      have c0 := T2.out.cell (i := 0) (by omega)
      have c1 := T2.out.cell (i := 1) (by omega)
      have c2 := T2.out.cell (i := 2) (by omega)
      have c3 := T2.out.cell (i := 3) (by omega)
      have f0 := T2.out.frozen 0
      have f1 := T2.out.frozen 1
      have f2 := T2.out.frozen 2
      have f3 := T2.out.frozen 3
      rw [show ivs (rdK B 4) 0 = .int .i64 (rd8 B 0) by unfold ivs rdK; rw [if_pos (by omega)]] at q0
      rw [show ivs (rdK B 4) 1 = .int .i64 (rd8 B 1) by unfold ivs rdK; rw [if_pos (by omega)]] at q1
      rw [show ivs (rdK B 4) 2 = .int .i64 (rd8 B 2) by unfold ivs rdK; rw [if_pos (by omega)]] at q2
      rw [show ivs (rdK B 4) 3 = .int .i64 (rd8 B 3) by unfold ivs rdK; rw [if_pos (by omega)]] at q3
      unfold ivs at c0 c1 c2 c3
      generalize hS : rd8 B = S at q0 q1 q2 q3
      have HS : Hid (rd8 B = S) := hS
      clear hS
      go_wp2_with fail
      have R9 := put4 T2.out S
      have hin : (Try.prog.info? 24).map (·.size) = some 4 := by kernel_rfl
      refine bodyPost_ret (results_cell_row rfl _ _ w.heap.size 24 #[ivs S 0, ivs S 1, ivs S 2, ivs S 3] (0, 0) _ rfl (row4 R9) Try.underlying24 rfl (in4 hin (ivs S))) rfl ?_
      exact ⟨by rw [HS.out]; rfl, (((XW.out.setCell (p := ⟨w.heap.size, 0, none⟩) (Nat.le_refl _) _).setCell (p := ⟨w.heap.size, 1, none⟩) (Nat.le_refl _) _).setCell (p := ⟨w.heap.size, 2, none⟩) (Nat.le_refl _) _).setCell (p := ⟨w.heap.size, 3, none⟩) (Nat.le_refl _) _⟩
end Go.Proofs.Ytemndnpbbkjmhab
