/-
  The document's sumBytes, labelBytes, LabelEncoded, in new memory.
-/
import Derived.Test.YtemndnpbbkjmhabRefLow
import Derived.Test.YtemndnpbbkjmhabLabMayR
import Derived.Test.YtemndnpbbkjmhabRefSum
namespace Go.Proofs.Ytemndnpbbkjmhab
open Go.RowKit Go.Deep E
/-- the bytes of four numbers -/
def sby (s : Nat → Int) (i : Nat) : E := byt (s (i / 8)) (i % 8)
theorem sby_at (s : Nat → Int) (k i : Nat) (hi : i < 8) : sby s (8 * k + i) = byt (s k) i := by
  unfold sby
  rw [show (8 * k + i) / 8 = k by omega, show (8 * k + i) % 8 = i by omega]
set_option maxRecDepth 100000 in
set_option maxHeartbeats 1600000 in
theorem sumBytes_any (s : Nat → Int) (w : World) : Calls Try.prog 26 #[.agg #[.int .i64 (s 0), .int .i64 (s 1), .int .i64 (s 2), .int .i64 (s 3)]] w fun e w' => (∃ v, e = .returned v ∧ OwnB w' w.heap.size v 32 (sby s)) ∧ Ext w w' := by
  have R0 : Hid ((w.alloc (.cells #[.int .i64 (s 0), .int .i64 (s 1), .int .i64 (s 2), .int .i64 (s 3)] 24)).rowIs w.heap.size 24 4 (ivs s)) := row4_alloc w 24 (ivs s)
  have X0 : Hid (Ext w (w.alloc (.cells #[.int .i64 (s 0), .int .i64 (s 1), .int .i64 (s 2), .int .i64 (s 3)] 24))) := (Ext.refl _).alloc _ _
  obtain ⟨m8, hm8⟩ : ∃ m : Nat, m = 8 := ⟨8, rfl⟩
  have HM : Hid (m8 = 8) := hm8
  clear hm8
  go_enter Try.func26, Try.ntmps26
  go_wp2_with fail
  refine (lowFirst_any (s 0) 8 (by omega) _).mono ?_
  rintro e w1 ⟨⟨v0, rfl, ho⟩, hx1⟩
  have O0 : Hid (OwnB w1 w.heap.size v0 (8 * 1) (sby s)) := (ho.mono (by simp)).cong fun i hi => by have := sby_at s 0 i hi; rw [Nat.mul_zero, Nat.zero_add] at this; exact this.symm
  have X1 : Hid (Ext w w1) := X0.out.trans hx1
  have R1 : Hid (w1.rowIs w.heap.size 24 4 (ivs s)) := hx1.rowIs R0.out
  obtain ⟨q1, hq1⟩ : ∃ q : Nat, q = 8 * 1 := ⟨_, rfl⟩
  rw [← hq1] at O0
  have Q1 : Hid (q1 = 8 * 1) := hq1
  clear ho hx1 R0 X0 hq1
  generalize hv : v0 = va at *
  clear hv
  have qc := R1.out.cell (i := 1) (by omega)
  unfold ivs at qc
  go_wp2_with fail
  refine (lowFirst_any (s 1) 8 (by omega) _).mono ?_
  rintro e w2 ⟨⟨vb, rfl, ho⟩, hx2⟩
  have hle : q1 + m8 ≤ 32 := by have h1 := HM.out; have h2 := Q1.out; omega
  rw [← HM.out] at ho
  obtain ⟨ab, cb, rfl, hbb⟩ := own_byts ho
  have HB : Hid (Byts w2 ab m8 (byt (s 1))) := hbb
  have O1 : Hid (OwnB w2 w.heap.size va q1 (sby s)) := O0.out.ext hx2
  have X2 : Hid (Ext w w2) := X1.out.trans hx2
  have R2 : Hid (w2.rowIs w.heap.size 24 4 (ivs s)) := hx2.rowIs R1.out
  have hs2 := X2.out.size
  clear hbb ho hx2 O0 X1 R1 qc
  go_wp2_with (first | (at_builtin; refine append_vals w2 rfl (.tmp 7) (.tmp 10) 22 rfl w.heap.size 5 (.int .u8 0) 1 Try.underlying22 infoByte rfl va q1 _ rfl O1.out ab m8 cb (bvs (byt (s 1))) rfl HB.out (fun _ _ => rfl) (by omega) (by omega) hs2 ?_) | go_in)
  intro vc w3 hown hgrow
  have O0 : Hid (OwnB w3 w.heap.size vc (q1 + m8) (sby s)) := by
    rw [map_add q1 m8 (sby s) (byt (s 1)) fun i hi => by rw [Q1.out]; exact sby_at s 1 i (by rw [← HM.out]; exact hi)] at hown
    exact hown
  obtain ⟨q2, hq1⟩ : ∃ q : Nat, q = q1 + m8 := ⟨_, rfl⟩
  rw [← hq1] at O0
  have Q2 : Hid (q2 = 8 * 2) := by
    have h1 := Q1.out
    have h2 := HM.out
    show q2 = 8 * 2
    omega
  have X1 : Hid (Ext w w3) := X2.out.grow hgrow fun b hb => (own_ge O1.out hb).1
  have R1 : Hid (w3.rowIs w.heap.size 24 4 (ivs s)) := row_grown R2.out hgrow (own_ne_row O1.out R2.out (by decide))
  clear hown hgrow HB O1 X2 R2 hs2 hq1 hle
  generalize hv : vc = va at *
  clear hv
  have qc := R1.out.cell (i := 2) (by omega)
  unfold ivs at qc
  go_wp2_with fail
  refine (lowFirst_any (s 2) 8 (by omega) _).mono ?_
  rintro e w2 ⟨⟨vb, rfl, ho⟩, hx2⟩
  have hle : q2 + m8 ≤ 32 := by have h1 := HM.out; have h2 := Q2.out; omega
  rw [← HM.out] at ho
  obtain ⟨ab, cb, rfl, hbb⟩ := own_byts ho
  have HB : Hid (Byts w2 ab m8 (byt (s 2))) := hbb
  have O1 : Hid (OwnB w2 w.heap.size va q2 (sby s)) := O0.out.ext hx2
  have X2 : Hid (Ext w w2) := X1.out.trans hx2
  have R2 : Hid (w2.rowIs w.heap.size 24 4 (ivs s)) := hx2.rowIs R1.out
  have hs2 := X2.out.size
  clear hbb ho hx2 O0 X1 R1 qc
  go_wp2_with (first | (at_builtin; refine append_vals w2 rfl (.tmp 12) (.tmp 15) 22 rfl w.heap.size 5 (.int .u8 0) 1 Try.underlying22 infoByte rfl va q2 _ rfl O1.out ab m8 cb (bvs (byt (s 2))) rfl HB.out (fun _ _ => rfl) (by omega) (by omega) hs2 ?_) | go_in)
  intro vc w3 hown hgrow
  have O0 : Hid (OwnB w3 w.heap.size vc (q2 + m8) (sby s)) := by
    rw [map_add q2 m8 (sby s) (byt (s 2)) fun i hi => by rw [Q2.out]; exact sby_at s 2 i (by rw [← HM.out]; exact hi)] at hown
    exact hown
  obtain ⟨q3, hq1⟩ : ∃ q : Nat, q = q2 + m8 := ⟨_, rfl⟩
  rw [← hq1] at O0
  have Q3 : Hid (q3 = 8 * 3) := by
    have h1 := Q2.out
    have h2 := HM.out
    show q3 = 8 * 3
    omega
  have X1 : Hid (Ext w w3) := X2.out.grow hgrow fun b hb => (own_ge O1.out hb).1
  have R1 : Hid (w3.rowIs w.heap.size 24 4 (ivs s)) := row_grown R2.out hgrow (own_ne_row O1.out R2.out (by decide))
  clear hown hgrow HB O1 X2 R2 hs2 hq1 hle
  generalize hv : vc = va at *
  clear hv
  have qc := R1.out.cell (i := 3) (by omega)
  unfold ivs at qc
  go_wp2_with fail
  refine (lowFirst_any (s 3) 8 (by omega) _).mono ?_
  rintro e w2 ⟨⟨vb, rfl, ho⟩, hx2⟩
  have hle : q3 + m8 ≤ 32 := by have h1 := HM.out; have h2 := Q3.out; omega
  rw [← HM.out] at ho
  obtain ⟨ab, cb, rfl, hbb⟩ := own_byts ho
  have HB : Hid (Byts w2 ab m8 (byt (s 3))) := hbb
  have O1 : Hid (OwnB w2 w.heap.size va q3 (sby s)) := O0.out.ext hx2
  have X2 : Hid (Ext w w2) := X1.out.trans hx2
  have R2 : Hid (w2.rowIs w.heap.size 24 4 (ivs s)) := hx2.rowIs R1.out
  have hs2 := X2.out.size
  clear hbb ho hx2 O0 X1 R1 qc
  go_wp2_with (first | (at_builtin; refine append_vals w2 rfl (.tmp 17) (.tmp 20) 22 rfl w.heap.size 5 (.int .u8 0) 1 Try.underlying22 infoByte rfl va q3 _ rfl O1.out ab m8 cb (bvs (byt (s 3))) rfl HB.out (fun _ _ => rfl) (by omega) (by omega) hs2 ?_) | go_in)
  intro vc w3 hown hgrow
  have O0 : Hid (OwnB w3 w.heap.size vc (q3 + m8) (sby s)) := by
    rw [map_add q3 m8 (sby s) (byt (s 3)) fun i hi => by rw [Q3.out]; exact sby_at s 3 i (by rw [← HM.out]; exact hi)] at hown
    exact hown
  obtain ⟨q4, hq1⟩ : ∃ q : Nat, q = q3 + m8 := ⟨_, rfl⟩
  rw [← hq1] at O0
  have Q4 : Hid (q4 = 8 * 4) := by
    have h1 := Q3.out
    have h2 := HM.out
    show q4 = 8 * 4
    omega
  have X1 : Hid (Ext w w3) := X2.out.grow hgrow fun b hb => (own_ge O1.out hb).1
  have R1 : Hid (w3.rowIs w.heap.size 24 4 (ivs s)) := row_grown R2.out hgrow (own_ne_row O1.out R2.out (by decide))
  clear hown hgrow HB O1 X2 R2 hs2 hq1 hle
  generalize hv : vc = va at *
  clear hv
  go_wp2_with fail
  go_ret
  exact ⟨⟨_, rfl, by have h := O0.out; rw [Q4.out] at h; exact h⟩, X1.out⟩
theorem hd_36 (x : Nat → Int) (i : Nat) (hi : i < 32) : hd x (36 + i) = sby (fun j => x (9 + j)) i := by
  unfold hd sby
  rw [if_neg (by omega), if_pos (by omega), show 36 + i - 36 = i by omega]
set_option maxRecDepth 100000 in
set_option maxHeartbeats 1600000 in
theorem labelBytes_any (x : Nat → Int) (w : World) : Calls Try.prog 31 #[.agg #[.int .i64 (x 0), .int .i64 (x 1), .int .i64 (x 2), .int .i64 (x 3), .int .i64 (x 4), .int .i64 (x 5), .int .i64 (x 6), .int .i64 (x 7), .int .i64 (x 8), .int .i64 (x 9), .int .i64 (x 10), .int .i64 (x 11), .int .i64 (x 12)]] w fun e w' => (∃ v, e = .returned v ∧ OwnB w' w.heap.size v 96 (hd x)) ∧ Ext w w' := by
  have R0 : Hid (((w.alloc (.cells #[.int .i64 (x 0), .int .i64 (x 1), .int .i64 (x 2), .int .i64 (x 3), .int .i64 (x 4), .int .i64 (x 5), .int .i64 (x 6), .int .i64 (x 7), .int .i64 (x 8), .int .i64 (x 9), .int .i64 (x 10), .int .i64 (x 11), .int .i64 (x 12)] 28)).alloc (.cells #[.int .i64 (x 0), .int .i64 (x 1), .int .i64 (x 2), .int .i64 (x 3), .int .i64 (x 4), .int .i64 (x 5), .int .i64 (x 6), .int .i64 (x 7), .int .i64 (x 8)] 3)).rowIs w.heap.size 28 13 (ivs x)) := (row13_alloc w 28 (ivs x)).alloc _
  have I0 : Hid (∀ i, i < 9 → ((w.alloc (.cells #[.int .i64 (x 0), .int .i64 (x 1), .int .i64 (x 2), .int .i64 (x 3), .int .i64 (x 4), .int .i64 (x 5), .int .i64 (x 6), .int .i64 (x 7), .int .i64 (x 8), .int .i64 (x 9), .int .i64 (x 10), .int .i64 (x 11), .int .i64 (x 12)] 28)).alloc (.cells #[.int .i64 (x 0), .int .i64 (x 1), .int .i64 (x 2), .int .i64 (x 3), .int .i64 (x 4), .int .i64 (x 5), .int .i64 (x 6), .int .i64 (x 7), .int .i64 (x 8)] 3)).cell? ⟨w.heap.size + 1, i, none⟩ = some (.int .i64 (x i))) := fun i hi => by
    have := new_cell (w.alloc (.cells #[.int .i64 (x 0), .int .i64 (x 1), .int .i64 (x 2), .int .i64 (x 3), .int .i64 (x 4), .int .i64 (x 5), .int .i64 (x 6), .int .i64 (x 7), .int .i64 (x 8), .int .i64 (x 9), .int .i64 (x 10), .int .i64 (x 11), .int .i64 (x 12)] 28)) #[.int .i64 (x 0), .int .i64 (x 1), .int .i64 (x 2), .int .i64 (x 3), .int .i64 (x 4), .int .i64 (x 5), .int .i64 (x 6), .int .i64 (x 7), .int .i64 (x 8)] 3 i
    simp only [World.size_alloc] at this
    rw [this]
    match i, hi with
    | 0, _ => rfl
    | 1, _ => rfl
    | 2, _ => rfl
    | 3, _ => rfl
    | 4, _ => rfl
    | 5, _ => rfl
    | 6, _ => rfl
    | 7, _ => rfl
    | 8, _ => rfl
  have X0 : Hid (Ext w ((w.alloc (.cells #[.int .i64 (x 0), .int .i64 (x 1), .int .i64 (x 2), .int .i64 (x 3), .int .i64 (x 4), .int .i64 (x 5), .int .i64 (x 6), .int .i64 (x 7), .int .i64 (x 8), .int .i64 (x 9), .int .i64 (x 10), .int .i64 (x 11), .int .i64 (x 12)] 28)).alloc (.cells #[.int .i64 (x 0), .int .i64 (x 1), .int .i64 (x 2), .int .i64 (x 3), .int .i64 (x 4), .int .i64 (x 5), .int .i64 (x 6), .int .i64 (x 7), .int .i64 (x 8)] 3))) := ((Ext.refl _).alloc _ _).alloc _ _
  obtain ⟨m4, hm4⟩ : ∃ m : Nat, m = 4 := ⟨4, rfl⟩
  have HM : Hid (m4 = 4) := hm4
  have hm4l : m4 ≤ 4 := by omega
  clear hm4
  go_enter Try.func31, Try.ntmps31
  go_wp2_with fail
  generalize ((w.alloc (.cells #[.int .i64 (x 0), .int .i64 (x 1), .int .i64 (x 2), .int .i64 (x 3), .int .i64 (x 4), .int .i64 (x 5), .int .i64 (x 6), .int .i64 (x 7), .int .i64 (x 8), .int .i64 (x 9), .int .i64 (x 10), .int .i64 (x 11), .int .i64 (x 12)] 28)).alloc (.cells #[.int .i64 (x 0), .int .i64 (x 1), .int .i64 (x 2), .int .i64 (x 3), .int .i64 (x 4), .int .i64 (x 5), .int .i64 (x 6), .int .i64 (x 7), .int .i64 (x 8)] 3)) = w0 at *
  go_loopw [3, 30] (fun v i wr => ∃ k q : Nat, k ≤ 9 ∧ i = .int .i64 k ∧ Ext w0 wr ∧ OwnB wr w0.heap.size v q (hd x) ∧ Hid (q = 4 * k)) (fun _ i _ => 9 - (intOf i).toNat)
  case atStart => exact ⟨0, 0, Nat.zero_le _, rfl, Ext.refl _, World.ownsRow_nil _ _ _ _, rfl⟩
  case round =>
    obtain ⟨k, q, hk, rfl, hx, hown, HQ⟩ := hrel
    have O0 : Hid (OwnB wr w0.heap.size u3 q (hd x)) := hown
    clear hown
    have hq36 : q ≤ 36 := by have := HQ.out; omega
    by_cases hlt : k < 9
    · have hck := hx.keeps (I0.out k hlt)
      go_wp2_with fail
      refine (lowFirst_any (x k) 4 (by omega) _).mono ?_
      rintro e w2 ⟨⟨vb, rfl, ho⟩, hx2⟩
      rw [← HM.out] at ho
      obtain ⟨ab, cb, rfl, hbb⟩ := own_byts ho
      have HB : Hid (Byts w2 ab m4 (byt (x k))) := hbb
      have O1 : Hid (OwnB w2 w0.heap.size u3 q (hd x)) := O0.out.ext hx2
      have X2 : Hid (Ext w0 w2) := hx.trans hx2
      have hs2 : w0.heap.size ≤ w2.heap.size := X2.out.size
      clear hbb ho hx2 O0 hx hck
      go_wp2_with (first | (at_builtin; refine append_vals w2 rfl (.tmp 34) (.tmp 36) 22 rfl w0.heap.size 5 (.int .u8 0) 1 Try.underlying22 infoByte rfl u3 q _ rfl O1.out ab m4 cb (bvs (byt (x k))) rfl HB.out (fun _ _ => rfl) (by omega) (by omega) hs2 ?_) | go_in)
      intro vc w3 hown hgrow
      have O3 : Hid (OwnB w3 w0.heap.size vc (q + m4) (hd x)) := by
        rw [map_add q m4 (hd x) (byt (x k)) fun i hi => by rw [HQ.out]; exact hd_4 x k i hlt (by rw [← HM.out]; exact hi)] at hown
        exact hown
      have X3 : Hid (Ext w0 w3) := X2.out.grow hgrow fun b hb => (own_ge O1.out hb).1
      clear hown hgrow HB O1 X2 hs2
      go_wp2_with fail
      go_roundw
      case rel => exact ⟨k + 1, q + m4, by omega, by go_num, X3.out, O3.out, (by have h1 := HQ.out; have h2 := HM.out; show q + m4 = 4 * (k + 1); omega)⟩
      case measure => simp [intOf]; omega
    · obtain rfl : k = 9 := by omega
      obtain ⟨m5, hm5⟩ : ∃ m : Nat, m = 32 := ⟨32, rfl⟩
      have H5 : Hid (m5 = 32) := hm5
      have hm5l : m5 ≤ 32 := by omega
      have RX := hx.rowIs R0.out
      have q0 := RX.cell (i := 9) (by omega)
      have q1 := RX.cell (i := 10) (by omega)
      have q2 := RX.cell (i := 11) (by omega)
      have q3 := RX.cell (i := 12) (by omega)
      unfold ivs at q0 q1 q2 q3
      clear hm5 RX hlt hk
      go_wp2_with fail
      refine (sumBytes_any (fun j => x (9 + j)) _).mono ?_
      rintro e w2 ⟨⟨vb, rfl, ho⟩, hx2⟩
      rw [← H5.out] at ho
      obtain ⟨ab, cb, rfl, hbb⟩ := own_byts ho
      have HB : Hid (Byts w2 ab m5 (sby fun j => x (9 + j))) := hbb
      have O1 : Hid (OwnB w2 w0.heap.size u3 q (hd x)) := O0.out.ext hx2
      have X2 : Hid (Ext w0 w2) := hx.trans hx2
      have hs2 : w0.heap.size ≤ w2.heap.size := X2.out.size
      clear hbb ho hx2 O0 hx q0 q1 q2 q3
      go_wp2_with (first | (at_builtin; refine append_vals w2 rfl (.tmp 39) (.tmp 43) 22 rfl w0.heap.size 5 (.int .u8 0) 1 Try.underlying22 infoByte rfl u3 q _ rfl O1.out ab m5 cb (bvs (sby fun j => x (9 + j))) rfl HB.out (fun _ _ => rfl) (by omega) (by omega) hs2 ?_) | go_in)
      intro vc w3 hown hgrow
      have O3 : Hid (OwnB w3 w0.heap.size vc (q + m5) (hd x)) := by
        rw [map_add q m5 (hd x) (sby fun j => x (9 + j)) fun i hi => by rw [HQ.out]; exact hd_36 x i (by rw [← H5.out]; exact hi)] at hown
        exact hown
      have X3 : Hid (Ext w0 w3) := X2.out.grow hgrow fun b hb => (own_ge O1.out hb).1
      have hs3 : w0.heap.size ≤ w3.heap.size := X3.out.size
      clear hown hgrow HB O1 X2 hs2
      obtain ⟨p, hp⟩ : ∃ p : Nat, p = q + m5 := ⟨_, rfl⟩
      rw [← hp] at O3
      have hp68 : p = 68 := by have h1 := HQ.out; have h2 := H5.out; omega
      have HP : Hid (p = 68) := hp68
      obtain ⟨r, hr⟩ : ∃ r : Nat, r = 28 := ⟨28, rfl⟩
      have HRR : Hid (r = 28) := hr
      have hw : IntKind.i64.wrap (96 - (p : Int)) = (r : Int) := by rw [IntKind.wrap_i64]; omega
      have hpr : p + r ≤ 96 ∧ 0 < r ∧ 0 < p := by omega
      obtain ⟨ac, cc, rfl, _⟩ := own_byts O3.out
      clear hp hp68 hr hq36
      go_wp2_with (first | (at_builtin; refine append_zeros w3 rfl (.tmp 45) (.tmp 48) 22 3 rfl w0.heap.size 5 (.int .u8 0) 1 .i64 Try.underlying22 Try.underlying3 infoByte rfl rfl _ p _ rfl O3.out r hpr.2.1 hpr.2.2 .i64 rfl (by omega) (by omega) (by omega) hs3 ?_) | go_in)
      intro vd w4 hown hgrow
      have O4 : Hid (OwnB w4 w0.heap.size vd (p + r) (hd x)) := by
        rw [map_zeros p r (hd x) fun i hi => hd_0 x (p + i) (by rw [HP.out]; omega)] at hown
        exact hown
      have X4 : Hid (Ext w0 w4) := X3.out.grow hgrow fun b hb => (own_ge O3.out hb).1
      clear hown hgrow
      go_wp2_with fail
      go_ret
      refine ⟨⟨_, rfl, ?_⟩, X0.out.trans X4.out⟩
      have h := O4.out.mono X0.out.size
      rw [HP.out, HRR.out] at h
      exact h
theorem moreE_96 : moreE 96 = 0 := rfl
theorem SumMore_seal (a : Option Addr) (c : Nat) (B : Nat → E) (w : World) (h : Byts w a 96 B) :
    Calls Try.prog 24 #[.agg #[.int .i64 0, .int .i64 0, .int .i64 0, .int .i64 0], .slice a 96 c] w fun e w' => e = .returned (.tuple #[.agg #[.int .i64 (sealV B 0), .int .i64 (sealV B 1), .int .i64 (sealV B 2), .int .i64 (sealV B 3)], .int .i64 0]) ∧ Ext w w' := by
  have H := SumMore_any (fun _ => 0) a 96 c B w (by omega) h
  have e : ∀ i, moreV 96 (fun _ => 0) B i = sealV B i := fun i => by
    unfold moreV sealV
    rw [if_pos (by decide), ← mo_mw]
  simp only [e, moreE_96] at H
  exact H
theorem sec_96 (x : Nat → Int) (i : Nat) (hi : i < 32) : sec x (96 + i) = sby (sealV (hd x)) i := by
  unfold sec sby
  rw [if_neg (by omega), show 96 + i - 96 = i by omega]
end Go.Proofs.Ytemndnpbbkjmhab
