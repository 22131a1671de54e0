/-
  The document's fromLow and the two closures of LabelDecoded; the world only grows.
-/
import Derived.Test.YtemndnpbbkjmhabLabDec2
import Derived.Test.YtemndnpbbkjmhabRefEnc
namespace Go.Proofs.Ytemndnpbbkjmhab
open Go.RowKit Go.Deep E
theorem rdN_shift (B : Nat → E) : ∀ n, rdN B (n + 1) = ev (B 0) + 256 * rdN (fun i => B (i + 1)) n
  | 0 => by show 0 + ev (B 0) * 1 = ev (B 0) + 256 * 0; omega
  | n + 1 => by
    have h := rdN_shift B n
    show rdN B (n + 1) + ev (B (n + 1)) * (p256 n * 256) = ev (B 0) + 256 * (rdN (fun i => B (i + 1)) n + ev (B (n + 1)) * p256 n)
    rw [h, ← Int.mul_assoc]
    omega
/-- what the bytes from k on tell, of m -/
def hiN (B : Nat → E) (m k : Nat) : Int := rdN (fun i => B (k + i)) (m - k)
theorem hiN_step (B : Nat → E) (m k : Nat) (hk : k < m) : hiN B m k = hiN B m (k + 1) * 256 + ev (B k) := by
  unfold hiN
  obtain ⟨j, hj⟩ : ∃ j, m - k = j + 1 := ⟨m - k - 1, by omega⟩
  rw [hj, show m - (k + 1) = j by omega, rdN_shift, rdN_congr (B' := fun i => B (k + 1 + i)) j fun i _ => by show B (k + (i + 1)) = B (k + 1 + i); congr 1; omega]
  show ev (B (k + 0)) + _ = _
  rw [Nat.add_zero]
  omega
theorem hiN_bd (B : Nat → E) (m k : Nat) (hm : m ≤ 8) : 0 ≤ hiN B m k ∧ hiN B m k < 18446744073709551616 := by
  have h := rdN_bd (fun i => B (k + i)) (m - k)
  have hp : p256 (m - k) ≤ p256 8 := by
    rw [p256_pow, p256_pow]
    exact Int.ofNat_le.2 (Nat.pow_le_pow_right (by decide) (by omega))
  rw [p256_8] at hp
  unfold hiN
  omega
theorem hiN_0 (B : Nat → E) (m : Nat) : hiN B m 0 = rdN B m := by
  unfold hiN
  rw [Nat.sub_zero, rdN_congr (B' := B) m fun i _ => by rw [Nat.zero_add]]
theorem hiN_m (B : Nat → E) (m : Nat) : hiN B m m = 0 := by
  unfold hiN
  rw [Nat.sub_self]
  rfl
set_option maxRecDepth 100000 in
set_option maxHeartbeats 1600000 in
theorem fromLow_any (b o m c : Nat) (B : Nat → E) (w : World) (hm : m ≤ 8) (h : ∀ i, i < m → w.cell? ⟨b, o + i, none⟩ = some (.int .u8 (ev (B i)))) :
    Calls Try.prog 28 #[.slice (some ⟨b, o, none⟩) m c] w fun e w' => e = .returned (.int .i64 (wrap64 (rdN B m))) ∧ Ext w w' := by
  have HC : Hid (∀ i, i < m → w.cell? ⟨b, o + i, none⟩ = some (.int .u8 (ev (B i)))) := h
  clear h
  go_enter Try.func28, Try.ntmps28
  go_wp2_with fail
  go_loopw [3, 4] (fun v i wr => ∃ (k : Nat) (N : Int), k ≤ m ∧ i = .int .i64 ((k : Int) - 1) ∧ v = .int .u64 N ∧ Hid (N = hiN B m k) ∧ Ext w wr) (fun _ i _ => (intOf i + 1).toNat)
  case atStart => exact ⟨m, 0, Nat.le_refl _, rfl, rfl, (hiN_m B m).symm, Ext.refl _⟩
  case round =>
    obtain ⟨k, N, hk, rfl, rfl, HN, hx⟩ := hrel
    by_cases h0 : k = 0
    · have hneg : ¬ (0 : Int) ≤ (k : Int) - 1 := by omega
      go_wp2_with fail
      go_ret
      refine ⟨?_, hx⟩
      have e := HN.out
      rw [h0, hiN_0] at e
      rw [e]
      rfl
    · obtain ⟨j, hj⟩ : ∃ j : Nat, k = j + 1 := ⟨k - 1, by omega⟩
      have hji : (k : Int) - 1 = (j : Int) := by omega
      have hjm : j < m := by omega
      have hji2 : (j : Int) < (m : Int) := by omega
      have hbd := hiN_bd B m j hm
      have hst := hiN_step B m j hjm
      have hN : N = hiN B m (j + 1) := by have := HN.out; rw [hj] at this; exact this
      rw [← hN] at hst
      have hb := ev_bd (B j)
      have hNb : 0 ≤ N ∧ N * 256 < 18446744073709551616 ∧ N * 256 + ev (B j) < 18446744073709551616 := by
        have := hiN_bd B m (j + 1) hm
        omega
      have HST : Hid (hiN B m j = N * 256 + ev (B j)) := hst
      have hck := hx.keeps (HC.out j hjm)
      rw [hji]
      clear hst hbd hN HN h0 hji hj hk
      go_wp2_with fail
      go_roundw
      case rel => exact ⟨j, _, by omega, by go_num, rfl, HST.out.symm, hx⟩
      case measure => simp [intOf]
set_option maxRecDepth 100000 in
set_option maxHeartbeats 1600000 in
theorem four_any (q b o c : Nat) (B : Nat → E) (k : Nat) (hk : k < 9) (w : World) (hc : 128 ≤ c) (hq : w.cell? ⟨q, 0, none⟩ = some (.slice (some ⟨b, o, none⟩) 128 c)) (h : ∀ i, i < 128 → w.cell? ⟨b, o + i, none⟩ = some (.int .u8 (ev (B i)))) :
    Calls Try.prog 27 #[.int .i64 (k : Int), .pointer (some ⟨q, 0, none⟩)] w fun e w' => e = .returned (.int .i64 (prs B k)) ∧ Ext w w' := by
  have HC : Hid (∀ i, i < 128 → w.cell? ⟨b, o + i, none⟩ = some (.int .u8 (ev (B i)))) := h
  obtain ⟨p, hp⟩ : ∃ p : Nat, p = 4 * k := ⟨_, rfl⟩
  have HP : Hid (p = 4 * k) := hp
  have hpb : p + 4 ≤ 128 := by omega
  have hslk := sub_lh (P := Try.prog) Try.underlying22 size8 (some ⟨b, o, none⟩) 128 c p 4 (by omega) (p : Int) ((p : Int) + 4) rfl (by omega)
  rw [subA_some (by omega)] at hslk
  have hp1 : (4 : Int) * (k : Int) = (p : Int) := by omega
  have hp2 : (p : Int) + 4 = (p : Int) + 4 := by omega
  clear h hp
  go_enter Try.func27, Try.ntmps27
  go_wp2_with fail
  refine (fromLow_any b (o + p) 4 (c - p) (fun i => B (p + i)) _ (by omega) fun i hi => ?_).mono ?_
  · rw [Nat.add_assoc]
    exact HC.out (p + i) (by omega)
  rintro e w2 ⟨rfl, hx2⟩
  have HV : Hid (wrap64 (rdN (fun i => B (p + i)) 4) = prs B k) := by
    have e := HP.out
    subst e
    exact prs_4 B k hk
  rw [HV.out]
  go_wp2_with fail
  go_ret
  exact ⟨rfl, hx2⟩
set_option maxRecDepth 100000 in
set_option maxHeartbeats 1600000 in
theorem eight_any (q b o c : Nat) (B : Nat → E) (k : Nat) (hk : k < 4) (w : World) (hc : 128 ≤ c) (hq : w.cell? ⟨q, 0, none⟩ = some (.slice (some ⟨b, o, none⟩) 128 c)) (h : ∀ i, i < 128 → w.cell? ⟨b, o + i, none⟩ = some (.int .u8 (ev (B i)))) :
    Calls Try.prog 29 #[.int .i64 (k : Int), .pointer (some ⟨q, 0, none⟩)] w fun e w' => e = .returned (.int .i64 (prs B (9 + k))) ∧ Ext w w' := by
  have HC : Hid (∀ i, i < 128 → w.cell? ⟨b, o + i, none⟩ = some (.int .u8 (ev (B i)))) := h
  obtain ⟨p, hp⟩ : ∃ p : Nat, p = 36 + 8 * k := ⟨_, rfl⟩
  have HP : Hid (p = 36 + 8 * k) := hp
  have hpb : p + 8 ≤ 128 := by omega
  have hslk := sub_lh (P := Try.prog) Try.underlying22 size8 (some ⟨b, o, none⟩) 128 c p 8 (by omega) (p : Int) ((p : Int) + 8) rfl (by omega)
  rw [subA_some (by omega)] at hslk
  have hp1 : 36 + (8 : Int) * (k : Int) = (p : Int) := by omega
  have hp2 : (44 : Int) + 8 * (k : Int) = (p : Int) + 8 := by omega
  clear h hp
  go_enter Try.func29, Try.ntmps29
  go_wp2_with fail
  refine (fromLow_any b (o + p) 8 (c - p) (fun i => B (p + i)) _ (by omega) fun i hi => ?_).mono ?_
  · rw [Nat.add_assoc]
    exact HC.out (p + i) (by omega)
  rintro e w2 ⟨rfl, hx2⟩
  have HV : Hid (wrap64 (rdN (fun i => B (p + i)) 8) = prs B (9 + k)) := by
    have e := HP.out
    subst e
    have h8 := prs_8 B k
    unfold rd8 at h8
    rw [← h8]
    exact congrArg wrap64 (rdN_congr 8 fun i _ => by show B (36 + 8 * k + i) = B (36 + (8 * k + i)); rw [Nat.add_assoc])
  rw [HV.out]
  go_wp2_with fail
  go_ret
  exact ⟨rfl, hx2⟩
end Go.Proofs.Ytemndnpbbkjmhab
