/-
  The document's LabelBest at every list of sectors; the world only grows.
-/
import Derived.Test.YtemndnpbbkjmhabRefDcd2
import Derived.Test.YtemndnpbbkjmhabLabBest
namespace Go.Proofs.Ytemndnpbbkjmhab
open Go.RowKit Go.Deep E
/-- p (less one) is the place of the best from lo on, ahead of hi; 0: there is none -/
def IsB (L : Nat → Nat) (F : Nat → Nat → E) (lo hi p : Nat) : Prop :=
  (p = 0 ∧ ∀ j, lo ≤ j → j < hi → decE (L j) (F j) ≠ 0) ∨
  (∃ m, p = m + 1 ∧ lo ≤ m ∧ m < hi ∧ decE (L m) (F m) = 0 ∧ ∀ j, lo ≤ j → j < hi → decE (L j) (F j) = 0 → prs (F j) 4 ≤ prs (F m) 4 ∧ (j < m → prs (F j) 4 < prs (F m) 4))
theorem IsB.uniq {L : Nat → Nat} {F : Nat → Nat → E} {lo hi p q : Nat} (h : IsB L F lo hi p) (k : IsB L F lo hi q) : p = q := by
  rcases h with ⟨rfl, h1⟩ | ⟨m, rfl, h1, h2, h3, h4⟩
  · rcases k with ⟨rfl, _⟩ | ⟨m', rfl, k1, k2, k3, _⟩
    · rfl
    · exact absurd k3 (h1 m' k1 k2)
  · rcases k with ⟨rfl, k1⟩ | ⟨m', rfl, k1, k2, k3, k4⟩
    · exact absurd h3 (k1 m h1 h2)
    · have a := h4 m' k1 k2 k3
      have b := k4 m h1 h2 h3
      rcases Nat.lt_trichotomy m m' with e | e | e
      · have := b.2 e; omega
      · omega
      · have := a.2 e; omega
theorem bestP_is (L : Nat → Nat) (F : Nat → Nat → E) : ∀ k, IsB L F 0 k (bestP L F k)
  | 0 => Or.inl ⟨rfl, fun j _ h => by omega⟩
  | k + 1 => by
    have ih := bestP_is L F k
    unfold bestP
    by_cases hc : decE (L k) (F k) = 0 ∧ (bestP L F k = 0 ∨ prs (F (bestP L F k - 1)) 4 < prs (F k) 4)
    · rw [if_pos hc]
      refine Or.inr ⟨k, rfl, by omega, by omega, hc.1, fun j _ hj hz => ?_⟩
      by_cases e : j = k
      · subst e; exact ⟨by omega, fun h => by omega⟩
      · rcases ih with ⟨h0, h1⟩ | ⟨m, hm, _, h2, h3, h4⟩
        · exact absurd hz (h1 j (by omega) (by omega))
        · have h5 := (h4 j (by omega) (by omega) hz).1
          rcases hc.2 with h6 | h6
          · omega
          · rw [hm, show m + 1 - 1 = m by omega] at h6
            exact ⟨by omega, fun _ => by omega⟩
    · rw [if_neg hc]
      rcases ih with ⟨h0, h1⟩ | ⟨m, hm, h1, h2, h3, h4⟩
      · refine Or.inl ⟨h0, fun j hj hjk hz => ?_⟩
        by_cases e : j = k
        · subst e; exact hc ⟨hz, Or.inl h0⟩
        · exact h1 j hj (by omega) hz
      · refine Or.inr ⟨m, hm, h1, by omega, h3, fun j hj hjk hz => ?_⟩
        by_cases e : j = k
        · subst e
          have : ¬ prs (F m) 4 < prs (F j) 4 := fun q => hc ⟨hz, Or.inr (by rw [hm, show m + 1 - 1 = m by omega]; exact q)⟩
          exact ⟨by omega, fun h => by omega⟩
        · exact h4 j hj (by omega) hz
theorem IsB.take {L : Nat → Nat} {F : Nat → Nat → E} {k n p : Nat} (h : IsB L F (k + 1) n p) (hk : k < n) (hz : decE (L k) (F k) = 0) (hc : p = 0 ∨ prs (F (p - 1)) 4 ≤ prs (F k) 4) : IsB L F k n (k + 1) := by
  refine Or.inr ⟨k, rfl, Nat.le_refl _, hk, hz, fun j hj hjn hjz => ⟨?_, fun h => by omega⟩⟩
  by_cases e : j = k
  · subst e; omega
  · rcases h with ⟨_, h1⟩ | ⟨m, hm, h1, h2, h3, h4⟩
    · exact absurd hjz (h1 j (by omega) hjn)
    · have h5 := (h4 j (by omega) hjn hjz).1
      rcases hc with h6 | h6
      · omega
      · rw [hm, show m + 1 - 1 = m by omega] at h6
        omega
theorem IsB.leave {L : Nat → Nat} {F : Nat → Nat → E} {k n p : Nat} (h : IsB L F (k + 1) n p) (hc : decE (L k) (F k) = 0 → p ≠ 0 ∧ ¬ prs (F (p - 1)) 4 ≤ prs (F k) 4) : IsB L F k n p := by
  rcases h with ⟨h0, h1⟩ | ⟨m, hm, h1, h2, h3, h4⟩
  · refine Or.inl ⟨h0, fun j hj hjn hz => ?_⟩
    by_cases e : j = k
    · subst e; exact (hc hz).1 h0
    · exact h1 j (by omega) hjn hz
  · refine Or.inr ⟨m, hm, by omega, h2, h3, fun j hj hjn hz => ?_⟩
    by_cases e : j = k
    · subst e
      have := (hc hz).2
      rw [hm, show m + 1 - 1 = m by omega] at this
      exact ⟨by omega, fun _ => by omega⟩
    · exact h4 j (by omega) hjn hz
def bV (F : Nat → Nat → E) (p k : Nat) : Int := if p = 0 then 0 else prs (F (p - 1)) k
set_option maxRecDepth 100000 in
set_option maxHeartbeats 6400000 in
theorem LabelBest_any (a : Option Addr) (n c : Nat) (A : Nat → Option Addr) (L C : Nat → Nat) (F : Nat → Nat → E) (w : World) (hn : n ≤ 9223372036854775807) (hb : ∀ r, r < n → L r ≤ C r ∧ C r ≤ 9223372036854775807) (h : Cols w a n A L C F) :
    Calls Try.prog 13 #[.slice a n c] w fun e w' => e = .returned (.tuple #[.agg #[.int .i64 (bestV L F n 0), .int .i64 (bestV L F n 1), .int .i64 (bestV L F n 2), .int .i64 (bestV L F n 3), .int .i64 (bestV L F n 4), .int .i64 (bestV L F n 5), .int .i64 (bestV L F n 6), .int .i64 (bestV L F n 7), .int .i64 (bestV L F n 8), .int .i64 (bestV L F n 9), .int .i64 (bestV L F n 10), .int .i64 (bestV L F n 11), .int .i64 (bestV L F n 12)], .int .i64 (bestI L F n), .int .i64 (bestE L F n)]) ∧ Ext w w' := by
  have HC : Hid (Cols w a n A L C F) := h
  have HBD : Hid (∀ r, r < n → L r ≤ C r ∧ C r ≤ 9223372036854775807) := hb
  have X0 : Hid (Ext w ((w.alloc (.cells #[.int .i64 ((fun _ => (0 : Int)) 0), .int .i64 ((fun _ => (0 : Int)) 1), .int .i64 ((fun _ => (0 : Int)) 2), .int .i64 ((fun _ => (0 : Int)) 3), .int .i64 ((fun _ => (0 : Int)) 4), .int .i64 ((fun _ => (0 : Int)) 5), .int .i64 ((fun _ => (0 : Int)) 6), .int .i64 ((fun _ => (0 : Int)) 7), .int .i64 ((fun _ => (0 : Int)) 8), .int .i64 ((fun _ => (0 : Int)) 9), .int .i64 ((fun _ => (0 : Int)) 10), .int .i64 ((fun _ => (0 : Int)) 11), .int .i64 ((fun _ => (0 : Int)) 12)] 28)).alloc (.cells #[.int .i64 ((fun _ => (0 : Int)) 0), .int .i64 ((fun _ => (0 : Int)) 1), .int .i64 ((fun _ => (0 : Int)) 2), .int .i64 ((fun _ => (0 : Int)) 3), .int .i64 ((fun _ => (0 : Int)) 4), .int .i64 ((fun _ => (0 : Int)) 5), .int .i64 ((fun _ => (0 : Int)) 6), .int .i64 ((fun _ => (0 : Int)) 7), .int .i64 ((fun _ => (0 : Int)) 8), .int .i64 ((fun _ => (0 : Int)) 9), .int .i64 ((fun _ => (0 : Int)) 10), .int .i64 ((fun _ => (0 : Int)) 11), .int .i64 ((fun _ => (0 : Int)) 12)] 28))) := ((Ext.refl _).alloc _ _).alloc _ _
  have T0 : Hid (((w.alloc (.cells #[.int .i64 ((fun _ => (0 : Int)) 0), .int .i64 ((fun _ => (0 : Int)) 1), .int .i64 ((fun _ => (0 : Int)) 2), .int .i64 ((fun _ => (0 : Int)) 3), .int .i64 ((fun _ => (0 : Int)) 4), .int .i64 ((fun _ => (0 : Int)) 5), .int .i64 ((fun _ => (0 : Int)) 6), .int .i64 ((fun _ => (0 : Int)) 7), .int .i64 ((fun _ => (0 : Int)) 8), .int .i64 ((fun _ => (0 : Int)) 9), .int .i64 ((fun _ => (0 : Int)) 10), .int .i64 ((fun _ => (0 : Int)) 11), .int .i64 ((fun _ => (0 : Int)) 12)] 28)).alloc (.cells #[.int .i64 ((fun _ => (0 : Int)) 0), .int .i64 ((fun _ => (0 : Int)) 1), .int .i64 ((fun _ => (0 : Int)) 2), .int .i64 ((fun _ => (0 : Int)) 3), .int .i64 ((fun _ => (0 : Int)) 4), .int .i64 ((fun _ => (0 : Int)) 5), .int .i64 ((fun _ => (0 : Int)) 6), .int .i64 ((fun _ => (0 : Int)) 7), .int .i64 ((fun _ => (0 : Int)) 8), .int .i64 ((fun _ => (0 : Int)) 9), .int .i64 ((fun _ => (0 : Int)) 10), .int .i64 ((fun _ => (0 : Int)) 11), .int .i64 ((fun _ => (0 : Int)) 12)] 28)).rowIs w.heap.size 28 13 (ivs fun _ => 0)) := (row13_alloc w 28 (ivs fun _ => 0)).alloc _
  have B0 : Hid (((w.alloc (.cells #[.int .i64 ((fun _ => (0 : Int)) 0), .int .i64 ((fun _ => (0 : Int)) 1), .int .i64 ((fun _ => (0 : Int)) 2), .int .i64 ((fun _ => (0 : Int)) 3), .int .i64 ((fun _ => (0 : Int)) 4), .int .i64 ((fun _ => (0 : Int)) 5), .int .i64 ((fun _ => (0 : Int)) 6), .int .i64 ((fun _ => (0 : Int)) 7), .int .i64 ((fun _ => (0 : Int)) 8), .int .i64 ((fun _ => (0 : Int)) 9), .int .i64 ((fun _ => (0 : Int)) 10), .int .i64 ((fun _ => (0 : Int)) 11), .int .i64 ((fun _ => (0 : Int)) 12)] 28)).alloc (.cells #[.int .i64 ((fun _ => (0 : Int)) 0), .int .i64 ((fun _ => (0 : Int)) 1), .int .i64 ((fun _ => (0 : Int)) 2), .int .i64 ((fun _ => (0 : Int)) 3), .int .i64 ((fun _ => (0 : Int)) 4), .int .i64 ((fun _ => (0 : Int)) 5), .int .i64 ((fun _ => (0 : Int)) 6), .int .i64 ((fun _ => (0 : Int)) 7), .int .i64 ((fun _ => (0 : Int)) 8), .int .i64 ((fun _ => (0 : Int)) 9), .int .i64 ((fun _ => (0 : Int)) 10), .int .i64 ((fun _ => (0 : Int)) 11), .int .i64 ((fun _ => (0 : Int)) 12)] 28)).rowIs (w.heap.size + 1) 28 13 (ivs (bV F 0))) := by
    have := row13_alloc (w.alloc (.cells #[.int .i64 ((fun _ => (0 : Int)) 0), .int .i64 ((fun _ => (0 : Int)) 1), .int .i64 ((fun _ => (0 : Int)) 2), .int .i64 ((fun _ => (0 : Int)) 3), .int .i64 ((fun _ => (0 : Int)) 4), .int .i64 ((fun _ => (0 : Int)) 5), .int .i64 ((fun _ => (0 : Int)) 6), .int .i64 ((fun _ => (0 : Int)) 7), .int .i64 ((fun _ => (0 : Int)) 8), .int .i64 ((fun _ => (0 : Int)) 9), .int .i64 ((fun _ => (0 : Int)) 10), .int .i64 ((fun _ => (0 : Int)) 11), .int .i64 ((fun _ => (0 : Int)) 12)] 28)) 28 (ivs fun _ => 0)
    simp only [World.size_alloc] at this
    exact this
  clear h hb
  go_enter Try.func13, Try.ntmps13
  go_wp2_with fail
  generalize ((w.alloc (.cells #[.int .i64 ((fun _ => (0 : Int)) 0), .int .i64 ((fun _ => (0 : Int)) 1), .int .i64 ((fun _ => (0 : Int)) 2), .int .i64 ((fun _ => (0 : Int)) 3), .int .i64 ((fun _ => (0 : Int)) 4), .int .i64 ((fun _ => (0 : Int)) 5), .int .i64 ((fun _ => (0 : Int)) 6), .int .i64 ((fun _ => (0 : Int)) 7), .int .i64 ((fun _ => (0 : Int)) 8), .int .i64 ((fun _ => (0 : Int)) 9), .int .i64 ((fun _ => (0 : Int)) 10), .int .i64 ((fun _ => (0 : Int)) 11), .int .i64 ((fun _ => (0 : Int)) 12)] 28)).alloc (.cells #[.int .i64 ((fun _ => (0 : Int)) 0), .int .i64 ((fun _ => (0 : Int)) 1), .int .i64 ((fun _ => (0 : Int)) 2), .int .i64 ((fun _ => (0 : Int)) 3), .int .i64 ((fun _ => (0 : Int)) 4), .int .i64 ((fun _ => (0 : Int)) 5), .int .i64 ((fun _ => (0 : Int)) 6), .int .i64 ((fun _ => (0 : Int)) 7), .int .i64 ((fun _ => (0 : Int)) 8), .int .i64 ((fun _ => (0 : Int)) 9), .int .i64 ((fun _ => (0 : Int)) 10), .int .i64 ((fun _ => (0 : Int)) 11), .int .i64 ((fun _ => (0 : Int)) 12)] 28)) = w0 at *
  go_loopw [6, 7] (fun v6 i wr => ∃ k p : Nat, k ≤ n ∧ i = .int .i64 ((k : Int) - 1) ∧ v6 = .int .i64 ((p : Int) - 1) ∧ Hid (IsB L F k n p) ∧ p ≤ n ∧ Ext w wr ∧ wr.rowIs w.heap.size 28 13 (ivs fun _ => 0) ∧ wr.rowIs (w.heap.size + 1) 28 13 (ivs (bV F p))) (fun _ i _ => (intOf i + 1).toNat)
  case atStart => exact ⟨n, 0, Nat.le_refl _, rfl, rfl, Or.inl ⟨rfl, fun j _ h => by omega⟩, by omega, X0.out, T0.out, B0.out⟩
  case round =>
    obtain ⟨k, p, hk, rfl, rfl, HI, hpn, hx, ht, hbr⟩ := hrel
    have HT : Hid (wr.rowIs w.heap.size 28 13 (ivs fun _ => 0)) := ht
    have HB : Hid (wr.rowIs (w.heap.size + 1) 28 13 (ivs (bV F p))) := hbr
    clear ht hbr X0 T0 B0
    by_cases h0 : k = 0
    · have hneg : ¬ (0 : Int) ≤ (k : Int) - 1 := by omega
      have HP : Hid (p = bestP L F n) := by
        have := HI.out
        rw [h0] at this
        exact this.uniq (bestP_is L F n)
      by_cases hp : p = 0
      · have hat : (p : Int) - 1 < 0 := by omega
        have HV : Hid (bestV L F n = (fun _ => 0) ∧ bestI L F n = 0 ∧ bestE L F n = 6) := by
          have e := HP.out
          rw [hp] at e
          refine ⟨funext fun j => ?_, ?_, ?_⟩
          · unfold bestV; rw [← e, if_pos rfl]
          · unfold bestI; rw [← e]; rfl
          · unfold bestE; rw [← e, if_pos rfl]
        have c0 := HT.out.cell (i := 0) (by omega)
        have f0 := HT.out.frozen 0
        have c1 := HT.out.cell (i := 1) (by omega)
        have f1 := HT.out.frozen 1
        have c2 := HT.out.cell (i := 2) (by omega)
        have f2 := HT.out.frozen 2
        have c3 := HT.out.cell (i := 3) (by omega)
        have f3 := HT.out.frozen 3
        have c4 := HT.out.cell (i := 4) (by omega)
        have f4 := HT.out.frozen 4
        have c5 := HT.out.cell (i := 5) (by omega)
        have f5 := HT.out.frozen 5
        have c6 := HT.out.cell (i := 6) (by omega)
        have f6 := HT.out.frozen 6
        have c7 := HT.out.cell (i := 7) (by omega)
        have f7 := HT.out.frozen 7
        have c8 := HT.out.cell (i := 8) (by omega)
        have f8 := HT.out.frozen 8
        have c9 := HT.out.cell (i := 9) (by omega)
        have f9 := HT.out.frozen 9
        have c10 := HT.out.cell (i := 10) (by omega)
        have f10 := HT.out.frozen 10
        have c11 := HT.out.cell (i := 11) (by omega)
        have f11 := HT.out.frozen 11
        have c12 := HT.out.cell (i := 12) (by omega)
        have f12 := HT.out.frozen 12
        unfold ivs at c0 c1 c2 c3 c4 c5 c6 c7 c8 c9 c10 c11 c12
        clear hp h0 HB
        go_wp2_with fail
        have R9 := put13 (fun _ => 0) hx (Nat.le_refl _) HT.out
        have hin : (Try.prog.info? 28).map (·.size) = some 13 := by kernel_rfl
        refine bodyPost_ret (results_cell3 rfl _ _ w.heap.size 28 #[ivs (fun _ => 0) 0, ivs (fun _ => 0) 1, ivs (fun _ => 0) 2, ivs (fun _ => 0) 3, ivs (fun _ => 0) 4, ivs (fun _ => 0) 5, ivs (fun _ => 0) 6, ivs (fun _ => 0) 7, ivs (fun _ => 0) 8, ivs (fun _ => 0) 9, ivs (fun _ => 0) 10, ivs (fun _ => 0) 11, ivs (fun _ => 0) 12] (0, 0) _ (.int .i64 0) (.int .i64 6) rfl rfl rfl (row13 R9.1) Try.underlying28 rfl (in13 hin (ivs (fun _ => 0)))) rfl ?_
        refine ⟨?_, R9.2⟩
        rw [HV.out.1, HV.out.2.1, HV.out.2.2]
        rfl
      · have hat : ¬ (p : Int) - 1 < 0 := by omega
        have HV : Hid (bestV L F n = bV F p ∧ bestI L F n = (p : Int) - 1 ∧ bestE L F n = 0) := by
          have e := HP.out
          refine ⟨funext fun j => ?_, ?_, ?_⟩
          · unfold bestV bV; rw [← e]
          · unfold bestI; rw [← e]; omega
          · unfold bestE; rw [← e, if_neg hp]
        have q0 := HB.out.cell (i := 0) (by omega)
        have c0 := HT.out.cell (i := 0) (by omega)
        have f0 := HT.out.frozen 0
        have q1 := HB.out.cell (i := 1) (by omega)
        have c1 := HT.out.cell (i := 1) (by omega)
        have f1 := HT.out.frozen 1
        have q2 := HB.out.cell (i := 2) (by omega)
        have c2 := HT.out.cell (i := 2) (by omega)
        have f2 := HT.out.frozen 2
        have q3 := HB.out.cell (i := 3) (by omega)
        have c3 := HT.out.cell (i := 3) (by omega)
        have f3 := HT.out.frozen 3
        have q4 := HB.out.cell (i := 4) (by omega)
        have c4 := HT.out.cell (i := 4) (by omega)
        have f4 := HT.out.frozen 4
        have q5 := HB.out.cell (i := 5) (by omega)
        have c5 := HT.out.cell (i := 5) (by omega)
        have f5 := HT.out.frozen 5
        have q6 := HB.out.cell (i := 6) (by omega)
        have c6 := HT.out.cell (i := 6) (by omega)
        have f6 := HT.out.frozen 6
        have q7 := HB.out.cell (i := 7) (by omega)
        have c7 := HT.out.cell (i := 7) (by omega)
        have f7 := HT.out.frozen 7
        have q8 := HB.out.cell (i := 8) (by omega)
        have c8 := HT.out.cell (i := 8) (by omega)
        have f8 := HT.out.frozen 8
        have q9 := HB.out.cell (i := 9) (by omega)
        have c9 := HT.out.cell (i := 9) (by omega)
        have f9 := HT.out.frozen 9
        have q10 := HB.out.cell (i := 10) (by omega)
        have c10 := HT.out.cell (i := 10) (by omega)
        have f10 := HT.out.frozen 10
        have q11 := HB.out.cell (i := 11) (by omega)
        have c11 := HT.out.cell (i := 11) (by omega)
        have f11 := HT.out.frozen 11
        have q12 := HB.out.cell (i := 12) (by omega)
        have c12 := HT.out.cell (i := 12) (by omega)
        have f12 := HT.out.frozen 12
        unfold ivs at c0 c1 c2 c3 c4 c5 c6 c7 c8 c9 c10 c11 c12 q0 q1 q2 q3 q4 q5 q6 q7 q8 q9 q10 q11 q12
        clear hp h0
        go_wp2_with fail
        have R9 := put13 (bV F p) hx (Nat.le_refl _) HT.out
        have hin : (Try.prog.info? 28).map (·.size) = some 13 := by kernel_rfl
        refine bodyPost_ret (results_cell3 rfl _ _ w.heap.size 28 #[ivs (bV F p) 0, ivs (bV F p) 1, ivs (bV F p) 2, ivs (bV F p) 3, ivs (bV F p) 4, ivs (bV F p) 5, ivs (bV F p) 6, ivs (bV F p) 7, ivs (bV F p) 8, ivs (bV F p) 9, ivs (bV F p) 10, ivs (bV F p) 11, ivs (bV F p) 12] (0, 0) _ (.int .i64 ((p : Int) - 1)) (.int .i64 0) rfl rfl rfl (row13 R9.1) Try.underlying28 rfl (in13 hin (ivs (bV F p)))) rfl ?_
        refine ⟨?_, R9.2⟩
        rw [HV.out.1, HV.out.2.1, HV.out.2.2]
        rfl
    · obtain ⟨j, hj⟩ : ∃ j : Nat, k = j + 1 := ⟨k - 1, by omega⟩
      subst hj
      have hji : ((j + 1 : Nat) : Int) - 1 = (j : Int) := by omega
      have hjn : j < n := by omega
      have hjn2 : (j : Int) < (n : Int) := by omega
      rw [hji]
      obtain ⟨⟨bb, ob, rfl, hcell⟩, hcol⟩ := (HC.out.ext hx) j hjn
      have HCOL : Hid (Byts wr (A j) (L j) (F j)) := hcol
      clear hcol h0 hji hk
      go_wp2_with fail
      refine (LabelDecoded_any (A j) (L j) (C j) (F j) _ (HBD.out j hjn) HCOL.out).mono ?_
      rintro e w2 ⟨rfl, hx2⟩
      clear hcell
      by_cases hz : decE (L j) (F j) = 0
      · have hv : ∀ i, decV (L j) (F j) i = prs (F j) i := fun i => by unfold decV; rw [if_pos hz]
        rw [hz, hv, hv, hv, hv, hv, hv, hv, hv, hv, hv, hv, hv, hv]
        have X3 : Hid (Ext w (w2.alloc (.cells #[.int .i64 (prs (F j) 0), .int .i64 (prs (F j) 1), .int .i64 (prs (F j) 2), .int .i64 (prs (F j) 3), .int .i64 (prs (F j) 4), .int .i64 (prs (F j) 5), .int .i64 (prs (F j) 6), .int .i64 (prs (F j) 7), .int .i64 (prs (F j) 8), .int .i64 (prs (F j) 9), .int .i64 (prs (F j) 10), .int .i64 (prs (F j) 11), .int .i64 (prs (F j) 12)] 28))) := (hx.trans hx2).alloc _ _
        have T3 : Hid ((w2.alloc (.cells #[.int .i64 (prs (F j) 0), .int .i64 (prs (F j) 1), .int .i64 (prs (F j) 2), .int .i64 (prs (F j) 3), .int .i64 (prs (F j) 4), .int .i64 (prs (F j) 5), .int .i64 (prs (F j) 6), .int .i64 (prs (F j) 7), .int .i64 (prs (F j) 8), .int .i64 (prs (F j) 9), .int .i64 (prs (F j) 10), .int .i64 (prs (F j) 11), .int .i64 (prs (F j) 12)] 28)).rowIs w.heap.size 28 13 (ivs fun _ => 0)) := (hx2.rowIs HT.out).alloc _
        have B3 : Hid ((w2.alloc (.cells #[.int .i64 (prs (F j) 0), .int .i64 (prs (F j) 1), .int .i64 (prs (F j) 2), .int .i64 (prs (F j) 3), .int .i64 (prs (F j) 4), .int .i64 (prs (F j) 5), .int .i64 (prs (F j) 6), .int .i64 (prs (F j) 7), .int .i64 (prs (F j) 8), .int .i64 (prs (F j) 9), .int .i64 (prs (F j) 10), .int .i64 (prs (F j) 11), .int .i64 (prs (F j) 12)] 28)).rowIs (w.heap.size + 1) 28 13 (ivs (bV F p))) := (hx2.rowIs HB.out).alloc _
        have N3 : Hid ((w2.alloc (.cells #[.int .i64 (prs (F j) 0), .int .i64 (prs (F j) 1), .int .i64 (prs (F j) 2), .int .i64 (prs (F j) 3), .int .i64 (prs (F j) 4), .int .i64 (prs (F j) 5), .int .i64 (prs (F j) 6), .int .i64 (prs (F j) 7), .int .i64 (prs (F j) 8), .int .i64 (prs (F j) 9), .int .i64 (prs (F j) 10), .int .i64 (prs (F j) 11), .int .i64 (prs (F j) 12)] 28)).rowIs w2.heap.size 28 13 (ivs (prs (F j)))) := row13_alloc w2 28 (ivs (prs (F j)))
        go_upto_region 7 with fail
        have HZ : Hid (decE (L j) (F j) = 0) := hz
        generalize w2.alloc (.cells #[.int .i64 (prs (F j) 0), .int .i64 (prs (F j) 1), .int .i64 (prs (F j) 2), .int .i64 (prs (F j) 3), .int .i64 (prs (F j) 4), .int .i64 (prs (F j) 5), .int .i64 (prs (F j) 6), .int .i64 (prs (F j) 7), .int .i64 (prs (F j) 8), .int .i64 (prs (F j) 9), .int .i64 (prs (F j) 10), .int .i64 (prs (F j) 11), .int .i64 (prs (F j) 12)] 28) = w3 at *
        generalize w2.heap.size = gn at *
        clear hx2 HT HB HCOL hz hv hx
        have q0 := N3.out.cell (i := 0) (by omega)
        have c0 := B3.out.cell (i := 0) (by omega)
        have f0 := B3.out.frozen 0
        have q1 := N3.out.cell (i := 1) (by omega)
        have c1 := B3.out.cell (i := 1) (by omega)
        have f1 := B3.out.frozen 1
        have q2 := N3.out.cell (i := 2) (by omega)
        have c2 := B3.out.cell (i := 2) (by omega)
        have f2 := B3.out.frozen 2
        have q3 := N3.out.cell (i := 3) (by omega)
        have c3 := B3.out.cell (i := 3) (by omega)
        have f3 := B3.out.frozen 3
        have q4 := N3.out.cell (i := 4) (by omega)
        have c4 := B3.out.cell (i := 4) (by omega)
        have f4 := B3.out.frozen 4
        have q5 := N3.out.cell (i := 5) (by omega)
        have c5 := B3.out.cell (i := 5) (by omega)
        have f5 := B3.out.frozen 5
        have q6 := N3.out.cell (i := 6) (by omega)
        have c6 := B3.out.cell (i := 6) (by omega)
        have f6 := B3.out.frozen 6
        have q7 := N3.out.cell (i := 7) (by omega)
        have c7 := B3.out.cell (i := 7) (by omega)
        have f7 := B3.out.frozen 7
        have q8 := N3.out.cell (i := 8) (by omega)
        have c8 := B3.out.cell (i := 8) (by omega)
        have f8 := B3.out.frozen 8
        have q9 := N3.out.cell (i := 9) (by omega)
        have c9 := B3.out.cell (i := 9) (by omega)
        have f9 := B3.out.frozen 9
        have q10 := N3.out.cell (i := 10) (by omega)
        have c10 := B3.out.cell (i := 10) (by omega)
        have f10 := B3.out.frozen 10
        have q11 := N3.out.cell (i := 11) (by omega)
        have c11 := B3.out.cell (i := 11) (by omega)
        have f11 := B3.out.frozen 11
        have q12 := N3.out.cell (i := 12) (by omega)
        have c12 := B3.out.cell (i := 12) (by omega)
        have f12 := B3.out.frozen 12
        unfold ivs at c0 c1 c2 c3 c4 c5 c6 c7 c8 c9 c10 c11 c12 q0 q1 q2 q3 q4 q5 q6 q7 q8 q9 q10 q11 q12
        have HBV : Hid (bV F (j + 1) = prs (F j)) := funext fun i => by unfold bV; rw [if_neg (by omega), show j + 1 - 1 = j by omega]
        by_cases hp : p = 0
        · have hat : (p : Int) - 1 < 0 := by omega
          have HTK : Hid (IsB L F j n (j + 1)) := HI.out.take hjn HZ.out (Or.inl hp)
          obtain ⟨R9, X9⟩ := put13 (prs (F j)) X3.out (by show w.heap.size ≤ w.heap.size + 1; omega) B3.out
          have T9 := put13o (g := w.heap.size + 1) (prs (F j)) T3.out (by omega)
          have HR9 : Hid (_ ∧ _) := ⟨R9, X9⟩
          have HT9 : Hid (_ ∧ True) := ⟨T9, trivial⟩
          clear R9 X9 T9 hp
          go_wp2_with fail
          go_roundw
          case rel => exact ⟨j, j + 1, by omega, by go_num, by go_num, HTK, by omega, HR9.out.2, HT9.out.1, by rw [HBV.out]; exact HR9.out.1⟩
          case measure => simp [intOf]
        · have hat : ¬ (p : Int) - 1 < 0 := by omega
          by_cases hg : bV F p 4 ≤ prs (F j) 4
          · have HTK : Hid (IsB L F j n (j + 1)) := HI.out.take hjn HZ.out (Or.inr (by unfold bV at hg; rw [if_neg hp] at hg; exact hg))
            obtain ⟨R9, X9⟩ := put13 (prs (F j)) X3.out (by show w.heap.size ≤ w.heap.size + 1; omega) B3.out
            have T9 := put13o (g := w.heap.size + 1) (prs (F j)) T3.out (by omega)
            have HR9 : Hid (_ ∧ _) := ⟨R9, X9⟩
            have HT9 : Hid (_ ∧ True) := ⟨T9, trivial⟩
            clear R9 X9 T9 hp
            go_wp2_with fail
            go_roundw
            case rel => exact ⟨j, j + 1, by omega, by go_num, by go_num, HTK, by omega, HR9.out.2, HT9.out.1, by rw [HBV.out]; exact HR9.out.1⟩
            case measure => simp [intOf]
          · have HLV : Hid (IsB L F j n p) := HI.out.leave fun _ => ⟨hp, by unfold bV at hg; rw [if_neg hp] at hg; exact hg⟩
            clear hp
            go_wp2_with fail
            go_roundw
            case rel => exact ⟨j, p, by omega, by go_num, by go_num, HLV, hpn, X3.out, T3.out, B3.out⟩
            case measure => simp [intOf]
      · have hne : (decE (L j) (F j) == 0) = false := by rw [beq_eq_false_iff_ne]; exact hz
        have HLV : Hid (IsB L F j n p) := HI.out.leave fun h => absurd h hz
        have X3 : Hid (Ext w (w2.alloc (.cells #[.int .i64 (decV (L j) (F j) 0), .int .i64 (decV (L j) (F j) 1), .int .i64 (decV (L j) (F j) 2), .int .i64 (decV (L j) (F j) 3), .int .i64 (decV (L j) (F j) 4), .int .i64 (decV (L j) (F j) 5), .int .i64 (decV (L j) (F j) 6), .int .i64 (decV (L j) (F j) 7), .int .i64 (decV (L j) (F j) 8), .int .i64 (decV (L j) (F j) 9), .int .i64 (decV (L j) (F j) 10), .int .i64 (decV (L j) (F j) 11), .int .i64 (decV (L j) (F j) 12)] 28))) := (hx.trans hx2).alloc _ _
        have T3 : Hid ((w2.alloc (.cells #[.int .i64 (decV (L j) (F j) 0), .int .i64 (decV (L j) (F j) 1), .int .i64 (decV (L j) (F j) 2), .int .i64 (decV (L j) (F j) 3), .int .i64 (decV (L j) (F j) 4), .int .i64 (decV (L j) (F j) 5), .int .i64 (decV (L j) (F j) 6), .int .i64 (decV (L j) (F j) 7), .int .i64 (decV (L j) (F j) 8), .int .i64 (decV (L j) (F j) 9), .int .i64 (decV (L j) (F j) 10), .int .i64 (decV (L j) (F j) 11), .int .i64 (decV (L j) (F j) 12)] 28)).rowIs w.heap.size 28 13 (ivs fun _ => 0)) := (hx2.rowIs HT.out).alloc _
        have B3 : Hid ((w2.alloc (.cells #[.int .i64 (decV (L j) (F j) 0), .int .i64 (decV (L j) (F j) 1), .int .i64 (decV (L j) (F j) 2), .int .i64 (decV (L j) (F j) 3), .int .i64 (decV (L j) (F j) 4), .int .i64 (decV (L j) (F j) 5), .int .i64 (decV (L j) (F j) 6), .int .i64 (decV (L j) (F j) 7), .int .i64 (decV (L j) (F j) 8), .int .i64 (decV (L j) (F j) 9), .int .i64 (decV (L j) (F j) 10), .int .i64 (decV (L j) (F j) 11), .int .i64 (decV (L j) (F j) 12)] 28)).rowIs (w.heap.size + 1) 28 13 (ivs (bV F p))) := (hx2.rowIs HB.out).alloc _
        go_upto_region 7 with fail
        generalize w2.alloc (.cells #[.int .i64 (decV (L j) (F j) 0), .int .i64 (decV (L j) (F j) 1), .int .i64 (decV (L j) (F j) 2), .int .i64 (decV (L j) (F j) 3), .int .i64 (decV (L j) (F j) 4), .int .i64 (decV (L j) (F j) 5), .int .i64 (decV (L j) (F j) 6), .int .i64 (decV (L j) (F j) 7), .int .i64 (decV (L j) (F j) 8), .int .i64 (decV (L j) (F j) 9), .int .i64 (decV (L j) (F j) 10), .int .i64 (decV (L j) (F j) 11), .int .i64 (decV (L j) (F j) 12)] 28) = w3 at *
        generalize w2.heap.size = gn at *
        generalize decE (L j) (F j) = EE at *
        clear hx2 HT HB HCOL hz hx
        go_wp2_with fail
        go_roundw
        case rel => exact ⟨j, p, by omega, by go_num, by go_num, HLV, hpn, X3.out, T3.out, B3.out⟩
        case measure => simp [intOf]
end Go.Proofs.Ytemndnpbbkjmhab
