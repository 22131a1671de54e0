/-
  label.Best at every list of sectors; the world only grows.
-/
import Derived.Deep.CutRange
import Derived.Test.YtemndnpbbkjmhabLabDec2
namespace Go.Proofs.Ytemndnpbbkjmhab
open Go.RowKit Go.Deep E
/-- the best of the first k: its place (0: none yet), and one more -/
def bestP (L : Nat → Nat) (F : Nat → Nat → E) : Nat → Nat
  | 0 => 0
  | k + 1 => if decE (L k) (F k) = 0 ∧ (bestP L F k = 0 ∨ prs (F (bestP L F k - 1)) 4 < prs (F k) 4) then k + 1 else bestP L F k
theorem bestP_le (L : Nat → Nat) (F : Nat → Nat → E) : ∀ k, bestP L F k ≤ k
  | 0 => Nat.le_refl _
  | k + 1 => by
    have := bestP_le L F k
    unfold bestP
    split <;> omega
theorem bestP_ok (L : Nat → Nat) (F : Nat → Nat → E) : ∀ k, bestP L F k ≠ 0 → decE (L (bestP L F k - 1)) (F (bestP L F k - 1)) = 0
  | 0, h => absurd rfl h
  | k + 1, h => by
    unfold bestP at h ⊢
    by_cases hc : decE (L k) (F k) = 0 ∧ (bestP L F k = 0 ∨ prs (F (bestP L F k - 1)) 4 < prs (F k) 4)
    · rw [if_pos hc]; exact hc.1
    · rw [if_neg hc] at h ⊢
      exact bestP_ok L F k h
/-- the answer: numbers, place, error -/
def bestV (L : Nat → Nat) (F : Nat → Nat → E) (n k : Nat) : Int := if bestP L F n = 0 then 0 else prs (F (bestP L F n - 1)) k
def bestI (L : Nat → Nat) (F : Nat → Nat → E) (n : Nat) : Int := ((bestP L F n - 1 : Nat) : Int)
def bestE (L : Nat → Nat) (F : Nat → Nat → E) (n : Nat) : Int := if bestP L F n = 0 then 6 else 0
theorem best_take {L : Nat → Nat} {F : Nat → Nat → E} {k : Nat} (h : decE (L k) (F k) = 0 ∧ (bestP L F k = 0 ∨ bestV L F k 4 < prs (F k) 4)) : bestP L F (k + 1) = k + 1 := by
  unfold bestP
  rw [if_pos]
  refine ⟨h.1, ?_⟩
  rcases h.2 with h2 | h2
  · exact Or.inl h2
  · by_cases h0 : bestP L F k = 0
    · exact Or.inl h0
    · unfold bestV at h2
      rw [if_neg h0] at h2
      exact Or.inr h2
theorem best_leave {L : Nat → Nat} {F : Nat → Nat → E} {k : Nat} (h : decE (L k) (F k) = 0 → bestP L F k ≠ 0 ∧ ¬ bestV L F k 4 < prs (F k) 4) : bestP L F (k + 1) = bestP L F k := by
  conv => lhs; unfold bestP
  rw [if_neg]
  rintro ⟨h1, h2⟩
  obtain ⟨h3, h4⟩ := h h1
  unfold bestV at h4
  rw [if_neg h3] at h4
  rcases h2 with h2 | h2
  · exact h3 h2
  · exact h4 h2
theorem took {L : Nat → Nat} {F : Nat → Nat → E} {k : Nat} (h : bestP L F (k + 1) = k + 1) : bestV L F (k + 1) = prs (F k) ∧ bestI L F (k + 1) = (k : Int) ∧ bestE L F (k + 1) = 0 := by
  refine ⟨?_, ?_, ?_⟩
  · funext j
    unfold bestV
    rw [h, if_neg (by omega), show k + 1 - 1 = k by omega]
  · unfold bestI
    rw [h]
    rfl
  · unfold bestE
    rw [h, if_neg (by omega)]
theorem left_as {L : Nat → Nat} {F : Nat → Nat → E} {k : Nat} (h : bestP L F (k + 1) = bestP L F k) : bestV L F (k + 1) = bestV L F k ∧ bestI L F (k + 1) = bestI L F k ∧ bestE L F (k + 1) = bestE L F k := by
  refine ⟨?_, ?_, ?_⟩
  · funext j
    unfold bestV
    rw [h]
  · unfold bestI
    rw [h]
  · unfold bestE
    rw [h]
theorem results_cell3 {P : Program} {fn : Func} {p q r : Tmp} {ty : TypeId} (h : fn.results = #[.cell p ty, .tmp q, .tmp r]) (tmps : Array Value) (w : World) (g : Nat) (t : TypeId) (cs : Array Value) (fr : Nat × Nat) (d : TypeDesc) (v u : Value)
    (hp : tmps.getD p undef = .pointer (some ⟨g, 0, none⟩)) (hq : tmps.getD q undef = v) (hr : tmps.getD r undef = u) (hg : w.heap[g]? = some (.cells cs t fr))
    (hu : P.underlying ty = some d) (hd : (match d with | .struct _ | .array _ _ => true | _ => false) = true) (hi : (P.info? ty).map (·.size) = some cs.size) :
    (results fn tmps).run P w = .ok (.tuple #[.agg cs, v, u]) w := by
  have hp' : tmps[p]?.getD undef = .pointer (some ⟨g, 0, none⟩) := by simpa using hp
  have hq' : tmps[q]?.getD undef = v := by simpa using hq
  have hr' : tmps[r]?.getD undef = u := by simpa using hr
  simp [results, h, hp', hq', hr', asAddr, run_loadVar_row w g t ty cs fr d hg hu hd hi]
theorem put13o {w : World} {g h : Nat} {t : TypeId} {f : Nat → Value} (S : Nat → Int) (hr : w.rowIs h t 13 f) (hne : h ≠ g) : (((((((((((((w.setCell ⟨g, 0, none⟩ (.int .i64 (S 0))).setCell ⟨g, 1, none⟩ (.int .i64 (S 1))).setCell ⟨g, 2, none⟩ (.int .i64 (S 2))).setCell ⟨g, 3, none⟩ (.int .i64 (S 3))).setCell ⟨g, 4, none⟩ (.int .i64 (S 4))).setCell ⟨g, 5, none⟩ (.int .i64 (S 5))).setCell ⟨g, 6, none⟩ (.int .i64 (S 6))).setCell ⟨g, 7, none⟩ (.int .i64 (S 7))).setCell ⟨g, 8, none⟩ (.int .i64 (S 8))).setCell ⟨g, 9, none⟩ (.int .i64 (S 9))).setCell ⟨g, 10, none⟩ (.int .i64 (S 10))).setCell ⟨g, 11, none⟩ (.int .i64 (S 11))).setCell ⟨g, 12, none⟩ (.int .i64 (S 12))).rowIs h t 13 f := by
  have z : Wro (· = g) w w := Wro.refl _ _
  exact Wro.rowIs (S := (· = g)) (((((((((((((z.setCell (p := ⟨g, 0, none⟩) rfl _).setCell (p := ⟨g, 1, none⟩) rfl _).setCell (p := ⟨g, 2, none⟩) rfl _).setCell (p := ⟨g, 3, none⟩) rfl _).setCell (p := ⟨g, 4, none⟩) rfl _).setCell (p := ⟨g, 5, none⟩) rfl _).setCell (p := ⟨g, 6, none⟩) rfl _).setCell (p := ⟨g, 7, none⟩) rfl _).setCell (p := ⟨g, 8, none⟩) rfl _).setCell (p := ⟨g, 9, none⟩) rfl _).setCell (p := ⟨g, 10, none⟩) rfl _).setCell (p := ⟨g, 11, none⟩) rfl _).setCell (p := ⟨g, 12, none⟩) rfl _) hr (by show ¬ h = g; exact hne)
set_option maxRecDepth 100000 in
set_option maxHeartbeats 6400000 in
theorem Best_any (a : Option Addr) (n c : Nat) (A : Nat → Option Addr) (L C : Nat → Nat) (F : Nat → Nat → E) (w : World) (hn : n ≤ 9223372036854775807) (hb : ∀ r, r < n → L r ≤ C r ∧ C r ≤ 9223372036854775807) (h : Cols w a n A L C F) :
    Calls Try.prog 12 #[.slice a n c] w fun e w' => e = .returned (.tuple #[.agg #[.int .i64 (bestV L F n 0), .int .i64 (bestV L F n 1), .int .i64 (bestV L F n 2), .int .i64 (bestV L F n 3), .int .i64 (bestV L F n 4), .int .i64 (bestV L F n 5), .int .i64 (bestV L F n 6), .int .i64 (bestV L F n 7), .int .i64 (bestV L F n 8), .int .i64 (bestV L F n 9), .int .i64 (bestV L F n 10), .int .i64 (bestV L F n 11), .int .i64 (bestV L F n 12)], .int .i64 (bestI L F n), .int .i64 (bestE L F n)]) ∧ Ext w w' := by
  have HC : Hid (Cols w a n A L C F) := h
  have HBD : Hid (∀ r, r < n → L r ≤ C r ∧ C r ≤ 9223372036854775807) := hb
  have HNN : Hid (n ≤ 9223372036854775807) := hn
  have X0 : Hid (Ext w ((w.alloc (.cells #[.int .i64 ((fun _ => (0 : Int)) 0), .int .i64 ((fun _ => (0 : Int)) 1), .int .i64 ((fun _ => (0 : Int)) 2), .int .i64 ((fun _ => (0 : Int)) 3), .int .i64 ((fun _ => (0 : Int)) 4), .int .i64 ((fun _ => (0 : Int)) 5), .int .i64 ((fun _ => (0 : Int)) 6), .int .i64 ((fun _ => (0 : Int)) 7), .int .i64 ((fun _ => (0 : Int)) 8), .int .i64 ((fun _ => (0 : Int)) 9), .int .i64 ((fun _ => (0 : Int)) 10), .int .i64 ((fun _ => (0 : Int)) 11), .int .i64 ((fun _ => (0 : Int)) 12)] 28)).alloc (.cells #[.int .i64 ((fun _ => (0 : Int)) 0), .int .i64 ((fun _ => (0 : Int)) 1), .int .i64 ((fun _ => (0 : Int)) 2), .int .i64 ((fun _ => (0 : Int)) 3), .int .i64 ((fun _ => (0 : Int)) 4), .int .i64 ((fun _ => (0 : Int)) 5), .int .i64 ((fun _ => (0 : Int)) 6), .int .i64 ((fun _ => (0 : Int)) 7), .int .i64 ((fun _ => (0 : Int)) 8), .int .i64 ((fun _ => (0 : Int)) 9), .int .i64 ((fun _ => (0 : Int)) 10), .int .i64 ((fun _ => (0 : Int)) 11), .int .i64 ((fun _ => (0 : Int)) 12)] 28))) := ((Ext.refl _).alloc _ _).alloc _ _
  have T0 : Hid (((w.alloc (.cells #[.int .i64 ((fun _ => (0 : Int)) 0), .int .i64 ((fun _ => (0 : Int)) 1), .int .i64 ((fun _ => (0 : Int)) 2), .int .i64 ((fun _ => (0 : Int)) 3), .int .i64 ((fun _ => (0 : Int)) 4), .int .i64 ((fun _ => (0 : Int)) 5), .int .i64 ((fun _ => (0 : Int)) 6), .int .i64 ((fun _ => (0 : Int)) 7), .int .i64 ((fun _ => (0 : Int)) 8), .int .i64 ((fun _ => (0 : Int)) 9), .int .i64 ((fun _ => (0 : Int)) 10), .int .i64 ((fun _ => (0 : Int)) 11), .int .i64 ((fun _ => (0 : Int)) 12)] 28)).alloc (.cells #[.int .i64 ((fun _ => (0 : Int)) 0), .int .i64 ((fun _ => (0 : Int)) 1), .int .i64 ((fun _ => (0 : Int)) 2), .int .i64 ((fun _ => (0 : Int)) 3), .int .i64 ((fun _ => (0 : Int)) 4), .int .i64 ((fun _ => (0 : Int)) 5), .int .i64 ((fun _ => (0 : Int)) 6), .int .i64 ((fun _ => (0 : Int)) 7), .int .i64 ((fun _ => (0 : Int)) 8), .int .i64 ((fun _ => (0 : Int)) 9), .int .i64 ((fun _ => (0 : Int)) 10), .int .i64 ((fun _ => (0 : Int)) 11), .int .i64 ((fun _ => (0 : Int)) 12)] 28)).rowIs w.heap.size 28 13 (ivs fun _ => 0)) := (row13_alloc w 28 (ivs fun _ => 0)).alloc _
  have B0 : Hid (((w.alloc (.cells #[.int .i64 ((fun _ => (0 : Int)) 0), .int .i64 ((fun _ => (0 : Int)) 1), .int .i64 ((fun _ => (0 : Int)) 2), .int .i64 ((fun _ => (0 : Int)) 3), .int .i64 ((fun _ => (0 : Int)) 4), .int .i64 ((fun _ => (0 : Int)) 5), .int .i64 ((fun _ => (0 : Int)) 6), .int .i64 ((fun _ => (0 : Int)) 7), .int .i64 ((fun _ => (0 : Int)) 8), .int .i64 ((fun _ => (0 : Int)) 9), .int .i64 ((fun _ => (0 : Int)) 10), .int .i64 ((fun _ => (0 : Int)) 11), .int .i64 ((fun _ => (0 : Int)) 12)] 28)).alloc (.cells #[.int .i64 ((fun _ => (0 : Int)) 0), .int .i64 ((fun _ => (0 : Int)) 1), .int .i64 ((fun _ => (0 : Int)) 2), .int .i64 ((fun _ => (0 : Int)) 3), .int .i64 ((fun _ => (0 : Int)) 4), .int .i64 ((fun _ => (0 : Int)) 5), .int .i64 ((fun _ => (0 : Int)) 6), .int .i64 ((fun _ => (0 : Int)) 7), .int .i64 ((fun _ => (0 : Int)) 8), .int .i64 ((fun _ => (0 : Int)) 9), .int .i64 ((fun _ => (0 : Int)) 10), .int .i64 ((fun _ => (0 : Int)) 11), .int .i64 ((fun _ => (0 : Int)) 12)] 28)).rowIs (w.heap.size + 1) 28 13 (ivs (bestV L F 0))) := by
    have := row13_alloc (w.alloc (.cells #[.int .i64 ((fun _ => (0 : Int)) 0), .int .i64 ((fun _ => (0 : Int)) 1), .int .i64 ((fun _ => (0 : Int)) 2), .int .i64 ((fun _ => (0 : Int)) 3), .int .i64 ((fun _ => (0 : Int)) 4), .int .i64 ((fun _ => (0 : Int)) 5), .int .i64 ((fun _ => (0 : Int)) 6), .int .i64 ((fun _ => (0 : Int)) 7), .int .i64 ((fun _ => (0 : Int)) 8), .int .i64 ((fun _ => (0 : Int)) 9), .int .i64 ((fun _ => (0 : Int)) 10), .int .i64 ((fun _ => (0 : Int)) 11), .int .i64 ((fun _ => (0 : Int)) 12)] 28)) 28 (ivs fun _ => 0)
    simp only [World.size_alloc] at this
    exact this
  clear h hb hn
  go_enter Try.func12, Try.ntmps12
  go_wp2_with fail
  generalize ((w.alloc (.cells #[.int .i64 ((fun _ => (0 : Int)) 0), .int .i64 ((fun _ => (0 : Int)) 1), .int .i64 ((fun _ => (0 : Int)) 2), .int .i64 ((fun _ => (0 : Int)) 3), .int .i64 ((fun _ => (0 : Int)) 4), .int .i64 ((fun _ => (0 : Int)) 5), .int .i64 ((fun _ => (0 : Int)) 6), .int .i64 ((fun _ => (0 : Int)) 7), .int .i64 ((fun _ => (0 : Int)) 8), .int .i64 ((fun _ => (0 : Int)) 9), .int .i64 ((fun _ => (0 : Int)) 10), .int .i64 ((fun _ => (0 : Int)) 11), .int .i64 ((fun _ => (0 : Int)) 12)] 28)).alloc (.cells #[.int .i64 ((fun _ => (0 : Int)) 0), .int .i64 ((fun _ => (0 : Int)) 1), .int .i64 ((fun _ => (0 : Int)) 2), .int .i64 ((fun _ => (0 : Int)) 3), .int .i64 ((fun _ => (0 : Int)) 4), .int .i64 ((fun _ => (0 : Int)) 5), .int .i64 ((fun _ => (0 : Int)) 6), .int .i64 ((fun _ => (0 : Int)) 7), .int .i64 ((fun _ => (0 : Int)) 8), .int .i64 ((fun _ => (0 : Int)) 9), .int .i64 ((fun _ => (0 : Int)) 10), .int .i64 ((fun _ => (0 : Int)) 11), .int .i64 ((fun _ => (0 : Int)) 12)] 28)) = w0 at *
  go_loopw [6, 7, 15] (fun v6 v7 i wr => ∃ k : Nat, k ≤ n ∧ i = .int .i64 k ∧ v6 = .int .i64 (bestI L F k) ∧ v7 = .int .i64 (bestE L F k) ∧ Ext w wr ∧ wr.rowIs w.heap.size 28 13 (ivs fun _ => 0) ∧ wr.rowIs (w.heap.size + 1) 28 13 (ivs (bestV L F k))) (fun _ _ i _ => n - (intOf i).toNat)
  case atStart => exact ⟨0, Nat.zero_le _, rfl, rfl, rfl, X0.out, T0.out, B0.out⟩
  case round =>
    obtain ⟨k, hk, rfl, rfl, rfl, hx, ht, hbr⟩ := hrel
    have HT : Hid (wr.rowIs w.heap.size 28 13 (ivs fun _ => 0)) := ht
    have HB : Hid (wr.rowIs (w.heap.size + 1) 28 13 (ivs (bestV L F k))) := hbr
    clear ht hbr X0 T0 B0
    by_cases hlt : k < n
    · obtain ⟨⟨bb, ob, rfl, hcell⟩, hcol⟩ := (HC.out.ext hx) k hlt
      have HCOL : Hid (Byts wr (A k) (L k) (F k)) := hcol
      have hkn : (k : Int) < (n : Int) := by omega
      have hnn := HNN.out
      clear hcol
      go_wp2_with fail
      refine (Decode_any (A k) (L k) (C k) (F k) _ (HBD.out k hlt) HCOL.out).mono ?_
      rintro e w2 ⟨rfl, hx2⟩
      have hltop := hlt
      clear hcell
      by_cases hz : decE (L k) (F k) = 0
      · have hv : ∀ j, decV (L k) (F k) j = prs (F k) j := fun j => by unfold decV; rw [if_pos hz]
        rw [hz, hv, hv, hv, hv, hv, hv, hv, hv, hv, hv, hv, hv, hv]
        have X3 : Hid (Ext w (w2.alloc (.cells #[.int .i64 (prs (F k) 0), .int .i64 (prs (F k) 1), .int .i64 (prs (F k) 2), .int .i64 (prs (F k) 3), .int .i64 (prs (F k) 4), .int .i64 (prs (F k) 5), .int .i64 (prs (F k) 6), .int .i64 (prs (F k) 7), .int .i64 (prs (F k) 8), .int .i64 (prs (F k) 9), .int .i64 (prs (F k) 10), .int .i64 (prs (F k) 11), .int .i64 (prs (F k) 12)] 28))) := (hx.trans hx2).alloc _ _
        have T3 : Hid ((w2.alloc (.cells #[.int .i64 (prs (F k) 0), .int .i64 (prs (F k) 1), .int .i64 (prs (F k) 2), .int .i64 (prs (F k) 3), .int .i64 (prs (F k) 4), .int .i64 (prs (F k) 5), .int .i64 (prs (F k) 6), .int .i64 (prs (F k) 7), .int .i64 (prs (F k) 8), .int .i64 (prs (F k) 9), .int .i64 (prs (F k) 10), .int .i64 (prs (F k) 11), .int .i64 (prs (F k) 12)] 28)).rowIs w.heap.size 28 13 (ivs fun _ => 0)) := (hx2.rowIs HT.out).alloc _
        have B3 : Hid ((w2.alloc (.cells #[.int .i64 (prs (F k) 0), .int .i64 (prs (F k) 1), .int .i64 (prs (F k) 2), .int .i64 (prs (F k) 3), .int .i64 (prs (F k) 4), .int .i64 (prs (F k) 5), .int .i64 (prs (F k) 6), .int .i64 (prs (F k) 7), .int .i64 (prs (F k) 8), .int .i64 (prs (F k) 9), .int .i64 (prs (F k) 10), .int .i64 (prs (F k) 11), .int .i64 (prs (F k) 12)] 28)).rowIs (w.heap.size + 1) 28 13 (ivs (bestV L F k))) := (hx2.rowIs HB.out).alloc _
        have N3 : Hid ((w2.alloc (.cells #[.int .i64 (prs (F k) 0), .int .i64 (prs (F k) 1), .int .i64 (prs (F k) 2), .int .i64 (prs (F k) 3), .int .i64 (prs (F k) 4), .int .i64 (prs (F k) 5), .int .i64 (prs (F k) 6), .int .i64 (prs (F k) 7), .int .i64 (prs (F k) 8), .int .i64 (prs (F k) 9), .int .i64 (prs (F k) 10), .int .i64 (prs (F k) 11), .int .i64 (prs (F k) 12)] 28)).rowIs w2.heap.size 28 13 (ivs (prs (F k)))) := row13_alloc w2 28 (ivs (prs (F k)))
        go_upto_region 6 with fail
        have HZ : Hid (decE (L k) (F k) = 0) := hz
        generalize w2.alloc (.cells #[.int .i64 (prs (F k) 0), .int .i64 (prs (F k) 1), .int .i64 (prs (F k) 2), .int .i64 (prs (F k) 3), .int .i64 (prs (F k) 4), .int .i64 (prs (F k) 5), .int .i64 (prs (F k) 6), .int .i64 (prs (F k) 7), .int .i64 (prs (F k) 8), .int .i64 (prs (F k) 9), .int .i64 (prs (F k) 10), .int .i64 (prs (F k) 11), .int .i64 (prs (F k) 12)] 28) = w3 at *
        generalize w2.heap.size = gn at *
        clear hx2 HT HB HCOL hz hv hx
        have q0 := N3.out.cell (i := 0) (by omega)
        have c0 := B3.out.cell (i := 0) (by omega)
        have f0 := B3.out.frozen 0
        have q1 := N3.out.cell (i := 1) (by omega)
        have c1 := B3.out.cell (i := 1) (by omega)
        have f1 := B3.out.frozen 1
        have q2 := N3.out.cell (i := 2) (by omega)
        have c2 := B3.out.cell (i := 2) (by omega)
        have f2 := B3.out.frozen 2
        have q3 := N3.out.cell (i := 3) (by omega)
        have c3 := B3.out.cell (i := 3) (by omega)
        have f3 := B3.out.frozen 3
        have q4 := N3.out.cell (i := 4) (by omega)
        have c4 := B3.out.cell (i := 4) (by omega)
        have f4 := B3.out.frozen 4
        have q5 := N3.out.cell (i := 5) (by omega)
        have c5 := B3.out.cell (i := 5) (by omega)
        have f5 := B3.out.frozen 5
        have q6 := N3.out.cell (i := 6) (by omega)
        have c6 := B3.out.cell (i := 6) (by omega)
        have f6 := B3.out.frozen 6
        have q7 := N3.out.cell (i := 7) (by omega)
        have c7 := B3.out.cell (i := 7) (by omega)
        have f7 := B3.out.frozen 7
        have q8 := N3.out.cell (i := 8) (by omega)
        have c8 := B3.out.cell (i := 8) (by omega)
        have f8 := B3.out.frozen 8
        have q9 := N3.out.cell (i := 9) (by omega)
        have c9 := B3.out.cell (i := 9) (by omega)
        have f9 := B3.out.frozen 9
        have q10 := N3.out.cell (i := 10) (by omega)
        have c10 := B3.out.cell (i := 10) (by omega)
        have f10 := B3.out.frozen 10
        have q11 := N3.out.cell (i := 11) (by omega)
        have c11 := B3.out.cell (i := 11) (by omega)
        have f11 := B3.out.frozen 11
        have q12 := N3.out.cell (i := 12) (by omega)
        have c12 := B3.out.cell (i := 12) (by omega)
        have f12 := B3.out.frozen 12
        unfold ivs at c0 c1 c2 c3 c4 c5 c6 c7 c8 c9 c10 c11 c12 q0 q1 q2 q3 q4 q5 q6 q7 q8 q9 q10 q11 q12
        by_cases hp : bestP L F k = 0
        · have hE : bestE L F k = 6 := by unfold bestE; rw [if_pos hp]
          have HTK := took (best_take ⟨HZ.out, Or.inl hp⟩)
          rw [hE]
          obtain ⟨R9, X9⟩ := put13 (prs (F k)) X3.out (by show w.heap.size ≤ w.heap.size + 1; omega) B3.out
          have T9 := put13o (g := w.heap.size + 1) (prs (F k)) T3.out (by omega)
          have HR9 : Hid (_ ∧ _) := ⟨R9, X9⟩
          have HT9 : Hid (_ ∧ True) := ⟨T9, trivial⟩
          have HHTK : Hid (_ ∧ True) := ⟨HTK, trivial⟩
          clear R9 X9 T9 HTK hp hE
          go_wp2_with fail
          go_roundw
          case rel =>
            obtain ⟨⟨e1, e2, e3⟩, _⟩ := HHTK.out
            refine ⟨k + 1, by omega, by go_num, by rw [e2], by rw [e3], HR9.out.2, HT9.out.1, ?_⟩
            rw [e1]
            exact HR9.out.1
          case measure => simp [intOf]; omega
        · have hE : bestE L F k = 0 := by unfold bestE; rw [if_neg hp]
          rw [hE]
          by_cases hg : bestV L F k 4 < prs (F k) 4
          · have HTK := took (best_take ⟨HZ.out, Or.inr hg⟩)
            obtain ⟨R9, X9⟩ := put13 (prs (F k)) X3.out (by show w.heap.size ≤ w.heap.size + 1; omega) B3.out
            have T9 := put13o (g := w.heap.size + 1) (prs (F k)) T3.out (by omega)
            have HR9 : Hid (_ ∧ _) := ⟨R9, X9⟩
            have HT9 : Hid (_ ∧ True) := ⟨T9, trivial⟩
            have HHTK : Hid (_ ∧ True) := ⟨HTK, trivial⟩
            clear R9 X9 T9 HTK hp hE
            go_wp2_with fail
            go_roundw
            case rel =>
              obtain ⟨⟨e1, e2, e3⟩, _⟩ := HHTK.out
              refine ⟨k + 1, by omega, by go_num, by rw [e2], by rw [e3], HR9.out.2, HT9.out.1, ?_⟩
              rw [e1]
              exact HR9.out.1
            case measure => simp [intOf]; omega
          · have HLV := left_as (best_leave (L := L) (F := F) (k := k) fun _ => ⟨hp, hg⟩)
            have HHLV : Hid (_ ∧ True) := ⟨HLV, trivial⟩
            have HE0 : Hid (bestE L F k = 0) := hE
            clear HLV hp hE
            go_wp2_with fail
            go_roundw
            case rel =>
              obtain ⟨⟨e1, e2, e3⟩, _⟩ := HHLV.out
              refine ⟨k + 1, by omega, by go_num, by rw [e2], by rw [e3, HE0.out], X3.out, T3.out, ?_⟩
              rw [e1]
              exact B3.out
            case measure => simp [intOf]; omega
      · have hne : (decE (L k) (F k) == 0) = false := by rw [beq_eq_false_iff_ne]; exact hz
        have HLV := left_as (best_leave (L := L) (F := F) (k := k) fun h => absurd h hz)
        have HHLV : Hid (_ ∧ True) := ⟨HLV, trivial⟩
        have X3 : Hid (Ext w (w2.alloc (.cells #[.int .i64 (decV (L k) (F k) 0), .int .i64 (decV (L k) (F k) 1), .int .i64 (decV (L k) (F k) 2), .int .i64 (decV (L k) (F k) 3), .int .i64 (decV (L k) (F k) 4), .int .i64 (decV (L k) (F k) 5), .int .i64 (decV (L k) (F k) 6), .int .i64 (decV (L k) (F k) 7), .int .i64 (decV (L k) (F k) 8), .int .i64 (decV (L k) (F k) 9), .int .i64 (decV (L k) (F k) 10), .int .i64 (decV (L k) (F k) 11), .int .i64 (decV (L k) (F k) 12)] 28))) := (hx.trans hx2).alloc _ _
        have T3 : Hid ((w2.alloc (.cells #[.int .i64 (decV (L k) (F k) 0), .int .i64 (decV (L k) (F k) 1), .int .i64 (decV (L k) (F k) 2), .int .i64 (decV (L k) (F k) 3), .int .i64 (decV (L k) (F k) 4), .int .i64 (decV (L k) (F k) 5), .int .i64 (decV (L k) (F k) 6), .int .i64 (decV (L k) (F k) 7), .int .i64 (decV (L k) (F k) 8), .int .i64 (decV (L k) (F k) 9), .int .i64 (decV (L k) (F k) 10), .int .i64 (decV (L k) (F k) 11), .int .i64 (decV (L k) (F k) 12)] 28)).rowIs w.heap.size 28 13 (ivs fun _ => 0)) := (hx2.rowIs HT.out).alloc _
        have B3 : Hid ((w2.alloc (.cells #[.int .i64 (decV (L k) (F k) 0), .int .i64 (decV (L k) (F k) 1), .int .i64 (decV (L k) (F k) 2), .int .i64 (decV (L k) (F k) 3), .int .i64 (decV (L k) (F k) 4), .int .i64 (decV (L k) (F k) 5), .int .i64 (decV (L k) (F k) 6), .int .i64 (decV (L k) (F k) 7), .int .i64 (decV (L k) (F k) 8), .int .i64 (decV (L k) (F k) 9), .int .i64 (decV (L k) (F k) 10), .int .i64 (decV (L k) (F k) 11), .int .i64 (decV (L k) (F k) 12)] 28)).rowIs (w.heap.size + 1) 28 13 (ivs (bestV L F k))) := (hx2.rowIs HB.out).alloc _
        go_upto_region 6 with fail
        generalize w2.alloc (.cells #[.int .i64 (decV (L k) (F k) 0), .int .i64 (decV (L k) (F k) 1), .int .i64 (decV (L k) (F k) 2), .int .i64 (decV (L k) (F k) 3), .int .i64 (decV (L k) (F k) 4), .int .i64 (decV (L k) (F k) 5), .int .i64 (decV (L k) (F k) 6), .int .i64 (decV (L k) (F k) 7), .int .i64 (decV (L k) (F k) 8), .int .i64 (decV (L k) (F k) 9), .int .i64 (decV (L k) (F k) 10), .int .i64 (decV (L k) (F k) 11), .int .i64 (decV (L k) (F k) 12)] 28) = w3 at *
        generalize w2.heap.size = gn at *
        generalize decE (L k) (F k) = EE at *
        clear hx2 HT HB HCOL HLV hz hx
        go_wp2_with fail
        go_roundw
        case rel =>
          obtain ⟨⟨e1, e2, e3⟩, _⟩ := HHLV.out
          refine ⟨k + 1, by omega, by go_num, by rw [e2], by rw [e3], X3.out, T3.out, ?_⟩
          rw [e1]
          exact B3.out
        case measure => simp [intOf]; omega
    · obtain rfl : k = n := by omega
      have q0 := HB.out.cell (i := 0) (by omega)
      have c0 := HT.out.cell (i := 0) (by omega)
      have f0 := HT.out.frozen 0
      have q1 := HB.out.cell (i := 1) (by omega)
      have c1 := HT.out.cell (i := 1) (by omega)
      have f1 := HT.out.frozen 1
      have q2 := HB.out.cell (i := 2) (by omega)
      have c2 := HT.out.cell (i := 2) (by omega)
      have f2 := HT.out.frozen 2
      have q3 := HB.out.cell (i := 3) (by omega)
      have c3 := HT.out.cell (i := 3) (by omega)
      have f3 := HT.out.frozen 3
      have q4 := HB.out.cell (i := 4) (by omega)
      have c4 := HT.out.cell (i := 4) (by omega)
      have f4 := HT.out.frozen 4
      have q5 := HB.out.cell (i := 5) (by omega)
      have c5 := HT.out.cell (i := 5) (by omega)
      have f5 := HT.out.frozen 5
      have q6 := HB.out.cell (i := 6) (by omega)
      have c6 := HT.out.cell (i := 6) (by omega)
      have f6 := HT.out.frozen 6
      have q7 := HB.out.cell (i := 7) (by omega)
      have c7 := HT.out.cell (i := 7) (by omega)
      have f7 := HT.out.frozen 7
      have q8 := HB.out.cell (i := 8) (by omega)
      have c8 := HT.out.cell (i := 8) (by omega)
      have f8 := HT.out.frozen 8
      have q9 := HB.out.cell (i := 9) (by omega)
      have c9 := HT.out.cell (i := 9) (by omega)
      have f9 := HT.out.frozen 9
      have q10 := HB.out.cell (i := 10) (by omega)
      have c10 := HT.out.cell (i := 10) (by omega)
      have f10 := HT.out.frozen 10
      have q11 := HB.out.cell (i := 11) (by omega)
      have c11 := HT.out.cell (i := 11) (by omega)
      have f11 := HT.out.frozen 11
      have q12 := HB.out.cell (i := 12) (by omega)
      have c12 := HT.out.cell (i := 12) (by omega)
      have f12 := HT.out.frozen 12
      unfold ivs at c0 c1 c2 c3 c4 c5 c6 c7 c8 c9 c10 c11 c12 q0 q1 q2 q3 q4 q5 q6 q7 q8 q9 q10 q11 q12
      go_wp2_with fail
      have R9 := put13 (bestV L F k) hx (Nat.le_refl _) HT.out
      have hin : (Try.prog.info? 28).map (·.size) = some 13 := by kernel_rfl
      refine bodyPost_ret (results_cell3 rfl _ _ w.heap.size 28 #[ivs (bestV L F k) 0, ivs (bestV L F k) 1, ivs (bestV L F k) 2, ivs (bestV L F k) 3, ivs (bestV L F k) 4, ivs (bestV L F k) 5, ivs (bestV L F k) 6, ivs (bestV L F k) 7, ivs (bestV L F k) 8, ivs (bestV L F k) 9, ivs (bestV L F k) 10, ivs (bestV L F k) 11, ivs (bestV L F k) 12] (0, 0) _ (.int .i64 (bestI L F k)) (.int .i64 (bestE L F k)) rfl rfl rfl (row13 R9.1) Try.underlying28 rfl (in13 hin (ivs (bestV L F k)))) rfl ?_
      exact ⟨rfl, R9.2⟩
end Go.Proofs.Ytemndnpbbkjmhab
