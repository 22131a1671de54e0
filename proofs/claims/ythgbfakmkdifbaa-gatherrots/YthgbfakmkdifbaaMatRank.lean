/-
  mat.Rank and mat.Invert at every matrix, as plain functions; the world only grows.
-/
import Derived.Test.YthgbfakmkdifbaaChecked
import Derived.WalkKit
import Derived.BigQuiet
import Derived.Deep.RegionHeld3
import Derived.Test.YthgbfakmkdifbaaMatMul
import Derived.Test.YthgbfakmkdifbaaMatCopied
import Derived.Test.YthgbfakmkdifbaaMatReduce
import Derived.Test.YthgbfakmkdifbaaAlg
namespace Go.Proofs.Ythgbfakmkdifbaa
open Go.RowKit Go.Deep E
/-- the elements of a matrix that may be -/
def elsOf (F : Nat → Nat → Int) (r i : Nat) : E := of (F r i)
theorem MEls.mat {n : Nat} {L : Nat → Nat} {F : Nat → Nat → Int} (h : MEls n L F) {w : World} {a : Option Addr} {A : Nat → Option Addr} {C : Nat → Nat} (hm : Mat w a n A L C F) : Mat w a n A (fun _ => L 0) C fun r i => ev (elsOf F r i) := by
  intro r hr
  have k := hm r hr
  have hl := (h r hr).1
  refine ⟨?_, ?_⟩
  · show ∃ b o, a = some ⟨b, o, none⟩ ∧ w.cell? ⟨b, o + r, none⟩ = some (.slice (A r) (L 0) (C r))
    rw [← hl]; exact k.1
  · show Ints w (A r) (L 0) fun i => ev (of (F r i))
    rw [← hl]; exact h.row hm hr
def rankE (n : Nat) (L : Nat → Nat) (F : Nat → Nat → Int) : Int := if mayB n L F then 0 else 4
def rankV (n : Nat) (L : Nat → Nat) (F : Nat → Nat → Int) : Int := if mayB n L F then ((redTo n (elsOf F) (L 0)).2 : Int) else 0
/-- a matrix that was made, with its blocks all new -/
theorem Bld.rst {w w1 w2 : World} {B n m : Nat} {Z M' : Nat → Nat → E} {G G' : Nat → Nat} (h : Bld w w1 B n m n Z G) (hB : w.heap.size ≤ B) (k : RSt w1 w2 B n m G G' M') : Ext w w2 :=
  Wro.after h.ext k.wro fun i hi => by
    rcases hi with rfl | ⟨r, hr, rfl⟩
    · exact hB
    · exact (h.old r hr).1
/-- a matrix of which k rows have 1s behind them -/
def wideTo (n k : Nat) (M : Nat → Nat → E) (r c : Nat) : E := if r < k then wide n M r c else pad n M r c
theorem wideTo_next (n k : Nat) (M : Nat → Nat → E) : (fun i => if i = k then (fun c => if c = n + k then on else pad n M k c) else wideTo n k M i) = wideTo n (k + 1) M := by
  funext r c
  unfold wideTo wide pad
  by_cases e : r = k
  · subst e
    by_cases e2 : c < n
    · have e3 : ¬ c = n + r := by omega
      simp [e2, e3]
    · simp [e2]
  · by_cases e2 : r < k
    · have e3 : r < k + 1 := by omega
      simp [e, e2, e3]
    · have e3 : ¬ r < k + 1 := by omega
      simp [e, e2, e3]
def invE (n : Nat) (L : Nat → Nat) (F : Nat → Nat → Int) : Int := if mayB n L F then (if L 0 = n then (if (redTo n (wide n (elsOf F)) n).2 < n then 10 else 0) else 1) else 4
def invN (n : Nat) (L : Nat → Nat) (F : Nat → Nat → Int) : Nat := if mayB n L F then (if L 0 = n then (if (redTo n (wide n (elsOf F)) n).2 < n then 0 else n) else 0) else 0
theorem inv_form {n : Nat} {L : Nat → Nat} {F : Nat → Nat → Int} (h : mayB n L F = false) : invE n L F = 4 ∧ invN n L F = 0 := by simp [invE, invN, h]
theorem inv_size {n : Nat} {L : Nat → Nat} {F : Nat → Nat → Int} (h : mayB n L F = true) (h1 : ¬ L 0 = n) : invE n L F = 1 ∧ invN n L F = 0 := by simp [invE, invN, h, h1]
theorem inv_zero {n : Nat} {L : Nat → Nat} {F : Nat → Nat → Int} (h : mayB n L F = true) (h1 : L 0 = n) (h2 : (redTo n (wide n (elsOf F)) n).2 < n) : invE n L F = 10 ∧ invN n L F = 0 := by simp [invE, invN, h, h1, h2]
theorem inv_ok {n : Nat} {L : Nat → Nat} {F : Nat → Nat → Int} (h : mayB n L F = true) (h1 : L 0 = n) (h2 : ¬ (redTo n (wide n (elsOf F)) n).2 < n) : invE n L F = 0 ∧ invN n L F = n := by simp [invE, invN, h, h1, h2]
set_option maxRecDepth 100000 in
theorem Invert1_any (p q r j : Nat) (B n : Nat) (G : Nat → Nat) (M : Nat → Nat → E) (w : World) (hr : r < n) (hj : j < n) (hn : n ≤ 8)
    (hp : w.cell? ⟨p, 0, none⟩ = some (.slice (some ⟨B, 0, none⟩) n n)) (hq : w.cell? ⟨q, 0, none⟩ = some (.int .i64 n)) (h : OwnM w B n (2 * n) G M) :
    Calls Try.prog 96 #[.int .i64 r, .int .i64 j, .pointer (some ⟨p, 0, none⟩), .pointer (some ⟨q, 0, none⟩)] w fun e w' => e = .returned (.int .i64 (ev (M r (n + j)))) ∧ Ext w w' := by
  have hc1 := h.top.cell hr
  have hc2 : w.cell? ⟨G r, n + j, none⟩ = some (.int .i64 (ev (M r (n + j)))) := (h.row r hr).cell (by omega)
  clear h
  go_enter Try.func96, Try.ntmps96
  go_wp2_with fail
  go_region
  go_wp2_with fail
  go_ret
  exact ⟨rfl, (Ext.refl _).drew⟩
set_option maxRecDepth 100000 in
set_option maxHeartbeats 1600000 in
theorem Invert_any (a : Option Addr) (n c : Nat) (A : Nat → Option Addr) (L C : Nat → Nat) (F : Nat → Nat → Int) (w : World) (hn : n ≤ 9223372036854775807) (h : Mat w a n A L C F) :
    Calls Try.prog 87 #[.slice a n c] w fun e w' => MatRes w' e (invN n L F) n (invM n (elsOf F)) (invE n L F) ∧ Ext w w' := by
  have HH : Hid (Mat w a n A L C F) := h
  clear h
  go_enter Try.func87, Try.ntmps87
  go_wp2_with fail
  refine (May_any a n c A L C F _ HH.out).mono ?_
  rintro e w1 ⟨rfl, hx1⟩
  cases hM : mayB n L F
  · go_wp2_with fail
    go_ret2
    rw [(inv_form hM).1, (inv_form hM).2]
    exact ⟨MatRes.none _ _ _ _, hx1⟩
  · obtain ⟨m1, m2, m3⟩ := mayB_of hM
    have M3 : Hid (MEls n L F) := m3
    clear m3
    obtain ⟨b, o, rfl, hc⟩ := HH.out.at (by omega)
    have hc0 := hx1.keeps (hc 0 (by omega))
    rw [Nat.add_zero] at hc0
    have hc0' := alloc_keeps hc0
    clear hc
    by_cases hL : L 0 = n
    · have hB : ((L 0 : Int) != (n : Int)) = false := by rw [hL]; simp
      have HL : Hid (L 0 = n) := hL
      have hle : L 0 ≤ n ∧ n ≤ L 0 := by omega
      clear hL
      go_wp2_with fail
      go_region
      go_wp2_with fail
      have hx3 : Ext w (w1.alloc (.cells #[.int .i64 n] 3)).drew := (hx1.alloc _ _).drew
      have hq3 : (w1.alloc (.cells #[.int .i64 n] 3)).drew.cell? ⟨w1.heap.size, 0, none⟩ = some (.int .i64 n) := by
        have := new_cell w1 #[.int .i64 n] 3 0
        exact this
      clear hc0 hc0' hx1
      generalize (w1.alloc (.cells #[.int .i64 n] 3)).drew = w3 at *
      generalize w1.heap.size = qn at *
      rw [show (2 * (n : Int)) = ((2 * n : Nat) : Int) from by omega]
      have hMM : Mat w3 (some ⟨b, o, none⟩) n A (fun _ => n) C fun r i => ev (elsOf F r i) := by
        have := (M3.out.mat HH.out).ext hx3
        rwa [HL.out] at this
      have HMM : Hid (Mat w3 (some ⟨b, o, none⟩) n A (fun _ => n) C fun r i => ev (elsOf F r i)) := hMM
      clear hMM
      generalize hMe : elsOf F = M at *
      have HME : Hid (elsOf F = M) := hMe
      clear hMe
      refine (copied_any _ n c n (2 * n) A C M _ m1 ⟨m1.1, by omega⟩ (by omega) HMM.out).mono ?_
      rintro e w4 ⟨rfl, G, hb⟩
      have hqlt := World.block_lt_of_cell? _ _ hq3
      have hq4 := hb.ext.keeps hq3
      have HB4 : Hid (Bld w3 w4 w3.heap.size n (2 * n) n (pad n M) G) := hb
      have hBlt := hb.top.lt
      simp only at hqlt
      clear hb hq3
      have hq5 := alloc_keeps hq4
      go_wp2_with fail
      have hx5 : Ext w4 (w4.alloc (.cells #[.slice (some ⟨w3.heap.size, 0, none⟩) n n] 79)) := (Ext.refl w4).alloc _ _
      have hp5 : (w4.alloc (.cells #[.slice (some ⟨w3.heap.size, 0, none⟩) n n] 79)).cell? ⟨w4.heap.size, 0, none⟩ = some (.slice (some ⟨w3.heap.size, 0, none⟩) n n) := by rw [new_cell]; rfl
      have hq6 := hx5.keeps hq4
      clear hq5 hq4
      generalize w4.alloc (.cells #[.slice (some ⟨w3.heap.size, 0, none⟩) n n] 79) = w5 at *
      have HO5 : Hid (RSt w5 w5 w3.heap.size n (2 * n) G G (wideTo n 0 M)) := RSt.start ((HB4.out.own.ext hx5).congr fun r _ i _ => by unfold wideTo; rw [if_neg (by omega)])
      have HBX : Hid (∀ r, r < n → G r ≠ qn ∧ G r ≠ w4.heap.size) := fun r hr => ⟨by have := (HB4.out.old r hr).1; omega, by have := (HB4.out.row r hr).lt; omega⟩
      have HEX : Hid (∀ w', ∀ G' M', RSt w5 w' w3.heap.size n (2 * n) G G' M' → Ext w w') := fun w' G' M' k => hx3.trans (Wro.after (HB4.out.ext.trans hx5) k.wro fun i hi => by
        rcases hi with rfl | ⟨r, hr, rfl⟩
        · exact Nat.le_refl _
        · exact (HB4.out.old r hr).1)
      generalize w3.heap.size = B at *
      generalize hqw : w4.heap.size = qw at *
      clear HB4 HMM hx3 hx5 hqw
      have hBn : B ≠ qn ∧ B ≠ qw := by omega
      go_loopw [25] (fun i wr => ∃ k : Nat, k ≤ n ∧ i = .int .i64 k ∧ RSt w5 wr B n (2 * n) G G (wideTo n k M) ∧ wr.cell? ⟨qn, 0, none⟩ = some (.int .i64 n) ∧ wr.cell? ⟨qw, 0, none⟩ = some (.slice (some ⟨B, 0, none⟩) n n)) (fun i _ => n - (intOf i).toNat)
      case atStart => exact ⟨0, Nat.zero_le _, rfl, HO5.out, hq6, hp5⟩
      case round =>
        clear HO5 hq6 hp5
        obtain ⟨k, hk, rfl, hr, hqk, hpk⟩ := hrel
        by_cases hlt : k < n
        · have hck := hr.own.top.cell hlt
          have hnk : n + k < 2 * n := by omega
          have hcr : wr.cell? ⟨G k, n + k, none⟩ = some (.int .i64 (ev ze)) := by
            rw [(hr.own.row k hlt).cell hnk]
            unfold evs wideTo pad
            rw [if_neg (by omega), if_neg (by omega)]
          have hfr := (hr.own.row k hlt).frozen (n + k)
          have hput := hr.put hlt (w' := wr.setCell ⟨G k, n + k, none⟩ (.int .i64 1)) (R := fun c => if c = n + k then on else pad n M k c) ((Wro.refl (· = G k) wr).setCell (p := ⟨G k, n + k, none⟩) rfl _) (((hr.own.row k hlt).set (n + k) (.int .i64 1)).congr fun i _ => by
            show (if i = n + k then Value.int .i64 1 else evs (wideTo n k M k) i) = .int .i64 (ev (if i = n + k then on else pad n M k i))
            by_cases e : i = n + k
            · rw [if_pos e, if_pos e]; rfl
            · rw [if_neg e, if_neg e]; unfold evs wideTo; rw [if_neg (by omega)])
          rw [wideTo_next] at hput
          have HP : Hid (RSt w5 (wr.setCell ⟨G k, n + k, none⟩ (.int .i64 1)) B n (2 * n) G G (wideTo n (k + 1) M)) := hput
          have HQ : Hid ((wr.setCell ⟨G k, n + k, none⟩ (.int .i64 1)).cell? ⟨qn, 0, none⟩ = some (.int .i64 n)) := by
            show _ = _
            rw [cell_other _ _ _ _ (fun e => (HBX.out k hlt).1 e.symm)]; exact hqk
          have HW : Hid ((wr.setCell ⟨G k, n + k, none⟩ (.int .i64 1)).cell? ⟨qw, 0, none⟩ = some (.slice (some ⟨B, 0, none⟩) n n)) := by
            show _ = _
            rw [cell_other _ _ _ _ (fun e => (HBX.out k hlt).2 e.symm)]; exact hpk
          clear hr hput
          go_wp2_with fail
          go_roundw
          case rel => exact ⟨k + 1, by omega, by go_num, HP.out, HQ.out, HW.out⟩
          case measure => simp [intOf]; omega
        · obtain rfl : k = n := by omega
          have HR : Hid (RSt w5 wr B k (2 * k) G G (wide k M)) := hr.congr fun r hr' i _ => if_pos hr'
          clear hr hlt hk
          go_wp2_with fail
          go_region_held3 (fun w' => w'.cell? ⟨qn, 0, none⟩ = some (.int .i64 k) ∧ w'.cell? ⟨qw, 0, none⟩ = some (.slice (some ⟨B, 0, none⟩) k k)) (go_keep) (first | (go_at_call 94; refine (reduce_any B k (2 * k) k G (wide k M) _ m1 (by omega) (by omega) (HR.out.own.ext (Ext.refl _).drew)).mono ?_; rintro e w7 ⟨rfl, G', hr7⟩; have hqa := hr7.wro.cell (p := ⟨qn, 0, none⟩) (v := .int .i64 k) hqk (fun hh => by rcases hh with hh | ⟨r, h1, h2⟩; exact hBn.1 hh.symm; exact (HBX.out r h1).1 h2.symm); have hqb := hr7.wro.cell (p := ⟨qw, 0, none⟩) (v := .slice (some ⟨B, 0, none⟩) k k) hpk (fun hh => by rcases hh with hh | ⟨r, h1, h2⟩; exact hBn.2 hh.symm; exact (HBX.out r h1).2 h2.symm)))
          have HR7 : Hid (RSt wr.drew w7 B k (2 * k) G G' (redTo k (wide k M) k).1) := hr7
          have HX7 : Hid (Ext w w7) := HEX.out w7 G' _ ⟨hr7.own, (HR.out.wro.drew).trans hr7.wro, hr7.per⟩
          clear hr7 hqk hpk
          by_cases hz : (redTo k (wide k M) k).2 < k
          · have hz1 : ((redTo k (wide k M) k).2 : Int) < (k : Int) := by omega
            go_wp2_with fail
            go_ret2
            obtain rfl := HME.out
            rw [(inv_zero hM HL.out hz).1, (inv_zero hM HL.out hz).2]
            exact ⟨MatRes.none _ _ _ _, HX7.out⟩
          · have hz1 : ¬ ((redTo k (wide k M) k).2 : Int) < (k : Int) := by omega
            go_wp2_with fail
            refine (matrix_invert _ _ k k (invM k M) w7 (by omega) (by omega) ?_).mono ?_
            · intro r hr j hj w' hx'
              exact Invert1_any qw qn r j B k G' (redTo k (wide k M) k).1 w' hr hj (by omega) (hx'.keeps hqb) (hx'.keeps hqa) (HR7.out.own.ext hx')
            rintro e w8 ⟨rfl, G8, hb8⟩
            go_wp2_with fail
            go_ret2
            obtain rfl := HME.out
            rw [(inv_ok hM HL.out hz).1, (inv_ok hM HL.out hz).2]
            exact ⟨⟨_, _, _, _, rfl, hb8.own.mat⟩, HX7.out.trans hb8.ext⟩
    · have hB : ((L 0 : Int) != (n : Int)) = true := by rw [bne_iff_ne]; omega
      have HL : Hid (¬ L 0 = n) := hL
      clear hL
      go_wp2_with fail
      go_region
      go_wp2_with fail
      go_ret2
      rw [(inv_size hM HL.out).1, (inv_size hM HL.out).2]
      exact ⟨MatRes.none _ _ _ _, (hx1.alloc _ _).drew⟩
end Go.Proofs.Ythgbfakmkdifbaa
