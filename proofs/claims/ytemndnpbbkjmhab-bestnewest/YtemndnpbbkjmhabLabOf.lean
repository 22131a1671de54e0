/-
  quicksetkeep.LabelOf: a label that may be, out of whatever numbers; the world only grows.
-/
import Derived.Test.YtemndnpbbkjmhabLabDec
import Derived.Test.YtemndnpbbkjmhabKeepPick
import Derived.Test.YtemndnpbbkjmhabQuiets
import Derived.Deep.QuietTactic
import Derived.Deep.CutRange
import Derived.StillTailTactics
import Derived.Test.YtemndnpbbkjmhabRegAlloc
import Derived.Test.YtemndnpbbkjmhabRegInv
namespace Go.Proofs.Ytemndnpbbkjmhab
open Go.RowKit Go.Deep E
/-- the label that these numbers make: t as Tag has them -/
def lof (t : Nat → Int) (k : Nat) : Int :=
  let D := 2 + t 2 % 7
  let T := t 4 % 1048577
  let C := t 6 % 33
  match k with
  | 0 => 1 + t 0 % 1048576
  | 1 => t 1 % D
  | 2 => D
  | 3 => 1 + t 3 % (min 3 (D - 1))
  | 4 => T
  | 5 => t 5 % 65537
  | 6 => C
  | 7 => t 7 % (C * 128 + 1)
  | 8 => t 5 % (T + 1)
  | k + 9 => t (8 + k)
theorem lof_may (t : Nat → Int) : mayL (lof t) = true := by
  unfold mayL
  rw [decide_eq_true_iff]
  have h2 : 0 ≤ t 2 % 7 ∧ t 2 % 7 < 7 := ⟨Int.emod_nonneg _ (by decide), Int.emod_lt_of_pos _ (by decide)⟩
  have h4 : 0 ≤ t 4 % 1048577 ∧ t 4 % 1048577 < 1048577 := ⟨Int.emod_nonneg _ (by decide), Int.emod_lt_of_pos _ (by decide)⟩
  have h6 : 0 ≤ t 6 % 33 ∧ t 6 % 33 < 33 := ⟨Int.emod_nonneg _ (by decide), Int.emod_lt_of_pos _ (by decide)⟩
  have h1 : 0 ≤ t 1 % (2 + t 2 % 7) ∧ t 1 % (2 + t 2 % 7) < 2 + t 2 % 7 := ⟨Int.emod_nonneg _ (by omega), Int.emod_lt_of_pos _ (by omega)⟩
  have hm : 1 ≤ min 3 (2 + t 2 % 7 - 1) ∧ min 3 (2 + t 2 % 7 - 1) ≤ 3 ∧ min 3 (2 + t 2 % 7 - 1) ≤ 2 + t 2 % 7 - 1 := by omega
  have h3 : 0 ≤ t 3 % min 3 (2 + t 2 % 7 - 1) ∧ t 3 % min 3 (2 + t 2 % 7 - 1) < min 3 (2 + t 2 % 7 - 1) := ⟨Int.emod_nonneg _ (by omega), Int.emod_lt_of_pos _ (by omega)⟩
  have h7 : 0 ≤ t 7 % (t 6 % 33 * 128 + 1) ∧ t 7 % (t 6 % 33 * 128 + 1) < t 6 % 33 * 128 + 1 := ⟨Int.emod_nonneg _ (by omega), Int.emod_lt_of_pos _ (by omega)⟩
  have h8 : 0 ≤ t 5 % (t 4 % 1048577 + 1) ∧ t 5 % (t 4 % 1048577 + 1) < t 4 % 1048577 + 1 := ⟨Int.emod_nonneg _ (by omega), Int.emod_lt_of_pos _ (by omega)⟩
  show (1 ≤ 1 + t 0 % 1048576 ∧ 1 + t 0 % 1048576 ≤ 1048576) ∧ (2 ≤ 2 + t 2 % 7 ∧ 2 + t 2 % 7 ≤ 8) ∧ (0 ≤ t 1 % (2 + t 2 % 7) ∧ t 1 % (2 + t 2 % 7) < 2 + t 2 % 7) ∧ (1 ≤ 1 + t 3 % min 3 (2 + t 2 % 7 - 1) ∧ 1 + t 3 % min 3 (2 + t 2 % 7 - 1) ≤ 3 ∧ 1 + t 3 % min 3 (2 + t 2 % 7 - 1) < 2 + t 2 % 7) ∧ (0 ≤ t 4 % 1048577 ∧ t 4 % 1048577 ≤ 1048576) ∧ (0 ≤ t 5 % 65537 ∧ t 5 % 65537 ≤ 65536) ∧ (0 ≤ t 6 % 33 ∧ t 6 % 33 ≤ 32) ∧ (0 ≤ t 7 % (t 6 % 33 * 128 + 1) ∧ t 7 % (t 6 % 33 * 128 + 1) ≤ 128 * (t 6 % 33)) ∧ (0 ≤ t 5 % (t 4 % 1048577 + 1) ∧ t 5 % (t 4 % 1048577 + 1) ≤ t 4 % 1048577)
  omega
theorem Picked_int (a n x : Int) (w : World) (h0 : 0 < n) (h1 : n ≤ 1073741824) (hb : -9223372036854775808 ≤ a ∧ a ≤ 9223372036854775807) (hx : a % n = x) :
    Calls Try.prog 18 #[.int .i64 a, .int .i64 n] w fun e w' => e = .returned (.int .i64 x) ∧ w' = w := by
  rw [← hx]
  exact Picked_any a n w h0 h1 hb.1 hb.2
theorem pint_is (a n : Int) (hn : 0 < n) : ∃ x : Int, a % n = x ∧ 0 ≤ x ∧ x < n := ⟨a % n, rfl, Int.emod_nonneg a (by omega), Int.emod_lt_of_pos a hn⟩
theorem row12_alloc (w : World) (t : TypeId) (f : Nat → Value) : (w.alloc (.cells #[f 0, f 1, f 2, f 3, f 4, f 5, f 6, f 7, f 8, f 9, f 10, f 11] t)).rowIs w.heap.size t 12 f :=
  World.rowIs_alloc w #[f 0, f 1, f 2, f 3, f 4, f 5, f 6, f 7, f 8, f 9, f 10, f 11] t f fun i hi => by
    have hi : i < 12 := hi
    match i, hi with
    | 0, _ => rfl
    | 1, _ => rfl
    | 2, _ => rfl
    | 3, _ => rfl
    | 4, _ => rfl
    | 5, _ => rfl
    | 6, _ => rfl
    | 7, _ => rfl
    | 8, _ => rfl
    | 9, _ => rfl
    | 10, _ => rfl
    | 11, _ => rfl
def lofA (p0 p1 p2 p3 p4 : Int) : Nat → Int
  | 0 => 1 + p0
  | 1 => p1
  | 2 => 2 + p2
  | 3 => 1 + p3
  | 4 => p4
  | _ => 0
def lofB (t : Nat → Int) (p0 p1 p2 p3 p4 p5 p6 p7 p8 : Int) : Nat → Int
  | 0 => 1 + p0
  | 1 => p1
  | 2 => 2 + p2
  | 3 => 1 + p3
  | 4 => p4
  | 5 => p5
  | 6 => p6
  | 7 => p7
  | 8 => p8
  | k + 9 => t (8 + k)
theorem put8at5 {w0 w : World} {g : Nat} {ty : TypeId} (t : Nat → Int) (p0 p1 p2 p3 p4 p5 p6 p8 : Int) (x : Ext w0 w) (hg : w0.heap.size ≤ g) (h : w.rowIs g ty 13 (ivs (lofA p0 p1 p2 p3 p4))) :
    Hid (((((((((w.setCell ⟨g, 5, none⟩ (.int .i64 (p5))).setCell ⟨g, 6, none⟩ (.int .i64 (p6))).setCell ⟨g, 7, none⟩ (.int .i64 (0))).setCell ⟨g, 8, none⟩ (.int .i64 (p8))).setCell ⟨g, 9, none⟩ (.int .i64 (t 8))).setCell ⟨g, 10, none⟩ (.int .i64 (t 9))).setCell ⟨g, 11, none⟩ (.int .i64 (t 10))).setCell ⟨g, 12, none⟩ (.int .i64 (t 11))).rowIs g ty 13 (ivs (lofB t p0 p1 p2 p3 p4 p5 p6 0 p8))) ∧ Hid (Ext w0 ((((((((w.setCell ⟨g, 5, none⟩ (.int .i64 (p5))).setCell ⟨g, 6, none⟩ (.int .i64 (p6))).setCell ⟨g, 7, none⟩ (.int .i64 (0))).setCell ⟨g, 8, none⟩ (.int .i64 (p8))).setCell ⟨g, 9, none⟩ (.int .i64 (t 8))).setCell ⟨g, 10, none⟩ (.int .i64 (t 9))).setCell ⟨g, 11, none⟩ (.int .i64 (t 10))).setCell ⟨g, 12, none⟩ (.int .i64 (t 11)))) ∧ Hid (Wro (· = g) w ((((((((w.setCell ⟨g, 5, none⟩ (.int .i64 (p5))).setCell ⟨g, 6, none⟩ (.int .i64 (p6))).setCell ⟨g, 7, none⟩ (.int .i64 (0))).setCell ⟨g, 8, none⟩ (.int .i64 (p8))).setCell ⟨g, 9, none⟩ (.int .i64 (t 8))).setCell ⟨g, 10, none⟩ (.int .i64 (t 9))).setCell ⟨g, 11, none⟩ (.int .i64 (t 10))).setCell ⟨g, 12, none⟩ (.int .i64 (t 11)))) := by
  refine ⟨((((((((h.set 5 _).set 6 _).set 7 _).set 8 _).set 9 _).set 10 _).set 11 _).set 12 _).congr fun i hi => ?_, ((((((((x.setCell (p := ⟨g, 5, none⟩) hg _).setCell (p := ⟨g, 6, none⟩) hg _).setCell (p := ⟨g, 7, none⟩) hg _).setCell (p := ⟨g, 8, none⟩) hg _).setCell (p := ⟨g, 9, none⟩) hg _).setCell (p := ⟨g, 10, none⟩) hg _).setCell (p := ⟨g, 11, none⟩) hg _).setCell (p := ⟨g, 12, none⟩) hg _), ?_⟩
  · match i, hi with
    | 0, _ => rfl
    | 1, _ => rfl
    | 2, _ => rfl
    | 3, _ => rfl
    | 4, _ => rfl
    | 5, _ => rfl
    | 6, _ => rfl
    | 7, _ => rfl
    | 8, _ => rfl
    | 9, _ => rfl
    | 10, _ => rfl
    | 11, _ => rfl
    | 12, _ => rfl
  · have z : Wro (· = g) w w := Wro.refl _ _
    exact ((((((((z.setCell (p := ⟨g, 5, none⟩) rfl _).setCell (p := ⟨g, 6, none⟩) rfl _).setCell (p := ⟨g, 7, none⟩) rfl _).setCell (p := ⟨g, 8, none⟩) rfl _).setCell (p := ⟨g, 9, none⟩) rfl _).setCell (p := ⟨g, 10, none⟩) rfl _).setCell (p := ⟨g, 11, none⟩) rfl _).setCell (p := ⟨g, 12, none⟩) rfl _)
set_option maxRecDepth 100000 in
set_option maxHeartbeats 3200000 in
theorem LabelOf_any (t : Nat → Int) (hb : ∀ i, i < 12 → -9223372036854775808 ≤ t i ∧ t i ≤ 9223372036854775807) (w : World) :
    Calls Try.prog 14 #[.agg #[.int .i64 (t 0), .int .i64 (t 1), .int .i64 (t 2), .int .i64 (t 3), .int .i64 (t 4), .int .i64 (t 5), .int .i64 (t 6), .int .i64 (t 7), .int .i64 (t 8), .int .i64 (t 9), .int .i64 (t 10), .int .i64 (t 11)]] w fun e w' => e = .returned (.agg #[.int .i64 (lof t 0), .int .i64 (lof t 1), .int .i64 (lof t 2), .int .i64 (lof t 3), .int .i64 (lof t 4), .int .i64 (lof t 5), .int .i64 (lof t 6), .int .i64 (lof t 7), .int .i64 (lof t 8), .int .i64 (lof t 9), .int .i64 (lof t 10), .int .i64 (lof t 11), .int .i64 (lof t 12)]) ∧ Ext w w' := by
  have HB : Hid (∀ i, i < 12 → -9223372036854775808 ≤ t i ∧ t i ≤ 9223372036854775807) := hb
  clear hb
  have R1 : Hid (((w.alloc (.cells #[.int .i64 (t 0), .int .i64 (t 1), .int .i64 (t 2), .int .i64 (t 3), .int .i64 (t 4), .int .i64 (t 5), .int .i64 (t 6), .int .i64 (t 7), .int .i64 (t 8), .int .i64 (t 9), .int .i64 (t 10), .int .i64 (t 11)] 39)).alloc (.cells #[.int .i64 ((fun _ => (0 : Int)) 0), .int .i64 ((fun _ => (0 : Int)) 1), .int .i64 ((fun _ => (0 : Int)) 2), .int .i64 ((fun _ => (0 : Int)) 3), .int .i64 ((fun _ => (0 : Int)) 4), .int .i64 ((fun _ => (0 : Int)) 5), .int .i64 ((fun _ => (0 : Int)) 6), .int .i64 ((fun _ => (0 : Int)) 7), .int .i64 ((fun _ => (0 : Int)) 8), .int .i64 ((fun _ => (0 : Int)) 9), .int .i64 ((fun _ => (0 : Int)) 10), .int .i64 ((fun _ => (0 : Int)) 11), .int .i64 ((fun _ => (0 : Int)) 12)] 28)).rowIs w.heap.size 39 12 (ivs t)) := (row12_alloc w 39 (ivs t)).alloc _
  have X1 : Hid (Ext w ((w.alloc (.cells #[.int .i64 (t 0), .int .i64 (t 1), .int .i64 (t 2), .int .i64 (t 3), .int .i64 (t 4), .int .i64 (t 5), .int .i64 (t 6), .int .i64 (t 7), .int .i64 (t 8), .int .i64 (t 9), .int .i64 (t 10), .int .i64 (t 11)] 39)).alloc (.cells #[.int .i64 ((fun _ => (0 : Int)) 0), .int .i64 ((fun _ => (0 : Int)) 1), .int .i64 ((fun _ => (0 : Int)) 2), .int .i64 ((fun _ => (0 : Int)) 3), .int .i64 ((fun _ => (0 : Int)) 4), .int .i64 ((fun _ => (0 : Int)) 5), .int .i64 ((fun _ => (0 : Int)) 6), .int .i64 ((fun _ => (0 : Int)) 7), .int .i64 ((fun _ => (0 : Int)) 8), .int .i64 ((fun _ => (0 : Int)) 9), .int .i64 ((fun _ => (0 : Int)) 10), .int .i64 ((fun _ => (0 : Int)) 11), .int .i64 ((fun _ => (0 : Int)) 12)] 28))) := ((Ext.refl _).alloc _ _).alloc _ _
  have T1 : Hid (((w.alloc (.cells #[.int .i64 (t 0), .int .i64 (t 1), .int .i64 (t 2), .int .i64 (t 3), .int .i64 (t 4), .int .i64 (t 5), .int .i64 (t 6), .int .i64 (t 7), .int .i64 (t 8), .int .i64 (t 9), .int .i64 (t 10), .int .i64 (t 11)] 39)).alloc (.cells #[.int .i64 ((fun _ => (0 : Int)) 0), .int .i64 ((fun _ => (0 : Int)) 1), .int .i64 ((fun _ => (0 : Int)) 2), .int .i64 ((fun _ => (0 : Int)) 3), .int .i64 ((fun _ => (0 : Int)) 4), .int .i64 ((fun _ => (0 : Int)) 5), .int .i64 ((fun _ => (0 : Int)) 6), .int .i64 ((fun _ => (0 : Int)) 7), .int .i64 ((fun _ => (0 : Int)) 8), .int .i64 ((fun _ => (0 : Int)) 9), .int .i64 ((fun _ => (0 : Int)) 10), .int .i64 ((fun _ => (0 : Int)) 11), .int .i64 ((fun _ => (0 : Int)) 12)] 28)).rowIs (w.heap.size + 1) 28 13 (ivs fun _ => 0)) := by
    have := row13_alloc (w.alloc (.cells #[.int .i64 (t 0), .int .i64 (t 1), .int .i64 (t 2), .int .i64 (t 3), .int .i64 (t 4), .int .i64 (t 5), .int .i64 (t 6), .int .i64 (t 7), .int .i64 (t 8), .int .i64 (t 9), .int .i64 (t 10), .int .i64 (t 11)] 39)) 28 (ivs fun _ => 0)
    simp only [World.size_alloc] at this
    exact this
  obtain ⟨p0, hp0, b0⟩ := pint_is (t 0) 1048576 (by omega)
  obtain ⟨p2, hp2, b2⟩ := pint_is (t 2) 7 (by omega)
  obtain ⟨p4, hp4, b4⟩ := pint_is (t 4) 1048577 (by omega)
  obtain ⟨p5, hp5, b5⟩ := pint_is (t 5) 65537 (by omega)
  obtain ⟨p6, hp6, b6⟩ := pint_is (t 6) 33 (by omega)
  obtain ⟨p1, hp1, b1⟩ := pint_is (t 1) (2 + p2) (by omega)
  obtain ⟨p7, hp7, b7⟩ := pint_is (t 7) (p6 * 128 + 1) (by omega)
  obtain ⟨p8, hp8, b8⟩ := pint_is (t 5) (p4 + 1) (by omega)
  obtain ⟨m3, hm3⟩ : ∃ m : Int, min 3 (2 + p2 - 1) = m := ⟨_, rfl⟩
  have hm3b : 1 ≤ m3 ∧ m3 ≤ 3 := by omega
  obtain ⟨p3, hp3, b3⟩ := pint_is (t 3) m3 (by omega)
  have P0 := fun v => Picked_int (t 0) 1048576 p0 v (by omega) (by omega) (HB.out 0 (by omega)) hp0
  have P2 := fun v => Picked_int (t 2) 7 p2 v (by omega) (by omega) (HB.out 2 (by omega)) hp2
  have P4 := fun v => Picked_int (t 4) 1048577 p4 v (by omega) (by omega) (HB.out 4 (by omega)) hp4
  have P5 := fun v => Picked_int (t 5) 65537 p5 v (by omega) (by omega) (HB.out 5 (by omega)) hp5
  have P6 := fun v => Picked_int (t 6) 33 p6 v (by omega) (by omega) (HB.out 6 (by omega)) hp6
  have P1 := fun v => Picked_int (t 1) (2 + p2) p1 v (by omega) (by omega) (HB.out 1 (by omega)) hp1
  have P7 := fun v => Picked_int (t 7) (p6 * 128 + 1) p7 v (by omega) (by omega) (HB.out 7 (by omega)) hp7
  have P8 := fun v => Picked_int (t 5) (p4 + 1) p8 v (by omega) (by omega) (HB.out 5 (by omega)) hp8
  have P3 := fun v => Picked_int (t 3) m3 p3 v (by omega) (by omega) (HB.out 3 (by omega)) hp3
  have HL : Hid (∀ k, k < 13 → lofB t p0 p1 p2 p3 p4 p5 p6 p7 p8 k = lof t k) := fun k hk => by
    subst hp0 hp2 hp4 hp5 hp6 hm3
    subst hp1 hp7 hp8 hp3
    match k, hk with
    | 0, _ => rfl
    | 1, _ => rfl
    | 2, _ => rfl
    | 3, _ => rfl
    | 4, _ => rfl
    | 5, _ => rfl
    | 6, _ => rfl
    | 7, _ => rfl
    | 8, _ => rfl
    | 9, _ => rfl
    | 10, _ => rfl
    | 11, _ => rfl
    | 12, _ => rfl
  go_enter Try.func14, Try.ntmps14
  go_wp2_with fail
  generalize ((w.alloc (.cells #[.int .i64 (t 0), .int .i64 (t 1), .int .i64 (t 2), .int .i64 (t 3), .int .i64 (t 4), .int .i64 (t 5), .int .i64 (t 6), .int .i64 (t 7), .int .i64 (t 8), .int .i64 (t 9), .int .i64 (t 10), .int .i64 (t 11)] 39)).alloc (.cells #[.int .i64 ((fun _ => (0 : Int)) 0), .int .i64 ((fun _ => (0 : Int)) 1), .int .i64 ((fun _ => (0 : Int)) 2), .int .i64 ((fun _ => (0 : Int)) 3), .int .i64 ((fun _ => (0 : Int)) 4), .int .i64 ((fun _ => (0 : Int)) 5), .int .i64 ((fun _ => (0 : Int)) 6), .int .i64 ((fun _ => (0 : Int)) 7), .int .i64 ((fun _ => (0 : Int)) 8), .int .i64 ((fun _ => (0 : Int)) 9), .int .i64 ((fun _ => (0 : Int)) 10), .int .i64 ((fun _ => (0 : Int)) 11), .int .i64 ((fun _ => (0 : Int)) 12)] 28)) = w1 at *
  have HT1 : Hid (w1.rowIs w.heap.size 39 12 (ivs t)) := R1.out
  have c0 := R1.out.drew.cell (i := 0) (by omega)
  have c2 := R1.out.drew.cell (i := 2) (by omega)
  have c4 := R1.out.drew.cell (i := 4) (by omega)
  have e0 := (R1.out.alloc (.cells #[.int .i64 ((fun _ => (0 : Int)) 0), .int .i64 ((fun _ => (0 : Int)) 1), .int .i64 ((fun _ => (0 : Int)) 2), .int .i64 ((fun _ => (0 : Int)) 3), .int .i64 ((fun _ => (0 : Int)) 4), .int .i64 ((fun _ => (0 : Int)) 5), .int .i64 ((fun _ => (0 : Int)) 6), .int .i64 ((fun _ => (0 : Int)) 7), .int .i64 ((fun _ => (0 : Int)) 8), .int .i64 ((fun _ => (0 : Int)) 9), .int .i64 ((fun _ => (0 : Int)) 10), .int .i64 ((fun _ => (0 : Int)) 11), .int .i64 ((fun _ => (0 : Int)) 12)] 28)).cell (i := 0) (by omega)
  have e2 := (R1.out.alloc (.cells #[.int .i64 ((fun _ => (0 : Int)) 0), .int .i64 ((fun _ => (0 : Int)) 1), .int .i64 ((fun _ => (0 : Int)) 2), .int .i64 ((fun _ => (0 : Int)) 3), .int .i64 ((fun _ => (0 : Int)) 4), .int .i64 ((fun _ => (0 : Int)) 5), .int .i64 ((fun _ => (0 : Int)) 6), .int .i64 ((fun _ => (0 : Int)) 7), .int .i64 ((fun _ => (0 : Int)) 8), .int .i64 ((fun _ => (0 : Int)) 9), .int .i64 ((fun _ => (0 : Int)) 10), .int .i64 ((fun _ => (0 : Int)) 11), .int .i64 ((fun _ => (0 : Int)) 12)] 28)).cell (i := 2) (by omega)
  have e4 := (R1.out.alloc (.cells #[.int .i64 ((fun _ => (0 : Int)) 0), .int .i64 ((fun _ => (0 : Int)) 1), .int .i64 ((fun _ => (0 : Int)) 2), .int .i64 ((fun _ => (0 : Int)) 3), .int .i64 ((fun _ => (0 : Int)) 4), .int .i64 ((fun _ => (0 : Int)) 5), .int .i64 ((fun _ => (0 : Int)) 6), .int .i64 ((fun _ => (0 : Int)) 7), .int .i64 ((fun _ => (0 : Int)) 8), .int .i64 ((fun _ => (0 : Int)) 9), .int .i64 ((fun _ => (0 : Int)) 10), .int .i64 ((fun _ => (0 : Int)) 11), .int .i64 ((fun _ => (0 : Int)) 12)] 28)).cell (i := 4) (by omega)
  unfold ivs at c0 c2 c4 e0 e2 e4
  have w1a : IntKind.i64.wrap (1 + p0) = 1 + p0 := by rw [IntKind.wrap_i64]; omega
  have w1b : IntKind.i64.wrap (2 + p2) = 2 + p2 := by rw [IntKind.wrap_i64]; omega
  refine wp_region_alloc (P := Try.prog) 12 58 3 (.pointer (some ⟨w1.heap.size, 0, none⟩)) (w1.drew.alloc (.cells #[.int .i64 ((fun _ => (0 : Int)) 0), .int .i64 ((fun _ => (0 : Int)) 1), .int .i64 ((fun _ => (0 : Int)) 2), .int .i64 ((fun _ => (0 : Int)) 3), .int .i64 ((fun _ => (0 : Int)) 4), .int .i64 ((fun _ => (0 : Int)) 5), .int .i64 ((fun _ => (0 : Int)) 6), .int .i64 ((fun _ => (0 : Int)) 7), .int .i64 ((fun _ => (0 : Int)) 8), .int .i64 ((fun _ => (0 : Int)) 9), .int .i64 ((fun _ => (0 : Int)) 10), .int .i64 ((fun _ => (0 : Int)) 11), .int .i64 ((fun _ => (0 : Int)) 12)] 28)) (by kernel_rfl) _ rfl rfl (by kernel_rfl) rfl ?_ ?_
  · intro K a' hK
    refine wpOp_of rfl rfl (wp_allocs 28 rfl _ (zero_of_info (show (Try.prog.info? 28).map (fun i => (i.zero, i.size)) = some (some (.agg #[.int .i64 ((fun _ => (0 : Int)) 0), .int .i64 ((fun _ => (0 : Int)) 1), .int .i64 ((fun _ => (0 : Int)) 2), .int .i64 ((fun _ => (0 : Int)) 3), .int .i64 ((fun _ => (0 : Int)) 4), .int .i64 ((fun _ => (0 : Int)) 5), .int .i64 ((fun _ => (0 : Int)) 6), .int .i64 ((fun _ => (0 : Int)) 7), .int .i64 ((fun _ => (0 : Int)) 8), .int .i64 ((fun _ => (0 : Int)) 9), .int .i64 ((fun _ => (0 : Int)) 10), .int .i64 ((fun _ => (0 : Int)) 11), .int .i64 ((fun _ => (0 : Int)) 12)]), 13) by kernel_rfl)).1 ?_)
    exact hK
  simp only [List.take_succ_cons, List.take_zero]
  repeat still_step
  still_call (P0 _)
  repeat still_step
  still_call (P2 _)
  repeat still_step
  still_call (P4 _)
  repeat still_step
  refine wpStill_nil ⟨?_, ?_⟩
  · repeat still_step
    still_call (P0 _)
    repeat still_step
    still_call (P2 _)
    repeat still_step
    still_call (P4 _)
    repeat still_step
    exact wpStill_nil rfl
  simp only [List.drop_succ_cons, List.drop_zero]
  clear c0 c2 c4 e0 e2 e4
  have t0 : ∀ C, (w1.alloc (.cells C 28)).cell? ⟨w.heap.size, 0, none⟩ = some (.int .i64 (t 0)) := fun C => (R1.out.alloc (.cells C 28)).cell (i := 0) (by omega)
  have t1 : ∀ C, (w1.alloc (.cells C 28)).cell? ⟨w.heap.size, 1, none⟩ = some (.int .i64 (t 1)) := fun C => (R1.out.alloc (.cells C 28)).cell (i := 1) (by omega)
  have t2 : ∀ C, (w1.alloc (.cells C 28)).cell? ⟨w.heap.size, 2, none⟩ = some (.int .i64 (t 2)) := fun C => (R1.out.alloc (.cells C 28)).cell (i := 2) (by omega)
  have t3 : ∀ C, (w1.alloc (.cells C 28)).cell? ⟨w.heap.size, 3, none⟩ = some (.int .i64 (t 3)) := fun C => (R1.out.alloc (.cells C 28)).cell (i := 3) (by omega)
  have t4 : ∀ C, (w1.alloc (.cells C 28)).cell? ⟨w.heap.size, 4, none⟩ = some (.int .i64 (t 4)) := fun C => (R1.out.alloc (.cells C 28)).cell (i := 4) (by omega)
  have t5 : ∀ C, (w1.alloc (.cells C 28)).cell? ⟨w.heap.size, 5, none⟩ = some (.int .i64 (t 5)) := fun C => (R1.out.alloc (.cells C 28)).cell (i := 5) (by omega)
  have t6 : ∀ C, (w1.alloc (.cells C 28)).cell? ⟨w.heap.size, 6, none⟩ = some (.int .i64 (t 6)) := fun C => (R1.out.alloc (.cells C 28)).cell (i := 6) (by omega)
  have t7 : ∀ C, (w1.alloc (.cells C 28)).cell? ⟨w.heap.size, 7, none⟩ = some (.int .i64 (t 7)) := fun C => (R1.out.alloc (.cells C 28)).cell (i := 7) (by omega)
  have t8 : ∀ C, (w1.alloc (.cells C 28)).cell? ⟨w.heap.size, 8, none⟩ = some (.int .i64 (t 8)) := fun C => (R1.out.alloc (.cells C 28)).cell (i := 8) (by omega)
  have t9 : ∀ C, (w1.alloc (.cells C 28)).cell? ⟨w.heap.size, 9, none⟩ = some (.int .i64 (t 9)) := fun C => (R1.out.alloc (.cells C 28)).cell (i := 9) (by omega)
  have t10 : ∀ C, (w1.alloc (.cells C 28)).cell? ⟨w.heap.size, 10, none⟩ = some (.int .i64 (t 10)) := fun C => (R1.out.alloc (.cells C 28)).cell (i := 10) (by omega)
  have t11 : ∀ C, (w1.alloc (.cells C 28)).cell? ⟨w.heap.size, 11, none⟩ = some (.int .i64 (t 11)) := fun C => (R1.out.alloc (.cells C 28)).cell (i := 11) (by omega)
  go_wp2_with fail
  refine (P1 _).mono ?_
  rintro e w' ⟨rfl, rfl⟩
  rcases Int.lt_or_le (2 + p2 - 1) 3 with hq | hq
  · obtain rfl : m3 = 2 + p2 - 1 := by omega
    go_wp2_with fail
    refine (P3 _).mono ?_
    rintro e w' ⟨rfl, rfl⟩
    go_upto_region 4 with fail
    have RT4 : Hid ((w1.alloc (.cells #[.int .i64 (1 + p0), .int .i64 p1, .int .i64 (2 + p2), .int .i64 (1 + p3), .int .i64 p4, .int .i64 0, .int .i64 0, .int .i64 0, .int .i64 0, .int .i64 0, .int .i64 0, .int .i64 0, .int .i64 0] 28)).drew.rowIs w.heap.size 39 12 (ivs t)) := (R1.out.alloc _).drew
    have TT4 : Hid ((w1.alloc (.cells #[.int .i64 (1 + p0), .int .i64 p1, .int .i64 (2 + p2), .int .i64 (1 + p3), .int .i64 p4, .int .i64 0, .int .i64 0, .int .i64 0, .int .i64 0, .int .i64 0, .int .i64 0, .int .i64 0, .int .i64 0] 28)).drew.rowIs (w.heap.size + 1) 28 13 (ivs fun _ => 0)) := (T1.out.alloc _).drew
    have RX4 : Hid ((w1.alloc (.cells #[.int .i64 (1 + p0), .int .i64 p1, .int .i64 (2 + p2), .int .i64 (1 + p3), .int .i64 p4, .int .i64 0, .int .i64 0, .int .i64 0, .int .i64 0, .int .i64 0, .int .i64 0, .int .i64 0, .int .i64 0] 28)).drew.rowIs w1.heap.size 28 13 (ivs (lofA p0 p1 p2 p3 p4))) := (row13_alloc w1 28 (ivs (lofA p0 p1 p2 p3 p4))).drew
    have X4 : Hid (Ext w (w1.alloc (.cells #[.int .i64 (1 + p0), .int .i64 p1, .int .i64 (2 + p2), .int .i64 (1 + p3), .int .i64 p4, .int .i64 0, .int .i64 0, .int .i64 0, .int .i64 0, .int .i64 0, .int .i64 0, .int .i64 0, .int .i64 0] 28)).drew) := (X1.out.alloc _ _).drew
    have hg1 : w.heap.size + 1 < w1.heap.size := T1.out.lt
    clear t0 t1 t2 t3 t4 t5 t6 t7 t8 t9 t10 t11 R1 T1 X1 HT1
    generalize (w1.alloc (.cells #[.int .i64 (1 + p0), .int .i64 p1, .int .i64 (2 + p2), .int .i64 (1 + p3), .int .i64 p4, .int .i64 0, .int .i64 0, .int .i64 0, .int .i64 0, .int .i64 0, .int .i64 0, .int .i64 0, .int .i64 0] 28)).drew = w4 at *
    generalize w1.heap.size = g at *
    have c4 := RX4.out.drew.cell (i := 4) (by omega)
    have c5 := RT4.out.drew.cell (i := 5) (by omega)
    have c6 := RT4.out.drew.cell (i := 6) (by omega)
    have c8 := RT4.out.drew.cell (i := 8) (by omega)
    have c9 := RT4.out.drew.cell (i := 9) (by omega)
    have c10 := RT4.out.drew.cell (i := 10) (by omega)
    have c11 := RT4.out.drew.cell (i := 11) (by omega)
    unfold ivs at c4 c5 c6 c8 c9 c10 c11
    rw [show lofA p0 p1 p2 p3 p4 4 = p4 from rfl] at c4
    have w8 : IntKind.i64.wrap (p4 + 1) = p4 + 1 := by rw [IntKind.wrap_i64]; omega
    have d5 := RX4.out.cell (i := 5) (by omega)
    have f5 := RX4.out.frozen 5
    rw [show ivs (lofA p0 p1 p2 p3 p4) 5 = .int .i64 0 from rfl] at d5
    have d6 := RX4.out.cell (i := 6) (by omega)
    have f6 := RX4.out.frozen 6
    rw [show ivs (lofA p0 p1 p2 p3 p4) 6 = .int .i64 0 from rfl] at d6
    have d7 := RX4.out.cell (i := 7) (by omega)
    have f7 := RX4.out.frozen 7
    rw [show ivs (lofA p0 p1 p2 p3 p4) 7 = .int .i64 0 from rfl] at d7
    have d8 := RX4.out.cell (i := 8) (by omega)
    have f8 := RX4.out.frozen 8
    rw [show ivs (lofA p0 p1 p2 p3 p4) 8 = .int .i64 0 from rfl] at d8
    have d9 := RX4.out.cell (i := 9) (by omega)
    have f9 := RX4.out.frozen 9
    rw [show ivs (lofA p0 p1 p2 p3 p4) 9 = .int .i64 0 from rfl] at d9
    have d10 := RX4.out.cell (i := 10) (by omega)
    have f10 := RX4.out.frozen 10
    rw [show ivs (lofA p0 p1 p2 p3 p4) 10 = .int .i64 0 from rfl] at d10
    have d11 := RX4.out.cell (i := 11) (by omega)
    have f11 := RX4.out.frozen 11
    rw [show ivs (lofA p0 p1 p2 p3 p4) 11 = .int .i64 0 from rfl] at d11
    have d12 := RX4.out.cell (i := 12) (by omega)
    have f12 := RX4.out.frozen 12
    rw [show ivs (lofA p0 p1 p2 p3 p4) 12 = .int .i64 0 from rfl] at d12
    refine wp_region_still_tail 16 (by kernel_rfl) (by kernel_rfl) ?_
    simp only [List.take_succ_cons, List.take_zero, List.drop_succ_cons, List.drop_zero]
    repeat still_step
    still_call (P5 _)
    repeat still_step
    still_call (P6 _)
    repeat still_step
    still_call (P8 _)
    repeat still_step
    refine wpStill_nil ?_
    clear c4 c5 c6 c8 c9 c10 c11
    go_upto_region 5 with fail
    clear d5 d6 d7 d8 d9 d10 d11 d12 f5 f6 f7 f8 f9 f10 f11 f12
    obtain ⟨RX5, X5, Z5⟩ := put8at5 t p0 p1 p2 p3 p4 p5 p6 p8 X4.out (by omega) RX4.out
    have RT5 : Hid (((((((((w4.setCell ⟨g, 5, none⟩ (.int .i64 (p5))).setCell ⟨g, 6, none⟩ (.int .i64 (p6))).setCell ⟨g, 7, none⟩ (.int .i64 (0))).setCell ⟨g, 8, none⟩ (.int .i64 (p8))).setCell ⟨g, 9, none⟩ (.int .i64 (t 8))).setCell ⟨g, 10, none⟩ (.int .i64 (t 9))).setCell ⟨g, 11, none⟩ (.int .i64 (t 10))).setCell ⟨g, 12, none⟩ (.int .i64 (t 11))).rowIs w.heap.size 39 12 (ivs t)) := Z5.out.rowIs RT4.out (by show ¬ w.heap.size = g; omega)
    have TT5 : Hid (((((((((w4.setCell ⟨g, 5, none⟩ (.int .i64 (p5))).setCell ⟨g, 6, none⟩ (.int .i64 (p6))).setCell ⟨g, 7, none⟩ (.int .i64 (0))).setCell ⟨g, 8, none⟩ (.int .i64 (p8))).setCell ⟨g, 9, none⟩ (.int .i64 (t 8))).setCell ⟨g, 10, none⟩ (.int .i64 (t 9))).setCell ⟨g, 11, none⟩ (.int .i64 (t 10))).setCell ⟨g, 12, none⟩ (.int .i64 (t 11))).rowIs (w.heap.size + 1) 28 13 (ivs fun _ => 0)) := Z5.out.rowIs TT4.out (by show ¬ w.heap.size + 1 = g; omega)
    clear RX4 RT4 TT4 X4 Z5
    generalize (((((((w4.setCell ⟨g, 5, none⟩ (.int .i64 (p5))).setCell ⟨g, 6, none⟩ (.int .i64 (p6))).setCell ⟨g, 7, none⟩ (.int .i64 (0))).setCell ⟨g, 8, none⟩ (.int .i64 (p8))).setCell ⟨g, 9, none⟩ (.int .i64 (t 8))).setCell ⟨g, 10, none⟩ (.int .i64 (t 9))).setCell ⟨g, 11, none⟩ (.int .i64 (t 10))).setCell ⟨g, 12, none⟩ (.int .i64 (t 11)) = w5 at *
    have c7 := RT5.out.drew.cell (i := 7) (by omega)
    have c6 := RX5.out.drew.cell (i := 6) (by omega)
    unfold ivs at c7 c6
    rw [show lofB t p0 p1 p2 p3 p4 p5 p6 0 p8 6 = p6 from rfl] at c6
    have d7 := RX5.out.cell (i := 7) (by omega)
    have f7 := RX5.out.frozen 7
    unfold ivs at d7
    go_wp2_with fail
    refine (P7 _).mono ?_
    rintro e w' ⟨rfl, rfl⟩
    clear c7 c6
    go_upto_region 6 with fail
    have RX6 : Hid ((w5.setCell ⟨g, 7, none⟩ (.int .i64 p7)).drew.rowIs g 28 13 (ivs (lofB t p0 p1 p2 p3 p4 p5 p6 p7 p8))) := ((RX5.out.set 7 _).congr fun i hi => by
      match i, hi with
    | 0, _ => rfl
    | 1, _ => rfl
    | 2, _ => rfl
    | 3, _ => rfl
    | 4, _ => rfl
    | 5, _ => rfl
    | 6, _ => rfl
    | 7, _ => rfl
    | 8, _ => rfl
    | 9, _ => rfl
    | 10, _ => rfl
    | 11, _ => rfl
    | 12, _ => rfl).drew
    have TT6 : Hid ((w5.setCell ⟨g, 7, none⟩ (.int .i64 p7)).drew.rowIs (w.heap.size + 1) 28 13 (ivs fun _ => 0)) := (Wro.rowIs (S := (· = g)) ((Wro.refl (· = g) w5).setCell (p := ⟨g, 7, none⟩) rfl _) TT5.out (by show ¬ w.heap.size + 1 = g; omega)).drew
    have X6 : Hid (Ext w (w5.setCell ⟨g, 7, none⟩ (.int .i64 p7)).drew) := (X5.out.setCell (p := ⟨g, 7, none⟩) (by show w.heap.size ≤ g; omega) _).drew
    clear RX5 TT5 RT5 X5 d7 f7
    generalize (w5.setCell ⟨g, 7, none⟩ (.int .i64 p7)).drew = w6 at *
    generalize hV : lofB t p0 p1 p2 p3 p4 p5 p6 p7 p8 = V at *
    clear hV
    have q0 := RX6.out.cell (i := 0) (by omega)
    have d0 := TT6.out.cell (i := 0) (by omega)
    have f0 := TT6.out.frozen 0
    have q1 := RX6.out.cell (i := 1) (by omega)
    have d1 := TT6.out.cell (i := 1) (by omega)
    have f1 := TT6.out.frozen 1
    have q2 := RX6.out.cell (i := 2) (by omega)
    have d2 := TT6.out.cell (i := 2) (by omega)
    have f2 := TT6.out.frozen 2
    have q3 := RX6.out.cell (i := 3) (by omega)
    have d3 := TT6.out.cell (i := 3) (by omega)
    have f3 := TT6.out.frozen 3
    have q4 := RX6.out.cell (i := 4) (by omega)
    have d4 := TT6.out.cell (i := 4) (by omega)
    have f4 := TT6.out.frozen 4
    have q5 := RX6.out.cell (i := 5) (by omega)
    have d5 := TT6.out.cell (i := 5) (by omega)
    have f5 := TT6.out.frozen 5
    have q6 := RX6.out.cell (i := 6) (by omega)
    have d6 := TT6.out.cell (i := 6) (by omega)
    have f6 := TT6.out.frozen 6
    have q7 := RX6.out.cell (i := 7) (by omega)
    have d7 := TT6.out.cell (i := 7) (by omega)
    have f7 := TT6.out.frozen 7
    have q8 := RX6.out.cell (i := 8) (by omega)
    have d8 := TT6.out.cell (i := 8) (by omega)
    have f8 := TT6.out.frozen 8
    have q9 := RX6.out.cell (i := 9) (by omega)
    have d9 := TT6.out.cell (i := 9) (by omega)
    have f9 := TT6.out.frozen 9
    have q10 := RX6.out.cell (i := 10) (by omega)
    have d10 := TT6.out.cell (i := 10) (by omega)
    have f10 := TT6.out.frozen 10
    have q11 := RX6.out.cell (i := 11) (by omega)
    have d11 := TT6.out.cell (i := 11) (by omega)
    have f11 := TT6.out.frozen 11
    have q12 := RX6.out.cell (i := 12) (by omega)
    have d12 := TT6.out.cell (i := 12) (by omega)
    have f12 := TT6.out.frozen 12
    unfold ivs at q0 q1 q2 q3 q4 q5 q6 q7 q8 q9 q10 q11 q12 d0 d1 d2 d3 d4 d5 d6 d7 d8 d9 d10 d11 d12
    go_wp2_with fail
    have R9 := put13 V X6.out (by show w.heap.size ≤ w.heap.size + 1; omega) TT6.out
    have hin : (Try.prog.info? 28).map (·.size) = some 13 := by kernel_rfl
    refine bodyPost_ret (results_cell_row rfl _ _ (w.heap.size + 1) 28 #[ivs V 0, ivs V 1, ivs V 2, ivs V 3, ivs V 4, ivs V 5, ivs V 6, ivs V 7, ivs V 8, ivs V 9, ivs V 10, ivs V 11, ivs V 12] (0, 0) _ rfl (row13 R9.1) Try.underlying28 rfl (in13 hin (ivs V))) rfl ?_
    refine ⟨?_, R9.2⟩
    have hl := HL.out
    unfold ivs
    rw [hl 0 (by omega), hl 1 (by omega), hl 2 (by omega), hl 3 (by omega), hl 4 (by omega), hl 5 (by omega), hl 6 (by omega), hl 7 (by omega), hl 8 (by omega), hl 9 (by omega), hl 10 (by omega), hl 11 (by omega), hl 12 (by omega)]
  · obtain rfl : m3 = 3 := by omega
    go_wp2_with fail
    refine (P3 _).mono ?_
    rintro e w' ⟨rfl, rfl⟩
    go_upto_region 4 with fail
    have RT4 : Hid ((w1.alloc (.cells #[.int .i64 (1 + p0), .int .i64 p1, .int .i64 (2 + p2), .int .i64 (1 + p3), .int .i64 p4, .int .i64 0, .int .i64 0, .int .i64 0, .int .i64 0, .int .i64 0, .int .i64 0, .int .i64 0, .int .i64 0] 28)).drew.rowIs w.heap.size 39 12 (ivs t)) := (R1.out.alloc _).drew
    have TT4 : Hid ((w1.alloc (.cells #[.int .i64 (1 + p0), .int .i64 p1, .int .i64 (2 + p2), .int .i64 (1 + p3), .int .i64 p4, .int .i64 0, .int .i64 0, .int .i64 0, .int .i64 0, .int .i64 0, .int .i64 0, .int .i64 0, .int .i64 0] 28)).drew.rowIs (w.heap.size + 1) 28 13 (ivs fun _ => 0)) := (T1.out.alloc _).drew
    have RX4 : Hid ((w1.alloc (.cells #[.int .i64 (1 + p0), .int .i64 p1, .int .i64 (2 + p2), .int .i64 (1 + p3), .int .i64 p4, .int .i64 0, .int .i64 0, .int .i64 0, .int .i64 0, .int .i64 0, .int .i64 0, .int .i64 0, .int .i64 0] 28)).drew.rowIs w1.heap.size 28 13 (ivs (lofA p0 p1 p2 p3 p4))) := (row13_alloc w1 28 (ivs (lofA p0 p1 p2 p3 p4))).drew
    have X4 : Hid (Ext w (w1.alloc (.cells #[.int .i64 (1 + p0), .int .i64 p1, .int .i64 (2 + p2), .int .i64 (1 + p3), .int .i64 p4, .int .i64 0, .int .i64 0, .int .i64 0, .int .i64 0, .int .i64 0, .int .i64 0, .int .i64 0, .int .i64 0] 28)).drew) := (X1.out.alloc _ _).drew
    have hg1 : w.heap.size + 1 < w1.heap.size := T1.out.lt
    clear t0 t1 t2 t3 t4 t5 t6 t7 t8 t9 t10 t11 R1 T1 X1 HT1
    generalize (w1.alloc (.cells #[.int .i64 (1 + p0), .int .i64 p1, .int .i64 (2 + p2), .int .i64 (1 + p3), .int .i64 p4, .int .i64 0, .int .i64 0, .int .i64 0, .int .i64 0, .int .i64 0, .int .i64 0, .int .i64 0, .int .i64 0] 28)).drew = w4 at *
    generalize w1.heap.size = g at *
    have c4 := RX4.out.drew.cell (i := 4) (by omega)
    have c5 := RT4.out.drew.cell (i := 5) (by omega)
    have c6 := RT4.out.drew.cell (i := 6) (by omega)
    have c8 := RT4.out.drew.cell (i := 8) (by omega)
    have c9 := RT4.out.drew.cell (i := 9) (by omega)
    have c10 := RT4.out.drew.cell (i := 10) (by omega)
    have c11 := RT4.out.drew.cell (i := 11) (by omega)
    unfold ivs at c4 c5 c6 c8 c9 c10 c11
    rw [show lofA p0 p1 p2 p3 p4 4 = p4 from rfl] at c4
    have w8 : IntKind.i64.wrap (p4 + 1) = p4 + 1 := by rw [IntKind.wrap_i64]; omega
    have d5 := RX4.out.cell (i := 5) (by omega)
    have f5 := RX4.out.frozen 5
    rw [show ivs (lofA p0 p1 p2 p3 p4) 5 = .int .i64 0 from rfl] at d5
    have d6 := RX4.out.cell (i := 6) (by omega)
    have f6 := RX4.out.frozen 6
    rw [show ivs (lofA p0 p1 p2 p3 p4) 6 = .int .i64 0 from rfl] at d6
    have d7 := RX4.out.cell (i := 7) (by omega)
    have f7 := RX4.out.frozen 7
    rw [show ivs (lofA p0 p1 p2 p3 p4) 7 = .int .i64 0 from rfl] at d7
    have d8 := RX4.out.cell (i := 8) (by omega)
    have f8 := RX4.out.frozen 8
    rw [show ivs (lofA p0 p1 p2 p3 p4) 8 = .int .i64 0 from rfl] at d8
    have d9 := RX4.out.cell (i := 9) (by omega)
    have f9 := RX4.out.frozen 9
    rw [show ivs (lofA p0 p1 p2 p3 p4) 9 = .int .i64 0 from rfl] at d9
    have d10 := RX4.out.cell (i := 10) (by omega)
    have f10 := RX4.out.frozen 10
    rw [show ivs (lofA p0 p1 p2 p3 p4) 10 = .int .i64 0 from rfl] at d10
    have d11 := RX4.out.cell (i := 11) (by omega)
    have f11 := RX4.out.frozen 11
    rw [show ivs (lofA p0 p1 p2 p3 p4) 11 = .int .i64 0 from rfl] at d11
    have d12 := RX4.out.cell (i := 12) (by omega)
    have f12 := RX4.out.frozen 12
    rw [show ivs (lofA p0 p1 p2 p3 p4) 12 = .int .i64 0 from rfl] at d12
    refine wp_region_still_tail 16 (by kernel_rfl) (by kernel_rfl) ?_
    simp only [List.take_succ_cons, List.take_zero, List.drop_succ_cons, List.drop_zero]
    repeat still_step
    still_call (P5 _)
    repeat still_step
    still_call (P6 _)
    repeat still_step
    still_call (P8 _)
    repeat still_step
    refine wpStill_nil ?_
    clear c4 c5 c6 c8 c9 c10 c11
    go_upto_region 5 with fail
    clear d5 d6 d7 d8 d9 d10 d11 d12 f5 f6 f7 f8 f9 f10 f11 f12
    obtain ⟨RX5, X5, Z5⟩ := put8at5 t p0 p1 p2 p3 p4 p5 p6 p8 X4.out (by omega) RX4.out
    have RT5 : Hid (((((((((w4.setCell ⟨g, 5, none⟩ (.int .i64 (p5))).setCell ⟨g, 6, none⟩ (.int .i64 (p6))).setCell ⟨g, 7, none⟩ (.int .i64 (0))).setCell ⟨g, 8, none⟩ (.int .i64 (p8))).setCell ⟨g, 9, none⟩ (.int .i64 (t 8))).setCell ⟨g, 10, none⟩ (.int .i64 (t 9))).setCell ⟨g, 11, none⟩ (.int .i64 (t 10))).setCell ⟨g, 12, none⟩ (.int .i64 (t 11))).rowIs w.heap.size 39 12 (ivs t)) := Z5.out.rowIs RT4.out (by show ¬ w.heap.size = g; omega)
    have TT5 : Hid (((((((((w4.setCell ⟨g, 5, none⟩ (.int .i64 (p5))).setCell ⟨g, 6, none⟩ (.int .i64 (p6))).setCell ⟨g, 7, none⟩ (.int .i64 (0))).setCell ⟨g, 8, none⟩ (.int .i64 (p8))).setCell ⟨g, 9, none⟩ (.int .i64 (t 8))).setCell ⟨g, 10, none⟩ (.int .i64 (t 9))).setCell ⟨g, 11, none⟩ (.int .i64 (t 10))).setCell ⟨g, 12, none⟩ (.int .i64 (t 11))).rowIs (w.heap.size + 1) 28 13 (ivs fun _ => 0)) := Z5.out.rowIs TT4.out (by show ¬ w.heap.size + 1 = g; omega)
    clear RX4 RT4 TT4 X4 Z5
    generalize (((((((w4.setCell ⟨g, 5, none⟩ (.int .i64 (p5))).setCell ⟨g, 6, none⟩ (.int .i64 (p6))).setCell ⟨g, 7, none⟩ (.int .i64 (0))).setCell ⟨g, 8, none⟩ (.int .i64 (p8))).setCell ⟨g, 9, none⟩ (.int .i64 (t 8))).setCell ⟨g, 10, none⟩ (.int .i64 (t 9))).setCell ⟨g, 11, none⟩ (.int .i64 (t 10))).setCell ⟨g, 12, none⟩ (.int .i64 (t 11)) = w5 at *
    have c7 := RT5.out.drew.cell (i := 7) (by omega)
    have c6 := RX5.out.drew.cell (i := 6) (by omega)
    unfold ivs at c7 c6
    rw [show lofB t p0 p1 p2 p3 p4 p5 p6 0 p8 6 = p6 from rfl] at c6
    have d7 := RX5.out.cell (i := 7) (by omega)
    have f7 := RX5.out.frozen 7
    unfold ivs at d7
    go_wp2_with fail
    refine (P7 _).mono ?_
    rintro e w' ⟨rfl, rfl⟩
    clear c7 c6
    go_upto_region 6 with fail
    have RX6 : Hid ((w5.setCell ⟨g, 7, none⟩ (.int .i64 p7)).drew.rowIs g 28 13 (ivs (lofB t p0 p1 p2 p3 p4 p5 p6 p7 p8))) := ((RX5.out.set 7 _).congr fun i hi => by
      match i, hi with
    | 0, _ => rfl
    | 1, _ => rfl
    | 2, _ => rfl
    | 3, _ => rfl
    | 4, _ => rfl
    | 5, _ => rfl
    | 6, _ => rfl
    | 7, _ => rfl
    | 8, _ => rfl
    | 9, _ => rfl
    | 10, _ => rfl
    | 11, _ => rfl
    | 12, _ => rfl).drew
    have TT6 : Hid ((w5.setCell ⟨g, 7, none⟩ (.int .i64 p7)).drew.rowIs (w.heap.size + 1) 28 13 (ivs fun _ => 0)) := (Wro.rowIs (S := (· = g)) ((Wro.refl (· = g) w5).setCell (p := ⟨g, 7, none⟩) rfl _) TT5.out (by show ¬ w.heap.size + 1 = g; omega)).drew
    have X6 : Hid (Ext w (w5.setCell ⟨g, 7, none⟩ (.int .i64 p7)).drew) := (X5.out.setCell (p := ⟨g, 7, none⟩) (by show w.heap.size ≤ g; omega) _).drew
    clear RX5 TT5 RT5 X5 d7 f7
    generalize (w5.setCell ⟨g, 7, none⟩ (.int .i64 p7)).drew = w6 at *
    generalize hV : lofB t p0 p1 p2 p3 p4 p5 p6 p7 p8 = V at *
    clear hV
    have q0 := RX6.out.cell (i := 0) (by omega)
    have d0 := TT6.out.cell (i := 0) (by omega)
    have f0 := TT6.out.frozen 0
    have q1 := RX6.out.cell (i := 1) (by omega)
    have d1 := TT6.out.cell (i := 1) (by omega)
    have f1 := TT6.out.frozen 1
    have q2 := RX6.out.cell (i := 2) (by omega)
    have d2 := TT6.out.cell (i := 2) (by omega)
    have f2 := TT6.out.frozen 2
    have q3 := RX6.out.cell (i := 3) (by omega)
    have d3 := TT6.out.cell (i := 3) (by omega)
    have f3 := TT6.out.frozen 3
    have q4 := RX6.out.cell (i := 4) (by omega)
    have d4 := TT6.out.cell (i := 4) (by omega)
    have f4 := TT6.out.frozen 4
    have q5 := RX6.out.cell (i := 5) (by omega)
    have d5 := TT6.out.cell (i := 5) (by omega)
    have f5 := TT6.out.frozen 5
    have q6 := RX6.out.cell (i := 6) (by omega)
    have d6 := TT6.out.cell (i := 6) (by omega)
    have f6 := TT6.out.frozen 6
    have q7 := RX6.out.cell (i := 7) (by omega)
    have d7 := TT6.out.cell (i := 7) (by omega)
    have f7 := TT6.out.frozen 7
    have q8 := RX6.out.cell (i := 8) (by omega)
    have d8 := TT6.out.cell (i := 8) (by omega)
    have f8 := TT6.out.frozen 8
    have q9 := RX6.out.cell (i := 9) (by omega)
    have d9 := TT6.out.cell (i := 9) (by omega)
    have f9 := TT6.out.frozen 9
    have q10 := RX6.out.cell (i := 10) (by omega)
    have d10 := TT6.out.cell (i := 10) (by omega)
    have f10 := TT6.out.frozen 10
    have q11 := RX6.out.cell (i := 11) (by omega)
    have d11 := TT6.out.cell (i := 11) (by omega)
    have f11 := TT6.out.frozen 11
    have q12 := RX6.out.cell (i := 12) (by omega)
    have d12 := TT6.out.cell (i := 12) (by omega)
    have f12 := TT6.out.frozen 12
    unfold ivs at q0 q1 q2 q3 q4 q5 q6 q7 q8 q9 q10 q11 q12 d0 d1 d2 d3 d4 d5 d6 d7 d8 d9 d10 d11 d12
    go_wp2_with fail
    have R9 := put13 V X6.out (by show w.heap.size ≤ w.heap.size + 1; omega) TT6.out
    have hin : (Try.prog.info? 28).map (·.size) = some 13 := by kernel_rfl
    refine bodyPost_ret (results_cell_row rfl _ _ (w.heap.size + 1) 28 #[ivs V 0, ivs V 1, ivs V 2, ivs V 3, ivs V 4, ivs V 5, ivs V 6, ivs V 7, ivs V 8, ivs V 9, ivs V 10, ivs V 11, ivs V 12] (0, 0) _ rfl (row13 R9.1) Try.underlying28 rfl (in13 hin (ivs V))) rfl ?_
    refine ⟨?_, R9.2⟩
    have hl := HL.out
    unfold ivs
    rw [hl 0 (by omega), hl 1 (by omega), hl 2 (by omega), hl 3 (by omega), hl 4 (by omega), hl 5 (by omega), hl 6 (by omega), hl 7 (by omega), hl 8 (by omega), hl 9 (by omega), hl 10 (by omega), hl 11 (by omega), hl 12 (by omega)]
end Go.Proofs.Ytemndnpbbkjmhab
