/-
  label.seal, label.writeSum, label.readSum; the world only grows, but for the row that is written.
-/
import Derived.Test.YtemndnpbbkjmhabLabFn
import Derived.Deep.CutRange
namespace Go.Proofs.Ytemndnpbbkjmhab
open Go.RowKit Go.Deep E
theorem index_arr {P : Program} {t e : TypeId} {n : Nat} {b : TypeId} (h : P.underlying t = some (.array n e)) (hb : P.underlying e = some (.pointer b)) (he : (P.info? e).map (·.size) = some 1) (cs : Array Value) (i : Nat) (hi : i < n) (x : Value) (hx : cs[i]? = some x) (w : World) :
    (Instr.index t (.agg cs) (.int .i64 (i : Int))).run P w = .ok x w := by
  have hn : (0 ≤ (i : Int) ∧ (i : Int) < (n : Int)) := by omega
  obtain ⟨i0, hi0, h1⟩ : ∃ i0, P.info? e = some i0 ∧ i0.size = 1 := by
    cases hq : P.info? e with
    | none => rw [hq] at he; cases he
    | some i0 => rw [hq] at he; exact ⟨i0, rfl, by simpa using he⟩
  have hc : P.cellsOf e = 1 := by simp [Program.cellsOf, hi0, h1]
  have hg : (isAgg e).run P w = .ok false w := by simp [isAgg, run_underlying hb]
  have hz : (sizeOf e).run P w = .ok 1 w := by simp [sizeOf, run_typeInfo w hi0, h1]
  simp [Instr.index, run_underlying h, asIntOf, hn, go_sem, hi, hz, hg, hx, Result.andThen]
theorem Of_seal (a : Option Addr) (c : Nat) (B : Nat → E) (w : World) (hn : 96 ≤ c) (hc : c ≤ 9223372036854775807) (h : Byts w a 96 B) :
    Calls Try.prog 36 #[.slice a 96 c] w fun e w' => e = .returned (.tuple #[.agg #[.int .i64 (sealV B 0), .int .i64 (sealV B 1), .int .i64 (sealV B 2), .int .i64 (sealV B 3)], .int .i64 0]) ∧ Ext w w' := by
  have H := Of_words a 24 c B w (by omega) hc (by simpa using h)
  simp only [Nat.reduceMul] at H
  unfold sealV
  exact H
theorem put4 {w : World} {g : Nat} {t : TypeId} {f : Nat → Value} (h : w.rowIs g t 4 f) (S : Nat → Int) :
    ((((w.setCell ⟨g, 0, none⟩ (.int .i64 (S 0))).setCell ⟨g, 1, none⟩ (.int .i64 (S 1))).setCell ⟨g, 2, none⟩ (.int .i64 (S 2))).setCell ⟨g, 3, none⟩ (.int .i64 (S 3))).rowIs g t 4 (ivs S) := by
  refine ((((h.set 0 _).set 1 _).set 2 _).set 3 _).congr fun i hi => ?_
  match i, hi with
    | 0, _ => rfl
    | 1, _ => rfl
    | 2, _ => rfl
    | 3, _ => rfl
set_option maxRecDepth 100000 in
set_option maxHeartbeats 1600000 in
theorem seal_any (a : Option Addr) (n c : Nat) (B : Nat → E) (w : World) (hn : 96 ≤ n) (hc : n ≤ c ∧ c ≤ 9223372036854775807) (h : Byts w a n B) :
    Calls Try.prog 20 #[.slice a n c] w fun e w' => e = .returned (.agg #[.int .i64 (sealV B 0), .int .i64 (sealV B 1), .int .i64 (sealV B 2), .int .i64 (sealV B 3)]) ∧ Ext w w' := by
  obtain ⟨b, o, rfl, _⟩ := h.at (by omega)
  have HB : Hid (Byts w (some ⟨b, o, none⟩) n B) := h
  clear h
  have HO := Of_seal (some ⟨b, o + 0, none⟩) c B (w.alloc (.cells #[.int .i64 0, .int .i64 0, .int .i64 0, .int .i64 0] 24)) (by omega) hc.2 ((HB.out.ext ((Ext.refl _).alloc _ _)).sub 0 96 (by omega) (a' := some ⟨b, o + 0, none⟩) (fun _ b' o' e => by cases e; rfl) |>.congr fun i _ => by rw [Nat.zero_add])
  generalize sealV B = S at HO ⊢
  have hsl := sub_h (P := Try.prog) Try.underlying22 size8 (some ⟨b, o, none⟩) n c 96 (by omega) (96 : Int) rfl
  rw [subA_some (by omega)] at hsl
  clear hc hn
  go_enter Try.func20, Try.ntmps20
  go_wp2_with fail
  refine HO.mono ?_
  rintro e w1 ⟨rfl, hx1⟩
  have S0 : Hid ((w1.alloc (.cells #[.int .i64 (S 0), .int .i64 (S 1), .int .i64 (S 2), .int .i64 (S 3)] 24)).rowIs w.heap.size 24 4 (ivs fun _ => 0)) := (hx1.rowIs (row4_alloc w 24 (ivs fun _ => 0))).alloc _
  have R0 : Hid ((w1.alloc (.cells #[.int .i64 (S 0), .int .i64 (S 1), .int .i64 (S 2), .int .i64 (S 3)] 24)).rowIs w1.heap.size 24 4 (ivs S)) := row4_alloc w1 24 (ivs S)
  have X1 : Hid (Ext w (w1.alloc (.cells #[.int .i64 (S 0), .int .i64 (S 1), .int .i64 (S 2), .int .i64 (S 3)] 24))) := (((Ext.refl _).alloc _ _).trans hx1).alloc _ _
  clear hx1 hsl
  go_upto_region 2 with fail
  generalize w1.alloc (.cells #[.int .i64 (S 0), .int .i64 (S 1), .int .i64 (S 2), .int .i64 (S 3)] 24) = w2 at *
  generalize w1.heap.size = g2 at *
  have q0 := R0.out.cell (i := 0) (by omega)
  have q1 := R0.out.cell (i := 1) (by omega)
  have q2 := R0.out.cell (i := 2) (by omega)
  have q3 := R0.out.cell (i := 3) (by omega)
  have c0 := S0.out.cell (i := 0) (by omega)
  have c1 := S0.out.cell (i := 1) (by omega)
  have c2 := S0.out.cell (i := 2) (by omega)
  have c3 := S0.out.cell (i := 3) (by omega)
  have f0 := S0.out.frozen 0
  have f1 := S0.out.frozen 1
  have f2 := S0.out.frozen 2
  have f3 := S0.out.frozen 3
  unfold ivs at q0 q1 q2 q3 c0 c1 c2 c3
  go_wp2_with fail
  have R9 := put4 S0.out S
  have hin : (Try.prog.info? 24).map (·.size) = some 4 := by kernel_rfl
  refine bodyPost_ret (results_cell_row rfl _ _ w.heap.size 24 #[ivs S 0, ivs S 1, ivs S 2, ivs S 3] (0, 0) _ rfl (row4 R9) Try.underlying24 rfl (in4 hin (ivs S))) rfl ?_
  exact ⟨rfl, (((X1.out.setCell (p := ⟨w.heap.size, 0, none⟩) (Nat.le_refl _) _).setCell (p := ⟨w.heap.size, 1, none⟩) (Nat.le_refl _) _).setCell (p := ⟨w.heap.size, 2, none⟩) (Nat.le_refl _) _).setCell (p := ⟨w.heap.size, 3, none⟩) (Nat.le_refl _) _⟩
/-- the first k numbers stand from o on, eight bytes each -/
def putS8 (f : Nat → E) (o : Nat) (s : Nat → Int) (k i : Nat) : E := if o ≤ i ∧ i < o + 8 * k then byt (s ((i - o) / 8)) ((i - o) % 8) else f i
theorem putS8_put (f : Nat → E) (o : Nat) (s : Nat → Int) (k i : Nat) : putB (putS8 f o s k) (o + 8 * k) (s k) 8 i = putS8 f o s (k + 1) i := by
  unfold putB putS8
  by_cases h1 : o + 8 * k ≤ i ∧ i < o + 8 * k + 8
  · rw [if_pos h1, if_pos (by omega), show (i - o) / 8 = k by omega, show (i - o) % 8 = i - (o + 8 * k) by omega]
  · rw [if_neg h1]
    by_cases h2 : o ≤ i ∧ i < o + 8 * k
    · rw [if_pos h2, if_pos (by omega)]
    · rw [if_neg h2, if_neg (by omega)]
theorem putS8_0 (f : Nat → E) (o : Nat) (s : Nat → Int) (i : Nat) : putS8 f o s 0 i = f i := by unfold putS8; rw [if_neg (by omega)]
set_option maxRecDepth 100000 in
set_option maxHeartbeats 4000000 in
theorem writeSum_any (g o m c N : Nat) (f : Nat → E) (s : Nat → Int) (w : World) (hm : 32 ≤ m ∧ m ≤ c ∧ o + m ≤ N) (h : w.rowIs g 5 N (bvs f)) :
    Calls Try.prog 33 #[.slice (some ⟨g, o, none⟩) m c, .agg #[.int .i64 (s 0), .int .i64 (s 1), .int .i64 (s 2), .int .i64 (s 3)]] w fun e w' => e = .returned (.tuple #[]) ∧ Wro (· = g) w w' ∧ w'.rowIs g 5 N (bvs (putS8 f o s 4)) := by
  have hg := h.lt
  have HG : Hid (w.rowIs g 5 N (bvs f)) := h
  clear h
  go_enter Try.func33, Try.ntmps33
  go_wp2_with fail
  refine (sums_any w.heap.size _).mono ?_
  rintro e w1 ⟨rfl, hx1⟩
  have X1 : Hid (Ext w w1) := ((Ext.refl _).alloc _ _).trans hx1
  have S1 : Hid (w1.rowIs w.heap.size 24 4 (ivs s)) := hx1.rowIs (row4_alloc w 24 (ivs s))
  have R1 : Hid (w1.rowIs g 5 N (bvs f)) := X1.out.rowIs HG.out
  clear hx1
  go_wp2_with fail
  go_loopw [7] (fun i wr => ∃ k : Nat, k ≤ 4 ∧ i = .int .i64 k ∧ Wro (· = g) w1 wr ∧ wr.rowIs g 5 N (bvs (putS8 f o s k))) (fun i _ => 4 - (intOf i).toNat)
  case atStart => exact ⟨0, Nat.zero_le _, rfl, Wro.refl _ _, R1.out.congr fun i _ => by unfold bvs; rw [putS8_0]⟩
  case round =>
    obtain ⟨k, hk, rfl, hx, hr⟩ := hrel
    have HR : Hid (wr.rowIs g 5 N (bvs (putS8 f o s k))) := hr
    have HS := hx.rowIs S1.out (by show ¬ w.heap.size = g; omega)
    clear hr
    by_cases hlt : k < 4
    · have hck := (HS.drew).cell (i := k) hlt
      unfold ivs at hck
      obtain ⟨p, hp⟩ : ∃ p : Nat, p = 8 * k := ⟨_, rfl⟩
      have hslk := sub_lh (P := Try.prog) Try.underlying22 size8 (some ⟨g, o, none⟩) m c p 8 (by omega) (p : Int) ((p : Int) + 8) rfl (by omega)
      rw [subA_some (by omega)] at hslk
      have hix := index_arr (P := Try.prog) Try.underlying65 Try.underlying52 (by kernel_rfl) #[.pointer (some ⟨w.heap.size, 0, none⟩), .pointer (some ⟨w.heap.size, 1, none⟩), .pointer (some ⟨w.heap.size, 2, none⟩), .pointer (some ⟨w.heap.size, 3, none⟩)] k hlt (.pointer (some ⟨w.heap.size, k, none⟩)) (by
        match k, hlt with
    | 0, _ => rfl
    | 1, _ => rfl
    | 2, _ => rfl
    | 3, _ => rfl)
      have hw1 : IntKind.i64.wrap ((k : Int) * 8) = (p : Int) := by rw [IntKind.wrap_i64]; omega
      have hw2 : IntKind.i64.wrap ((k : Int) + 1) = (k : Int) + 1 := by rw [IntKind.wrap_i64]; omega
      have hw3 : IntKind.i64.wrap (((k : Int) + 1) * 8) = (p : Int) + 8 := by rw [IntKind.wrap_i64]; omega
      have HP : Hid (p = 8 * k) := hp
      have hpb : o + p + 8 ≤ N := by omega
      clear HS hp
      go_wp2_with fail
      refine wp_region_still_tail 10 (by kernel_rfl) (by kernel_rfl) ?_
      simp only [List.take_succ_cons, List.take_zero, List.drop_succ_cons, List.drop_zero]
      repeat still_step
      refine wpStill_nil ?_
      go_wp2_with fail
      refine (write_any g (o + p) 8 _ N (putS8 f o s k) (s k) (by omega) (by omega) _ (HR.out.drew)).mono ?_
      rintro e w3 ⟨rfl, hx3, hr3⟩
      have R3 : Hid (w3.rowIs g 5 N (bvs (putS8 f o s (k + 1)))) := by
        have e := HP.out
        subst e
        exact hr3.congr fun i _ => by unfold bvs; rw [putS8_put]
      clear hr3
      go_wp2_with fail
      go_roundw
      case rel => exact ⟨k + 1, by omega, by go_num, (hx.drew).trans hx3, R3.out⟩
      case measure => simp [intOf]; omega
    · obtain rfl : k = 4 := by omega
      go_wp2_with fail
      go_end0
      exact ⟨rfl, (Wro.ext X1.out).trans hx, HR.out⟩
end Go.Proofs.Ytemndnpbbkjmhab
