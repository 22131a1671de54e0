/-
  flet.apart, flet.together, flet.word: four sums as a struct and as an array, four bytes as a number; the world only grows.
-/
import Derived.Test.YthgbfakmkdifbaaChecked
import Derived.WalkKit
import Derived.BigQuiet
import Derived.StillTailTactics
import Derived.Deep.WholeRow
import Derived.Deep.OwnRows
import Derived.Laws.BitsAllLaws
import Derived.Test.YthgbfakmkdifbaaMm
import Derived.Test.YthgbfakmkdifbaaByb
import Derived.Test.YthgbfakmkdifbaaQuiets
import Derived.Test.YthgbfakmkdifbaaGfs
namespace Go.Proofs.Ythgbfakmkdifbaa
open Go.RowKit Go.Deep E
set_option maxRecDepth 100000 in
set_option maxHeartbeats 400000 in
theorem apart_any (a b c d : Int) (w : World) : Calls Try.prog 52 #[.agg #[.int .i64 a, .int .i64 b, .int .i64 c, .int .i64 d]] w fun e w' => e = .returned (.agg #[.int .i64 a, .int .i64 b, .int .i64 c, .int .i64 d]) ∧ Ext w w' := by
  go_enter Try.func52, Try.ntmps52
  go_wp2_with fail
  refine bodyPost_ret (v := .agg #[.int .i64 a, .int .i64 b, .int .i64 c, .int .i64 d]) (by simp [results, Try.results52, go_sem]) rfl ⟨rfl, ?_⟩
  exact ((Ext.refl _).alloc _ _).alloc _ _
set_option maxRecDepth 100000 in
set_option maxHeartbeats 400000 in
theorem together_any (a b c d : Int) (w : World) : Calls Try.prog 55 #[.agg #[.int .i64 a, .int .i64 b, .int .i64 c, .int .i64 d]] w fun e w' => e = .returned (.agg #[.int .i64 a, .int .i64 b, .int .i64 c, .int .i64 d]) ∧ Ext w w' := by
  go_enter Try.func55, Try.ntmps55
  go_wp2_with fail
  refine bodyPost_ret (v := .agg #[.int .i64 a, .int .i64 b, .int .i64 c, .int .i64 d]) (by simp [results, Try.results55, go_sem]) rfl ⟨rfl, ?_⟩
  exact ((Ext.refl _).alloc _ _).alloc _ _
theorem or_put (a b k : Nat) (h : a < 2 ^ k) : a ||| (2 ^ k * b) = a + 2 ^ k * b := by
  rw [Nat.or_comm, ← Nat.two_pow_add_eq_or_of_lt h, Nat.add_comm]
theorem word_or (a b c d : Nat) (ha : a < 256) (hb : b < 256) (hc : c < 256) (hd : d < 256) :
    bits .or .i64 (bits .or .i64 (bits .or .i64 (a : Int) ((b : Int) * 256)) ((c : Int) * 65536)) ((d : Int) * 16777216) = (a : Int) + 256 * b + 65536 * c + 16777216 * d := by
  have e1 := or_put a b 8 (by omega)
  have e2 := or_put (a + 2 ^ 8 * b) c 16 (by omega)
  have e3 := or_put (a + 2 ^ 8 * b + 2 ^ 16 * c) d 24 (by omega)
  rw [show (b : Int) * 256 = ((2 ^ 8 * b : Nat) : Int) by omega, i64_or _ _ (by omega) (by omega), e1, show (c : Int) * 65536 = ((2 ^ 16 * c : Nat) : Int) by omega, i64_or _ _ (by omega) (by omega), e2, show (d : Int) * 16777216 = ((2 ^ 24 * d : Nat) : Int) by omega, i64_or _ _ (by omega) (by omega), e3]
  omega
/-- the number of a word's four bytes -/
def wd (x0 x1 x2 x3 : E) : Int := ev x0 + 256 * ev x1 + 65536 * ev x2 + 16777216 * ev x3
theorem word_ev (x0 x1 x2 x3 : E) : bits .or .i64 (bits .or .i64 (bits .or .i64 (ev x0) (ev x1 * 256)) (ev x2 * 65536)) (ev x3 * 16777216) = wd x0 x1 x2 x3 := word_or x0.val x1.val x2.val x3.val x0.lt x1.lt x2.lt x3.lt
theorem wd_bd (x0 x1 x2 x3 : E) : 0 ≤ wd x0 x1 x2 x3 ∧ wd x0 x1 x2 x3 < 4294967296 := by
  have b0 := ev_bd x0
  have b1 := ev_bd x1
  have b2 := ev_bd x2
  have b3 := ev_bd x3
  unfold wd
  omega
set_option maxRecDepth 100000 in
set_option maxHeartbeats 400000 in
theorem word_any (b o : Nat) (c : Nat) (x0 x1 x2 x3 : E) (w : World) (h0 : w.cell? ⟨b, o, none⟩ = some (.int .u8 (ev x0))) (h1 : w.cell? ⟨b, o + 1, none⟩ = some (.int .u8 (ev x1))) (h2 : w.cell? ⟨b, o + 2, none⟩ = some (.int .u8 (ev x2))) (h3 : w.cell? ⟨b, o + 3, none⟩ = some (.int .u8 (ev x3))) :
    Calls Try.prog 54 #[.slice (some ⟨b, o, none⟩) 4 c] w fun e w' => e = .returned (.int .i64 (wd x0 x1 x2 x3)) ∧ Ext w w' := by
  have b0 := ev_bd x0
  have b1 := ev_bd x1
  have b2 := ev_bd x2
  have b3 := ev_bd x3
  go_enter Try.func54, Try.ntmps54
  go_wp2_with fail
  go_quiet (fail)
  go_wp2_with fail
  go_ret
  exact ⟨by rw [word_ev]; rfl, ⟨⟨rfl, rfl, rfl, Nat.le_refl _, fun _ _ => rfl⟩⟩⟩
/-- numbers as values -/
def ivs (f : Nat → Int) (i : Nat) : Value := .int .i64 (f i)
/-- the sums behind a word: each takes what the one ahead of it has become -/
def stp (f : Nat → Int) (x : Int) : Nat → Int
  | 0 => wrap64 (f 0 + x)
  | k + 1 => wrap64 (f (k + 1) + stp f x k)
/-- the first k of them so, the others as they were -/
def stpK (f : Nat → Int) (x : Int) (k i : Nat) : Int := if i < k then stp f x i else f i
theorem stpK_put (f : Nat → Int) (x : Int) (k : Nat) (v : Int) (hv : v = stp f x k) (i : Nat) : (if i = k then Value.int .i64 v else ivs (stpK f x k) i) = ivs (stpK f x (k + 1)) i := by
  unfold ivs stpK
  by_cases e : i = k
  · subst e
    rw [if_pos rfl, if_pos (by omega), hv]
  · rw [if_neg e]
    by_cases l : i < k
    · rw [if_pos l, if_pos (by omega)]
    · rw [if_neg l, if_neg (by omega)]
set_option maxRecDepth 100000 in
set_option maxHeartbeats 400000 in
theorem add_any (g : Nat) (f : Nat → Int) (x : Int) (w : World) (h : w.rowIs g 84 4 (ivs f)) :
    Calls Try.prog 53 #[.pointer (some ⟨g, 0, none⟩), .int .i64 x] w fun e w' => e = .returned (.tuple #[]) ∧ Wro (· = g) w w' ∧ w'.rowIs g 84 4 (ivs (stp f x)) := by
  have HG : Hid (w.rowIs g 84 4 (ivs f)) := h
  have hc := h.cell (i := 0) (by omega)
  have hf := h.frozen 0
  clear h
  rw [show ivs f 0 = .int .i64 (f 0) from rfl] at hc
  go_enter Try.func53, Try.ntmps53
  go_wp2_with fail
  refine wp_region_still_tail 7 (by kernel_rfl) (by kernel_rfl) ?_
  simp only [List.take_succ_cons, List.take_zero, List.drop_succ_cons, List.drop_zero]
  repeat still_step
  refine wpStill_nil ?_
  go_wp2_with fail
  have X0 : Hid (Wro (· = g) w (w.setCell ⟨g, 0, none⟩ (.int .i64 (wrap64 (f 0 + x)))).drew) := (Wro.setCell (S := (· = g)) (p := ⟨g, 0, none⟩) (Wro.refl _ _) rfl _).drew
  have R0 : Hid ((w.setCell ⟨g, 0, none⟩ (.int .i64 (wrap64 (f 0 + x)))).drew.rowIs g 84 4 (ivs (stpK f x 1))) :=
    ((HG.out.set 0 _).congr fun i _ => (by rw [← stpK_put f x 0 _ rfl i]; rfl)).drew
  generalize (w.setCell ⟨g, 0, none⟩ (.int .i64 (wrap64 (f 0 + x)))).drew = w0 at *
  clear hc hf HG
  go_loopw [4] (fun i wr => ∃ k : Nat, 1 ≤ k ∧ k ≤ 4 ∧ i = .int .i64 k ∧ Wro (· = g) w wr ∧ wr.rowIs g 84 4 (ivs (stpK f x k))) (fun i _ => 4 - (intOf i).toNat)
  case atStart => exact ⟨1, by omega, by omega, rfl, X0.out, R0.out⟩
  case round =>
    obtain ⟨k, hk1, hk4, rfl, hx, hr⟩ := hrel
    have HR : Hid (wr.rowIs g 84 4 (ivs (stpK f x k))) := hr
    clear X0 R0
    by_cases hlt : k < 4
    · have hck := hr.cell (i := k) hlt
      have hcp := hr.cell (i := k - 1) (by omega)
      have hfk := hr.frozen k
      clear hr
      rw [show ivs (stpK f x k) k = .int .i64 (f k) by unfold ivs stpK; rw [if_neg (by omega)]] at hck
      rw [show ivs (stpK f x k) (k - 1) = .int .i64 (stp f x (k - 1)) by unfold ivs stpK; rw [if_pos (by omega)]] at hcp
      have hl1 : ((k - 1 : Nat) : Int) < 4 := by omega
      have hw1 : IntKind.i64.wrap ((k : Int) - 1) = ((k - 1 : Nat) : Int) := by rw [IntKind.wrap_i64]; omega
      go_wp2_with fail
      refine wp_region_still_tail 13 (by kernel_rfl) (by kernel_rfl) ?_
      simp only [List.take_succ_cons, List.take_zero, List.drop_succ_cons, List.drop_zero]
      repeat still_step
      refine wpStill_nil ?_
      go_wp2_with fail
      go_roundw
      case rel =>
        refine ⟨k + 1, by omega, by omega, by go_num, (hx.setCell (p := ⟨g, k, none⟩) rfl _).drew, ((HR.out.set k _).congr fun i _ => stpK_put f x k _ ?_ i).drew⟩
        obtain ⟨j, rfl⟩ : ∃ j, k = j + 1 := ⟨k - 1, by omega⟩
        rfl
      case measure => simp [intOf]; omega
    · obtain rfl : k = 4 := by omega
      go_wp2_with fail
      go_end0
      exact ⟨rfl, hx, hr.congr fun i hi => by unfold ivs stpK; rw [if_pos hi]⟩
/-- a block of four, whole -/
theorem row4 {w : World} {g : Nat} {t : TypeId} {f : Nat → Value} (h : w.rowIs g t 4 f) : w.heap[g]? = some (.cells #[f 0, f 1, f 2, f 3] t (0, 0)) := by
  obtain ⟨c, h1, h2, h3⟩ := h
  have e : c = #[f 0, f 1, f 2, f 3] := by
    apply Array.ext_getElem?
    intro i
    by_cases hi : i < 4
    · rw [h3 i hi]
      match i, hi with
      | 0, _ => rfl
      | 1, _ => rfl
      | 2, _ => rfl
      | 3, _ => rfl
    · rw [Array.getElem?_eq_none (by omega), Array.getElem?_eq_none (by simp; omega)]
  rw [h1, e]
theorem row4_alloc (w : World) (t : TypeId) (f : Nat → Value) : (w.alloc (.cells #[f 0, f 1, f 2, f 3] t)).rowIs w.heap.size t 4 f :=
  World.rowIs_alloc w #[f 0, f 1, f 2, f 3] t f fun i hi => by
    have hi : i < 4 := hi
    match i, hi with
    | 0, _ => rfl
    | 1, _ => rfl
    | 2, _ => rfl
    | 3, _ => rfl
theorem one4 (f : Nat → Int) : (#[ivs f 0, ivs f 1, ivs f 2, ivs f 3] : Array Value).all (·.oneCell') = true := by
  simp [ivs, Value.oneCell']
theorem in4 {t : TypeId} (h : (Try.prog.info? t).map (·.size) = some 4) (f : Nat → Value) : (Try.prog.info? t).map (·.size) = some (#[f 0, f 1, f 2, f 3] : Array Value).size := h
/-- in how many ways a sum comes on over k places -/
def car (n : Int) : Nat → Int
  | 0 => 1
  | k + 1 => car n k * (n + k) / (k + 1)
def carK (n : Int) (k i : Nat) : Int := if i < k then car n i else 0
theorem carK_put (n : Int) (k : Nat) (v : Int) (hv : v = car n k) (i : Nat) : (if i = k then Value.int .i64 v else ivs (carK n k) i) = ivs (carK n (k + 1)) i := by
  unfold ivs carK
  by_cases e : i = k
  · subst e
    rw [if_pos rfl, if_pos (by omega), hv]
  · rw [if_neg e]
    by_cases l : i < k
    · rw [if_pos l, if_pos (by omega)]
    · rw [if_neg l, if_neg (by omega)]
theorem car_bd (n : Nat) (hn : n ≤ 1048576) (k : Nat) (hk : k < 3) : 0 ≤ car n k ∧ car n k * ((n : Int) + k) ≤ 4611686018427387904 := by
  have h0 : car n 0 = 1 := rfl
  have h1 : car n 1 = (n : Int) := by show 1 * ((n : Int) + 0) / (0 + 1) = n; omega
  have m2 : (n : Int) * (n + 1) ≤ 1048576 * 1048577 := Int.mul_le_mul (by omega) (by omega) (by omega) (by omega)
  have p2 : 0 ≤ (n : Int) * (n + 1) := Int.mul_nonneg (by omega) (by omega)
  have h2 : car n 2 = (n : Int) * (n + 1) / 2 := by show car n 1 * ((n : Int) + 1) / (1 + 1) = _; rw [h1]; rfl
  have m3 : (n : Int) * (n + 1) / 2 * (n + 2) ≤ 549756338176 * 1048578 := Int.mul_le_mul (by omega) (by omega) (by omega) (by omega)
  have p3 : 0 ≤ (n : Int) * (n + 1) / 2 * (n + 2) := Int.mul_nonneg (by omega) (by omega)
  match k, hk with
  | 0, _ => rw [h0]; omega
  | 1, _ => rw [h1]; exact ⟨by omega, Int.le_trans m2 (by omega)⟩
  | 2, _ => rw [h2]; exact ⟨by omega, Int.le_trans m3 (by omega)⟩
end Go.Proofs.Ythgbfakmkdifbaa
