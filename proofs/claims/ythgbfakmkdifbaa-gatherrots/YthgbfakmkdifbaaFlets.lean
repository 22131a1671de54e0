/-
  flet.apart, flet.together, flet.word: four sums as a struct and as an array, four bytes as a number; the world only grows.
-/
import Derived.Test.YthgbfakmkdifbaaChecked
import Derived.WalkKit
import Derived.BigQuiet
import Derived.StillTailTactics
import Derived.Deep.WholeRow
import Derived.Deep.OwnRows
import Derived.Laws.BitsAllLaws
import Derived.Test.YthgbfakmkdifbaaMm
import Derived.Test.YthgbfakmkdifbaaByb
import Derived.Test.YthgbfakmkdifbaaQuiets
import Derived.Test.YthgbfakmkdifbaaGfs
namespace Go.Proofs.Ythgbfakmkdifbaa
open Go.RowKit Go.Deep E
set_option maxRecDepth 100000 in
set_option maxHeartbeats 400000 in
theorem apart_any (a b c d : Int) (w : World) : Calls Try.prog 52 #[.agg #[.int .i64 a, .int .i64 b, .int .i64 c, .int .i64 d]] w fun e w' => e = .returned (.agg #[.int .i64 a, .int .i64 b, .int .i64 c, .int .i64 d]) ∧ Ext w w' := by
  go_enter Try.func52, Try.ntmps52
  go_wp2_with fail
  refine bodyPost_ret (v := .agg #[.int .i64 a, .int .i64 b, .int .i64 c, .int .i64 d]) (by simp [results, Try.results52, go_sem]) rfl ⟨rfl, ?_⟩
  exact ((Ext.refl _).alloc _ _).alloc _ _
set_option maxRecDepth 100000 in
set_option maxHeartbeats 400000 in
theorem together_any (a b c d : Int) (w : World) : Calls Try.prog 55 #[.agg #[.int .i64 a, .int .i64 b, .int .i64 c, .int .i64 d]] w fun e w' => e = .returned (.agg #[.int .i64 a, .int .i64 b, .int .i64 c, .int .i64 d]) ∧ Ext w w' := by
  go_enter Try.func55, Try.ntmps55
  go_wp2_with fail
  refine bodyPost_ret (v := .agg #[.int .i64 a, .int .i64 b, .int .i64 c, .int .i64 d]) (by simp [results, Try.results55, go_sem]) rfl ⟨rfl, ?_⟩
  exact ((Ext.refl _).alloc _ _).alloc _ _
theorem or_put (a b k : Nat) (h : a < 2 ^ k) : a ||| (2 ^ k * b) = a + 2 ^ k * b := by
  rw [Nat.or_comm, ← Nat.two_pow_add_eq_or_of_lt h, Nat.add_comm]
theorem word_or (a b c d : Nat) (ha : a < 256) (hb : b < 256) (hc : c < 256) (hd : d < 256) :
    bits .or .i64 (bits .or .i64 (bits .or .i64 (a : Int) ((b : Int) * 256)) ((c : Int) * 65536)) ((d : Int) * 16777216) = (a : Int) + 256 * b + 65536 * c + 16777216 * d := by
  have e1 := or_put a b 8 (by omega)
  have e2 := or_put (a + 2 ^ 8 * b) c 16 (by omega)
  have e3 := or_put (a + 2 ^ 8 * b + 2 ^ 16 * c) d 24 (by omega)
  rw [show (b : Int) * 256 = ((2 ^ 8 * b : Nat) : Int) by omega, i64_or _ _ (by omega) (by omega), e1, show (c : Int) * 65536 = ((2 ^ 16 * c : Nat) : Int) by omega, i64_or _ _ (by omega) (by omega), e2, show (d : Int) * 16777216 = ((2 ^ 24 * d : Nat) : Int) by omega, i64_or _ _ (by omega) (by omega), e3]
  omega
/-- the number of a word's four bytes -/
def wd (x0 x1 x2 x3 : E) : Int := ev x0 + 256 * ev x1 + 65536 * ev x2 + 16777216 * ev x3
theorem word_ev (x0 x1 x2 x3 : E) : bits .or .i64 (bits .or .i64 (bits .or .i64 (ev x0) (ev x1 * 256)) (ev x2 * 65536)) (ev x3 * 16777216) = wd x0 x1 x2 x3 := word_or x0.val x1.val x2.val x3.val x0.lt x1.lt x2.lt x3.lt
theorem wd_bd (x0 x1 x2 x3 : E) : 0 ≤ wd x0 x1 x2 x3 ∧ wd x0 x1 x2 x3 < 4294967296 := by
  have b0 := ev_bd x0
  have b1 := ev_bd x1
  have b2 := ev_bd x2
  have b3 := ev_bd x3
  unfold wd
  omega
set_option maxRecDepth 100000 in
set_option maxHeartbeats 400000 in
theorem word_any (b o : Nat) (c : Nat) (x0 x1 x2 x3 : E) (w : World) (h0 : w.cell? ⟨b, o, none⟩ = some (.int .u8 (ev x0))) (h1 : w.cell? ⟨b, o + 1, none⟩ = some (.int .u8 (ev x1))) (h2 : w.cell? ⟨b, o + 2, none⟩ = some (.int .u8 (ev x2))) (h3 : w.cell? ⟨b, o + 3, none⟩ = some (.int .u8 (ev x3))) :
    Calls Try.prog 54 #[.slice (some ⟨b, o, none⟩) 4 c] w fun e w' => e = .returned (.int .i64 (wd x0 x1 x2 x3)) ∧ Ext w w' := by
  have b0 := ev_bd x0
  have b1 := ev_bd x1
  have b2 := ev_bd x2
  have b3 := ev_bd x3
  go_enter Try.func54, Try.ntmps54
  go_wp2_with fail
  go_quiet (fail)
  go_wp2_with fail
  go_ret
  exact ⟨by rw [word_ev]; rfl, ⟨⟨rfl, rfl, rfl, Nat.le_refl _, fun _ _ => rfl⟩⟩⟩
/-- numbers as values -/
def ivs (f : Nat → Int) (i : Nat) : Value := .int .i64 (f i)
/-- the sums behind a word: each takes what the one ahead of it has become -/
def stp (f : Nat → Int) (x : Int) : Nat → Int
  | 0 => wrap64 (f 0 + x)
  | k + 1 => wrap64 (f (k + 1) + stp f x k)
/-- the first k of them so, the others as they were -/
def stpK (f : Nat → Int) (x : Int) (k i : Nat) : Int := if i < k then stp f x i else f i
theorem stpK_put (f : Nat → Int) (x : Int) (k : Nat) (v : Int) (hv : v = stp f x k) (i : Nat) : (if i = k then Value.int .i64 v else ivs (stpK f x k) i) = ivs (stpK f x (k + 1)) i := by
  unfold ivs stpK
  by_cases e : i = k
  · subst e
    rw [if_pos rfl, if_pos (by omega), hv]
  · rw [if_neg e]
    by_cases l : i < k
    · rw [if_pos l, if_pos (by omega)]
    · rw [if_neg l, if_neg (by omega)]
set_option maxRecDepth 100000 in
set_option maxHeartbeats 400000 in
theorem add_any (g : Nat) (f : Nat → Int) (x : Int) (w : World) (h : w.rowIs g 84 4 (ivs f)) :
    Calls Try.prog 53 #[.pointer (some ⟨g, 0, none⟩), .int .i64 x] w fun e w' => e = .returned (.tuple #[]) ∧ Wro (· = g) w w' ∧ w'.rowIs g 84 4 (ivs (stp f x)) := by
  have HG : Hid (w.rowIs g 84 4 (ivs f)) := h
  have hc := h.cell (i := 0) (by omega)
  have hf := h.frozen 0
  clear h
  rw [show ivs f 0 = .int .i64 (f 0) from rfl] at hc
  go_enter Try.func53, Try.ntmps53
  go_wp2_with fail
  refine wp_region_still_tail 7 (by kernel_rfl) (by kernel_rfl) ?_
  simp only [List.take_succ_cons, List.take_zero, List.drop_succ_cons, List.drop_zero]
  repeat still_step
  refine wpStill_nil ?_
  go_wp2_with fail
  have X0 : Hid (Wro (· = g) w (w.setCell ⟨g, 0, none⟩ (.int .i64 (wrap64 (f 0 + x)))).drew) := (Wro.setCell (S := (· = g)) (p := ⟨g, 0, none⟩) (Wro.refl _ _) rfl _).drew
  have R0 : Hid ((w.setCell ⟨g, 0, none⟩ (.int .i64 (wrap64 (f 0 + x)))).drew.rowIs g 84 4 (ivs (stpK f x 1))) :=
    ((HG.out.set 0 _).congr fun i _ => (by rw [← stpK_put f x 0 _ rfl i]; rfl)).drew
  generalize (w.setCell ⟨g, 0, none⟩ (.int .i64 (wrap64 (f 0 + x)))).drew = w0 at *
  clear hc hf HG
  go_loopw [4] (fun i wr => ∃ k : Nat, 1 ≤ k ∧ k ≤ 4 ∧ i = .int .i64 k ∧ Wro (· = g) w wr ∧ wr.rowIs g 84 4 (ivs (stpK f x k))) (fun i _ => 4 - (intOf i).toNat)
  case atStart => exact ⟨1, by omega, by omega, rfl, X0.out, R0.out⟩
  case round =>
    obtain ⟨k, hk1, hk4, rfl, hx, hr⟩ := hrel
    have HR : Hid (wr.rowIs g 84 4 (ivs (stpK f x k))) := hr
    clear X0 R0
    by_cases hlt : k < 4
    · have hck := hr.cell (i := k) hlt
      have hcp := hr.cell (i := k - 1) (by omega)
      have hfk := hr.frozen k
      clear hr
      rw [show ivs (stpK f x k) k = .int .i64 (f k) by unfold ivs stpK; rw [if_neg (by omega)]] at hck
      rw [show ivs (stpK f x k) (k - 1) = .int .i64 (stp f x (k - 1)) by unfold ivs stpK; rw [if_pos (by omega)]] at hcp
      have hl1 : ((k - 1 : Nat) : Int) < 4 := by omega
      have hw1 : IntKind.i64.wrap ((k : Int) - 1) = ((k - 1 : Nat) : Int) := by rw [IntKind.wrap_i64]; omega
      go_wp2_with fail
      refine wp_region_still_tail 13 (by kernel_rfl) (by kernel_rfl) ?_
      simp only [List.take_succ_cons, List.take_zero, List.drop_succ_cons, List.drop_zero]
      repeat still_step
      refine wpStill_nil ?_
      go_wp2_with fail
      go_roundw
      case rel =>
        refine ⟨k + 1, by omega, by omega, by go_num, (hx.setCell (p := ⟨g, k, none⟩) rfl _).drew, ((HR.out.set k _).congr fun i _ => stpK_put f x k _ ?_ i).drew⟩
        obtain ⟨j, rfl⟩ : ∃ j, k = j + 1 := ⟨k - 1, by omega⟩
        rfl
      case measure => simp [intOf]; omega
    · obtain rfl : k = 4 := by omega
      go_wp2_with fail
      go_end0
      exact ⟨rfl, hx, hr.congr fun i hi => by unfold ivs stpK; rw [if_pos hi]⟩
/-- a block of four, whole -/
theorem row4 {w : World} {g : Nat} {t : TypeId} {f : Nat → Value} (h : w.rowIs g t 4 f) : w.heap[g]? = some (.cells #[f 0, f 1, f 2, f 3] t (0, 0)) := by
  obtain ⟨c, h1, h2, h3⟩ := h
  have e : c = #[f 0, f 1, f 2, f 3] := by
    apply Array.ext_getElem?
    intro i
    by_cases hi : i < 4
    · rw [h3 i hi]
      match i, hi with
      | 0, _ => rfl
      | 1, _ => rfl
      | 2, _ => rfl
      | 3, _ => rfl
    · rw [Array.getElem?_eq_none (by omega), Array.getElem?_eq_none (by simp; omega)]
  rw [h1, e]
theorem row4_alloc (w : World) (t : TypeId) (f : Nat → Value) : (w.alloc (.cells #[f 0, f 1, f 2, f 3] t)).rowIs w.heap.size t 4 f :=
  World.rowIs_alloc w #[f 0, f 1, f 2, f 3] t f fun i hi => by
    have hi : i < 4 := hi
    match i, hi with
    | 0, _ => rfl
    | 1, _ => rfl
    | 2, _ => rfl
    | 3, _ => rfl
theorem one4 (f : Nat → Int) : (#[ivs f 0, ivs f 1, ivs f 2, ivs f 3] : Array Value).all (·.oneCell') = true := by
  simp [ivs, Value.oneCell']
theorem in4 {t : TypeId} (h : (Try.prog.info? t).map (·.size) = some 4) (f : Nat → Value) : (Try.prog.info? t).map (·.size) = some (#[f 0, f 1, f 2, f 3] : Array Value).size := h
/-- in how many ways a sum comes on over k places -/
def car (n : Int) : Nat → Int
  | 0 => 1
  | k + 1 => car n k * (n + k) / (k + 1)
def carK (n : Int) (k i : Nat) : Int := if i < k then car n i else 0
theorem carK_put (n : Int) (k : Nat) (v : Int) (hv : v = car n k) (i : Nat) : (if i = k then Value.int .i64 v else ivs (carK n k) i) = ivs (carK n (k + 1)) i := by
  unfold ivs carK
  by_cases e : i = k
  · subst e
    rw [if_pos rfl, if_pos (by omega), hv]
  · rw [if_neg e]
    by_cases l : i < k
    · rw [if_pos l, if_pos (by omega)]
    · rw [if_neg l, if_neg (by omega)]
theorem car_bd (n : Nat) (hn : n ≤ 1048576) (k : Nat) (hk : k < 3) : 0 ≤ car n k ∧ car n k * ((n : Int) + k) ≤ 4611686018427387904 := by
  have h0 : car n 0 = 1 := rfl
  have h1 : car n 1 = (n : Int) := by show 1 * ((n : Int) + 0) / (0 + 1) = n; omega
  have m2 : (n : Int) * (n + 1) ≤ 1048576 * 1048577 := Int.mul_le_mul (by omega) (by omega) (by omega) (by omega)
  have p2 : 0 ≤ (n : Int) * (n + 1) := Int.mul_nonneg (by omega) (by omega)
  have h2 : car n 2 = (n : Int) * (n + 1) / 2 := by show car n 1 * ((n : Int) + 1) / (1 + 1) = _; rw [h1]; rfl
  have m3 : (n : Int) * (n + 1) / 2 * (n + 2) ≤ 549756338176 * 1048578 := Int.mul_le_mul (by omega) (by omega) (by omega) (by omega)
  have p3 : 0 ≤ (n : Int) * (n + 1) / 2 * (n + 2) := Int.mul_nonneg (by omega) (by omega)
  match k, hk with
  | 0, _ => rw [h0]; omega
  | 1, _ => rw [h1]; exact ⟨by omega, Int.le_trans m2 (by omega)⟩
  | 2, _ => rw [h2]; exact ⟨by omega, Int.le_trans m3 (by omega)⟩
end Go.Proofs.Ythgbfakmkdifbaa
/-
  Sums modulo 2 to the 64th: how what stood ahead comes on over n words 0, in a closed form.
-/
namespace Go.Proofs.Ythgbfakmkdifbaa
open Go.RowKit Go.Deep
/-- four numbers by their places -/
def quad (a b c d : Int) : Nat → Int
  | 0 => a
  | 1 => b
  | 2 => c
  | _ => d
/-- the sums n words 0 later -/
def st0 (f : Nat → Int) : Nat → Int
  | 0 => f 0
  | k + 1 => wrap64 (f (k + 1) + st0 f k)
def jn (s : Nat → Int) : Nat → Nat → Int
  | 0 => s
  | k + 1 => st0 (jn s k)
def joinB (n : Int) : Bool := decide (0 ≤ n) && decide (n ≤ 1048576)
def joinV (s t : Nat → Int) (n : Int) (i : Nat) : Int := if joinB n = true then wrap64 (jn s n.toNat i + t i) else 0
def joinE (n : Int) : Int := if joinB n = true then 0 else 2
theorem wrap_wrap (x : Int) : wrap64 (wrap64 x) = wrap64 x := by unfold wrap64; omega
theorem wrap_add_r (x y : Int) : wrap64 (x + wrap64 y) = wrap64 (x + y) := by unfold wrap64; omega
theorem wrap_add_l (x y : Int) : wrap64 (wrap64 x + y) = wrap64 (x + y) := by unfold wrap64; omega
/-- as long as they grow, not wrapped round -/
def up0 (f : Nat → Int) : Nat → Int
  | 0 => f 0
  | k + 1 => f (k + 1) + up0 f k
def upN (s : Nat → Int) : Nat → Nat → Int
  | 0 => s
  | k + 1 => up0 (upN s k)
theorem st0_up {f g : Nat → Int} (h : ∀ i, wrap64 (f i) = wrap64 (g i)) : ∀ i, wrap64 (st0 f i) = wrap64 (up0 g i)
  | 0 => h 0
  | k + 1 => by
    unfold st0 up0
    rw [wrap_wrap, ← wrap_add_r, st0_up h k, wrap_add_r, ← wrap_add_l, h (k + 1), wrap_add_l]
theorem jn_up (s : Nat → Int) : ∀ n i, wrap64 (jn s n i) = wrap64 (upN s n i)
  | 0, _ => rfl
  | n + 1, i => st0_up (fun i => jn_up s n i) i
/-- 1 + 2 + .. + n, and the sum of these -/
def tri : Nat → Int
  | 0 => 0
  | n + 1 => tri n + (n + 1)
def tet : Nat → Int
  | 0 => 0
  | n + 1 => tet n + tri (n + 1)
theorem tri_two : ∀ n : Nat, 2 * tri n = (n : Int) * (n + 1)
  | 0 => rfl
  | n + 1 => by
    have h := tri_two n
    show 2 * (tri n + ((n : Int) + 1)) = ((n + 1 : Nat) : Int) * (((n + 1 : Nat) : Int) + 1)
    rw [show ((n + 1 : Nat) : Int) = (n : Int) + 1 by omega]
    grind
theorem tet_three : ∀ n : Nat, 3 * tet n = tri n * (n + 2)
  | 0 => rfl
  | n + 1 => by
    have h := tet_three n
    have h2 := tri_two n
    show 3 * (tet n + (tri n + ((n : Int) + 1))) = (tri n + ((n : Int) + 1)) * (((n + 1 : Nat) : Int) + 2)
    rw [show ((n + 1 : Nat) : Int) = (n : Int) + 1 by omega]
    grind
theorem car_0 (n : Nat) : car n 0 = 1 := rfl
theorem car_1 (n : Nat) : car n 1 = n := by show 1 * ((n : Int) + 0) / (0 + 1) = n; omega
theorem car_2 (n : Nat) : car n 2 = tri n := by
  show car n 1 * ((n : Int) + 1) / (1 + 1) = _
  rw [car_1, ← tri_two]
  omega
theorem car_3 (n : Nat) : car n 3 = tet n := by
  show car n 2 * ((n : Int) + 2) / (2 + 1) = _
  rw [car_2, ← tet_three]
  omega
theorem up_0 (s : Nat → Int) : ∀ n, upN s n 0 = s 0
  | 0 => rfl
  | n + 1 => up_0 s n
theorem up_1 (s : Nat → Int) : ∀ n, upN s n 1 = s 1 + n * s 0
  | 0 => by show s 1 = _; simp
  | n + 1 => by
    show upN s n 1 + upN s n 0 = _
    rw [up_1 s n, up_0, show ((n + 1 : Nat) : Int) = (n : Int) + 1 by omega]
    grind
theorem up_2 (s : Nat → Int) : ∀ n, upN s n 2 = s 2 + n * s 1 + tri n * s 0
  | 0 => by show s 2 = _; simp [tri]
  | n + 1 => by
    have h1 := up_1 s (n + 1)
    show upN s n 2 + upN s (n + 1) 1 = s 2 + ((n + 1 : Nat) : Int) * s 1 + (tri n + ((n : Int) + 1)) * s 0
    rw [up_2 s n, h1, show ((n + 1 : Nat) : Int) = (n : Int) + 1 by omega]
    grind
theorem up_3 (s : Nat → Int) : ∀ n, upN s n 3 = s 3 + n * s 2 + tri n * s 1 + tet n * s 0
  | 0 => by show s 3 = _; simp [tri, tet]
  | n + 1 => by
    have h1 := up_2 s (n + 1)
    show upN s n 3 + upN s (n + 1) 2 = s 3 + ((n + 1 : Nat) : Int) * s 2 + tri (n + 1) * s 1 + (tet n + tri (n + 1)) * s 0
    rw [up_3 s n, h1]
    show _ = s 3 + ((n + 1 : Nat) : Int) * s 2 + (tri n + ((n : Int) + 1)) * s 1 + (tet n + (tri n + ((n : Int) + 1))) * s 0
    rw [show tri (n + 1) = tri n + ((n : Int) + 1) from rfl, show ((n + 1 : Nat) : Int) = (n : Int) + 1 by omega]
    grind
/-- the program's way: the k-th sum, with j of those ahead of it -/
def jp (s t : Nat → Int) (m : Nat) (k : Nat) : Nat → Int
  | 0 => t k
  | j + 1 => wrap64 (jp s t m k j + wrap64 (car m (k - j) * s j))
/-- the same, not wrapped round -/
def jq (s t : Nat → Int) (m : Nat) (k : Nat) : Nat → Int
  | 0 => t k
  | j + 1 => jq s t m k j + car m (k - j) * s j
theorem jp_jq (s t : Nat → Int) (m k : Nat) : ∀ j, wrap64 (jp s t m k j) = wrap64 (jq s t m k j)
  | 0 => rfl
  | j + 1 => by
    unfold jp jq
    rw [wrap_wrap, wrap_add_r, ← wrap_add_l, jp_jq s t m k j, wrap_add_l]
theorem jp_join (s t : Nat → Int) (m : Nat) (hm : m ≤ 1048576) (k : Nat) (hk : k < 4) : jp s t m k (k + 1) = joinV s t m k := by
  have hB : joinB (m : Int) = true := by unfold joinB; simp; omega
  unfold joinV
  rw [if_pos hB, show (m : Int).toNat = m by omega, ← wrap_add_l, jn_up, wrap_add_l]
  have h1 : jp s t m k (k + 1) = wrap64 (jp s t m k (k + 1)) := by
    show wrap64 _ = wrap64 (wrap64 _)
    rw [wrap_wrap]
  rw [h1, jp_jq]
  congr 1
  match k, hk with
  | 0, _ =>
    rw [up_0]
    show t 0 + car m 0 * s 0 = _
    rw [car_0]; grind
  | 1, _ =>
    rw [up_1]
    show t 1 + car m 1 * s 0 + car m 0 * s 1 = _
    rw [car_0, car_1]; grind
  | 2, _ =>
    rw [up_2]
    show t 2 + car m 2 * s 0 + car m 1 * s 1 + car m 0 * s 2 = _
    rw [car_0, car_1, car_2]; grind
  | 3, _ =>
    rw [up_3]
    show t 3 + car m 3 * s 0 + car m 2 * s 1 + car m 1 * s 2 + car m 0 * s 3 = _
    rw [car_0, car_1, car_2, car_3]; grind
/-- the first k sums as they are in the end, the k-th with j of those ahead of it, the others as they were -/
def jK (s t : Nat → Int) (m k j i : Nat) : Int := if i < k then jp s t m i (i + 1) else if i = k then jp s t m k j else t i
theorem jK_put (s t : Nat → Int) (m k j : Nat) (v : Int) (hv : v = jp s t m k (j + 1)) (i : Nat) : (if i = k then Value.int .i64 v else ivs (jK s t m k j) i) = ivs (jK s t m k (j + 1)) i := by
  unfold ivs jK
  by_cases e : i = k
  · subst e
    rw [if_pos rfl, if_neg (by omega), if_pos rfl, hv]
  · rw [if_neg e]
    by_cases l : i < k
    · rw [if_pos l, if_pos l]
    · rw [if_neg l, if_neg l, if_neg e, if_neg e]
theorem jK_next (s t : Nat → Int) (m k i : Nat) : jK s t m k (k + 1) i = jK s t m (k + 1) 0 i := by
  unfold jK
  by_cases l : i < k
  · rw [if_pos l, if_pos (by omega)]
  · rw [if_neg l]
    by_cases e : i = k
    · subst e; rw [if_pos rfl, if_pos (by omega)]
    · rw [if_neg e, if_neg (by omega)]
      by_cases e1 : i = k + 1
      · subst e1; rw [if_pos rfl]; rfl
      · rw [if_neg e1]
theorem jK_start (s t : Nat → Int) (m i : Nat) : jK s t m 0 0 i = t i := by
  unfold jK
  rw [if_neg (by omega)]
  by_cases e : i = 0
  · subst e; rw [if_pos rfl]; rfl
  · rw [if_neg e]
end Go.Proofs.Ythgbfakmkdifbaa
/-
  flet.More, flet.Of: the sums of words, at every four numbers and every list of bytes; the world only grows.
-/
namespace Go.Proofs.Ythgbfakmkdifbaa
open Go.RowKit Go.Deep E
theorem size8 : Try.prog.cellsOf 5 = 1 := by kernel_rfl
theorem results_cell2 {P : Program} {fn : Func} {p q : Tmp} {ty : TypeId} (h : fn.results = #[.cell p ty, .tmp q]) (tmps : Array Value) (w : World) (g : Nat) (t : TypeId) (cs : Array Value) (fr : Nat × Nat) (d : TypeDesc) (v : Value)
    (hp : tmps.getD p undef = .pointer (some ⟨g, 0, none⟩)) (hq : tmps.getD q undef = v) (hg : w.heap[g]? = some (.cells cs t fr))
    (hu : P.underlying ty = some d) (hd : (match d with | .struct _ | .array _ _ => true | _ => false) = true) (hi : (P.info? ty).map (·.size) = some cs.size) :
    (results fn tmps).run P w = .ok (.tuple #[.agg cs, v]) w := by
  have hp' : tmps[p]?.getD undef = .pointer (some ⟨g, 0, none⟩) := by simpa using hp
  have hq' : tmps[q]?.getD undef = v := by simpa using hq
  simp [results, h, hp', hq', asAddr, run_loadVar_row w g t ty cs fr d hg hu hd hi]
/-- the sums behind k words of bytes -/
def mo (s : Nat → Int) (B : Nat → E) : Nat → Nat → Int
  | 0 => s
  | k + 1 => stp (mo s B k) (wd (B (4 * k)) (B (4 * k + 1)) (B (4 * k + 2)) (B (4 * k + 3)))
def moreV (n : Nat) (s : Nat → Int) (B : Nat → E) (i : Nat) : Int := if n % 4 = 0 then mo s B (n / 4) i else 0
def moreE (n : Nat) : Int := if n % 4 = 0 then 0 else 4
set_option maxRecDepth 100000 in
set_option maxHeartbeats 800000 in
theorem More_any (s : Nat → Int) (a : Option Addr) (n c : Nat) (B : Nat → E) (w : World) (hn : n ≤ c) (hc : c ≤ 9223372036854775807) (h : Byts w a n B) :
    Calls Try.prog 36 #[.agg #[.int .i64 (s 0), .int .i64 (s 1), .int .i64 (s 2), .int .i64 (s 3)], .slice a n c] w fun e w' =>
      e = .returned (.tuple #[.agg #[.int .i64 (moreV n s B 0), .int .i64 (moreV n s B 1), .int .i64 (moreV n s B 2), .int .i64 (moreV n s B 3)], .int .i64 (moreE n)]) ∧ Ext w w' := by
  have HB : Hid (Byts w a n B) := h
  clear h
  go_enter Try.func36, Try.ntmps36
  by_cases h4 : n % 4 = 0
  · have hm : ((n : Int) % 4 != 0) = false := by simp; omega
    go_wp2_with fail
    refine (apart_any (s 0) (s 1) (s 2) (s 3) _).mono ?_
    rintro e w1 ⟨rfl, hx1⟩
    have X1 : Hid (Ext w w1) := (((Ext.refl _).alloc _ _).alloc _ _).trans hx1
    have S1 : Hid (w1.rowIs (w.heap.size + 1) 37 4 (ivs fun _ => 0)) := by
      have := row4_alloc (w.alloc (.cells #[.int .i64 (s 0), .int .i64 (s 1), .int .i64 (s 2), .int .i64 (s 3)] 37)) 37 (ivs fun _ => 0)
      simp only [World.size_alloc] at this
      exact hx1.rowIs this
    clear hx1
    go_wp2_with fail
    have X2 : Hid (Ext w (w1.alloc (.cells #[.int .i64 (s 0), .int .i64 (s 1), .int .i64 (s 2), .int .i64 (s 3)] 84))) := X1.out.alloc _ _
    have S2 : Hid ((w1.alloc (.cells #[.int .i64 (s 0), .int .i64 (s 1), .int .i64 (s 2), .int .i64 (s 3)] 84)).rowIs (w.heap.size + 1) 37 4 (ivs fun _ => 0)) := S1.out.alloc _
    have R2 : Hid ((w1.alloc (.cells #[.int .i64 (s 0), .int .i64 (s 1), .int .i64 (s 2), .int .i64 (s 3)] 84)).rowIs w1.heap.size 84 4 (ivs s)) := row4_alloc w1 84 (ivs s)
    have hz : w.heap.size + 1 < w1.heap.size := S1.out.lt
    generalize (w1.alloc (.cells #[.int .i64 (s 0), .int .i64 (s 1), .int .i64 (s 2), .int .i64 (s 3)] 84)) = w2 at *
    generalize w1.heap.size = g at *
    clear X1 S1
    go_loopw [7] (fun i wr => ∃ k : Nat, 4 * k ≤ n ∧ i = .int .i64 ((4 * k : Nat) : Int) ∧ Ext w wr ∧ wr.rowIs (w.heap.size + 1) 37 4 (ivs fun _ => 0) ∧ wr.rowIs g 84 4 (ivs (mo s B k))) (fun i _ => n - (intOf i).toNat)
    case atStart => exact ⟨0, by omega, rfl, X2.out, S2.out, R2.out⟩
    case round =>
      obtain ⟨k, hk, rfl, hx, hs, hr⟩ := hrel
      have HR : Hid (wr.rowIs g 84 4 (ivs (mo s B k))) := hr
      have HS : Hid (wr.rowIs (w.heap.size + 1) 37 4 (ivs fun _ => 0)) := hs
      clear hr hs X2 S2 R2
      by_cases hlt : 4 * k < n
      · obtain ⟨b, o, rfl, hcell⟩ := HB.out.at (by omega)
        have HC : Hid (∀ i, i < n → w.cell? ⟨b, o + i, none⟩ = some (.int .u8 (ev (B i)))) := hcell
        clear hcell
        obtain ⟨q, hq⟩ : ∃ q : Nat, q = 4 * k := ⟨_, rfl⟩
        have hsl := sub_lh (P := Try.prog) Try.underlying22 size8 (some ⟨b, o, none⟩) n c q 4 (by omega) (q : Int) ((q : Int) + 4) rfl (by omega)
        rw [subA_some (by omega)] at hsl
        rw [← hq] at hlt hk ⊢
        have HQ : Hid (q = 4 * k) := hq
        have hq4 : q + 4 ≤ n := by omega
        clear HB hq
        go_wp2_with fail
        have c0 := hx.keeps (HC.out q (by omega))
        have c1 := hx.keeps (HC.out (q + 1) (by omega))
        have c2 := hx.keeps (HC.out (q + 2) (by omega))
        have c3 := hx.keeps (HC.out (q + 3) (by omega))
        rw [← Nat.add_assoc] at c1 c2 c3
        refine (word_any b (o + q) (c - q) (B q) (B (q + 1)) (B (q + 2)) (B (q + 3)) wr c0 c1 c2 c3).mono ?_
        clear c0 c1 c2 c3
        rintro e w3 ⟨rfl, hx3⟩
        go_wp2_with fail
        refine (add_any g (mo s B k) (wd (B q) (B (q + 1)) (B (q + 2)) (B (q + 3))) w3 (hx3.rowIs HR.out)).mono ?_
        rintro e w4 ⟨rfl, hx4, hr4⟩
        have HR4 : Hid (w4.rowIs g 84 4 (ivs (mo s B (k + 1)))) := by
          have := HQ.out
          subst this
          exact hr4
        clear hr4 hsl
        go_wp2_with fail
        go_roundw
        case rel =>
          have hq := HQ.out
          exact ⟨k + 1, by omega, by rw [hq]; go_num, Wro.after (hx.trans hx3) hx4 (fun i hi => by omega), hx4.rowIs (hx3.rowIs HS.out) (by show ¬ _ = g; omega), HR4.out⟩
        case measure => simp [intOf]; omega
      · have e4 : 4 * k = n := by omega
        have ek : n / 4 = k := by omega
        have hheap := row4 HR.out
        have hin : (Try.prog.info? 84).map (·.size) = some 4 := by kernel_rfl
        have hin1 := in4 hin (ivs (mo s B k))
        go_wp2_with (refine wpList_load_row rfl 84 _ rfl g rfl 84 _ (0, 0) _ hheap Try.underlying84 rfl hin1 ?_)
        refine (together_any (mo s B k 0) (mo s B k 1) (mo s B k 2) (mo s B k 3) _).mono ?_
        rintro e w5 ⟨rfl, hx5⟩
        have hold := row4 (hx5.rowIs HS.out)
        have hinS : (Try.prog.info? 37).map (·.size) = some 4 := by kernel_rfl
        have hin2 := in4 hinS (ivs (mo s B k))
        have hone := one4 (mo s B k)
        go_wp2_with (refine wpList_store_row rfl 37 _ _ rfl (w.heap.size + 1) #[ivs (mo s B k) 0, ivs (mo s B k) 1, ivs (mo s B k) 2, ivs (mo s B k) 3] rfl rfl 37 _ hold hin2 rfl hone ?_)
        refine bodyPost_ret (results_cell2 rfl _ _ (w.heap.size + 1) 37 #[ivs (mo s B k) 0, ivs (mo s B k) 1, ivs (mo s B k) 2, ivs (mo s B k) 3] (0, 0) _ (.int .i64 0) rfl rfl (setRow_heap _ _ _ _ _ _ hold) Try.underlying37 rfl hin2) rfl ?_
        refine ⟨?_, (hx.trans hx5).grow ⟨rfl, rfl, rfl, by simp, fun k _ hk => setRow_other _ _ k _ (fun e => hk (by rw [e]))⟩ (fun k hk => by cases hk; show w.heap.size ≤ w.heap.size + 1; omega)⟩
        unfold moreV moreE
        simp only [if_pos h4, ek]
        rfl
  · have hm : ((n : Int) % 4 != 0) = true := by simp; omega
    go_wp2_with fail
    refine bodyPost_ret (v := .tuple #[.agg #[.int .i64 0, .int .i64 0, .int .i64 0, .int .i64 0], .int .i64 4]) (by simp [results, Try.results36, go_sem]) rfl ⟨?_, ?_⟩
    · unfold moreV moreE
      simp only [if_neg h4]
    · exact ((Ext.refl _).alloc _ _).alloc _ _
set_option maxRecDepth 100000 in
set_option maxHeartbeats 400000 in
theorem Of_any (a : Option Addr) (n c : Nat) (B : Nat → E) (w : World) (hn : n ≤ c) (hc : c ≤ 9223372036854775807) (h : Byts w a n B) :
    Calls Try.prog 19 #[.slice a n c] w fun e w' =>
      e = .returned (.tuple #[.agg #[.int .i64 (moreV n (fun _ => 0) B 0), .int .i64 (moreV n (fun _ => 0) B 1), .int .i64 (moreV n (fun _ => 0) B 2), .int .i64 (moreV n (fun _ => 0) B 3)], .int .i64 (moreE n)]) ∧ Ext w w' := by
  have HB : Hid (Byts w a n B) := h
  clear h
  go_enter Try.func19, Try.ntmps19
  go_wp2_with fail
  refine (More_any (fun _ => 0) a n c B _ hn hc (HB.out.ext ((Ext.refl _).alloc _ _))).mono ?_
  rintro e w1 ⟨rfl, hx1⟩
  have hold := row4 (hx1.rowIs (row4_alloc w 37 (ivs fun _ => 0)))
  have hinS : (Try.prog.info? 37).map (·.size) = some 4 := by kernel_rfl
  have hin2 := in4 hinS (ivs (moreV n (fun _ => 0) B))
  have hone := one4 (moreV n (fun _ => 0) B)
  go_wp2_with (refine wpList_store_row rfl 37 _ _ rfl w.heap.size #[ivs (moreV n (fun _ => 0) B) 0, ivs (moreV n (fun _ => 0) B) 1, ivs (moreV n (fun _ => 0) B) 2, ivs (moreV n (fun _ => 0) B) 3] rfl rfl 37 _ hold hin2 rfl hone ?_)
  refine bodyPost_ret (results_cell2 rfl _ _ w.heap.size 37 #[ivs (moreV n (fun _ => 0) B) 0, ivs (moreV n (fun _ => 0) B) 1, ivs (moreV n (fun _ => 0) B) 2, ivs (moreV n (fun _ => 0) B) 3] (0, 0) _ (.int .i64 (moreE n)) rfl rfl (setRow_heap _ _ _ _ _ _ hold) Try.underlying37 rfl hin2) rfl ?_
  exact ⟨rfl, (((Ext.refl _).alloc _ _).trans hx1).grow ⟨rfl, rfl, rfl, by simp, fun k _ hk => setRow_other _ _ k _ (fun e => hk (by rw [e]))⟩ (fun k hk => by cases hk; exact Nat.le_refl _)⟩
end Go.Proofs.Ythgbfakmkdifbaa
/-
  Sums of words: in parts, joined, with words 0 ahead, with a word that was changed, with two that changed places.
-/
namespace Go.Proofs.Ythgbfakmkdifbaa
open Go.RowKit Go.Deep E
/-- the sums behind k numbers -/
def mw (s W : Nat → Int) : Nat → Nat → Int
  | 0 => s
  | k + 1 => stp (mw s W k) (W k)
def wrdOf (B : Nat → E) (k : Nat) : Int := wd (B (4 * k)) (B (4 * k + 1)) (B (4 * k + 2)) (B (4 * k + 3))
theorem mo_mw (s : Nat → Int) (B : Nat → E) : ∀ k, mo s B k = mw s (wrdOf B) k
  | 0 => rfl
  | k + 1 => by unfold mo mw; rw [mo_mw s B k]; rfl
theorem mw_congr {s W W' : Nat → Int} : ∀ k, (∀ i, i < k → W i = W' i) → mw s W k = mw s W' k
  | 0, _ => rfl
  | k + 1, h => by unfold mw; rw [mw_congr k fun i hi => h i (by omega), h k (by omega)]
theorem mw_cat (s W : Nat → Int) (j : Nat) : ∀ k, mw s W (j + k) = mw (mw s W j) (fun i => W (j + i)) k
  | 0 => rfl
  | k + 1 => by rw [show j + (k + 1) = j + k + 1 by omega]; unfold mw; rw [mw_cat s W j k]
theorem wrap_in {x : Int} (h : -9223372036854775808 ≤ x ∧ x ≤ 9223372036854775807) : wrap64 x = x := by unfold wrap64; omega
theorem stp_in (f : Nat → Int) (x : Int) (i : Nat) : -9223372036854775808 ≤ stp f x i ∧ stp f x i ≤ 9223372036854775807 := by
  cases i <;> (unfold stp wrap64; omega)
theorem mw_in {s W : Nat → Int} (h : ∀ i, -9223372036854775808 ≤ s i ∧ s i ≤ 9223372036854775807) : ∀ k i, -9223372036854775808 ≤ mw s W k i ∧ mw s W k i ≤ 9223372036854775807
  | 0, i => h i
  | _ + 1, i => stp_in _ _ i
/-- a sum of both: the first goes on as if words 0 came, the other takes them -/
theorem stp_add {f g h : Nat → Int} {x : Int} (e : ∀ i, wrap64 (f i) = wrap64 (g i + h i)) : ∀ i, wrap64 (stp f x i) = wrap64 (st0 g i + stp h x i)
  | 0 => by
    unfold stp st0
    rw [wrap_wrap, wrap_add_r, ← wrap_add_l, e 0, wrap_add_l]
    congr 1; omega
  | k + 1 => by
    have ih := stp_add e (x := x) k
    unfold stp st0
    rw [wrap_wrap, wrap_add_r, wrap_add_l, ← wrap_add_l, e (k + 1), wrap_add_l, ← wrap_add_r, ih, wrap_add_r]
    congr 1; omega
theorem mw_join (s W : Nat → Int) : ∀ k i, wrap64 (mw s W k i) = wrap64 (jn s k i + mw (fun _ => 0) W k i)
  | 0, i => by show wrap64 (s i) = wrap64 (s i + 0); congr 1; omega
  | k + 1, i => stp_add (fun i => mw_join s W k i) i
theorem mw_joinV {s W : Nat → Int} (h : ∀ i, -9223372036854775808 ≤ s i ∧ s i ≤ 9223372036854775807) (k : Nat) (hk : k ≤ 1048576) (i : Nat) : mw s W k i = joinV s (mw (fun _ => 0) W k) k i := by
  have hB : joinB (k : Int) = true := by unfold joinB; simp; omega
  unfold joinV
  rw [if_pos hB, show (k : Int).toNat = k by omega, ← mw_join, wrap_in (mw_in h k i)]
theorem stp_no {f : Nat → Int} (h : ∀ i, f i = 0) : ∀ i, stp f 0 i = 0
  | 0 => by unfold stp; rw [h]; exact wrap_in (by omega)
  | k + 1 => by unfold stp; rw [h, stp_no h k]; exact wrap_in (by omega)
theorem mw_no {W : Nat → Int} : ∀ k, (∀ i, i < k → W i = 0) → ∀ i, mw (fun _ => 0) W k i = 0
  | 0, _, _ => rfl
  | k + 1, h, i => by unfold mw; rw [h k (by omega)]; exact stp_no (fun i => mw_no k (fun i hi => h i (by omega)) i) i
theorem mw_A0 {s W : Nat → Int} (h : ∀ i, -9223372036854775808 ≤ s i ∧ s i ≤ 9223372036854775807) : ∀ k, (∀ i, i < k → W i = 0) → mw s W k 0 = s 0
  | 0, _ => rfl
  | k + 1, hW => by
    unfold mw stp
    rw [hW k (by omega), mw_A0 h k fun i hi => hW i (by omega), Int.add_zero, wrap_in (h 0)]
/-- the first two sums, not wrapped round -/
def sumW (W : Nat → Int) : Nat → Int
  | 0 => 0
  | k + 1 => sumW W k + W k
def sumV (W : Nat → Int) : Nat → Int
  | 0 => 0
  | k + 1 => sumV W k + sumW W (k + 1)
theorem mw_A (W : Nat → Int) : ∀ k, wrap64 (mw (fun _ => 0) W k 0) = wrap64 (sumW W k)
  | 0 => rfl
  | k + 1 => by unfold mw stp sumW; rw [wrap_wrap, ← wrap_add_l, mw_A W k, wrap_add_l]
theorem mw_B (W : Nat → Int) : ∀ k, wrap64 (mw (fun _ => 0) W k 1) = wrap64 (sumV W k)
  | 0 => rfl
  | k + 1 => by
    have hA := mw_A W (k + 1)
    have e : mw (fun _ => 0) W (k + 1) 1 = wrap64 (mw (fun _ => 0) W k 1 + mw (fun _ => 0) W (k + 1) 0) := rfl
    unfold sumV
    rw [e, wrap_wrap, ← wrap_add_l, mw_B W k, wrap_add_l, ← wrap_add_r, hA, wrap_add_r]
theorem sumW_at {W W' : Nat → Int} {p : Nat} (h : ∀ i, i ≠ p → W' i = W i) : ∀ k, sumW W' k = sumW W k + if p < k then W' p - W p else 0
  | 0 => by simp [sumW]
  | k + 1 => by
    unfold sumW
    rw [sumW_at h k]
    by_cases e : k = p
    · subst e; rw [if_neg (by omega), if_pos (by omega)]; omega
    · rw [h k e]
      by_cases l : p < k
      · rw [if_pos l, if_pos (by omega)]; omega
      · rw [if_neg l, if_neg (by omega)]; omega
/-- a number that is changed is seen in the first sum -/
theorem seen_A {W W' : Nat → Int} {p k : Nat} (hp : p < k) (h : ∀ i, i ≠ p → W' i = W i) (b : 0 ≤ W p ∧ W p < 4294967296) (b' : 0 ≤ W' p ∧ W' p < 4294967296) (hne : W p ≠ W' p) : mw (fun _ => 0) W k 0 ≠ mw (fun _ => 0) W' k 0 := by
  intro e
  have h1 := mw_A W k
  have h2 := mw_A W' k
  rw [← e, sumW_at h k, if_pos hp] at h2
  rw [h1] at h2
  unfold wrap64 at h2
  omega
theorem sumW_swap {W W' : Nat → Int} {p : Nat} (h : ∀ i, i ≠ p → i ≠ p + 1 → W' i = W i) (h0 : W' p = W (p + 1)) (h1 : W' (p + 1) = W p) : ∀ k, sumW W' k = sumW W k + if k = p + 1 then W (p + 1) - W p else 0
  | 0 => by simp [sumW]
  | k + 1 => by
    unfold sumW
    rw [sumW_swap h h0 h1 k]
    by_cases e : k = p
    · subst e; rw [if_neg (by omega), if_pos rfl, h0]; omega
    · by_cases e1 : k = p + 1
      · subst e1; rw [if_pos rfl, if_neg (by omega), h1]; omega
      · rw [h k e e1, if_neg e1, if_neg (by omega)]; omega
theorem sumV_swap {W W' : Nat → Int} {p : Nat} (h : ∀ i, i ≠ p → i ≠ p + 1 → W' i = W i) (h0 : W' p = W (p + 1)) (h1 : W' (p + 1) = W p) : ∀ k, sumV W' k = sumV W k + if p < k then W (p + 1) - W p else 0
  | 0 => by simp [sumV]
  | k + 1 => by
    unfold sumV
    rw [sumV_swap h h0 h1 k, sumW_swap h h0 h1 (k + 1)]
    split <;> split <;> split <;> omega
theorem swap_A {W W' : Nat → Int} {p k : Nat} (hp : p + 1 < k) (h : ∀ i, i ≠ p → i ≠ p + 1 → W' i = W i) (h0 : W' p = W (p + 1)) (h1 : W' (p + 1) = W p) : mw (fun _ => 0) W k 0 = mw (fun _ => 0) W' k 0 := by
  have b1 := mw_in (s := fun _ => 0) (W := W) (fun _ => by omega) k 0
  have b2 := mw_in (s := fun _ => 0) (W := W') (fun _ => by omega) k 0
  have e1 := mw_A W k
  have e2 := mw_A W' k
  rw [sumW_swap h h0 h1 k, if_neg (by omega), Int.add_zero] at e2
  rw [wrap_in b1] at e1
  rw [wrap_in b2] at e2
  rw [e1, e2]
theorem swap_B {W W' : Nat → Int} {p k : Nat} (hp : p + 1 < k) (h : ∀ i, i ≠ p → i ≠ p + 1 → W' i = W i) (h0 : W' p = W (p + 1)) (h1 : W' (p + 1) = W p) (b : 0 ≤ W p ∧ W p < 4294967296) (b' : 0 ≤ W (p + 1) ∧ W (p + 1) < 4294967296) (hne : W p ≠ W (p + 1)) : mw (fun _ => 0) W k 1 ≠ mw (fun _ => 0) W' k 1 := by
  intro e
  have e1 := mw_B W k
  have e2 := mw_B W' k
  rw [← e, sumV_swap h h0 h1 k, if_pos (by omega)] at e2
  rw [e1] at e2
  unfold wrap64 at e2
  omega
theorem wd_inj {a b c d a' b' c' d' : E} (h : wd a b c d = wd a' b' c' d') : a = a' ∧ b = b' ∧ c = c' ∧ d = d' := by
  have b0 := ev_bd a
  have b1 := ev_bd b
  have b2 := ev_bd c
  have b3 := ev_bd d
  have k0 := ev_bd a'
  have k1 := ev_bd b'
  have k2 := ev_bd c'
  have k3 := ev_bd d'
  unfold wd at h
  have q : ∀ x y : E, ev x = ev y → x = y := fun x y h => by rw [← of_ev x, h, of_ev]
  exact ⟨q _ _ (by omega), q _ _ (by omega), q _ _ (by omega), q _ _ (by omega)⟩
/-- two words next to each other have changed places -/
def swB (p : Nat) (f : Nat → E) (i : Nat) : E := if i < 4 * p then f i else if i < 4 * p + 4 then f (i + 4) else if i < 4 * p + 8 then f (i - 4) else f i
theorem wrd_shift {f g : Nat → E} {q q' : Nat} (h : ∀ r, r < 4 → g (4 * q + r) = f (4 * q' + r)) : wrdOf g q = wrdOf f q' := by
  unfold wrdOf
  have h0 := h 0 (by omega)
  simp only [Nat.add_zero] at h0
  rw [h0, h 1 (by omega), h 2 (by omega), h 3 (by omega)]
theorem swB_p (p : Nat) (f : Nat → E) : wrdOf (swB p f) p = wrdOf f (p + 1) := wrd_shift fun r hr => by
  unfold swB
  rw [if_neg (by omega), if_pos (by omega), show 4 * p + r + 4 = 4 * (p + 1) + r by omega]
theorem swB_p1 (p : Nat) (f : Nat → E) : wrdOf (swB p f) (p + 1) = wrdOf f p := wrd_shift fun r hr => by
  unfold swB
  rw [if_neg (by omega), if_neg (by omega), if_pos (by omega), show 4 * (p + 1) + r - 4 = 4 * p + r by omega]
theorem swB_o (p : Nat) (f : Nat → E) (q : Nat) (h : q ≠ p) (h1 : q ≠ p + 1) : wrdOf (swB p f) q = wrdOf f q := wrd_shift fun r hr => by
  unfold swB
  by_cases l : q < p
  · rw [if_pos (by omega)]
  · rw [if_neg (by omega), if_neg (by omega), if_neg (by omega)]
theorem wrd_bd (f : Nat → E) (q : Nat) : 0 ≤ wrdOf f q ∧ wrdOf f q < 4294967296 := wd_bd _ _ _ _
theorem wrd_eq {f g : Nat → E} {q q' : Nat} (h : wrdOf f q = wrdOf g q') (r : Nat) (hr : r < 4) : f (4 * q + r) = g (4 * q' + r) := by
  obtain ⟨h0, h1, h2, h3⟩ := wd_inj h
  match r, hr with
  | 0, _ => exact h0
  | 1, _ => exact h1
  | 2, _ => exact h2
  | 3, _ => exact h3
/-- the same bytes just if both words are the same -/
theorem swB_same {p : Nat} {f : Nat → E} (h : wrdOf f p = wrdOf f (p + 1)) (i : Nat) : f i = swB p f i := by
  unfold swB
  split
  · rfl
  · split
    · have := wrd_eq h (i - 4 * p) (by omega)
      rw [show 4 * p + (i - 4 * p) = i by omega, show 4 * (p + 1) + (i - 4 * p) = i + 4 by omega] at this
      exact this
    · split
      · have := wrd_eq h (i - (4 * p + 4)) (by omega)
        rw [show 4 * p + (i - (4 * p + 4)) = i - 4 by omega, show 4 * (p + 1) + (i - (4 * p + 4)) = i by omega] at this
        exact this.symm
      · rfl
theorem swB_diff {p k : Nat} {f : Nat → E} (hp : p + 1 < k) (h : wrdOf f p ≠ wrdOf f (p + 1)) : ¬ ∀ i, i < 4 * k → f i = swB p f i := fun hall => h (by
  rw [← swB_p p f]
  exact wrd_shift fun r hr => hall (4 * p + r) (by omega))
/-- a word some of whose bytes were changed -/
def chB (p : Nat) (f b : Nat → E) (j i : Nat) : E := if 4 * p ≤ i ∧ i < 4 * p + j then ad (f i) (b (i - 4 * p)) else f i
theorem chB_put (p : Nat) (f b : Nat → E) (j : Nat) (i : Nat) : (if i = 4 * p + j then ad (f (4 * p + j)) (b j) else chB p f b j i) = chB p f b (j + 1) i := by
  unfold chB
  by_cases e : i = 4 * p + j
  · subst e
    rw [if_pos rfl, if_pos (by omega), show 4 * p + j - 4 * p = j by omega]
  · rw [if_neg e]
    by_cases l : 4 * p ≤ i ∧ i < 4 * p + j
    · rw [if_pos l, if_pos (by omega)]
    · rw [if_neg l, if_neg (by omega)]
theorem chB_o (p : Nat) (f b : Nat → E) (j q : Nat) (hj : j ≤ 4) (h : q ≠ p) : wrdOf (chB p f b j) q = wrdOf f q := wrd_shift fun r hr => by
  unfold chB
  rw [if_neg (by omega)]
theorem chB_same {p : Nat} {f b : Nat → E} {j : Nat} (hj : j ≤ 4) (h : wrdOf f p = wrdOf (chB p f b j) p) (i : Nat) : f i = chB p f b j i := by
  by_cases l : 4 * p ≤ i ∧ i < 4 * p + j
  · have := wrd_eq h (i - 4 * p) (by omega)
    rw [show 4 * p + (i - 4 * p) = i by omega] at this
    exact this
  · unfold chB; rw [if_neg l]
theorem chB_diff {p k : Nat} {f b : Nat → E} {j : Nat} (hp : p < k) (h : wrdOf f p ≠ wrdOf (chB p f b j) p) : ¬ ∀ i, i < 4 * k → f i = chB p f b j i := fun hall => h (wrd_shift fun r hr => hall (4 * p + r) (by omega))
end Go.Proofs.Ythgbfakmkdifbaa
