/-
  Sums modulo 2 to the 64th: how what stood ahead comes on over n words 0, in a closed form.
-/
import Derived.Test.YthgbfakmkdifbaaFletBase
namespace Go.Proofs.Ythgbfakmkdifbaa
open Go.RowKit Go.Deep
/-- four numbers by their places -/
def quad (a b c d : Int) : Nat → Int
  | 0 => a
  | 1 => b
  | 2 => c
  | _ => d
/-- the sums n words 0 later -/
def st0 (f : Nat → Int) : Nat → Int
  | 0 => f 0
  | k + 1 => wrap64 (f (k + 1) + st0 f k)
def jn (s : Nat → Int) : Nat → Nat → Int
  | 0 => s
  | k + 1 => st0 (jn s k)
def joinB (n : Int) : Bool := decide (0 ≤ n) && decide (n ≤ 1048576)
def joinV (s t : Nat → Int) (n : Int) (i : Nat) : Int := if joinB n = true then wrap64 (jn s n.toNat i + t i) else 0
def joinE (n : Int) : Int := if joinB n = true then 0 else 2
theorem wrap_wrap (x : Int) : wrap64 (wrap64 x) = wrap64 x := by unfold wrap64; omega
theorem wrap_add_r (x y : Int) : wrap64 (x + wrap64 y) = wrap64 (x + y) := by unfold wrap64; omega
theorem wrap_add_l (x y : Int) : wrap64 (wrap64 x + y) = wrap64 (x + y) := by unfold wrap64; omega
/-- as long as they grow, not wrapped round -/
def up0 (f : Nat → Int) : Nat → Int
  | 0 => f 0
  | k + 1 => f (k + 1) + up0 f k
def upN (s : Nat → Int) : Nat → Nat → Int
  | 0 => s
  | k + 1 => up0 (upN s k)
theorem st0_up {f g : Nat → Int} (h : ∀ i, wrap64 (f i) = wrap64 (g i)) : ∀ i, wrap64 (st0 f i) = wrap64 (up0 g i)
  | 0 => h 0
  | k + 1 => by
    unfold st0 up0
    rw [wrap_wrap, ← wrap_add_r, st0_up h k, wrap_add_r, ← wrap_add_l, h (k + 1), wrap_add_l]
theorem jn_up (s : Nat → Int) : ∀ n i, wrap64 (jn s n i) = wrap64 (upN s n i)
  | 0, _ => rfl
  | n + 1, i => st0_up (fun i => jn_up s n i) i
/-- 1 + 2 + .. + n, and the sum of these -/
def tri : Nat → Int
  | 0 => 0
  | n + 1 => tri n + (n + 1)
def tet : Nat → Int
  | 0 => 0
  | n + 1 => tet n + tri (n + 1)
theorem tri_two : ∀ n : Nat, 2 * tri n = (n : Int) * (n + 1)
  | 0 => rfl
  | n + 1 => by
    have h := tri_two n
    show 2 * (tri n + ((n : Int) + 1)) = ((n + 1 : Nat) : Int) * (((n + 1 : Nat) : Int) + 1)
    rw [show ((n + 1 : Nat) : Int) = (n : Int) + 1 by omega]
    grind
theorem tet_three : ∀ n : Nat, 3 * tet n = tri n * (n + 2)
  | 0 => rfl
  | n + 1 => by
    have h := tet_three n
    have h2 := tri_two n
    show 3 * (tet n + (tri n + ((n : Int) + 1))) = (tri n + ((n : Int) + 1)) * (((n + 1 : Nat) : Int) + 2)
    rw [show ((n + 1 : Nat) : Int) = (n : Int) + 1 by omega]
    grind
theorem car_0 (n : Nat) : car n 0 = 1 := rfl
theorem car_1 (n : Nat) : car n 1 = n := by show 1 * ((n : Int) + 0) / (0 + 1) = n; omega
theorem car_2 (n : Nat) : car n 2 = tri n := by
  show car n 1 * ((n : Int) + 1) / (1 + 1) = _
  rw [car_1, ← tri_two]
  omega
theorem car_3 (n : Nat) : car n 3 = tet n := by
  show car n 2 * ((n : Int) + 2) / (2 + 1) = _
  rw [car_2, ← tet_three]
  omega
theorem up_0 (s : Nat → Int) : ∀ n, upN s n 0 = s 0
  | 0 => rfl
  | n + 1 => up_0 s n
theorem up_1 (s : Nat → Int) : ∀ n, upN s n 1 = s 1 + n * s 0
  | 0 => by show s 1 = _; simp
  | n + 1 => by
    show upN s n 1 + upN s n 0 = _
    rw [up_1 s n, up_0, show ((n + 1 : Nat) : Int) = (n : Int) + 1 by omega]
    grind
theorem up_2 (s : Nat → Int) : ∀ n, upN s n 2 = s 2 + n * s 1 + tri n * s 0
  | 0 => by show s 2 = _; simp [tri]
  | n + 1 => by
    have h1 := up_1 s (n + 1)
    show upN s n 2 + upN s (n + 1) 1 = s 2 + ((n + 1 : Nat) : Int) * s 1 + (tri n + ((n : Int) + 1)) * s 0
    rw [up_2 s n, h1, show ((n + 1 : Nat) : Int) = (n : Int) + 1 by omega]
    grind
theorem up_3 (s : Nat → Int) : ∀ n, upN s n 3 = s 3 + n * s 2 + tri n * s 1 + tet n * s 0
  | 0 => by show s 3 = _; simp [tri, tet]
  | n + 1 => by
    have h1 := up_2 s (n + 1)
    show upN s n 3 + upN s (n + 1) 2 = s 3 + ((n + 1 : Nat) : Int) * s 2 + tri (n + 1) * s 1 + (tet n + tri (n + 1)) * s 0
    rw [up_3 s n, h1]
    show _ = s 3 + ((n + 1 : Nat) : Int) * s 2 + (tri n + ((n : Int) + 1)) * s 1 + (tet n + (tri n + ((n : Int) + 1))) * s 0
    rw [show tri (n + 1) = tri n + ((n : Int) + 1) from rfl, show ((n + 1 : Nat) : Int) = (n : Int) + 1 by omega]
    grind
/-- the program's way: the k-th sum, with j of those ahead of it -/
def jp (s t : Nat → Int) (m : Nat) (k : Nat) : Nat → Int
  | 0 => t k
  | j + 1 => wrap64 (jp s t m k j + wrap64 (car m (k - j) * s j))
/-- the same, not wrapped round -/
def jq (s t : Nat → Int) (m : Nat) (k : Nat) : Nat → Int
  | 0 => t k
  | j + 1 => jq s t m k j + car m (k - j) * s j
theorem jp_jq (s t : Nat → Int) (m k : Nat) : ∀ j, wrap64 (jp s t m k j) = wrap64 (jq s t m k j)
  | 0 => rfl
  | j + 1 => by
    unfold jp jq
    rw [wrap_wrap, wrap_add_r, ← wrap_add_l, jp_jq s t m k j, wrap_add_l]
theorem jp_join (s t : Nat → Int) (m : Nat) (hm : m ≤ 1048576) (k : Nat) (hk : k < 4) : jp s t m k (k + 1) = joinV s t m k := by
  have hB : joinB (m : Int) = true := by unfold joinB; simp; omega
  unfold joinV
  rw [if_pos hB, show (m : Int).toNat = m by omega, ← wrap_add_l, jn_up, wrap_add_l]
  have h1 : jp s t m k (k + 1) = wrap64 (jp s t m k (k + 1)) := by
    show wrap64 _ = wrap64 (wrap64 _)
    rw [wrap_wrap]
  rw [h1, jp_jq]
  congr 1
  match k, hk with
  | 0, _ =>
    rw [up_0]
    show t 0 + car m 0 * s 0 = _
    rw [car_0]; grind
  | 1, _ =>
    rw [up_1]
    show t 1 + car m 1 * s 0 + car m 0 * s 1 = _
    rw [car_0, car_1]; grind
  | 2, _ =>
    rw [up_2]
    show t 2 + car m 2 * s 0 + car m 1 * s 1 + car m 0 * s 2 = _
    rw [car_0, car_1, car_2]; grind
  | 3, _ =>
    rw [up_3]
    show t 3 + car m 3 * s 0 + car m 2 * s 1 + car m 1 * s 2 + car m 0 * s 3 = _
    rw [car_0, car_1, car_2, car_3]; grind
/-- the first k sums as they are in the end, the k-th with j of those ahead of it, the others as they were -/
def jK (s t : Nat → Int) (m k j i : Nat) : Int := if i < k then jp s t m i (i + 1) else if i = k then jp s t m k j else t i
theorem jK_put (s t : Nat → Int) (m k j : Nat) (v : Int) (hv : v = jp s t m k (j + 1)) (i : Nat) : (if i = k then Value.int .i64 v else ivs (jK s t m k j) i) = ivs (jK s t m k (j + 1)) i := by
  unfold ivs jK
  by_cases e : i = k
  · subst e
    rw [if_pos rfl, if_neg (by omega), if_pos rfl, hv]
  · rw [if_neg e]
    by_cases l : i < k
    · rw [if_pos l, if_pos l]
    · rw [if_neg l, if_neg l, if_neg e, if_neg e]
theorem jK_next (s t : Nat → Int) (m k i : Nat) : jK s t m k (k + 1) i = jK s t m (k + 1) 0 i := by
  unfold jK
  by_cases l : i < k
  · rw [if_pos l, if_pos (by omega)]
  · rw [if_neg l]
    by_cases e : i = k
    · subst e; rw [if_pos rfl, if_pos (by omega)]
    · rw [if_neg e, if_neg (by omega)]
      by_cases e1 : i = k + 1
      · subst e1; rw [if_pos rfl]; rfl
      · rw [if_neg e1]
theorem jK_start (s t : Nat → Int) (m i : Nat) : jK s t m 0 0 i = t i := by
  unfold jK
  rw [if_neg (by omega)]
  by_cases e : i = 0
  · subst e; rw [if_pos rfl]; rfl
  · rw [if_neg e]
end Go.Proofs.Ythgbfakmkdifbaa
