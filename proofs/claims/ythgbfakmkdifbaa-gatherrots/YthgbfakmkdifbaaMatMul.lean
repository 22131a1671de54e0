/-
  mat.Mul at every two matrices, as plain functions; the world only grows.
-/
import Derived.Test.YthgbfakmkdifbaaChecked
import Derived.WalkKit
import Derived.BigQuiet
import Derived.Test.YthgbfakmkdifbaaMatBase
import Derived.Test.YthgbfakmkdifbaaMatNew
namespace Go.Proofs.Ythgbfakmkdifbaa
open Go.RowKit Go.Deep E
/-- of a matrix that may be its rows have the first one's length, and elements -/
def MEls (n : Nat) (L : Nat → Nat) (F : Nat → Nat → Int) : Prop := ∀ r, r < n → L r = L 0 ∧ ∀ i, i < L 0 → 0 ≤ F r i ∧ F r i < 256
theorem MEls.row {n : Nat} {L : Nat → Nat} {F : Nat → Nat → Int} (h : MEls n L F) {w : World} {a : Option Addr} {A : Nat → Option Addr} {C : Nat → Nat} (hm : Mat w a n A L C F) {r : Nat} (hr : r < n) : Ints w (A r) (L r) fun i => ev (of (F r i)) :=
  els_of (hm.row hr) (by rw [(h r hr).1]; exact (h r hr).2)
/-- what stands in a row and a column of the product -/
def prodE (L : Nat → Nat) (F F' : Nat → Nat → Int) (r c : Nat) : E := dot (L 0) (fun i => of (F r i)) fun i => of (F' i c)
/-- what Mul tells: an error, so many rows and columns, and what stands there -/
def mulE (n : Nat) (L : Nat → Nat) (F : Nat → Nat → Int) (n' : Nat) (L' : Nat → Nat) (F' : Nat → Nat → Int) : Int := if mayB n L F then (if mayB n' L' F' then (if L 0 = n' then 0 else 1) else 4) else 4
def mulN (n : Nat) (L : Nat → Nat) (F : Nat → Nat → Int) (n' : Nat) (L' : Nat → Nat) (F' : Nat → Nat → Int) : Nat := if mayB n L F then (if mayB n' L' F' then (if L 0 = n' then n else 0) else 0) else 0
theorem mul_form {n : Nat} {L : Nat → Nat} {F : Nat → Nat → Int} {n' : Nat} {L' : Nat → Nat} {F' : Nat → Nat → Int} (h : mayB n L F = false) : mulE n L F n' L' F' = 4 ∧ mulN n L F n' L' F' = 0 := by simp [mulE, mulN, h]
theorem mul_form' {n : Nat} {L : Nat → Nat} {F : Nat → Nat → Int} {n' : Nat} {L' : Nat → Nat} {F' : Nat → Nat → Int} (h : mayB n' L' F' = false) : mulE n L F n' L' F' = 4 ∧ mulN n L F n' L' F' = 0 := by simp [mulE, mulN, h]
theorem mul_size {n : Nat} {L : Nat → Nat} {F : Nat → Nat → Int} {n' : Nat} {L' : Nat → Nat} {F' : Nat → Nat → Int} (h0 : mayB n L F = true) (h1 : mayB n' L' F' = true) (h : ¬ L 0 = n') : mulE n L F n' L' F' = 1 ∧ mulN n L F n' L' F' = 0 := by simp [mulE, mulN, h, h0, h1]
theorem mul_ok {n : Nat} {L : Nat → Nat} {F : Nat → Nat → Int} {n' : Nat} {L' : Nat → Nat} {F' : Nat → Nat → Int} (h0 : mayB n L F = true) (h1 : mayB n' L' F' = true) (h : L 0 = n') : mulE n L F n' L' F' = 0 ∧ mulN n L F n' L' F' = n := by simp [mulE, mulN, h, h0, h1]
/-- a matrix of n rows of m elements is told, and an error -/
def MatRes (w : World) (e : Ending) (n m : Nat) (M : Nat → Nat → E) (er : Int) : Prop := ∃ a c A C, e = .returned (.tuple #[.slice a n c, .int .i64 er]) ∧ Mat w a n A (fun _ => m) C (fun r i => ev (M r i))
theorem MatRes.none (w : World) (m : Nat) (M : Nat → Nat → E) (er : Int) : MatRes w (.returned (.tuple #[.slice .none 0 0, .int .i64 er])) 0 m M er := ⟨.none, 0, fun _ => .none, fun _ => 0, rfl, fun r hr => by omega⟩
end Go.Proofs.Ythgbfakmkdifbaa
