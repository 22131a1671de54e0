/-
  comb.Number at a pick; what quicksetkeep.Several hands back is one.
-/
import Derived.Test.YtfdgacpmdlmjnabChecked
import Derived.WalkKit
import Derived.Test.YtfdgacpmdlmjnabCombNum
import Derived.Test.YtfdgacpmdlmjnabCombAt
import Derived.Test.YtfdgacpmdlmjnabRefNum
import Derived.Test.YtfdgacpmdlmjnabParCopied
namespace Go.Proofs.Ytfdgacpmdlmjnab
open Go.RowKit Go.Deep E
theorem eqTo_self (p : List Nat) (l : Nat) : eqTo p (pkF p) l := fun _ _ => rfl
theorem Number_ok (N : Nat) (p : List Nat) (l i : Nat) (a : Option Addr) (c : Nat) (w : World) (hN : N ≤ 12) (hp : (pk N l 0)[i]? = some p) (h : Ints w a l (pkF p)) :
    Calls Try.prog 9 #[.int .i64 N, .slice a l c] w fun e w' => e = .returned (.tuple #[.int .i64 i, .int .i64 0]) ∧ w' = w := by
  have h1 := num_of_eqTo hN hp (eqTo_self p l)
  have hl := (pk_mem _ _ _ _ (List.mem_of_getElem? hp)).2
  have hlen := asc_len _ _ _ hl
  rw [(pk_mem _ _ _ _ (List.mem_of_getElem? hp)).1] at hlen
  have := Number_any N a l c (pkF p) w (by omega) h
  rwa [h1.1, h1.2] at this
theorem asc_filter (f : Nat → Bool) (n : Nat) : ∀ (k s : Nat), s + k ≤ n → asc s n ((List.range' s k).filter f)
  | 0, s, _ => trivial
  | k + 1, s, h => by
    rw [List.range'_succ, List.filter_cons]
    have ih := asc_filter f n k (s + 1) (by omega)
    split
    · exact ⟨Nat.le_refl _, by omega, ih⟩
    · exact asc_mono ih (by omega)
theorem asc_PL (n : Nat) (has : Nat → Bool) : asc 0 n (PL n has) := by
  have := asc_filter has n n 0 (by omega)
  unfold PL
  rwa [List.range_eq_range']
theorem PL_pick (n : Nat) (has : Nat → Bool) : (pk n (PL n has).length 0)[nm n 0 (PL n has)]? = some (PL n has) := pk_nm n 0 _ (by rw [Nat.zero_add]; exact asc_PL n has)
end Go.Proofs.Ytfdgacpmdlmjnab
