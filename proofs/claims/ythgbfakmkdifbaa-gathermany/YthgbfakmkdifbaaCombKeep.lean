/-
  comb.Number at a pick; what quicksetkeep.Several hands back is one.
-/
import Derived.Test.YthgbfakmkdifbaaChecked
import Derived.WalkKit
import Derived.Test.YthgbfakmkdifbaaCombNum
import Derived.Test.YthgbfakmkdifbaaCombAt
import Derived.Test.YthgbfakmkdifbaaRefNum
import Derived.Test.YthgbfakmkdifbaaParCopied
namespace Go.Proofs.Ythgbfakmkdifbaa
open Go.RowKit Go.Deep E
theorem eqTo_self (p : List Nat) (l : Nat) : eqTo p (pkF p) l := fun _ _ => rfl
theorem asc_filter (f : Nat → Bool) (n : Nat) : ∀ (k s : Nat), s + k ≤ n → asc s n ((List.range' s k).filter f)
  | 0, s, _ => trivial
  | k + 1, s, h => by
    rw [List.range'_succ, List.filter_cons]
    have ih := asc_filter f n k (s + 1) (by omega)
    split
    · exact ⟨Nat.le_refl _, by omega, ih⟩
    · exact asc_mono ih (by omega)
theorem asc_PL (n : Nat) (has : Nat → Bool) : asc 0 n (PL n has) := by
  have := asc_filter has n n 0 (by omega)
  unfold PL
  rwa [List.range_eq_range']
theorem PL_pick (n : Nat) (has : Nat → Bool) : (pk n (PL n has).length 0)[nm n 0 (PL n has)]? = some (PL n has) := pk_nm n 0 _ (by rw [Nat.zero_add]; exact asc_PL n has)
end Go.Proofs.Ythgbfakmkdifbaa
