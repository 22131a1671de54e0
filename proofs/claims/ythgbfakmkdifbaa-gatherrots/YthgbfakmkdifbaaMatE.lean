/-
  mat.Mul of matrices of elements that fit together; the law of their products.
-/
import Derived.Test.YthgbfakmkdifbaaChecked
import Derived.WalkKit
import Derived.Test.YthgbfakmkdifbaaMatMul
namespace Go.Proofs.Ythgbfakmkdifbaa
open Go.RowKit Go.Deep E
theorem mayB_E (n m : Nat) (M : Nat → Nat → E) (hn : 1 ≤ n ∧ n ≤ 8) (hm : 1 ≤ m ∧ m ≤ 8) : mayB n (fun _ => m) (fun r i => ev (M r i)) = true := by
  refine mayB_true (sideB_of n hn.1 hn.2) fun r _ => ?_
  unfold rowB
  rw [sideB_of m hm.1 hm.2, allB_true fun i _ => elB_of _ (by have := ev_bd (M r i); omega) (ev_bd (M r i)).2]
  simp
theorem allB_E (m : Nat) (g : Nat → E) : allB m (fun i => ev (g i)) = true := allB_true fun i _ => elB_of _ (by have := ev_bd (g i); omega) (ev_bd (g i)).2
/-- the product -/
def mm (m : Nat) (M M' : Nat → Nat → E) (r c : Nat) : E := dot m (M r) fun i => M' i c
theorem dot_congr {n : Nat} {f f' g g' : Nat → E} (h : ∀ i, i < n → f i = f' i) (k : ∀ i, i < n → g i = g' i) : dot n f g = dot n f' g' := sm_congr fun i hi => by rw [h i hi, k i hi]
theorem prodE_ev (m : Nat) (M M' : Nat → Nat → E) : prodE (fun _ => m) (fun r i => ev (M r i)) (fun r i => ev (M' r i)) = mm m M M' := by
  funext r c
  exact dot_congr (fun i _ => of_ev _) (fun i _ => of_ev _)
theorem dot_assoc (m l : Nat) (x : Nat → E) (Y : Nat → Nat → E) (z : Nat → E) : dot l (fun j => dot m x fun i => Y i j) z = dot m x fun i => dot l (Y i) z := by
  unfold dot
  have h1 : (fun j => mu (sm m fun i => mu (x i) (Y i j)) (z j)) = fun j => sm m fun i => mu (x i) (mu (Y i j) (z j)) := by
    funext j
    rw [← sm_mur]
    exact sm_congr fun i _ => mu_assoc _ _ _
  have h2 : (fun i => mu (x i) (sm l fun j => mu (Y i j) (z j))) = fun i => sm l fun j => mu (x i) (mu (Y i j) (z j)) := by
    funext i
    rw [← sm_mu]
  rw [h1, h2, sm_swap]
theorem mm_assoc (m l : Nat) (X Y Z : Nat → Nat → E) (r c : Nat) : mm l (mm m X Y) Z r c = mm m X (mm l Y Z) r c := dot_assoc m l (X r) Y fun j => Z j c
end Go.Proofs.Ythgbfakmkdifbaa
