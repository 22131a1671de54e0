/-
  quicksetref.CombNumber: the pick is looked for among all.
-/
import Derived.Test.YthgbfakmkdifbaaChecked
import Derived.WalkKit
import Derived.BigQuiet
import Derived.Test.YthgbfakmkdifbaaCombNum
import Derived.Test.YthgbfakmkdifbaaRefAt
namespace Go.Proofs.Ythgbfakmkdifbaa
open Go.RowKit Go.Deep E
/-- the first j numbers of both are the same -/
def eqTo (p : List Nat) (f : Nat → Int) (j : Nat) : Prop := ∀ x, x < j → f x = pkF p x
theorem eqTo_succ {p : List Nat} {f : Nat → Int} {j : Nat} : eqTo p f (j + 1) ↔ eqTo p f j ∧ f j = pkF p j := by
  constructor
  · exact fun h => ⟨fun x hx => h x (by omega), h j (by omega)⟩
  · intro h x hx
    by_cases e : x = j
    · rw [e]; exact h.2
    · exact h.1 x (by omega)
theorem lst_of_eqTo {p : List Nat} {f : Nat → Int} {l : Nat} (hl : p.length = l) (h : eqTo p f l) : lst (nat f) 0 l = p := by
  apply List.ext_getElem?
  intro i
  by_cases hi : i < l
  · have := h i hi
    have e : nat f i = p[i]?.getD 0 := by unfold nat; rw [this]; unfold pkF; simp
    have hi' : i < p.length := by omega
    simp [lst, hi, e, hi']
  · simp [lst, hi]
    omega
theorem eqTo_of_lst {f : Nat → Int} {l : Nat} (hn : ∀ i, i < l → f i = (nat f i : Int)) : eqTo (lst (nat f) 0 l) f l := fun x hx => by
  rw [hn x hx]
  unfold pkF
  simp [lst, hx]
theorem okF_of_eqTo {N l i : Nat} {f : Nat → Int} {p : List Nat} (hp : (pk N l 0)[i]? = some p) (h : eqTo p f l) : okF N f l 0 0 = true := by
  obtain ⟨h1, h2⟩ := pk_mem _ _ _ _ (List.mem_of_getElem? hp)
  refine asc_okF N f l 0 0 p h1 (fun x hx => ?_) (by rw [Nat.zero_add] at h2; exact h2)
  rw [Nat.zero_add, h x hx]
  simp [pkF]
theorem num_of_eqTo {N l i : Nat} {f : Nat → Int} {p : List Nat} (hN : N ≤ 12) (hp : (pk N l 0)[i]? = some p) (h : eqTo p f l) : numV N l f = i ∧ numE N l f = 0 := by
  have hok := okF_of_eqTo hp h
  have hl := (pk_mem _ _ _ _ (List.mem_of_getElem? hp)).1
  have e := lst_of_eqTo hl h
  have hs : (0 : Int) ≤ N ∧ (N : Int) ≤ 12 := by omega
  unfold numV numE
  rw [if_pos hs, if_pos hs, if_pos hok, if_pos hok]
  refine ⟨?_, rfl⟩
  rw [e, show ((N : Int)).toNat = N from rfl, nm_pk N l 0 i p hp]
theorem num_none {N l : Nat} {f : Nat → Int} (hN : N ≤ 12) (h : ∀ (i : Nat) p, (pk N l 0)[i]? = some p → ¬ eqTo p f l) : numV N l f = 0 ∧ numE N l f = 4 := by
  have hs : (0 : Int) ≤ N ∧ (N : Int) ≤ 12 := by omega
  have hok : ¬ okF N f l 0 0 = true := fun hok => by
    obtain ⟨hasc, hnat⟩ := okF_asc N f l 0 0 hok
    have h1 := pk_nm N 0 (lst (nat f) 0 l) (by rw [Nat.zero_add]; exact hasc)
    rw [lst_len] at h1
    exact h _ _ h1 (eqTo_of_lst fun i hi => hnat i (by omega) (by omega))
  unfold numV numE
  rw [if_pos hs, if_pos hs, if_neg hok, if_neg hok]
  exact ⟨rfl, rfl⟩
def sameTo (bo : Bool) (p : List Nat) (f : Nat → Int) (j : Nat) : Prop := bo = true ↔ eqTo p f j
theorem sameTo.yes {p : List Nat} {f : Nat → Int} {j : Nat} (h : sameTo true p f j) : eqTo p f j := h.1 rfl
theorem sameTo.no {p : List Nat} {f : Nat → Int} {j : Nat} (h : sameTo false p f j) : ¬ eqTo p f j := fun e => by have := h.2 e; cases this
theorem ext_drewN (w : World) (k : Nat) : Ext w (w.drewN k) := ⟨⟨rfl, rfl, rfl, Nat.le_refl _, fun _ _ => rfl⟩⟩
end Go.Proofs.Ythgbfakmkdifbaa
