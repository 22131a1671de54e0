/-
  What Rebuild tells of columns of which no more were lost than there are parity columns: the columns as they were (no program in sight).
-/
import Derived.Test.YtfdgacpmdlmjnaaParRebuild
namespace Go.Proofs.Ytfdgacpmdlmjnaa
open Go.RowKit Go.Deep E
theorem sm_list (n : Nat) (g : Nat → Bool) (f : Nat → E) : sm n (fun i => if g i then f i else ze) = sm (PL n g).length fun b => f ((PL n g).getD b 0) := by
  induction n with
  | zero => rfl
  | succ n ih =>
    show ad (sm n fun i => if g i then f i else ze) (if g n then f n else ze) = _
    rw [ih]
    cases h : g n
    · rw [PL_no h, if_neg (by simp), ad_ze]
    · rw [PL_yes h, if_pos rfl, List.length_append]
      show _ = ad (sm (PL n g).length _) _
      congr 1
      · refine sm_congr fun b hb => ?_
        congr 1
        rw [List.getD_eq_getElem?_getD, List.getD_eq_getElem?_getD, List.getElem?_append_left hb]
      · congr 1
        rw [List.getD_eq_getElem?_getD, List.getElem?_append_right (Nat.le_refl _)]
        simp
/-- the data columns, and the parity columns behind them -/
def wholeF (N : Nat) (D : Nat → Nat → E) (r : Nat) : Nat → E := if r < N then D r else enc N D (r - N)
section
variable {N q nl : Nat} {fl : Nat → Int} {F D : Nat → Nat → E} {m : Nat}
theorem sol_back (hN : 1 ≤ N ∧ N ≤ 12) (hq : q ≤ 3) (hle : (holeL N nl fl).length ≤ (keptPL N q nl fl).length) (hF : ∀ r, r < N + q → hasB nl fl r = false → ∀ x, x < m → F r x = wholeF N D r x) {b x : Nat} (hb : b < (holeL N nl fl).length) (hx : x < m) :
    partE (holeL N nl fl).length (fun b => (holeL N nl fl).getD b 0) (fun a => (keptPL N q nl fl).getD a 0) N (lostZ nl fl F) (holeL N nl fl).length b x = D ((holeL N nl fl).getD b 0) x := by
  have hkl : (keptPL N q nl fl).length ≤ q := PL_len _ _
  have hrk : (redTo (holeL N nl fl).length (wtM (fun b => (holeL N nl fl).getD b 0) (fun a => (keptPL N q nl fl).getD a 0)) (holeL N nl fl).length).2 = (holeL N nl fl).length := by
    refine rank_lost _ _ (by omega) (fun b hb => ?_) (fun a b hab hb => PL_lt hab hb) (fun b hb => ?_) (fun a b hab hb => PL_lt hab (show b < (keptPL N q nl fl).length by omega))
    · have := hole_at hb; omega
    · have := keptP_at (n0 := N) (p := q) (nl := nl) (fl := fl) (b := b) (by omega); omega
  have hmiss : ∀ a, a < (holeL N nl fl).length → missE N (fun a => (keptPL N q nl fl).getD a 0) (lostZ nl fl F) a x = sm (holeL N nl fl).length fun c => mu (wtM (fun b => (holeL N nl fl).getD b 0) (fun a => (keptPL N q nl fl).getD a 0) a c) (D ((holeL N nl fl).getD c 0) x) := by
    intro a ha
    have hja := PL_at (show a < (PL q fun j => !hasB nl fl ((N : Int) + (j : Int))).length from (by have : (keptPL N q nl fl).length = (PL q fun j => !hasB nl fl ((N : Int) + (j : Int))).length := rfl; omega))
    have hg : hasB nl fl ((N + (keptPL N q nl fl).getD a 0 : Nat) : Int) = false := by
      have h2 : (!hasB nl fl ((N : Int) + (((keptPL N q nl fl).getD a 0 : Nat) : Int))) = true := hja.2
      rw [Int.natCast_add]
      cases h3 : hasB nl fl ((N : Int) + (((keptPL N q nl fl).getD a 0 : Nat) : Int))
      · rfl
      · rw [h3] at h2; cases h2
    have hj : (keptPL N q nl fl).getD a 0 < q := hja.1
    unfold missE
    dsimp only
    rw [lostZ_no hg, hF _ (by omega) hg x hx]
    unfold wholeF
    rw [if_neg (by omega), show N + (keptPL N q nl fl).getD a 0 - N = (keptPL N q nl fl).getD a 0 by omega]
    unfold enc
    rw [← sm_ad]
    have e : sm N (fun i => ad (mu (wt ((keptPL N q nl fl).getD a 0) i) (lostZ nl fl F i x)) (mu (wt ((keptPL N q nl fl).getD a 0) i) (D i x))) = sm N fun i => if hasB nl fl i then mu (wt ((keptPL N q nl fl).getD a 0) i) (D i x) else ze := by
      refine sm_congr fun i hi => ?_
      cases hgi : hasB nl fl (i : Int)
      · rw [lostZ_no hgi, hF i (by omega) hgi x hx]
        unfold wholeF
        rw [if_pos hi, ad_self, if_neg (by simp)]
      · rw [lostZ_yes hgi, mu_ze, ze_ad, if_pos rfl]
    rw [e]
    exact sm_list N (fun i => hasB nl fl i) fun i => mu (wt ((keptPL N q nl fl).getD a 0) i) (D i x)
  unfold partE
  rw [sm_congr fun a ha => by rw [hmiss a ha]]
  have e1 : (sm (holeL N nl fl).length fun a => mu (invM (holeL N nl fl).length (wtM (fun b => (holeL N nl fl).getD b 0) (fun a => (keptPL N q nl fl).getD a 0)) b a) (sm (holeL N nl fl).length fun c => mu (wtM (fun b => (holeL N nl fl).getD b 0) (fun a => (keptPL N q nl fl).getD a 0) a c) (D ((holeL N nl fl).getD c 0) x))) = sm (holeL N nl fl).length fun a => sm (holeL N nl fl).length fun c => mu (mu (invM (holeL N nl fl).length (wtM (fun b => (holeL N nl fl).getD b 0) (fun a => (keptPL N q nl fl).getD a 0)) b a) (wtM (fun b => (holeL N nl fl).getD b 0) (fun a => (keptPL N q nl fl).getD a 0) a c)) (D ((holeL N nl fl).getD c 0) x) :=
    sm_congr fun a _ => by rw [← sm_mu]; exact sm_congr fun c _ => (mu_assoc _ _ _).symm
  rw [e1, sm_swap]
  have e2 : ∀ c, c < (holeL N nl fl).length → sm (holeL N nl fl).length (fun a => mu (mu (invM (holeL N nl fl).length (wtM (fun b => (holeL N nl fl).getD b 0) (fun a => (keptPL N q nl fl).getD a 0)) b a) (wtM (fun b => (holeL N nl fl).getD b 0) (fun a => (keptPL N q nl fl).getD a 0) a c)) (D ((holeL N nl fl).getD c 0) x)) = mu (dl b c) (D ((holeL N nl fl).getD c 0) x) := fun c hc => by
    rw [sm_mur]
    exact congrArg (fun z => mu z _) (inv_left hrk b c hb hc)
  rw [sm_congr e2]
  exact sm_dl hb fun c => D ((holeL N nl fl).getD c 0) x
theorem rebZ_data (hN : 1 ≤ N ∧ N ≤ 12) (hq : q ≤ 3) (hle : (holeL N nl fl).length ≤ (keptPL N q nl fl).length) (hF : ∀ r, r < N + q → hasB nl fl r = false → ∀ x, x < m → F r x = wholeF N D r x) {r x : Nat} (hr : r < N) (hx : x < m) : rebZ N q nl fl F r x = D r x := by
  unfold rebZ
  cases hg : hasB nl fl (r : Int)
  · rw [solZ_other (fun b hb e => ?_), lostZ_no hg, hF r (by omega) hg x hx]
    · unfold wholeF; rw [if_pos hr]
    · have := (PL_at hb).2
      have e' : (PL N fun k => hasB nl fl (k : Int)).getD b 0 = r := e
      rw [e', hg] at this
      cases this
  · obtain ⟨b, hb, e⟩ := PL_ex (ok := fun k => hasB nl fl (k : Int)) hr hg
    have hb' : b < (holeL N nl fl).length := hb
    have e' : (fun b => (holeL N nl fl).getD b 0) b = r := e
    rw [← e', solZ_hole (fun a c ha hc q => ?_) hb', sol_back hN hq hle hF hb' hx]
    · dsimp only
      have e'' : (holeL N nl fl).getD b 0 = r := e
      rw [e'', lostZ_yes hg, ze_ad]
    · skip
      rcases Nat.lt_trichotomy a c with l | l | l
      · have := PL_lt (n := N) (ok := fun k => hasB nl fl (k : Int)) l hc
        have q' : (PL N fun k => hasB nl fl (k : Int)).getD a 0 = (PL N fun k => hasB nl fl (k : Int)).getD c 0 := q
        omega
      · exact l
      · have := PL_lt (n := N) (ok := fun k => hasB nl fl (k : Int)) l ha
        have q' : (PL N fun k => hasB nl fl (k : Int)).getD a 0 = (PL N fun k => hasB nl fl (k : Int)).getD c 0 := q
        omega
theorem rebD_back (hN : 1 ≤ N ∧ N ≤ 12) (hq : q ≤ 3) (hle : (holeL N nl fl).length ≤ (keptPL N q nl fl).length) (hF : ∀ r, r < N + q → hasB nl fl r = false → ∀ x, x < m → F r x = wholeF N D r x) {r x : Nat} (hr : r < N + q) (hx : x < m) : rebD N q nl fl F r x = wholeF N D r x := by
  unfold rebD
  by_cases hrN : r < N
  · rw [encZ_other (fun b _ => by omega), rebZ_data hN hq hle hF hrN hx]
    unfold wholeF; rw [if_pos hrN]
  · cases hg : hasB nl fl (r : Int)
    · rw [encZ_other (fun b hb e => ?_)]
      · unfold rebZ
        rw [solZ_other (fun b hb e => ?_), lostZ_no hg, hF r hr hg x hx]
        have := hole_at hb
        omega
      · have h2 := (PL_at (show b < (PL q fun j => hasB nl fl ((N : Int) + (j : Int))).length from hb)).2
        have e' : N + (PL q fun j => hasB nl fl ((N : Int) + (j : Int))).getD b 0 = r := e
        have e'' : (N : Int) + (((PL q fun j => hasB nl fl ((N : Int) + (j : Int))).getD b 0 : Nat) : Int) = (r : Int) := by omega
        rw [e'', hg] at h2
        cases h2
    · have hg' : hasB nl fl ((N : Int) + ((r - N : Nat) : Int)) = true := by
        rw [show (N : Int) + ((r - N : Nat) : Int) = (r : Int) by omega]; exact hg
      obtain ⟨b, hb, e⟩ := PL_ex (n := q) (k := r - N) (ok := fun j => hasB nl fl ((N : Int) + (j : Int))) (by omega) hg'
      have hb' : b < (lostPL N q nl fl).length := hb
      have e' : (lostPL N q nl fl).getD b 0 = r - N := e
      have h1 := encZ_at (n0 := N) (l := fun i => (lostPL N q nl fl).getD i 0) (Z := rebZ N q nl fl F) hb' x
      rw [e', show N + (r - N) = r by omega] at h1
      rw [h1]
      unfold wholeF
      rw [if_neg hrN]
      unfold enc
      exact sm_congr fun i hi => by rw [rebZ_data hN hq hle hF hi hx]
end
end Go.Proofs.Ytfdgacpmdlmjnaa
