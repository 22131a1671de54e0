/-
  quicksetref.CombNumber: the pick is looked for among all.
-/
import Derived.Test.YtfdgacpmdlmjnaaChecked
import Derived.WalkKit
import Derived.BigQuiet
import Derived.Test.YtfdgacpmdlmjnaaCombNum
import Derived.Test.YtfdgacpmdlmjnaaRefAt
namespace Go.Proofs.Ytfdgacpmdlmjnaa
open Go.RowKit Go.Deep E
/-- the first j numbers of both are the same -/
def eqTo (p : List Nat) (f : Nat → Int) (j : Nat) : Prop := ∀ x, x < j → f x = pkF p x
theorem eqTo_succ {p : List Nat} {f : Nat → Int} {j : Nat} : eqTo p f (j + 1) ↔ eqTo p f j ∧ f j = pkF p j := by
  constructor
  · exact fun h => ⟨fun x hx => h x (by omega), h j (by omega)⟩
  · intro h x hx
    by_cases e : x = j
    · rw [e]; exact h.2
    · exact h.1 x (by omega)
theorem lst_of_eqTo {p : List Nat} {f : Nat → Int} {l : Nat} (hl : p.length = l) (h : eqTo p f l) : lst (nat f) 0 l = p := by
  apply List.ext_getElem?
  intro i
  by_cases hi : i < l
  · have := h i hi
    have e : nat f i = p[i]?.getD 0 := by unfold nat; rw [this]; unfold pkF; simp
    have hi' : i < p.length := by omega
    simp [lst, hi, e, hi']
  · simp [lst, hi]
    omega
theorem eqTo_of_lst {f : Nat → Int} {l : Nat} (hn : ∀ i, i < l → f i = (nat f i : Int)) : eqTo (lst (nat f) 0 l) f l := fun x hx => by
  rw [hn x hx]
  unfold pkF
  simp [lst, hx]
theorem okF_of_eqTo {N l i : Nat} {f : Nat → Int} {p : List Nat} (hp : (pk N l 0)[i]? = some p) (h : eqTo p f l) : okF N f l 0 0 = true := by
  obtain ⟨h1, h2⟩ := pk_mem _ _ _ _ (List.mem_of_getElem? hp)
  refine asc_okF N f l 0 0 p h1 (fun x hx => ?_) (by rw [Nat.zero_add] at h2; exact h2)
  rw [Nat.zero_add, h x hx]
  simp [pkF]
theorem num_of_eqTo {N l i : Nat} {f : Nat → Int} {p : List Nat} (hN : N ≤ 12) (hp : (pk N l 0)[i]? = some p) (h : eqTo p f l) : numV N l f = i ∧ numE N l f = 0 := by
  have hok := okF_of_eqTo hp h
  have hl := (pk_mem _ _ _ _ (List.mem_of_getElem? hp)).1
  have e := lst_of_eqTo hl h
  have hs : (0 : Int) ≤ N ∧ (N : Int) ≤ 12 := by omega
  unfold numV numE
  rw [if_pos hs, if_pos hs, if_pos hok, if_pos hok]
  refine ⟨?_, rfl⟩
  rw [e, show ((N : Int)).toNat = N from rfl, nm_pk N l 0 i p hp]
theorem num_none {N l : Nat} {f : Nat → Int} (hN : N ≤ 12) (h : ∀ (i : Nat) p, (pk N l 0)[i]? = some p → ¬ eqTo p f l) : numV N l f = 0 ∧ numE N l f = 4 := by
  have hs : (0 : Int) ≤ N ∧ (N : Int) ≤ 12 := by omega
  have hok : ¬ okF N f l 0 0 = true := fun hok => by
    obtain ⟨hasc, hnat⟩ := okF_asc N f l 0 0 hok
    have h1 := pk_nm N 0 (lst (nat f) 0 l) (by rw [Nat.zero_add]; exact hasc)
    rw [lst_len] at h1
    exact h _ _ h1 (eqTo_of_lst fun i hi => hnat i (by omega) (by omega))
  unfold numV numE
  rw [if_pos hs, if_pos hs, if_neg hok, if_neg hok]
  exact ⟨rfl, rfl⟩
def sameTo (bo : Bool) (p : List Nat) (f : Nat → Int) (j : Nat) : Prop := bo = true ↔ eqTo p f j
theorem sameTo.yes {p : List Nat} {f : Nat → Int} {j : Nat} (h : sameTo true p f j) : eqTo p f j := h.1 rfl
theorem sameTo.no {p : List Nat} {f : Nat → Int} {j : Nat} (h : sameTo false p f j) : ¬ eqTo p f j := fun e => by have := h.2 e; cases this
theorem ext_drewN (w : World) (k : Nat) : Ext w (w.drewN k) := ⟨⟨rfl, rfl, rfl, Nat.le_refl _, fun _ _ => rfl⟩⟩
set_option maxRecDepth 100000 in
set_option maxHeartbeats 1600000 in
theorem RCombNumber_any (n : Int) (a : Option Addr) (l c : Nat) (f : Nat → Int) (w : World) (hl : l ≤ 9223372036854775807) (h : Ints w a l f) :
    Calls Try.prog 18 #[.int .i64 n, .slice a l c] w fun e w' => e = .returned (.tuple #[.int .i64 (numV n l f), .int .i64 (numE n l f)]) ∧ Ext w w' := by
  by_cases hs : 0 ≤ n ∧ n ≤ 12
  · obtain ⟨hs0, hs1⟩ := hs
    obtain ⟨N, rfl⟩ := Int.eq_ofNat_of_zero_le hs0
    have hN : N ≤ 12 := by omega
    clear hs0 hs1
    have HH : Hid (Ints w a l f) := h
    clear h
    obtain ⟨V, hV⟩ : ∃ V, numV N l f = V := ⟨_, rfl⟩
    obtain ⟨E0, hE0⟩ : ∃ E0, numE N l f = E0 := ⟨_, rfl⟩
    rw [hV, hE0]
    have HV : Hid (numV N l f = V) := hV
    have HE0 : Hid (numE N l f = E0) := hE0
    clear hV hE0
    by_cases hln : l ≤ N
    · obtain ⟨L, hL⟩ : ∃ L, pk N l 0 = L := ⟨_, rfl⟩
      have hLl : L.length ≤ 924 := by rw [← hL, pk_len]; exact cho_le N (by omega) l (by omega)
      have HL : Hid (pk N l 0 = L) := hL
      clear hL
      go_enter Try.func18, Try.ntmps18
      go_wp2_with (first | (go_at_call 44; refine (picks_any N hN N l 0 _ (by omega) (by omega)).mono ?_; rw [HL.out]; rintro e w1 ⟨v1, vs1, rfl, hp1⟩; obtain ⟨a1, c1, rfl, _⟩ := own_slice hp1.top; have HP1 : Hid (Pks w w1 (.slice a1 L.length c1) vs1 L) := hp1; clear hp1))
      go_loopw [25] (fun i wr => ∃ x : Nat, x ≤ L.length ∧ i = .int .i64 x ∧ Ext w1 wr ∧ Hid (∀ (y : Nat) p, y < x → L[y]? = some p → ¬ eqTo p f l)) (fun i _ => L.length - (intOf i).toNat)
      case atStart => exact ⟨0, Nat.zero_le _, rfl, Ext.refl _, fun y p hy => absurd hy (by omega)⟩
      case round =>
        obtain ⟨x, hx, rfl, hex, HN⟩ := hrel
        by_cases hlt : x < L.length
        · obtain ⟨u, p, hu, hp, hpo⟩ := HP1.out.row.at hlt
          obtain ⟨g, cg, hgc, hcell⟩ := ones_cell HP1.out.top hu hlt
          cases hgc
          have hpl : p.length = l := (pk_mem N l 0 p (by rw [HL.out]; exact List.mem_of_getElem? hp)).1
          rw [hpl] at hpo
          obtain ⟨b, cb, rfl, _⟩ := own_slice hpo
          have HI : Hid (Ints wr b l (pkF p)) := (own_ints hpl hpo).ext hex
          have HH' : Hid (Ints wr a l f) := HH.out.ext (HP1.out.ext.trans hex)
          have hcell' := hex.keeps hcell
          have HPX : Hid (L[x]? = some p) := hp
          clear hpo hu hp hcell
          go_wp2_with fail
          go_loopw [8, 32] (fun s i wi => ∃ (j : Nat) (bo : Bool), j ≤ l ∧ s = .bool bo ∧ i = .int .i64 j ∧ Ext wr wi ∧ sameTo bo p f j) (fun _ i _ => l - (intOf i).toNat)
          case atStart => exact ⟨0, true, Nat.zero_le _, rfl, rfl, Ext.refl _, ⟨fun _ x hx => absurd hx (by omega), fun _ => rfl⟩⟩
          case round =>
            obtain ⟨j, bo, hj, rfl, rfl, hxi, HE⟩ := hrel
            by_cases hjl : j < l
            · obtain ⟨b1, o1, rfl, hc1⟩ := (HI.out.ext hxi) j hjl
              obtain ⟨b2, o2, rfl, hc2⟩ := (HH'.out.ext hxi) j hjl
              clear hcell'
              cases bo with
              | true =>
                go_wp2_with fail
                go_quiet (fail)
                go_wp2_with fail
                go_roundw
                case rel =>
                  refine ⟨j + 1, pkF p j == f j, by omega, rfl, by go_num, hxi.trans (ext_drewN _ _), ?_⟩
                  show (pkF p j == f j) = true ↔ eqTo p f (j + 1)
                  rw [eqTo_succ, beq_iff_eq]
                  exact ⟨fun e => ⟨HE.yes, e.symm⟩, fun e => e.2.symm⟩
                case measure => simp [intOf]; omega
              | false =>
                go_wp2_with fail
                go_quiet (fail)
                go_wp2_with fail
                go_roundw
                case rel =>
                  refine ⟨j + 1, false, by omega, rfl, by go_num, hxi.trans (ext_drewN _ _), ?_⟩
                  show false = true ↔ eqTo p f (j + 1)
                  rw [eqTo_succ]
                  exact ⟨fun e => (by cases e), fun e => absurd e.1 HE.no⟩
                case measure => simp [intOf]; omega
            · obtain rfl : j = l := by omega
              cases bo with
              | true =>
                have hnum := num_of_eqTo hN (by rw [HL.out]; exact HPX.out) (HE.yes)
                rw [HV.out, HE0.out] at hnum
                obtain ⟨rfl, rfl⟩ := hnum
                go_wp2_with fail
                go_ret2
                exact ⟨rfl, HP1.out.ext.trans (hex.trans hxi)⟩
              | false =>
                go_wp2_with fail
                go_roundw
                case rel =>
                  refine ⟨x + 1, by omega, by go_num, hex.trans hxi, ?_⟩
                  intro y q hy hq he
                  by_cases e : y = x
                  · rw [e, HPX.out] at hq
                    cases hq
                    exact absurd he HE.no
                  · exact HN.out y q (by omega) hq he
                case measure => simp [intOf]; omega
        · obtain rfl : x = L.length := by omega
          have hnum := num_none hN (f := f) (l := l) (fun y p hp he => by
            rw [HL.out] at hp
            refine HN.out y p ?_ hp he
            rcases Nat.lt_or_ge y L.length with h1 | h1
            · exact h1
            · rw [List.getElem?_eq_none h1] at hp; cases hp)
          rw [HV.out, HE0.out] at hnum
          obtain ⟨rfl, rfl⟩ := hnum
          go_wp2_with fail
          go_ret2
          exact ⟨rfl, HP1.out.ext.trans hex⟩
    · have hnum := num_none hN (f := f) (l := l) (fun y p hp => by
        rw [pk_few N l 0 (by omega)] at hp
        simp at hp)
      rw [HV.out, HE0.out] at hnum
      obtain ⟨rfl, rfl⟩ := hnum
      go_enter Try.func18, Try.ntmps18
      go_wp2_with fail
      go_ret2
      exact ⟨rfl, Ext.refl _⟩
  · have hv : numV n l f = 0 := by unfold numV; rw [if_neg hs]
    have he : numE n l f = 2 := by unfold numE; rw [if_neg hs]
    rw [hv, he]
    clear hv he
    by_cases h0 : n < 0
    · clear hs
      go_enter Try.func18, Try.ntmps18
      go_wp2_with fail
      go_ret2
      exact ⟨rfl, Ext.refl _⟩
    · have h12 : 12 < n := by omega
      clear hs
      go_enter Try.func18, Try.ntmps18
      go_wp2_with fail
      go_ret2
      exact ⟨rfl, Ext.refl _⟩
end Go.Proofs.Ytfdgacpmdlmjnaa
