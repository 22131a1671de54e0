/-
  quicksetref.hasInt; quicksetref.ParRebuild where it is refused: the same plain answers; the memory stays as it was.
-/
import Derived.Test.YtfdgacpmdlmjnaaChecked
import Derived.WalkKit
import Derived.BigQuiet
import Derived.Deep.CutRange
import Derived.Test.YtfdgacpmdlmjnaaParRebuild
import Derived.Test.YtfdgacpmdlmjnaaQuiets
import Derived.Test.YtfdgacpmdlmjnaaRbs
import Derived.Test.YtfdgacpmdlmjnaaRefInvert
import Derived.Test.YtfdgacpmdlmjnaaRefEncode
import Derived.Test.YtfdgacpmdlmjnaaStepCall
import Derived.Test.YtfdgacpmdlmjnaaKeepEnc
namespace Go.Proofs.Ytfdgacpmdlmjnaa
open Go.RowKit Go.Deep E
set_option maxRecDepth 100000 in
set_option maxHeartbeats 400000 in
theorem hasInt_any (a : Option Addr) (n c : Nat) (f : Nat → Int) (x : Int) (w : World) (hn : n ≤ 9223372036854775807) (h : Ints w a n f) :
    Calls Try.prog 33 #[.slice a n c, .int .i64 x] w fun e w' => e = .returned (.bool (hasB n f x)) ∧ w' = w := by
  have HH : Hid (Ints w a n f) := h
  clear h
  go_enter Try.func33, Try.ntmps33
  go_wp2_with fail
  go_loop [9] (fun i => ∃ k : Nat, k ≤ n ∧ i = .int .i64 k ∧ Hid (∀ j, j < k → (x == f j) = false)) (fun i => n - (intOf i).toNat)
  case atStart => exact ⟨0, Nat.zero_le _, rfl, fun j h => by omega⟩
  case round =>
    obtain ⟨k, hk, rfl, HI⟩ := hrel
    by_cases hlt : k < n
    · obtain ⟨b, o, rfl, hck⟩ := HH.out k hlt
      by_cases hE : f k = x
      · have hB : (f k == x) = true := by rw [hE]; simp
        have HE : Hid (f k = x) := hE
        clear hE
        go_wp2_with fail
        go_ret
        exact ⟨ret_boolB (by rw [hasB_true hlt HE.out.symm]), rfl⟩
      · have hB : (f k == x) = false := by rw [beq_eq_false_iff_ne]; exact hE
        have HE : Hid (¬ f k = x) := hE
        clear hE
        go_wp2_with fail
        go_round
        case rel =>
          refine ⟨k + 1, by omega, by go_num, ?_⟩
          intro j hj
          by_cases e : j = k
          · rw [e, beq_eq_false_iff_ne]; exact fun q => HE.out q.symm
          · exact HI.out j (by omega)
        case measure => simp [intOf]; omega
    · go_wp2_with fail
      go_ret
      exact ⟨ret_boolB (by rw [hasB_false fun r hr => HI.out r (by omega)]), rfl⟩
/-- the length of the first that is kept; -1 where none is -/
def sizeI (L : Nat → Nat) (l : List Nat) : Int := match l with | [] => -1 | x :: _ => (L x : Int)
theorem sizeI_cons (L : Nat → Nat) (l : List Nat) (h : 0 < l.length) : sizeI L l = (L (l.getD 0 0) : Int) := by
  cases l with
  | nil => simp at h
  | cons x l => rfl
theorem sizeI_app (L : Nat → Nat) (l : List Nat) (x : Nat) (h : 0 < l.length) : sizeI L (l ++ [x]) = sizeI L l := by
  cases l with
  | nil => simp at h
  | cons y l => rfl
theorem kept_bad {n : Nat} {L : Nat → Nat} {nl : Nat} {fl : Nat → Int} {k k0 : Nat} (hk : k < n) (hg : hasB nl fl k = false) (hk0 : k0 < n) (hg0 : hasB nl fl k0 = false) (h : L k ≠ L k0 ∨ 4096 < L k) : keptAlike n L nl fl = false := by
  cases e : keptAlike n L nl fl
  · rfl
  · have h1 := kept_size e hk hg
    have h2 := kept_size e hk0 hg0
    omega
theorem kept_good {n : Nat} {L : Nat → Nat} {nl : Nat} {fl : Nat → Int} (h : ∀ k, k ∈ KL n (fun k => hasB nl fl k) → L k = L ((KL n fun k => hasB nl fl k).getD 0 0) ∧ L k ≤ 4096) : keptAlike n L nl fl = true := by
  unfold keptAlike
  refine alikeB_true fun i hi => ?_
  have hm : (KL n fun k => hasB nl fl k).getD i 0 ∈ KL n fun k => hasB nl fl k := by
    rw [List.getD_eq_getElem?_getD, List.getElem?_eq_getElem hi]
    exact List.getElem_mem hi
  have := h _ hm
  unfold colB
  simp only [this.1, decide_true, Bool.true_and]
  exact decide_eq_true (by rw [← this.1]; exact this.2)
theorem take_same {l : List Nat} {t : Nat} (h : (l.take t).length < t) : l.take t = l := by
  rw [List.length_take] at h
  exact List.take_of_length_le (by omega)
theorem take_full {l : List Nat} {t x : Nat} (h : ¬ (l.take t).length < t) : (l ++ [x]).take t = l.take t := by
  rw [List.length_take] at h
  exact List.take_append_of_le_length (by omega)
theorem take_getD {l : List Nat} {t i : Nat} (h : i < t) : (l.take t).getD i 0 = l.getD i 0 := by
  rw [List.getD_eq_getElem?_getD, List.getD_eq_getElem?_getD, List.getElem?_take_of_lt h]
theorem rebD_is {n0 q nl : Nat} {fl : Nat → Int} {F : Nat → Nat → E} {r : Nat} (hr : r < n0 + q) (x : Nat) : rebD n0 q nl fl F r x = if n0 ≤ r ∧ hasB nl fl r = true then enc n0 (rebZ n0 q nl fl F) (r - n0) x else rebZ n0 q nl fl F r x := by
  unfold rebD
  by_cases h : n0 ≤ r ∧ hasB nl fl r = true
  · rw [if_pos h]
    have hg' : hasB nl fl ((n0 : Int) + ((r - n0 : Nat) : Int)) = true := by
      rw [show (n0 : Int) + ((r - n0 : Nat) : Int) = (r : Int) by omega]; exact h.2
    obtain ⟨b, hb, e⟩ := PL_ex (n := q) (k := r - n0) (ok := fun j => hasB nl fl ((n0 : Int) + (j : Int))) (by omega) hg'
    have hb' : b < (lostPL n0 q nl fl).length := hb
    have e' : (lostPL n0 q nl fl).getD b 0 = r - n0 := e
    have h1 := encZ_at (n0 := n0) (l := fun i => (lostPL n0 q nl fl).getD i 0) (Z := rebZ n0 q nl fl F) hb' x
    rw [e', show n0 + (r - n0) = r by omega] at h1
    exact h1
  · rw [if_neg h]
    refine encZ_other (fun b hb e => h ⟨by omega, ?_⟩) x
    have h2 := (PL_at (show b < (PL q fun j => hasB nl fl ((n0 : Int) + (j : Int))).length from hb)).2
    have e' : n0 + (PL q fun j => hasB nl fl ((n0 : Int) + (j : Int))).getD b 0 = r := e
    have e'' : (n0 : Int) + (((PL q fun j => hasB nl fl ((n0 : Int) + (j : Int))).getD b 0 : Nat) : Int) = (r : Int) := by omega
    rw [e''] at h2
    exact h2
/-- what Rebuild tells -/
def RebRes (w' : World) (e : Ending) (n : Nat) (L : Nat → Nat) (p : Int) (nl : Nat) (fl : Nat → Int) (F : Nat → Nat → E) : Prop :=
  if rebE n L p nl fl = 0 then ColsRes w' e n (sizeOfKept n L nl fl) (rebD (n - p.toNat) p.toNat nl fl F) 0 else e = .returned (.tuple #[.slice none 0 0, .int .i64 (rebE n L p nl fl)])
theorem RebRes.no {w' : World} {n : Nat} {L : Nat → Nat} {p : Int} {nl : Nat} {fl : Nat → Int} {F : Nat → Nat → E} {x : Int} (h : rebE n L p nl fl = x) (hx : x ≠ 0) : RebRes w' (.returned (.tuple #[.slice none 0 0, .int .i64 x])) n L p nl fl F := by
  unfold RebRes
  rw [h, if_neg hx]
theorem own_placesT {w : World} {base t c : Nat} {a : Option Addr} {l : List Nat} (hl : l.length = t) (h : w.ownsRow base 3 1 (.slice a t c) t (l.map inV)) : Ints w a t fun i => ((l.getD i 0 : Nat) : Int) := by
  subst hl
  obtain ⟨a9, c9, hv9, hi9⟩ := own_places h
  cases hv9
  exact hi9
set_option maxRecDepth 100000 in
set_option maxHeartbeats 4000000 in
theorem ParRebuild_any (a : Option Addr) (n c : Nat) (A : Nat → Option Addr) (L C : Nat → Nat) (F : Nat → Nat → E) (p : Int) (al : Option Addr) (nl cl : Nat) (fl : Nat → Int) (w : World) (hn : n ≤ 9223372036854775807) (hnl : nl ≤ cl ∧ cl ≤ 9223372036854775807) (hL : ∀ r, r < n → L r ≤ 9223372036854775807) (hpb : -9223372036854775808 ≤ p ∧ p ≤ 9223372036854775807) (h : Cols w a n A L C F) (hl : Ints w al nl fl) :
    Calls Try.prog 10 #[.slice a n c, .int .i64 p, .slice al nl cl] w fun e w' => RebRes w' e n L p nl fl F ∧ Ext w w' := by
  have HH : Hid (Cols w a n A L C F) := h
  have HL : Hid (Ints w al nl fl) := hl
  have HLB : Hid (∀ r, r < n → L r ≤ 9223372036854775807) := hL
  clear h hl hL
  cases hP : fromTo 1 3 p
  · have hR : rebE n L p nl fl = 2 := by unfold rebE; rw [hP]; rfl
    have hpn := fromTo_not hP
    have HR : Hid (rebE n L p nl fl = 2) := hR
    clear hP hR
    by_cases h1 : p < 1
    · go_enter Try.func10, Try.ntmps10
      go_wp2_with fail
      go_ret2
      exact ⟨RebRes.no HR.out (by decide), Ext.refl _⟩
    · have h2 : 3 < p := by omega
      clear hpn
      go_enter Try.func10, Try.ntmps10
      go_wp2_with fail
      go_ret2
      exact ⟨RebRes.no HR.out (by decide), Ext.refl _⟩
  have hpb' := fromTo_bd hP
  have p1 : ¬ p < 1 := by omega
  have p2 : ¬ 3 < p := by omega
  cases hD : fromTo 1 12 ((n : Int) - p)
  · have hR : rebE n L p nl fl = 2 := by unfold rebE; rw [hP, hD]; rfl
    have hdn := fromTo_not hD
    have HR : Hid (rebE n L p nl fl = 2) := hR
    clear hP hR hD
    by_cases h1 : (n : Int) - p < 1
    · go_enter Try.func10, Try.ntmps10
      go_wp2_with fail
      go_ret2
      exact ⟨RebRes.no HR.out (by decide), Ext.refl _⟩
    · have h2 : 12 < (n : Int) - p := by omega
      clear hdn
      go_enter Try.func10, Try.ntmps10
      go_wp2_with fail
      go_ret2
      exact ⟨RebRes.no HR.out (by decide), Ext.refl _⟩
  have hdb := fromTo_bd hD
  have d1 : ¬ (n : Int) - p < 1 := by omega
  have d2 : ¬ 12 < (n : Int) - p := by omega
  have hn16 : n ≤ 15 := by omega
  have HRE : Hid (rebE n L p nl fl = if keptAlike n L nl fl then if outB n nl fl then 2 else if dupB nl fl then 7 else if p < nl then 12 else 0 else 4) := by
    show _ = _
    unfold rebE
    rw [hP, hD]
    rfl
  clear hP hD hpb
  obtain ⟨q, rfl⟩ := Int.eq_ofNat_of_zero_le (show 0 ≤ p by omega)
  obtain ⟨n0, hn0⟩ : ∃ n0 : Nat, n0 + q = n := ⟨n - q, by omega⟩
  have e8 : (n : Int) - (q : Int) = (n0 : Int) := by omega
  have d1' : ¬ (n0 : Int) < 1 := by omega
  have d2' : ¬ 12 < (n0 : Int) := by omega
  have hqb : 1 ≤ q ∧ q ≤ 3 := by omega
  have hnb : 1 ≤ n0 ∧ n0 ≤ 12 := by omega
  clear hdb d1 d2
  go_enter Try.func10, Try.ntmps10
  go_wp2_with fail
  go_loopw [9, 53] (fun s i wr => ∃ k : Nat, k ≤ n ∧ i = .int .i64 k ∧ s = .int .i64 (sizeI L (KL k fun k => hasB nl fl k)) ∧ Ext w wr ∧ Hid (∀ j, j ∈ KL k (fun k => hasB nl fl k) → L j = L ((KL k fun k => hasB nl fl k).getD 0 0) ∧ L j ≤ 4096)) (fun _ i _ => n - (intOf i).toNat)
  case atStart => exact ⟨0, Nat.zero_le _, rfl, rfl, Ext.refl _, fun j hj => by simp [KL] at hj⟩
  case round =>
    obtain ⟨k, hk, rfl, rfl, hx, HI⟩ := hrel
    by_cases hkt : k < n
    · obtain ⟨⟨b, o, rfl, hck⟩, _⟩ := (HH.out.ext hx) k hkt
      have hlk := HLB.out k hkt
      go_wp2_with fail
      refine (hasInt_any al nl cl fl k _ (by omega) (HL.out.ext hx)).mono ?_
      rintro e w2 ⟨rfl, rfl⟩
      cases hG : hasB nl fl (k : Int)
      · by_cases hE : (KL k fun k => hasB nl fl k).length = 0
        · have hnil : (KL k fun k => hasB nl fl k) = [] := List.length_eq_zero_iff.1 hE
          have hsz : sizeI L (KL k fun k => hasB nl fl k) = -1 := by rw [hnil]; rfl
          have hnx : (KL (k + 1) fun k => hasB nl fl k) = [k] := by rw [KL_yes (g := fun k => hasB nl fl k) hG, hnil]; rfl
          have HNX : Hid ((KL (k + 1) fun k => hasB nl fl k) = [k]) := hnx
          have hBk : ((L k : Int) != (L k : Int)) = false := by simp
          clear hnx hnil hE
          rw [hsz]
          clear hsz
          by_cases h4 : (4096 : Int) < L k
          · have HR : Hid (rebE n L q nl fl = 4) := by
              rw [HRE.out, kept_bad hkt hG hkt hG (Or.inr (by omega))]; rfl
            go_wp2_with fail
            go_ret2
            exact ⟨RebRes.no HR.out (by decide), hx⟩
          · go_wp2_with fail
            go_roundw
            case rel =>
              refine ⟨k + 1, by omega, by go_num, ?_, hx, ?_⟩
              · rw [HNX.out]; rfl
              · intro j hj
                rw [HNX.out] at hj ⊢
                simp at hj
                subst hj
                exact ⟨rfl, by omega⟩
            case measure => simp [intOf]; omega
        · have hlen : 0 < (KL k fun k => hasB nl fl k).length := by omega
          obtain ⟨k0, hk0⟩ : ∃ k0, (KL k fun k => hasB nl fl k).getD 0 0 = k0 := ⟨_, rfl⟩
          have hat := KL_at hlen
          rw [hk0] at hat
          have hm0 : k0 ∈ KL k fun k => hasB nl fl k := by rw [KL_mem]; exact hat
          have hb0 := HI.out k0 hm0
          have hsz : sizeI L (KL k fun k => hasB nl fl k) = (L k0 : Int) := by rw [sizeI_cons _ _ hlen, hk0]
          have HNX : Hid ((KL (k + 1) fun k => hasB nl fl k) = (KL k fun k => hasB nl fl k) ++ [k]) := KL_yes (g := fun k => hasB nl fl k) hG
          have HK0 : Hid (k0 < n ∧ hasB nl fl k0 = false ∧ (KL k fun k => hasB nl fl k).getD 0 0 = k0 ∧ 0 < (KL k fun k => hasB nl fl k).length ∧ sizeI L (KL k fun k => hasB nl fl k) = (L k0 : Int)) := ⟨by omega, hat.2, hk0, hlen, hsz⟩
          have h5 : L k0 ≤ 4096 := hb0.2
          rw [hsz]
          clear hsz hb0 hm0 hat hk0 hlen hE
          by_cases h4 : L k = L k0
          · have hB : ((L k : Int) != (L k0 : Int)) = false := by rw [h4]; simp
            have H4 : Hid (L k = L k0) := h4
            clear h4
            go_wp2_with fail
            go_roundw
            case rel =>
              refine ⟨k + 1, by omega, by go_num, ?_, hx, ?_⟩
              · rw [HNX.out, sizeI_app _ _ _ HK0.out.2.2.2.1, HK0.out.2.2.2.2]
              · intro j hj
                have hg : ((KL k fun k => hasB nl fl k) ++ [k]).getD 0 0 = k0 := by
                  rw [List.getD_eq_getElem?_getD, List.getElem?_append_left HK0.out.2.2.2.1, ← List.getD_eq_getElem?_getD]; exact HK0.out.2.2.1
                rw [HNX.out] at hj ⊢
                rw [hg]
                rcases List.mem_append.1 hj with hj | hj
                · have := HI.out j hj
                  rw [HK0.out.2.2.1] at this
                  exact this
                · simp at hj
                  rw [hj, H4.out]
                  exact ⟨rfl, h5⟩
            case measure => simp [intOf]; omega
          · have hB : ((L k : Int) != (L k0 : Int)) = true := by rw [bne_iff_ne]; omega
            have HR : Hid (rebE n L q nl fl = 4) := by
              rw [HRE.out, kept_bad hkt hG HK0.out.1 HK0.out.2.1 (Or.inl h4)]; rfl
            clear h4
            go_wp2_with fail
            go_ret2
            exact ⟨RebRes.no HR.out (by decide), hx⟩
      · have HNX : Hid ((KL (k + 1) fun k => hasB nl fl k) = KL k fun k => hasB nl fl k) := KL_no (g := fun k => hasB nl fl k) hG
        go_wp2_with fail
        go_roundw
        case rel =>
          refine ⟨k + 1, by omega, by go_num, ?_, hx, ?_⟩
          · rw [HNX.out]
          · rw [HNX.out]; exact HI.out
        case measure => simp [intOf]; omega
    · obtain rfl : n = k := by omega
      have HAL : Hid (keptAlike n L nl fl = true) := kept_good HI.out
      rw [HAL.out, if_pos rfl] at HRE
      generalize hw0 : wr = wa at *
      clear hw0
      go_wp2_with fail
      go_loopw [76] (fun i wr => ∃ k : Nat, k ≤ nl ∧ i = .int .i64 k ∧ Ext wa wr ∧ Hid (∀ j, j < k → 0 ≤ fl j ∧ fl j < n)) (fun i _ => nl - (intOf i).toNat)
      case atStart => exact ⟨0, Nat.zero_le _, rfl, Ext.refl _, fun j hj => by omega⟩
      case round =>
        obtain ⟨k, hk2, rfl, hx2, HI2⟩ := hrel
        by_cases hkt2 : k < nl
        · obtain ⟨b2, o2, rfl, hc2⟩ := (HL.out.ext (hx.trans hx2)) k hkt2
          by_cases h1 : fl k < 0
          · have HR : Hid (rebE n L q nl fl = 2) := by rw [HRE.out, outB_true hkt2 (Or.inl h1)]; rfl
            go_wp2_with fail
            go_ret2
            exact ⟨RebRes.no HR.out (by decide), hx.trans hx2⟩
          · by_cases h2 : (n : Int) ≤ fl k
            · have HR : Hid (rebE n L q nl fl = 2) := by rw [HRE.out, outB_true hkt2 (Or.inr h2)]; rfl
              go_wp2_with fail
              go_ret2
              exact ⟨RebRes.no HR.out (by decide), hx.trans hx2⟩
            · go_wp2_with fail
              go_roundw
              case rel =>
                refine ⟨k + 1, by omega, by go_num, hx2, fun j hj => ?_⟩
                by_cases e : j = k
                · rw [e]; omega
                · exact HI2.out j (by omega)
              case measure => simp [intOf]; omega
        · obtain rfl : nl = k := by omega
          have HOUT : Hid (outB n nl fl = false) := outB_false HI2.out
          rw [HOUT.out, if_neg (by simp)] at HRE
          have hxb := hx.trans hx2
          generalize hw0 : wr = wb at *
          clear hw0 hx2
          go_wp2_with fail
          go_loopw [91] (fun i wr => ∃ k : Nat, k ≤ nl ∧ i = .int .i64 k ∧ Ext wb wr ∧ Hid (∀ j, j < k → hasB j fl (fl j) = false)) (fun i _ => nl - (intOf i).toNat)
          case atStart => exact ⟨0, Nat.zero_le _, rfl, Ext.refl _, fun j hj => by omega⟩
          case round =>
            obtain ⟨k, hk3, rfl, hx3, HI3⟩ := hrel
            by_cases hkt3 : k < nl
            · obtain ⟨b3, o3, rfl, hc3⟩ := HL.out k hkt3
              have g3 := fun y : Gr wr => ((hxb.trans hx3).trans y.ext).keeps hc3
              have hs3 : ∀ w, (Instr.slice 23 (.slice (some ⟨b3, o3, none⟩) nl cl) none (some (.int .i64 k)) none).run Try.prog w = .ok (.slice (subA (some ⟨b3, o3, none⟩) cl 0) k cl) w := fun w => sub_h (P := Try.prog) Try.underlying23 sizeInt2 _ nl cl k (by omega) _ rfl w
              have HPR : Hid (Ints w (subA (some ⟨b3, o3, none⟩) cl 0) k fl) := ints_pre HL.out (by omega) hnl.1
              clear hc3
              go_wp2_with fail
              refine wp_region_grows 7 (by kernel_rfl) (by kernel_rfl) (fun hne => ?_)
              simp only [List.take_succ_cons, List.take_zero, List.drop_succ_cons, List.drop_zero]
              repeat (go_big_quiet_step (fail))
              refine wpQuiet_nil ?_
              intro w6 hw6
              obtain ⟨y, rfl⟩ := hw6
              clear g3 hs3
              go_wp2_with fail
              refine (hasInt_any _ k cl fl (fl k) _ (by omega) (HPR.out.ext ((hxb.trans hx3).trans y.ext))).mono ?_
              rintro e w7 ⟨rfl, rfl⟩
              cases hG : hasB k fl (fl k)
              · go_wp2_with fail
                go_roundw
                case rel =>
                  refine ⟨k + 1, by omega, by go_num, hx3.trans y.ext, fun j hj => ?_⟩
                  by_cases e : j = k
                  · rw [e]; exact hG
                  · exact HI3.out j (by omega)
                case measure => simp [intOf]; omega
              · have HR : Hid (rebE n L q nl fl = 7) := by rw [HRE.out, dupB_true hkt3 hG]; rfl
                go_wp2_with fail
                go_ret2
                exact ⟨RebRes.no HR.out (by decide), (hxb.trans hx3).trans y.ext⟩
            · obtain rfl : nl = k := by omega
              have HDUP : Hid (dupB nl fl = false) := dupB_false HI3.out
              rw [HDUP.out, if_neg (by simp)] at HRE
              have hxc := hxb.trans hx3
              by_cases hpl : (q : Int) < nl
              · have HR : Hid (rebE n L q nl fl = 12) := by show _ = _; rw [HRE.out, if_pos hpl]
                go_wp2_with fail
                go_ret2
                exact ⟨RebRes.no HR.out (by decide), hxc⟩
              · rw [if_neg hpl] at HRE
                have hsp := split_len n fun k => hasB nl fl k
                have hgl := gone_len n nl fl
                have hk1 : 0 < (KL n fun k => hasB nl fl k).length := by omega
                obtain ⟨m, hm⟩ : ∃ m, sizeOfKept n L nl fl = m := ⟨_, rfl⟩
                have hszI : sizeI L (KL n fun k => hasB nl fl k) = (m : Int) := by rw [sizeI_cons _ _ hk1, ← hm]; rfl
                have HM : Hid (∀ k, k < n → hasB nl fl k = false → L k = m) := fun k hk hg => by rw [← hm]; exact (kept_size HAL.out hk hg).1
                have hm4 : m ≤ 4096 := by
                  have h1 := KL_at hk1
                  have h2 := kept_size HAL.out h1.1 h1.2
                  rw [hm] at h2
                  omega
                have HSZ : Hid (sizeOfKept n L nl fl = m) := hm
                have ht3 : (holeL n0 nl fl).length + (lostPL n0 q nl fl).length ≤ nl := by
                  have h1 := PL_add n0 q fun k => hasB nl fl k
                  rw [hn0] at h1
                  have h2 : (PL q fun k => hasB nl fl ((n0 + k : Nat) : Int)) = lostPL n0 q nl fl := by unfold lostPL; congr 1
                  rw [h2] at h1
                  unfold holeL
                  omega
                have hkl : (lostPL n0 q nl fl).length + (keptPL n0 q nl fl).length = q := split_len q fun j => hasB nl fl ((n0 : Int) + (j : Int))
                rw [hszI]
                have HXC : Hid (Ext w wr) := hxc
                have hmk := make_cols n (by omega)
                clear hsp hgl hk1 hm hszI hxc hx3 hxb hx HI HI2 HI3 e8
                generalize hw0 : wr = wc at *
                clear hw0
                go_wp2_with fail
                clear hmk
                have HO0 : Hid (OutS wc (wc.alloc (.cells (madeCells #[.slice none 0 0] n) 47)) wc.heap.size n m (fun _ => .slice none 0 0) (fun _ => false) (lostZ nl fl F)) := OutS.start wc n m _
                generalize wc.alloc (.cells (madeCells #[.slice none 0 0] n) 47) = w1 at *
                go_loopw [15, 112] (fun v i wr => ∃ k : Nat, k ≤ n ∧ i = .int .i64 k ∧ ∃ V, OutS wc wr wc.heap.size n m V (fun r => decide (r < k) && !hasB nl fl r) (lostZ nl fl F) ∧ wr.ownsRow wc.heap.size 3 1 v (PL (min k n0) fun k => hasB nl fl k).length ((PL (min k n0) fun k => hasB nl fl k).map inV)) (fun _ i _ => n - (intOf i).toNat)
                case atStart => exact ⟨0, Nat.zero_le _, rfl, _, HO0.out.congr (fun r _ h => by simp at h) (fun r _ h => by simp at h), by rw [Nat.zero_min]; exact World.ownsRow_nil _ _ _ _⟩
                case round =>
                  clear HO0
                  obtain ⟨k, hk4, rfl, V, hO, hown⟩ := hrel
                  have HO : Hid (OutS wc wr wc.heap.size n m V (fun r => decide (r < k) && !hasB nl fl r) (lostZ nl fl F)) := hO
                  have HW : Hid (wr.ownsRow wc.heap.size 3 1 u15 (PL (min k n0) fun k => hasB nl fl k).length ((PL (min k n0) fun k => hasB nl fl k).map inV)) := hown
                  clear hO hown
                  by_cases hk4t : k < n
                  · have hx4 := HXC.out.trans HO.out.ext
                    go_wp2_with fail
                    refine (hasInt_any al nl cl fl k _ (by omega) (HL.out.ext hx4)).mono ?_
                    rintro e w2 ⟨rfl, rfl⟩
                    cases hG : hasB nl fl (k : Int)
                    · obtain ⟨⟨b4, o4, rfl, hc4⟩, hcol4⟩ := HH.out k hk4t
                      have hLk := HM.out k hk4t hG
                      rw [hLk] at hc4 hcol4
                      have hck := (hx4.alloc #[] 5).keeps hc4
                      have HB4 : Hid (∀ i, i < m → ∃ b o, A k = some ⟨b, o, none⟩ ∧ (w2.alloc (.cells #[] 5)).cell? ⟨b, o + i, none⟩ = some (bvs (F k) i)) := fun i hi => hcol4.ext (hx4.alloc _ _) i hi
                      have HE4 : Hid ((w2.alloc (.cells #[] 5)).ownsRow w2.heap.size 5 1 (.slice (some ⟨w2.heap.size, 0, none⟩) 0 0) 0 []) := own_empty w2 _ _ (Nat.le_refl _)
                      have hsz4 : w2.heap.size ≤ (w2.alloc (.cells #[] 5)).heap.size := by simp
                      clear hc4 hcol4 hLk
                      go_wp2_with (first | (at_builtin; refine append_vals (w2.alloc (.cells #[] 5)) rfl (.tmp 127) (.tmp 131) 47 rfl w2.heap.size 5 (.int .u8 0) 1 Try.underlying47 infoByte rfl (.slice (some ⟨w2.heap.size, 0, none⟩) 0 0) 0 [] rfl HE4.out (A k) m (C k) (bvs (F k)) rfl HB4.out (fun _ _ => rfl) (by omega) (by omega) hsz4 ?_) | go_in)
                      intro v5 w5 hown5 hgrow5
                      have hx5 : Ext w2 w5 := ((Ext.refl w2).alloc _ _).grow hgrow5 fun k hk => by cases hk; exact Nat.le_refl _
                      obtain ⟨a9, c9, rfl, h9⟩ := own_slice hown5
                      have hct := (HO.out.grow hx5).top.cell hk4t
                      have hft := (HO.out.grow hx5).top.frozen k
                      have HN : Hid (∃ V, OutS wc (w5.setCell ⟨wc.heap.size, k, none⟩ (.slice a9 m c9)) wc.heap.size n m V (fun r => decide (r < k + 1) && !hasB nl fl r) (lostZ nl fl F)) := by
                        refine ⟨_, (HO.out.put hx5 hown5 (r := k)).congr (fun r hr h => ?_) (fun r hr h i _ => ?_)⟩
                        · by_cases e : r = k
                          · rw [if_pos e]
                          · rw [if_neg e]
                            simp at h ⊢
                            exact ⟨by omega, h.2⟩
                        · by_cases e : r = k
                          · rw [if_pos e, e, lostZ_no hG]
                          · rw [if_neg e]
                      have HL9 : Hid ((w5.setCell ⟨wc.heap.size, k, none⟩ (.slice a9 m c9)).ownsRow wc.heap.size 3 1 u15 (PL (min (k + 1) n0) fun k => hasB nl fl k).length ((PL (min (k + 1) n0) fun k => hasB nl fl k).map inV)) := by
                        have e : (PL (min (k + 1) n0) fun k => hasB nl fl k) = PL (min k n0) fun k => hasB nl fl k := by
                          by_cases e : k < n0
                          · rw [Nat.min_eq_left (by omega), Nat.min_eq_left (by omega), PL_no (ok := fun k => hasB nl fl k) hG]
                          · rw [Nat.min_eq_right (by omega), Nat.min_eq_right (by omega)]
                        rw [e]
                        have h5 := own_ext HW.out hx5
                        exact own_wro h5 ((Wro.refl (· = wc.heap.size) w5).setCell (p := ⟨wc.heap.size, k, none⟩) rfl _) fun g hg q => own_ne_row h5 (HO.out.grow hx5).top (by decide) (by rw [hg, q])
                      clear hown5 hgrow5 h9 hck hsz4
                      go_wp2_with fail
                      go_roundw
                      case rel =>
                        obtain ⟨V', h1⟩ := HN.out
                        exact ⟨k + 1, by omega, by go_num, V', h1, HL9.out⟩
                      case measure => simp [intOf]; omega
                    · have HNO : Hid (∀ w', OutS wc w' wc.heap.size n m V (fun r => decide (r < k) && !hasB nl fl r) (lostZ nl fl F) → OutS wc w' wc.heap.size n m V (fun r => decide (r < k + 1) && !hasB nl fl r) (lostZ nl fl F)) := fun w' h => h.congr (fun r hr hh => by
                        simp at hh ⊢
                        refine ⟨?_, hh.2⟩
                        rcases Nat.lt_or_ge r k with l | l
                        · exact l
                        · have : r = k := by omega
                          rw [this, hG] at hh; cases hh.2) (fun _ _ _ _ _ => rfl)
                      by_cases hkn0 : (k : Int) < (n0 : Int)
                      · have HMI : Hid (min k n0 = k ∧ min (k + 1) n0 = k + 1) := ⟨by omega, by omega⟩
                        rw [HMI.out.1] at HW
                        have hln := PL_len k fun k => hasB nl fl k
                        have hsz := HO.out.ext.size
                        go_wp2_with (first | (at_builtin; refine append_one w2 rfl _ _ 23 rfl wc.heap.size 3 (.int .i64 0) 8 Try.underlying23 infoInt rfl u15 (PL k fun k => hasB nl fl k).length _ rfl HW.out (.int .i64 k) 1 rfl rfl (by omega) (by omega) hsz ?_) | go_in)
                        intro v' w5 hown' hgrow
                        have HN : Hid (OutS wc w5 wc.heap.size n m V (fun r => decide (r < k + 1) && !hasB nl fl r) (lostZ nl fl F) ∧ w5.ownsRow wc.heap.size 3 1 v' (PL (min (k + 1) n0) fun k => hasB nl fl k).length ((PL (min (k + 1) n0) fun k => hasB nl fl k).map inV)) := by
                          refine ⟨HNO.out _ ((HO.out.grow ((Ext.refl w2).alloc _ _)).grown (own_ext HW.out ((Ext.refl w2).alloc _ _)) hgrow (by decide) (by decide)), ?_⟩
                          rw [HMI.out.2, PL_yes (ok := fun k => hasB nl fl k) hG, List.length_append, List.map_append]
                          exact hown'
                        clear hown' hgrow hln
                        go_wp2_with fail
                        go_roundw
                        case rel => exact ⟨k + 1, by omega, by go_num, V, HN.out.1, HN.out.2⟩
                        case measure => simp [intOf]; omega
                      · have HMI : Hid (min (k + 1) n0 = min k n0) := by show _ = _; omega
                        go_wp2_with fail
                        go_roundw
                        case rel => exact ⟨k + 1, by omega, by go_num, V, HNO.out _ HO.out, by rw [HMI.out]; exact HW.out⟩
                        case measure => simp [intOf]; omega
                  · obtain rfl : n = k := by omega
                    obtain ⟨a15, c15, rfl, hi15⟩ := own_places HW.out
                    have HNE15 : Hid (∀ b o, a15 = some ⟨b, o, none⟩ → b ≠ wc.heap.size) := fun b o e q => own_ne_row HW.out HO.out.top (by decide) (by rw [e, ← q]; rfl)
                    rw [Nat.min_eq_right (by omega)] at hi15
                    have hlen15 : (PL (min n n0) fun k => hasB nl fl k).length = (holeL n0 nl fl).length := by rw [Nat.min_eq_right (by omega)]; rfl
                    rw [hlen15]
                    have hw15 := HW.out
                    rw [Nat.min_eq_right (by omega)] at hw15
                    have HW15 : Hid (wr.ownsRow wc.heap.size 3 1 (.slice a15 (holeL n0 nl fl).length c15) (holeL n0 nl fl).length ((holeL n0 nl fl).map inV)) := hw15
                    have HH15 : Hid (Ints wr a15 (holeL n0 nl fl).length fun i => (((holeL n0 nl fl).getD i 0 : Nat) : Int)) := hi15
                    clear hi15 hlen15 HW hw15
                    obtain ⟨t, ht⟩ : ∃ t, (holeL n0 nl fl).length = t := ⟨_, rfl⟩
                    rw [ht] at HH15 ht3 HW15
                    rw [ht]
                    have HT : Hid ((holeL n0 nl fl).length = t) := ht
                    clear ht
                    generalize hw0 : wr = wd at *
                    clear hw0
                    go_wp2_with fail
                    go_loopw [16, 19] (fun v i wr => ∃ j : Nat, j ≤ q ∧ i = .int .i64 j ∧ Ext wd wr ∧ wr.ownsRow wd.heap.size 3 1 v (((PL j fun j => !hasB nl fl ((n0 : Int) + (j : Int))).take t).length) (((PL j fun j => !hasB nl fl ((n0 : Int) + (j : Int))).take t).map inV)) (fun _ i _ => q - (intOf i).toNat)
                    case atStart => exact ⟨0, Nat.zero_le _, rfl, Ext.refl _, by simp [PL]; exact World.ownsRow_nil _ _ _ _⟩
                    case round =>
                      obtain ⟨j, hj, rfl, hx5, hown⟩ := hrel
                      obtain ⟨a16, c16, rfl, h16⟩ := own_slice hown
                      have HW : Hid (wr.ownsRow wd.heap.size 3 1 (.slice a16 ((PL j fun j => !hasB nl fl ((n0 : Int) + (j : Int))).take t).length c16) (((PL j fun j => !hasB nl fl ((n0 : Int) + (j : Int))).take t).length) (((PL j fun j => !hasB nl fl ((n0 : Int) + (j : Int))).take t).map inV)) := hown
                      clear hown h16
                      have hx6 := (HXC.out.trans HO.out.ext).trans hx5
                      by_cases hjt : j < q
                      · by_cases hu : ((PL j fun j => !hasB nl fl ((n0 : Int) + (j : Int))).take t).length < t
                        · have hts := take_same hu
                          have huI : ((((PL j fun j => !hasB nl fl ((n0 : Int) + (j : Int))).take t).length : Nat) : Int) < (t : Int) := by omega
                          have HTS : Hid ((PL j fun j => !hasB nl fl ((n0 : Int) + (j : Int))).take t = PL j fun j => !hasB nl fl ((n0 : Int) + (j : Int))) := hts
                          have HU : Hid (((PL j fun j => !hasB nl fl ((n0 : Int) + (j : Int))).take t).length < t) := hu
                          obtain ⟨u, hul⟩ : ∃ u, ((PL j fun j => !hasB nl fl ((n0 : Int) + (j : Int))).take t).length = u := ⟨_, rfl⟩
                          rw [hul] at huI HW
                          rw [hul]
                          have HUL : Hid (((PL j fun j => !hasB nl fl ((n0 : Int) + (j : Int))).take t).length = u) := hul
                          clear hts hu hul
                          go_wp2_with fail
                          refine (hasInt_any al nl cl fl ((n0 : Int) + (j : Int)) _ (by omega) (HL.out.ext hx6)).mono ?_
                          rintro e w2 ⟨rfl, rfl⟩
                          cases hG : hasB nl fl ((n0 : Int) + (j : Int))
                          · have hsz := hx5.size
                            go_wp2_with (first | (at_builtin; refine append_one w2 rfl _ _ 23 rfl wd.heap.size 3 (.int .i64 0) 8 Try.underlying23 infoInt rfl (.slice a16 u c16) u _ rfl HW.out (.int .i64 j) 1 rfl rfl (by omega) (by omega) hsz ?_) | go_in)
                            intro v' w5 hown' hgrow
                            have HN : Hid (Ext wd w5 ∧ w5.ownsRow wd.heap.size 3 1 v' (((PL (j + 1) fun j => !hasB nl fl ((n0 : Int) + (j : Int))).take t).length) (((PL (j + 1) fun j => !hasB nl fl ((n0 : Int) + (j : Int))).take t).map inV)) := by
                              refine ⟨(hx5.alloc _ _).grow hgrow fun b hb => (own_ge HW.out hb).1, ?_⟩
                              have e1 : (PL (j + 1) fun j => !hasB nl fl ((n0 : Int) + (j : Int))).take t = (PL j fun j => !hasB nl fl ((n0 : Int) + (j : Int))).take t ++ [j] := by
                                rw [PL_yes (ok := fun j => !hasB nl fl ((n0 : Int) + (j : Int))) (by rw [hG]; rfl), HTS.out]
                                have h1 := HU.out
                                rw [HTS.out] at h1
                                exact List.take_of_length_le (by rw [List.length_append]; simp; omega)
                              rw [e1, List.length_append, List.map_append, HUL.out, List.map_take]
                              exact hown'
                            clear hown' hgrow
                            go_wp2_with fail
                            go_roundw
                            case rel => exact ⟨j + 1, by omega, by go_num, HN.out.1, HN.out.2⟩
                            case measure => simp [intOf]; omega
                          · have HN : Hid (w2.ownsRow wd.heap.size 3 1 (.slice a16 u c16) (((PL (j + 1) fun j => !hasB nl fl ((n0 : Int) + (j : Int))).take t).length) (((PL (j + 1) fun j => !hasB nl fl ((n0 : Int) + (j : Int))).take t).map inV)) := by
                              rw [PL_no (ok := fun j => !hasB nl fl ((n0 : Int) + (j : Int))) (by rw [hG]; rfl), HUL.out]; exact HW.out
                            go_wp2_with fail
                            go_roundw
                            case rel => exact ⟨j + 1, by omega, by go_num, hx5, HN.out⟩
                            case measure => simp [intOf]; omega
                        · have huI : ¬ ((((PL j fun j => !hasB nl fl ((n0 : Int) + (j : Int))).take t).length : Nat) : Int) < (t : Int) := by omega
                          have HN : Hid (wr.ownsRow wd.heap.size 3 1 (.slice a16 ((PL j fun j => !hasB nl fl ((n0 : Int) + (j : Int))).take t).length c16) (((PL (j + 1) fun j => !hasB nl fl ((n0 : Int) + (j : Int))).take t).length) (((PL (j + 1) fun j => !hasB nl fl ((n0 : Int) + (j : Int))).take t).map inV)) := by
                            have e1 : (PL (j + 1) fun j => !hasB nl fl ((n0 : Int) + (j : Int))).take t = (PL j fun j => !hasB nl fl ((n0 : Int) + (j : Int))).take t := by
                              cases hG : hasB nl fl ((n0 : Int) + (j : Int))
                              · rw [PL_yes (ok := fun j => !hasB nl fl ((n0 : Int) + (j : Int))) (by rw [hG]; rfl), take_full hu]
                              · rw [PL_no (ok := fun j => !hasB nl fl ((n0 : Int) + (j : Int))) (by rw [hG]; rfl)]
                            rw [e1]; exact HW.out
                          obtain ⟨u, hul⟩ : ∃ u, ((PL j fun j => !hasB nl fl ((n0 : Int) + (j : Int))).take t).length = u := ⟨_, rfl⟩
                          rw [hul] at huI HN
                          rw [hul]
                          clear hul hu HW
                          go_wp2_with fail
                          go_roundw
                          case rel => exact ⟨j + 1, by omega, by go_num, hx5, HN.out⟩
                          case measure => simp [intOf]; omega
                      · obtain rfl : q = j := by omega
                        have hlen : ((PL q fun j => !hasB nl fl ((n0 : Int) + (j : Int))).take t).length = t := by
                          rw [List.length_take]
                          have : (PL q fun j => !hasB nl fl ((n0 : Int) + (j : Int))).length = (keptPL n0 q nl fl).length := rfl
                          omega
                        have h1 := own_places HW.out
                        have hw16 := own_mono HW.out HO.out.ext.size
                        rw [hlen] at h1 hw16
                        rw [hlen]
                        have HU16 : Hid (Ints wr a16 t fun i => (((keptPL n0 q nl fl).getD i 0 : Nat) : Int)) := by
                          obtain ⟨a9, c9, hv9, hi9⟩ := h1
                          cases hv9
                          intro i hi
                          obtain ⟨b, o, e1, e2⟩ := hi9 i hi
                          dsimp only at e2
                          rw [take_getD hi] at e2
                          exact ⟨b, o, e1, e2⟩
                        have HW16 : Hid (wr.ownsRow wc.heap.size 3 1 (.slice a16 t c16) t (((PL q fun j => !hasB nl fl ((n0 : Int) + (j : Int))).take t).map inV)) := hw16
                        have HW15e : Hid (wr.ownsRow wc.heap.size 3 1 (.slice a15 t c15) t ((holeL n0 nl fl).map inV)) := own_ext HW15.out hx5
                        have HO6 : Hid (OutS wc wr wc.heap.size n m V (fun r => decide (r < n) && !hasB nl fl r) (lostZ nl fl F)) := HO.out.grow hx5
                        have HH6 : Hid (Ints wr a15 t fun i => (((holeL n0 nl fl).getD i 0 : Nat) : Int)) := HH15.out.ext hx5
                        clear hlen HW HO HH15 hx5 h1 hw16 HW15
                        generalize hw0 : wr = we at *
                        clear hw0
                        have hmk := make_bytes m (by omega)
                        go_wp2_with fail
                        go_loopw [159] (fun i wr => ∃ b : Nat, b ≤ t ∧ i = .int .i64 b ∧ ∃ V, OutS wc wr wc.heap.size n m V (fun r => (decide (r < n) && !hasB nl fl r) || (decide (r < n0) && decide (∃ b', b' < b ∧ (holeL n0 nl fl).getD b' 0 = r))) (lostZ nl fl F) ∧ Wro (· = wc.heap.size) we wr) (fun i _ => t - (intOf i).toNat)
                        case atStart => exact ⟨0, Nat.zero_le _, rfl, V, HO6.out.congr (fun r hr h => by simp at h ⊢; exact h) (fun _ _ _ _ _ => rfl), Wro.refl _ _⟩
                        case round =>
                          obtain ⟨b, hb, rfl, V, hO, hw6⟩ := hrel
                          have HO : Hid (OutS wc wr wc.heap.size n m V (fun r => (decide (r < n) && !hasB nl fl r) || (decide (r < n0) && decide (∃ b', b' < b ∧ (holeL n0 nl fl).getD b' 0 = r))) (lostZ nl fl F)) := hO
                          have HW6 : Hid (Wro (· = wc.heap.size) we wr) := hw6
                          clear hO hw6
                          by_cases hbt : b < t
                          · obtain ⟨b6, o6, rfl, hc6⟩ := HH6.out b hbt
                            have hne6 : b6 ≠ wc.heap.size := HNE15.out b6 o6 rfl
                            have hc6r := HW6.out.cell hc6 hne6
                            have hhb := hole_at (n0 := n0) (nl := nl) (fl := fl) (b := b) (by rw [HT.out]; exact hbt)
                            obtain ⟨hh, hhe⟩ : ∃ hh, (holeL n0 nl fl).getD b 0 = hh := ⟨_, rfl⟩
                            dsimp only at hc6r
                            rw [hhe] at hc6r hhb
                            have HHE : Hid ((holeL n0 nl fl).getD b 0 = hh) := hhe
                            have hct := HO.out.top.cell (i := hh) (by omega)
                            have hft := HO.out.top.frozen hh
                            have hlt := HO.out.top.lt
                            have hmd := HO.out.made (r := hh) (by omega)
                            have HMD : Hid (OutS wc ((wr.setCell ⟨wc.heap.size, hh, none⟩ (.slice (some ⟨wr.heap.size, 0, none⟩) m m)).alloc (.cells (madeCells #[.int .u8 0] m) 5)) wc.heap.size n m (fun s => if s = hh then .slice (some ⟨wr.heap.size, 0, none⟩) m m else V s) (fun r => (decide (r < n) && !hasB nl fl r) || (decide (r < n0) && decide (∃ b', b' < b + 1 ∧ (holeL n0 nl fl).getD b' 0 = r))) (lostZ nl fl F)) := by
                              have hgn : hasB nl fl hh = true := by
                                have := (PL_at (show b < (PL n0 fun k => hasB nl fl k).length from (by have : (PL n0 fun k => hasB nl fl k).length = t := HT.out; omega))).2
                                have e9 : (PL n0 fun k => hasB nl fl k).getD b 0 = hh := hhe
                                rw [e9] at this
                                exact this
                              refine hmd.congr (fun r hr h => ?_) (fun r hr h i _ => ?_)
                              · by_cases e : r = hh
                                · rw [if_pos e]
                                · rw [if_neg e]
                                  simp at h ⊢
                                  rcases h with h | ⟨h, b', hb', hb''⟩
                                  · exact Or.inl h
                                  · right
                                    refine ⟨h, b', ?_, hb''⟩
                                    rcases Nat.lt_or_ge b' b with l | l
                                    · exact l
                                    · have : b' = b := by omega
                                      rw [this] at hb''
                                      exact absurd (hb''.symm.trans (by simpa using hhe)) e
                              · by_cases e : r = hh
                                · rw [if_pos e, e, lostZ_yes hgn]
                                · rw [if_neg e]
                            have HW7 : Hid (Wro (· = wc.heap.size) we ((wr.setCell ⟨wc.heap.size, hh, none⟩ (.slice (some ⟨wr.heap.size, 0, none⟩) m m)).alloc (.cells (madeCells #[.int .u8 0] m) 5))) := (HW6.out.setCell (p := ⟨wc.heap.size, hh, none⟩) rfl _).then_ext ((Ext.refl _).alloc _ _)
                            clear hmd hc6 hne6 hhe
                            go_wp2_with fail
                            go_roundw
                            case rel => exact ⟨b + 1, by omega, by go_num, _, HMD.out, HW7.out⟩
                            case measure => simp [intOf]; omega
                          · obtain rfl : t = b := by omega
                            have HO7 : Hid (OutS wc wr wc.heap.size n m V (fun r => decide (r < n0) || !hasB nl fl r) (lostZ nl fl F)) := HO.out.congr (fun r hr h => by
                              simp at h ⊢
                              cases hG : hasB nl fl (r : Int)
                              · exact Or.inl ⟨hr, rfl⟩
                              · right
                                have hrn : r < n0 := by
                                  rcases h with h | h
                                  · exact h
                                  · rw [hG] at h; cases h
                                obtain ⟨b', hb1, hb2⟩ := PL_ex (ok := fun k => hasB nl fl (k : Int)) hrn hG
                                refine ⟨hrn, b', ?_, by unfold holeL; simpa using hb2⟩
                                have : (PL n0 fun k => hasB nl fl (k : Int)).length = t := HT.out
                                omega) (fun _ _ _ _ _ => rfl)
                            have keepI : ∀ {v : Value} {l : Nat} {xs : List Value}, we.ownsRow wc.heap.size 3 1 v l xs → wr.ownsRow wc.heap.size 3 1 v l xs := fun {v l xs} hy => own_wro hy HW6.out fun g hg q => own_ne_row hy HO6.out.top (by decide) (by rw [hg, q])
                            have HA15 : Hid (wr.ownsRow wc.heap.size 3 1 (.slice a15 t c15) t ((holeL n0 nl fl).map inV)) := keepI HW15e.out
                            have HA16 : Hid (wr.ownsRow wc.heap.size 3 1 (.slice a16 t c16) t (((PL q fun j => !hasB nl fl ((n0 : Int) + (j : Int))).take t).map inV)) := keepI HW16.out
                            clear keepI HW15e HW16 HO HO6 HW6 HH6 HU16 hmk
                            generalize hw0 : wr = wf at *
                            clear hw0
                            have hmkm := make_rows t (by omega)
                            have hmkv := make_ints t (by omega)
                            go_wp2_with fail
                            go_loopw [22] (fun i wr => ∃ k : Nat, k ≤ m ∧ i = .int .i64 k ∧ ∃ V, OutS wc wr wc.heap.size n m V (fun r => decide (r < n0) || !hasB nl fl r) (fun r x => if x < k then rebZ n0 q nl fl F r x else lostZ nl fl F r x) ∧ wr.ownsRow wc.heap.size 3 1 (.slice a15 t c15) t ((holeL n0 nl fl).map inV) ∧ wr.ownsRow wc.heap.size 3 1 (.slice a16 t c16) t (((PL q fun j => !hasB nl fl ((n0 : Int) + (j : Int))).take t).map inV)) (fun i _ => m - (intOf i).toNat)
                            case atStart => exact ⟨0, Nat.zero_le _, rfl, V, HO7.out.congr (fun _ _ h => h) (fun r _ _ i _ => by rw [if_neg (by omega)]), HA15.out, HA16.out⟩
                            case round =>
                              clear HO7 HA15 HA16
                              obtain ⟨k, hk7, rfl, V, hO, h15, h16⟩ := hrel
                              have HO : Hid (OutS wc wr wc.heap.size n m V (fun r => decide (r < n0) || !hasB nl fl r) (fun r x => if x < k then rebZ n0 q nl fl F r x else lostZ nl fl F r x)) := hO
                              have HA15 : Hid (wr.ownsRow wc.heap.size 3 1 (.slice a15 t c15) t ((holeL n0 nl fl).map inV)) := h15
                              have HA16 : Hid (wr.ownsRow wc.heap.size 3 1 (.slice a16 t c16) t (((PL q fun j => !hasB nl fl ((n0 : Int) + (j : Int))).take t).map inV)) := h16
                              clear hO h15 h16
                              by_cases hkm : k < m ∧ 0 < t
                              · obtain ⟨hkm1, ht0⟩ := hkm
                                have i1 : (k : Int) < (m : Int) := by omega
                                have i2 : (0 : Int) < (t : Int) := by omega
                                generalize hw0 : wr = wk at *
                                clear hw0
                                have HSB : Hid (SBld 23 3 ((wk.alloc (.cells (madeCells #[.slice none 0 0] t) 23)).alloc (.cells (madeCells #[.int .i64 0] t) 3)) ((wk.alloc (.cells (madeCells #[.slice none 0 0] t) 23)).alloc (.cells (madeCells #[.int .i64 0] t) 3)) wk.heap.size (wk.heap.size + 1) t t 0 (fun _ => .slice none 0 0) (fun a b => .int .i64 (ev (wtM (fun b => (holeL n0 nl fl).getD b 0) (fun a => (keptPL n0 q nl fl).getD a 0) a b))) (fun _ => .int .i64 0)) := SBld.start wk t t _ _ _ _
                                have HX2 : Hid (Ext wk ((wk.alloc (.cells (madeCells #[.slice none 0 0] t) 23)).alloc (.cells (madeCells #[.int .i64 0] t) 3))) := ((Ext.refl wk).alloc _ _).alloc _ _
                                have hxk : Ext w wk := HXC.out.trans HO.out.ext
                                have HKL : Hid (t ≤ (keptPL n0 q nl fl).length) := by show t ≤ _; omega
                                have HU : Hid (Ints wk a16 t fun i => (((keptPL n0 q nl fl).getD i 0 : Nat) : Int)) := by
                                  have h9 := own_placesT (by rw [List.length_take]; have : (PL q fun j => !hasB nl fl ((n0 : Int) + (j : Int))).length = (keptPL n0 q nl fl).length := rfl; omega) HA16.out
                                  intro i hi
                                  obtain ⟨b, o, e1, e2⟩ := h9 i hi
                                  dsimp only at e2
                                  rw [take_getD hi] at e2
                                  exact ⟨b, o, e1, e2⟩
                                have HHO : Hid (Ints wk a15 t fun i => (((holeL n0 nl fl).getD i 0 : Nat) : Int)) := own_placesT HT.out HA15.out
                                obtain ⟨b16, o16, e16, _⟩ := HU.out 0 ht0
                                obtain ⟨⟨bal, oal, eal, _⟩, _⟩ := HH.out 0 (by omega)
                                subst e16 eal
                                go_wp2_with fail
                                go_loopw [187, 27] (fun i _ wr => ∃ a : Nat, a ≤ t ∧ i = .int .i64 a ∧ ∃ V X, SBld 23 3 ((wk.alloc (.cells (madeCells #[.slice none 0 0] t) 23)).alloc (.cells (madeCells #[.int .i64 0] t) 3)) wr wk.heap.size (wk.heap.size + 1) t t a V (fun a b => .int .i64 (ev (wtM (fun b => (holeL n0 nl fl).getD b 0) (fun a => (keptPL n0 q nl fl).getD a 0) a b))) X ∧ Hid (∀ r, r < t → X r = .int .i64 (if r < a then ev (missE n0 (fun a => (keptPL n0 q nl fl).getD a 0) (lostZ nl fl F) r k) else 0))) (fun i _ _ => t - (intOf i).toNat)
                                case atStart => exact ⟨0, Nat.zero_le _, rfl, _, _, HSB.out, fun r _ => by rw [if_neg (by omega)]⟩
                                case round =>
                                  clear HSB
                                  obtain ⟨x8, hx8, rfl, V8, X8, hsb, hX8⟩ := hrel
                                  have HS : Hid (SBld 23 3 ((wk.alloc (.cells (madeCells #[.slice none 0 0] t) 23)).alloc (.cells (madeCells #[.int .i64 0] t) 3)) wr wk.heap.size (wk.heap.size + 1) t t x8 V8 (fun a b => .int .i64 (ev (wtM (fun b => (holeL n0 nl fl).getD b 0) (fun a => (keptPL n0 q nl fl).getD a 0) a b))) X8) := hsb
                                  have HXV : Hid (∀ r, r < t → X8 r = .int .i64 (if r < x8 then ev (missE n0 (fun a => (keptPL n0 q nl fl).getD a 0) (lostZ nl fl F) r k) else 0)) := hX8
                                  have hxr : Ext wk wr := Wro.after HX2.out hsb.wro (fun i hi => by rcases hi with e | e <;> omega)
                                  have hxw : Ext w wr := hxk.trans hxr
                                  clear hsb hX8
                                  by_cases hat : x8 < t
                                  · obtain ⟨b8, o8, e8, hc8⟩ := (HU.out.ext hxr) x8 hat
                                    cases e8
                                    have hjj := keptP_at (n0 := n0) (p := q) (nl := nl) (fl := fl) (b := x8) (by have := HKL.out; omega)
                                    have hgj : hasB nl fl ((n0 : Int) + ((keptPL n0 q nl fl).getD x8 0 : Nat)) = false := by
                                      have h9 : (!hasB nl fl ((n0 : Int) + (((keptPL n0 q nl fl).getD x8 0 : Nat) : Int))) = true := (PL_at (n := q) (ok := fun j => !hasB nl fl ((n0 : Int) + (j : Int))) (i := x8) (by have := HKL.out; exact (by omega : x8 < (keptPL n0 q nl fl).length))).2
                                      rw [Bool.not_eq_true'] at h9
                                      exact h9
                                    obtain ⟨jj, hje⟩ : ∃ jj, (keptPL n0 q nl fl).getD x8 0 = jj := ⟨_, rfl⟩
                                    dsimp only at hc8
                                    rw [hje] at hc8 hjj hgj
                                    have HJE : Hid ((keptPL n0 q nl fl).getD x8 0 = jj) := hje
                                    obtain ⟨⟨b9, o9, e9, hca⟩, hcola⟩ := (HH.out.ext hxw) (n0 + jj) (by omega)
                                    cases e9
                                    have hLj := HM.out (n0 + jj) (by omega) (by rw [Int.natCast_add]; exact hgj)
                                    rw [hLj] at hca hcola
                                    obtain ⟨ba, oa, hAa, hcb⟩ := hcola k hkm1
                                    rw [hAa] at hca
                                    have hvc := HS.out.vec.cell hat
                                    have hvf := HS.out.vec.frozen x8
                                    have hvl := HS.out.vec.lt
                                    have HRN : Hid (runE n0 jj (lostZ nl fl F) k 0 = F (n0 + jj) k) := by
                                      show _ = _
                                      rw [runE_zero, lostZ_no (by rw [Int.natCast_add]; exact hgj)]
                                    have HS8 : Hid (SBld 23 3 ((wk.alloc (.cells (madeCells #[.slice none 0 0] t) 23)).alloc (.cells (madeCells #[.int .i64 0] t) 3)) (wr.setCell ⟨wk.heap.size + 1, x8, none⟩ (.int .i64 (ev (F (n0 + jj) k)))) wk.heap.size (wk.heap.size + 1) t t x8 V8 (fun a b => .int .i64 (ev (wtM (fun b => (holeL n0 nl fl).getD b 0) (fun a => (keptPL n0 q nl fl).getD a 0) a b))) (fun i => if i = x8 then .int .i64 (ev (F (n0 + jj) k)) else X8 i)) := HS.out.setV x8 _
                                    have hxj : Ext wk (wr.setCell ⟨wk.heap.size + 1, x8, none⟩ (.int .i64 (ev (F (n0 + jj) k)))) := hxr.setCell (p := ⟨wk.heap.size + 1, x8, none⟩) (by show wk.heap.size ≤ wk.heap.size + 1; omega) _
                                    have hbd := ev_bd (F (n0 + jj) k)
                                    have hwr : wrap64 (ev (F (n0 + jj) k)) = ev (F (n0 + jj) k) := by unfold wrap64; omega
                                    clear hje hAa hcola hLj
                                    go_wp2_with fail
                                    clear HS hvc hvf hvl hc8 hca hcb hwr hbd hxw hgj
                                    generalize hw8 : wr.setCell ⟨wk.heap.size + 1, x8, none⟩ (.int .i64 (ev (F (n0 + jj) k))) = wj at *
                                    clear hw8 hxr
                                    go_loopw [27] (fun i wr => ∃ y : Nat, y ≤ n0 ∧ i = .int .i64 y ∧ ∃ v, SInn 23 3 wj wr wk.heap.size (wk.heap.size + 1) t x8 (PL y fun k => hasB nl fl k).length V8 v (fun b => .int .i64 (ev (wtM (fun b => (holeL n0 nl fl).getD b 0) (fun a => (keptPL n0 q nl fl).getD a 0) x8 b))) (fun r => if r = x8 then .int .i64 (ev (runE n0 jj (lostZ nl fl F) k y)) else X8 r)) (fun i _ => n0 - (intOf i).toNat)
                                    case atStart => exact ⟨0, Nat.zero_le _, rfl, _, by rw [HRN.out]; exact SInn.start HS8.out hat _⟩
                                    case round =>
                                      obtain ⟨y, hy, rfl, v, hin⟩ := hrel
                                      have HIN : Hid (SInn 23 3 wj wr wk.heap.size (wk.heap.size + 1) t x8 (PL y fun k => hasB nl fl k).length V8 v (fun b => .int .i64 (ev (wtM (fun b => (holeL n0 nl fl).getD b 0) (fun a => (keptPL n0 q nl fl).getD a 0) x8 b))) (fun r => if r = x8 then .int .i64 (ev (runE n0 jj (lostZ nl fl F) k y)) else X8 r)) := hin
                                      have hx9 : Ext wk wr := Wro.after hxj hin.wro (fun i hi => by rcases hi with e | e <;> omega)
                                      clear hin
                                      by_cases hyn : y < n0
                                      · go_wp2_with fail
                                        refine (hasInt_any a15 t c15 _ y _ (by omega) (HHO.out.ext hx9)).mono ?_
                                        rintro e w2 ⟨rfl, rfl⟩
                                        rw [hole_has HT.out hyn]
                                        cases hG : hasB nl fl (y : Int)
                                        · have hvc := HIN.out.vec.cell hat
                                          rw [if_pos rfl] at hvc
                                          have hvf := HIN.out.vec.frozen x8
                                          have hxw2 := hxk.trans hx9
                                          obtain ⟨⟨b9, o9, e9, hca⟩, hcola⟩ := (HH.out.ext hxw2) y (by omega)
                                          cases e9
                                          rw [HM.out y (by omega) hG] at hca hcola
                                          obtain ⟨ba, oa, hAa, hcb⟩ := hcola k hkm1
                                          rw [hAa] at hca
                                          have HVC : Hid (w2.cell? ⟨wk.heap.size + 1, x8, none⟩ = some (.int .i64 (ev (runE n0 jj (lostZ nl fl F) k y)))) := hvc
                                          have gvc := fun z : Gr w2 => z.ext.keeps HVC.out
                                          have gca := fun z : Gr w2 => z.ext.keeps hca
                                          have gcb := fun z : Gr w2 => z.ext.keeps hcb
                                          have hxor := xor_ev (runE n0 jj (lostZ nl fl F) k y) (mu (wt y jj) (F y k))
                                          have hbd := ev_bd (F y k)
                                          have HRE : Hid (ad (runE n0 jj (lostZ nl fl F) k y) (mu (wt y jj) (F y k)) = runE n0 jj (lostZ nl fl F) k (y + 1)) := by
                                            show _ = _
                                            rw [runE_next, lostZ_no hG, show wt y jj = wt jj y by unfold wt; rw [Nat.mul_comm]]
                                          have HPN : Hid ((PL (y + 1) fun k => hasB nl fl k).length = (PL y fun k => hasB nl fl k).length) := by
                                            show _ = _
                                            rw [PL_next, if_neg (by simp [hG])]
                                          have hmb := mul_bd (j := y) (i := jj) (by omega) (by omega)
                                          obtain ⟨hb1, hb2⟩ := hmb
                                          clear hcb hca hcola hvc hvf hAa hG
                                          go_wp2_with fail
                                          refine wp_region_grows 18 (by kernel_rfl) (by kernel_rfl) (fun hne => ?_)
                                          simp only [List.take_succ_cons, List.take_zero, List.drop_succ_cons, List.drop_zero]
                                          repeat (go_big_quiet_step (first | (go_at_call 34; exact Calls.grown (expOf_wtG y jj _ (by omega) (by omega))) | (go_at_call 35; exact Calls.grown (mulOf_evG (wt y jj) (F y k) _))))
                                          refine wpQuiet_nil ?_
                                          intro w4 hw4
                                          obtain ⟨z, rfl⟩ := hw4
                                          have hvc := gvc z
                                          have hvf := (z.ext.rowIs HIN.out.vec).frozen x8
                                          clear gvc gca gcb
                                          go_wp2_with fail
                                          have HN : Hid (SInn 23 3 wj (z.w'.setCell ⟨wk.heap.size + 1, x8, none⟩ (.int .i64 (ev (runE n0 jj (lostZ nl fl F) k (y + 1))))) wk.heap.size (wk.heap.size + 1) t x8 (PL (y + 1) fun k => hasB nl fl k).length V8 v (fun b => .int .i64 (ev (wtM (fun b => (holeL n0 nl fl).getD b 0) (fun a => (keptPL n0 q nl fl).getD a 0) x8 b))) (fun r => if r = x8 then .int .i64 (ev (runE n0 jj (lostZ nl fl F) k (y + 1))) else X8 r)) := by
                                            rw [HPN.out]
                                            have h9 := (HIN.out.grow z.ext).setV x8 (.int .i64 (ev (runE n0 jj (lostZ nl fl F) k (y + 1))))
                                            rw [show (fun i => if i = x8 then Value.int .i64 (ev (runE n0 jj (lostZ nl fl F) k (y + 1))) else (fun r => if r = x8 then Value.int .i64 (ev (runE n0 jj (lostZ nl fl F) k y)) else X8 r) i) = (fun r => if r = x8 then Value.int .i64 (ev (runE n0 jj (lostZ nl fl F) k (y + 1))) else X8 r) from funext fun i => by dsimp only; split <;> rfl] at h9
                                            exact h9
                                          go_roundw
                                          case rel =>
                                            have hre := HRE.out
                                            refine ⟨y + 1, by omega, by go_num, v, ?_⟩
                                            rw [hre]
                                            exact HN.out
                                          case measure => simp [intOf]; omega
                                        · obtain ⟨cb, hcbe⟩ : ∃ cb, (PL y fun k => hasB nl fl k).length = cb := ⟨_, rfl⟩
                                          rw [hcbe] at HIN
                                          have hix := PL_ix (g := fun k => hasB nl fl (k : Int)) hyn hG
                                          have HUE : Hid (wtM (fun b => (holeL n0 nl fl).getD b 0) (fun a => (keptPL n0 q nl fl).getD a 0) x8 cb = wt y jj) := by
                                            show wt ((keptPL n0 q nl fl).getD x8 0) ((holeL n0 nl fl).getD cb 0) = wt y jj
                                            rw [HJE.out, ← hcbe, show (holeL n0 nl fl).getD (PL y fun k => hasB nl fl k).length 0 = y from hix.2]
                                            unfold wt; rw [Nat.mul_comm]
                                          have HPN : Hid ((PL (y + 1) fun k => hasB nl fl k).length = cb + 1) := by
                                            show _ = _
                                            rw [PL_next, if_pos hG, List.length_append, hcbe]; rfl
                                          have HRE : Hid (runE n0 jj (lostZ nl fl F) k (y + 1) = runE n0 jj (lostZ nl fl F) k y) := runE_hole (lostZ_yes hG k)
                                          have hcbt : cb < t := by have h1 := hix.1; have h2 : (PL n0 fun k => hasB nl fl k).length = t := HT.out; omega
                                          clear hix hG hcbe
                                          have hct := HIN.out.top.cell hat
                                          rw [if_pos rfl] at hct
                                          have HC : Hid (∀ w', Calls Try.prog 34 #[.int .i64 ((y : Int) * (jj : Int))] w' fun e w'' => e = .returned (.int .i64 (ev (wt y jj))) ∧ Ext w' w'') := fun w' => expOf_wtG y jj w' (by omega) (by omega)
                                          have HKP : Hid (∀ w', Ext w2 w' → w'.cell? ⟨wk.heap.size, x8, none⟩ = some v) := fun w' x => x.keeps hct
                                          have HOW : Hid (∀ w', Ext w2 w' → (w'.alloc (.cells #[.int .i64 (ev (wt y jj))] 3)).ownsRow wj.heap.size 3 1 v cb ((List.range cb).map (fun b => .int .i64 (ev (wtM (fun b => (holeL n0 nl fl).getD b 0) (fun a => (keptPL n0 q nl fl).getD a 0) x8 b))))) := fun w' x => own_ext HIN.out.cur (x.alloc _ _)
                                          have HNX : Hid (∀ w' w'' v', Ext w2 w' → w''.ownsRow wj.heap.size 3 1 v' (cb + 1) ((List.range cb).map (fun b => .int .i64 (ev (wtM (fun b => (holeL n0 nl fl).getD b 0) (fun a => (keptPL n0 q nl fl).getD a 0) x8 b))) ++ [.int .i64 (ev (wt y jj))]) → (w'.alloc (.cells #[.int .i64 (ev (wt y jj))] 3)).grownBy w'' v.ownBlock →
                                              SInn 23 3 wj (w''.setCell ⟨wk.heap.size, x8, none⟩ v') wk.heap.size (wk.heap.size + 1) t x8 (PL (y + 1) fun k => hasB nl fl k).length V8 v' (fun b => .int .i64 (ev (wtM (fun b => (holeL n0 nl fl).getD b 0) (fun a => (keptPL n0 q nl fl).getD a 0) x8 b))) (fun r => if r = x8 then .int .i64 (ev (runE n0 jj (lostZ nl fl F) k (y + 1))) else X8 r) ∧ w''.cell? ⟨wk.heap.size, x8, none⟩ = some v ∧ w''.frozen? ⟨wk.heap.size, x8, none⟩ = false) := fun w' w'' v' x own g => by
                                            rw [← HUE.out] at own g
                                            rw [HPN.out, HRE.out]
                                            obtain ⟨h1, h2⟩ := HIN.out.next (x.alloc _ _) own g
                                            refine ⟨h1, ?_, h2.frozen x8⟩
                                            rw [h2.cell hat, if_pos rfl]
                                          have HSZ : Hid (∀ w', Ext w2 w' → wj.heap.size ≤ (w'.alloc (.cells #[.int .i64 (ev (wt y jj))] 3)).heap.size) := fun w' x => by
                                            have h1 := HIN.out.wro.size
                                            have h2 := x.size
                                            simp; omega
                                          have HNW : Hid (∀ (w' : World) j' u, [Value.int .i64 (ev (wt y jj))][j']? = some u → (w'.alloc (.cells #[.int .i64 (ev (wt y jj))] 3)).cell? ((⟨w'.heap.size, 0, none⟩ : Addr).add j') = some u) := by
                                            intro w' j' y' hj'
                                            match j', hj' with
                                            | 0, hj' => cases hj'; simp [Addr.add]
                                          have HONE : Hid (∀ u ∈ [Value.int .i64 (ev (wt y jj))], u.oneCell' = true) := by
                                            intro y' hy'; simp at hy'; subst hy'; rfl
                                          obtain ⟨i0, hi0, hz0, hz1, hz2⟩ := info_parts infoInt
                                          have HI0 : Hid (Try.prog.info? 3 = some i0 ∧ i0.zero = some (.int .i64 0) ∧ i0.size = 1 ∧ i0.bytes = 8) := ⟨hi0, hz0, hz1, hz2⟩
                                          clear hi0 hz0 hz1 hz2
                                          have HFN : Hid ((Try.f34.name == "runtime.NumGoroutine") = false ∧ Try.f34.body.isNone = false) := ⟨by kernel_rfl, by kernel_rfl⟩
                                          have hqb : cb + 1 ≤ maxLen := by unfold maxLen; omega
                                          have hmb := mul_bd (j := y) (i := jj) (by omega) (by omega)
                                          obtain ⟨hb1, hb2⟩ := hmb
                                          have hw1 : IntKind.i64.wrap ((y : Int) * (jj : Int)) = (y : Int) * (jj : Int) := by rw [IntKind.wrap_i64]; omega
                                          go_wp2_with fail
                                          go_region_law (first
                                            | (refine step_call (by rfl) 34 Try.func34 HFN.out.1 HFN.out.2 [.tmp 221] _ (by rfl) [.int .i64 ((y : Int) * (jj : Int))] (by simp [Act.eval, Act.put]) (.int .i64 (ev (wt y jj))) (fun w'' => Ext w2.drew w'') (HC.out w2.drew) ?_; intro w3 hx3; have hx4 : Ext w2 w3 := (Ext.refl w2).drew.trans hx3; have hc2 := HKP.out w3 hx4; have hc3 := HKP.out (w3.alloc (.cells #[.int .i64 (ev (wt y jj))] 3)) (hx4.alloc _ _))
                                            | (refine step_append_lies _ (by rfl) (.tmp 218) (.tmp 223) 23 (by rfl) wj.heap.size 3 i0 (.int .i64 0) 1 8 Try.underlying23 HI0.out.1 HI0.out.2.1 HI0.out.2.2.1 HI0.out.2.2.2 (by rfl) (by omega) v cb ((List.range cb).map (fun b => .int .i64 (ev (wtM (fun b => (holeL n0 nl fl).getD b 0) (fun a => (keptPL n0 q nl fl).getD a 0) x8 b)))) (by simp [Act.eval]) (HOW.out w3 hx4) ⟨w3.heap.size, 0, none⟩ 1 1 [.int .i64 (ev (wt y jj))] (by simp [Act.eval]) (by rfl) (HNW.out w3) HONE.out (by omega) hqb (by omega) (HSZ.out w3 hx4) (w3.heap.size + 1) (by simp) ?_; intro g cap w5 hown5 hgrow5 hat5 hlt5; have hnx := HNX.out w3 w5 _ hx4 hown5 hgrow5; obtain ⟨hn1, hn2, hn3⟩ := hnx))
                                          all_goals
                                            have HN1 : Hid (SInn 23 3 wj (w5.setCell ⟨wk.heap.size, x8, none⟩ (.slice (some ⟨g, 0, none⟩) (cb + 1) cap)) wk.heap.size (wk.heap.size + 1) t x8 (PL (y + 1) fun k => hasB nl fl k).length V8 (.slice (some ⟨g, 0, none⟩) (cb + 1) cap) (fun b => .int .i64 (ev (wtM (fun b => (holeL n0 nl fl).getD b 0) (fun a => (keptPL n0 q nl fl).getD a 0) x8 b))) (fun r => if r = x8 then .int .i64 (ev (runE n0 jj (lostZ nl fl F) k (y + 1))) else X8 r)) := hn1
                                            clear hown5 hgrow5 hat5 hlt5 hn1
                                            go_wp2_with fail
                                            go_roundw
                                            case rel => exact ⟨y + 1, by omega, by go_num, _, HN1.out⟩
                                            case measure => simp [intOf]; omega
                                      · obtain rfl : n0 = y := by omega
                                        have HLN : Hid ((PL n0 fun k => hasB nl fl k).length = t) := HT.out
                                        rw [HLN.out] at HIN
                                        have HS9 := HIN.out.done HS8.out
                                        have HS10 : Hid (∃ V X, SBld 23 3 ((wk.alloc (.cells (madeCells #[.slice none 0 0] t) 23)).alloc (.cells (madeCells #[.int .i64 0] t) 3)) wr wk.heap.size (wk.heap.size + 1) t t (x8 + 1) V (fun a b => .int .i64 (ev (wtM (fun b => (holeL n0 nl fl).getD b 0) (fun a => (keptPL n0 q nl fl).getD a 0) a b))) X ∧ Hid (∀ r, r < t → X r = .int .i64 (if r < x8 + 1 then ev (missE n0 (fun a => (keptPL n0 q nl fl).getD a 0) (lostZ nl fl F) r k) else 0))) := by
                                          refine ⟨_, _, HS9, fun r hr => ?_⟩
                                          by_cases e : r = x8
                                          · subst e
                                            rw [if_pos rfl, if_pos (by omega), ← runE_done, HJE.out]
                                          · rw [if_neg e, HXV.out r hr]
                                            by_cases e2 : r < x8
                                            · rw [if_pos e2, if_pos (by omega)]
                                            · rw [if_neg e2, if_neg (by omega)]
                                        clear HS9
                                        go_wp2_with fail
                                        go_roundw
                                        case rel => exact ⟨x8 + 1, by omega, by go_num, HS10.out⟩
                                        case measure => simp [intOf]; omega
                                  · obtain rfl : x8 = t := by omega
                                    have hXV2 : ∀ i, i < x8 → X8 i = .int .i64 (ev (missE n0 (fun a => (keptPL n0 q nl fl).getD a 0) (lostZ nl fl F) i k)) := fun i hi => by rw [HXV.out i hi, if_pos hi]
                                    obtain ⟨⟨Am, Cm, hmat, hVm⟩, hvec⟩ := HS.out.mat (x := fun a => missE n0 (fun a => (keptPL n0 q nl fl).getD a 0) (lostZ nl fl F) a k) hXV2
                                    have HMAT : Hid (Mat wr (some ⟨wk.heap.size, 0, none⟩) x8 Am (fun _ => x8) Cm (fun r i => ev (wtM (fun b => (holeL n0 nl fl).getD b 0) (fun a => (keptPL n0 q nl fl).getD a 0) r i))) := hmat
                                    have HVEC : Hid (Ints wr (some ⟨wk.heap.size + 1, 0, none⟩) x8 (fun i => ev (missE n0 (fun a => (keptPL n0 q nl fl).getD a 0) (lostZ nl fl F) i k))) := hvec
                                    have HCAP : Hid (∀ r, r < x8 → x8 ≤ Cm r) := fun r hr => (own_cap (HS.out.row r hr) (hVm r hr)).1
                                    have HRK : Hid ((redTo x8 (wtM (fun b => (holeL n0 nl fl).getD b 0) (fun a => (keptPL n0 q nl fl).getD a 0)) x8).2 = x8) := by
                                      refine rank_lost _ _ (by omega) (fun b hb => ?_) (fun a b hab hb => PL_lt hab (by have : (PL n0 fun k => hasB nl fl (k : Int)).length = x8 := HT.out; omega)) (fun b hb => ?_) (fun a b hab hb => PL_lt hab (by have h1 := HKL.out; have h2 : (keptPL n0 q nl fl).length = (PL q fun j => !hasB nl fl ((n0 : Int) + (j : Int))).length := rfl; omega))
                                      · have := hole_at (n0 := n0) (nl := nl) (fl := fl) (b := b) (by have := HT.out; omega); omega
                                      · have := keptP_at (n0 := n0) (p := q) (nl := nl) (fl := fl) (b := b) (by have := HKL.out; omega); omega
                                    clear hmat hvec hVm hXV2
                                    go_wp2_with fail
                                    refine (solved_any _ x8 _ Am Cm _ _ _ _ _ (by omega) HMAT.out HCAP.out HVEC.out HRK.out).mono ?_
                                    rintro e ws ⟨⟨bs, cs, rfl, hbs, hsol⟩, hxs⟩
                                    obtain ⟨SV, hSV⟩ : ∃ SV : Nat → E, (fun b => sol x8 (wtM (fun b => (holeL n0 nl fl).getD b 0) (fun a => (keptPL n0 q nl fl).getD a 0)) (fun a => missE n0 (fun a => (keptPL n0 q nl fl).getD a 0) (lostZ nl fl F) a k) b) = SV := ⟨_, rfl⟩
                                    have HSOL : Hid (Ints ws (some ⟨bs, 0, none⟩) x8 (fun i => ev (SV i))) := by
                                      rw [← hSV]; exact hsol
                                    have HSV : Hid (∀ b, b < x8 → SV b = rebZ n0 q nl fl F ((holeL n0 nl fl).getD b 0) k) := fun b hb => by
                                      have hl : (holeL n0 nl fl).length = x8 := HT.out
                                      rw [rebZ_hole (by rw [hl]; exact hb), ← hSV, hl]
                                      exact sol_part _ _ _ _ _ _ _
                                    have hxks : Ext wk ws := hxr.trans hxs
                                    have hbk : wk.heap.size ≤ bs := Nat.le_trans hxr.size hbs
                                    have HO10 : Hid (OutS wc ws wc.heap.size n m V (fun r => decide (r < n0) || !hasB nl fl r) (fun r x => if x < k then rebZ n0 q nl fl F r x else if x = k ∧ r ∈ (holeL n0 nl fl).take 0 then rebZ n0 q nl fl F r x else lostZ nl fl F r x)) := (HO.out.grow hxks).congr (fun _ _ h => h) (fun r _ _ i _ => by
                                      by_cases e : i < k
                                      · rw [if_pos e, if_pos e]
                                      · rw [if_neg e, if_neg e, if_neg (by simp)])
                                    have HB15 : Hid (ws.ownsRow wc.heap.size 3 1 (.slice a15 x8 c15) x8 ((holeL n0 nl fl).map inV)) := own_ext HA15.out hxks
                                    have HB16 : Hid (ws.ownsRow wc.heap.size 3 1 (.slice (some ⟨b16, o16, none⟩) x8 c16) x8 (((PL q fun j => !hasB nl fl ((n0 : Int) + (j : Int))).take x8).map inV)) := own_ext HA16.out hxks
                                    have HOK : Hid (OutS wc wk wc.heap.size n m V (fun r => decide (r < n0) || !hasB nl fl r) (fun r x => if x < k then rebZ n0 q nl fl F r x else lostZ nl fl F r x)) := HO.out
                                    clear hSV hsol HO HA15 HA16 HMAT HVEC HCAP HRK HS HXV hxs
                                    go_wp2_with fail
                                    go_loopw [250] (fun i wr => ∃ b : Nat, b ≤ x8 ∧ i = .int .i64 b ∧ Wro (fun g => g < wk.heap.size) ws wr ∧ OutS wc wr wc.heap.size n m V (fun r => decide (r < n0) || !hasB nl fl r) (fun r x => if x < k then rebZ n0 q nl fl F r x else if x = k ∧ r ∈ (holeL n0 nl fl).take b then rebZ n0 q nl fl F r x else lostZ nl fl F r x) ∧ wr.ownsRow wc.heap.size 3 1 (.slice a15 x8 c15) x8 ((holeL n0 nl fl).map inV) ∧ wr.ownsRow wc.heap.size 3 1 (.slice (some ⟨b16, o16, none⟩) x8 c16) x8 (((PL q fun j => !hasB nl fl ((n0 : Int) + (j : Int))).take x8).map inV)) (fun i _ => x8 - (intOf i).toNat)
                                    case atStart => exact ⟨0, Nat.zero_le _, rfl, Wro.refl _ _, HO10.out, HB15.out, HB16.out⟩
                                    case round =>
                                      clear HO10 HB15 HB16
                                      obtain ⟨b, hb, rfl, hwb, hOb, h15, h16⟩ := hrel
                                      have HOB : Hid (OutS wc wr wc.heap.size n m V (fun r => decide (r < n0) || !hasB nl fl r) (fun r x => if x < k then rebZ n0 q nl fl F r x else if x = k ∧ r ∈ (holeL n0 nl fl).take b then rebZ n0 q nl fl F r x else lostZ nl fl F r x)) := hOb
                                      have H15 : Hid (wr.ownsRow wc.heap.size 3 1 (.slice a15 x8 c15) x8 ((holeL n0 nl fl).map inV)) := h15
                                      have H16 : Hid (wr.ownsRow wc.heap.size 3 1 (.slice (some ⟨b16, o16, none⟩) x8 c16) x8 (((PL q fun j => !hasB nl fl ((n0 : Int) + (j : Int))).take x8).map inV)) := h16
                                      have HWB : Hid (Wro (fun g => g < wk.heap.size) ws wr) := hwb
                                      clear hOb h15 h16 hwb
                                      by_cases hbt : b < x8
                                      · have hsb := (HSOL.out b hbt)
                                        obtain ⟨bs', os', es, hcs⟩ := hsb
                                        cases es
                                        have hcs' := HWB.out.cell hcs (by show ¬ bs < wk.heap.size; omega)
                                        rw [Nat.zero_add] at hcs'
                                        have hI15 := own_placesT HT.out H15.out
                                        obtain ⟨bh, oh, eh, hch⟩ := hI15 b hbt
                                        have hhb := hole_at (n0 := n0) (nl := nl) (fl := fl) (b := b) (by rw [HT.out]; exact hbt)
                                        obtain ⟨hh, hhe⟩ : ∃ hh, (holeL n0 nl fl).getD b 0 = hh := ⟨_, rfl⟩
                                        dsimp only at hch
                                        rw [hhe] at hch hhb
                                        have HHE : Hid ((holeL n0 nl fl).getD b 0 = hh) := hhe
                                        have hct := HOB.out.top.cell (i := hh) (by omega)
                                        obtain ⟨g, cg, hVg, hcg, hfg, hgw, ⟨cur, hcur⟩, hOn⟩ := HOB.out.byte (r := hh) (k := k) (by omega) (by simp; omega) hkm1 (SV b)
                                        rw [hVg] at hct
                                        have hgk : g < wk.heap.size := by
                                          obtain ⟨g2, cg2, hV2, hc2, _⟩ := HOK.out.byte (r := hh) (k := k) (by omega) (by simp; omega) hkm1 (SV b)
                                          rw [hVg] at hV2
                                          cases hV2
                                          exact World.block_lt_of_cell? _ _ hc2
                                        have HON : Hid (OutS wc (wr.setCell ⟨g, k, none⟩ (.int .u8 (ev (SV b)))) wc.heap.size n m V (fun r => decide (r < n0) || !hasB nl fl r) (fun r x => if x < k then rebZ n0 q nl fl F r x else if x = k ∧ r ∈ (holeL n0 nl fl).take (b + 1) then rebZ n0 q nl fl F r x else lostZ nl fl F r x)) := hOn.congr (fun _ _ h => h) (fun r _ _ i _ => by
                                          have htk : r ∈ (holeL n0 nl fl).take (b + 1) ↔ r ∈ (holeL n0 nl fl).take b ∨ r = hh := by
                                            rw [List.take_add_one, List.mem_append]
                                            have : (holeL n0 nl fl)[b]? = some hh := by
                                              have hlt : b < (holeL n0 nl fl).length := by have := HT.out; omega
                                              rw [List.getElem?_eq_getElem hlt]
                                              rw [List.getD_eq_getElem?_getD, List.getElem?_eq_getElem hlt] at hhe
                                              exact congrArg some hhe
                                            rw [this]
                                            simp
                                          by_cases e : r = hh ∧ i = k
                                          · obtain ⟨e1, e2⟩ := e
                                            subst e1 e2
                                            rw [if_pos ⟨rfl, rfl⟩, if_neg (by omega), if_pos ⟨rfl, htk.2 (Or.inr rfl)⟩, HSV.out b hbt, hhe]
                                          · rw [if_neg e]
                                            by_cases e3 : i < k
                                            · rw [if_pos e3, if_pos e3]
                                            · rw [if_neg e3, if_neg e3]
                                              by_cases e4 : i = k ∧ r ∈ (holeL n0 nl fl).take b
                                              · rw [if_pos e4, if_pos ⟨e4.1, htk.2 (Or.inl e4.2)⟩]
                                              · rw [if_neg e4, if_neg]
                                                rintro ⟨q1, q2⟩
                                                rcases htk.1 q2 with q2 | q2
                                                · exact e4 ⟨q1, q2⟩
                                                · exact e ⟨q2, q1⟩)
                                        have hwg : Wro (· = g) wr (wr.setCell ⟨g, k, none⟩ (.int .u8 (ev (SV b)))) := (Wro.refl (· = g) wr).setCell (p := ⟨g, k, none⟩) rfl _
                                        have keepI : ∀ {v : Value} {l : Nat} {xs : List Value}, wr.ownsRow wc.heap.size 3 1 v l xs → (wr.setCell ⟨g, k, none⟩ (.int .u8 (ev (SV b)))).ownsRow wc.heap.size 3 1 v l xs := fun {v l xs} hy => own_wro hy hwg fun g' hg' e => by
                                          obtain ⟨cur', hc'⟩ := own_block hy hg'
                                          have e' : g' = g := e
                                          rw [e', hcur] at hc'
                                          cases hc'
                                        have HN15 : Hid ((wr.setCell ⟨g, k, none⟩ (.int .u8 (ev (SV b)))).ownsRow wc.heap.size 3 1 (.slice a15 x8 c15) x8 ((holeL n0 nl fl).map inV)) := keepI H15.out
                                        have HN16 : Hid ((wr.setCell ⟨g, k, none⟩ (.int .u8 (ev (SV b)))).ownsRow wc.heap.size 3 1 (.slice (some ⟨b16, o16, none⟩) x8 c16) x8 (((PL q fun j => !hasB nl fl ((n0 : Int) + (j : Int))).take x8).map inV)) := keepI H16.out
                                        have HWN : Hid (Wro (fun g => g < wk.heap.size) ws (wr.setCell ⟨g, k, none⟩ (.int .u8 (ev (SV b))))) := HWB.out.setCell (p := ⟨g, k, none⟩) hgk _
                                        have hbd := ev_bd (SV b)
                                        have hw8 : IntKind.u8.wrap (ev (SV b)) = ev (SV b) := by rw [IntKind.wrap_u8]; omega
                                        have hi1 : (hh : Int) < (n : Int) := by omega
                                        have hi2 : (k : Int) < (m : Int) := by omega
                                        have hi3 : (b : Int) < (x8 : Int) := by omega
                                        clear hcs hI15 hhe hVg hcur hOn hwg keepI hgw
                                        subst eh
                                        go_wp2_with fail
                                        go_roundw
                                        case rel => exact ⟨b + 1, by omega, by go_num, HWN.out, HON.out, HN15.out, HN16.out⟩
                                        case measure => simp [intOf]; omega
                                      · obtain rfl : b = x8 := by omega
                                        have HOE : Hid (OutS wc wr wc.heap.size n m V (fun r => decide (r < n0) || !hasB nl fl r) (fun r x => if x < k + 1 then rebZ n0 q nl fl F r x else lostZ nl fl F r x)) := HOB.out.congr (fun _ _ h => h) (fun r hr _ i _ => by
                                          by_cases e : i < k
                                          · rw [if_pos e, if_pos (by omega)]
                                          · rw [if_neg e]
                                            by_cases e2 : i = k
                                            · rw [if_pos (show i < k + 1 by omega)]
                                              by_cases e3 : r ∈ (holeL n0 nl fl).take b
                                              · rw [if_pos ⟨e2, e3⟩]
                                              · rw [if_neg (fun h => e3 h.2)]
                                                refine (rebZ_keeps ?_ i).symm
                                                by_cases e4 : r < n0
                                                · left
                                                  cases hG : hasB nl fl (r : Int)
                                                  · rfl
                                                  · exfalso
                                                    refine e3 ?_
                                                    rw [List.take_of_length_le (by have := HT.out; omega)]
                                                    exact PL_mem.2 ⟨e4, hG⟩
                                                · exact Or.inr (by omega)
                                            · rw [if_neg (fun h => e2 h.1), if_neg (by omega)])
                                        clear HOB
                                        go_wp2_with fail
                                        go_roundw
                                        case rel => exact ⟨k + 1, by omega, by go_num, V, HOE.out, H15.out, H16.out⟩
                                        case measure => simp [intOf]; omega
                              · have hfin : OutS wc wr wc.heap.size n m V (fun r => decide (r < n0) || !hasB nl fl r) (rebZ n0 q nl fl F) := HO.out.congr (fun _ _ h => h) (fun r _ _ i hi => by
                                  by_cases e : i < k
                                  · rw [if_pos e]
                                  · rw [if_neg e]
                                    have ht0 : (holeL n0 nl fl).length = 0 := by rw [HT.out]; omega
                                    unfold rebZ
                                    rw [ht0]
                                    rfl)
                                have HF7 : Hid (OutS wc wr wc.heap.size n m V (fun r => decide (r < n0) || !hasB nl fl r) (rebZ n0 q nl fl F)) := hfin
                                clear hfin HO
                                have hxg : Ext w wr := HXC.out.trans HF7.out.ext
                                generalize hw0 : wr = wg at *
                                clear hw0
                                obtain ⟨Ao, Co, hco⟩ := HF7.out.cols (n' := n0) (by omega) (fun r hr => by simp [hr])
                                have HCO : Hid (Cols wg (some ⟨wc.heap.size, 0, none⟩) n0 Ao (fun _ => m) Co (rebZ n0 q nl fl F)) := hco
                                have hs70 : ∀ w, (Instr.slice 22 (.slice (some ⟨wc.heap.size, 0, none⟩) n n) none (some (.int .i64 (n0 : Int))) none).run Try.prog w = .ok (.slice (some ⟨wc.heap.size, 0, none⟩) n0 n) w := fun w => by
                                  rw [sub_h (P := Try.prog) Try.underlying22 sizeBs2 (some ⟨wc.heap.size, 0, none⟩) n n n0 (by omega) _ rfl w, subA_some (by omega)]
                                have HEN : Hid (encN n0 (fun _ => m) q = q ∧ encE n0 (fun _ => m) q = 0) := enc_const hnb (by omega) hqb
                                clear hco
                                rcases (show ((k : Int) < (m : Int) ∧ ¬ (0 : Int) < (t : Int)) ∨ ¬ (k : Int) < (m : Int) by omega) with ⟨i1, i2⟩ | i1
                                · clear hkm
                                  go_wp2_with fail
                                  refine (ParEncode_new _ n0 n Ao _ Co _ q _ (by omega) HCO.out).mono ?_
                                  rintro e wp ⟨⟨⟨ap, cp, Ap, Cp, rfl, hps⟩, hnew⟩, hxp⟩
                                  rw [HEN.out.1] at hps
                                  rw [HEN.out.1, HEN.out.2] at *
                                  have HPS : Hid (Cols wp ap q Ap (fun _ => m) Cp (enc n0 (rebZ n0 q nl fl F))) := hps
                                  obtain ⟨bp, op, rfl, hcp⟩ := hps.at (by omega)
                                  have HCP : Hid (∀ r, r < q → wp.cell? ⟨bp, op + r, none⟩ = some (.slice (Ap r) m (Cp r))) := hcp
                                  have HNB : Hid (bp ≠ wc.heap.size) := by
                                    have h1 := hnew _ _ _ _ rfl
                                    have h2 := HF7.out.top.lt
                                    have h3 : wg.heap.size ≤ bp := h1
                                    show _ ≠ _
                                    omega
                                  have HFP : Hid (OutS wc wp wc.heap.size n m V (fun r => decide (r < n0) || !hasB nl fl r) (rebZ n0 q nl fl F)) := HF7.out.grow hxp
                                  have hxgp := hxg.trans hxp
                                  clear hps hcp hnew
                                  go_wp2_with fail
                                  go_loopw [32] (fun i wr => ∃ j : Nat, j ≤ q ∧ i = .int .i64 j ∧ Wro (· = wc.heap.size) wp wr ∧ ∃ V, OutS wc wr wc.heap.size n m V (fun r => decide (r < n0 + j) || !hasB nl fl r) (fun r x => if r < n0 + j then rebD n0 q nl fl F r x else rebZ n0 q nl fl F r x)) (fun i _ => q - (intOf i).toNat)
                                  case atStart =>
                                    refine ⟨0, Nat.zero_le _, rfl, Wro.refl _ _, V, HFP.out.congr (fun r hr h => by simpa using h) (fun r hr h i _ => ?_)⟩
                                    by_cases e : r < n0 + 0
                                    · rw [if_pos e, rebD_is (by omega), if_neg (by omega)]
                                    · rw [if_neg e]
                                  case round =>
                                    obtain ⟨j, hj, rfl, hwj, V2, hO⟩ := hrel
                                    have HOJ : Hid (OutS wc wr wc.heap.size n m V2 (fun r => decide (r < n0 + j) || !hasB nl fl r) (fun r x => if r < n0 + j then rebD n0 q nl fl F r x else rebZ n0 q nl fl F r x)) := hO
                                    have HWJ : Hid (Wro (· = wc.heap.size) wp wr) := hwj
                                    have hxj : Ext w wr := HXC.out.trans hO.ext
                                    clear hO hwj
                                    by_cases hjt : j < q
                                    · go_wp2_with fail
                                      refine (hasInt_any al nl cl fl ((n0 : Int) + (j : Int)) _ (by omega) (HL.out.ext hxj)).mono ?_
                                      rintro e w2 ⟨rfl, rfl⟩
                                      have eNJ : (n0 : Int) + (j : Int) = ((n0 + j : Nat) : Int) := by omega
                                      cases hG : hasB nl fl ((n0 : Int) + (j : Int))
                                      · have HG0 : Hid (hasB nl fl ((n0 + j : Nat) : Int) = false) := by rw [← eNJ]; exact hG
                                        clear eNJ
                                        go_wp2_with fail
                                        go_roundw
                                        case rel =>
                                          refine ⟨j + 1, by omega, by go_num, HWJ.out, V2, HOJ.out.congr (fun r hr h => ?_) (fun r hr h i _ => ?_)⟩
                                          · simp at h ⊢
                                            rcases h with h | h
                                            · by_cases e : r = n0 + j
                                              · right; rw [e]; exact HG0.out
                                              · left; omega
                                            · exact Or.inr h
                                          · by_cases e : r < n0 + j
                                            · rw [if_pos e, if_pos (by omega)]
                                            · rw [if_neg e]
                                              by_cases e2 : r < n0 + (j + 1)
                                              · rw [if_pos e2, rebD_is (by omega), if_neg]
                                                intro hh
                                                have : r = n0 + j := by omega
                                                rw [this, HG0.out] at hh
                                                cases hh.2
                                              · rw [if_neg e2]
                                        case measure => simp [intOf]; omega
                                      · have HG1 : Hid (hasB nl fl ((n0 + j : Nat) : Int) = true) := by rw [← eNJ]; exact hG
                                        clear eNJ
                                        have hcp := HWJ.out.cell (HCP.out j hjt) HNB.out
                                        have hcp2 := ((Ext.refl w2).alloc #[] 5).keeps hcp
                                        have HB4 : Hid (∀ i, i < m → ∃ b o, Ap j = some ⟨b, o, none⟩ ∧ (w2.alloc (.cells #[] 5)).cell? ⟨b, o + i, none⟩ = some (bvs (enc n0 (rebZ n0 q nl fl F) j) i)) := fun i hi => by
                                          obtain ⟨b, o, e1, e2⟩ := HPS.out.col hjt i hi
                                          exact ⟨b, o, e1, ((Ext.refl w2).alloc #[] 5).keeps (HWJ.out.cell e2 (HFP.out.top_ne e2))⟩
                                        have HE4 : Hid ((w2.alloc (.cells #[] 5)).ownsRow w2.heap.size 5 1 (.slice (some ⟨w2.heap.size, 0, none⟩) 0 0) 0 []) := own_empty w2 _ _ (Nat.le_refl _)
                                        have hsz4 : w2.heap.size ≤ (w2.alloc (.cells #[] 5)).heap.size := by simp
                                        have hnj : (n0 : Int) + (j : Int) < (n : Int) := by omega
                                        have hnj2 : ((n0 : Int) + (j : Int)).toNat = n0 + j := by omega
                                        clear hcp
                                        go_wp2_with (first | (at_builtin; refine append_vals (w2.alloc (.cells #[] 5)) rfl (.tmp 289) (.tmp 293) 47 rfl w2.heap.size 5 (.int .u8 0) 1 Try.underlying47 infoByte rfl (.slice (some ⟨w2.heap.size, 0, none⟩) 0 0) 0 [] rfl HE4.out (Ap j) m (Cp j) (bvs (enc n0 (rebZ n0 q nl fl F) j)) rfl HB4.out (fun _ _ => rfl) (by omega) (by omega) hsz4 ?_) | go_in)
                                        intro v5 w5 hown5 hgrow5
                                        have hx5 : Ext w2 w5 := ((Ext.refl w2).alloc _ _).grow hgrow5 fun k hk => by cases hk; exact Nat.le_refl _
                                        obtain ⟨a9, c9, rfl, h9⟩ := own_slice hown5
                                        have hct := (HOJ.out.grow hx5).top.cell (i := n0 + j) (by omega)
                                        have hft := (HOJ.out.grow hx5).top.frozen (n0 + j)
                                        have HN : Hid (∃ V, OutS wc (w5.setCell ⟨wc.heap.size, n0 + j, none⟩ (.slice a9 m c9)) wc.heap.size n m V (fun r => decide (r < n0 + (j + 1)) || !hasB nl fl r) (fun r x => if r < n0 + (j + 1) then rebD n0 q nl fl F r x else rebZ n0 q nl fl F r x)) := by
                                          refine ⟨_, (HOJ.out.put hx5 hown5 (r := n0 + j)).congr (fun r hr h => ?_) (fun r hr h i _ => ?_)⟩
                                          · by_cases e : r = n0 + j
                                            · rw [if_pos e]
                                            · rw [if_neg e]
                                              simp at h ⊢
                                              rcases h with h | h
                                              · left; omega
                                              · exact Or.inr h
                                          · by_cases e : r = n0 + j
                                            · rw [if_pos e, if_pos (by omega), rebD_is (by omega), if_pos ⟨by omega, by rw [e]; exact HG1.out⟩, show r - n0 = j by omega]
                                            · rw [if_neg e]
                                              by_cases e2 : r < n0 + j
                                              · rw [if_pos e2, if_pos (by omega)]
                                              · rw [if_neg e2, if_neg (by omega)]
                                        have HW9 : Hid (Wro (· = wc.heap.size) wp (w5.setCell ⟨wc.heap.size, n0 + j, none⟩ (.slice a9 m c9))) := (HWJ.out.then_ext hx5).setCell (p := ⟨wc.heap.size, n0 + j, none⟩) rfl _
                                        clear hown5 hgrow5 h9 hcp2 hsz4
                                        go_wp2_with fail
                                        go_roundw
                                        case rel =>
                                          obtain ⟨V', h1⟩ := HN.out
                                          exact ⟨j + 1, by omega, by go_num, HW9.out, V', h1⟩
                                        case measure => simp [intOf]; omega
                                    · obtain rfl : q = j := by omega
                                      have HRR : Hid (RebRes wr (.returned (.tuple #[.slice (some ⟨wc.heap.size, 0, none⟩) n n, .int .i64 0])) n L q nl fl F) := by
                                        unfold RebRes
                                        rw [if_pos HRE.out, HSZ.out]
                                        have e1 : n - (q : Int).toNat = n0 := by omega
                                        have e2 : (q : Int).toNat = q := by omega
                                        rw [e1, e2]
                                        obtain ⟨A9, C9, h9⟩ := (HOJ.out.congr (D' := fun r => decide (r < n0 + q) || !hasB nl fl r) (Z' := rebD n0 q nl fl F) (fun _ _ h => h) (fun r hr _ i _ => by rw [if_pos (by omega)])).cols (n' := n) (Nat.le_refl _) (fun r hr => by simp; left; omega)
                                        exact ⟨_, _, _, _, rfl, h9⟩
                                      go_wp2_with fail
                                      go_ret2
                                      exact ⟨HRR.out, hxj⟩
                                · clear hkm
                                  go_wp2_with fail
                                  refine (ParEncode_new _ n0 n Ao _ Co _ q _ (by omega) HCO.out).mono ?_
                                  rintro e wp ⟨⟨⟨ap, cp, Ap, Cp, rfl, hps⟩, hnew⟩, hxp⟩
                                  rw [HEN.out.1] at hps
                                  rw [HEN.out.1, HEN.out.2] at *
                                  have HPS : Hid (Cols wp ap q Ap (fun _ => m) Cp (enc n0 (rebZ n0 q nl fl F))) := hps
                                  obtain ⟨bp, op, rfl, hcp⟩ := hps.at (by omega)
                                  have HCP : Hid (∀ r, r < q → wp.cell? ⟨bp, op + r, none⟩ = some (.slice (Ap r) m (Cp r))) := hcp
                                  have HNB : Hid (bp ≠ wc.heap.size) := by
                                    have h1 := hnew _ _ _ _ rfl
                                    have h2 := HF7.out.top.lt
                                    have h3 : wg.heap.size ≤ bp := h1
                                    show _ ≠ _
                                    omega
                                  have HFP : Hid (OutS wc wp wc.heap.size n m V (fun r => decide (r < n0) || !hasB nl fl r) (rebZ n0 q nl fl F)) := HF7.out.grow hxp
                                  have hxgp := hxg.trans hxp
                                  clear hps hcp hnew
                                  go_wp2_with fail
                                  go_loopw [32] (fun i wr => ∃ j : Nat, j ≤ q ∧ i = .int .i64 j ∧ Wro (· = wc.heap.size) wp wr ∧ ∃ V, OutS wc wr wc.heap.size n m V (fun r => decide (r < n0 + j) || !hasB nl fl r) (fun r x => if r < n0 + j then rebD n0 q nl fl F r x else rebZ n0 q nl fl F r x)) (fun i _ => q - (intOf i).toNat)
                                  case atStart =>
                                    refine ⟨0, Nat.zero_le _, rfl, Wro.refl _ _, V, HFP.out.congr (fun r hr h => by simpa using h) (fun r hr h i _ => ?_)⟩
                                    by_cases e : r < n0 + 0
                                    · rw [if_pos e, rebD_is (by omega), if_neg (by omega)]
                                    · rw [if_neg e]
                                  case round =>
                                    obtain ⟨j, hj, rfl, hwj, V2, hO⟩ := hrel
                                    have HOJ : Hid (OutS wc wr wc.heap.size n m V2 (fun r => decide (r < n0 + j) || !hasB nl fl r) (fun r x => if r < n0 + j then rebD n0 q nl fl F r x else rebZ n0 q nl fl F r x)) := hO
                                    have HWJ : Hid (Wro (· = wc.heap.size) wp wr) := hwj
                                    have hxj : Ext w wr := HXC.out.trans hO.ext
                                    clear hO hwj
                                    by_cases hjt : j < q
                                    · go_wp2_with fail
                                      refine (hasInt_any al nl cl fl ((n0 : Int) + (j : Int)) _ (by omega) (HL.out.ext hxj)).mono ?_
                                      rintro e w2 ⟨rfl, rfl⟩
                                      have eNJ : (n0 : Int) + (j : Int) = ((n0 + j : Nat) : Int) := by omega
                                      cases hG : hasB nl fl ((n0 : Int) + (j : Int))
                                      · have HG0 : Hid (hasB nl fl ((n0 + j : Nat) : Int) = false) := by rw [← eNJ]; exact hG
                                        clear eNJ
                                        go_wp2_with fail
                                        go_roundw
                                        case rel =>
                                          refine ⟨j + 1, by omega, by go_num, HWJ.out, V2, HOJ.out.congr (fun r hr h => ?_) (fun r hr h i _ => ?_)⟩
                                          · simp at h ⊢
                                            rcases h with h | h
                                            · by_cases e : r = n0 + j
                                              · right; rw [e]; exact HG0.out
                                              · left; omega
                                            · exact Or.inr h
                                          · by_cases e : r < n0 + j
                                            · rw [if_pos e, if_pos (by omega)]
                                            · rw [if_neg e]
                                              by_cases e2 : r < n0 + (j + 1)
                                              · rw [if_pos e2, rebD_is (by omega), if_neg]
                                                intro hh
                                                have : r = n0 + j := by omega
                                                rw [this, HG0.out] at hh
                                                cases hh.2
                                              · rw [if_neg e2]
                                        case measure => simp [intOf]; omega
                                      · have HG1 : Hid (hasB nl fl ((n0 + j : Nat) : Int) = true) := by rw [← eNJ]; exact hG
                                        clear eNJ
                                        have hcp := HWJ.out.cell (HCP.out j hjt) HNB.out
                                        have hcp2 := ((Ext.refl w2).alloc #[] 5).keeps hcp
                                        have HB4 : Hid (∀ i, i < m → ∃ b o, Ap j = some ⟨b, o, none⟩ ∧ (w2.alloc (.cells #[] 5)).cell? ⟨b, o + i, none⟩ = some (bvs (enc n0 (rebZ n0 q nl fl F) j) i)) := fun i hi => by
                                          obtain ⟨b, o, e1, e2⟩ := HPS.out.col hjt i hi
                                          exact ⟨b, o, e1, ((Ext.refl w2).alloc #[] 5).keeps (HWJ.out.cell e2 (HFP.out.top_ne e2))⟩
                                        have HE4 : Hid ((w2.alloc (.cells #[] 5)).ownsRow w2.heap.size 5 1 (.slice (some ⟨w2.heap.size, 0, none⟩) 0 0) 0 []) := own_empty w2 _ _ (Nat.le_refl _)
                                        have hsz4 : w2.heap.size ≤ (w2.alloc (.cells #[] 5)).heap.size := by simp
                                        have hnj : (n0 : Int) + (j : Int) < (n : Int) := by omega
                                        have hnj2 : ((n0 : Int) + (j : Int)).toNat = n0 + j := by omega
                                        clear hcp
                                        go_wp2_with (first | (at_builtin; refine append_vals (w2.alloc (.cells #[] 5)) rfl (.tmp 289) (.tmp 293) 47 rfl w2.heap.size 5 (.int .u8 0) 1 Try.underlying47 infoByte rfl (.slice (some ⟨w2.heap.size, 0, none⟩) 0 0) 0 [] rfl HE4.out (Ap j) m (Cp j) (bvs (enc n0 (rebZ n0 q nl fl F) j)) rfl HB4.out (fun _ _ => rfl) (by omega) (by omega) hsz4 ?_) | go_in)
                                        intro v5 w5 hown5 hgrow5
                                        have hx5 : Ext w2 w5 := ((Ext.refl w2).alloc _ _).grow hgrow5 fun k hk => by cases hk; exact Nat.le_refl _
                                        obtain ⟨a9, c9, rfl, h9⟩ := own_slice hown5
                                        have hct := (HOJ.out.grow hx5).top.cell (i := n0 + j) (by omega)
                                        have hft := (HOJ.out.grow hx5).top.frozen (n0 + j)
                                        have HN : Hid (∃ V, OutS wc (w5.setCell ⟨wc.heap.size, n0 + j, none⟩ (.slice a9 m c9)) wc.heap.size n m V (fun r => decide (r < n0 + (j + 1)) || !hasB nl fl r) (fun r x => if r < n0 + (j + 1) then rebD n0 q nl fl F r x else rebZ n0 q nl fl F r x)) := by
                                          refine ⟨_, (HOJ.out.put hx5 hown5 (r := n0 + j)).congr (fun r hr h => ?_) (fun r hr h i _ => ?_)⟩
                                          · by_cases e : r = n0 + j
                                            · rw [if_pos e]
                                            · rw [if_neg e]
                                              simp at h ⊢
                                              rcases h with h | h
                                              · left; omega
                                              · exact Or.inr h
                                          · by_cases e : r = n0 + j
                                            · rw [if_pos e, if_pos (by omega), rebD_is (by omega), if_pos ⟨by omega, by rw [e]; exact HG1.out⟩, show r - n0 = j by omega]
                                            · rw [if_neg e]
                                              by_cases e2 : r < n0 + j
                                              · rw [if_pos e2, if_pos (by omega)]
                                              · rw [if_neg e2, if_neg (by omega)]
                                        have HW9 : Hid (Wro (· = wc.heap.size) wp (w5.setCell ⟨wc.heap.size, n0 + j, none⟩ (.slice a9 m c9))) := (HWJ.out.then_ext hx5).setCell (p := ⟨wc.heap.size, n0 + j, none⟩) rfl _
                                        clear hown5 hgrow5 h9 hcp2 hsz4
                                        go_wp2_with fail
                                        go_roundw
                                        case rel =>
                                          obtain ⟨V', h1⟩ := HN.out
                                          exact ⟨j + 1, by omega, by go_num, HW9.out, V', h1⟩
                                        case measure => simp [intOf]; omega
                                    · obtain rfl : q = j := by omega
                                      have HRR : Hid (RebRes wr (.returned (.tuple #[.slice (some ⟨wc.heap.size, 0, none⟩) n n, .int .i64 0])) n L q nl fl F) := by
                                        unfold RebRes
                                        rw [if_pos HRE.out, HSZ.out]
                                        have e1 : n - (q : Int).toNat = n0 := by omega
                                        have e2 : (q : Int).toNat = q := by omega
                                        rw [e1, e2]
                                        obtain ⟨A9, C9, h9⟩ := (HOJ.out.congr (D' := fun r => decide (r < n0 + q) || !hasB nl fl r) (Z' := rebD n0 q nl fl F) (fun _ _ h => h) (fun r hr _ i _ => by rw [if_pos (by omega)])).cols (n' := n) (Nat.le_refl _) (fun r hr => by simp; left; omega)
                                        exact ⟨_, _, _, _, rfl, h9⟩
                                      go_wp2_with fail
                                      go_ret2
                                      exact ⟨HRR.out, hxj⟩
end Go.Proofs.Ytfdgacpmdlmjnaa
