/-
  span.sift: the ends of some lists of ranges that may be, sorted, and what is between them; in new memory.
-/
import Derived.Test.YtfekiccjcfdmkabChecked
import Derived.WalkKit
import Derived.BigQuiet
import Derived.Test.YtfekiccjcfdmkabSpanMay
import Derived.Test.YtfekiccjcfdmkabSpanSort
import Derived.Test.YtfekiccjcfdmkabSpanBtw
namespace Go.Proofs.Ytfekiccjcfdmkab
open Go.RowKit Go.Deep
theorem infoE : (Try.prog.info? 95).map (fun i => (i.zero, i.size, i.bytes)) = some (some (.agg #[.int .i64 0, .int .i64 0]), 2, 16) := by kernel_rfl
/-- the ends of ranges -/
def ed : List (Int × Int) → List (Int × Int)
  | [] => []
  | r :: l => (r.1, 1) :: (r.2, -1) :: ed l
theorem ed_snoc (L : List (Int × Int)) (r : Int × Int) : ed (L ++ [r]) = ed L ++ [(r.1, 1), (r.2, -1)] := by
  induction L with
  | nil => rfl
  | cons s l ih => simp [ed, ih]
theorem ed_length (L : List (Int × Int)) : (ed L).length = L.length * 2 := by
  induction L with
  | nil => rfl
  | cons s l ih => simp [ed, ih]; omega
theorem ed_psum (L : List (Int × Int)) : psum (ed L) = 0 := by
  induction L with
  | nil => rfl
  | cons s l ih => simp only [ed, psum, ih]; omega
theorem ed_bd (L : List (Int × Int)) (h : ∀ r, r ∈ L → 0 ≤ r.1 ∧ r.1 < r.2 ∧ r.2 ≤ 1048576) : ∀ r, r ∈ ed L → (0 ≤ r.1 ∧ r.1 ≤ 1048576) ∧ -1 ≤ r.2 ∧ r.2 ≤ 1 := by
  induction L with
  | nil => intro r hr; simp [ed] at hr
  | cons s l ih =>
    intro r hr
    have hs := h s (List.mem_cons.2 (Or.inl rfl))
    simp only [ed, List.mem_cons] at hr
    rcases hr with rfl | rfl | hr
    · simp only; omega
    · simp only; omega
    · exact ih (fun t ht => h t (List.mem_cons.2 (Or.inr ht))) r hr
/-- of ranges that do not overlap a number is in one at most -/
theorem ed_cnt (L : List (Int × Int)) (h : Nrm L) (k : Int) : cnt k (ed L) = if memB k L then 1 else 0 := by
  induction L with
  | nil => rfl
  | cons s l ih =>
    simp only [ed, cnt]
    rw [ih h.2.2]
    have h1 := h.1
    cases hm : memB k l with
    | true =>
      obtain ⟨r, hr, h2, h3⟩ := (memB_iff k l).1 hm
      have h4 := h.2.1 r hr
      have e : memB k (s :: l) = true := (memB_iff _ _).2 ((memL_cons _ _ _).2 (Or.inr ⟨r, hr, h2, h3⟩))
      rw [e, if_pos (by omega), if_pos (by omega)]
      simp
    | false =>
      have hn := (memB_false k l).1 hm
      by_cases c1 : s.1 ≤ k
      · by_cases c2 : s.2 ≤ k
        · have e : memB k (s :: l) = false := (memB_false _ _).2 fun q => by
            rcases (memL_cons _ _ _).1 q with q | q
            · omega
            · exact hn q
          rw [e, if_pos c1, if_pos c2]; simp
        · have e : memB k (s :: l) = true := (memB_iff _ _).2 ((memL_cons _ _ _).2 (Or.inl ⟨c1, by omega⟩))
          rw [e, if_pos c1, if_neg c2]; simp
      · have e : memB k (s :: l) = false := (memB_false _ _).2 fun q => by
          rcases (memL_cons _ _ _).1 q with q | q
          · omega
          · exact hn q
        rw [e, if_neg c1, if_neg (by omega)]; simp
/-- those of the first lists -/
def edN (LL : Nat → List (Int × Int)) : Nat → List (Int × Int)
  | 0 => []
  | j + 1 => edN LL j ++ ed (LL j)
theorem edN_bd (LL : Nat → List (Int × Int)) (m : Nat) (h : ∀ j, j < m → ∀ r, r ∈ LL j → 0 ≤ r.1 ∧ r.1 < r.2 ∧ r.2 ≤ 1048576) : psum (edN LL m) = 0 ∧ ∀ r, r ∈ edN LL m → (0 ≤ r.1 ∧ r.1 ≤ 1048576) ∧ -1 ≤ r.2 ∧ r.2 ≤ 1 := by
  induction m with
  | zero => exact ⟨rfl, fun r hr => by simp [edN] at hr⟩
  | succ j ih =>
    obtain ⟨i1, i2⟩ := ih fun q hq => h q (by omega)
    refine ⟨by rw [edN, psum_append, i1, ed_psum]; rfl, fun r hr => ?_⟩
    rw [edN] at hr
    rcases List.mem_append.1 hr with hr | hr
    · exact i2 r hr
    · exact ed_bd _ (h j (by omega)) r hr
/-- a block of ranges -/
def RTag (w : World) (a : Option Addr) : Prop := ∀ b o x, a = some ⟨b, o, x⟩ → ∃ cur, w.heap[b]? = some (.cells cur 58 (0, 0))
theorem RTag.ext {w w' : World} {a : Option Addr} (h : RTag w a) (e : Ext w w') : RTag w' a := fun b o x ha => by
  obtain ⟨cur, hc⟩ := h b o x ha
  exact ⟨cur, (e.below.block b (Array.getElem?_eq_some_iff.1 hc).1).trans hc⟩
theorem own_tag {w : World} {base : Nat} {a : Option Addr} {n c : Nat} {xs : List Value} (h : w.ownsRow base 58 2 (.slice a n c) n xs) : RTag w a := fun b o x ha => by
  subst ha
  exact own_block h rfl
/-- what Add, Cut, Both come to: not of the form; or the one list of the set, if it isn't too long -/
def SetRes (ok : Bool) (P : Int → Prop) (v : Value) (er : Int) (w' : World) : Prop :=
  (ok = false ∧ v = .slice none 0 0 ∧ er = 4) ∨ (ok = true ∧ ∃ L, Nrm L ∧ (∀ k, memL k L ↔ P k) ∧ L.length ≤ 1000000 ∧ ((200 < L.length ∧ v = .slice none 0 0 ∧ er = 8) ∨ (L.length ≤ 200 ∧ er = 0 ∧ ∃ a c, v = .slice a L.length c ∧ Rngs w' a L ∧ RTag w' a)))
def allB (LL : Nat → List (Int × Int)) : Nat → Bool
  | 0 => true
  | j + 1 => allB LL j && mayB (LL j)
theorem allB_false (LL : Nat → List (Int × Int)) {j m : Nat} (hj : j < m) (h : mayB (LL j) = false) : allB LL m = false := by
  induction m with
  | zero => omega
  | succ q ih =>
    by_cases e : j = q
    · subst e; simp [allB, h]
    · simp [allB, ih (by omega)]
theorem allB_true (LL : Nat → List (Int × Int)) {m : Nat} (h : allB LL m = true) : ∀ j, j < m → mayB (LL j) = true := by
  intro j hj
  cases e : mayB (LL j) with
  | true => rfl
  | false => rw [allB_false LL hj e] at h; cases h
theorem quad_news (W : World) (g : Nat) (hg : g = W.heap.size) (a b c d : Int) (t : TypeId) : ∀ (j : Nat) (u : Value), (fl [(a, b), (c, d)])[j]? = some u → (W.alloc (.cells #[.int .i64 a, .int .i64 b, .int .i64 c, .int .i64 d] t)).cell? ⟨g, j, none⟩ = some u := by
  subst hg
  intro j u hj
  rw [new_cell, ← Array.getElem?_toList]
  exact hj
def SiftRes (w : World) (ok : Bool) (P : Int → Prop) (e : Ending) (w' : World) : Prop := ∃ v er, e = .returned (.tuple #[v, .int .i64 er]) ∧ SetRes ok P v er w' ∧ Ext w w'
set_option maxRecDepth 100000 in
set_option maxHeartbeats 1600000 in
theorem sift_any (g : Nat) (wf : Int → Bool) (eg : ∀ args w, (callFunc g args).run Try.prog w = .ok (.enter g args) w) (hw : ∀ x w, Calls Try.prog g #[.int .i64 x] w fun e w' => e = .returned (.bool (wf x)) ∧ w' = w) (h0 : wf 0 = false) (lb m cm : Nat) (A : Nat → Option Addr) (N C : Nat → Nat) (LL : Nat → List (Int × Int)) (w : World) (hm : m ≤ 2)
    (hN : ∀ j, j < m → (LL j).length = N j ∧ N j ≤ 9223372036854775807) (hcell : ∀ j, j < m → w.cell? ⟨lb, j, none⟩ = some (.slice (A j) (N j) (C j))) (hR : ∀ j, j < m → Rngs w (A j) (LL j)) (hB : ∀ j, j < m → Bdd (LL j)) :
    Calls Try.prog 41 #[.func (.func g) #[] #[], .slice (some ⟨lb, 0, none⟩) m cm] w fun e w' => SiftRes w (allB LL m) (fun k => wf (cnt k (edN LL m)) = true) e w' := by
  have HN : Hid (∀ j, j < m → (LL j).length = N j ∧ N j ≤ 9223372036854775807) := hN
  have HC : Hid (∀ j, j < m → w.cell? ⟨lb, j, none⟩ = some (.slice (A j) (N j) (C j))) := hcell
  have HR : Hid (∀ j, j < m → Rngs w (A j) (LL j)) := hR
  have HB : Hid (∀ j, j < m → Bdd (LL j)) := hB
  have HW : Hid (∀ x w, Calls Try.prog g #[.int .i64 x] w fun e w' => e = .returned (.bool (wf x)) ∧ w' = w) := hw
  have H0 : Hid (wf 0 = false) := h0
  have HEG : Hid (∀ args w, (callFunc g args).run Try.prog w = .ok (.enter g args) w) := eg
  clear hN hcell hR hB hw h0 eg
  go_enter Try.func41, Try.ntmps41
  go_wp2_with fail
  go_loopw [6, 14] (fun v i wr => ∃ j : Nat, j ≤ m ∧ i = .int .i64 j ∧ allB LL j = true ∧ Ext w wr ∧ (edN LL j).length ≤ 400 * j ∧ wr.ownsRow w.heap.size 95 2 v (edN LL j).length (fl (edN LL j))) (fun _ i _ => m - (intOf i).toNat)
  case atStart => exact ⟨0, Nat.zero_le _, rfl, rfl, Ext.refl _, Nat.le_refl _, World.ownsRow_nil _ _ _ _⟩
  case round =>
    obtain ⟨j, hj, rfl, hall, hx, hle, hown⟩ := hrel
    have HO : Hid (wr.ownsRow w.heap.size 95 2 u6 (edN LL j).length (fl (edN LL j))) := hown
    have HL : Hid (allB LL j = true) := hall
    clear hown hall
    by_cases hlt : j < m
    · have hcj := hx.keeps (HC.out j hlt)
      have hlen := HN.out j hlt
      have HM := SpMay_any (A j) (N j) (C j) (LL j) wr hlen.1 hlen.2 ((HR.out j hlt).ext hx) (HB.out j hlt)
      have HLn : Hid ((LL j).length = N j) := hlen.1
      have HRj : Hid (∀ w', Ext w w' → Rngs w' (A j) (LL j)) := fun w' q => (HR.out j hlt).ext q
      obtain ⟨aj, haj⟩ : ∃ aj, A j = aj := ⟨_, rfl⟩
      rw [haj] at hcj HM HRj
      clear haj
      have hNb : N j ≤ 9223372036854775807 := hlen.2
      clear hlen
      cases hmb : mayB (LL j) with
      | false =>
        rw [hmb] at HM
        have HF : Hid (allB LL m = false) := allB_false LL hlt hmb
        clear hmb
        go_wp2_with (first | (go_at_call 23; refine HM.mono ?_; rintro e w1 ⟨rfl, hx1⟩))
        go_ret2
        exact ⟨_, _, rfl, Or.inl ⟨HF.out, rfl, rfl⟩, hx.trans hx1⟩
      | true =>
        rw [hmb] at HM
        have HL' : Hid (allB LL (j + 1) = true) := by show _ = _; simp [allB, HL.out, hmb]
        obtain ⟨hm1, _, hm3⟩ := (mayB_iff _).1 hmb
        have HM3 : Hid (∀ r, r ∈ LL j → 0 ≤ r.1 ∧ r.1 < r.2 ∧ r.2 ≤ 1048576) := hm3
        have hN2 : N j ≤ 200 := by rw [← HLn.out]; exact hm1
        clear hm3 hmb hm1
        go_wp2_with (first | (go_at_call 23; refine HM.mono ?_; rintro e w1 ⟨rfl, hx1⟩))
        clear HM hcj
        have HO1 : Hid (w1.ownsRow w.heap.size 95 2 u6 (edN LL j).length (fl (edN LL j))) := own_ext HO.out hx1
        have hxw : Ext w w1 := hx.trans hx1
        clear HO
        go_loopw [6, 23] (fun v i wi => ∃ q : Nat, q ≤ N j ∧ i = .int .i64 q ∧ Ext w wi ∧ wi.ownsRow w.heap.size 95 2 v (edN LL j ++ ed ((LL j).take q)).length (fl (edN LL j ++ ed ((LL j).take q)))) (fun _ i _ => N j - (intOf i).toNat)
        case atStart => exact ⟨0, Nat.zero_le _, rfl, hxw, by simpa [ed] using HO1.out⟩
        case round =>
          obtain ⟨q, hq, rfl, hxi, hown⟩ := hrel
          obtain ⟨D, hD⟩ : ∃ D, edN LL j ++ ed ((LL j).take q) = D := ⟨_, rfl⟩
          rw [hD] at hown
          have HD : Hid (edN LL j ++ ed ((LL j).take q) = D) := hD
          have HOi : Hid (wr.ownsRow w.heap.size 95 2 u6 D.length (fl D)) := hown
          have hbl : D.length ≤ 1000000 := by rw [← hD, List.length_append, ed_length, List.length_take]; omega
          clear hown hD HO1
          by_cases hqt : q < N j
          · obtain ⟨⟨x, y⟩, h1, h2, h3⟩ := drop_at (L := LL j) (k := q) (by rw [HLn.out]; exact hqt)
            obtain ⟨b, o, rfl, hc1, hc2⟩ := (HRj.out _ hxi) q x y h1
            have HE : Hid (edN LL j ++ ed ((LL j).take (q + 1)) = D ++ [(x, 1), (y, -1)]) := by
              show _ = _
              rw [take_at h1, ed_snoc, ← List.append_assoc, HD.out]
            clear h1 h2 h3
            go_wp2_with (first | (at_builtin; refine append_prs _ rfl _ _ 93 rfl w.heap.size 95 (.agg #[.int .i64 0, .int .i64 0]) 16 Try.underlying93 infoE rfl u6 D.length D rfl (own_ext HOi.out (((Ext.refl wr).alloc _ _).alloc _ _)) _ 2 2 [(x, 1), (y, -1)] rfl rfl ?_ (by omega) (by omega) (by omega) ?_ ?_) | go_in)
            · exact quad_news _ _ (by rw [World.size_alloc]) _ _ _ _ _
            · exact ((hxi.alloc _ _).alloc _ _).size
            intro v' w5 hown' hgrow
            have hx5 : Ext w w5 := ((hxi.alloc _ _).alloc _ _).grow hgrow fun q hq => own_geS HOi.out hq
            have HO5 : Hid (w5.ownsRow w.heap.size 95 2 v' (D.length + 2) (fl (D ++ [(x, 1), (y, -1)]))) := hown'
            clear hown' hgrow
            go_wp2_with fail
            go_roundw
            case rel => exact ⟨q + 1, by omega, by go_num, hx5, by rw [HE.out, List.length_append]; exact HO5.out⟩
            case measure => simp [intOf]; omega
          · have HE : Hid (edN LL (j + 1) = D) := by
              show _ = _
              rw [← HD.out, List.take_of_length_le (by rw [HLn.out]; omega)]
              rfl
            have hbl2 : D.length ≤ 400 * (j + 1) := by rw [← HD.out, List.length_append, ed_length, List.length_take]; omega
            go_wp2_with fail
            go_roundw
            case rel => exact ⟨j + 1, by omega, by go_num, HL'.out, hxi, by rw [HE.out]; exact hbl2, by rw [HE.out]; exact HOi.out⟩
            case measure => simp [intOf]; omega
    · have e : j = m := by omega
      subst e
      have hbl : (edN LL j).length ≤ 1000000 := by omega
      have hsort := SortEnds_any w u6 _ (edN LL j) wr hx HO.out (by omega)
      have HD : Hid (psum (edN LL j) = 0 ∧ ∀ r, r ∈ edN LL j → (0 ≤ r.1 ∧ r.1 ≤ 1048576) ∧ -1 ≤ r.2 ∧ r.2 ≤ 1) := edN_bd LL j fun i hi => ((mayB_iff _).1 (allB_true LL HL.out i hi)).2.2
      clear HO HN HC HR HB
      go_wp2_with fail
      refine hsort.mono ?_
      rintro e w2 ⟨rfl, hx2, a2, c2, hv, E, hperm, hasc, hrng⟩
      subst hv
      have HPm : Hid (E.Perm (edN LL j)) := hperm
      have HB2 := between_any g wf HEG.out HW.out H0.out a2 (edN LL j).length c2 E w2 hperm.length_eq hbl hrng hasc (fun r hr => HD.out.2 r (hperm.subset hr)) (by rw [psum_perm hperm]; exact HD.out.1)
      clear hsort hperm hasc hrng
      go_wp2_with fail
      refine HB2.mono ?_
      rintro e w3 ⟨v3, rfl, L, hnrm, hmem, hlL, hown3, hx3⟩
      obtain ⟨_, a3, c3, rfl, hr3⟩ := own_rngs hown3
      have HR3 : Hid (Nrm L ∧ (∀ k, memL k L ↔ wf (cnt k (edN LL j)) = true) ∧ L.length ≤ 1000000 ∧ Rngs w3 a3 L ∧ RTag w3 a3) := ⟨hnrm, fun k => by rw [hmem, cnt_perm k HPm.out], by have := HPm.out.length_eq; omega, hr3, own_tag hown3⟩
      clear HB2 hnrm hmem hlL hown3 hr3
      have hL3 := HR3.out.2.2.1
      by_cases h200 : L.length ≤ 200
      · go_wp2_with fail
        go_ret2
        exact ⟨_, _, rfl, Or.inr ⟨HL.out, L, HR3.out.1, HR3.out.2.1, hL3, Or.inr ⟨h200, rfl, _, _, rfl, HR3.out.2.2.2⟩⟩, hx2.trans hx3⟩
      · go_wp2_with fail
        go_ret2
        exact ⟨_, _, rfl, Or.inr ⟨HL.out, L, HR3.out.1, HR3.out.2.1, hL3, Or.inl ⟨by omega, rfl, rfl⟩⟩, hx2.trans hx3⟩
end Go.Proofs.Ytfekiccjcfdmkab
