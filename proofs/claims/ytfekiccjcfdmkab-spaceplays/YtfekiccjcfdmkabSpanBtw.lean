/-
  span.between: the ranges between sorted ends of which as many sets have the numbers as is wanted; in new memory.
-/
import Derived.Test.YtfekiccjcfdmkabChecked
import Derived.WalkKit
import Derived.BigQuiet
import Derived.Test.YtfekiccjcfdmkabSpanOwn
import Derived.Test.YtfekiccjcfdmkabSpanSweep
import Derived.Test.YtfekiccjcfdmkabQuiets
namespace Go.Proofs.Ytfekiccjcfdmkab
open Go.RowKit Go.Deep
theorem infoR : (Try.prog.info? 58).map (fun i => (i.zero, i.size, i.bytes)) = some (some (.agg #[.int .i64 0, .int .i64 0]), 2, 16) := by kernel_rfl
theorem Ext.drewN {a w : World} (h : Ext a w) (n : Nat) : Ext a (w.drewN n) := by
  exact h.trans ⟨⟨rfl, rfl, rfl, Nat.le_refl _, fun _ _ => rfl⟩⟩
theorem own_geS {w : World} {base : Nat} {e : TypeId} {size : Nat} {v : Value} {n : Nat} {xs : List Value} (h : w.ownsRow base e size v n xs) {q : Nat} (hq : v.ownBlock = some q) : base ≤ q := by
  rcases h.2 with ⟨rfl, _⟩ | ⟨g, cap, cur, rfl, hg, _⟩
  · cases hq
  · cases hq; exact hg
theorem pair_news (W : World) (g : Nat) (hg : g = W.heap.size) (a b : Int) (t : TypeId) : ∀ (j : Nat) (u : Value), (fl [(a, b)])[j]? = some u → (W.alloc (.cells #[.int .i64 a, .int .i64 b] t)).cell? ⟨g, j, none⟩ = some u := by
  subst hg
  intro j u hj
  rw [new_cell, ← Array.getElem?_toList]
  exact hj
/-- behind it -/
def BtwRes (w : World) (E : List (Int × Int)) (wf : Int → Bool) (v : Value) (w' : World) : Prop :=
  ∃ L, Nrm L ∧ (∀ k, memL k L ↔ wf (cnt k E) = true) ∧ L.length ≤ E.length ∧ w'.ownsRow w.heap.size 58 2 v L.length (fl L) ∧ Ext w w'
theorem nx_gt {E : List (Int × Int)} (ha : Asc E) {i : Nat} {x y : Int} (he : E[i]? = some (x, y)) (hn : ∀ z t, E[i + 1]? = some (z, t) → z ≠ x) : ∀ r, r ∈ E.drop (i + 1) → x < r.1 := by
  intro r hr
  by_cases hl : i + 1 < E.length
  · have h1 := ha i (i + 1) (x, y) E[i + 1] (by omega) he (List.getElem?_eq_getElem hl)
    have h2 : E[i + 1].1 ≠ x := hn _ _ (List.getElem?_eq_getElem hl)
    have h3 := ha.up (x := E[i + 1].1) (y := E[i + 1].2) (List.getElem?_eq_getElem hl) (Nat.le_refl _) hr
    simp only at h1
    omega
  · rw [List.drop_eq_nil_of_le (by omega)] at hr
    simp at hr
set_option maxRecDepth 100000 in
set_option maxHeartbeats 1600000 in
theorem between_any (g : Nat) (wf : Int → Bool) (eg : ∀ args w, (callFunc g args).run Try.prog w = .ok (.enter g args) w) (hw : ∀ x w, Calls Try.prog g #[.int .i64 x] w fun e w' => e = .returned (.bool (wf x)) ∧ w' = w) (h0 : wf 0 = false) (a : Option Addr) (n c : Nat) (E : List (Int × Int)) (w : World) (hl : E.length = n) (hn : n ≤ 1000000) (h : Rngs w a E) (ha : Asc E)
    (hb : ∀ r, r ∈ E → (0 ≤ r.1 ∧ r.1 ≤ 1048576) ∧ -1 ≤ r.2 ∧ r.2 ≤ 1) (hp : psum E = 0) :
    Calls Try.prog 55 #[.func (.func g) #[] #[], .slice a n c] w fun e w' => ∃ v, e = .returned v ∧ BtwRes w E wf v w' := by
  have HH : Hid (Rngs w a E) := h
  have HN : Hid (E.length = n) := hl
  have HA : Hid (Asc E) := ha
  have HB : Hid (∀ r, r ∈ E → (0 ≤ r.1 ∧ r.1 ≤ 1048576) ∧ -1 ≤ r.2 ∧ r.2 ≤ 1) := hb
  have HP : Hid (psum E = 0) := hp
  have HW : Hid (∀ x w, Calls Try.prog g #[.int .i64 x] w fun e w' => e = .returned (.bool (wf x)) ∧ w' = w) := hw
  have H0 : Hid (wf 0 = false) := h0
  clear h hl ha hb hp hw h0
  go_enter Try.func55, Try.ntmps55
  go_wp2_with fail
  go_loopw [5, 6, 7, 8, 14] (fun v s f o i wr => ∃ (k : Nat) (L : List (Int × Int)) (op : Bool) (fr : Int), k ≤ n ∧ i = .int .i64 k ∧ s = .int .i64 (psum (E.take k)) ∧ f = .int .i64 fr ∧ o = .bool op ∧ Sw E wf k L op fr ∧ Ext w wr ∧ wr.ownsRow w.heap.size 58 2 v L.length (fl L)) (fun _ _ _ _ i _ => n - (intOf i).toNat)
  case atStart => exact ⟨0, [], false, 0, Nat.zero_le _, rfl, rfl, rfl, rfl, Sw.start E wf H0.out 0, Ext.refl _, World.ownsRow_nil _ _ _ _⟩
  case round =>
    obtain ⟨k, L, op, fr, hk, rfl, rfl, rfl, rfl, hsw, hx, hown⟩ := hrel
    have HS : Hid (Sw E wf k L op fr) := hsw
    have HO : Hid (wr.ownsRow w.heap.size 58 2 u5 L.length (fl L)) := hown
    clear hsw hown
    by_cases hlt : k < n
    · obtain ⟨⟨x, y⟩, h1, h2, h3⟩ := drop_at (L := E) (k := k) (by rw [HN.out]; exact hlt)
      obtain ⟨b, o, rfl, hc1, hc2⟩ := (HH.out.ext hx) k x y h1
      have HE : Hid (E[k]? = some (x, y)) := h1
      have hT : psum (E.take (k + 1)) = psum (E.take k) + y := by rw [take_at h1, psum_append]; simp [psum]
      have HT : Hid (psum (E.take (k + 1)) = psum (E.take k) + y) := hT
      have hbd := psum_bd (E.take k) fun r hr => (HB.out r (List.mem_of_mem_take hr)).2
      have hlen : ((E.take k).length : Int) ≤ 1000000 := by rw [List.length_take]; omega
      have hby := HB.out _ h3
      simp only at hby
      have hLk := HS.out.len
      clear h1 h2 h3 hT
      have hcw := HW.out (psum (E.take (k + 1)))
      rw [HT.out] at hcw
      by_cases hk1 : k + 1 < n
      · obtain ⟨⟨x', y'⟩, j1, j2, j3⟩ := drop_at (L := E) (k := k + 1) (by rw [HN.out]; exact hk1)
        obtain ⟨b', o', heq, hd1, hd2⟩ := (HH.out.ext hx) (k + 1) x' y' j1
        cases heq
        have g3 := fun o => alloc_keeps hd1 o
        have HJ : Hid (E[k + 1]? = some (x', y')) := j1
        clear hd1 hd2 j1 j2 j3
        have hi1 : ((k : Int) + 1).toNat = k + 1 := by omega
        have dI : decide ((k : Int) + 1 < (n : Int)) = true := decide_eq_true (by omega)
        have dI2 : decide (k + 1 < n) = true := decide_eq_true (by omega)
        have i1 : (k : Int) + 1 < (n : Int) := by omega
        have i2 : (k : Int) < (n : Int) := by omega
        have i3 : 0 ≤ (k : Int) + 1 := by omega
        by_cases hxx : x' = x
        · have HS' : Hid (Sw E wf (k + 1) L op fr) := by
            have hj := HJ.out
            rw [hxx] at hj
            exact HS.out.same HE.out hj
          have dX : (x' == x) = true := by simp [hxx]
          clear hxx
          go_wp2_with fail
          go_quiet (fail)
          clear dI dI2 dX g3 i1 i2 i3 hi1
          go_wp2_with fail
          go_roundw
          case rel => exact ⟨k + 1, L, op, fr, by omega, by go_num, by rw [HT.out], rfl, rfl, HS'.out, (hx.alloc _ _).drewN _, own_ext HO.out (((Ext.refl wr).alloc _ _).drewN _)⟩
          case measure => simp [intOf]; omega
        · have HX : Hid (∀ r, r ∈ E.drop (k + 1) → x < r.1) := nx_gt HA.out HE.out fun z t hz => by
            have hj := HJ.out
            rw [hz] at hj
            cases hj
            exact hxx
          have dX : (x' == x) = false := by simp [hxx]
          clear hxx
          cases hv : wf (psum (E.take k) + y) with
          | true =>
            rw [hv] at hcw
            have HV : Hid (wf (psum (E.take (k + 1))) = true) := by show _ = _; rw [HT.out]; exact hv
            clear hv
            cases op with
            | true =>
              go_wp2_with fail
              go_quiet (fail)
              clear dI dI2 dX g3 i1 i2 i3 hi1
              go_wp2_with fail
              refine (hcw _).mono ?_
              rintro e w1 ⟨rfl, rfl⟩
              go_wp2_with fail
              go_roundw
              case rel => exact ⟨k + 1, L, true, fr, by omega, by go_num, by rw [HT.out], rfl, rfl, HS.out.go' HA.out HE.out HV.out, (hx.alloc _ _).drewN _, own_ext HO.out (((Ext.refl wr).alloc _ _).drewN _)⟩
              case measure => simp [intOf]; omega
            | false =>
              go_wp2_with fail
              go_quiet (fail)
              clear dI dI2 dX g3 i1 i2 i3 hi1
              go_wp2_with fail
              refine (hcw _).mono ?_
              rintro e w1 ⟨rfl, rfl⟩
              go_wp2_with fail
              go_roundw
              case rel => exact ⟨k + 1, L, true, x, by omega, by go_num, by rw [HT.out], rfl, rfl, HS.out.open' HA.out HE.out HX.out HV.out, (hx.alloc _ _).drewN _, own_ext HO.out (((Ext.refl wr).alloc _ _).drewN _)⟩
              case measure => simp [intOf]; omega
          | false =>
            rw [hv] at hcw
            have HV : Hid (wf (psum (E.take (k + 1))) = false) := by show _ = _; rw [HT.out]; exact hv
            clear hv
            cases op with
            | true =>
              go_wp2_with fail
              go_quiet (fail)
              clear dI dI2 dX g3 i1 i2 i3 hi1
              go_wp2_with fail
              refine (hcw _).mono ?_
              rintro e w1 ⟨rfl, rfl⟩
              go_wp2_with (first | fail | (at_builtin; refine append_prs _ rfl _ _ 23 rfl w.heap.size 58 (.agg #[.int .i64 0, .int .i64 0]) 16 Try.underlying23 infoR rfl u5 L.length L rfl (own_ext HO.out ((((Ext.refl wr).alloc _ _).alloc _ _).drewN _)) _ 1 1 [(fr, x)] rfl rfl ?_ (by omega) (by omega) (by omega) ?_ ?_) | go_in)
              · exact pair_news _ _ (by show _ = (wr.alloc _).heap.size; rw [World.size_alloc]) _ _ _
              · exact (((hx.alloc _ _).drewN _).alloc _ _).size
              intro v' w5 hown' hgrow
              have hx5 : Ext w w5 := (((hx.alloc _ _).drewN _).alloc _ _).grow hgrow fun q hq => own_geS HO.out hq
              have HO5 : Hid (w5.ownsRow w.heap.size 58 2 v' (L.length + 1) (fl (L ++ [(fr, x)]))) := hown'
              clear hown' hgrow
              go_wp2_with fail
              go_roundw
              case rel => exact ⟨k + 1, L ++ [(fr, x)], false, fr, by omega, by go_num, by rw [HT.out], rfl, rfl, HS.out.shut' HA.out HE.out HX.out HV.out fr, hx5, by rw [List.length_append]; exact HO5.out⟩
              case measure => simp [intOf]; omega
            | false =>
              go_wp2_with fail
              go_quiet (fail)
              clear dI dI2 dX g3 i1 i2 i3 hi1
              go_wp2_with fail
              refine (hcw _).mono ?_
              rintro e w1 ⟨rfl, rfl⟩
              go_wp2_with fail
              go_roundw
              case rel => exact ⟨k + 1, L, false, fr, by omega, by go_num, by rw [HT.out], rfl, rfl, HS.out.rest' HA.out HE.out HV.out, (hx.alloc _ _).drewN _, own_ext HO.out (((Ext.refl wr).alloc _ _).drewN _)⟩
              case measure => simp [intOf]; omega
      · have HX : Hid (∀ r, r ∈ E.drop (k + 1) → x < r.1) := fun r hr => by rw [List.drop_eq_nil_of_le (by rw [HN.out]; omega)] at hr; simp at hr
        have dI : decide ((k : Int) + 1 < (n : Int)) = false := decide_eq_false (by omega)
        have dI2 : decide (k + 1 < n) = false := decide_eq_false (by omega)
        cases hv : wf (psum (E.take k) + y) with
        | true =>
          rw [hv] at hcw
          have HV : Hid (wf (psum (E.take (k + 1))) = true) := by show _ = _; rw [HT.out]; exact hv
          clear hv
          cases op with
          | true =>
            go_wp2_with fail
            go_quiet (fail)
            clear dI dI2
            go_wp2_with fail
            refine (hcw _).mono ?_
            rintro e w1 ⟨rfl, rfl⟩
            go_wp2_with fail
            go_roundw
            case rel => exact ⟨k + 1, L, true, fr, by omega, by go_num, by rw [HT.out], rfl, rfl, HS.out.go' HA.out HE.out HV.out, (hx.alloc _ _).drewN _, own_ext HO.out (((Ext.refl wr).alloc _ _).drewN _)⟩
            case measure => simp [intOf]; omega
          | false =>
            go_wp2_with fail
            go_quiet (fail)
            clear dI dI2
            go_wp2_with fail
            refine (hcw _).mono ?_
            rintro e w1 ⟨rfl, rfl⟩
            go_wp2_with fail
            go_roundw
            case rel => exact ⟨k + 1, L, true, x, by omega, by go_num, by rw [HT.out], rfl, rfl, HS.out.open' HA.out HE.out HX.out HV.out, (hx.alloc _ _).drewN _, own_ext HO.out (((Ext.refl wr).alloc _ _).drewN _)⟩
            case measure => simp [intOf]; omega
        | false =>
          rw [hv] at hcw
          have HV : Hid (wf (psum (E.take (k + 1))) = false) := by show _ = _; rw [HT.out]; exact hv
          clear hv
          cases op with
          | true =>
            go_wp2_with fail
            go_quiet (fail)
            clear dI dI2
            go_wp2_with fail
            refine (hcw _).mono ?_
            rintro e w1 ⟨rfl, rfl⟩
            go_wp2_with (first | fail | (at_builtin; refine append_prs _ rfl _ _ 23 rfl w.heap.size 58 (.agg #[.int .i64 0, .int .i64 0]) 16 Try.underlying23 infoR rfl u5 L.length L rfl (own_ext HO.out ((((Ext.refl wr).alloc _ _).alloc _ _).drewN _)) _ 1 1 [(fr, x)] rfl rfl ?_ (by omega) (by omega) (by omega) ?_ ?_) | go_in)
            · exact pair_news _ _ (by show _ = (wr.alloc _).heap.size; rw [World.size_alloc]) _ _ _
            · exact (((hx.alloc _ _).drewN _).alloc _ _).size
            intro v' w5 hown' hgrow
            have hx5 : Ext w w5 := (((hx.alloc _ _).drewN _).alloc _ _).grow hgrow fun q hq => own_geS HO.out hq
            have HO5 : Hid (w5.ownsRow w.heap.size 58 2 v' (L.length + 1) (fl (L ++ [(fr, x)]))) := hown'
            clear hown' hgrow
            go_wp2_with fail
            go_roundw
            case rel => exact ⟨k + 1, L ++ [(fr, x)], false, fr, by omega, by go_num, by rw [HT.out], rfl, rfl, HS.out.shut' HA.out HE.out HX.out HV.out fr, hx5, by rw [List.length_append]; exact HO5.out⟩
            case measure => simp [intOf]; omega
          | false =>
            go_wp2_with fail
            go_quiet (fail)
            clear dI dI2
            go_wp2_with fail
            refine (hcw _).mono ?_
            rintro e w1 ⟨rfl, rfl⟩
            go_wp2_with fail
            go_roundw
            case rel => exact ⟨k + 1, L, false, fr, by omega, by go_num, by rw [HT.out], rfl, rfl, HS.out.rest' HA.out HE.out HV.out, (hx.alloc _ _).drewN _, own_ext HO.out (((Ext.refl wr).alloc _ _).drewN _)⟩
            case measure => simp [intOf]; omega
    · have e : k = n := by omega
      subst e
      have HF : Hid (Nrm L ∧ ∀ k, memL k L ↔ wf (cnt k E) = true) := by
        have hs := HS.out
        rw [← HN.out] at hs
        exact hs.fin H0.out (fun r hr => (HB.out r hr).1.2) HP.out
      have hlen := HS.out.len
      have HR : Hid (BtwRes w E wf u5 wr) := ⟨L, HF.out.1, HF.out.2, by rw [HN.out]; exact hlen, HO.out, hx⟩
      go_wp2_with fail
      go_ret
      exact ⟨_, rfl, HR.out⟩
end Go.Proofs.Ytfekiccjcfdmkab
