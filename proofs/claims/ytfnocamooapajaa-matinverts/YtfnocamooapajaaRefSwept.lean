/-
  quicksetref.swept of a matrix of elements: the number that the sweep counts; the world only grows.
-/
import Derived.Test.YtfnocamooapajaaChecked
import Derived.WalkKit
import Derived.BigQuiet
import Derived.Test.YtfnocamooapajaaRefOwn
import Derived.Test.YtfnocamooapajaaRefOps
import Derived.Test.YtfnocamooapajaaRefDiv
import Derived.Test.YtfnocamooapajaaSwMath
import Derived.Test.YtfnocamooapajaaQuietTail
namespace Go.Proofs.Ytfnocamooapajaa
open Go.RowKit Go.Deep E
theorem mulOf_g (x y : E) (w : World) : Calls Try.prog 32 #[.int .i64 (ev x), .int .i64 (ev y)] w fun e w' => e = .returned (.int .i64 (ev (mu x y))) ∧ Ext w w' := (mulOf_ev x y w).mono fun _ _ h => ⟨h.1, by rw [h.2]; exact Ext.refl _⟩
/-- .. of row j the first q places */ -/
def elimK (q : Nat) (W : Nat → Nat → E) (t c j : Nat) (r k : Nat) : E := if r = j ∧ k < q then ad (W j k) (mu (mu (W j c) (iv (W t c))) (W t k)) else W r k
theorem elimK_put (q : Nat) (W : Nat → Nat → E) (t c j : Nat) : put1 (elimK q W t c j) j q (ad (W j q) (mu (mu (W j c) (iv (W t c))) (W t q))) = elimK (q + 1) W t c j := by
  funext r k
  unfold put1 elimK
  by_cases e : r = j ∧ k = q
  · obtain ⟨rfl, rfl⟩ := e
    rw [if_pos ⟨rfl, rfl⟩, if_pos ⟨rfl, by omega⟩]
  · rw [if_neg e]
    by_cases e2 : r = j ∧ k < q
    · rw [if_pos e2, if_pos ⟨e2.1, by omega⟩]
    · rw [if_neg e2, if_neg (fun h => by
        by_cases e3 : k = q
        · exact e ⟨h.1, e3⟩
        · exact e2 ⟨h.1, by omega⟩)]
theorem elimK_all (m : Nat) (W : Nat → Nat → E) (t c j : Nat) (ht : t < j) (r k : Nat) (hk : k < m) : elimK m (elim j W t c) t c j r k = elim (j + 1) W t c r k := by
  have e1 : ∀ x, elim j W t c j x = W j x := fun x => if_neg (by omega)
  have e2 : ∀ x, elim j W t c t x = W t x := fun x => if_neg (by omega)
  unfold elimK
  by_cases e : r = j
  · subst e
    rw [if_pos ⟨rfl, hk⟩, e1, e1, e2, e2]
    exact (if_pos ⟨ht, by omega⟩).symm
  · rw [if_neg (fun h => e h.1)]
    unfold elim
    by_cases e3 : t < r ∧ r < j
    · rw [if_pos e3, if_pos ⟨e3.1, by omega⟩]
    · rw [if_neg e3, if_neg (fun h => e3 ⟨h.1, by omega⟩)]
theorem elim_start (W : Nat → Nat → E) (t c : Nat) : elim (t + 1) W t c = W := by
  funext j k
  exact if_neg (by omega)
theorem swStep_yes {n c d p : Nat} {W W3 : Nat → Nat → E} (hd : d ≤ p) (hp : p < n) (hz : ∀ s, d ≤ s → s < p → W s c = ze) (hnz : W p c ≠ ze) (h3 : W3 = swp W d p) : swStep n c (W, d) = (elim n W3 d c, d + 1) := by
  have e : findNZ W c (n - d) d = p := findNZ_unique hd (by omega) hz (fun _ => hnz)
  unfold swStep
  simp only
  rw [e, if_pos hp, h3]
theorem swStep_no {n c d : Nat} {W : Nat → Nat → E} (hd : d ≤ n) (hz : ∀ s, d ≤ s → s < n → W s c = ze) : swStep n c (W, d) = (W, d) := by
  have e : findNZ W c (n - d) d = n := findNZ_unique hd (by omega) hz (fun h => by omega)
  unfold swStep
  simp only
  rw [e, if_neg (by omega)]
set_option maxRecDepth 100000 in
set_option maxHeartbeats 6400000 in
theorem swept_any (a : Option Addr) (n c m : Nat) (A : Nat → Option Addr) (C : Nat → Nat) (M : Nat → Nat → E) (w : World) (hn : 1 ≤ n ∧ n ≤ 8) (hm : 1 ≤ m ∧ m ≤ 8) (h : Mat w a n A (fun _ => m) C fun r i => ev (M r i)) :
    Calls Try.prog 36 #[.slice a n c] w fun e w' => e = .returned (.int .i64 (redTo n M m).2) ∧ Ext w w' := by
  obtain ⟨b, o, rfl, hc⟩ := h.at (by omega)
  have hc0 := hc 0 (by omega)
  rw [Nat.add_zero] at hc0
  have HH : Hid (Mat w (some ⟨b, o, none⟩) n A (fun _ => m) C fun r i => ev (M r i)) := h
  clear h hc
  go_enter Try.func36, Try.ntmps36
  go_wp2_with fail
  refine (ownMatrix_any _ n c m A C M _ hn hm HH.out).mono ?_
  rintro e w1 ⟨⟨B, cB, G0, Cp0, rfl, hown, hB0, hG0⟩, hx1⟩
  have HS0 : Hid (CSt w1 w1 B n m G0 G0 Cp0 M) := CSt.start hown
  have HBL : Hid (∀ x, BlkC n B G0 x → w.heap.size ≤ x) := fun x hx => by
    rcases hx with rfl | ⟨r, hr, rfl⟩
    · exact hB0
    · exact (hG0 r hr).1
  have HX1 : Hid (Ext w w1) := hx1
  have HC0 : Hid (w.cell? ⟨b, o, none⟩ = some (.slice (A 0) m (C 0))) := hc0
  clear hown hB0 hG0 HH hx1 hc0
  go_wp2_with fail
  go_loopw [4, 5] (fun t k wr => ∃ c : Nat, c ≤ m ∧ k = .int .i64 c ∧ t = .int .i64 (swTo n M c).2 ∧ ∃ G Cp, CSt w1 wr B n m G0 G Cp (swTo n M c).1) (fun _ k _ => m - (intOf k).toNat)
  case atStart => exact ⟨0, Nat.zero_le _, rfl, rfl, G0, Cp0, HS0.out⟩
  case round =>
    clear HS0
    obtain ⟨cc, hcc, rfl, rfl, G, Cp, hst⟩ := hrel
    have hxw : Ext w wr := Wro.after HX1.out hst.wro HBL.out
    have hc0 := hxw.keeps HC0.out
    by_cases hct : cc < m
    · have hd := swTo_le n M cc
      have HST : Hid (swTo n M (cc + 1) = swStep n cc (swTo n M cc)) := rfl
      generalize swTo n M cc = s at *
      obtain ⟨W, t⟩ := s
      simp only at hd hst
      have HCS : Hid (CSt w1 wr B n m G0 G Cp W) := hst
      clear hst
      generalize hw0 : wr = wr0 at *
      clear hw0
      go_wp2_with fail
      clear hc0
      go_loopw [4, 6] (fun tt i wi => ∃ p : Nat, t ≤ p ∧ p ≤ n ∧ tt = .int .i64 t ∧ i = .int .i64 p ∧ wi = wr0 ∧ Hid (∀ s, t ≤ s → s < p → W s cc = ze)) (fun _ i _ => n - (intOf i).toNat)
      case atStart => exact ⟨t, Nat.le_refl _, hd.1, rfl, rfl, rfl, fun s h1 h2 => by omega⟩
      case round =>
        obtain ⟨p, htp, hpn, rfl, rfl, rfl, HZ⟩ := hrel
        by_cases hpt : p < n
        · have hcp := HCS.out.own.top.cell hpt
          have hcv : wr.cell? ⟨G p, cc, none⟩ = some (.int .i64 (ev (W p cc))) := (HCS.out.own.row p hpt).cell hct
          cases hz : isZe (W p cc)
          · have hzb : (ev (W p cc) == 0) = false := by rw [ev_isZe]; exact hz
            have hdn : t < n := by omega
            have hc1 := HCS.out.own.top.cell hdn
            have hf1 := HCS.out.own.top.frozen t
            have hf2 := HCS.out.own.top.frozen p
            obtain ⟨W3, hW3⟩ : ∃ W3, W3 = swp W t p := ⟨_, rfl⟩
            have HSW : Hid (CSt w1 ((wr.setCell ⟨B, t, none⟩ (.slice (some ⟨G p, 0, none⟩) m (Cp p))).setCell ⟨B, p, none⟩ (.slice (some ⟨G t, 0, none⟩) m (Cp t))) B n m G0 (fun r => G (sw t p r)) (fun r => Cp (sw t p r)) W3) := by
              show CSt _ _ _ _ _ _ _ _ W3
              rw [hW3]; exact HCS.out.swap hdn hpt
            have HST2 : Hid (swTo n M (cc + 1) = (elim n W3 t cc, t + 1)) := HST.out.trans (swStep_yes htp hpt HZ.out ((isZe_false _).1 hz) hW3)
            have HNZ : Hid (W3 t cc ≠ ze) := by
              show W3 t cc ≠ ze
              rw [hW3]
              unfold swp sw
              rw [if_pos rfl]
              exact (isZe_false _).1 hz
            clear hW3 HST HZ HCS
            by_cases hp1 : t < p
            case' neg =>
              obtain rfl : t = p := by omega
              go_wp2_with fail
              go_region
              go_wp2_with fail
              generalize (wr.setCell ⟨B, t, none⟩ (.slice (some ⟨G t, 0, none⟩) m (Cp t))).setCell ⟨B, t, none⟩ (.slice (some ⟨G t, 0, none⟩) m (Cp t)) = w3 at *
              generalize hG3e : (fun r => G (sw t t r)) = G3 at HSW
              generalize hC3e : (fun r => Cp (sw t t r)) = C3 at HSW
            case' pos =>
              go_wp2_with fail
              go_region
              go_wp2_with fail
              generalize (wr.setCell ⟨B, t, none⟩ (.slice (some ⟨G p, 0, none⟩) m (Cp p))).setCell ⟨B, p, none⟩ (.slice (some ⟨G t, 0, none⟩) m (Cp t)) = w3 at *
              generalize hG3e : (fun r => G (sw t p r)) = G3 at HSW
              generalize hC3e : (fun r => Cp (sw t p r)) = C3 at HSW
            all_goals
              have HR4 : Hid (CSt w1 w3.drew B n m G0 G3 C3 W3) := HSW.out.grow (Ext.refl w3).drew
              clear hG3e hC3e HSW hc1 hf1 hf2 hcp hcv hzb hz
              generalize w3.drew = w4 at *
              go_loopw [7] (fun i wi => ∃ j : Nat, t + 1 ≤ j ∧ j ≤ n ∧ i = .int .i64 j ∧ CSt w1 wi B n m G0 G3 C3 (elim j W3 t cc)) (fun i _ => n - (intOf i).toNat)
              case atStart => exact ⟨t + 1, Nat.le_refl _, by omega, by go_num, by rw [elim_start]; exact HR4.out⟩
              case round =>
                clear HR4
                obtain ⟨j, hj1, hj2, rfl, hrj⟩ := hrel
                by_cases hjt : j < n
                · have e1 : ∀ x, elim j W3 t cc j x = W3 j x := fun x => if_neg (by omega)
                  have e2 : ∀ x, elim j W3 t cc t x = W3 t x := fun x => if_neg (by omega)
                  generalize hWe : elim j W3 t cc = W4 at *
                  have HNZ4 : Hid (W4 t cc ≠ ze) := by show W4 t cc ≠ ze; rw [e2]; exact HNZ.out
                  have gA := fun x : Gr wr => x.ext.keeps (hrj.own.top.cell hjt)
                  have gB := fun x : Gr wr => x.ext.keeps (hrj.own.top.cell hdn)
                  have gC := fun x : Gr wr => x.ext.keeps ((hrj.own.row j hjt).cell hct)
                  have gD := fun x : Gr wr => x.ext.keeps ((hrj.own.row t hdn).cell hct)
                  have HRJ : Hid (CSt w1 wr B n m G0 G3 C3 W4) := hrj
                  have HWE : Hid (elim j W3 t cc = W4) := hWe
                  clear hrj e1 e2 hWe
                  go_wp2_with fail
                  refine wp_region_grows 14 (by kernel_rfl) (by kernel_rfl) (fun hne => ?_)
                  simp only [List.take_succ_cons, List.take_zero, List.drop_succ_cons, List.drop_zero]
                  repeat (go_big_quiet_step (fail))
                  refine wpQuiet_nil ?_
                  intro w5 hw5
                  obtain ⟨x, rfl⟩ := hw5
                  have HR5 : Hid (CSt w1 x.w' B n m G0 G3 C3 W4) := HRJ.out.grow x.ext
                  clear gA gB gC gD HRJ
                  generalize x.w' = w6 at *
                  go_wp2_with fail
                  refine (divOf_ev (W4 j cc) (W4 t cc) HNZ4.out _).mono ?_
                  rintro e w7 ⟨rfl, rfl⟩
                  have hcj := HR5.out.own.top.cell hjt
                  go_wp2_with fail
                  clear hcj
                  go_loopw [77] (fun i wi => ∃ q : Nat, q ≤ m ∧ i = .int .i64 q ∧ CSt w1 wi B n m G0 G3 C3 (elimK q W4 t cc j)) (fun i _ => m - (intOf i).toNat)
                  case atStart => exact ⟨0, Nat.zero_le _, rfl, HR5.out.congr fun r _ i _ => (if_neg (by omega)).symm⟩
                  case round =>
                    clear HR5
                    obtain ⟨q, hq, rfl, hrq⟩ := hrel
                    by_cases hqt : q < m
                    · have e1 : elimK q W4 t cc j j q = W4 j q := if_neg (by omega)
                      have e2 : elimK q W4 t cc j t q = W4 t q := if_neg (by omega)
                      have r1 : wr.cell? ⟨G3 j, q, none⟩ = some (.int .i64 (ev (W4 j q))) := by rw [(hrq.own.row j hjt).cell hqt]; unfold evs; rw [e1]
                      have r2 : wr.cell? ⟨G3 t, q, none⟩ = some (.int .i64 (ev (W4 t q))) := by rw [(hrq.own.row t hdn).cell hqt]; unfold evs; rw [e2]
                      have gA := fun x : Gr wr => x.ext.keeps (hrq.own.top.cell hjt)
                      have gB := fun x : Gr wr => x.ext.keeps (hrq.own.top.cell hdn)
                      have gC := fun x : Gr wr => x.ext.keeps r1
                      have gD := fun x : Gr wr => x.ext.keeps r2
                      have HRQ : Hid (CSt w1 wr B n m G0 G3 C3 (elimK q W4 t cc j)) := hrq
                      clear hrq e1 e2 r1 r2
                      go_wp2_with fail
                      refine wp_region_grows 18 (by kernel_rfl) (by kernel_rfl) (fun hne => ?_)
                      simp only [List.take_succ_cons, List.take_zero, List.drop_succ_cons, List.drop_zero]
                      repeat (go_big_quiet_step (first | (go_at_call 32; exact Calls.grown (mulOf_g (mu (W4 j cc) (iv (W4 t cc))) (W4 t q) _))))
                      refine wpQuiet_nil ?_
                      intro w8 hw8
                      obtain ⟨x, rfl⟩ := hw8
                      have hcx := gC x
                      have hr9 := HRQ.out.grow x.ext
                      have hfx := (hr9.own.row j hjt).frozen q
                      have HR9 : Hid (CSt w1 x.w' B n m G0 G3 C3 (elimK q W4 t cc j)) := hr9
                      clear gA gB gC gD HRQ hr9
                      go_wp2_with fail
                      go_roundw
                      case rel =>
                        refine ⟨q + 1, by omega, by go_num, ?_⟩
                        have h6 := HR9.out.put hjt q (ad (W4 j q) (mu (mu (W4 j cc) (iv (W4 t cc))) (W4 t q)))
                        rw [elimK_put] at h6
                        rw [xor_ev]
                        exact h6
                      case measure => simp [intOf]; omega
                    · obtain rfl : q = m := by omega
                      have HRQ : Hid (CSt w1 wr B n q G0 G3 C3 (elim (j + 1) W3 t cc)) := hrq.congr fun r _ i hi => by rw [← HWE.out]; exact elimK_all q W3 t cc j (by omega) r i hi
                      clear hrq
                      go_wp2_with fail
                      go_roundw
                      case rel => exact ⟨j + 1, by omega, by omega, by go_num, HRQ.out⟩
                      case measure => simp [intOf]; omega
                · obtain rfl : j = n := by omega
                  have HRJ : Hid (CSt w1 wr B j m G0 G3 C3 (elim j W3 t cc)) := hrj
                  clear hrj
                  go_wp2_with fail
                  go_roundw
                  case rel => exact ⟨cc + 1, by omega, by go_num, by rw [HST2.out]; go_num, G3, C3, by rw [HST2.out]; exact HRJ.out⟩
                  case measure => simp [intOf]; omega
          · have hzb : (ev (W p cc) == 0) = true := by rw [ev_isZe]; exact hz
            go_wp2_with fail
            go_roundw
            case rel =>
              refine ⟨p + 1, by omega, by omega, rfl, by go_num, by first | rfl | trivial, fun s h1 h2 => ?_⟩
              by_cases e : s = p
              · rw [e]; exact (isZe_iff _).1 hz
              · exact HZ.out s h1 (by omega)
            case measure => simp [intOf]; omega
        · obtain rfl : p = n := by omega
          have HNO : Hid (swTo p M (cc + 1) = (W, t)) := HST.out.trans (swStep_no hd.1 HZ.out)
          go_wp2_with fail
          go_roundw
          case rel => exact ⟨cc + 1, by omega, by go_num, by rw [HNO.out], G, Cp, by rw [HNO.out]; exact HCS.out⟩
          case measure => simp [intOf]; omega
    · obtain rfl : cc = m := by omega
      have e1 := (sweep_red n M cc).1
      have HE : Hid ((swTo n M cc).2 = (redTo n M cc).2) := e1
      clear e1
      go_wp2_with fail
      go_ret
      exact ⟨ret_int (by rw [HE.out]), hxw⟩
end Go.Proofs.Ytfnocamooapajaa
