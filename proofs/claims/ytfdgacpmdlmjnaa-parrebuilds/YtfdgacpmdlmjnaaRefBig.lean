/-
  quicksetref.solved of a matrix of five rows and more that can be inverted: what solves it, by sweeping and stepping back; the world only grows.
-/
import Derived.Test.YtfdgacpmdlmjnaaChecked
import Derived.WalkKit
import Derived.BigQuiet
import Derived.Deep.RegionLaw
import Derived.Deep.AppendLies
import Derived.Test.YtfdgacpmdlmjnaaAppC
namespace Go.Proofs.Ytfdgacpmdlmjnaa
open Go.RowKit Go.Deep E
/-- .. of row j the places from l on, up to q -/
def elimL (l q : Nat) (W : Nat → Nat → E) (t c j : Nat) (r k : Nat) : E := if r = j ∧ l ≤ k ∧ k < q then ad (W j k) (mu (mu (W j c) (iv (W t c))) (W t k)) else W r k
theorem elimL_put {l q : Nat} (h : l ≤ q) (W : Nat → Nat → E) (t c j : Nat) : put1 (elimL l q W t c j) j q (ad (W j q) (mu (mu (W j c) (iv (W t c))) (W t q))) = elimL l (q + 1) W t c j := by
  funext r k
  unfold put1 elimL
  by_cases e : r = j ∧ k = q
  · obtain ⟨rfl, rfl⟩ := e
    rw [if_pos ⟨rfl, rfl⟩, if_pos ⟨rfl, h, by omega⟩]
  · rw [if_neg e]
    by_cases e2 : r = j ∧ l ≤ k ∧ k < q
    · rw [if_pos e2, if_pos ⟨e2.1, e2.2.1, by omega⟩]
    · rw [if_neg e2, if_neg (fun h => by
        by_cases e3 : k = q
        · exact e ⟨h.1, e3⟩
        · exact e2 ⟨h.1, h.2.1, by omega⟩)]
theorem elimL_start (l : Nat) (W : Nat → Nat → E) (t c j : Nat) : elimL l l W t c j = W := by
  funext r k
  exact if_neg (by omega)
theorem elimL_all {m l : Nat} {W : Nat → Nat → E} {t c j : Nat} (ht : t < j) (hl : ∀ k, k < l → W t k = ze) (r k : Nat) (hk : k < m) : elimL l m (elim j W t c) t c j r k = elim (j + 1) W t c r k := by
  have e1 : ∀ x, elim j W t c j x = W j x := fun x => if_neg (by omega)
  have e2 : ∀ x, elim j W t c t x = W t x := fun x => if_neg (by omega)
  unfold elimL
  by_cases e : r = j
  · subst e
    have e3 : elim (r + 1) W t c r k = ad (W r k) (mu (mu (W r c) (iv (W t c))) (W t k)) := if_pos ⟨ht, by omega⟩
    by_cases e4 : l ≤ k
    · rw [if_pos ⟨rfl, e4, hk⟩, e1, e1, e2, e2, e3]
    · rw [if_neg (fun h => e4 h.2.1), e1, e3, hl k (by omega), mu_comm, ze_mu, ad_ze]
  · rw [if_neg (fun h => e h.1)]
    unfold elim
    by_cases e3 : t < r ∧ r < j
    · rw [if_pos e3, if_pos ⟨e3.1, by omega⟩]
    · rw [if_neg e3, if_neg (fun h => e3 ⟨h.1, by omega⟩)]
theorem sw_comm (d p : Nat) : sw d p = sw p d := by
  funext i
  unfold sw
  by_cases e1 : i = d
  · by_cases e2 : i = p
    · rw [if_pos e1, if_pos e2]; omega
    · rw [if_pos e1, if_neg e2, if_pos e1]
  · by_cases e2 : i = p
    · rw [if_neg e1, if_pos e2, if_pos e2]
    · rw [if_neg e1, if_neg e2, if_neg e2, if_neg e1]
/-- a list of which the places from t on are made -/
def bk (t : Nat) (f : Nat → Int) (j : Nat) : Int := if t ≤ j then f j else 0
theorem bk_next (i : Nat) (f : Nat → Int) : (fun j => if j = i then Value.int .i64 (f i) else Value.int .i64 (bk (i + 1) f j)) = fun j => Value.int .i64 (bk i f j) := by
  funext j
  unfold bk
  by_cases e : j = i
  · subst e; rw [if_pos rfl, if_pos (Nat.le_refl _)]
  · rw [if_neg e]
    by_cases h : i + 1 ≤ j
    · rw [if_pos h, if_pos (by omega)]
    · rw [if_neg h, if_neg (by omega)]
theorem divOf_g (x y : E) (h : y ≠ ze) (w : World) : Calls Try.prog 59 #[.int .i64 (ev x), .int .i64 (ev y)] w fun e w' => e = .returned (.int .i64 (ev (mu x (iv y)))) ∧ Ext w w' := (divOf_ev x y h w).mono fun _ _ h => ⟨h.1, by rw [h.2]; exact Ext.refl _⟩
set_option maxRecDepth 100000 in
set_option maxHeartbeats 6400000 in
theorem solved_big (a : Option Addr) (n c : Nat) (A : Nat → Option Addr) (C : Nat → Nat) (M : Nat → Nat → E) (a' : Option Addr) (c' : Nat) (v : Nat → E) (w : World) (hn : 5 ≤ n ∧ n ≤ 8) (h : Mat w a n A (fun _ => n) C fun r i => ev (M r i))
    (hv : Ints w a' n fun i => ev (v i)) (hr : (redTo n M n).2 = n) :
    Calls Try.prog 36 #[.slice a n c, .slice a' n c'] w fun e w' => ListRes w w' e n (fun i => ev (sol n M v i)) ∧ Ext w w' := by
  obtain ⟨b, o, rfl, hvc⟩ := hv.at (by omega)
  obtain ⟨i0, hi, hz0, hz1, hz2⟩ := info_parts infoInt
  have HI : Hid (Try.prog.info? 3 = some i0 ∧ i0.zero = some (.int .i64 0) ∧ i0.size = 1 ∧ i0.bytes = 8) := ⟨hi, hz0, hz1, hz2⟩
  have HH : Hid (Mat w a n A (fun _ => n) C fun r i => ev (M r i)) := h
  have HV : Hid (∀ i, i < n → w.cell? ⟨b, o + i, none⟩ = some (.int .i64 (ev (v i)))) := hvc
  have HRK : Hid ((redTo n M n).2 = n) := hr
  have HML : Hid (n + 1 ≤ maxLen) := by show _ ≤ _; unfold maxLen; omega
  clear h hvc hv hr hi hz0 hz1 hz2
  go_enter Try.func36, Try.ntmps36
  go_wp2_with fail
  refine (ownMatrix_any _ n c n A C M _ ⟨by omega, by omega⟩ ⟨by omega, by omega⟩ HH.out).mono ?_
  rintro e w2 ⟨⟨B, cB, G0, Cp0, rfl, hown, hB0, hG0⟩, hx2⟩
  have HA0 : Hid (ASt w w2 B n 0 (fun r => .slice (some ⟨G0 r, 0, none⟩) n (Cp0 r)) (aug n M v)) := ASt.start v hx2 hown hB0 fun r hr => (hG0 r hr).2.2
  clear hown hB0 hG0 hx2
  go_wp2_with fail
  go_loopw [66] (fun ii wr => ∃ k : Nat, k ≤ n ∧ ii = .int .i64 k ∧ ∃ V, ASt w wr B n k V (aug n M v)) (fun ii _ => n - (intOf ii).toNat)
  case atStart => exact ⟨0, Nat.zero_le _, rfl, _, HA0.out⟩
  case round =>
    clear HA0
    obtain ⟨k, hk, rfl, V, hst⟩ := hrel
    by_cases hkt : k < n
    · obtain ⟨gk, ck, hV, hob, hlow, hrw⟩ := hst.blk (by omega) hkt
      rw [if_neg (by omega)] at hV hrw
      have hcB := hst.top.cell hkt
      rw [hV] at hcB
      have hcv := hst.ext.keeps (HV.out k hkt)
      have hcBa := ((Ext.refl wr).alloc #[.int .i64 (ev (v k))] 3).keeps hcB
      have HST : Hid (ASt w wr B n k V (aug n M v)) := hst
      have HOWN : Hid ((wr.alloc (.cells #[.int .i64 (ev (v k))] 3)).drew.ownsRow w.heap.size 3 1 (.slice (some ⟨gk, 0, none⟩) n ck) n ((List.range n).map fun x => .int .i64 (ev (aug n M v k x)))) := by
        have h1 := hst.row k hkt
        rw [if_neg (by omega), hV] at h1
        exact own_ext h1 (((Ext.refl wr).alloc _ _).drew)
      have HNW : Hid (∀ j u, [Value.int .i64 (ev (v k))][j]? = some u → (wr.alloc (.cells #[.int .i64 (ev (v k))] 3)).drew.cell? ((⟨wr.heap.size, 0, none⟩ : Addr).add j) = some u) := by
        intro j y hj
        match j, hj with
        | 0, hj => cases hj; simp [Addr.add]
      have HONE : Hid (∀ u ∈ [Value.int .i64 (ev (v k))], u.oneCell' = true) := by
        intro y hy; simp at hy; subst hy; rfl
      have HBASE : Hid (w.heap.size ≤ (wr.alloc (.cells #[.int .i64 (ev (v k))] 3)).drew.heap.size) := by
        have := hst.ext.size
        show _ ≤ _
        simp; omega
      have HQ : Hid (∀ w1, (wr.alloc (.cells #[.int .i64 (ev (v k))] 3)).drew.grownBy w1 (some gk) → w1.cell? ⟨B, k, none⟩ = some (.slice (some ⟨gk, 0, none⟩) n ck) ∧ w1.frozen? ⟨B, k, none⟩ = false) := by
        intro w1 hg
        have t1 := hst.top.ext (((Ext.refl wr).alloc #[.int .i64 (ev (v k))] 3).drew)
        have t2 : rowHas w1 B 23 n V := t1.of_block (hg.block B t1.lt fun e => by cases e; exact rowHas_ne hst.top hrw (by decide) rfl)
        exact ⟨by rw [t2.cell hkt, hV], t2.frozen k⟩
      have HVK : Hid (V k = .slice (some ⟨gk, 0, none⟩) n ck ∧ (V k).ownBlock = some gk) := ⟨hV, hob⟩
      clear hst hV hob hlow hrw
      go_wp2_with fail
      go_region_law ((refine step_append_lies _ (by rfl) _ _ 23 (by rfl) w.heap.size 3 i0 (.int .i64 0) 1 8 Try.underlying23 HI.out.1 HI.out.2.1 HI.out.2.2.1 HI.out.2.2.2 (by rfl) (by omega) (.slice (some ⟨gk, 0, none⟩) n ck) n ((List.range n).map fun x => .int .i64 (ev (aug n M v k x))) (by rfl) HOWN.out ⟨wr.heap.size, 0, none⟩ 1 1 [.int .i64 (ev (v k))] (by rfl) (by rfl) HNW.out HONE.out (by omega) HML.out (by omega) HBASE.out (wr.heap.size + 1) (by simp) ?_; intro g cap w1 hown1 hgrow hat hlt9; have hq := HQ.out w1 hgrow; obtain ⟨hq1, hq2⟩ := hq))
      all_goals
        have R1 : Hid (∃ V, ASt w (w1.setCell ⟨B, k, none⟩ (.slice (some ⟨g, 0, none⟩) (n + 1) cap)) B n (k + 1) V (aug n M v)) := by
          have e : aug n M v k n = v k := if_neg (by omega)
          refine ⟨_, HST.out.step (by omega) hkt (co := #[.int .i64 (ev (v k))]) (to := 3) (g := g) (cap := cap) ?_ ?_ ?_⟩
          · rw [e]; exact hown1
          · rw [HVK.out.2]; exact hgrow
          · rcases hat with q | q
            · left; rw [HVK.out.2]; exact q
            · right; exact q
        clear hown1 hgrow hat hlt9 hq1 hq2
        go_wp2_with fail
        go_roundw
        case rel =>
          obtain ⟨V1, h1⟩ := R1.out
          exact ⟨k + 1, by omega, by go_num, V1, h1⟩
        case measure => simp [intOf]; omega
    · obtain rfl : n = k := by omega
      obtain ⟨G0, Cp0, hown, hbl⟩ := hst.done (by omega)
      have HS0 : Hid (CSt wr wr B n (n + 1) G0 G0 Cp0 (aug n M v)) := CSt.start hown
      have HBL : Hid (∀ x, BlkC n B G0 x → w.heap.size ≤ x) := hbl
      have HXA : Hid (Ext w wr) := hst.ext
      have HAR : Hid ((redTo n (aug n M v) n).2 = n) := (aug_rank n M v).trans HRK.out
      generalize hw0 : wr = w1 at *
      clear hst hown hbl HV HH HI HML hw0
      go_wp2_with fail
      go_loopw [13] (fun cc wr => ∃ c : Nat, c ≤ n ∧ cc = .int .i64 c ∧ ∃ G Cp, CSt w1 wr B n (n + 1) G0 G Cp (swTo n (aug n M v) c).1) (fun cc _ => n - (intOf cc).toNat)
      case atStart => exact ⟨0, Nat.zero_le _, rfl, G0, Cp0, HS0.out⟩
      case round =>
        clear HS0
        obtain ⟨t, ht, rfl, G, Cp, hst⟩ := hrel
        by_cases hct : t < n
        · obtain ⟨p, hp1, hp2, hz, hnz, hnext⟩ := sw_next HAR.out hct
          have hleft := sw_left HAR.out (Nat.le_of_lt hct)
          have HZ : Hid (∀ s, t ≤ s → s < p → (swTo n (aug n M v) t).1 s t = ze) := hz
          have HNX : Hid (swTo n (aug n M v) (t + 1) = (elim n (swp (swTo n (aug n M v) t).1 t p) t t, t + 1)) := hnext
          have HLF : Hid (∀ i, t ≤ i → i < n → ∀ j, j < t → (swTo n (aug n M v) t).1 i j = ze) := hleft
          clear hz hnext hleft
          generalize (swTo n (aug n M v) t).1 = W at *
          have HCS : Hid (CSt w1 wr B n (n + 1) G0 G Cp W) := hst
          clear hst
          generalize hw0 : wr = wr0 at *
          clear hw0
          go_wp2_with fail
          go_loopw [14] (fun tt wi => ∃ q : Nat, t ≤ q ∧ q ≤ p ∧ tt = .int .i64 q ∧ wi = wr0) (fun tt _ => p - (intOf tt).toNat)
          case atStart => exact ⟨t, Nat.le_refl _, hp1, rfl, rfl⟩
          case round =>
            obtain ⟨q, hq1, hq2, rfl, rfl⟩ := hrel
            have hqn : q < n := by omega
            have hcq := HCS.out.own.top.cell hqn
            have hcv : wr.cell? ⟨G q, t, none⟩ = some (.int .i64 (ev (W q t))) := (HCS.out.own.row q hqn).cell (by omega)
            by_cases hqp : q < p
            · have hzb : (ev (W q t) == 0) = true := by rw [HZ.out q hq1 hqp]; rfl
              go_wp2_with fail
              go_roundw
              case rel => exact ⟨q + 1, by omega, by omega, by go_num, by first | rfl | trivial⟩
              case measure => simp [intOf]; omega
            · obtain rfl : q = p := by omega
              have hzb : (ev (W q t) == 0) = false := by rw [ev_isZe]; exact (isZe_false _).2 hnz
              have hc1 := HCS.out.own.top.cell hct
              have hf1 := HCS.out.own.top.frozen t
              have hf2 := HCS.out.own.top.frozen q
              obtain ⟨W3, hW3⟩ : ∃ W3, W3 = swp W t q := ⟨_, rfl⟩
              have HSW : Hid (CSt w1 ((wr.setCell ⟨B, q, none⟩ (.slice (some ⟨G t, 0, none⟩) (n + 1) (Cp t))).setCell ⟨B, t, none⟩ (.slice (some ⟨G q, 0, none⟩) (n + 1) (Cp q))) B n (n + 1) G0 (fun r => G (sw q t r)) (fun r => Cp (sw q t r)) W3) := by
                have h1 := HCS.out.swap hqn hct
                have e : swp W q t = W3 := by rw [hW3]; unfold swp; rw [sw_comm]
                rw [e] at h1
                exact h1
              have HNX2 : Hid (swTo n (aug n M v) (t + 1) = (elim n W3 t t, t + 1)) := by show _ = _; rw [hW3]; exact HNX.out
              have e3 : W3 t = W q := by rw [hW3]; unfold swp sw; rw [if_pos rfl]
              have HNZ : Hid (W3 t t ≠ ze) := by show W3 t t ≠ ze; rw [e3]; exact hnz
              have HL3 : Hid (∀ k, k < t → W3 t k = ze) := fun k hk => by rw [e3]; exact HLF.out q hq1 hqn k hk
              clear hW3 e3 HNX HZ HLF HCS hnz
              by_cases hp3 : t < q
              case' neg =>
                obtain rfl : t = q := by omega
                go_wp2_with fail
                go_region
                go_wp2_with fail
                generalize (wr.setCell ⟨B, t, none⟩ (.slice (some ⟨G t, 0, none⟩) (n + 1) (Cp t))).setCell ⟨B, t, none⟩ (.slice (some ⟨G t, 0, none⟩) (n + 1) (Cp t)) = w3 at *
                generalize hG3e : (fun r => G (sw t t r)) = G3 at HSW
                generalize hC3e : (fun r => Cp (sw t t r)) = C3 at HSW
              case' pos =>
                go_wp2_with fail
                go_region
                go_wp2_with fail
                generalize (wr.setCell ⟨B, q, none⟩ (.slice (some ⟨G t, 0, none⟩) (n + 1) (Cp t))).setCell ⟨B, t, none⟩ (.slice (some ⟨G q, 0, none⟩) (n + 1) (Cp q)) = w3 at *
                generalize hG3e : (fun r => G (sw q t r)) = G3 at HSW
                generalize hC3e : (fun r => Cp (sw q t r)) = C3 at HSW
              all_goals
                have HR4 : Hid (CSt w1 w3.drew B n (n + 1) G0 G3 C3 W3) := HSW.out.grow (Ext.refl w3).drew
                clear hG3e hC3e HSW hc1 hf1 hf2 hcq hcv hzb
                generalize w3.drew = w4 at *
                go_loopw [15] (fun i wi => ∃ j : Nat, t + 1 ≤ j ∧ j ≤ n ∧ i = .int .i64 j ∧ CSt w1 wi B n (n + 1) G0 G3 C3 (elim j W3 t t)) (fun i _ => n - (intOf i).toNat)
                case atStart => exact ⟨t + 1, Nat.le_refl _, by omega, by go_num, by rw [elim_start]; exact HR4.out⟩
                case round =>
                  clear HR4
                  obtain ⟨j, hj1, hj2, rfl, hrj⟩ := hrel
                  by_cases hjt : j < n
                  · have e1 : ∀ x, elim j W3 t t j x = W3 j x := fun x => if_neg (by omega)
                    have e2 : ∀ x, elim j W3 t t t x = W3 t x := fun x => if_neg (by omega)
                    generalize hWe : elim j W3 t t = W4 at *
                    have HNZ4 : Hid (W4 t t ≠ ze) := by show W4 t t ≠ ze; rw [e2]; exact HNZ.out
                    have gA := fun x : Gr wr => x.ext.keeps (hrj.own.top.cell hjt)
                    have gB := fun x : Gr wr => x.ext.keeps (hrj.own.top.cell hct)
                    have gC := fun x : Gr wr => x.ext.keeps ((hrj.own.row j hjt).cell (show t < n + 1 by omega))
                    have gD := fun x : Gr wr => x.ext.keeps ((hrj.own.row t hct).cell (show t < n + 1 by omega))
                    have HRJ : Hid (CSt w1 wr B n (n + 1) G0 G3 C3 W4) := hrj
                    have HWE : Hid (elim j W3 t t = W4) := hWe
                    clear hrj e1 e2 hWe
                    go_wp2_with fail
                    refine wp_region_grows 14 (by kernel_rfl) (by kernel_rfl) (fun hne => ?_)
                    simp only [List.take_succ_cons, List.take_zero, List.drop_succ_cons, List.drop_zero]
                    repeat (go_big_quiet_step (fail))
                    refine wpQuiet_nil ?_
                    intro w5 hw5
                    obtain ⟨x, rfl⟩ := hw5
                    have HR5 : Hid (CSt w1 x.w' B n (n + 1) G0 G3 C3 W4) := HRJ.out.grow x.ext
                    clear gA gB gC gD HRJ
                    generalize x.w' = w6 at *
                    go_wp2_with fail
                    refine (divOf_ev (W4 j t) (W4 t t) HNZ4.out _).mono ?_
                    rintro e w7 ⟨rfl, rfl⟩
                    go_wp2_with fail
                    go_loopw [17] (fun i wi => ∃ q : Nat, t ≤ q ∧ q ≤ n + 1 ∧ i = .int .i64 q ∧ CSt w1 wi B n (n + 1) G0 G3 C3 (elimL t q W4 t t j)) (fun i _ => n + 1 - (intOf i).toNat)
                    case atStart => exact ⟨t, Nat.le_refl _, by omega, rfl, by rw [elimL_start]; exact HR5.out⟩
                    case round =>
                      clear HR5
                      obtain ⟨q9, hq9, hq8, rfl, hrq⟩ := hrel
                      by_cases hqt : q9 ≤ n
                      · have e1 : elimL t q9 W4 t t j j q9 = W4 j q9 := if_neg (by omega)
                        have e2 : elimL t q9 W4 t t j t q9 = W4 t q9 := if_neg (by omega)
                        have r1 : wr.cell? ⟨G3 j, q9, none⟩ = some (.int .i64 (ev (W4 j q9))) := by rw [(hrq.own.row j hjt).cell (by omega)]; unfold evs; rw [e1]
                        have r2 : wr.cell? ⟨G3 t, q9, none⟩ = some (.int .i64 (ev (W4 t q9))) := by rw [(hrq.own.row t hct).cell (by omega)]; unfold evs; rw [e2]
                        have gA := fun x : Gr wr => x.ext.keeps (hrq.own.top.cell hjt)
                        have gB := fun x : Gr wr => x.ext.keeps (hrq.own.top.cell hct)
                        have gC := fun x : Gr wr => x.ext.keeps r1
                        have gD := fun x : Gr wr => x.ext.keeps r2
                        have HRQ : Hid (CSt w1 wr B n (n + 1) G0 G3 C3 (elimL t q9 W4 t t j)) := hrq
                        clear hrq e1 e2 r1 r2
                        go_wp2_with fail
                        refine wp_region_grows 18 (by kernel_rfl) (by kernel_rfl) (fun hne => ?_)
                        simp only [List.take_succ_cons, List.take_zero, List.drop_succ_cons, List.drop_zero]
                        repeat (go_big_quiet_step (first | (go_at_call 35; exact Calls.grown (mulOf_g (mu (W4 j t) (iv (W4 t t))) (W4 t q9) _))))
                        refine wpQuiet_nil ?_
                        intro w8 hw8
                        obtain ⟨x, rfl⟩ := hw8
                        have hcx := gC x
                        have hr9 := HRQ.out.grow x.ext
                        have hfx := (hr9.own.row j hjt).frozen q9
                        have HR9 : Hid (CSt w1 x.w' B n (n + 1) G0 G3 C3 (elimL t q9 W4 t t j)) := hr9
                        clear gA gB gC gD HRQ hr9
                        go_wp2_with fail
                        go_roundw
                        case rel =>
                          refine ⟨q9 + 1, by omega, by omega, by go_num, ?_⟩
                          have h6 := HR9.out.put hjt q9 (ad (W4 j q9) (mu (mu (W4 j t) (iv (W4 t t))) (W4 t q9)))
                          rw [elimL_put hq9] at h6
                          rw [xor_ev]
                          exact h6
                        case measure => simp [intOf]; omega
                      · obtain rfl : q9 = n + 1 := by omega
                        have HRQ : Hid (CSt w1 wr B n (n + 1) G0 G3 C3 (elim (j + 1) W3 t t)) := hrq.congr fun r _ i hi => by rw [← HWE.out]; exact elimL_all (by omega) HL3.out r i hi
                        clear hrq
                        go_wp2_with fail
                        go_roundw
                        case rel => exact ⟨j + 1, by omega, by omega, by go_num, HRQ.out⟩
                        case measure => simp [intOf]; omega
                  · obtain rfl : n = j := by omega
                    have HRJ : Hid (CSt w1 wr B n (n + 1) G0 G3 C3 (elim n W3 t t)) := hrj
                    clear hrj
                    go_wp2_with fail
                    go_roundw
                    case rel => exact ⟨t + 1, by omega, by go_num, G3, C3, by rw [HNX2.out]; exact HRJ.out⟩
                    case measure => simp [intOf]; omega
        · obtain rfl : n = t := by omega
          have HOC : Hid (OwnC wr B n (n + 1) G Cp (swTo n (aug n M v) n).1) := hst.own
          have HXW : Hid (Ext w wr) := Wro.after HXA.out hst.wro HBL.out
          obtain ⟨U, hU⟩ : ∃ U, U = (swTo n (aug n M v) n).1 := ⟨_, rfl⟩
          have HBS : Hid (∀ i, i < n → U i i ≠ ze ∧ mu (ad (U i n) (beh n i U (sol n M v))) (iv (U i i)) = sol n M v i) := fun i hi => back_step HRK.out hU i hi
          rw [← hU] at HOC
          clear hst hU HAR HBL HXA HRK
          generalize hw0 : wr = wS at *
          clear hw0
          have hmk := make_ints n (by omega)
          go_wp2_with fail
          clear hmk
          have hx0 : Ext wS (wS.alloc (.cells (madeCells #[.int .i64 0] n) 3)) := (Ext.refl wS).alloc _ _
          have hr0 : (wS.alloc (.cells (madeCells #[.int .i64 0] n) 3)).rowIs wS.heap.size 3 n (fun j => .int .i64 0) := World.rowIs_made wS (.int .i64 0) n 3
          generalize (wS.alloc (.cells (madeCells #[.int .i64 0] n) 3)) = w3 at *
          go_loopw [19] (fun ii wr => ∃ (t : Nat) (j : Int), t ≤ n ∧ j + 1 = t ∧ ii = .int .i64 j ∧ Ext wS wr ∧ wr.rowIs wS.heap.size 3 n (fun x => .int .i64 (bk t (fun i => ev (sol n M v i)) x))) (fun ii _ => (intOf ii + 1).toNat)
          case atStart => exact ⟨n, (n : Int) - 1, Nat.le_refl _, by omega, rfl, hx0, by
            obtain ⟨c, h1, h2, h3⟩ := hr0
            refine ⟨c, h1, h2, fun i hi => ?_⟩
            rw [h3 i hi]
            show some (Value.int .i64 0) = some (Value.int .i64 (if n ≤ i then ev (sol n M v i) else 0))
            rw [if_neg (by omega)]⟩
          case round =>
            clear hx0 hr0
            obtain ⟨t, j, ht, hjt, rfl, hx, hro⟩ := hrel
            by_cases ht0 : t = 0
            · subst ht0
              obtain rfl : j = -1 := by omega
              clear hjt ht
              have HRES : Hid (ListRes w wr (.returned (.slice (some ⟨wS.heap.size, 0, none⟩) n n)) n fun i => ev (sol n M v i)) := ⟨_, _, rfl, HXW.out.size, (Ints.row hro).congr fun j hj => if_pos (Nat.zero_le _)⟩
              have hxz := HXW.out.trans hx
              clear hro
              go_wp2_with fail
              go_ret
              exact ⟨HRES.out, hxz⟩
            · obtain ⟨i, rfl⟩ : ∃ i, t = i + 1 := ⟨t - 1, by omega⟩
              obtain rfl : j = (i : Int) := by omega
              have hin : i < n := by omega
              clear hjt ht ht0
              have hcB := hx.keeps (HOC.out.top.cell hin)
              have hcn : wr.cell? ⟨G i, n, none⟩ = some (.int .i64 (ev (U i n))) := hx.keeps ((HOC.out.row i hin).cell (show n < n + 1 by omega))
              have HRO : Hid (wr.rowIs wS.heap.size 3 n (fun x => .int .i64 (bk (i + 1) (fun i => ev (sol n M v i)) x))) := hro
              clear hro
              generalize hw0 : wr = wr0 at *
              clear hw0
              go_wp2_with fail
              clear hcB hcn
              go_loopw [20, 21] (fun s kk wi => ∃ q : Nat, i + 1 ≤ q ∧ q ≤ n ∧ kk = .int .i64 q ∧ s = .int .i64 (ev (ad (U i n) (beh q i U (sol n M v)))) ∧ Ext wr0 wi) (fun _ kk _ => n - (intOf kk).toNat)
              case atStart => exact ⟨i + 1, Nat.le_refl _, by omega, by go_num, by rw [beh_start, ad_ze], Ext.refl _⟩
              case round =>
                obtain ⟨q, hq1, hq2, rfl, rfl, hxi⟩ := hrel
                have hxs := hx.trans hxi
                by_cases hqt : q < n
                · have r3 : wr0.cell? ⟨wS.heap.size, q, none⟩ = some (.int .i64 (ev (sol n M v q))) := by rw [HRO.out.cell hqt]; unfold bk; rw [if_pos hq1]
                  have gA := fun x : Gr wr => x.ext.keeps (hxs.keeps (HOC.out.top.cell hin))
                  have gB := fun x : Gr wr => x.ext.keeps (hxs.keeps ((HOC.out.row i hin).cell (show q < n + 1 by omega)))
                  have gC := fun x : Gr wr => x.ext.keeps (hxi.keeps r3)
                  clear r3
                  go_wp2_with fail
                  refine wp_region_grows 14 (by kernel_rfl) (by kernel_rfl) (fun hne => ?_)
                  simp only [List.take_succ_cons, List.take_zero, List.drop_succ_cons, List.drop_zero]
                  repeat (go_big_quiet_step (first | (go_at_call 35; exact Calls.grown (mulOf_g (U i q) (sol n M v q) _))))
                  refine wpQuiet_nil ?_
                  intro w4 hw4
                  obtain ⟨x, rfl⟩ := hw4
                  clear gA gB gC
                  go_wp2_with fail
                  go_roundw
                  case rel => exact ⟨q + 1, by omega, by omega, by go_num, by rw [xor_ev, beh_next (by omega), ← ad_assoc], hxi.trans x.ext⟩
                  case measure => simp [intOf]; omega
                · obtain rfl : n = q := by omega
                  obtain ⟨hd1, hd2⟩ := HBS.out i hin
                  have HD : Hid (U i i ≠ ze ∧ mu (ad (U i n) (beh n i U (sol n M v))) (iv (U i i)) = sol n M v i) := ⟨hd1, hd2⟩
                  clear hd1 hd2
                  have hcB := hxs.keeps (HOC.out.top.cell hin)
                  have hcd : wr.cell? ⟨G i, i, none⟩ = some (.int .i64 (ev (U i i))) := hxs.keeps ((HOC.out.row i hin).cell (show i < n + 1 by omega))
                  have HR6 : Hid (wr.rowIs wS.heap.size 3 n (fun y => .int .i64 (bk (i + 1) (fun i => ev (sol n M v i)) y))) := hxi.rowIs HRO.out
                  have hc6 := HR6.out.cell hin
                  have hf6 := HR6.out.frozen i
                  go_wp2_with fail
                  refine (divOf_ev (ad (U i n) (beh n i U (sol n M v))) (U i i) HD.out.1 _).mono ?_
                  rintro e w6 ⟨rfl, rfl⟩
                  go_wp2_with fail
                  go_roundw
                  case rel =>
                    refine ⟨i, (i : Int) - 1, by omega, by omega, by go_num, hxs.setCell (p := ⟨wS.heap.size, i, none⟩) (Nat.le_refl _) _, ?_⟩
                    have h6 := HR6.out.set i (.int .i64 (ev (sol n M v i)))
                    rw [bk_next i fun i => ev (sol n M v i)] at h6
                    rw [HD.out.2]
                    exact h6
                  case measure => simp [intOf]
end Go.Proofs.Ytfdgacpmdlmjnaa
