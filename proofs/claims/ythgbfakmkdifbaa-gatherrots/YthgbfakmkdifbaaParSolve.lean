/-
  par.solve: what the lost data columns become; only these are written.
-/
import Derived.Test.YthgbfakmkdifbaaChecked
import Derived.WalkKit
import Derived.BigQuiet
import Derived.Deep.RegionLaw
import Derived.Deep.AppendLies
import Derived.Test.YthgbfakmkdifbaaParCopied
import Derived.Test.YthgbfakmkdifbaaPars
import Derived.Test.YthgbfakmkdifbaaByb
import Derived.Test.YthgbfakmkdifbaaMatRE
import Derived.Test.YthgbfakmkdifbaaQuiets
import Derived.Test.YthgbfakmkdifbaaApps
namespace Go.Proofs.Ythgbfakmkdifbaa
open Go.RowKit Go.Deep E
/-- the columns when the first k of the lost ones have come -/
def solZ (h : Nat → Nat) (S : Nat → Nat → E) (Z : Nat → Nat → E) : Nat → Nat → Nat → E
  | 0 => Z
  | k + 1 => fun r x => if r = h k then ad (solZ h S Z k r x) (S k x) else solZ h S Z k r x
theorem solZ_other {h : Nat → Nat} {S Z : Nat → Nat → E} {k r : Nat} (hr : ∀ b, b < k → h b ≠ r) (x : Nat) : solZ h S Z k r x = Z r x := by
  induction k with
  | zero => rfl
  | succ k ih =>
    show (if r = h k then _ else _) = _
    rw [if_neg (fun e => hr k (by omega) e.symm)]
    exact ih fun b hb => hr b (by omega)
theorem solZ_hole {h : Nat → Nat} {S Z : Nat → Nat → E} {k b : Nat} (hi : ∀ b b', b < k → b' < k → h b = h b' → b = b') (hb : b < k) (x : Nat) : solZ h S Z k (h b) x = ad (Z (h b) x) (S b x) := by
  induction k with
  | zero => omega
  | succ k ih =>
    show (if h b = h k then _ else _) = _
    by_cases e : b = k
    · subst e
      rw [if_pos rfl, solZ_other fun b' hb' q => by have := hi b' b (by omega) (by omega) q; omega]
    · rw [if_neg (fun q => e (hi b k hb (by omega) q))]
      exact ih (fun b b' h1 h2 => hi b b' (by omega) (by omega)) (by omega)
/-- what the used parity columns lack -/
def missE (n0 : Nat) (j : Nat → Nat) (Z : Nat → Nat → E) (a x : Nat) : E := ad (enc n0 Z (j a) x) (Z (n0 + j a) x)
def wtM (h j : Nat → Nat) (a b : Nat) : E := wt (j a) (h b)
def partE (t : Nat) (h j : Nat → Nat) (n0 : Nat) (Z : Nat → Nat → E) (q b x : Nat) : E := sm q fun a => mu (invM t (wtM h j) b a) (missE n0 j Z a x)
theorem BldB.first {w0 wr : World} {B n m n0 : Nat} {Z : Nat → Nat → E} {G : Nat → Nat} (h : BldB w0 wr B n m n Z G) (hn : n0 ≤ n) : Cols wr (some ⟨B, 0, none⟩) n0 (fun r => some ⟨G r, 0, none⟩) (fun _ => m) (fun _ => m) Z := fun r hr => h.cols r (by omega)
theorem u8_ne_i64 (x : Int) : ∀ z, Value.int .i64 x ≠ .int .u8 z := fun z e => by cases e
theorem u8_ne_slice (a : Option Addr) (n c : Nat) : ∀ z, Value.slice a n c ≠ .int .u8 z := fun z e => by cases e
set_option maxRecDepth 100000 in
set_option maxHeartbeats 4000000 in
theorem solve_any (B n m cd cp : Nat) (G : Nat → Nat) (Z : Nat → Nat → E) (n0 p : Nat) (al au : Option Addr) (cl cu t : Nat) (h j : Nat → Nat) (w0 w : World) (hb : BldB w0 w B n m n Z G) (hn : n0 + p = n) (hn0 : 1 ≤ n0 ∧ n0 ≤ 12) (hp : p ≤ 3) (hm : m ≤ 4096) (ht : t ≤ 3)
    (hl : Ints w al t fun i => (h i : Int)) (hu : Ints w au t fun i => (j i : Int)) (hh : ∀ b, b < t → h b < n0) (hj : ∀ a, a < t → j a < p) (hr : (redTo t (wtM h j) t).2 = t) :
    Calls Try.prog 76 #[.slice (some ⟨B, 0, none⟩) n0 cd, .slice (some ⟨B, n0, none⟩) p cp, .slice al t cl, .slice au t cu] w fun e w' => e = .returned (.tuple #[]) ∧ Wro (BlkB G n) w w' ∧ BldB w0 w' B n m n (solZ h (partE t h j n0 Z t) Z t) G := by
  have HB : Hid (BldB w0 w B n m n Z G) := hb
  have HL : Hid (Ints w al t fun i => (h i : Int)) := hl
  have HU : Hid (Ints w au t fun i => (j i : Int)) := hu
  have HH : Hid (∀ b, b < t → h b < n0) := hh
  have HJ : Hid (∀ a, a < t → j a < p) := hj
  have HR : Hid ((redTo t (wtM h j) t).2 = t) := hr
  clear hb hl hu hh hj hr
  by_cases ht0 : t = 0
  · subst ht0
    go_enter Try.func76, Try.ntmps76
    go_wp2_with fail
    refine bodyPost_ret (results_none rfl _ _ _) rfl ?_
    exact ⟨rfl, Wro.refl _ _, HB.out⟩
  have k0 : ((t : Int) == 0) = false := by rw [beq_eq_false_iff_ne]; omega
  have ht1 : 1 ≤ t := by omega
  clear ht0
  have hmk := make_rows t (by omega)
  have hmk' := make_cols t (by omega)
  go_enter Try.func76, Try.ntmps76
  go_wp2_with fail
  clear hmk hmk'
  have HW0 : Hid (GBld 30 3 w ((w.alloc (.cells (madeCells #[.slice none 0 0] t) 30)).alloc (.cells (madeCells #[.slice none 0 0] t) 22)) w.heap.size t t 0 (fun _ => .slice none 0 0) (fun a b => .int .i64 (ev (wtM h j a b)))) := (GBld.start w t t _).grow ((Ext.refl _).alloc _ _)
  have HM0 : Hid (BldB w ((w.alloc (.cells (madeCells #[.slice none 0 0] t) 30)).alloc (.cells (madeCells #[.slice none 0 0] t) 22)) (w.heap.size + 1) t m 0 (missE n0 j Z) (fun _ => 0)) := by
    have h1 := BldB.start (w.alloc (.cells (madeCells #[.slice none 0 0] t) 30)) t m (missE n0 j Z) (fun _ => 0)
    rw [World.size_alloc] at h1
    exact h1.back ((Ext.refl w).alloc _ _)
  generalize (w.alloc (.cells (madeCells #[.slice none 0 0] t) 30)).alloc (.cells (madeCells #[.slice none 0 0] t) 22) = w1 at *
  go_loopw [31] (fun i wr => ∃ k : Nat, k ≤ t ∧ i = .int .i64 k ∧ ∃ V G2, GBld 30 3 w wr w.heap.size t t k V (fun a b => .int .i64 (ev (wtM h j a b))) ∧ BldB w wr (w.heap.size + 1) t m k (missE n0 j Z) G2) (fun i _ => t - (intOf i).toNat)
  case atStart => exact ⟨0, Nat.zero_le _, rfl, _, _, HW0.out, HM0.out⟩
  case round =>
    clear HW0 HM0
    obtain ⟨k, hk, rfl, V, G2, hw, hmi⟩ := hrel
    have HW : Hid (GBld 30 3 w wr w.heap.size t t k V (fun a b => .int .i64 (ev (wtM h j a b)))) := hw
    have HM : Hid (BldB w wr (w.heap.size + 1) t m k (missE n0 j Z) G2) := hmi
    clear hw hmi
    by_cases hkt : k < t
    · obtain ⟨bu, ou, rfl, hcu⟩ := (HU.out.ext HM.out.ext) k hkt
      go_wp2_with fail
      clear hcu
      generalize hw0 : wr = wk at *
      clear hw0
      go_loopw [38] (fun i wi => ∃ q : Nat, q ≤ t ∧ i = .int .i64 q ∧ ∃ v, GInn 30 3 wk wi w.heap.size t k q V v (fun b => .int .i64 (ev (wtM h j k b)))) (fun i _ => t - (intOf i).toNat)
      case atStart => exact ⟨0, Nat.zero_le _, rfl, _, GInn.start HW.out hkt _⟩
      case round =>
        obtain ⟨q, hq, rfl, v, hi⟩ := hrel
        have HI : Hid (GInn 30 3 wk wr w.heap.size t k q V v (fun b => .int .i64 (ev (wtM h j k b)))) := hi
        have HX : Hid (Ext w wr) := Wro.after HW.out.ext hi.wro (fun i hi => by rw [hi]; exact Nat.le_refl _)
        clear hi
        by_cases hqt : q < t
        · obtain ⟨bl, ol, rfl, hcl⟩ := (HL.out.ext HX.out) q hqt
          have hct := HI.out.top.cell hkt
          rw [if_pos rfl] at hct
          have hjk := HJ.out k hkt
          have hhq := HH.out q hqt
          have HC : Hid (∀ w', Calls Try.prog 64 #[.int .i64 (j k), .int .i64 (h q)] w' fun e w'' => e = .returned (.int .i64 (ev (wtM h j k q))) ∧ Ext w' w'') := fun w' => weight_any (j k) (h q) w' (by omega) (by omega)
          have HKP : Hid (∀ w', Ext wr w' → w'.cell? ⟨w.heap.size, k, none⟩ = some v) := fun w' x => x.keeps hct
          have HOW : Hid (∀ w', Ext wr w' → (w'.alloc (.cells #[.int .i64 (ev (wtM h j k q))] 3)).ownsRow wk.heap.size 3 1 v q ((List.range q).map fun b => .int .i64 (ev (wtM h j k b)))) := fun w' x => own_ext HI.out.cur (x.alloc _ _)
          have HNX : Hid (∀ w' w'' v', Ext wr w' → w''.ownsRow wk.heap.size 3 1 v' (q + 1) ((List.range q).map (fun b => .int .i64 (ev (wtM h j k b))) ++ [.int .i64 (ev (wtM h j k q))]) → (w'.alloc (.cells #[.int .i64 (ev (wtM h j k q))] 3)).grownBy w'' v.ownBlock →
              GInn 30 3 wk (w''.setCell ⟨w.heap.size, k, none⟩ v') w.heap.size t k (q + 1) V v' (fun b => .int .i64 (ev (wtM h j k b))) ∧ w''.cell? ⟨w.heap.size, k, none⟩ = some v ∧ w''.frozen? ⟨w.heap.size, k, none⟩ = false) := fun w' w'' v' x own g => by
            obtain ⟨h1, h2⟩ := HI.out.next (by decide) (x.alloc _ _) own g
            refine ⟨h1, ?_, h2.frozen k⟩
            rw [h2.cell hkt, if_pos rfl]
          have HSZ : Hid (∀ w', Ext wr w' → wk.heap.size ≤ (w'.alloc (.cells #[.int .i64 (ev (wtM h j k q))] 3)).heap.size) := fun w' x => by
            have h1 := HI.out.wro.size
            have h2 := x.size
            simp; omega
          have HNW : Hid (∀ (w' : World) j' u, [Value.int .i64 (ev (wtM h j k q))][j']? = some u → (w'.alloc (.cells #[.int .i64 (ev (wtM h j k q))] 3)).cell? ((⟨w'.heap.size, 0, none⟩ : Addr).add j') = some u) := by
            intro w' j' y hj'
            match j', hj' with
            | 0, hj' => cases hj'; simp [Addr.add]
          have HONE : Hid (∀ u ∈ [Value.int .i64 (ev (wtM h j k q))], u.oneCell' = true) := by
            intro y hy; simp at hy; subst hy; rfl
          obtain ⟨i0, hi0, hz0, hz1, hz2⟩ := info_parts infoInt
          have HI0 : Hid (Try.prog.info? 3 = some i0 ∧ i0.zero = some (.int .i64 0) ∧ i0.size = 1 ∧ i0.bytes = 8) := ⟨hi0, hz0, hz1, hz2⟩
          clear hi0 hz0 hz1 hz2
          have HFN : Hid ((Try.f64.name == "runtime.NumGoroutine") = false ∧ Try.f64.body.isNone = false) := ⟨by kernel_rfl, by kernel_rfl⟩
          have hqb : q + 1 ≤ maxLen := by unfold maxLen; omega
          go_wp2_with fail
          clear hcl
          go_region_law (first
            | (refine step_call (by rfl) 64 Try.func64 HFN.out.1 HFN.out.2 _ _ (by rfl) [.int .i64 (j k), .int .i64 (h q)] (by rfl) (.int .i64 (ev (wtM h j k q))) (fun w'' => Ext wr.drew w'') (HC.out wr.drew) ?_; intro w2 hx2; have hx3 : Ext wr w2 := (Ext.refl wr).drew.trans hx2; have hc2 := HKP.out w2 hx3; have hc3 := HKP.out (w2.alloc (.cells #[.int .i64 (ev (wtM h j k q))] 3)) (hx3.alloc _ _))
            | (refine step_append_lies _ (by rfl) _ _ 30 (by rfl) wk.heap.size 3 i0 (.int .i64 0) 1 8 Try.underlying30 HI0.out.1 HI0.out.2.1 HI0.out.2.2.1 HI0.out.2.2.2 (by rfl) (by omega) v q ((List.range q).map fun b => .int .i64 (ev (wtM h j k b))) (by rfl) (HOW.out w2 hx3) ⟨w2.heap.size, 0, none⟩ 1 1 [.int .i64 (ev (wtM h j k q))] (by rfl) (by rfl) (HNW.out w2) HONE.out (by omega) hqb (by omega) (HSZ.out w2 hx3) (w2.heap.size + 1) (by simp) ?_; intro g cap w5 hown5 hgrow5 hat5 hlt5; have hnx := HNX.out w2 w5 _ hx3 hown5 hgrow5; obtain ⟨hn1, hn2, hn3⟩ := hnx))
          all_goals
            have HN1 : Hid (GInn 30 3 wk (w5.setCell ⟨w.heap.size, k, none⟩ (.slice (some ⟨g, 0, none⟩) (q + 1) cap)) w.heap.size t k (q + 1) V (.slice (some ⟨g, 0, none⟩) (q + 1) cap) (fun b => .int .i64 (ev (wtM h j k b)))) := hn1
            clear hown5 hgrow5 hat5 hlt5 hn1 hn2 hn3
            go_wp2_with fail
            go_roundw
            case rel => exact ⟨q + 1, by omega, by go_num, _, HN1.out⟩
            case measure => simp [intOf]; omega
        · obtain rfl : t = q := by omega
          have HW2 : Hid (GBld 30 3 w wr w.heap.size t t (k + 1) (fun r => if r = k then v else V r) (fun a b => .int .i64 (ev (wtM h j a b)))) := HI.out.done (by decide) HW.out (Nat.le_refl _)
          have HM2 : Hid (BldB w wr (w.heap.size + 1) t m k (missE n0 j Z) G2) := HM.out.wro1 HI.out.wro (Nat.le_refl _) HW.out.top (by decide) (by decide)
          have hjk := HJ.out k hkt
          go_wp2_with fail
          refine (encoded_any _ n0 cd _ _ _ Z (j k) m _ ⟨hn0.1, by omega⟩ (by omega) (by omega) ((HB.out.grow HX.out).first (by omega)) (fun r hr => rfl)).mono ?_
          rintro e w4 ⟨rfl, hr4, hx4⟩
          have hm4 := HM2.out.grow hx4
          have hct := hm4.top.cell hkt
          rw [if_neg (by omega)] at hct
          have hft := hm4.top.frozen k
          have hput := (HM2.out.congr (Z' := fun r => if r = k then enc n0 Z (j k) else missE n0 j Z r) fun r hr i _ => by rw [if_neg (by omega)]).put (by omega) hx4 (Nat.le_refl _) (by rw [if_pos rfl]; exact hr4)
          have HPT : Hid (BldB w (w4.setCell ⟨w.heap.size + 1, k, none⟩ (.slice (some ⟨wr.heap.size, 0, none⟩) m m)) (w.heap.size + 1) t m (k + 1) (fun r => if r = k then enc n0 Z (j k) else missE n0 j Z r) (fun r => if r = k then wr.heap.size else G2 r)) := hput
          have HW5 : Hid (GBld 30 3 w (w4.setCell ⟨w.heap.size + 1, k, none⟩ (.slice (some ⟨wr.heap.size, 0, none⟩) m m)) w.heap.size t t (k + 1) (fun r => if r = k then v else V r) (fun a b => .int .i64 (ev (wtM h j a b)))) := (HW2.out.grow hx4).wro1 (b := w.heap.size + 1) ((Wro.refl (· = w.heap.size + 1) w4).setCell (p := ⟨w.heap.size + 1, k, none⟩) rfl _) (by omega) hm4.top (by decide) (by decide)
          clear hm4 hput hr4
          go_wp2_with fail
          clear hct hft
          generalize w4.setCell ⟨w.heap.size + 1, k, none⟩ (.slice (some ⟨wr.heap.size, 0, none⟩) m m) = w5 at *
          generalize wr.heap.size = gk at *
          have hx5 := HPT.out.ext
          have hc1 := HPT.out.top.cell hkt
          rw [if_pos (by omega), if_pos rfl] at hc1
          have hc2 := (HB.out.grow hx5).top.cell (i := n0 + j k) (by omega)
          rw [if_pos (by omega)] at hc2
          have g1 := fun y : Gr w5 => y.ext.keeps hc1
          have g2 := fun y : Gr w5 => y.ext.keeps hc2
          have hjp : (j k : Int) < (p : Int) := by omega
          clear hc1 hc2
          refine wp_region_grows 8 (by kernel_rfl) (by kernel_rfl) (fun hne => ?_)
          simp only [List.take_succ_cons, List.take_zero, List.drop_succ_cons, List.drop_zero]
          repeat (go_big_quiet_step (fail))
          refine wpQuiet_nil ?_
          intro w6 hw6
          obtain ⟨y, rfl⟩ := hw6
          have HPT6 : Hid (BldB w y.w' (w.heap.size + 1) t m (k + 1) (fun r => if r = k then enc n0 Z (j k) else missE n0 j Z r) (fun r => if r = k then gk else G2 r)) := HPT.out.grow y.ext
          have HW6 : Hid (GBld 30 3 w y.w' w.heap.size t t (k + 1) (fun r => if r = k then v else V r) (fun a b => .int .i64 (ev (wtM h j a b)))) := HW5.out.grow y.ext
          have HRK : Hid (y.w'.rowIs gk 5 m (bvs (enc n0 Z (j k)))) := by
            have := HPT6.out.row k (by omega)
            rw [if_pos rfl, if_pos rfl] at this
            exact this
          have HDK : Hid (Byts y.w' (some ⟨G (n0 + j k), 0, none⟩) m (Z (n0 + j k))) := Byts.row ((HB.out.grow (hx5.trans y.ext)).row (n0 + j k) (by omega)) (Nat.le_refl _)
          have HGE : Hid (w.heap.size ≤ gk) := by
            have h2 := (HPT6.out.old k (by omega)).1
            rw [if_pos rfl] at h2
            exact h2
          have HNE : Hid (G (n0 + j k) ≠ gk) := by
            have h1 := (HB.out.row (n0 + j k) (by omega)).lt
            have h2 := HGE.out
            show _ ≠ _
            omega
          clear g1 g2
          go_wp2_with fail
          refine (paddTimes_any gk m m m (some ⟨G (n0 + j k), 0, none⟩) m m on (enc n0 Z (j k)) (Z (n0 + j k)) _ (Nat.le_refl _) (Nat.le_refl _) (by omega) HRK.out HDK.out (fun _ q hq => by cases hq; exact HNE.out)).mono ?_
          rintro e w7 ⟨rfl, hr7, hw7⟩
          have HM7 : Hid (BldB w w7 (w.heap.size + 1) t m (k + 1) (missE n0 j Z) (fun r => if r = k then gk else G2 r)) := by
            have hg2k : (if k = k then gk else G2 k) = gk := if_pos rfl
            have hr8 : w7.rowIs gk 5 m (bvs (missE n0 j Z k)) := hr7.congr fun i hi => by
              unfold bvs upto missE
              rw [if_pos hi]
              dsimp only
              rw [on_mu]
            refine (HPT6.out.turn (r := k) (by omega) (missE n0 j Z k) (by rw [hg2k]; exact hw7) (by rw [hg2k]; exact hr8)).congr fun r hr i _ => ?_
            by_cases e : r = k
            · rw [if_pos e, e]
            · rw [if_neg e, if_neg e]
          have HW7 : Hid (GBld 30 3 w w7 w.heap.size t t (k + 1) (fun r => if r = k then v else V r) (fun a b => .int .i64 (ev (wtM h j a b)))) := HW6.out.wro1 hw7 HGE.out HRK.out (by decide) (by decide)
          clear hr7 hw7
          go_wp2_with fail
          go_roundw
          case rel => exact ⟨k + 1, by omega, by go_num, _, _, HW7.out, HM7.out⟩
          case measure => simp [intOf]; omega
    · obtain rfl : t = k := by omega
      obtain ⟨Aw, Cw, hmat⟩ := HW.out.mat
      have HMAT : Hid (Mat wr (some ⟨w.heap.size, 0, none⟩) t Aw (fun _ => t) Cw fun a b => ev (wtM h j a b)) := hmat
      have hx1 := HM.out.ext
      clear hmat
      go_wp2_with fail
      refine (Invert_yes _ t t Aw Cw (wtM h j) _ ⟨ht1, by omega⟩ HMAT.out HR.out).mono ?_
      rintro e w5 ⟨⟨ai, ci, Ai, Ci, rfl, hI⟩, hx5⟩
      obtain ⟨bi, oi, rfl, hci⟩ := hI.at (by omega)
      have HCI : Hid (∀ r, r < t → w5.cell? ⟨bi, oi + r, none⟩ = some (.slice (Ai r) t (Ci r))) := hci
      have HII : Hid (∀ r, r < t → Ints w5 (Ai r) t fun i => ev (invM t (wtM h j) r i)) := fun r hr => hI.row hr
      have hx15 := hx1.trans hx5
      have HB5 : Hid (BldB w0 w5 B n m n Z G) := HB.out.grow hx15
      have HM5 : Hid (BldB w w5 (w.heap.size + 1) t m t (missE n0 j Z) G2) := HM.out.grow hx5
      have HL5 : Hid (Ints w5 al t fun i => (h i : Int)) := HL.out.ext hx15
      have HGL : Hid (∀ r, r < n → G r < w.heap.size) := fun r hr => (HB.out.row r hr).lt
      have HWW : Hid (Ext w w5) := hx15
      clear hci hI HMAT HM HW HB HU HL hx1 hx5 hx15 HJ HR
      go_wp2_with fail
      go_loopw [78] (fun i wr => ∃ k : Nat, k ≤ t ∧ i = .int .i64 k ∧ Wro (BlkB G n) w5 wr ∧ BldB w0 wr B n m n (solZ h (partE t h j n0 Z t) Z k) G) (fun i _ => t - (intOf i).toNat)
      case atStart => exact ⟨0, Nat.zero_le _, rfl, Wro.refl _ _, HB5.out⟩
      case round =>
        obtain ⟨k, hk, rfl, hwk, hbk⟩ := hrel
        by_cases hkt : k < t
        · obtain ⟨bl, ol, rfl, hcl0⟩ := HL5.out k hkt
          have hcl := HB5.out.keeps hwk hcl0 (u8_ne_i64 _)
          have hcb := HB5.out.keeps hwk (HCI.out k hkt) (u8_ne_slice _ _ _)
          have hhk := HH.out k hkt
          obtain ⟨bI, oI, hAI, hcIs⟩ := (HII.out k hkt).at (by omega)
          have HCIS : Hid (∀ i, i < t → w5.cell? ⟨bI, oI + i, none⟩ = some (.int .i64 (ev (invM t (wtM h j) k i)))) := hcIs
          rw [hAI] at hcb
          clear hcIs hAI
          have HBK : Hid (BldB w0 wr B n m n (solZ h (partE t h j n0 Z t) Z k) G) := hbk
          have HWK : Hid (Wro (BlkB G n) w5 wr) := hwk
          clear hcl0 hbk hwk
          go_wp2_with fail
          clear hcl hcb
          generalize hw0 : wr = wk at *
          clear hw0
          go_loopw [88] (fun i wi => ∃ q : Nat, q ≤ t ∧ i = .int .i64 q ∧ Wro (BlkB G n) w5 wi ∧ BldB w0 wi B n m n (fun r x => if r = h k then ad (solZ h (partE t h j n0 Z t) Z k r x) (partE t h j n0 Z q k x) else solZ h (partE t h j n0 Z t) Z k r x) G) (fun i _ => t - (intOf i).toNat)
          case atStart =>
            refine ⟨0, Nat.zero_le _, rfl, HWK.out, HBK.out.congr fun r _ i _ => ?_⟩
            by_cases e : r = h k
            · rw [if_pos e]; exact (ad_ze _).symm
            · rw [if_neg e]
          case round =>
            obtain ⟨q, hq, rfl, hwq, hbq⟩ := hrel
            have HBQ : Hid (BldB w0 wr B n m n (fun r x => if r = h k then ad (solZ h (partE t h j n0 Z t) Z k r x) (partE t h j n0 Z q k x) else solZ h (partE t h j n0 Z t) Z k r x) G) := hbq
            have HWQ : Hid (Wro (BlkB G n) w5 wr) := hwq
            clear hbq hwq
            by_cases hqt : q < t
            · have hcI := HB5.out.keeps HWQ.out (HCIS.out q hqt) (u8_ne_i64 _)
              have hc1 := HBQ.out.top.cell (i := h k) (by omega)
              rw [if_pos (by omega)] at hc1
              have hc2' := HM5.out.top.cell hqt
              rw [if_pos hqt] at hc2'
              have hc2 := HB5.out.keeps HWQ.out hc2' (u8_ne_slice _ _ _)
              have g1 := fun y : Gr wr => y.ext.keeps hc1
              have g2 := fun y : Gr wr => y.ext.keeps hc2
              have hhn : (h k : Int) < (n0 : Int) := by omega
              have HNG : Hid (∀ r, r < n → G2 q ≠ G r) := fun r hr => by
                have h1 := HGL.out r hr
                have h2 := (HM5.out.old q hqt).1
                omega
              have HDQ : Hid (Byts wr (some ⟨G2 q, 0, none⟩) m (missE n0 j Z q)) := (Byts.row (HM5.out.row q hqt) (Nat.le_refl _)).wro HWQ.out fun p hp hS => by
                cases hp
                obtain ⟨r, hr, e⟩ := hS
                exact HNG.out r hr e
              clear hc1 hc2 hc2'
              go_wp2_with fail
              clear hcI
              refine wp_region_grows 9 (by kernel_rfl) (by kernel_rfl) (fun hne => ?_)
              simp only [List.take_succ_cons, List.take_zero, List.drop_succ_cons, List.drop_zero]
              repeat (go_big_quiet_step (fail))
              refine wpQuiet_nil ?_
              intro w6 hw6
              obtain ⟨y, rfl⟩ := hw6
              have HRK : Hid (y.w'.rowIs (G (h k)) 5 m (bvs fun x => ad (solZ h (partE t h j n0 Z t) Z k (h k) x) (partE t h j n0 Z q k x))) := by
                have := y.ext.rowIs (HBQ.out.row (h k) (by omega))
                exact this.congr fun i _ => by unfold bvs; dsimp only; rw [if_pos rfl]
              have HDK : Hid (Byts y.w' (some ⟨G2 q, 0, none⟩) m (missE n0 j Z q)) := HDQ.out.ext y.ext
              clear g1 g2
              go_wp2_with fail
              refine (paddTimes_any (G (h k)) m m m (some ⟨G2 q, 0, none⟩) m m (invM t (wtM h j) k q) _ (missE n0 j Z q) _ (Nat.le_refl _) (Nat.le_refl _) (by omega) HRK.out HDK.out (fun _ p' hp' => by cases hp'; exact HNG.out (h k) (by omega))).mono ?_
              rintro e w7 ⟨rfl, hr7, hw7⟩
              have HW7 : Hid (Wro (BlkB G n) w5 w7) := (HWQ.out.then_ext y.ext).trans (hw7.mono fun b hb => ⟨h k, by omega, hb⟩)
              have HB7 : Hid (BldB w0 w7 B n m n (fun r x => if r = h k then ad (solZ h (partE t h j n0 Z t) Z k r x) (partE t h j n0 Z (q + 1) k x) else solZ h (partE t h j n0 Z t) Z k r x) G) := by
                refine ((HBQ.out.grow y.ext).turn (r := h k) (by omega) (fun x => ad (solZ h (partE t h j n0 Z t) Z k (h k) x) (partE t h j n0 Z (q + 1) k x)) hw7 (hr7.congr fun i hi => ?_)).congr fun r hr i _ => ?_
                · unfold bvs upto
                  rw [if_pos hi]
                  dsimp only
                  rw [ad_assoc]
                  rfl
                · by_cases e : r = h k
                  · rw [if_pos e, if_pos e, e]
                  · rw [if_neg e, if_neg e, if_neg e]
              clear hr7 hw7
              go_wp2_with fail
              go_roundw
              case rel => exact ⟨q + 1, by omega, by go_num, HW7.out, HB7.out⟩
              case measure => simp [intOf]; omega
            · obtain rfl : t = q := by omega
              go_wp2_with fail
              go_roundw
              case rel => exact ⟨k + 1, by omega, by go_num, HWQ.out, HBQ.out⟩
              case measure => simp [intOf]; omega
        · obtain rfl : t = k := by omega
          go_wp2_with fail
          go_end0
          exact ⟨rfl, (Wro.ext HWW.out).trans hwk, hbk⟩
end Go.Proofs.Ythgbfakmkdifbaa
