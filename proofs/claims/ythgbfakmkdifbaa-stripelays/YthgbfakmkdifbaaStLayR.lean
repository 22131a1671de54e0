/-
  The document's StripeLay at every four ints and bytes: what stands in the columns of a block; the world only grows.
-/
import Derived.Test.YthgbfakmkdifbaaChecked
import Derived.WalkKit
import Derived.BigQuiet
import Derived.Deep.CutRange
import Derived.Deep.QuietTactic
import Derived.Deep.RegionLaw
import Derived.Deep.DeepCutAuto
import Derived.Deep.LoopGhost
import Derived.Deep.CutBlock
import Derived.Test.YthgbfakmkdifbaaStp
import Derived.Test.YthgbfakmkdifbaaGeoColR
import Derived.Test.YthgbfakmkdifbaaRefEncode
import Derived.Test.YthgbfakmkdifbaaKeepTorn
import Derived.Test.YthgbfakmkdifbaaRefPicks
namespace Go.Proofs.Ythgbfakmkdifbaa
open Go.RowKit Go.Deep E
structure LayI (base : Nat) (wr : World) (vo vl : Value) (ko kl d p c n M : Nat) (B : Nat → E) (Vo Vl : Nat → Value) : Prop where
  own : CApp base wr vo ko Vo (fun s => wdB d p c (p + s)) (datF d p c n B)
  long : CApp base wr vl kl Vl (fun _ => M) (lonF d p c n B)
  ap : ∀ g, vo.ownBlock = some g → vl.ownBlock ≠ some g
theorem LayI.ext {base : Nat} {wr w' : World} {vo vl : Value} {ko kl d p c n M : Nat} {B : Nat → E} {Vo Vl : Nat → Value} (h : LayI base wr vo vl ko kl d p c n M B Vo Vl) (x : Ext wr w') : LayI base w' vo vl ko kl d p c n M B Vo Vl := ⟨h.own.ext x, h.long.ext x, h.ap⟩
theorem LayI.nextO {base : Nat} {w wa w5 : World} {vo vl v' u : Value} {ko kl d p c n M g : Nat} {B : Nat → E} {Vo Vl : Nat → Value} {cs : Array Value} {t : TypeId} (h : LayI base w vo vl ko kl d p c n M B Vo Vl) (ha : wa = w.alloc (.cells cs t)) (hr : w.ownsRow base 5 1 u (wdB d p c (p + ko)) ((List.range (wdB d p c (p + ko))).map (bvs (datF d p c n B ko))))
    (ht : w5.ownsRow base 22 1 v' (ko + 1) ((List.range ko).map Vo ++ [u])) (gr : wa.grownBy w5 vo.ownBlock) (hv : v'.ownBlock = some g) (hg : vo.ownBlock = some g ∨ w.heap.size < g) :
    LayI base w5 v' vl (ko + 1) kl d p c n M B (fun s => if s < ko then Vo s else u) Vl := by
  have x : Ext w wa := by rw [ha]; exact (Ext.refl w).alloc _ _
  refine ⟨(h.own.ext x).next (own_ext hr x) ht gr, (h.long.ext x).kept (h.own.ext x).top gr h.ap, fun q hq => ?_⟩
  rw [hv] at hq
  cases hq
  rcases hg with e | e
  · exact h.ap g e
  · intro e2
    have := h.long.block e2
    omega
theorem LayI.nextL {base : Nat} {w wa w5 : World} {vo vl v' u : Value} {ko kl d p c n M g : Nat} {B : Nat → E} {Vo Vl : Nat → Value} {cs : Array Value} {t : TypeId} (h : LayI base w vo vl ko kl d p c n M B Vo Vl) (ha : wa = w.alloc (.cells cs t)) (hr : w.ownsRow base 5 1 u M ((List.range M).map (bvs (lonF d p c n B kl))))
    (ht : w5.ownsRow base 22 1 v' (kl + 1) ((List.range kl).map Vl ++ [u])) (gr : wa.grownBy w5 vl.ownBlock) (hv : v'.ownBlock = some g) (hg : vl.ownBlock = some g ∨ w.heap.size < g) :
    LayI base w5 vo v' ko (kl + 1) d p c n M B Vo (fun s => if s < kl then Vl s else u) := by
  have x : Ext w wa := by rw [ha]; exact (Ext.refl w).alloc _ _
  refine ⟨(h.own.ext x).kept (h.long.ext x).top gr fun q hq e => h.ap q e hq, (h.long.ext x).next (own_ext hr x) ht gr, fun q hq => ?_⟩
  rw [hv]
  intro e
  cases e
  rcases hg with e | e
  · exact h.ap g hq e
  · have := h.own.block hq
    omega
set_option maxRecDepth 100000 in
set_option maxHeartbeats 4000000 in
theorem StripeLay_any (d p a : Int) (b : Option Addr) (n cn : Nat) (B : Nat → E) (w : World) (hb : n ≤ 9223372036854775807) (h : Byts w b n B) :
    Calls Try.prog 10 #[.int .i64 d, .int .i64 p, .int .i64 a, .slice b n cn] w fun e w' => LayRes w' e d p a n B ∧ Ext w w' := by
  have HB : Hid (Byts w b n B) := h
  clear h
  cases hs : szOk n with
  | false =>
    have hn : ¬ (1 ≤ n ∧ n ≤ 4096) := fun h1 => by rw [(szOk_iff n).2 h1] at hs; cases hs
    have HE : Hid (stOkB d p a n = false ∧ stE d p a n = 1) := by
      show _ ∧ _
      unfold stOkB stE
      rw [hs]
      exact ⟨rfl, rfl⟩
    clear hs
    by_cases h1 : (n : Int) < 1
    · go_enter Try.func10, Try.ntmps10
      go_wp2_with fail
      go_ret2
      unfold LayRes
      rw [HE.out.1, HE.out.2, if_neg (by simp)]
      exact ⟨rfl, Ext.refl _⟩
    · have h2 : (4096 : Int) < n := by omega
      go_enter Try.func10, Try.ntmps10
      go_wp2_with fail
      go_ret2
      unfold LayRes
      rw [HE.out.1, HE.out.2, if_neg (by simp)]
      exact ⟨rfl, Ext.refl _⟩
  | true =>
    have hnb := (szOk_iff n).1 hs
    have hsb := secs_bd hs
    obtain ⟨c, hc⟩ : ∃ c, secs n = c := ⟨_, rfl⟩
    have HC : Hid (secs n = c) := hc
    have HSZ : Hid (szOk n = true) := hs
    rw [hc] at hsb
    clear hc hs
    have i1 : ¬ ((n : Int) < 1) := by omega
    have i2 : ¬ ((4096 : Int) < n) := by omega
    go_enter Try.func10, Try.ntmps10
    go_wp2_with fail
    go_loopw [10] (fun i wr => ∃ k : Nat, 1 ≤ k ∧ k ≤ c ∧ i = .int .i64 k ∧ Ext w wr) (fun i _ => c - (intOf i).toNat)
    case atStart => exact ⟨1, by omega, by omega, by simp, Ext.refl _⟩
    case round =>
      obtain ⟨k, hk1, hk, rfl, hx0⟩ := hrel
      by_cases hlt : k < c
      · have i3 : (128 : Int) * k < n := by omega
        have i4 : (k : Int) * 128 < n := by omega
        go_wp2_with fail
        go_roundw
        case rel => exact ⟨k + 1, by omega, by omega, by go_num, hx0⟩
        case measure => simp [intOf]; omega
      · obtain rfl : k = c := by omega
        have i3 : ¬ ((128 : Int) * k < n) := by omega
        have i4 : ¬ ((k : Int) * 128 < n) := by omega
        have hG := GeomColumns_any d p a k wr
        have HST : Hid (stE d p a n = gcE d p a k) := by
          show _ = _
          unfold stE
          rw [HSZ.out, HC.out]
          rfl
        have HSO : Hid (stOkB d p a n = okG d p a k) := by
          show _ = _
          unfold stOkB
          rw [HSZ.out, HC.out]
          rfl
        cases ho : okG d p a k with
        | false =>
          have HO : Hid (okG d p a k = false) := ho
          have HGE : Hid (gcE d p a k = 2) := by show _ = _; unfold gcE; rw [ho]; rfl
          go_wp2_with fail
          refine hG.mono ?_
          rintro e w1 ⟨⟨ad, m, cp, rfl, hl, hn8, hE, hcp⟩, hx⟩
          rw [HGE.out]
          clear hl hE
          go_wp2_with fail
          go_ret2
          unfold LayRes
          rw [HST.out, HSO.out, HO.out, HGE.out, if_neg (by simp)]
          exact ⟨rfl, hx0.trans hx⟩
        | true =>
          have HGE : Hid (gcE d p a k = 0) := by show _ = _; unfold gcE; rw [ho]; rfl
          have hk2 := HSO.out.trans ho
          obtain ⟨x, y, z, rfl, rfl, rfl, hz, hoo, _⟩ := stOk_nat hk2
          rw [HC.out] at hoo
          have HO : Hid (StOk x y k) := hoo
          have HK2 : Hid (stOkB x y z n = true) := hk2
          have HOG : Hid (okG x y z k = true) := ho
          clear hoo hk2 ho
          go_wp2_with fail
          refine hG.mono ?_
          rintro e w1 ⟨⟨ad, m, cp, rfl, hl, hn8, hE, hcp⟩, hx⟩
          rw [HGE.out]
          unfold gcL at hl hE
          rw [HOG.out] at hl hE
          simp only [if_true, Int.toNat_natCast] at hl hE
          have hm : m = colN x y k := by rw [← hl]; unfold colsL; rw [List.length_map, List.length_range]
          have HCN : Hid (CnS w1 ad x y z k 0 m) := by
            show CnS w1 ad x y z k 0 m
            unfold CnS
            rw [hm]
            have e : (fun i => cell4 x y z (cntC x y k) (0 + i)) = cell4 x y z (cntC x y k) := by funext i; rw [Nat.zero_add]
            rw [e]
            exact hE
          have HB1 : Hid (Byts w1 b n B) := HB.out.ext (hx0.trans hx)
          have HMN : Hid (m = colN x y k) := hm
          clear hl hE hm HSO HST HOG
          have hN := HO.out.N
          rw [← HMN.out] at hN
          have HS0 : Hid ((w1.alloc (.cells #[] 5)).ownsRow w1.heap.size 5 1 (.slice (some ⟨w1.heap.size, 0, none⟩) 0 0) 0 []) := own_empty w1 (Nat.le_refl _) _
          have HB2 : Hid (∀ i, i < n → ∃ bb o, b = some ⟨bb, o, none⟩ ∧ (w1.alloc (.cells #[] 5)).cell? ⟨bb, o + i, none⟩ = some (bvs B i)) := fun i hi => by
            obtain ⟨bb, o, h1, h2⟩ := HB1.out i hi
            exact ⟨bb, o, h1, alloc_keeps h2 _⟩
          go_wp2_with (first | (at_builtin; refine append_vals (w1.alloc (.cells #[] 5)) rfl (.tmp 48) (.tmp 49) 22 rfl w1.heap.size 5 (.int .u8 0) 1 Try.underlying22 infoByte rfl (.slice (some ⟨w1.heap.size, 0, none⟩) 0 0) 0 [] rfl HS0.out b n cn (bvs B) rfl HB2.out (fun _ _ => rfl) (by omega) (by omega) (by simp) ?_) | fail)
          intro v2 w2 hown2 hgrow2
          have hx2 : Ext w1 w2 := ((Ext.refl w1).alloc _ _).grow hgrow2 fun q hq => by cases hq; exact Nat.le_refl _
          have hs2 := hx2.size
          have HOW2 : Hid (w2.ownsRow w1.heap.size 5 1 v2 n ((List.range n).map (bvs B))) := by
            have : w2.ownsRow w1.heap.size 5 1 v2 n ((List.range n).map (bvs B)) := by simpa using hown2
            exact this
          obtain ⟨e, he⟩ : ∃ e : Nat, 128 * k - n = e := ⟨_, rfl⟩
          obtain ⟨M, hM⟩ : ∃ M : Nat, 128 * k = M := ⟨_, rfl⟩
          have HMK : Hid (128 * k = M) := hM
          have HNE : Hid (n + e = M) := by show n + e = M; omega
          have hMb : M ≤ 4096 ∧ 1 ≤ M := by omega
          have he1 : (128 : Int) * k - n = (e : Int) := by omega
          have he2 : (k : Int) * 128 - n = (e : Int) := by omega
          clear hown2 hgrow2 he hM
          go_wp2_with (first | (at_builtin; refine append_zerosN w2 rfl (.tmp 50) (.tmp 55) 22 3 rfl w1.heap.size 5 (.int .u8 0) 1 .i64 Try.underlying22 Try.underlying3 infoByte rfl rfl v2 n _ rfl HOW2.out e (by omega) rfl (by omega) (by omega) (by omega) hs2 ?_) | fail)
          intro v3 w3 hown3 hgrow3
          rw [pad_map] at hown3
          have hx3 : Ext w1 w3 := hx2.grow hgrow3 fun q hq => (own_ge HOW2.out hq).1
          rw [HNE.out] at hown3
          have hown3' : w3.ownsRow w1.heap.size 5 1 v3 M ((List.range M).map (bvs (padZ n B))) := hown3
          obtain ⟨gf, cf, rfl, hgf⟩ := hown3'.form (by omega)
          obtain ⟨a9, c9, e9, hF3, hcM⟩ := own_room hown3'
          cases e9
          have HF3 : Hid (Byts w3 (some ⟨gf, 0, none⟩) M (padZ n B)) := hF3
          have hcf : M ≤ cf := hcM.1
          clear hown3 hown3' hgrow3 hF3 hcM HOW2 hx2 hs2 HB2 HS0
          have hmy : y ≤ m ∧ 1 ≤ y ∧ y ≤ 3 ∧ m ≤ 8 ∧ y < m := by have := HO.out.p1; have := HO.out.p3; omega
          obtain ⟨ba, oa, _, _, _, hac0, _, _, _, _⟩ := HCN.out.at (i := 0) (by omega)
          subst hac0
          obtain ⟨q, hq⟩ : ∃ q, m - y = q := ⟨_, rfl⟩
          have hsl : ∀ w, (Instr.slice 51 (.slice (some ⟨ba, oa, none⟩) m cp) (some (.int .i64 (y : Int))) none none).run Try.prog w = .ok (.slice (some ⟨ba, oa + y * 4, none⟩) q (cp - y)) w := fun w => by
            rw [subE_l (sz := 4) (by omega) Try.underlying51 sizeCol4 _ m cp y (by omega) _ rfl w, hq, subE_some (by omega)]
          have HCS : Hid (CnS w1 (some ⟨ba, oa + y * 4, none⟩) x y z k y q) := by
            show CnS w1 _ x y z k y q
            rw [← hq, ← subE_some (sz := 4) (c := cp) (lo := y) (b := ba) (o := oa) (by omega)]
            exact HCN.out.sub y (by omega) hcp
          have HYQ : Hid (y + q = colN x y k) := by
            show _ = _
            rw [← HMN.out]
            omega
          have hqb : 1 ≤ q ∧ q ≤ 8 := by omega
          clear hq
          obtain ⟨M0, hM0⟩ : ∃ M0, wdB x y k 0 = M0 := ⟨_, rfl⟩
          have HM0 : Hid (wdB x y k 0 = M0) := hM0
          have hM0b : M0 ≤ 4096 := by rw [← hM0]; exact (HO.out.wd (i := 0) (by rw [← HMN.out]; omega)).2.2
          clear hM0
          go_wp2_with fail
          have hI0 : LayI w3.heap.size w3 (.slice none 0 0) (.slice none 0 0) 0 0 x y k n M0 B (fun _ => .int .i64 0) (fun _ => .int .i64 0) := ⟨CApp.start _ _ _ _ _, CApp.start _ _ _ _ _, fun g hg => by cases hg⟩
          have HX3 : Hid (Ext w1 w3) := hx3
          go_loopg [14, 15, 16, 61] (q + 1) (fun gk vo vl va i wr => ∃ (j : Nat) (Vo Vl : Nat → Value), gk = q - j + 1 ∧ j ≤ q ∧ i = .int .i64 j ∧ va = .int .i64 (offD x y k j : Nat) ∧ Ext w3 wr ∧ LayI w3.heap.size wr vo vl j j x y k n M0 B Vo Vl)
          case atStart => exact ⟨0, _, _, rfl, Nat.zero_le _, rfl, by rw [offD_0]; rfl, Ext.refl _, hI0⟩
          case round =>
            clear hI0
            obtain ⟨j, Vo, Vl, hgk, hj, rfl, rfl, hxr, hI⟩ := hrel
            have HGK : Hid (gk = q - j + 1) := hgk
            clear hgk
            have HI : Hid (LayI w3.heap.size wr u14 u15 j j x y k n M0 B Vo Vl) := hI
            clear hI
            by_cases hjl : j < q
            · obtain ⟨bc, oc, x', y', z', hac, h0, h1, h2, h3⟩ := (HCS.out.ext (HX3.out.trans hxr)).at hjl
              cases hac
              have HBG : Hid (∀ q, u14.ownBlock = some q → q < wr.heap.size) := fun q hq => HI.out.own.block hq
              obtain ⟨ba', oa', x9, y9, z9, hac0, g0, g1, g2, g3⟩ := (HCN.out.ext (HX3.out.trans hxr)).at (i := 0) (by omega)
              cases hac0
              rw [Nat.zero_mul, Nat.add_zero] at g0 g1 g2 g3
              obtain ⟨qc, hqc⟩ : ∃ qc, cntC x y k (y + j) = qc := ⟨_, rfl⟩
              obtain ⟨q0, hq0⟩ : ∃ q0, cntC x y k 0 = q0 := ⟨_, rfl⟩
              obtain ⟨o, hoq⟩ : ∃ o, offD x y k j = o := ⟨_, rfl⟩
              have hqb2 := (HO.out.cnt (i := y + j) (by rw [← HYQ.out]; omega))
              have hof := HO.out.offs (i := j) (by rw [← HYQ.out]; omega)
              have HW : Hid (wdB x y k (y + j) = 128 * qc) := by show _ = _; unfold wdB; rw [hqc]
              have HM0Q : Hid (M0 = 128 * q0) := by show _ = _; rw [← HM0.out]; unfold wdB; rw [hq0]
              have HOS : Hid (offD x y k (j + 1) = o + 128 * qc) := by show _ = _; rw [offD_s, hoq, HW.out]
              rw [HW.out, HMK.out] at hof
              rw [hqc] at hqb2 h2
              rw [Nat.add_zero, hq0] at g2
              rw [hq0] at hqb2
              have HOQ : Hid (offD x y k j = o) := hoq
              rw [hoq] at hof ⊢
              have hbnd : o + 128 * qc ≤ M ∧ 1 ≤ qc ∧ qc ≤ 32 ∧ qc ≤ q0 ∧ q0 ≤ 32 := ⟨hof, hqb2.1, by omega, hqb2.2.1, hqb2.2.2.2⟩
              have HQ0 : Hid (cntC x y k 0 = q0) := hq0
              clear hqc hoq hqb2 hof hq0
              have hsl2 : ∀ w, (Instr.slice 22 (.slice (some ⟨gf, 0, none⟩) M cf) (some (.int .i64 (o : Int))) (some (.int .i64 ((o : Int) + 128 * (qc : Int)))) none).run Try.prog w = .ok (.slice (subA (some ⟨gf, 0, none⟩) cf o) (128 * qc) (cf - o)) w := fun w => sub_lh Try.underlying22 sizeB1 _ M cf o (128 * qc) (by omega) _ _ rfl (by omega) w
              have HXS : Hid (∀ w', Ext w3 w' → ∀ i, i < 128 * qc → ∃ bb oo, subA (some ⟨gf, 0, none⟩) cf o = some ⟨bb, oo, none⟩ ∧ w'.cell? ⟨bb, oo + i, none⟩ = some (bvs (datF x y k n B j) i)) := fun w' xw i hi => by
                obtain ⟨bb, oo, e1, e2⟩ := (HF3.out.ext xw) (o + i) (by omega)
                cases e1
                refine ⟨gf, 0 + o, subA_some (by omega), ?_⟩
                rw [Nat.zero_add] at e2 ⊢
                rw [e2]
                unfold bvs datF
                rw [HOQ.out]
              have hg20 : w3.cell? ⟨ba, oa + 2, none⟩ = some (.int .i64 q0) := by
                obtain ⟨ba', oa', x8, y8, z8, hac8, _, _, k2, _⟩ := (HCN.out.ext HX3.out).at (i := 0) (by omega)
                cases hac8
                rw [Nat.zero_mul, Nat.add_zero, Nat.add_zero, HQ0.out] at k2
                exact k2
              go_upto_block 3 with fail
              go_cut [14, 15, 16, 18, 19] (fun v14 v15 v16 v18 v19 wc => ∃ (g6 c6 gA cA : Nat) (u u' : Value), v14 = .slice (some ⟨g6, 0, none⟩) (j + 1) c6 ∧ v15 = .slice (some ⟨gA, 0, none⟩) (j + 1) cA ∧ v16 = .int .i64 ((o : Int) + 128 * (qc : Int)) ∧ Ext w3 wc ∧ LayI w3.heap.size wc (.slice (some ⟨g6, 0, none⟩) (j + 1) c6) (.slice (some ⟨gA, 0, none⟩) (j + 1) cA) (j + 1) (j + 1) x y k n M0 B (fun s => if s < j then Vo s else u') (fun s => if s < j then Vl s else u))
              case first =>
                go_upto_region 18 with fail
                have hgc0 : (wr.alloc (.cells #[.int .i64 x', .int .i64 y', .int .i64 qc, .bool z'] 59)).cell? ⟨wr.heap.size, 2, none⟩ = some (.int .i64 qc) := by rw [new_cell]; rfl
                have hx4 : Ext wr (wr.alloc (.cells #[.int .i64 x', .int .i64 y', .int .i64 qc, .bool z'] 59)) := (Ext.refl wr).alloc _ _
                generalize wr.alloc (.cells #[.int .i64 x', .int .i64 y', .int .i64 qc, .bool z'] 59) = w4 at *
                generalize wr.heap.size = gc at *
                have HI4 : Hid (LayI w3.heap.size w4 u14 u15 j j x y k n M0 B Vo Vl) := HI.out.ext hx4
                have HX4 : Hid (Ext w3 w4) := hxr.trans hx4
                have hg2 := hx4.keeps g2
                clear HI h0 h1 h2 h3 g0 g1 g2 g3
                have HS4 : Hid ((w4.alloc (.cells #[] 5)).ownsRow w4.heap.size 5 1 (.slice (some ⟨w4.heap.size, 0, none⟩) 0 0) 0 []) := own_empty w4 (Nat.le_refl _) _
                have HXS4 : Hid (∀ i, i < 128 * qc → ∃ bb oo, subA (some ⟨gf, 0, none⟩) cf o = some ⟨bb, oo, none⟩ ∧ (w4.alloc (.cells #[] 5)).cell? ⟨bb, oo + i, none⟩ = some (bvs (datF x y k n B j) i)) := HXS.out _ (HX4.out.alloc _ _)
                go_wp2_with (first | (at_builtin; refine append_vals (w4.alloc (.cells #[] 5)) rfl (.tmp 79) (.tmp 80) 22 rfl w4.heap.size 5 (.int .u8 0) 1 Try.underlying22 infoByte rfl (.slice (some ⟨w4.heap.size, 0, none⟩) 0 0) 0 [] rfl HS4.out (subA (some ⟨gf, 0, none⟩) cf o) (128 * qc) (cf - o) (bvs (datF x y k n B j)) rfl HXS4.out (fun _ _ => rfl) (by omega) (by omega) (by simp) ?_) | fail)
                intro v5 w5 hown5 hgrow5
                have hown5' : w5.ownsRow w4.heap.size 5 1 v5 (128 * qc) ((List.range (128 * qc)).map (bvs (datF x y k n B j))) := by simpa using hown5
                obtain ⟨a5, c5, e5, _, _⟩ := own_room hown5'
                subst e5
                have hx5 : Ext w4 w5 := ((Ext.refl w4).alloc _ _).grow hgrow5 fun q hq => by cases hq; exact Nat.le_refl _
                have h13 : w1.heap.size ≤ w3.heap.size := HX3.out.size
                have h34 : w3.heap.size ≤ w4.heap.size := HX4.out.size
                have h45 := hx5.size
                have HR5 : Hid (w5.ownsRow w3.heap.size 5 1 (.slice a5 (128 * qc) c5) (wdB x y k (y + j)) ((List.range (wdB x y k (y + j))).map (bvs (datF x y k n B j)))) := by
                  have := own_mono hown5' (base' := w3.heap.size) (by omega)
                  rw [HW.out]
                  exact this
                have HI5 : Hid (LayI w3.heap.size w5 u14 u15 j j x y k n M0 B Vo Vl) := HI4.out.ext hx5
                have hbase5 : w3.heap.size ≤ w5.heap.size := by omega
                have HT5 : Hid (w5.ownsRow w3.heap.size 22 1 u14 j ((List.range j).map Vo)) := HI5.out.own.top
                clear hown5 hgrow5 HI4 hown5'
                go_wp2_with (first | (at_builtin; refine append_one_lies w5 rfl (.tmp 78) (.tmp 82) 23 rfl w3.heap.size 22 (.slice none 0 0) 24 Try.underlying23 infoBytes rfl u14 j _ rfl HT5.out (.slice a5 (128 * qc) c5) 1 rfl rfl (by omega) (by omega) hbase5 ?_) | fail)
                intro g6 c6 w6 hown6 hgrow6 hat6 hle6
                have HI6 : Hid (LayI w3.heap.size w6 (.slice (some ⟨g6, 0, none⟩) (j + 1) c6) u15 (j + 1) j x y k n M0 B (fun s => if s < j then Vo s else .slice a5 (128 * qc) c5) Vl) := HI5.out.nextO rfl HR5.out hown6 hgrow6 rfl hat6
                have hxa : Ext w4 (w5.alloc (.cells #[.slice a5 (128 * qc) c5] 22)) := hx5.alloc _ _
                have HX6 : Hid (Ext w3 w6) := (HX4.out.trans hxa).grow hgrow6 fun q hq => (own_ge HT5.out hq).1
                have hkeep6 : ∀ {b o : Nat} {v : Value}, w4.cell? ⟨b, o, none⟩ = some v → some b ≠ u14.ownBlock → w6.cell? ⟨b, o, none⟩ = some v := fun {b o v} hc hne => by
                  have h1 := hxa.keeps hc
                  have h2 := World.block_lt_of_cell? _ _ h1
                  exact (World.cell?_of_block (hgrow6.block b h2 hne)).trans h1
                have hgc6 : w6.cell? ⟨gc, 2, none⟩ = some (.int .i64 qc) := hkeep6 hgc0 fun e => by have := HBG.out _ e.symm; omega
                have hg26 : w6.cell? ⟨ba, oa + 2, none⟩ = some (.int .i64 q0) := by
                  have hb0 := World.block_lt_of_cell? _ _ hg20
                  exact HX6.out.keeps hg20
                have hrow6 : Hid (LayI w3.heap.size w6 (.slice (some ⟨g6, 0, none⟩) (j + 1) c6) u15 (j + 1) j x y k n M0 B (fun s => if s < j then Vo s else .slice a5 (128 * qc) c5) Vl) := HI6.out
                clear hown6 hgrow6 HI5 HT5 HR5 HXS4 HS4 hgc0 hg2 hkeep6 hxa
                obtain ⟨e2, he2⟩ : ∃ e2 : Nat, 128 * (q0 - qc) = e2 := ⟨_, rfl⟩
                have he3 : (128 : Int) * ((q0 : Int) - (qc : Int)) = (e2 : Int) := by omega
                have he4 : ((q0 : Int) - (qc : Int)) * 128 = (e2 : Int) := by omega
                have HME : Hid (128 * qc + e2 = M0) := by have := HM0Q.out; show _ = _; omega
                clear he2
                have hq8 : j ≤ 8 := by omega
                have hkd : ∀ u : World, Ext w6 u → Ext w3 u := fun u hu => HX6.out.trans hu
                have hm0 : (0 : Int) < (m : Int) := by omega
                have hm0n : 0 < m := by omega
                have hg6d : ((w6.alloc (.cells #[] 5)).drew).cell? ⟨ba, oa + 2, none⟩ = some (.int .i64 q0) := ((Ext.refl w6).alloc _ _).drew.keeps hg26
                have hgc6d : ((w6.alloc (.cells #[] 5)).drew).cell? ⟨gc, 2, none⟩ = some (.int .i64 qc) := ((Ext.refl w6).alloc _ _).drew.keeps hgc6
                have hg6e : (w6.alloc (.cells #[] 5)).cell? ⟨ba, oa + 2, none⟩ = some (.int .i64 q0) := ((Ext.refl w6).alloc _ _).keeps hg26
                have hgc6e : (w6.alloc (.cells #[] 5)).cell? ⟨gc, 2, none⟩ = some (.int .i64 qc) := ((Ext.refl w6).alloc _ _).keeps hgc6
                obtain ⟨e3, he5⟩ : ∃ e3 : Nat, q0 - qc = e3 := ⟨_, rfl⟩
                have hwr1 : IntKind.i64.wrap ((q0 : Int) - (qc : Int)) = (e3 : Int) := by rw [IntKind.wrap_i64]; omega
                have hwr2 : IntKind.i64.wrap (128 * (e3 : Int)) = (e2 : Int) := by rw [IntKind.wrap_i64]; omega
                have hwr3 : IntKind.i64.wrap ((e3 : Int) * 128) = (e2 : Int) := by rw [IntKind.wrap_i64]; omega
                have HT6 : Hid (∀ u : World, Ext w6 u → u.ownsRow w3.heap.size 22 1 u15 j ((List.range j).map Vl)) := fun u hu => own_ext HI6.out.long.top hu
                have hs36 : w3.heap.size ≤ w6.heap.size := HX6.out.size
                go_upto_region 19 with fail
                go_region_law (first
                  | (refine step_append_vals _ (by rfl) (.tmp 85) (.tmp 86) 22 (by rfl) w6.heap.size 5 (.int .u8 0) 1 Try.underlying22 infoByte (by rfl) (.slice (some ⟨w6.heap.size, 0, none⟩) 0 0) 0 [] (by first | (simp [Act.eval]; done) | (simp [Act.eval, Act.put]; done)) (by exact own_empty w6.drew (Nat.le_refl _) _) (subA (some ⟨gf, 0, none⟩) cf o) (128 * qc) (cf - o) (bvs (datF x y k n B j)) (by first | (simp [Act.eval]; done) | (simp [Act.eval, Act.put]; done)) (HXS.out _ (hkd _ ((Ext.refl w6).drew.alloc _ _))) (fun _ _ => (by rfl)) (by omega) (by omega) (by simp) ?_; intro v8 w8 hown8 hgrow8; have hown8' : w8.ownsRow w6.heap.size 5 1 v8 (128 * qc) ((List.range (128 * qc)).map (bvs (datF x y k n B j))) := (by simpa using hown8); have hx8 : Ext w6 w8 := ((Ext.refl w6).drew.alloc _ _).grow hgrow8 (fun q hq => (by cases hq; exact Nat.le_refl _)); have hg28 := hx8.keeps hg26; have hgc8 := hx8.keeps hgc6; clear hown8 hgrow8)
                  | (refine step_append_zeros _ (by rfl) (.tmp 87) (.tmp 95) 22 3 (by rfl) w6.heap.size 5 (.int .u8 0) 1 .i64 Try.underlying22 Try.underlying3 infoByte (by rfl) (by rfl) v8 (128 * qc) _ (by first | (simp [Act.eval]; done) | (simp [Act.eval, Act.put]; done)) hown8' e2 (by omega) (by first | (simp [Act.eval]; done) | (simp [Act.eval, Act.put]; done)) (by omega) (by omega) (by omega) hx8.size ?_; intro v9 w9 hown9 hgrow9; have hown9' : w9.ownsRow w6.heap.size 5 1 v9 M0 ((List.range M0).map (bvs (lonF x y k n B j))) := (by unfold lonF; rw [HW.out, ← HME.out, ← pad_map]; exact hown9); have hx9 : Ext w6 w9 := hx8.grow hgrow9 (fun q hq => (own_ge hown8' hq).1); obtain ⟨a9, c9, e9, _, _⟩ := own_room hown9'; subst e9; have hs9 := hx9.size; clear hown9 hgrow9)
                  | (refine step_app1 w9 (by rfl) (.tmp 84) (.tmp 97) 23 (by rfl) w3.heap.size 22 (.slice none 0 0) 24 Try.underlying23 infoBytes (by rfl) u15 j _ (by first | (simp [Act.eval]; done) | (simp [Act.eval, Act.put]; done)) (HT6.out w9 hx9) (.slice a9 M0 c9) 1 (by first | (simp [Act.eval]; done) | (simp [Act.eval, Act.put]; done)) (by rfl) (by omega) (by omega) (by omega) ?_; intro gA cA wA hownA hgrowA hatA)
                  | fail)
                all_goals
                  have HIA : Hid (LayI w3.heap.size wA (.slice (some ⟨g6, 0, none⟩) (j + 1) c6) (.slice (some ⟨gA, 0, none⟩) (j + 1) cA) (j + 1) (j + 1) x y k n M0 B (fun s => if s < j then Vo s else .slice a5 (128 * qc) c5) (fun s => if s < j then Vl s else .slice a9 M0 c9)) := (HI6.out.ext hx9).nextL rfl (own_mono hown9' hs36) hownA hgrowA rfl hatA
                  have HXA : Hid (Ext w3 wA) := ((hkd w9 hx9).alloc _ _).grow hgrowA fun q hq => (own_ge (HT6.out w9 hx9) hq).1
                  clear hownA hgrowA hatA hown8' hg28 hgc8 hg6d hgc6d hg6e hgc6e hg26 hgc6 hown9'
                  go_wp2_with fail
                  go_meet
                  case rel => exact ⟨g6, c6, gA, cA, _, _, rfl, rfl, by first | rfl | go_num, HXA.out, HIA.out⟩
              case rest =>
                obtain ⟨g6, c6, gA, cA, uA, uB, rfl, rfl, rfl, hxA, hIA⟩ := hcut
                have HIA : Hid (LayI w3.heap.size wc (.slice (some ⟨g6, 0, none⟩) (j + 1) c6) (.slice (some ⟨gA, 0, none⟩) (j + 1) cA) (j + 1) (j + 1) x y k n M0 B (fun s => if s < j then Vo s else uB) (fun s => if s < j then Vl s else uA)) := hIA
                have HXA : Hid (Ext w3 wc) := hxA
                clear hIA hxA
                go_wp2_with fail
                go_roundg (q - (j + 1) + 1)
                case measure => have := HGK.out; omega
                case rel => exact ⟨j + 1, _, _, rfl, by omega, by go_num, by rw [HOS.out]; go_num, HXA.out, HIA.out⟩
            · obtain rfl : q = j := by omega
              obtain ⟨al, cl, Al, Cl, hl15, hVl, hCl⟩ := HI.out.long.cols
              have HXR : Hid (Ext w3 wr) := hxr
              have HCL : Hid (Cols wr al q Al (fun _ => M0) Cl (lonF x y k n B)) := hCl
              have hok : encOk q (fun _ => M0) (y : Int) = true := by
                unfold encOk pmayB
                rw [fromTo_true (by omega), fromTo_true (by omega), alikeB_true fun r _ => by unfold colB; simp; omega]
                rfl
              have HEN : Hid (encN q (fun _ => M0) (y : Int) = y) := by show _ = _; unfold encN; rw [hok, if_pos rfl, Int.toNat_natCast]
              have HEE : Hid (encE q (fun _ => M0) (y : Int) = 0) := by
                show _ = _
                unfold encOk at hok
                rw [Bool.and_eq_true] at hok
                unfold encE
                rw [hok.1, hok.2]
                rfl
              have HLV : Hid (u15 = .slice al q cl) := hl15
              clear hok hCl hl15
              rw [HLV.out]
              go_wp2_with fail
              refine (ParEncode_own al q cl Al _ Cl _ (y : Int) _ (by omega) HCL.out).mono ?_
              rintro e w5 ⟨_, hR, hx5⟩
              rw [HEN.out, HEE.out] at hR
              obtain ⟨vp, Vp, rfl, hP⟩ := hR
              obtain ⟨ap, cp', Ap, Cp, rfl, hVp, hCp⟩ := hP.cols
              have HP : Hid (CApp wr.heap.size w5 (.slice ap y cp') y Vp (fun _ => M0) (enc q (lonF x y k n B))) := hP
              have HO5 : Hid (CApp w3.heap.size w5 u14 q Vo (fun s => wdB x y k (y + s)) (datF x y k n B)) := HI.out.own.ext hx5
              obtain ⟨ao, co, Ao, Co, ho14, hVo, hCo⟩ := HO5.out.cols
              have HVO : Hid (u14 = .slice ao q co) := ho14
              have HFC : Hid (∀ i, i < q → ∃ b o, ao = some ⟨b, o, none⟩ ∧ w5.cell? ⟨b, o + i, none⟩ = some (.slice (Ao i) (wdB x y k (y + i)) (Co i))) := fun i hi => (hCo i hi).1
              have hs5 := hx5.size
              have HX5 : Hid (Ext w wr) := (hx0.trans hx).trans (HX3.out.trans hxr)
              have HVO2 : Hid (∀ r, r < q → Vo r = .slice (Ao r) (wdB x y k (y + r)) (Co r)) := hVo
              clear hP hCp hCo ho14 hVl hVo HCL HLV
              rw [HVO.out]
              go_wp2_with (first | (at_builtin; refine append_vals w5 rfl (.tmp 106) (.tmp 107) 23 rfl wr.heap.size 22 (.slice none 0 0) 24 Try.underlying23 infoBytes rfl (.slice ap y cp') y _ rfl HP.out.top ao q co _ rfl HFC.out (fun _ _ => rfl) (by omega) (by omega) hs5 ?_) | fail)
              intro v' w6 hown6 hgrow6
              have HX6 : Hid (Ext w w6) := HX5.out.trans (hx5.grow hgrow6 fun q hq => (own_ge HP.out.top hq).1)
              obtain ⟨ar, cr, rfl, hcr⟩ := own_slice hown6
              have hrp : ∀ r, r < y → w6.ownsRow wr.heap.size 5 1 (Vp r) M0 ((List.range M0).map (bvs (enc q (lonF x y k n B) r))) := fun r hr => (HP.out.row r hr).kept hgrow6 (own_apart (HP.out.row r hr) HP.out.top (by decide))
              have hro : ∀ r, r < q → w6.ownsRow w3.heap.size 5 1 (Vo r) (wdB x y k (y + r)) ((List.range (wdB x y k (y + r))).map (bvs (datF x y k n B r))) := fun r hr => (HO5.out.row r hr).kept hgrow6 (own_apart (HO5.out.row r hr) HP.out.top (by decide))
              have HRES : Hid (LayRes w6 (.returned (.tuple #[.slice ar (y + q) cr, .int .i64 0])) x y z n B) := by
                show LayRes w6 _ x y z n B
                unfold LayRes
                rw [HK2.out, if_pos rfl, Int.toNat_natCast, Int.toNat_natCast, HC.out, ← HYQ.out]
                have each : ∀ r, r < y + q → ∃ u : Option Addr × Nat, (((List.range y).map Vp ++ (List.range q).map fun i => Value.slice (Ao i) (wdB x y k (y + i)) (Co i))[r]? = some (.slice u.1 (wdB x y k r) u.2)) ∧ Byts w6 u.1 (wdB x y k r) (layF x y k n B r) := fun r hr => by
                  by_cases e : r < y
                  · obtain ⟨a1, c1, h1, h2⟩ := own_byts (hrp r e)
                    refine ⟨(a1, c1), ?_, ?_⟩
                    · rw [List.getElem?_append_left (by simpa using e), range_get _ e, h1, HO.out.wdp e, HM0.out]
                    · unfold layF
                      rw [if_pos e, HO.out.wdp e, HM0.out, ← HYQ.out, show y + q - y = q by omega]
                      exact h2
                  · obtain ⟨a1, c1, h1, h2⟩ := own_byts (hro (r - y) (by omega))
                    rw [show y + (r - y) = r by omega] at h1 h2
                    refine ⟨(a1, c1), ?_, ?_⟩
                    · rw [List.getElem?_append_right (by simp; omega), List.length_map, List.length_range, range_get _ (by omega), show y + (r - y) = r by omega, ← h1, HVO2.out (r - y) (by omega), show y + (r - y) = r by omega]
                    · unfold layF
                      rw [if_neg e]
                      exact h2
                obtain ⟨u, hu⟩ := choose_lt each
                refine ⟨ar, cr, fun r => (u r).1, fun r => (u r).2, rfl, fun r hr => ⟨?_, (hu r hr).2⟩⟩
                obtain ⟨bb, oo, e1, e2⟩ := hcr r hr
                exact ⟨bb, oo, e1, by rw [e2, (hu r hr).1]⟩
              clear hown6 hgrow6 hcr hrp hro HFC HP HO5
              go_wp2_with fail
              go_ret2
              exact ⟨HRES.out, HX6.out⟩
end Go.Proofs.Ythgbfakmkdifbaa
