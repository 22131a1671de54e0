/-
  The newest of those that are whole is taken, whatever else stands there: at every list of what labels are made of, every list of bools and every list of lists of bytes; no condition.
-/
import Derived.Test.YtemndnpbbkjmhabRows
import Derived.WalkKit
import Derived.ProofKit
import Derived.OpenShut
import Derived.ChangeOld
import Derived.Below
import Derived.BigQuiet
import Derived.Deep.CutRange
import Derived.Deep.QuietTactic
import Derived.Deep.RegionLaw
import Derived.Test.YtemndnpbbkjmhabOpn
import Derived.Test.YtemndnpbbkjmhabChecked
import Derived.Test.YtemndnpbbkjmhabOpenZ2
import Derived.Test.YtemndnpbbkjmhabFlat
import Derived.Test.YtemndnpbbkjmhabLabNew
namespace Go.Proofs.Ytemndnpbbkjmhab.bestNewest
open Go.ChangeShapes Go.WideShapes Go.ChangeAt Go.RowKit Go.Deep E
set_option linter.unusedVariables false
theorem xorB8 (x y : E) : bits .xor .u8 (ev x) (ev y) = ev (ad x y) := u8_xor_nat x.val y.val x.lt y.lt
set_option maxRecDepth 100000 in
set_option maxHeartbeats 4000000 in
theorem walk (a0 : Option Addr) (n0 c0 : Nat) (F0 : Nat → Nat → Int) (a1 : Option Addr) (n1 c1 : Nat) (f1 : Nat → Bool) (a2 : Option Addr) (n2 c2 : Nat) (A2 : Nat → Option Addr) (L2 C2 : Nat → Nat) (F2 : Nat → Nat → E) (w : World) (h0 : Flt w a0 n0 12 F0) (b0 : ∀ r k, r < n0 → k < 12 → I64 (F0 r k)) (k0 : n0 ≤ c0 ∧ c0 ≤ 9223372036854775807) (h1 : Bools w a1 n1 f1) (k1 : n1 ≤ c1 ∧ c1 ≤ 9223372036854775807) (h2 : Cols w a2 n2 A2 L2 C2 F2) (b2 : n2 ≤ c2 ∧ c2 ≤ 9223372036854775807 ∧ ∀ r, r < n2 → L2 r ≤ C2 r ∧ C2 r ≤ 140737488351232) :
    Calls Try.prog 8 #[.slice a0 n0 c0, .slice a1 n1 c1, .slice a2 n2 c2] w fun e w' => e = .returned (.bool true) ∧ Ext w w' := by
  have HT : Hid (Flt w a0 n0 12 F0) := h0
  have HTB : Hid (∀ r k, r < n0 → k < 12 → I64 (F0 r k)) := b0
  have HBO : Hid (Bools w a1 n1 f1) := h1
  have HJ : Hid (Cols w a2 n2 A2 L2 C2 F2) := h2
  have HJB : Hid (∀ r, r < n2 → L2 r ≤ C2 r ∧ C2 r ≤ 140737488351232) := b2.2.2
  clear h0 b0 h1 h2 b2 k0 k1
  go_enter Try.func8, Try.ntmps8
  go_wp2_with fail
  go_loopw [7, 8, 9, 10] (fun v t at' i wr => ∃ (k m : Nat) (A : Nat → Option Addr) (L C : Nat → Nat) (G : Nat → Nat → E), k ≤ n0 ∧ k ≤ 12 ∧ m ≤ 2 * k ∧ i = .int .i64 k ∧ t = .int .i64 (tmI L G m) ∧ at' = .int .i64 (atI L G m) ∧ BSt w wr v m A L C G) (fun _ _ _ i _ => 12 - (intOf i).toNat)
  case atStart => exact ⟨0, 0, fun _ => none, fun _ => 0, fun _ => 0, fun _ _ => ze, by omega, by omega, by omega, rfl, rfl, rfl, BSt.start _ _ _ _ _⟩
  case round =>
    obtain ⟨k, m, A, L, C, G, hk0, hk12, hmk, rfl, rfl, rfl, hbs⟩ := hrel
    obtain ⟨av, cv, rfl, _, _⟩ := hbs.cols
    have HBS : Hid (BSt w wr (.slice av m cv) m A L C G) := hbs
    clear hbs
    by_cases hl0 : k < n0
    · by_cases hl12 : k < 12
      · obtain ⟨bt, ot, rfl, _⟩ := HT.out k 0 hl0 (by omega)
        obtain ⟨V, hV⟩ : ∃ V, lof (F0 k) = V := ⟨_, rfl⟩
        have HM : Hid (mayL V = true) := by rw [← hV]; exact lof_may (F0 k)
        have HS : Hid (∀ j, 9 ≤ j → j < 13 → -9223372036854775808 ≤ V j ∧ V j ≤ 9223372036854775807) := fun j h9 hj => by
          rw [← hV]
          obtain ⟨i, rfl⟩ : ∃ i, j = i + 9 := ⟨j - 9, by omega⟩
          exact HTB.out k (8 + i) hl0 (by omega)
        have HLO : Hid (∀ v, Calls Try.prog 14 #[.agg #[.int .i64 ((F0 k) 0), .int .i64 ((F0 k) 1), .int .i64 ((F0 k) 2), .int .i64 ((F0 k) 3), .int .i64 ((F0 k) 4), .int .i64 ((F0 k) 5), .int .i64 ((F0 k) 6), .int .i64 ((F0 k) 7), .int .i64 ((F0 k) 8), .int .i64 ((F0 k) 9), .int .i64 ((F0 k) 10), .int .i64 ((F0 k) 11)]] v fun e w' => e = .returned (.agg #[.int .i64 (V 0), .int .i64 (V 1), .int .i64 (V 2), .int .i64 (V 3), .int .i64 (V 4), .int .i64 (V 5), .int .i64 (V 6), .int .i64 (V 7), .int .i64 (V 8), .int .i64 (V 9), .int .i64 (V 10), .int .i64 (V 11), .int .i64 (V 12)]) ∧ Ext v w') := fun v => by
          rw [← hV]
          exact LabelOf_any (F0 k) (fun i hi => HTB.out k i hl0 hi) v
        have HPT : Hid (decE 128 (sec V) = 0 ∧ prs (sec V) 4 = V 4) := prs_time HM.out HS.out
        have hk0i : (k : Int) < (n0 : Int) := by omega
        have hk12i : (k : Int) < 12 := by omega
        have c0 := HBS.out.ext.keeps (HT.out.row hl0 (show 0 < 12 by omega))
        rw [Nat.add_zero] at c0
        have c1 := HBS.out.ext.keeps (HT.out.row hl0 (show 1 < 12 by omega))
        have c2 := HBS.out.ext.keeps (HT.out.row hl0 (show 2 < 12 by omega))
        have c3 := HBS.out.ext.keeps (HT.out.row hl0 (show 3 < 12 by omega))
        have c4 := HBS.out.ext.keeps (HT.out.row hl0 (show 4 < 12 by omega))
        have c5 := HBS.out.ext.keeps (HT.out.row hl0 (show 5 < 12 by omega))
        have c6 := HBS.out.ext.keeps (HT.out.row hl0 (show 6 < 12 by omega))
        have c7 := HBS.out.ext.keeps (HT.out.row hl0 (show 7 < 12 by omega))
        have c8 := HBS.out.ext.keeps (HT.out.row hl0 (show 8 < 12 by omega))
        have c9 := HBS.out.ext.keeps (HT.out.row hl0 (show 9 < 12 by omega))
        have c10 := HBS.out.ext.keeps (HT.out.row hl0 (show 10 < 12 by omega))
        have c11 := HBS.out.ext.keeps (HT.out.row hl0 (show 11 < 12 by omega))
        clear hV hl0 hl12
        go_wp2_with fail
        clear c0 c1 c2 c3 c4 c5 c6 c7 c8 c9 c10 c11
        refine (HLO.out _).mono ?_
        rintro e v1 ⟨rfl, hx1⟩
        have X2 : Hid (Ext wr (v1.alloc (.cells #[.int .i64 (V 0), .int .i64 (V 1), .int .i64 (V 2), .int .i64 (V 3), .int .i64 (V 4), .int .i64 (V 5), .int .i64 (V 6), .int .i64 (V 7), .int .i64 (V 8), .int .i64 (V 9), .int .i64 (V 10), .int .i64 (V 11), .int .i64 (V 12)] 28))) := hx1.alloc _ _
        have R2 : Hid ((v1.alloc (.cells #[.int .i64 (V 0), .int .i64 (V 1), .int .i64 (V 2), .int .i64 (V 3), .int .i64 (V 4), .int .i64 (V 5), .int .i64 (V 6), .int .i64 (V 7), .int .i64 (V 8), .int .i64 (V 9), .int .i64 (V 10), .int .i64 (V 11), .int .i64 (V 12)] 28)).rowIs v1.heap.size 28 13 (ivs V)) := row13_alloc v1 28 (ivs V)
        clear hx1 HLO
        go_wp2_with fail
        generalize v1.alloc (.cells #[.int .i64 (V 0), .int .i64 (V 1), .int .i64 (V 2), .int .i64 (V 3), .int .i64 (V 4), .int .i64 (V 5), .int .i64 (V 6), .int .i64 (V 7), .int .i64 (V 8), .int .i64 (V 9), .int .i64 (V 10), .int .i64 (V 11), .int .i64 (V 12)] 28) = v2 at *
        generalize v1.heap.size = gx at *
        refine (Encode_t V _ HM.out).mono ?_
        rintro e u5 ⟨⟨g, hg, rfl, hr⟩, hx3⟩
        have X3 : Hid (Ext wr u5) := X2.out.trans hx3
        have RX : Hid (u5.rowIs gx 28 13 (ivs V)) := hx3.rowIs R2.out
        have R3 : Hid (u5.rowIs g 5 128 (bvs (sec V))) := hr
        have hgr : wr.heap.size ≤ g := Nat.le_trans X2.out.size hg
        have hgw : w.heap.size ≤ g := Nat.le_trans HBS.out.ext.size hgr
        clear hx3 hr R2 X2 hg
        have q4 := RX.out.cell (i := 4) (by omega)
        have q5 := RX.out.cell (i := 5) (by omega)
        unfold ivs at q4 q5
        clear RX
        by_cases hn1 : k < n1
        · obtain ⟨bb, ob, rfl, hbc⟩ := (HBO.out.ext (HBS.out.ext.trans X3.out)) k hn1
          have hn1i : (k : Int) < (n1 : Int) := by omega
          cases hf : f1 k with
          | true =>
            rw [hf] at hbc
            obtain ⟨p, hp, hp2⟩ := picked_is (V 5) 96 (by omega)
            have hm5 := (may_is HM.out)
            have HPK : Hid (∀ v, Calls Try.prog 18 #[.int .i64 (V 5), .int .i64 96] v fun e w' => e = .returned (.int .i64 (p : Int)) ∧ w' = v) := fun v => Picked_bd (V 5) 96 p v (by omega) (by omega) (by omega) hp
            clear hp hm5
            have hcp := R3.out.cell (i := p) (by omega)
            have hfp := R3.out.frozen p
            unfold bvs at hcp
            have hxor := xorB8 (sec V p) on
            rw [ev_on] at hxor
            have hp3 : (p : Int) < 128 := by omega
            go_wp2_with fail
            refine (HPK.out _).mono ?_
            rintro e u5 ⟨rfl, rfl⟩
            have hsealed : sealB (sec V) = true := sealB_sec
            have hnw : atI (upd L m 128) (upd G m (flip (sec V) p)) (m + 1) = atI L G m ∧ tmI (upd L m 128) (upd G m (flip (sec V) p)) (m + 1) = tmI L G m := new_leave fun hz => absurd hz (by rw [flip_dec (by omega) hsealed]; decide)
            have hrw : (u5.setCell ⟨g, p, none⟩ (.int .u8 (ev (ad (sec V p) on)))).rowIs g 5 128 (bvs (flip (sec V) p)) := (R3.out.set p _).congr fun i _ => flip_row i
            have XU : Hid (Ext wr (u5.setCell ⟨g, p, none⟩ (.int .u8 (ev (ad (sec V p) on))))) := X3.out.setCell (p := ⟨g, p, none⟩) hgr _
            clear hsealed
            go_upto_region 16 with fail
            clear hcp hfp hxor q4 q5 hbc X3 R3
            generalize u5.setCell ⟨g, p, none⟩ (.int .u8 (ev (ad (sec V p) on))) = u5 at *
            have RW : Hid (u5.rowIs g 5 128 (bvs (flip (sec V) p))) := hrw
            have B5 : Hid (BSt w u5 (.slice av m cv) m A L C G) := HBS.out.grow XU.out
            have hs5 := B5.out.ext.size
            have S5 : Hid (Sect u5 w.heap.size (some ⟨g, 0, none⟩) 128 128 (flip (sec V) p)) := sect_row RW.out hgw (by omega)
            have HNW : Hid (atI (upd L m 128) (upd G m (flip (sec V) p)) (m + 1) = atI L G m ∧ tmI (upd L m 128) (upd G m (flip (sec V) p)) (m + 1) = tmI L G m) := hnw
            clear hrw hnw RW XU
            go_wp2_with (first | (at_builtin; refine append_one u5 rfl _ _ 34 rfl w.heap.size 22 (.slice none 0 0) 24 Try.underlying34 infoBytes rfl (.slice av m cv) m _ rfl B5.out.own (.slice (some ⟨g, 0, none⟩) 128 128) 1 rfl rfl (by omega) (by omega) hs5 ?_) | go_in)
            intro vb u6 hown6 hgrow6
            have B6 : Hid (BSt w u6 vb (m + 1) (upd A m (some ⟨g, 0, none⟩)) (upd L m 128) (upd C m 128) (upd G m (flip (sec V) p))) := B5.out.add S5.out hown6 hgrow6
            clear hown6 hgrow6 S5 B5
            obtain ⟨m1, hm1⟩ : ∃ x : Nat, x = m + 1 := ⟨_, rfl⟩
            rw [← hm1] at B6 HNW
            have HM1 : Hid (m1 = m + 1) := hm1
            have hm1l : m1 ≤ 25 := by omega
            clear hm1
            generalize upd A m (some ⟨g, 0, none⟩) = A1 at *
            generalize upd L m 128 = L1 at *
            generalize upd C m 128 = C1 at *
            generalize upd G m (flip (sec V) p) = G1 at *
            by_cases hk2 : k < n2
            · obtain ⟨⟨bj, oj, rfl, hcj⟩, hcolj⟩ := (HJ.out.ext B6.out.ext) k hk2
              have HCJ : Hid (Byts u6 (A2 k) (L2 k) (F2 k)) := hcolj
              have hjb := HJB.out k hk2
              have hk2i : (k : Int) < (n2 : Int) := by omega
              clear hcolj
              by_cases h128 : L2 k = 128
              · have hq : ((L2 k : Int) != 128) = false := by rw [bne_eq_false_iff_eq]; omega
                clear h128 hjb
                go_wp2_with fail
                go_roundw
                case rel => exact ⟨k + 1, m1, _, _, _, _, by omega, by omega, by have := HM1.out; omega, by go_num, by rw [HNW.out.2], by rw [HNW.out.1], B6.out⟩
                case measure => simp [intOf]; omega
              · have hq : ((L2 k : Int) != 128) = true := by rw [bne_iff_ne]; omega
                have HN128 : Hid (L2 k ≠ 128) := h128
                clear h128
                go_wp2_with (first | (at_builtin; refine append_vals u6 rfl (.const (.slice none 0 0)) (.tmp 91) 22 rfl u6.heap.size 5 (.int .u8 0) 1 Try.underlying22 infoByte rfl (.slice none 0 0) 0 [] rfl (World.ownsRow_nil _ _ _ _) (A2 k) (L2 k) (C2 k) (bvs (F2 k)) rfl HCJ.out (fun _ _ => rfl) (by omega) (by omega) (Nat.le_refl _) ?_) | go_in)
                intro vj u7w hownj hgrowj
                have hownj' : u7w.ownsRow u6.heap.size 5 1 vj (L2 k) ((List.range (L2 k)).map (bvs (F2 k))) := by simpa using hownj
                have XJ : Hid (Ext u6 u7w) := (Ext.refl u6).grow hgrowj fun _ hk => by cases hk
                obtain ⟨aj, cj, rfl, hsj⟩ := sect_own hownj' B6.out.ext.size
                have SJ : Hid (Sect u7w w.heap.size aj (L2 k) cj (F2 k)) := hsj
                have B7 : Hid (BSt w u7w vb m1 A1 L1 C1 G1) := B6.out.grow XJ.out
                have hs7 := B7.out.ext.size
                clear hownj hownj' hgrowj hsj XJ
                go_wp2_with (first | (at_builtin; refine append_one u7w rfl _ _ 34 rfl w.heap.size 22 (.slice none 0 0) 24 Try.underlying34 infoBytes rfl vb m1 _ rfl B7.out.own (.slice aj (L2 k) cj) 1 rfl rfl (by omega) (by omega) hs7 ?_) | go_in)
                intro vz u8w hownz hgrowz
                have B8 : Hid (BSt w u8w vz (m1 + 1) (upd A1 m1 aj) (upd L1 m1 (L2 k)) (upd C1 m1 cj) (upd G1 m1 (F2 k))) := B7.out.add SJ.out hownz hgrowz
                clear hownz hgrowz
                have HLV : Hid (atI (upd L1 m1 (L2 k)) (upd G1 m1 (F2 k)) (m1 + 1) = atI L1 G1 m1 ∧ tmI (upd L1 m1 (L2 k)) (upd G1 m1 (F2 k)) (m1 + 1) = tmI L1 G1 m1) := new_leave fun hz => absurd (decE_0 hz).1 HN128.out
                go_wp2_with fail
                go_roundw
                case rel => exact ⟨k + 1, m1 + 1, _, _, _, _, by omega, by omega, by have := HM1.out; omega, by go_num, by rw [HLV.out.2, HNW.out.2], by rw [HLV.out.1, HNW.out.1], B8.out⟩
                case measure => simp [intOf]; omega
            · have hk2i : ¬ (k : Int) < (n2 : Int) := by omega
              go_wp2_with fail
              go_roundw
              case rel => exact ⟨k + 1, m1, _, _, _, _, by omega, by omega, by have := HM1.out; omega, by go_num, by rw [HNW.out.2], by rw [HNW.out.1], B6.out⟩
              case measure => simp [intOf]; omega
          | false =>
            rw [hf] at hbc
            by_cases hgt : tmI L G m < V 4
            · have hnw : atI (upd L m 128) (upd G m (sec V)) (m + 1) = (m : Int) ∧ tmI (upd L m 128) (upd G m (sec V)) (m + 1) = V 4 := by
                have h := new_take (L := L) (F := G) (m := m) (l := 128) (g := sec V) HPT.out.1 (by rw [HPT.out.2]; exact hgt)
                rw [HPT.out.2] at h
                exact h
              have hrw := R3.out
              have XU : Hid (Ext wr u5) := X3
              go_upto_region 16 with fail
              have RW : Hid (u5.rowIs g 5 128 (bvs (sec V))) := hrw
              have B5 : Hid (BSt w u5 (.slice av m cv) m A L C G) := HBS.out.grow XU.out
              have hs5 := B5.out.ext.size
              have S5 : Hid (Sect u5 w.heap.size (some ⟨g, 0, none⟩) 128 128 (sec V)) := sect_row RW.out hgw (by omega)
              have HNW : Hid (atI (upd L m 128) (upd G m (sec V)) (m + 1) = (m : Int) ∧ tmI (upd L m 128) (upd G m (sec V)) (m + 1) = V 4) := hnw
              clear hrw hnw RW XU
              go_wp2_with (first | (at_builtin; refine append_one u5 rfl _ _ 34 rfl w.heap.size 22 (.slice none 0 0) 24 Try.underlying34 infoBytes rfl (.slice av m cv) m _ rfl B5.out.own (.slice (some ⟨g, 0, none⟩) 128 128) 1 rfl rfl (by omega) (by omega) hs5 ?_) | go_in)
              intro vb u6 hown6 hgrow6
              have B6 : Hid (BSt w u6 vb (m + 1) (upd A m (some ⟨g, 0, none⟩)) (upd L m 128) (upd C m 128) (upd G m (sec V))) := B5.out.add S5.out hown6 hgrow6
              clear hown6 hgrow6 S5 B5
              obtain ⟨m1, hm1⟩ : ∃ x : Nat, x = m + 1 := ⟨_, rfl⟩
              rw [← hm1] at B6 HNW
              have HM1 : Hid (m1 = m + 1) := hm1
              have hm1l : m1 ≤ 25 := by omega
              clear hm1
              generalize upd A m (some ⟨g, 0, none⟩) = A1 at *
              generalize upd L m 128 = L1 at *
              generalize upd C m 128 = C1 at *
              generalize upd G m (sec V) = G1 at *
              by_cases hk2 : k < n2
              · obtain ⟨⟨bj, oj, rfl, hcj⟩, hcolj⟩ := (HJ.out.ext B6.out.ext) k hk2
                have HCJ : Hid (Byts u6 (A2 k) (L2 k) (F2 k)) := hcolj
                have hjb := HJB.out k hk2
                have hk2i : (k : Int) < (n2 : Int) := by omega
                clear hcolj
                by_cases h128 : L2 k = 128
                · have hq : ((L2 k : Int) != 128) = false := by rw [bne_eq_false_iff_eq]; omega
                  clear h128 hjb
                  go_wp2_with fail
                  go_roundw
                  case rel => exact ⟨k + 1, m1, _, _, _, _, by omega, by omega, by have := HM1.out; omega, by go_num, by rw [HNW.out.2], by rw [HNW.out.1], B6.out⟩
                  case measure => simp [intOf]; omega
                · have hq : ((L2 k : Int) != 128) = true := by rw [bne_iff_ne]; omega
                  have HN128 : Hid (L2 k ≠ 128) := h128
                  clear h128
                  go_wp2_with (first | (at_builtin; refine append_vals u6 rfl (.const (.slice none 0 0)) (.tmp 91) 22 rfl u6.heap.size 5 (.int .u8 0) 1 Try.underlying22 infoByte rfl (.slice none 0 0) 0 [] rfl (World.ownsRow_nil _ _ _ _) (A2 k) (L2 k) (C2 k) (bvs (F2 k)) rfl HCJ.out (fun _ _ => rfl) (by omega) (by omega) (Nat.le_refl _) ?_) | go_in)
                  intro vj u7w hownj hgrowj
                  have hownj' : u7w.ownsRow u6.heap.size 5 1 vj (L2 k) ((List.range (L2 k)).map (bvs (F2 k))) := by simpa using hownj
                  have XJ : Hid (Ext u6 u7w) := (Ext.refl u6).grow hgrowj fun _ hk => by cases hk
                  obtain ⟨aj, cj, rfl, hsj⟩ := sect_own hownj' B6.out.ext.size
                  have SJ : Hid (Sect u7w w.heap.size aj (L2 k) cj (F2 k)) := hsj
                  have B7 : Hid (BSt w u7w vb m1 A1 L1 C1 G1) := B6.out.grow XJ.out
                  have hs7 := B7.out.ext.size
                  clear hownj hownj' hgrowj hsj XJ
                  go_wp2_with (first | (at_builtin; refine append_one u7w rfl _ _ 34 rfl w.heap.size 22 (.slice none 0 0) 24 Try.underlying34 infoBytes rfl vb m1 _ rfl B7.out.own (.slice aj (L2 k) cj) 1 rfl rfl (by omega) (by omega) hs7 ?_) | go_in)
                  intro vz u8w hownz hgrowz
                  have B8 : Hid (BSt w u8w vz (m1 + 1) (upd A1 m1 aj) (upd L1 m1 (L2 k)) (upd C1 m1 cj) (upd G1 m1 (F2 k))) := B7.out.add SJ.out hownz hgrowz
                  clear hownz hgrowz
                  have HLV : Hid (atI (upd L1 m1 (L2 k)) (upd G1 m1 (F2 k)) (m1 + 1) = atI L1 G1 m1 ∧ tmI (upd L1 m1 (L2 k)) (upd G1 m1 (F2 k)) (m1 + 1) = tmI L1 G1 m1) := new_leave fun hz => absurd (decE_0 hz).1 HN128.out
                  go_wp2_with fail
                  go_roundw
                  case rel => exact ⟨k + 1, m1 + 1, _, _, _, _, by omega, by omega, by have := HM1.out; omega, by go_num, by rw [HLV.out.2, HNW.out.2], by rw [HLV.out.1, HNW.out.1], B8.out⟩
                  case measure => simp [intOf]; omega
              · have hk2i : ¬ (k : Int) < (n2 : Int) := by omega
                go_wp2_with fail
                go_roundw
                case rel => exact ⟨k + 1, m1, _, _, _, _, by omega, by omega, by have := HM1.out; omega, by go_num, by rw [HNW.out.2], by rw [HNW.out.1], B6.out⟩
                case measure => simp [intOf]; omega
            · have hnw : atI (upd L m 128) (upd G m (sec V)) (m + 1) = atI L G m ∧ tmI (upd L m 128) (upd G m (sec V)) (m + 1) = tmI L G m := new_leave fun _ => ⟨by rw [HPT.out.2]; exact hgt, by rw [HPT.out.2]; have := (may_is HM.out); omega⟩
              have hrw := R3.out
              have XU : Hid (Ext wr u5) := X3
              go_upto_region 16 with fail
              have RW : Hid (u5.rowIs g 5 128 (bvs (sec V))) := hrw
              have B5 : Hid (BSt w u5 (.slice av m cv) m A L C G) := HBS.out.grow XU.out
              have hs5 := B5.out.ext.size
              have S5 : Hid (Sect u5 w.heap.size (some ⟨g, 0, none⟩) 128 128 (sec V)) := sect_row RW.out hgw (by omega)
              have HNW : Hid (atI (upd L m 128) (upd G m (sec V)) (m + 1) = atI L G m ∧ tmI (upd L m 128) (upd G m (sec V)) (m + 1) = tmI L G m) := hnw
              clear hrw hnw RW XU
              go_wp2_with (first | (at_builtin; refine append_one u5 rfl _ _ 34 rfl w.heap.size 22 (.slice none 0 0) 24 Try.underlying34 infoBytes rfl (.slice av m cv) m _ rfl B5.out.own (.slice (some ⟨g, 0, none⟩) 128 128) 1 rfl rfl (by omega) (by omega) hs5 ?_) | go_in)
              intro vb u6 hown6 hgrow6
              have B6 : Hid (BSt w u6 vb (m + 1) (upd A m (some ⟨g, 0, none⟩)) (upd L m 128) (upd C m 128) (upd G m (sec V))) := B5.out.add S5.out hown6 hgrow6
              clear hown6 hgrow6 S5 B5
              obtain ⟨m1, hm1⟩ : ∃ x : Nat, x = m + 1 := ⟨_, rfl⟩
              rw [← hm1] at B6 HNW
              have HM1 : Hid (m1 = m + 1) := hm1
              have hm1l : m1 ≤ 25 := by omega
              clear hm1
              generalize upd A m (some ⟨g, 0, none⟩) = A1 at *
              generalize upd L m 128 = L1 at *
              generalize upd C m 128 = C1 at *
              generalize upd G m (sec V) = G1 at *
              by_cases hk2 : k < n2
              · obtain ⟨⟨bj, oj, rfl, hcj⟩, hcolj⟩ := (HJ.out.ext B6.out.ext) k hk2
                have HCJ : Hid (Byts u6 (A2 k) (L2 k) (F2 k)) := hcolj
                have hjb := HJB.out k hk2
                have hk2i : (k : Int) < (n2 : Int) := by omega
                clear hcolj
                by_cases h128 : L2 k = 128
                · have hq : ((L2 k : Int) != 128) = false := by rw [bne_eq_false_iff_eq]; omega
                  clear h128 hjb
                  go_wp2_with fail
                  go_roundw
                  case rel => exact ⟨k + 1, m1, _, _, _, _, by omega, by omega, by have := HM1.out; omega, by go_num, by rw [HNW.out.2], by rw [HNW.out.1], B6.out⟩
                  case measure => simp [intOf]; omega
                · have hq : ((L2 k : Int) != 128) = true := by rw [bne_iff_ne]; omega
                  have HN128 : Hid (L2 k ≠ 128) := h128
                  clear h128
                  go_wp2_with (first | (at_builtin; refine append_vals u6 rfl (.const (.slice none 0 0)) (.tmp 91) 22 rfl u6.heap.size 5 (.int .u8 0) 1 Try.underlying22 infoByte rfl (.slice none 0 0) 0 [] rfl (World.ownsRow_nil _ _ _ _) (A2 k) (L2 k) (C2 k) (bvs (F2 k)) rfl HCJ.out (fun _ _ => rfl) (by omega) (by omega) (Nat.le_refl _) ?_) | go_in)
                  intro vj u7w hownj hgrowj
                  have hownj' : u7w.ownsRow u6.heap.size 5 1 vj (L2 k) ((List.range (L2 k)).map (bvs (F2 k))) := by simpa using hownj
                  have XJ : Hid (Ext u6 u7w) := (Ext.refl u6).grow hgrowj fun _ hk => by cases hk
                  obtain ⟨aj, cj, rfl, hsj⟩ := sect_own hownj' B6.out.ext.size
                  have SJ : Hid (Sect u7w w.heap.size aj (L2 k) cj (F2 k)) := hsj
                  have B7 : Hid (BSt w u7w vb m1 A1 L1 C1 G1) := B6.out.grow XJ.out
                  have hs7 := B7.out.ext.size
                  clear hownj hownj' hgrowj hsj XJ
                  go_wp2_with (first | (at_builtin; refine append_one u7w rfl _ _ 34 rfl w.heap.size 22 (.slice none 0 0) 24 Try.underlying34 infoBytes rfl vb m1 _ rfl B7.out.own (.slice aj (L2 k) cj) 1 rfl rfl (by omega) (by omega) hs7 ?_) | go_in)
                  intro vz u8w hownz hgrowz
                  have B8 : Hid (BSt w u8w vz (m1 + 1) (upd A1 m1 aj) (upd L1 m1 (L2 k)) (upd C1 m1 cj) (upd G1 m1 (F2 k))) := B7.out.add SJ.out hownz hgrowz
                  clear hownz hgrowz
                  have HLV : Hid (atI (upd L1 m1 (L2 k)) (upd G1 m1 (F2 k)) (m1 + 1) = atI L1 G1 m1 ∧ tmI (upd L1 m1 (L2 k)) (upd G1 m1 (F2 k)) (m1 + 1) = tmI L1 G1 m1) := new_leave fun hz => absurd (decE_0 hz).1 HN128.out
                  go_wp2_with fail
                  go_roundw
                  case rel => exact ⟨k + 1, m1 + 1, _, _, _, _, by omega, by omega, by have := HM1.out; omega, by go_num, by rw [HLV.out.2, HNW.out.2], by rw [HLV.out.1, HNW.out.1], B8.out⟩
                  case measure => simp [intOf]; omega
              · have hk2i : ¬ (k : Int) < (n2 : Int) := by omega
                go_wp2_with fail
                go_roundw
                case rel => exact ⟨k + 1, m1, _, _, _, _, by omega, by omega, by have := HM1.out; omega, by go_num, by rw [HNW.out.2], by rw [HNW.out.1], B6.out⟩
                case measure => simp [intOf]; omega
        · have hn1i : ¬ (k : Int) < (n1 : Int) := by omega
          by_cases hgt : tmI L G m < V 4
          · have hnw : atI (upd L m 128) (upd G m (sec V)) (m + 1) = (m : Int) ∧ tmI (upd L m 128) (upd G m (sec V)) (m + 1) = V 4 := by
              have h := new_take (L := L) (F := G) (m := m) (l := 128) (g := sec V) HPT.out.1 (by rw [HPT.out.2]; exact hgt)
              rw [HPT.out.2] at h
              exact h
            have hrw := R3.out
            have XU : Hid (Ext wr u5) := X3
            go_upto_region 16 with fail
            have RW : Hid (u5.rowIs g 5 128 (bvs (sec V))) := hrw
            have B5 : Hid (BSt w u5 (.slice av m cv) m A L C G) := HBS.out.grow XU.out
            have hs5 := B5.out.ext.size
            have S5 : Hid (Sect u5 w.heap.size (some ⟨g, 0, none⟩) 128 128 (sec V)) := sect_row RW.out hgw (by omega)
            have HNW : Hid (atI (upd L m 128) (upd G m (sec V)) (m + 1) = (m : Int) ∧ tmI (upd L m 128) (upd G m (sec V)) (m + 1) = V 4) := hnw
            clear hrw hnw RW XU
            go_wp2_with (first | (at_builtin; refine append_one u5 rfl _ _ 34 rfl w.heap.size 22 (.slice none 0 0) 24 Try.underlying34 infoBytes rfl (.slice av m cv) m _ rfl B5.out.own (.slice (some ⟨g, 0, none⟩) 128 128) 1 rfl rfl (by omega) (by omega) hs5 ?_) | go_in)
            intro vb u6 hown6 hgrow6
            have B6 : Hid (BSt w u6 vb (m + 1) (upd A m (some ⟨g, 0, none⟩)) (upd L m 128) (upd C m 128) (upd G m (sec V))) := B5.out.add S5.out hown6 hgrow6
            clear hown6 hgrow6 S5 B5
            obtain ⟨m1, hm1⟩ : ∃ x : Nat, x = m + 1 := ⟨_, rfl⟩
            rw [← hm1] at B6 HNW
            have HM1 : Hid (m1 = m + 1) := hm1
            have hm1l : m1 ≤ 25 := by omega
            clear hm1
            generalize upd A m (some ⟨g, 0, none⟩) = A1 at *
            generalize upd L m 128 = L1 at *
            generalize upd C m 128 = C1 at *
            generalize upd G m (sec V) = G1 at *
            by_cases hk2 : k < n2
            · obtain ⟨⟨bj, oj, rfl, hcj⟩, hcolj⟩ := (HJ.out.ext B6.out.ext) k hk2
              have HCJ : Hid (Byts u6 (A2 k) (L2 k) (F2 k)) := hcolj
              have hjb := HJB.out k hk2
              have hk2i : (k : Int) < (n2 : Int) := by omega
              clear hcolj
              by_cases h128 : L2 k = 128
              · have hq : ((L2 k : Int) != 128) = false := by rw [bne_eq_false_iff_eq]; omega
                clear h128 hjb
                go_wp2_with fail
                go_roundw
                case rel => exact ⟨k + 1, m1, _, _, _, _, by omega, by omega, by have := HM1.out; omega, by go_num, by rw [HNW.out.2], by rw [HNW.out.1], B6.out⟩
                case measure => simp [intOf]; omega
              · have hq : ((L2 k : Int) != 128) = true := by rw [bne_iff_ne]; omega
                have HN128 : Hid (L2 k ≠ 128) := h128
                clear h128
                go_wp2_with (first | (at_builtin; refine append_vals u6 rfl (.const (.slice none 0 0)) (.tmp 91) 22 rfl u6.heap.size 5 (.int .u8 0) 1 Try.underlying22 infoByte rfl (.slice none 0 0) 0 [] rfl (World.ownsRow_nil _ _ _ _) (A2 k) (L2 k) (C2 k) (bvs (F2 k)) rfl HCJ.out (fun _ _ => rfl) (by omega) (by omega) (Nat.le_refl _) ?_) | go_in)
                intro vj u7w hownj hgrowj
                have hownj' : u7w.ownsRow u6.heap.size 5 1 vj (L2 k) ((List.range (L2 k)).map (bvs (F2 k))) := by simpa using hownj
                have XJ : Hid (Ext u6 u7w) := (Ext.refl u6).grow hgrowj fun _ hk => by cases hk
                obtain ⟨aj, cj, rfl, hsj⟩ := sect_own hownj' B6.out.ext.size
                have SJ : Hid (Sect u7w w.heap.size aj (L2 k) cj (F2 k)) := hsj
                have B7 : Hid (BSt w u7w vb m1 A1 L1 C1 G1) := B6.out.grow XJ.out
                have hs7 := B7.out.ext.size
                clear hownj hownj' hgrowj hsj XJ
                go_wp2_with (first | (at_builtin; refine append_one u7w rfl _ _ 34 rfl w.heap.size 22 (.slice none 0 0) 24 Try.underlying34 infoBytes rfl vb m1 _ rfl B7.out.own (.slice aj (L2 k) cj) 1 rfl rfl (by omega) (by omega) hs7 ?_) | go_in)
                intro vz u8w hownz hgrowz
                have B8 : Hid (BSt w u8w vz (m1 + 1) (upd A1 m1 aj) (upd L1 m1 (L2 k)) (upd C1 m1 cj) (upd G1 m1 (F2 k))) := B7.out.add SJ.out hownz hgrowz
                clear hownz hgrowz
                have HLV : Hid (atI (upd L1 m1 (L2 k)) (upd G1 m1 (F2 k)) (m1 + 1) = atI L1 G1 m1 ∧ tmI (upd L1 m1 (L2 k)) (upd G1 m1 (F2 k)) (m1 + 1) = tmI L1 G1 m1) := new_leave fun hz => absurd (decE_0 hz).1 HN128.out
                go_wp2_with fail
                go_roundw
                case rel => exact ⟨k + 1, m1 + 1, _, _, _, _, by omega, by omega, by have := HM1.out; omega, by go_num, by rw [HLV.out.2, HNW.out.2], by rw [HLV.out.1, HNW.out.1], B8.out⟩
                case measure => simp [intOf]; omega
            · have hk2i : ¬ (k : Int) < (n2 : Int) := by omega
              go_wp2_with fail
              go_roundw
              case rel => exact ⟨k + 1, m1, _, _, _, _, by omega, by omega, by have := HM1.out; omega, by go_num, by rw [HNW.out.2], by rw [HNW.out.1], B6.out⟩
              case measure => simp [intOf]; omega
          · have hnw : atI (upd L m 128) (upd G m (sec V)) (m + 1) = atI L G m ∧ tmI (upd L m 128) (upd G m (sec V)) (m + 1) = tmI L G m := new_leave fun _ => ⟨by rw [HPT.out.2]; exact hgt, by rw [HPT.out.2]; have := (may_is HM.out); omega⟩
            have hrw := R3.out
            have XU : Hid (Ext wr u5) := X3
            go_upto_region 16 with fail
            have RW : Hid (u5.rowIs g 5 128 (bvs (sec V))) := hrw
            have B5 : Hid (BSt w u5 (.slice av m cv) m A L C G) := HBS.out.grow XU.out
            have hs5 := B5.out.ext.size
            have S5 : Hid (Sect u5 w.heap.size (some ⟨g, 0, none⟩) 128 128 (sec V)) := sect_row RW.out hgw (by omega)
            have HNW : Hid (atI (upd L m 128) (upd G m (sec V)) (m + 1) = atI L G m ∧ tmI (upd L m 128) (upd G m (sec V)) (m + 1) = tmI L G m) := hnw
            clear hrw hnw RW XU
            go_wp2_with (first | (at_builtin; refine append_one u5 rfl _ _ 34 rfl w.heap.size 22 (.slice none 0 0) 24 Try.underlying34 infoBytes rfl (.slice av m cv) m _ rfl B5.out.own (.slice (some ⟨g, 0, none⟩) 128 128) 1 rfl rfl (by omega) (by omega) hs5 ?_) | go_in)
            intro vb u6 hown6 hgrow6
            have B6 : Hid (BSt w u6 vb (m + 1) (upd A m (some ⟨g, 0, none⟩)) (upd L m 128) (upd C m 128) (upd G m (sec V))) := B5.out.add S5.out hown6 hgrow6
            clear hown6 hgrow6 S5 B5
            obtain ⟨m1, hm1⟩ : ∃ x : Nat, x = m + 1 := ⟨_, rfl⟩
            rw [← hm1] at B6 HNW
            have HM1 : Hid (m1 = m + 1) := hm1
            have hm1l : m1 ≤ 25 := by omega
            clear hm1
            generalize upd A m (some ⟨g, 0, none⟩) = A1 at *
            generalize upd L m 128 = L1 at *
            generalize upd C m 128 = C1 at *
            generalize upd G m (sec V) = G1 at *
            by_cases hk2 : k < n2
            · obtain ⟨⟨bj, oj, rfl, hcj⟩, hcolj⟩ := (HJ.out.ext B6.out.ext) k hk2
              have HCJ : Hid (Byts u6 (A2 k) (L2 k) (F2 k)) := hcolj
              have hjb := HJB.out k hk2
              have hk2i : (k : Int) < (n2 : Int) := by omega
              clear hcolj
              by_cases h128 : L2 k = 128
              · have hq : ((L2 k : Int) != 128) = false := by rw [bne_eq_false_iff_eq]; omega
                clear h128 hjb
                go_wp2_with fail
                go_roundw
                case rel => exact ⟨k + 1, m1, _, _, _, _, by omega, by omega, by have := HM1.out; omega, by go_num, by rw [HNW.out.2], by rw [HNW.out.1], B6.out⟩
                case measure => simp [intOf]; omega
              · have hq : ((L2 k : Int) != 128) = true := by rw [bne_iff_ne]; omega
                have HN128 : Hid (L2 k ≠ 128) := h128
                clear h128
                go_wp2_with (first | (at_builtin; refine append_vals u6 rfl (.const (.slice none 0 0)) (.tmp 91) 22 rfl u6.heap.size 5 (.int .u8 0) 1 Try.underlying22 infoByte rfl (.slice none 0 0) 0 [] rfl (World.ownsRow_nil _ _ _ _) (A2 k) (L2 k) (C2 k) (bvs (F2 k)) rfl HCJ.out (fun _ _ => rfl) (by omega) (by omega) (Nat.le_refl _) ?_) | go_in)
                intro vj u7w hownj hgrowj
                have hownj' : u7w.ownsRow u6.heap.size 5 1 vj (L2 k) ((List.range (L2 k)).map (bvs (F2 k))) := by simpa using hownj
                have XJ : Hid (Ext u6 u7w) := (Ext.refl u6).grow hgrowj fun _ hk => by cases hk
                obtain ⟨aj, cj, rfl, hsj⟩ := sect_own hownj' B6.out.ext.size
                have SJ : Hid (Sect u7w w.heap.size aj (L2 k) cj (F2 k)) := hsj
                have B7 : Hid (BSt w u7w vb m1 A1 L1 C1 G1) := B6.out.grow XJ.out
                have hs7 := B7.out.ext.size
                clear hownj hownj' hgrowj hsj XJ
                go_wp2_with (first | (at_builtin; refine append_one u7w rfl _ _ 34 rfl w.heap.size 22 (.slice none 0 0) 24 Try.underlying34 infoBytes rfl vb m1 _ rfl B7.out.own (.slice aj (L2 k) cj) 1 rfl rfl (by omega) (by omega) hs7 ?_) | go_in)
                intro vz u8w hownz hgrowz
                have B8 : Hid (BSt w u8w vz (m1 + 1) (upd A1 m1 aj) (upd L1 m1 (L2 k)) (upd C1 m1 cj) (upd G1 m1 (F2 k))) := B7.out.add SJ.out hownz hgrowz
                clear hownz hgrowz
                have HLV : Hid (atI (upd L1 m1 (L2 k)) (upd G1 m1 (F2 k)) (m1 + 1) = atI L1 G1 m1 ∧ tmI (upd L1 m1 (L2 k)) (upd G1 m1 (F2 k)) (m1 + 1) = tmI L1 G1 m1) := new_leave fun hz => absurd (decE_0 hz).1 HN128.out
                go_wp2_with fail
                go_roundw
                case rel => exact ⟨k + 1, m1 + 1, _, _, _, _, by omega, by omega, by have := HM1.out; omega, by go_num, by rw [HLV.out.2, HNW.out.2], by rw [HLV.out.1, HNW.out.1], B8.out⟩
                case measure => simp [intOf]; omega
            · have hk2i : ¬ (k : Int) < (n2 : Int) := by omega
              go_wp2_with fail
              go_roundw
              case rel => exact ⟨k + 1, m1, _, _, _, _, by omega, by omega, by have := HM1.out; omega, by go_num, by rw [HNW.out.2], by rw [HNW.out.1], B6.out⟩
              case measure => simp [intOf]; omega
      · have hk0i : (k : Int) < (n0 : Int) := by omega
        have hk12i : ¬ (k : Int) < 12 := by omega
        obtain ⟨av', cv', hv', hcols, hroom⟩ := HBS.out.cols
        cases hv'
        have HE := HBS.out.ext
        go_wp2_with fail
        refine (Best_any av m cv A L C G _ (by omega) hroom hcols).mono ?_
        rintro e u2 ⟨rfl, hx2⟩
        have XE : Hid (Ext w (u2.alloc (.cells #[.int .i64 (bestV L G m 0), .int .i64 (bestV L G m 1), .int .i64 (bestV L G m 2), .int .i64 (bestV L G m 3), .int .i64 (bestV L G m 4), .int .i64 (bestV L G m 5), .int .i64 (bestV L G m 6), .int .i64 (bestV L G m 7), .int .i64 (bestV L G m 8), .int .i64 (bestV L G m 9), .int .i64 (bestV L G m 10), .int .i64 (bestV L G m 11), .int .i64 (bestV L G m 12)] 28))) := (HE.trans hx2).alloc _ _
        clear hcols hroom HE hx2 HBS
        by_cases h0 : bestP L G m = 0
        · have hI : bestI L G m = 0 := by unfold bestI; rw [h0]; rfl
          have hE : bestE L G m = 6 := by unfold bestE; rw [if_pos h0]
          have hat : atI L G m = -1 := by unfold atI; rw [h0]; rfl
          rw [hI, hE, hat]
          clear hI hE hat h0
          go_wp2_with fail
          go_ret
          exact ⟨rfl, XE.out⟩
        · have hI : bestI L G m = atI L G m := by unfold bestI atI; omega
          have hE : bestE L G m = 0 := by unfold bestE; rw [if_neg h0]
          have hT : tmI L G m = bestV L G m 4 := by unfold tmI; rw [if_neg h0]
          have hat : ¬ atI L G m < 0 := by unfold atI; omega
          rw [hI, hE, hT]
          generalize atI L G m = AT at *
          clear hI hE hT h0
          go_wp2_with fail
          go_ret
          exact ⟨rfl, XE.out⟩
    · have hk0i : ¬ (k : Int) < (n0 : Int) := by omega
      obtain ⟨av', cv', hv', hcols, hroom⟩ := HBS.out.cols
      cases hv'
      have HE := HBS.out.ext
      go_wp2_with fail
      refine (Best_any av m cv A L C G _ (by omega) hroom hcols).mono ?_
      rintro e u2 ⟨rfl, hx2⟩
      have XE : Hid (Ext w (u2.alloc (.cells #[.int .i64 (bestV L G m 0), .int .i64 (bestV L G m 1), .int .i64 (bestV L G m 2), .int .i64 (bestV L G m 3), .int .i64 (bestV L G m 4), .int .i64 (bestV L G m 5), .int .i64 (bestV L G m 6), .int .i64 (bestV L G m 7), .int .i64 (bestV L G m 8), .int .i64 (bestV L G m 9), .int .i64 (bestV L G m 10), .int .i64 (bestV L G m 11), .int .i64 (bestV L G m 12)] 28))) := (HE.trans hx2).alloc _ _
      clear hcols hroom HE hx2 HBS
      by_cases h0 : bestP L G m = 0
      · have hI : bestI L G m = 0 := by unfold bestI; rw [h0]; rfl
        have hE : bestE L G m = 6 := by unfold bestE; rw [if_pos h0]
        have hat : atI L G m = -1 := by unfold atI; rw [h0]; rfl
        rw [hI, hE, hat]
        clear hI hE hat h0
        go_wp2_with fail
        go_ret
        exact ⟨rfl, XE.out⟩
      · have hI : bestI L G m = atI L G m := by unfold bestI atI; omega
        have hE : bestE L G m = 0 := by unfold bestE; rw [if_neg h0]
        have hT : tmI L G m = bestV L G m 4 := by unfold tmI; rw [if_neg h0]
        have hat : ¬ atI L G m < 0 := by unfold atI; omega
        rw [hI, hE, hT]
        generalize atI L G m = AT at *
        clear hI hE hT h0
        go_wp2_with fail
        go_ret
        exact ⟨rfl, XE.out⟩
end Go.Proofs.Ytemndnpbbkjmhab.bestNewest
