/-
  Any columns may be lost, as many as there are parity columns, and nothing is: at every list of bytes, numbers, list of places and whatever stands in the lost ones' places; no condition.
-/
import Derived.Test.YtbngmmlmhmmpbaaRows
import Derived.WalkKit
import Derived.ProofKit
import Derived.OpenShut
import Derived.ChangeOld
import Derived.Below
import Derived.BigQuiet
import Derived.Deep.CutRange
import Derived.Deep.QuietTactic
import Derived.Deep.RegionLaw
import Derived.Test.YtbngmmlmhmmpbaaOpn
import Derived.Test.YtbngmmlmhmmpbaaChecked
import Derived.Test.YtbngmmlmhmmpbaaKeepEnc
import Derived.Test.YtbngmmlmhmmpbaaKeepAll
import Derived.Test.YtbngmmlmhmmpbaaSameB
namespace Go.Proofs.Ytbngmmlmhmmpbaa.rebuildAll
open Go.ChangeShapes Go.WideShapes Go.ChangeAt Go.RowKit Go.Deep E
set_option linter.unusedVariables false

set_option maxRecDepth 100000 in
set_option maxHeartbeats 4000000 in
theorem walk (a0 : Option Addr) (n0 c0 : Nat) (f0 : Nat → E) (a1 : Int) (a2 : Int) (a3 : Option Addr) (n3 c3 : Nat) (f3 : Nat → Int) (a4 : Option Addr) (n4 c4 : Nat) (f4 : Nat → E) (w : World) (h0 : Byts w a0 n0 f0) (b0 : n0 ≤ c0 ∧ c0 ≤ 9223372036854775807) (z0 : c0 * 1 ≤ 140737488351232) (w1 : -9223372036854775808 ≤ a1 ∧ a1 ≤ 9223372036854775807) (w2 : -9223372036854775808 ≤ a2 ∧ a2 ≤ 9223372036854775807) (h3 : Ints w a3 n3 f3) (b3 : n3 ≤ 9223372036854775807 ∧ ∀ i, i < n3 → -9223372036854775808 ≤ f3 i ∧ f3 i ≤ 9223372036854775807) (z3 : n3 ≤ c3 ∧ c3 * 8 ≤ 140737488351232) (h4 : Byts w a4 n4 f4) (b4 : n4 ≤ c4 ∧ c4 ≤ 9223372036854775807) (z4 : c4 * 1 ≤ 140737488351232) :
    Calls Try.prog 6 #[.slice a0 n0 c0, .int .i64 a1, .int .i64 a2, .slice a3 n3 c3, .slice a4 n4 c4] w fun e w' => e = .returned (.bool true) ∧ Ext w w' := by
  have HB : Hid (Byts w a0 n0 f0) := h0
  have HL : Hid (Ints w a3 n3 f3) := h3
  have HJ : Hid (Byts w a4 n4 f4) := h4
  have HLB : Hid (∀ i, i < n3 → -9223372036854775808 ≤ f3 i ∧ f3 i ≤ 9223372036854775807) := b3.2
  have hn3 := b3.1
  clear h0 h3 h4 b3
  obtain ⟨b01, b02⟩ := b0
  obtain ⟨b41, b42⟩ := b4
  obtain ⟨xn, hxn, hxn2⟩ := picked_is a1 12 (by omega)
  obtain ⟨xp, hxp, hxp2⟩ := picked_is a2 3 (by omega)
  have HN : Hid (a1 % 12 = xn) := hxn
  have HP : Hid (a2 % 3 = xp) := hxp
  clear hxn hxp
  go_enter Try.func6, Try.ntmps6
  go_wp2_with fail
  refine (Picked_bd a1 12 xn _ (by omega) (by omega) w1 HN.out).mono ?_
  rintro e v3 ⟨rfl, rfl⟩
  go_wp2_with fail
  refine (Picked_bd a2 3 xp _ (by omega) (by omega) w2 HP.out).mono ?_
  rintro e v4 ⟨rfl, rfl⟩
  obtain ⟨N, hN⟩ : ∃ N : Nat, 1 + xn = N := ⟨_, rfl⟩
  obtain ⟨q, hq⟩ : ∃ q : Nat, 1 + xp = q := ⟨_, rfl⟩
  have hNb : 1 ≤ N ∧ N ≤ 12 := by omega
  have hqb : 1 ≤ q ∧ q ≤ 3 := by omega
  have eN : (1 : Int) + (xn : Int) = (N : Int) := by omega
  have eq' : (1 : Int) + (xp : Int) = (q : Int) := by omega
  clear hN hq HN HP
  go_wp2_with fail
  refine (ColumnsOf_any _ n0 c0 f0 N _ ⟨hNb.1, by omega⟩ (by omega) (by omega) HB.out).mono ?_
  rintro e v5 ⟨vx, Vx, rfl, hX0⟩
  obtain ⟨m, hm⟩ : ∃ m : Nat, colLen n0 N = m := ⟨_, rfl⟩
  have hm64 : m ≤ 64 := by rw [← hm]; exact (colLen_le _ _).1
  rw [hm] at hX0
  obtain ⟨D, hXd⟩ : ∃ X : Nat → Nat → E, (fun i k => f0 (i * m + k)) = X := ⟨_, rfl⟩
  have hX : COf v4 v5 vx N m Vx D := by rw [← hXd]; exact hX0
  obtain ⟨ax, cx, Ax, Cx, rfl, hXc⟩ := hX.cols
  have hx5 := hX.ext
  have HX : Hid (Cols v5 ax N Ax (fun _ => m) Cx D) := hXc
  clear hX hXc hX0 hXd hm
  go_wp2_with fail
  refine (Encode_E ax N cx Ax Cx D m q _ hNb (by omega) hqb HX.out).mono ?_
  rintro e v6 ⟨⟨sa, sc, sA, sC, rfl, hS⟩, hx6⟩
  have HS : Hid (Cols v6 sa q sA (fun _ => m) sC (enc N D)) := hS
  have HX6 : Hid (Cols v6 ax N Ax (fun _ => m) Cx D) := HX.out.ext hx6
  have hx46 := hx5.trans hx6
  have hBq : ((q : Int) != (q : Int)) = false := by simp
  clear hS HX hx5 hx6
  have HXF : Hid (∀ i, i < N → ∃ b o, ax = some ⟨b, o, none⟩ ∧ v6.cell? ⟨b, o + i, none⟩ = some (.slice (Ax i) m (Cx i))) := fun i hi => (HX6.out i hi).1
  have HSF : Hid (∀ i, i < q → ∃ b o, sa = some ⟨b, o, none⟩ ∧ v6.cell? ⟨b, o + i, none⟩ = some (.slice (sA i) m (sC i))) := fun i hi => (HS.out i hi).1
  go_wp2_with (first | (at_builtin; refine append_vals v6 rfl (.const (.slice none 0 0)) (.tmp 45) 22 rfl v6.heap.size 32 (.slice none 0 0) 24 Try.underlying22 infoBytes rfl (.slice none 0 0) 0 [] rfl (World.ownsRow_nil _ _ _ _) ax N cx (fun i => .slice (Ax i) m (Cx i)) rfl HXF.out (fun _ _ => rfl) (by omega) (by omega) (Nat.le_refl _) ?_) | go_in)
  intro va v7 hownA hgrowA
  have hx7 : Ext v6 v7 := (Ext.refl v6).grow hgrowA fun _ hk => by cases hk
  have HOA : Hid (v7.ownsRow v6.heap.size 32 1 va N ((List.range N).map fun i => .slice (Ax i) m (Cx i))) := hownA
  have HSF7 : Hid (∀ i, i < q → ∃ b o, sa = some ⟨b, o, none⟩ ∧ v7.cell? ⟨b, o + i, none⟩ = some (.slice (sA i) m (sC i))) := fun i hi => by
    obtain ⟨b, o, h1, h2⟩ := HSF.out i hi
    exact ⟨b, o, h1, hx7.keeps h2⟩
  have hs7 := hx7.size
  clear hownA hgrowA
  go_wp2_with (first | (at_builtin; refine append_vals v7 rfl (.tmp 46) (.tmp 47) 22 rfl v6.heap.size 32 (.slice none 0 0) 24 Try.underlying22 infoBytes rfl va N _ rfl HOA.out sa q sc (fun i => .slice (sA i) m (sC i)) rfl HSF7.out (fun _ _ => rfl) (by omega) (by omega) hs7 ?_) | go_in)
  intro vb v8 hownB hgrowB
  have hx8 : Ext v6 v8 := hx7.grow hgrowB fun b hb => (own_ge HOA.out hb).1
  obtain ⟨U, hU⟩ : ∃ U : Nat → Value, (fun r => if r < N then Value.slice (Ax r) m (Cx r) else .slice (sA (r - N)) m (sC (r - N))) = U := ⟨_, rfl⟩
  have HOB : Hid (v8.ownsRow v6.heap.size 32 1 vb (N + q) ((List.range (N + q)).map U)) := by
    have e : (List.range N).map (fun i => Value.slice (Ax i) m (Cx i)) ++ (List.range q).map (fun i => Value.slice (sA i) m (sC i)) = (List.range (N + q)).map U := by
      rw [← hU, List.range_add, List.map_append, List.map_map]
      congr 1
      · exact List.map_congr_left fun i hi => by rw [if_pos (List.mem_range.1 hi)]
      · refine List.map_congr_left fun i hi => ?_
        simp only [Function.comp]
        rw [if_neg (by omega), show N + i - N = i by omega]
    rw [← e]; exact hownB
  have HUC : Hid (∀ r, r < N + q → ∃ a c, U r = .slice a m c ∧ Byts v8 a m (wholeF N D r)) := fun r hr => by
    rw [← hU]
    unfold wholeF
    dsimp only
    by_cases e : r < N
    · rw [if_pos e, if_pos e]; exact ⟨_, _, rfl, (HX6.out.col e).ext hx8⟩
    · rw [if_neg e, if_neg e]; exact ⟨_, _, rfl, (HS.out.col (show r - N < q by omega)).ext hx8⟩
  obtain ⟨aB, cB, rfl, hcB⟩ := own_slice HOB.out
  have HCB : Hid (∀ i, i < N + q → ∃ b o, aB = some ⟨b, o, none⟩ ∧ v8.cell? ⟨b, o + i, none⟩ = some (U i)) := fun i hi => by
    obtain ⟨b, o, h1, h2⟩ := hcB i hi
    exact ⟨b, o, h1, by rw [h2]; simp [hi]⟩
  have hx48 := hx46.trans hx8
  clear hownB hgrowB hcB hU HXF HSF HSF7 HOA hx7 hx8 hs7 HX6 HS hx46 HOB eN eq'
  obtain ⟨n, hn⟩ : ∃ n, N + q = n := ⟨_, rfl⟩
  rw [hn] at HUC HCB
  rw [hn]
  go_wp2_with fail
  refine (Several_any a3 n3 c3 f3 q n _ (by omega) (by omega) (by omega) (HL.out.ext hx48) HLB.out).mono ?_
  rintro e v9 ⟨has, vg, rfl, hownG, hgl, _, hx9⟩
  obtain ⟨ag, cg, rfl, hG⟩ := own_places hownG
  have HG : Hid (Ints v9 ag (PL n has).length fun i => (((PL n has).getD i 0 : Nat) : Int)) := hG
  have HCB9 : Hid (∀ i, i < n → ∃ b o, aB = some ⟨b, o, none⟩ ∧ v9.cell? ⟨b, o + i, none⟩ = some (U i)) := fun i hi => by
    obtain ⟨b, o, h1, h2⟩ := HCB.out i hi
    exact ⟨b, o, h1, hx9.keeps h2⟩
  have HUN : Hid (∀ i, i < n → (U i).oneCell' = true) := fun i hi => by
    obtain ⟨a, c, h1, _⟩ := HUC.out i hi
    rw [h1]; rfl
  clear hownG hG
  go_wp2_with (first | (at_builtin; refine append_vals v9 rfl (.const (.slice none 0 0)) (.tmp 54) 22 rfl v9.heap.size 32 (.slice none 0 0) 24 Try.underlying22 infoBytes rfl (.slice none 0 0) 0 [] rfl (World.ownsRow_nil _ _ _ _) aB n cB U rfl HCB9.out HUN.out (by omega) (by omega) (Nat.le_refl _) ?_) | go_in)
  intro vt v10 hownT hgrowT
  have hx10 : Ext v9 v10 := (Ext.refl v9).grow hgrowT fun _ hk => by cases hk
  have HT0 : Hid (Torn v9 v10 vt n m n4 f4 (wholeF N D) U fun _ => false) := by
    refine ⟨hx10, hownT, fun r hr _ => ?_, fun r hr h => by cases h⟩
    obtain ⟨a, c, h1, h2⟩ := HUC.out r hr
    exact ⟨a, c, h1, h2.ext hx9⟩
  obtain ⟨gt, ct, hvt⟩ : ∃ gt ct, vt = .slice (some ⟨gt, 0, none⟩) n ct := by
    obtain ⟨_, h2⟩ := HT0.out.own
    rcases h2 with ⟨_, h3⟩ | ⟨g, cap, cur, h3, _⟩
    · omega
    · exact ⟨g, cap, h3⟩
  subst hvt
  clear hownT hgrowT
  go_wp2_with fail
  have HJ9 : Hid (Ext v4 v9) := hx48.trans hx9
  have hnb : n ≤ 15 := by omega
  have HFB : Hid (PL n has = PL n has) := rfl
  go_loopw [19] (fun i wr => ∃ k : Nat, k ≤ (PL n has).length ∧ i = .int .i64 k ∧ ∃ T R, Torn v9 wr (.slice (some ⟨gt, 0, none⟩) n ct) n m n4 f4 (wholeF N D) T R ∧ Hid (∀ r, r < n → R r = true → has r = true)) (fun i _ => (PL n has).length - (intOf i).toNat)
  case atStart => exact ⟨0, Nat.zero_le _, rfl, _, _, HT0.out, fun r _ h => by cases h⟩
  case round =>
    clear HT0
    obtain ⟨k, hk, rfl, T, R, hT, HR⟩ := hrel
    have HT : Hid (Torn v9 wr (.slice (some ⟨gt, 0, none⟩) n ct) n m n4 f4 (wholeF N D) T R) := hT
    clear hT
    by_cases hkt : k < (PL n has).length
    · obtain ⟨bg, og, rfl, hcg0⟩ := HG.out k hkt
      have hgk := PL_at hkt
      obtain ⟨g, hg⟩ : ∃ g, (PL n has).getD k 0 = g := ⟨_, rfl⟩
      dsimp only at hcg0
      rw [hg] at hcg0 hgk
      have hcg := HT.out.ext.keeps hcg0
      obtain ⟨hg1, hg2⟩ := hgk
      have HG2 : Hid (has g = true) := hg2
      have HJF : Hid (∀ i, i < n4 → ∃ b o, a4 = some ⟨b, o, none⟩ ∧ wr.drew.cell? ⟨b, o + i, none⟩ = some (bvs f4 i)) := fun i hi => by
        obtain ⟨b, o, h1, h2⟩ := ((HJ.out.ext HJ9.out).ext HT.out.ext) i hi
        exact ⟨b, o, h1, h2⟩
      have HJ1 : Hid (∀ i, i < n4 → (bvs f4 i).oneCell' = true) := fun _ _ => rfl
      have HPUT : Hid (∀ w5 u, Ext wr.drew w5 → w5.ownsRow wr.drew.heap.size 5 1 u n4 ((List.range n4).map (bvs f4)) → (∃ v, w5.cell? ⟨gt, g, none⟩ = some v) ∧ w5.frozen? ⟨gt, g, none⟩ = false ∧ w5.cell? ⟨bg, og + k, none⟩ = some (.int .i64 g) ∧ ∃ T R, Torn v9 (w5.setCell ⟨gt, g, none⟩ u) (.slice (some ⟨gt, 0, none⟩) n ct) n m n4 f4 (wholeF N D) T R ∧ Hid (∀ r, r < n → R r = true → has r = true)) := fun w5 u x hu => by
        have x' : Ext wr w5 := (Ext.refl wr).drew.trans x
        have h5 := HT.out.grow x'
        refine ⟨⟨T g, ?_⟩, h5.own.frozenAt g, x'.keeps hcg, _, _, HT.out.put x' hu hg1, fun r hr h => ?_⟩
        · rw [h5.own.cellAt g (by omega)]; simp [hg1]
        · by_cases e : r = g
          · rw [e]; exact HG2.out
          · rw [if_neg e] at h; exact HR.out r hr h
      clear hcg0 hg2 hg
      go_wp2_with fail
      go_region_law (refine step_append_vals wr.drew (by rfl) _ _ 32 (by rfl) wr.drew.heap.size 5 (.int .u8 0) 1 Try.underlying32 infoByte (by rfl) (.slice none 0 0) 0 [] (by rfl) (World.ownsRow_nil _ _ _ _) a4 n4 c4 (bvs f4) (by rfl) HJF.out HJ1.out (by omega) (by omega) (Nat.le_refl _) ?_; intro v' w5 hown5 hgrow5; have hx5 : Ext wr.drew w5 := (Ext.refl wr.drew).grow hgrow5 fun _ hk => (by cases hk); rw [Nat.zero_add, List.nil_append] at hown5; obtain ⟨a9, c9, rfl, h9⟩ := own_slice hown5; have hput := HPUT.out w5 _ hx5 hown5; obtain ⟨⟨v0, hp1⟩, hp2, hp3, hp4⟩ := hput)
      all_goals
        have HP4 : Hid (∃ T R, Torn v9 (w5.setCell ⟨gt, g, none⟩ (.slice a9 n4 c9)) (.slice (some ⟨gt, 0, none⟩) n ct) n m n4 f4 (wholeF N D) T R ∧ Hid (∀ r, r < n → R r = true → has r = true)) := hp4
        clear hown5 hgrow5 hx5 h9 hp1 hp2 hp3 hp4
        go_wp2_with fail
        go_roundw
        case rel =>
          obtain ⟨T', R', h1, h2⟩ := HP4.out
          exact ⟨k + 1, by omega, by go_num, T', R', h1, h2⟩
        case measure => simp [intOf]; omega
    · obtain ⟨at', ct', At, Ct, hv', hTc⟩ := HT.out.cols
      cases hv'
      have HTC : Hid (Cols wr (some ⟨gt, 0, none⟩) (N + q) At (fun r => if R r then n4 else m) Ct (fun r => if R r then f4 else wholeF N D r)) := by rw [hn]; exact hTc
      have HLr : Hid (∀ r, r < N + q → has r = false → (fun r => if R r then n4 else m) r = m) := fun r hr hh => by
        have : R r = false := by
          cases e : R r
          · rfl
          · have := HR.out r (by omega) e; rw [hh] at this; cases this
        dsimp only
        rw [this]; rfl
      have HRE : Hid (rebE (N + q) (fun r => if R r then n4 else m) q (PL (N + q) has).length (pf (N + q) has) = 0) := by
        have h1 := rebE_pf hNb hqb (show m ≤ 4096 by omega) HLr.out
        show _ = _
        rw [h1]
        exact if_neg (by rw [hn]; omega)
      have hgl' : (PL (N + q) has).length ≤ q := by rw [hn]; exact hgl
      have HSZ := size_pf hNb.1 hgl' HLr.out
      have HGr : Hid (Ints wr ag (PL (N + q) has).length (pf (N + q) has)) := by rw [hn]; exact HG.out.ext HT.out.ext
      have HXE : Hid (Ext v4 wr) := HJ9.out.trans HT.out.ext
      have HBK : Hid (∀ r, r < N + q → ∀ x, x < m → rebD N q (PL (N + q) has).length (pf (N + q) has) (fun r => if R r then f4 else wholeF N D r) r x = wholeF N D r x) := fun r hr x hx => by
        refine rebD_back (m := m) hNb hqb.2 (holes_pf hgl') (fun r' hr' hg' x' _ => ?_) hr hx
        rw [has_pf hr'] at hg'
        have : R r' = false := by
          cases e : R r'
          · rfl
          · have := HR.out r' (by omega) e; rw [hg'] at this; cases this
        rw [this]; rfl
      have HAC : Hid (∃ A C, Cols wr aB (N + q) A (fun _ => m) C (wholeF N D)) := by
        rw [hn]
        have each : ∀ r, r < n → ∃ y : Option Addr × Nat, U r = .slice y.1 m y.2 ∧ Byts v8 y.1 m (wholeF N D r) := fun r hr => by
          obtain ⟨a, c, h1, h2⟩ := HUC.out r hr
          exact ⟨(a, c), h1, h2⟩
        obtain ⟨y, hy⟩ := choose_lt each
        refine ⟨fun r => (y r).1, fun r => (y r).2, fun r hr => ⟨?_, (hy r hr).2.ext (hx9.trans HT.out.ext)⟩⟩
        obtain ⟨b, o, h1, h2⟩ := HCB9.out r hr
        exact ⟨b, o, h1, by rw [HT.out.ext.keeps h2, (hy r hr).1]⟩
      have HALK : Hid (keptAlike (N + q) (fun r => if R r then n4 else m) (PL (N + q) has).length (pf (N + q) has) = true) := kept_pf (show m ≤ 4096 by omega) HLr.out
      have HSZ1 : Hid (sizeOfKept (N + q) (fun r => if R r then n4 else m) (PL (N + q) has).length (pf (N + q) has) = m) := HSZ
      have hkn : ¬ (k : Int) < ((PL n has).length : Int) := by omega
      clear HSZ hTc
      go_wp2_with fail
      subst hn
      refine (Rebuild_ok (some ⟨gt, 0, none⟩) (N + q) ct At _ Ct _ q N ag (PL (N + q) has).length cg (pf (N + q) has) _ rfl hqb hNb HALK.out hgl' HTC.out HGr.out HRE.out).mono ?_
      rintro e v12 ⟨⟨ra, rc, rA, rC, rfl, hRc⟩, hx12⟩
      rw [HSZ1.out] at hRc
      have HRC : Hid (Cols v12 ra (N + q) rA (fun _ => m) rC (rebD N q (PL (N + q) has).length (pf (N + q) has) (fun r => if R r then f4 else wholeF N D r))) := hRc
      obtain ⟨Aa, Ca, hAC⟩ := HAC.out
      have HAC2 : Hid (Cols v12 aB (N + q) Aa (fun _ => m) Ca (wholeF N D)) := hAC.ext hx12
      clear hRc hAC
      go_wp2_with fail
      refine (sameListsK_any ra aB (N + q) rc cB rA Aa _ _ rC Ca _ _ _ (by omega) HRC.out HAC2.out (fun r hr => ⟨rfl, (by show m ≤ _; omega), fun i hi => HBK.out r hr i hi⟩)).mono ?_
      rintro e v13 ⟨rfl, hx13⟩
      go_wp2_with fail
      go_ret
      exact ⟨rfl, (HXE.out.trans hx12).trans hx13⟩
end Go.Proofs.Ytbngmmlmhmmpbaa.rebuildAll
