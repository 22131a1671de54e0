/-
  Where more columns are lost than can stand in, it is told: at every list of bytes, numbers and list of places; no condition.
-/
import Derived.Test.YtbngmmlmhmmpbaaRows
import Derived.WalkKit
import Derived.ProofKit
import Derived.OpenShut
import Derived.ChangeOld
import Derived.Below
import Derived.BigQuiet
import Derived.Deep.CutRange
import Derived.Deep.QuietTactic
import Derived.Deep.RegionLaw
import Derived.Test.YtbngmmlmhmmpbaaOpn
import Derived.Test.YtbngmmlmhmmpbaaChecked
import Derived.Test.YtbngmmlmhmmpbaaKeepEnc
import Derived.Test.YtbngmmlmhmmpbaaKeepAll
namespace Go.Proofs.Ytbngmmlmhmmpbaa.rebuildMany
open Go.ChangeShapes Go.WideShapes Go.ChangeAt Go.RowKit Go.Deep E
set_option linter.unusedVariables false
theorem four_has {n : Nat} {has : Nat → Bool} (hn : 4 ≤ n) (h0 : has 0 = true) (h1 : has 1 = true) (h2 : has 2 = true) (h3 : has 3 = true) : 4 ≤ (PL n has).length := by
  obtain ⟨k, rfl⟩ : ∃ k, n = 4 + k := ⟨n - 4, by omega⟩
  rw [PL_add]
  have : (PL 4 has).length = 4 := by
    rw [PL_yes h3, PL_yes h2, PL_yes h1, PL_yes h0]; rfl
  omega
set_option maxRecDepth 100000 in
set_option maxHeartbeats 4000000 in
theorem walk (a0 : Option Addr) (n0 c0 : Nat) (f0 : Nat → E) (a1 : Int) (a2 : Int) (a3 : Option Addr) (n3 c3 : Nat) (f3 : Nat → Int) (w : World) (h0 : Byts w a0 n0 f0) (b0 : n0 ≤ c0 ∧ c0 ≤ 9223372036854775807) (z0 : c0 * 1 ≤ 140737488351232) (w1 : -9223372036854775808 ≤ a1 ∧ a1 ≤ 9223372036854775807) (w2 : -9223372036854775808 ≤ a2 ∧ a2 ≤ 9223372036854775807) (h3 : Ints w a3 n3 f3) (b3 : n3 ≤ 9223372036854775807 ∧ ∀ i, i < n3 → -9223372036854775808 ≤ f3 i ∧ f3 i ≤ 9223372036854775807) (z3 : n3 ≤ c3 ∧ c3 * 8 ≤ 140737488351232) :
    Calls Try.prog 7 #[.slice a0 n0 c0, .int .i64 a1, .int .i64 a2, .slice a3 n3 c3] w fun e w' => e = .returned (.bool true) ∧ Ext w w' := by
  have HB : Hid (Byts w a0 n0 f0) := h0
  have HL : Hid (Ints w a3 n3 f3) := h3
  have HLB : Hid (∀ i, i < n3 → -9223372036854775808 ≤ f3 i ∧ f3 i ≤ 9223372036854775807) := b3.2
  have hn3 := b3.1
  clear h0 h3 b3
  obtain ⟨hlc, z3'⟩ := z3
  obtain ⟨b01, b02⟩ := b0
  obtain ⟨xn, hxn, hxn2⟩ := picked_is a1 10 (by omega)
  obtain ⟨xp, hxp, hxp2⟩ := picked_is a2 3 (by omega)
  have HN : Hid (a1 % 10 = xn) := hxn
  have HP : Hid (a2 % 3 = xp) := hxp
  clear hxn hxp
  go_enter Try.func7, Try.ntmps7
  go_wp2_with fail
  refine (Picked_bd a1 10 xn _ (by omega) (by omega) w1 HN.out).mono ?_
  rintro e v3 ⟨rfl, rfl⟩
  go_wp2_with fail
  refine (Picked_bd a2 3 xp _ (by omega) (by omega) w2 HP.out).mono ?_
  rintro e v4 ⟨rfl, rfl⟩
  obtain ⟨N, hN⟩ : ∃ N : Nat, 3 + xn = N := ⟨_, rfl⟩
  obtain ⟨q, hq⟩ : ∃ q : Nat, 1 + xp = q := ⟨_, rfl⟩
  have hNb : 1 ≤ N ∧ N ≤ 12 := by omega
  have hN3 : 3 ≤ N := by omega
  have hqb : 1 ≤ q ∧ q ≤ 3 := by omega
  have eN : (3 : Int) + (xn : Int) = (N : Int) := by omega
  have eq' : (1 : Int) + (xp : Int) = (q : Int) := by omega
  clear hN hq HN HP
  go_wp2_with fail
  refine (ColumnsOf_any _ n0 c0 f0 N _ ⟨hNb.1, by omega⟩ (by omega) (by omega) HB.out).mono ?_
  rintro e v5 ⟨vx, Vx, rfl, hX0⟩
  obtain ⟨m, hm⟩ : ∃ m : Nat, colLen n0 N = m := ⟨_, rfl⟩
  have hm64 : m ≤ 64 := by rw [← hm]; exact (colLen_le _ _).1
  rw [hm] at hX0
  obtain ⟨D, hXd⟩ : ∃ X : Nat → Nat → E, (fun i k => f0 (i * m + k)) = X := ⟨_, rfl⟩
  have hX : COf v4 v5 vx N m Vx D := by rw [← hXd]; exact hX0
  obtain ⟨ax, cx, Ax, Cx, rfl, hXc⟩ := hX.cols
  have hx5 := hX.ext
  have HX : Hid (Cols v5 ax N Ax (fun _ => m) Cx D) := hXc
  clear hX hXc hX0 hXd hm
  go_wp2_with fail
  refine (Encode_E ax N cx Ax Cx D m q _ hNb (by omega) hqb HX.out).mono ?_
  rintro e v6 ⟨⟨sa, sc, sA, sC, rfl, hS⟩, hx6⟩
  have HS : Hid (Cols v6 sa q sA (fun _ => m) sC (enc N D)) := hS
  have HX6 : Hid (Cols v6 ax N Ax (fun _ => m) Cx D) := HX.out.ext hx6
  have hx46 := hx5.trans hx6
  have hBq : ((q : Int) != (q : Int)) = false := by simp
  clear hS HX hx5 hx6
  have HXF : Hid (∀ i, i < N → ∃ b o, ax = some ⟨b, o, none⟩ ∧ v6.cell? ⟨b, o + i, none⟩ = some (.slice (Ax i) m (Cx i))) := fun i hi => (HX6.out i hi).1
  have HSF : Hid (∀ i, i < q → ∃ b o, sa = some ⟨b, o, none⟩ ∧ v6.cell? ⟨b, o + i, none⟩ = some (.slice (sA i) m (sC i))) := fun i hi => (HS.out i hi).1
  go_wp2_with (first | (at_builtin; refine append_vals v6 rfl (.const (.slice none 0 0)) (.tmp 41) 22 rfl v6.heap.size 32 (.slice none 0 0) 24 Try.underlying22 infoBytes rfl (.slice none 0 0) 0 [] rfl (World.ownsRow_nil _ _ _ _) ax N cx (fun i => .slice (Ax i) m (Cx i)) rfl HXF.out (fun _ _ => rfl) (by omega) (by omega) (Nat.le_refl _) ?_) | go_in)
  intro va v7 hownA hgrowA
  have hx7 : Ext v6 v7 := (Ext.refl v6).grow hgrowA fun _ hk => by cases hk
  have HOA : Hid (v7.ownsRow v6.heap.size 32 1 va N ((List.range N).map fun i => .slice (Ax i) m (Cx i))) := hownA
  have HSF7 : Hid (∀ i, i < q → ∃ b o, sa = some ⟨b, o, none⟩ ∧ v7.cell? ⟨b, o + i, none⟩ = some (.slice (sA i) m (sC i))) := fun i hi => by
    obtain ⟨b, o, h1, h2⟩ := HSF.out i hi
    exact ⟨b, o, h1, hx7.keeps h2⟩
  have hs7 := hx7.size
  clear hownA hgrowA
  go_wp2_with (first | (at_builtin; refine append_vals v7 rfl (.tmp 42) (.tmp 43) 22 rfl v6.heap.size 32 (.slice none 0 0) 24 Try.underlying22 infoBytes rfl va N _ rfl HOA.out sa q sc (fun i => .slice (sA i) m (sC i)) rfl HSF7.out (fun _ _ => rfl) (by omega) (by omega) hs7 ?_) | go_in)
  intro vb v8 hownB hgrowB
  have hx8 : Ext v6 v8 := hx7.grow hgrowB fun b hb => (own_ge HOA.out hb).1
  obtain ⟨U, hU⟩ : ∃ U : Nat → Value, (fun r => if r < N then Value.slice (Ax r) m (Cx r) else .slice (sA (r - N)) m (sC (r - N))) = U := ⟨_, rfl⟩
  have HOB : Hid (v8.ownsRow v6.heap.size 32 1 vb (N + q) ((List.range (N + q)).map U)) := by
    have e : (List.range N).map (fun i => Value.slice (Ax i) m (Cx i)) ++ (List.range q).map (fun i => Value.slice (sA i) m (sC i)) = (List.range (N + q)).map U := by
      rw [← hU, List.range_add, List.map_append, List.map_map]
      congr 1
      · exact List.map_congr_left fun i hi => by rw [if_pos (List.mem_range.1 hi)]
      · refine List.map_congr_left fun i hi => ?_
        simp only [Function.comp]
        rw [if_neg (by omega), show N + i - N = i by omega]
    rw [← e]; exact hownB
  have HUC : Hid (∀ r, r < N + q → ∃ a c, U r = .slice a m c ∧ Byts v8 a m (wholeF N D r)) := fun r hr => by
    rw [← hU]
    unfold wholeF
    dsimp only
    by_cases e : r < N
    · rw [if_pos e, if_pos e]; exact ⟨_, _, rfl, (HX6.out.col e).ext hx8⟩
    · rw [if_neg e, if_neg e]; exact ⟨_, _, rfl, (HS.out.col (show r - N < q by omega)).ext hx8⟩
  obtain ⟨aB, cB, rfl, hcB⟩ := own_slice HOB.out
  have HCB : Hid (∀ i, i < N + q → ∃ b o, aB = some ⟨b, o, none⟩ ∧ v8.cell? ⟨b, o + i, none⟩ = some (U i)) := fun i hi => by
    obtain ⟨b, o, h1, h2⟩ := hcB i hi
    exact ⟨b, o, h1, by rw [h2]; simp [hi]⟩
  have hx48 := hx46.trans hx8
  clear hownB hgrowB hcB hU HXF HSF HSF7 HOA hx7 hx8 hs7 HX6 HS hx46 HOB eN eq'
  obtain ⟨n, hn⟩ : ∃ n, N + q = n := ⟨_, rfl⟩
  rw [hn] at HUC HCB
  rw [hn]
  have HL8 : Hid (∀ i, i < n3 → ∃ b o, a3 = some ⟨b, o, none⟩ ∧ v8.cell? ⟨b, o + i, none⟩ = some (.int .i64 (f3 i))) := fun i hi => (HL.out.ext hx48) i hi
  go_wp2_with (first | (at_builtin; refine append_vals v8 rfl (.const (.slice none 0 0)) (.tmp 45) 29 rfl v8.heap.size 3 (.int .i64 0) 8 Try.underlying29 infoInt rfl (.slice none 0 0) 0 [] rfl (World.ownsRow_nil _ _ _ _) a3 n3 c3 (fun i => .int .i64 (f3 i)) rfl HL8.out (fun _ _ => rfl) (by omega) (by omega) (Nat.le_refl _) ?_) | go_in)
  intro vl v9 hownL hgrowL
  have hx9 : Ext v8 v9 := (Ext.refl v8).grow hgrowL fun _ hk => by cases hk
  have HOL : Hid ((v9.alloc (.cells #[.int .i64 0, .int .i64 1, .int .i64 2, .int .i64 3, .int .i64 4] 3)).ownsRow v8.heap.size 3 1 vl n3 ((List.range n3).map fun i => .int .i64 (f3 i))) := own_ext hownL ((Ext.refl v9).alloc _ _)
  have HF5 : Hid (∀ i, i < 5 → ∃ b o, some (⟨v9.heap.size, 0, none⟩ : Addr) = some ⟨b, o, none⟩ ∧ (v9.alloc (.cells #[.int .i64 0, .int .i64 1, .int .i64 2, .int .i64 3, .int .i64 4] 3)).cell? ⟨b, o + i, none⟩ = some (.int .i64 (i : Int))) := fun i hi => by
    refine ⟨_, _, rfl, ?_⟩
    rw [Nat.zero_add, new_cell]
    match i, hi with
    | 0, _ => rfl
    | 1, _ => rfl
    | 2, _ => rfl
    | 3, _ => rfl
    | 4, _ => rfl
  have hs9 : v8.heap.size ≤ (v9.alloc (.cells #[.int .i64 0, .int .i64 1, .int .i64 2, .int .i64 3, .int .i64 4] 3)).heap.size := by have := hx9.size; simp; omega
  clear hownL hgrowL
  go_wp2_with (first | (at_builtin; refine append_vals (v9.alloc (.cells #[.int .i64 0, .int .i64 1, .int .i64 2, .int .i64 3, .int .i64 4] 3)) rfl (.tmp 46) (.tmp 47) 29 rfl v8.heap.size 3 (.int .i64 0) 8 Try.underlying29 infoInt rfl vl n3 _ rfl HOL.out (some ⟨v9.heap.size, 0, none⟩) 5 5 (fun i => .int .i64 (i : Int)) rfl HF5.out (fun _ _ => rfl) (by omega) (by omega) hs9 ?_) | go_in)
  intro vm v10 hownM hgrowM
  obtain ⟨fm, hfm⟩ : ∃ fm : Nat → Int, (fun i => if i < n3 then f3 i else ((i - n3 : Nat) : Int)) = fm := ⟨_, rfl⟩
  have hownM2 : v10.ownsRow v8.heap.size 3 1 vm (n3 + 5) ((List.range (n3 + 5)).map fun i => .int .i64 (fm i)) := by
    have e : (List.range n3).map (fun i => Value.int .i64 (f3 i)) ++ (List.range 5).map (fun i : Nat => Value.int .i64 (i : Int)) = (List.range (n3 + 5)).map fun i => .int .i64 (fm i) := by
      rw [← hfm, List.range_add, List.map_append, List.map_map]
      congr 1
      · exact List.map_congr_left fun i hi => by dsimp only; rw [if_pos (List.mem_range.1 hi)]
      · refine List.map_congr_left fun i hi => ?_
        simp only [Function.comp]
        rw [if_neg (by omega), show n3 + i - n3 = i by omega]
    rw [← e]; exact hownM
  obtain ⟨am, cm, rfl, hcm⟩ := own_slice hownM2
  have HM : Hid (Ints v10 am (n3 + 5) fm) := fun i hi => by
    obtain ⟨b, o, h1, h2⟩ := hcm i hi
    exact ⟨b, o, h1, by rw [h2]; simp [hi]⟩
  have HMB : Hid (∀ i, i < n3 + 5 → -9223372036854775808 ≤ fm i ∧ fm i ≤ 9223372036854775807) := fun i hi => by
    rw [← hfm]
    by_cases e : i < n3
    · have := HLB.out i e
      simp only [e, if_true]
      exact this
    · simp only [e, if_false]
      omega
  have HMI : Hid (∀ i, i < 5 → fm (n3 + i) = (i : Int)) := fun i hi => by
    rw [← hfm]
    show (if n3 + i < n3 then f3 (n3 + i) else ((n3 + i - n3 : Nat) : Int)) = _
    rw [if_neg (by omega), show n3 + i - n3 = i by omega]
  have hx10 : Ext v8 v10 := (hx9.alloc _ _).grow hgrowM fun b hb => (own_ge HOL.out hb).1
  clear hownM hownM2 hgrowM hcm hfm HOL HF5 hs9 HL8
  go_wp2_with fail
  have eq1 : (q : Int) + 1 = ((q + 1 : Nat) : Int) := by omega
  rw [eq1]
  clear eq1
  refine (Several_any am (n3 + 5) cm fm (q + 1) n _ (by omega) (by omega) (by omega) HM.out HMB.out).mono ?_
  rintro e v11 ⟨has, vg, rfl, hownG, hgl, hall, hx11⟩
  obtain ⟨ag, cg, rfl, hG⟩ := own_places hownG
  have HG : Hid (Ints v11 ag (PL n has).length (pf n has)) := hG
  have hlen : (PL n has).length = q + 1 := by
    rcases Nat.lt_or_ge (PL n has).length (q + 1) with hlt | hge
    · have key : ∀ i, i < 4 → has i = true := fun i hi => by
        have h1 := hall hlt (n3 + i) (by omega)
        rw [HMI.out i (by omega), Int.emod_eq_of_lt (by omega) (by omega)] at h1
        exact h1
      have := four_has (n := n) (by omega) (key 0 (by omega)) (key 1 (by omega)) (key 2 (by omega)) (key 3 (by omega))
      omega
    · omega
  have HLN : Hid ((PL n has).length = q + 1) := hlen
  have hcols : ∃ A C, Cols v11 aB (N + q) A (fun _ => m) C (wholeF N D) := by
    rw [hn]
    have each : ∀ r, r < n → ∃ y : Option Addr × Nat, U r = .slice y.1 m y.2 ∧ Byts v8 y.1 m (wholeF N D r) := fun r hr => by
      obtain ⟨a, c, h1, h2⟩ := HUC.out r hr
      exact ⟨(a, c), h1, h2⟩
    obtain ⟨y, hy⟩ := choose_lt each
    refine ⟨fun r => (y r).1, fun r => (y r).2, fun r hr => ⟨?_, (hy r hr).2.ext (hx10.trans hx11)⟩⟩
    obtain ⟨b, o, h1, h2⟩ := HCB.out r hr
    exact ⟨b, o, h1, by rw [(hx10.trans hx11).keeps h2, (hy r hr).1]⟩
  obtain ⟨Aa, Ca, hAC⟩ := hcols
  have HAC : Hid (Cols v11 aB (N + q) Aa (fun _ => m) Ca (wholeF N D)) := hAC
  have HRE : Hid (rebE (N + q) (fun _ => m) q (PL (N + q) has).length (pf (N + q) has) = 12) := by
    have h1 := rebE_pf (has := has) (L := fun _ => m) hNb hqb (show m ≤ 4096 by omega) fun _ _ _ => rfl
    show _ = _
    rw [h1]
    exact if_pos (by rw [hn]; omega)
  have hend := (hx48.trans hx10).trans hx11
  clear hownG hG hall hAC hlen
  go_wp2_with fail
  subst hn
  refine (Rebuild_no aB (N + q) cB Aa _ Ca _ q ag (PL (N + q) has).length cg (pf (N + q) has) _ (by omega) (by rw [HLN.out]; omega) HAC.out HG.out (by rw [HRE.out]; decide)).mono ?_
  rintro e v12 ⟨rfl, hx12⟩
  rw [HRE.out, HLN.out]
  have hB1 : (((q + 1 : Nat) : Int) == (q : Int) + 1) = true := by rw [beq_iff_eq]; omega
  have hB2 : ((q : Int) + 1 == (q : Int) + 1) = true := by simp
  go_wp2_with fail
  go_ret
  exact ⟨rfl, hend.trans hx12⟩
end Go.Proofs.Ytbngmmlmhmmpbaa.rebuildMany
