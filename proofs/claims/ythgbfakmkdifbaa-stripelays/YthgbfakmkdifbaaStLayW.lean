/-
  stripe.Lay at every four ints and bytes: what stands in the columns of a block; the world only grows.
-/
import Derived.Test.YthgbfakmkdifbaaChecked
import Derived.WalkKit
import Derived.BigQuiet
import Derived.Deep.CutRange
import Derived.Deep.QuietTactic
import Derived.Deep.RegionLaw
import Derived.Test.YthgbfakmkdifbaaStFill
import Derived.Test.YthgbfakmkdifbaaParEncode
import Derived.Test.YthgbfakmkdifbaaKeepOne
namespace Go.Proofs.Ythgbfakmkdifbaa
open Go.RowKit Go.Deep E
/-- where a slice of a slice of structs of sz cells begins -/
def subE (sz : Nat) (a : Option Addr) (c lo : Nat) : Option Addr := if c = lo then a else a.map (·.add (lo * sz))
theorem subE_some {sz c lo b o : Nat} (h : lo < c) : subE sz (some ⟨b, o, none⟩) c lo = some ⟨b, o + lo * sz, none⟩ := by
  unfold subE
  rw [if_neg (by omega)]
  simp [Addr.add]
theorem size_any {P : Program} {t : TypeId} {sz : Nat} (hz : 0 < sz) (hs : P.cellsOf t = sz) (w : World) : (sizeOf t).run P w = .ok sz w := by
  unfold Program.cellsOf at hs
  cases hq : P.info? t with
  | none => simp [hq] at hs; omega
  | some i =>
    simp [hq] at hs
    simp [sizeOf, typeInfo, hq, hs]
theorem subE_l {P : Program} {T t : TypeId} {sz : Nat} (hz : 0 < sz) (hT : P.underlying T = some (.slice t)) (hs : P.cellsOf t = sz) (a : Option Addr) (l c lo : Nat) (h : lo ≤ l) (x : Int) (hx : x = (lo : Int)) (w : World) :
    (Instr.slice T (.slice a l c) (some (.int .i64 x)) none none).run P w = .ok (.slice (subE sz a c lo) (l - lo) (c - lo)) w := by
  have hT' : P.underlying T = some (.slice (P.elem T)) := by simp [Program.elem, hT]
  have he : P.elem T = t := by simp [Program.elem, hT]
  rw [run_slice_l (P := P) w T a l c hT' .i64 x (by omega) (by omega), he]
  have h2 : x.toNat = lo := by omega
  rw [size_any hz hs, h2]
  simp [Result.andThen, sliced, subE]
theorem CnS.sub {w : World} {ac : Option Addr} {d p a c k cp : Nat} (h : CnS w ac d p a c 0 k) (lo : Nat) (hl : lo < k) (hc : k ≤ cp) : CnS w (subE 4 ac cp lo) d p a c lo (k - lo) := fun i cs hi => by
  have hlt : i < k - lo := by
    have := lt_of_get hi
    simpa using this
  rw [range_get _ hlt] at hi
  cases hi
  obtain ⟨b, o, h1, h2⟩ := h (lo + i) (cell4 d p a (cntC d p c) (0 + (lo + i))) (range_get _ (by omega))
  rw [Nat.zero_add] at h2
  refine ⟨b, o + lo * 4, by rw [h1, subE_some (by omega)], ?_⟩
  rw [show o + lo * 4 + i * 4 = o + (lo + i) * 4 by omega]
  exact h2
theorem sizeCol4 : Try.prog.cellsOf 59 = 4 := by kernel_rfl
/-- what Lay tells -/
def LayRes (w' : World) (e : Ending) (d p a : Int) (n : Nat) (B : Nat → E) : Prop :=
  if stOkB d p a n then ∃ (ad : Option Addr) (c : Nat) (A : Nat → Option Addr) (C : Nat → Nat), e = .returned (.tuple #[.slice ad (colN d.toNat p.toNat (secs n)) c, .int .i64 0]) ∧ Cols w' ad (colN d.toNat p.toNat (secs n)) A (wdB d.toNat p.toNat (secs n)) C (layF d.toNat p.toNat (secs n) n B)
  else e = .returned (.tuple #[.slice none 0 0, .int .i64 (stE d p a n)])
set_option maxRecDepth 100000 in
set_option maxHeartbeats 1600000 in
theorem Lay_any (d p a : Int) (b : Option Addr) (n cn : Nat) (B : Nat → E) (w : World) (hb : n ≤ 9223372036854775807) (h : Byts w b n B) :
    Calls Try.prog 8 #[.int .i64 d, .int .i64 p, .int .i64 a, .slice b n cn] w fun e w' => LayRes w' e d p a n B ∧ Ext w w' := by
  have HB : Hid (Byts w b n B) := h
  clear h
  have HC := columnsOf_any d p a n n w (fun _ => rfl) (fun h => by
    have : ¬ (1 ≤ n ∧ n ≤ 4096) := fun h1 => by rw [(szOk_iff n).2 h1] at h; cases h
    omega)
  cases hk : stOkB d p a n with
  | false =>
    have hne := stE_no hk
    have hne2 : (stE d p a n != 0) = true := by rw [bne_iff_ne]; exact hne
    have HK : Hid (stOkB d p a n = false) := hk
    clear hk hne
    go_enter Try.func8, Try.ntmps8
    go_wp2_with fail
    refine HC.mono ?_
    rintro e w1 ⟨⟨ad, k, cp, rfl, _⟩, hx⟩
    obtain ⟨E, hE⟩ : ∃ E, stE d p a n = E := ⟨_, rfl⟩
    have HE : Hid (stE d p a n = E) := hE
    rw [hE] at hne2 ⊢
    clear hE
    go_wp2_with fail
    go_ret2
    unfold LayRes
    rw [HK.out, HE.out, if_neg (by simp)]
    exact ⟨rfl, hx⟩
  | true =>
    obtain ⟨x, y, z, rfl, rfl, rfl, hz, ho, hs⟩ := stOk_nat hk
    have HO : Hid (StOk x y (secs n)) := ho
    have HSZ : Hid (szOk n = true) := hs
    have HK : Hid (stOkB x y z n = true) := hk
    have he := stE_ok hk
    rw [he] at HC
    clear he ho hs hk
    go_enter Try.func8, Try.ntmps8
    go_wp2_with fail
    refine HC.mono ?_
    rintro e w1 ⟨⟨ad, k, cp, rfl, hcn⟩, hx⟩
    obtain ⟨hkn, hkc, hCn⟩ := hcn HK.out
    rw [Int.toNat_natCast, Int.toNat_natCast] at hkn
    rw [Int.toNat_natCast, Int.toNat_natCast, Int.toNat_natCast] at hCn
    have hN := HO.out.N
    obtain ⟨m, hm⟩ : ∃ m, k - y = m := ⟨_, rfl⟩
    have hym : y + m = colN x y (secs n) := by omega
    have HYM : Hid (y + m = colN x y (secs n)) := hym
    have hCs : CnS w1 (subE 4 ad cp y) x y z (secs n) y m := by
      rw [← hm]
      exact hCn.sub y (by omega) hkc
    have HCS : Hid (CnS w1 (subE 4 ad cp y) x y z (secs n) y m) := hCs
    have HCN : Hid (CnS w1 ad x y z (secs n) 0 k) := hCn
    have hyb := HO.out.p3
    have hyb1 := HO.out.p1
    have hsl : ∀ w, (Instr.slice 51 (.slice ad k cp) (some (.int .i64 (y : Int))) none none).run Try.prog w = .ok (.slice (subE 4 ad cp y) m (cp - y)) w := fun w => by
      rw [subE_l (sz := 4) (by omega) Try.underlying51 sizeCol4 ad k cp y (by omega) _ rfl w, hm]
    have hm8 : y + m ≤ 8 ∧ 1 ≤ m := by omega
    have hk0 : 0 < k := by omega
    clear hCs hCn hym hkn hm hN
    go_wp2_with fail
    refine (cut_any b n cn B _ m _ x y z _ HSZ.out HO.out HYM.out (HB.out.ext hx) HCS.out).mono ?_
    rintro e w2 ⟨g, G, rfl, hI, hG⟩
    have HI : Hid (CutI w1 w2 g G x y (secs n) n B m m) := hI
    have hG2 : G < w2.heap.size := hI.top.lt
    clear hI
    go_wp2_with fail
    refine (longest_any ad k cp x y z (secs n) _ hk0 (by have := (HO.out.cnt (i := 0) (by have := HO.out.N; omega)).2.2.2; omega) (HCN.out.ext HI.out.ext)).mono ?_
    rintro e w3 ⟨rfl, hx3⟩
    obtain ⟨M, hM⟩ : ∃ M, wdB x y (secs n) 0 = M := ⟨_, rfl⟩
    have hMb : M ≤ 4096 := by rw [← hM]; exact (HO.out.wd (i := 0) (by have := HO.out.N; omega)).2.2
    have HM : Hid (wdB x y (secs n) 0 = M) := hM
    rw [hM]
    clear hM
    have HCO : Hid (Cols w3 (some ⟨G, 0, none⟩) m (fun r => some ⟨g, offD x y (secs n) r, none⟩) (fun r => wdB x y (secs n) (y + r)) (fun r => wdB x y (secs n) (y + r)) (datF x y (secs n) n B)) := (HI.out.cols HO.out HYM.out).ext hx3
    go_wp2_with fail
    refine (filled_any (some ⟨G, 0, none⟩) m m _ _ _ _ M _ (by omega) (by omega) HCO.out).mono ?_
    rintro e w4 ⟨rfl, Gf, hF⟩
    have HF : Hid (Cols w4 (some ⟨w3.heap.size, 0, none⟩) m (fun r => some ⟨Gf r, 0, none⟩) (fun _ => M) (fun _ => M) (lonF x y (secs n) n B)) := hF.cols
    have hx4 := hF.ext
    have HCO4 : Hid (Cols w4 (some ⟨G, 0, none⟩) m (fun r => some ⟨g, offD x y (secs n) r, none⟩) (fun r => wdB x y (secs n) (y + r)) (fun r => wdB x y (secs n) (y + r)) (datF x y (secs n) n B)) := HCO.out.ext hx4
    clear hF HCO
    have hok : encOk m (fun _ => M) (y : Int) = true := by
      unfold encOk pmayB
      rw [fromTo_true (by omega), fromTo_true (by omega), alikeB_true fun r _ => by unfold colB; simp; omega]
      rfl
    have HEN : Hid (encN m (fun _ => M) (y : Int) = y) := by show _ = _; unfold encN; rw [hok, if_pos rfl, Int.toNat_natCast]
    have HEE : Hid (encE m (fun _ => M) (y : Int) = 0) := by
      show _ = _
      unfold encOk at hok
      rw [Bool.and_eq_true] at hok
      unfold encE
      rw [hok.1, hok.2]
      rfl
    clear hok
    go_wp2_with fail
    refine (Encode_own (some ⟨w3.heap.size, 0, none⟩) m m _ _ _ _ (y : Int) _ (by omega) HF.out).mono ?_
    rintro e w5 ⟨hR, hx5⟩
    rw [HEN.out, HEE.out] at hR
    obtain ⟨_, hR2⟩ := hR
    obtain ⟨Bk, Gk, rfl, hBk, hBk1⟩ := hR2 (by omega)
    have HOW : Hid (w5.ownsRow w4.heap.size 22 1 (.slice (some ⟨Bk, 0, none⟩) y y) y ((List.range y).map fun r => .slice (some ⟨Gk r, 0, none⟩) M M)) := by
      have := own_of_row hBk.top hBk1 (by unfold maxLen; omega)
      rw [show ((List.range y).map fun r => Value.slice (some ⟨Gk r, 0, none⟩) M M) = (List.range y).map fun r => if r < y then Value.slice (some ⟨Gk r, 0, none⟩) M M else Value.slice none 0 0 from range_congr fun i hi => by rw [if_pos hi]]
      exact this
    have HCP : Hid (Cols w5 (some ⟨Bk, 0, none⟩) y (fun r => some ⟨Gk r, 0, none⟩) (fun _ => M) (fun _ => M) (enc m (lonF x y (secs n) n B))) := hBk.cols
    have HCO5 : Hid (Cols w5 (some ⟨G, 0, none⟩) m (fun r => some ⟨g, offD x y (secs n) r, none⟩) (fun r => wdB x y (secs n) (y + r)) (fun r => wdB x y (secs n) (y + r)) (datF x y (secs n) n B)) := HCO4.out.ext hx5
    have HFC : Hid (∀ i, i < m → ∃ b o, (some ⟨G, 0, none⟩ : Option Addr) = some ⟨b, o, none⟩ ∧ w5.cell? ⟨b, o + i, none⟩ = some (.slice (some ⟨g, offD x y (secs n) i, none⟩) (wdB x y (secs n) (y + i)) (wdB x y (secs n) (y + i)))) := fun i hi => (HCO5.out i hi).1
    have hs5 := hx5.size
    have HX5 : Hid (Ext w w5) := (((hx.trans HI.out.ext).trans hx3).trans hx4).trans hx5
    have HX4 : Hid (Ext w w4) := (((hx.trans HI.out.ext).trans hx3).trans hx4)
    have HBK : Hid (BldB w4 w5 Bk y M y (enc m (lonF x y (secs n) n B)) Gk) := hBk
    have HRG : Hid (w5.rowIs g 5 (128 * secs n) (bvs (padZ n B))) := hx5.rowIs (hx4.rowIs (hx3.rowIs HI.out.row))
    have hx45 := hx5
    clear hBk hR2 HCO4 hx3 hx4 hx5 HCP HCO5
    go_wp2_with (first | (at_builtin; refine append_vals w5 rfl (.tmp 41) (.tmp 42) 23 rfl w4.heap.size 22 (.slice none 0 0) 24 Try.underlying23 infoBytes rfl (.slice (some ⟨Bk, 0, none⟩) y y) y _ rfl HOW.out (some ⟨G, 0, none⟩) m m _ rfl HFC.out (fun _ _ => rfl) (by omega) (by omega) hs5 ?_) | go_in)
    intro v' w6 hown6 hgrow6
    have HX6 : Hid (Ext w w6) := HX4.out.trans (hx45.grow hgrow6 fun q hq => by cases hq; exact hBk1)
    obtain ⟨ao, co, rfl, hco⟩ := own_slice hown6
    have keep : ∀ {b : Nat} {q : Nat} {f : Nat → Value}, w5.rowIs b 5 q f → w6.rowIs b 5 q f := fun {b q f} hr => by
      have hne := own_ne_row HOW.out hr (by decide)
      exact hr.of_block (hgrow6.block b hr.lt hne.symm)
    have hrg := keep HRG.out
    have hrp : ∀ r, r < y → w6.rowIs (Gk r) 5 M (bvs (enc m (lonF x y (secs n) n B) r)) := fun r hr => keep (HBK.out.row r hr)
    have HRES : Hid (LayRes w6 (.returned (.tuple #[.slice ao (y + m) co, .int .i64 0])) x y z n B) := by
      show LayRes w6 _ x y z n B
      unfold LayRes
      rw [HK.out, if_pos rfl, Int.toNat_natCast, Int.toNat_natCast, ← HYM.out]
      refine ⟨ao, co, fun r => if r < y then some ⟨Gk r, 0, none⟩ else some ⟨g, offD x y (secs n) (r - y), none⟩, fun r => if r < y then M else wdB x y (secs n) r, rfl, fun r hr => ?_⟩
      obtain ⟨bb, oo, h1, h2⟩ := hco r hr
      by_cases e : r < y
      · refine ⟨⟨bb, oo, h1, ?_⟩, ?_⟩
        · rw [h2, List.getElem?_append_left (by simpa using e), range_get _ e]
          dsimp only
          rw [if_pos e, if_pos e, HO.out.wdp e, HM.out]
        · dsimp only
          unfold layF
          rw [if_pos e, if_pos e, HO.out.wdp e, HM.out, ← HYM.out, show y + m - y = m by omega]
          exact Byts.row (hrp r e) (Nat.le_refl _)
      · refine ⟨⟨bb, oo, h1, ?_⟩, ?_⟩
        · rw [h2, List.getElem?_append_right (by simp; omega), List.length_map, List.length_range, range_get _ (by omega)]
          dsimp only
          rw [if_neg e, if_neg e, show y + (r - y) = r by omega]
        · dsimp only
          unfold layF
          rw [if_neg e, if_neg e]
          have hof := HO.out.offs (i := r - y) (by rw [← HYM.out]; omega)
          rw [show y + (r - y) = r by omega] at hof
          exact Byts.mk fun i hi => hrg.cell (by omega)
    clear hown6 hgrow6 hco HOW HFC keep hrg hrp
    go_wp2_with fail
    go_ret2
    exact ⟨HRES.out, HX6.out⟩
end Go.Proofs.Ythgbfakmkdifbaa
