/-
  space: give, commit, take, do: one deed; records in new memory, of what was there the units alone are written.
-/
import Derived.Test.YtfpbiimjcdbaoaaChecked
import Derived.WalkKit
import Derived.BigQuiet
import Derived.Test.YtfpbiimjcdbaoaaPlayMath
import Derived.Test.YtfpbiimjcdbaoaaStepCall
namespace Go.Proofs.Ytfpbiimjcdbaoaa
open Go.RowKit Go.Deep
set_option maxRecDepth 100000 in
set_option maxHeartbeats 400000 in
theorem give_any (g n : Nat) (S : Nat → Int) (f c : Int) (w : World) (hn : n ≤ 4096) (h : Uns w g 63 n S) (hf : -9223372036854775808 ≤ f ∧ f ≤ 9223372036854775807) (hc : -9223372036854775808 ≤ c ∧ c ≤ 9223372036854775807) :
    Calls Try.prog 23 #[.slice (some ⟨g, 0, none⟩) n n, .int .i64 f, .int .i64 c] w fun e w' => e = .returned (.int .i64 (giveR n S f c).code) ∧ Uns w' g 63 n (giveR n S f c).st ∧ Wro (· = g) w w' := by
  have HU : Hid (Uns w g 63 n S) := h
  clear h
  by_cases h1 : 0 ≤ f
  · by_cases h2 : 1 ≤ c
    · by_cases h3 : c ≤ (n : Int) - f
      · obtain ⟨F, rfl⟩ : ∃ F : Nat, f = F := ⟨f.toNat, by omega⟩
        obtain ⟨C, rfl⟩ : ∃ C : Nat, c = C := ⟨c.toNat, by omega⟩
        have hT := turn_any g n S F (F + C) 1 2 w hn (by omega) (by omega) HU.out
        rw [show ((F + C : Nat) : Int) = (F : Int) + (C : Int) by omega] at hT
        have e1 : ((F : Int) + (C : Int)).toNat = F + C := by omega
        cases ha : allS S F (F + C) 1 with
        | false =>
          have HE : Hid ((giveR n S F C).code = 6 ∧ (giveR n S F C).st = S) := by
            show _ ∧ _
            unfold giveR
            rw [if_pos ⟨h1, h2, h3⟩, Int.toNat_natCast, e1, ha]
            exact ⟨rfl, rfl⟩
          have HTS : Hid (turnS S F (F + C) 1 2 = S) := by show _ = _; unfold turnS; rw [ha]; rfl
          rw [ha] at hT
          clear ha e1
          go_enter Try.func23, Try.ntmps23
          go_wp2_with fail
          refine hT.mono ?_
          rintro e w1 ⟨rfl, hu, hw⟩
          rw [HTS.out] at hu
          have HU1 : Hid (Uns w1 g 63 n S) := hu
          clear hu
          go_wp2_with fail
          go_ret
          exact ⟨by rw [HE.out.1]; rfl, by rw [HE.out.2]; exact HU1.out, hw⟩
        | true =>
          have HE : Hid ((giveR n S F C).code = 0 ∧ (giveR n S F C).st = putS S F (F + C) 2) := by
            show _ ∧ _
            unfold giveR
            rw [if_pos ⟨h1, h2, h3⟩, Int.toNat_natCast, e1, ha]
            exact ⟨rfl, rfl⟩
          have HTS : Hid (turnS S F (F + C) 1 2 = putS S F (F + C) 2) := by show _ = _; unfold turnS; rw [ha]; rfl
          rw [ha] at hT
          clear ha e1
          go_enter Try.func23, Try.ntmps23
          go_wp2_with fail
          refine hT.mono ?_
          rintro e w1 ⟨rfl, hu, hw⟩
          rw [HTS.out] at hu
          have HU1 : Hid (Uns w1 g 63 n (putS S F (F + C) 2)) := hu
          clear hu
          go_wp2_with fail
          go_ret
          exact ⟨by rw [HE.out.1]; rfl, by rw [HE.out.2]; exact HU1.out, hw⟩
      · have HE : Hid ((giveR n S f c).code = 2 ∧ (giveR n S f c).st = S) := by
          show _ ∧ _
          unfold giveR
          rw [if_neg (fun q => h3 q.2.2)]
          exact ⟨rfl, rfl⟩
        go_enter Try.func23, Try.ntmps23
        go_wp2_with fail
        go_ret
        exact ⟨by rw [HE.out.1]; rfl, by rw [HE.out.2]; exact HU.out, Wro.refl _ _⟩
    · have HE : Hid ((giveR n S f c).code = 2 ∧ (giveR n S f c).st = S) := by
        show _ ∧ _
        unfold giveR
        rw [if_neg (fun q => h2 q.2.1)]
        exact ⟨rfl, rfl⟩
      go_enter Try.func23, Try.ntmps23
      go_wp2_with fail
      go_ret
      exact ⟨by rw [HE.out.1]; rfl, by rw [HE.out.2]; exact HU.out, Wro.refl _ _⟩
  · have HE : Hid ((giveR n S f c).code = 2 ∧ (giveR n S f c).st = S) := by
      show _ ∧ _
      unfold giveR
      rw [if_neg (fun q => h1 q.1)]
      exact ⟨rfl, rfl⟩
    go_enter Try.func23, Try.ntmps23
    go_wp2_with fail
    go_ret
    exact ⟨by rw [HE.out.1]; rfl, by rw [HE.out.2]; exact HU.out, Wro.refl _ _⟩
/-- an own row stays where other blocks alone are written -/
theorem own_wroS {T : Nat → Prop} {w w' : World} {base : Nat} {e : TypeId} {size : Nat} {v : Value} {n : Nat} {xs : List Value} (h : w.ownsRow base e size v n xs) (x : Wro T w w') (hT : ∀ b, v.ownBlock = some b → ¬ T b) : w'.ownsRow base e size v n xs := by
  obtain ⟨h1, h2⟩ := h
  refine ⟨h1, ?_⟩
  rcases h2 with h2 | ⟨g, cap, cur, hv, hg, hh, r⟩
  · exact Or.inl h2
  · refine Or.inr ⟨g, cap, cur, hv, hg, ?_, r⟩
    rw [x.block g (Array.getElem?_eq_some_iff.1 hh).1 (hT g (by rw [hv]; rfl))]
    exact hh
def comQ (S : Nat → Int) (q : Nat) : Nat → Int := fun i => if i < q then comS S i else S i
theorem recL_V2 (f : Bool) (L : List (Int × Int)) : recL f L = recV (L.map fun r => (f, r.1, r.2)) := by
  unfold recL recV
  rw [List.map_map]
  rfl
set_option maxRecDepth 100000 in
set_option maxHeartbeats 800000 in
theorem commit_any (g n : Nat) (S : Nat → Int) (w : World) (hn : n ≤ 4096) (h : Uns w g 63 n S) :
    Calls Try.prog 24 #[.slice (some ⟨g, 0, none⟩) n n] w fun e w' => ∃ v, e = .returned v ∧ w'.ownsRow w.heap.size 69 3 v (commitR n S).recs.length (fl3 (recV (commitR n S).recs)) ∧ Uns w' g 63 n (commitR n S).st ∧ Wro (· = g) w w' := by
  have HU : Hid (Uns w g 63 n S) := h
  have hgl : g < w.heap.size := World.rowIs.lt h
  have HT := that_any g n S 3 w hn h
  have hlen := runs_len (isS S 3) n
  clear h
  go_enter Try.func24, Try.ntmps24
  go_wp2_with fail
  refine HT.mono ?_
  rintro e w1 ⟨r, rfl, ho, hx1⟩
  have HO : Hid (w1.ownsRow w.heap.size 53 2 r (runs (isS S 3) n).length (fl (runs (isS S 3) n))) := ho
  have HX1 : Hid (Ext w w1) := hx1
  clear ho HT hx1
  go_wp2_with fail
  go_loopw [10] (fun i wr => ∃ q : Nat, q ≤ n ∧ i = .int .i64 q ∧ Uns wr g 63 n (comQ S q) ∧ Wro (· = g) w1 wr) (fun i _ => n - (intOf i).toNat)
  case atStart => exact ⟨0, Nat.zero_le _, rfl, (World.rowIs.congr (HX1.out.rowIs HU.out) fun i _ => by unfold comQ; rw [if_neg (by omega)]), Wro.refl _ _⟩
  case round =>
    obtain ⟨q, hq, rfl, hu, hx⟩ := hrel
    have HUr : Hid (Uns wr g 63 n (comQ S q)) := hu
    clear hu
    by_cases hlt : q < n
    · have hc := HUr.out.cell hlt
      have hfz := World.rowIs.frozen HUr.out q
      have eq : comQ S q q = S q := by unfold comQ; rw [if_neg (by omega)]
      unfold IV at hc
      rw [eq] at hc
      clear eq
      by_cases h3 : S q = 3
      · have d3 : (S q == 3) = true := by simp [h3]
        have HS : Hid (Uns (wr.setCell ⟨g, q, none⟩ (.int .i64 0)) g 63 n (comQ S (q + 1))) := (HUr.out.set q 0).congr fun j _ => by
          unfold comQ
          by_cases e : j = q
          · subst e
            rw [if_pos rfl, if_pos (by omega)]
            unfold comS
            rw [if_pos h3]
          · rw [if_neg e]
            by_cases c : j < q
            · rw [if_pos c, if_pos (by omega)]
            · rw [if_neg c, if_neg (by omega)]
        clear h3
        go_wp2_with fail
        go_roundw
        case rel => exact ⟨q + 1, by omega, by go_num, HS.out, hx.setCell (p := ⟨g, q, none⟩) rfl _⟩
        case measure => simp [intOf]; omega
      · have d3 : (S q == 3) = false := by simp [h3]
        by_cases h2 : S q = 2
        · have d2 : (S q == 2) = true := by simp [h2]
          have HS : Hid (Uns (wr.setCell ⟨g, q, none⟩ (.int .i64 3)) g 63 n (comQ S (q + 1))) := (HUr.out.set q 3).congr fun j _ => by
            unfold comQ
            by_cases e : j = q
            · subst e
              rw [if_pos rfl, if_pos (by omega)]
              unfold comS
              rw [if_neg h3, if_pos h2]
            · rw [if_neg e]
              by_cases c : j < q
              · rw [if_pos c, if_pos (by omega)]
              · rw [if_neg c, if_neg (by omega)]
          clear h3 h2
          go_wp2_with fail
          go_roundw
          case rel => exact ⟨q + 1, by omega, by go_num, HS.out, hx.setCell (p := ⟨g, q, none⟩) rfl _⟩
          case measure => simp [intOf]; omega
        · have d2 : (S q == 2) = false := by simp [h2]
          have HS : Hid (Uns wr g 63 n (comQ S (q + 1))) := HUr.out.congr fun j _ => by
            unfold comQ
            by_cases c : j < q
            · rw [if_pos c, if_pos (by omega)]
            · rw [if_neg c]
              by_cases e : j = q
              · subst e
                rw [if_pos (by omega)]
                unfold comS
                rw [if_neg h3, if_neg h2]
              · rw [if_neg (by omega)]
          clear h3 h2
          go_wp2_with fail
          go_roundw
          case rel => exact ⟨q + 1, by omega, by go_num, HS.out, hx⟩
          case measure => simp [intOf]; omega
    · obtain rfl : q = n := by omega
      have hor := own_wroS HO.out hx fun b hb e => by
        have := own_geS HO.out hb
        omega
      obtain ⟨_, aR, cR, rfl, hr⟩ := own_rngs hor
      have HRc := records_any true aR (runs (isS S 3) q).length cR (runs (isS S 3) q) wr rfl (by omega) hr
      have HF : Hid (Uns wr g 63 q (comS S)) := HUr.out.congr fun j hj => by unfold comQ; rw [if_pos hj]
      clear hor hr HO
      generalize hk : (runs (isS S 3) q).length = k at *
      have HK : Hid ((commitR q S).recs.length = k) := by show _ = _; rw [← hk]; exact List.length_map ..
      clear hk
      go_wp2_with fail
      refine HRc.mono ?_
      rintro e w3 ⟨v3, rfl, ho3, hx3⟩
      have HO3 : Hid (w3.ownsRow w.heap.size 69 3 v3 (commitR q S).recs.length (fl3 (recV (commitR q S).recs))) := by
        have h1 := own_mono ho3 (Nat.le_trans HX1.out.size hx.size)
        rw [recL_V2] at h1
        rw [HK.out]
        exact h1
      have HX3 : Hid (Wro (· = g) w w3) := ((Wro.ext HX1.out).trans hx).then_ext hx3
      have HU3 : Hid (Uns w3 g 63 q (comS S)) := hx3.rowIs HF.out
      clear ho3 hx3 HRc
      go_wp2_with fail
      go_ret
      exact ⟨_, rfl, HO3.out, HU3.out, HX3.out⟩
end Go.Proofs.Ytfpbiimjcdbaoaa
