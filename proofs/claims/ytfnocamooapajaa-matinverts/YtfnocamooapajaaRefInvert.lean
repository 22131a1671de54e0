/-
  quicksetref.MatInvert at every matrix, as the same plain functions; the world only grows.
-/
import Derived.Test.YtfnocamooapajaaChecked
import Derived.WalkKit
import Derived.BigQuiet
import Derived.Test.YtfnocamooapajaaRefBig
import Derived.Test.YtfnocamooapajaaRefMay
import Derived.Test.YtfnocamooapajaaMatRank
namespace Go.Proofs.Ytfnocamooapajaa
open Go.RowKit Go.Deep E
theorem solved_any (a : Option Addr) (n c : Nat) (A : Nat → Option Addr) (C : Nat → Nat) (M : Nat → Nat → E) (a' : Option Addr) (c' : Nat) (v : Nat → E) (w : World) (hn : 1 ≤ n ∧ n ≤ 8) (h : Mat w a n A (fun _ => n) C fun r i => ev (M r i)) (hC : ∀ r, r < n → n ≤ C r)
    (hv : Ints w a' n fun i => ev (v i)) (hr : (redTo n M n).2 = n) :
    Calls Try.prog 38 #[.slice a n c, .slice a' n c'] w fun e w' => ListRes w w' e n (fun i => ev (sol n M v i)) ∧ Ext w w' := by
  by_cases h4 : n ≤ 4
  · exact solved_small a n c A C M a' c' v w ⟨hn.1, h4⟩ h hC hv hr
  · exact solved_big a n c A C M a' c' v w ⟨by omega, hn.2⟩ h hv hr
theorem rowHas_of_row {w : World} {b : Nat} {t : TypeId} {n : Nat} {f : Nat → Value} (h : w.rowIs b t n f) : rowHas w b t n f := by
  obtain ⟨c, h1, h2, h3⟩ := h
  exact ⟨c, h1, by omega, h3⟩
theorem OwnM.toC {w : World} {B n m : Nat} {G : Nat → Nat} {M : Nat → Nat → E} (h : OwnM w B n m G M) : OwnC w B n m G (fun _ => m) M :=
  ⟨rowHas_of_row h.top, fun r hr => rowHas_of_row (h.row r hr), h.apart, h.inj⟩
theorem unit_row (w : World) (n i : Nat) : (w.alloc (.cells ((madeCells #[.int .i64 0] n).setIfInBounds i (.int .i64 1)) 3)).rowIs w.heap.size 3 n (evs (dl i)) := by
  have h := (World.rowIs_made w (.int .i64 0) n 3).set i (.int .i64 1)
  rw [World.setCell_alloc_at _ _ _ _ _ rfl] at h
  refine h.congr fun j _ => ?_
  unfold evs dl
  by_cases e : j = i
  · rw [if_pos e, if_pos e.symm]; rfl
  · rw [if_neg e, if_neg (fun q => e q.symm)]; rfl
theorem sol_col {n : Nat} (M : Nat → Nat → E) {k : Nat} (hk : k < n) (i : Nat) : sol n M (dl k) i = invM n M i k := by
  unfold sol
  rw [sm_congr (g := fun j => mu (invM n M i j) (dl j k)) fun j _ => by
    unfold dl
    by_cases e : k = j
    · rw [if_pos e, if_pos e.symm]
    · rw [if_neg e, if_neg (fun q => e q.symm)]]
  exact sm_dlr hk fun j => invM n M i j
/-- a matrix of which the columns ahead of k are made, and of column k the first i places -/
def colsK (k i : Nat) (M : Nat → Nat → E) (r c : Nat) : E := if c < k ∨ (c = k ∧ r < i) then M r c else ze
theorem colsK_put (k i : Nat) (M : Nat → Nat → E) : put1 (colsK k i M) i k (M i k) = colsK k (i + 1) M := by
  funext r c
  unfold put1 colsK
  by_cases e : r = i ∧ c = k
  · rw [if_pos e, if_pos (Or.inr ⟨e.2, by omega⟩), e.1, e.2]
  · rw [if_neg e]
    by_cases e2 : c < k ∨ (c = k ∧ r < i)
    · rw [if_pos e2, if_pos (by rcases e2 with q | q; exact Or.inl q; exact Or.inr ⟨q.1, by omega⟩)]
    · rw [if_neg e2, if_neg (fun h => by
        rcases h with q | q
        · exact e2 (Or.inl q)
        · by_cases e3 : r = i
          · exact e ⟨e3, q.1⟩
          · exact e2 (Or.inr ⟨q.1, by omega⟩))]
theorem colsK_next {k n : Nat} (M : Nat → Nat → E) (r c : Nat) (hr : r < n) : colsK k n M r c = colsK (k + 1) 0 M r c := by
  unfold colsK
  by_cases e : c < k
  · rw [if_pos (Or.inl e), if_pos (Or.inl (by omega))]
  · by_cases e2 : c = k
    · rw [if_pos (Or.inr ⟨e2, hr⟩), if_pos (Or.inl (by omega))]
    · rw [if_neg (by omega), if_neg (by omega)]
set_option maxRecDepth 100000 in
set_option maxHeartbeats 3200000 in
theorem MatInvert_any (a : Option Addr) (n c : Nat) (A : Nat → Option Addr) (L C : Nat → Nat) (F : Nat → Nat → Int) (w : World) (h : Mat w a n A L C F) (hn : n ≤ 9223372036854775807) (hl : ∀ r, r < n → L r ≤ 9223372036854775807) (hcap : ∀ r, r < n → L r ≤ C r) :
    Calls Try.prog 20 #[.slice a n c] w fun e w' => MatRes w' e (invN n L F) n (invM n (elsOf F)) (invE n L F) ∧ Ext w w' := by
  have HH : Hid (Mat w a n A L C F) := h
  have HL : Hid (∀ r, r < n → L r ≤ 9223372036854775807) := hl
  have HCP : Hid (∀ r, r < n → L r ≤ C r) := hcap
  clear h hl hcap
  go_enter Try.func20, Try.ntmps20
  go_wp2_with fail
  refine (MatMay_any a n c A L C F _ HH.out hn HL.out).mono ?_
  rintro e w1 ⟨rfl, rfl⟩
  cases hM : mayB n L F
  · go_wp2_with fail
    go_ret2
    rw [(inv_form hM).1, (inv_form hM).2]
    exact ⟨MatRes.none _ _ _ _, Ext.refl _⟩
  · obtain ⟨m1, m2, m3⟩ := mayB_of hM
    have M3 : Hid (Els n L F) := m3
    clear m3
    obtain ⟨b, o, rfl, hc⟩ := HH.out.at (by omega)
    have hc0 := hc 0 (by omega)
    rw [Nat.add_zero] at hc0
    clear hc
    by_cases hL : L 0 = n
    · have hB : ((L 0 : Int) != (n : Int)) = false := by rw [hL]; simp
      have HM : Hid (Mat w1 (some ⟨b, o, none⟩) n A (fun _ => n) C fun r i => ev (elsOf F r i)) := by
        have := M3.out.mat HH.out
        rw [hL] at this
        exact this
      have HCC : Hid (∀ r, r < n → n ≤ C r) := fun r hr => by
        have h1 := HCP.out r hr
        rw [(M3.out r hr).1, hL] at h1
        exact h1
      have HE : Hid (L 0 = n) := hL
      clear hL
      go_wp2_with fail
      clear hc0 hB
      refine (swept_any _ n c n A C (elsOf F) _ m1 m1 HM.out).mono ?_
      rintro e w2 ⟨rfl, hx2⟩
      by_cases hrk : (redTo n (elsOf F) n).2 < n
      · have HR : Hid ((redTo n (wide n (elsOf F)) n).2 < n) := by show _ < _; rw [wide_rank]; exact hrk
        go_wp2_with fail
        go_ret2
        rw [(inv_zero hM HE.out HR.out).1, (inv_zero hM HE.out HR.out).2]
        exact ⟨MatRes.none _ _ _ _, hx2⟩
      · have HR : Hid (¬ (redTo n (wide n (elsOf F)) n).2 < n) := by show ¬ _ < _; rw [wide_rank]; exact hrk
        have HRK : Hid ((redTo n (elsOf F) n).2 = n) := by have := (redTo_le n (elsOf F) n).1; show _ = _; omega
        have hmk := make_rows n (by omega)
        have hmk' := make_ints n (by omega)
        go_wp2_with fail
        clear hrk
        have h0 : Bld w2 (w2.alloc (.cells (madeCells #[.slice none 0 0] n) 28)) w2.heap.size n n 0 (fun _ _ => ze) (fun _ => 0) := Bld.start w2 n n _ _
        generalize w2.alloc (.cells (madeCells #[.slice none 0 0] n) 28) = w3 at *
        clear hmk
        go_loopw [30] (fun i wr => ∃ k : Nat, k ≤ n ∧ i = .int .i64 k ∧ ∃ G, Bld w2 wr w2.heap.size n n k (fun _ _ => ze) G) (fun i _ => n - (intOf i).toNat)
        case atStart => exact ⟨0, Nat.zero_le _, rfl, _, h0⟩
        case round =>
          clear h0
          obtain ⟨i, hi, rfl, G, hb⟩ := hrel
          by_cases hlt : i < n
          · have hci := hb.top.cell hlt
            rw [if_neg (by omega)] at hci
            have hfi := hb.top.frozen i
            have hin := hb.next (Nat.le_refl _)
            have hlt2 := hb.top.lt
            have HI0 : Hid (Inn w2 ((wr.setCell ⟨w2.heap.size, i, none⟩ (.slice (some ⟨wr.heap.size, 0, none⟩) n n)).alloc (.cells (madeCells #[.int .i64 0] n) 3)) w2.heap.size n n i (fun _ => ze) (fun _ _ => ze) G wr.heap.size) := hin
            clear hb hin
            go_wp2_with fail
            go_roundw
            case rel => exact ⟨i + 1, by omega, by go_num, _, HI0.out.done⟩
            case measure => simp [intOf]; omega
          · obtain rfl : n = i := by omega
            have HS0 : Hid (CSt wr wr w2.heap.size n n G G (fun _ => n) (colsK 0 0 (invM n (elsOf F)))) := (CSt.start hb.own.toC).congr fun r _ c _ => (if_neg (by omega)).symm
            have HBL : Hid (∀ x, BlkC n w2.heap.size G x → w2.heap.size ≤ x) := fun x hx => by
              rcases hx with rfl | ⟨r, hr, rfl⟩
              · exact Nat.le_refl _
              · exact (hb.old r hr).1
            have HXB : Hid (Ext w2 wr) := hb.ext
            generalize hw0 : wr = w4 at *
            clear hb hw0
            go_wp2_with fail
            go_loopw [7] (fun kk wr => ∃ k : Nat, k ≤ n ∧ kk = .int .i64 k ∧ CSt w4 wr w2.heap.size n n G G (fun _ => n) (colsK k 0 (invM n (elsOf F)))) (fun kk _ => n - (intOf kk).toNat)
            case atStart => exact ⟨0, Nat.zero_le _, rfl, HS0.out⟩
            case round =>
              clear HS0
              obtain ⟨k, hk, rfl, hst⟩ := hrel
              have hxw : Ext w2 wr := Wro.after HXB.out hst.wro HBL.out
              by_cases hkt : k < n
              · have hmc : (madeCells #[Value.int .i64 0] n)[k]? = some (.int .i64 0) := by simp [madeCells, hkt, Nat.mod_one]
                have HX5 : Hid (Ext wr (wr.alloc (.cells ((madeCells #[.int .i64 0] n).setIfInBounds k (.int .i64 1)) 3))) := (Ext.refl wr).alloc _ _
                have HV5 : Hid (Ints (wr.alloc (.cells ((madeCells #[.int .i64 0] n).setIfInBounds k (.int .i64 1)) 3)) (some ⟨wr.heap.size, 0, none⟩) n fun i => ev (dl k i)) := Ints.row (unit_row wr n k)
                have HST : Hid (CSt w4 wr w2.heap.size n n G G (fun _ => n) (colsK k 0 (invM n (elsOf F)))) := hst
                clear hst
                go_wp2_with fail
                clear hmc
                generalize hw5 : wr.alloc (.cells ((madeCells #[.int .i64 0] n).setIfInBounds k (.int .i64 1)) 3) = w5 at *
                generalize wr.heap.size = vb at *
                refine (solved_any _ n c A C (elsOf F) _ _ (dl k) _ m1 (HM.out.ext ((hx2.trans hxw).trans HX5.out)) HCC.out HV5.out HRK.out).mono ?_
                rintro e w6 ⟨⟨b9, c9, rfl, hb9, hi9⟩, hx6⟩
                have HS6 : Hid (CSt w6 w6 w2.heap.size n n G G (fun _ => n) (colsK k 0 (invM n (elsOf F)))) := CSt.start (HST.out.own.ext (HX5.out.trans hx6))
                have HW6 : Hid (Wro (BlkC n w2.heap.size G) w4 w6) := HST.out.wro.then_ext (HX5.out.trans hx6)
                have HNB : Hid (¬ BlkC n w2.heap.size G b9) := fun hh => by
                  have h5 := HST.out.own.ext HX5.out
                  rcases hh with e | ⟨r, hr, e⟩
                  · have := h5.top.lt; omega
                  · have := (h5.row r hr).lt; omega
                have HLI : Hid (∀ i, i < n → w6.cell? ⟨b9, i, none⟩ = some (.int .i64 (ev (invM n (elsOf F) i k)))) := fun i hi => by
                  obtain ⟨b8, o8, e8, h8⟩ := hi9 i hi
                  cases e8
                  rw [Nat.zero_add] at h8
                  rw [h8]
                  show some (Value.int .i64 (ev (sol n (elsOf F) (dl k) i))) = _
                  rw [sol_col _ hkt]
                clear hi9 hb9 hw5 HV5 HST
                go_wp2_with fail
                go_loopw [53] (fun ii wi => ∃ i : Nat, i ≤ n ∧ ii = .int .i64 i ∧ CSt w6 wi w2.heap.size n n G G (fun _ => n) (colsK k i (invM n (elsOf F)))) (fun ii _ => n - (intOf ii).toNat)
                case atStart => exact ⟨0, Nat.zero_le _, rfl, HS6.out⟩
                case round =>
                  clear HS6
                  obtain ⟨i, hi, rfl, hst⟩ := hrel
                  by_cases hit : i < n
                  · have hcl := hst.wro.cell (HLI.out i hit) HNB.out
                    have hct := hst.own.top.cell hit
                    have hcx := (hst.own.row i hit).cell hkt
                    have hfx := (hst.own.row i hit).frozen k
                    have HR9 : Hid (CSt w6 wr w2.heap.size n n G G (fun _ => n) (colsK k i (invM n (elsOf F)))) := hst
                    clear hst
                    go_wp2_with fail
                    go_roundw
                    case rel =>
                      refine ⟨i + 1, by omega, by go_num, ?_⟩
                      have h6 := HR9.out.put hit k (invM n (elsOf F) i k)
                      rw [colsK_put] at h6
                      exact h6
                    case measure => simp [intOf]; omega
                  · obtain rfl : n = i := by omega
                    have HEND : Hid (CSt w4 wr w2.heap.size n n G G (fun _ => n) (colsK (k + 1) 0 (invM n (elsOf F)))) := ⟨hst.own.congr fun r hr c _ => colsK_next _ r c hr, HW6.out.trans hst.wro, hst.per⟩
                    clear hst
                    go_wp2_with fail
                    go_roundw
                    case rel => exact ⟨k + 1, by omega, by go_num, HEND.out⟩
                    case measure => simp [intOf]; omega
              · obtain rfl : n = k := by omega
                have HRES : Hid (MatRes wr (.returned (.tuple #[.slice (some ⟨w2.heap.size, 0, none⟩) n n, .int .i64 0])) n n (invM n (elsOf F)) 0) := ⟨_, _, _, _, rfl, (hst.own.congr fun r _ c hc => if_pos (Or.inl hc)).mat⟩
                clear hst
                go_wp2_with fail
                go_ret2
                rw [(inv_ok hM HE.out HR.out).1, (inv_ok hM HE.out HR.out).2]
                exact ⟨HRES.out, hx2.trans hxw⟩
    · have hB : ((L 0 : Int) != (n : Int)) = true := by rw [bne_iff_ne]; omega
      go_wp2_with fail
      go_ret2
      rw [(inv_size hM hL).1, (inv_size hM hL).2]
      exact ⟨MatRes.none _ _ _ _, Ext.refl _⟩
end Go.Proofs.Ytfnocamooapajaa
