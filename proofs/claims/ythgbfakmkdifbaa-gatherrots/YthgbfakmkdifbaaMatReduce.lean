/-
  mat.reduce on a matrix of elements in memory of its own: what it is then, and what is told; nothing else is written.
-/
import Derived.Test.YthgbfakmkdifbaaChecked
import Derived.WalkKit
import Derived.BigQuiet
import Derived.Test.YthgbfakmkdifbaaMatNew
import Derived.Test.YthgbfakmkdifbaaMatFind
namespace Go.Proofs.Ythgbfakmkdifbaa
open Go.RowKit Go.Deep E
/-- the blocks of a matrix -/
def Blk (n B : Nat) (G : Nat → Nat) (x : Nat) : Prop := x = B ∨ ∃ r, r < n ∧ x = G r
structure RSt (w wr : World) (B n m : Nat) (G0 G : Nat → Nat) (M : Nat → Nat → E) : Prop where
  own : OwnM wr B n m G M
  wro : Wro (Blk n B G0) w wr
  per : ∀ r, r < n → ∃ s, s < n ∧ G r = G0 s
theorem RSt.start {w : World} {B n m : Nat} {G : Nat → Nat} {M : Nat → Nat → E} (h : OwnM w B n m G M) : RSt w w B n m G G M := ⟨h, Wro.refl _ _, fun r hr => ⟨r, hr, rfl⟩⟩
theorem RSt.grow {w wr w' : World} {B n m : Nat} {G0 G : Nat → Nat} {M : Nat → Nat → E} (h : RSt w wr B n m G0 G M) (e : Ext wr w') : RSt w w' B n m G0 G M := ⟨h.own.ext e, h.wro.then_ext e, h.per⟩
theorem RSt.congr {w wr : World} {B n m : Nat} {G0 G : Nat → Nat} {M M' : Nat → Nat → E} (h : RSt w wr B n m G0 G M) (e : ∀ r, r < n → ∀ i, i < m → M r i = M' r i) : RSt w wr B n m G0 G M' := ⟨h.own.congr e, h.wro, h.per⟩
/-- one row is another now -/
theorem RSt.put {w wr w' : World} {B n m : Nat} {G0 G : Nat → Nat} {M : Nat → Nat → E} (h : RSt w wr B n m G0 G M) {d : Nat} (hd : d < n) {R : Nat → E} (hw : Wro (· = G d) wr w') (hr : w'.rowIs (G d) 3 m (evs R)) : RSt w w' B n m G0 G (fun i => if i = d then R else M i) := by
  refine ⟨⟨hw.rowIs h.own.top (fun e => h.own.apart d hd e.symm), fun r hr' => ?_, h.own.apart, h.own.inj⟩, h.wro.trans (hw.mono fun x e => ?_), h.per⟩
  · by_cases e : r = d
    · subst e; simpa using hr
    · have h2 := hw.rowIs (h.own.row r hr') (fun q => e (h.own.inj r d hr' hd q))
      simpa [e] using h2
  · obtain ⟨s, hs, hG⟩ := h.per d hd
    exact Or.inr ⟨s, hs, by rw [e, hG]⟩
/-- two rows change places -/
theorem RSt.swap {w wr : World} {B n m : Nat} {G0 G : Nat → Nat} {M : Nat → Nat → E} (h : RSt w wr B n m G0 G M) {d p : Nat} (hd : d < n) (hp : p < n) :
    RSt w ((wr.setCell ⟨B, d, none⟩ (.slice (some ⟨G p, 0, none⟩) m m)).setCell ⟨B, p, none⟩ (.slice (some ⟨G d, 0, none⟩) m m)) B n m G0 (fun r => G (sw d p r)) (swp M d p) := by
  refine ⟨⟨?_, fun r hr => ?_, fun r hr => h.own.apart _ (sw_lt hd hp hr), fun r s hr hs e => sw_inj (h.own.inj _ _ (sw_lt hd hp hr) (sw_lt hd hp hs) e)⟩, ?_, fun r hr => h.per _ (sw_lt hd hp hr)⟩
  · refine ((h.own.top.set d (.slice (some ⟨G p, 0, none⟩) m m)).set p (.slice (some ⟨G d, 0, none⟩) m m)).congr fun i _ => ?_
    unfold sw
    by_cases e1 : i = p
    · rw [if_pos e1]
      by_cases e2 : i = d
      · rw [if_pos e2, ← e1, ← e2]
      · rw [if_neg e2, if_pos e1]
    · rw [if_neg e1]
      by_cases e2 : i = d
      · rw [if_pos e2, if_pos e2]
      · rw [if_neg e2, if_neg e2, if_neg e1]
  · have hs := sw_lt hd hp hr
    exact ((h.own.row _ hs).setOther (a := ⟨B, d, none⟩) (h.own.apart _ hs) _).setOther (a := ⟨B, p, none⟩) (h.own.apart _ hs) _
  · exact (h.wro.setCell (p := ⟨B, d, none⟩) (Or.inl rfl) _).setCell (p := ⟨B, p, none⟩) (Or.inl rfl) _
theorem OwnM.from {w : World} {B n m : Nat} {G : Nat → Nat} {M : Nat → Nat → E} (h : OwnM w B n m G M) (d : Nat) : Mat w (some ⟨B, d, none⟩) (n - d) (fun r => some ⟨G (d + r), 0, none⟩) (fun _ => m) (fun _ => m) (fun r i => ev (M (d + r) i)) := fun r hr =>
  ⟨⟨B, d, rfl, h.top.cell (show d + r < n by omega)⟩, Ints.mk fun i hi => by rw [Nat.zero_add]; exact (h.row (d + r) (by omega)).cell hi⟩
theorem findNZ_shift (M : Nat → Nat → E) (c k d : Nat) : d + findNZ (fun r => M (d + r)) c k 0 = findNZ M c k d := by
  obtain ⟨h1, h2, h3, h4⟩ := findNZ_spec (fun r => M (d + r)) c k 0
  symm
  refine findNZ_unique (by omega) (by omega) (fun i a b => ?_) (fun a => h4 (by omega))
  have := h3 (i - d) (by omega) (by omega)
  rwa [show d + (i - d) = i by omega] at this
theorem sw_self (d p : Nat) : sw d p d = p := if_pos rfl
theorem clr_zero (M : Nat → Nat → E) (d c : Nat) : clr 0 M d c = M := by
  funext i k
  exact if_neg (by omega)
theorem clr_at (q : Nat) (M : Nat → Nat → E) (d c : Nat) : clr q M d c q = M q ∧ clr q M d c d = M d :=
  ⟨funext fun k => if_neg (by omega), funext fun k => if_neg (fun h => h.2 rfl)⟩
theorem clr_next (q : Nat) (M : Nat → Nat → E) (d c : Nat) (h : q ≠ d) : (fun i => if i = q then (fun k => ad (M q k) (mu (M d k) (M q c))) else clr q M d c i) = clr (q + 1) M d c := by
  funext i k
  by_cases e : i = q
  · subst e
    rw [if_pos rfl]
    exact (if_pos ⟨by omega, h⟩).symm
  · rw [if_neg e]
    unfold clr
    by_cases e2 : i < q ∧ i ≠ d
    · rw [if_pos e2, if_pos ⟨by omega, e2.2⟩]
    · rw [if_neg e2, if_neg (fun k => e2 ⟨by omega, k.2⟩)]
theorem clr_skip (M : Nat → Nat → E) (d c : Nat) : clr (d + 1) M d c = clr d M d c := by
  funext i k
  unfold clr
  by_cases e : i < d ∧ i ≠ d
  · rw [if_pos e, if_pos ⟨by omega, e.2⟩]
  · rw [if_neg e, if_neg (fun k => e ⟨by omega, k.2⟩)]
theorem scl_row (M : Nat → Nat → E) (d : Nat) (f : E) : (fun i => if i = d then (fun k => mu (M d k) f) else M i) = scl M d f := by
  funext i k
  unfold scl
  by_cases e : i = d
  · rw [if_pos e, if_pos e]
  · rw [if_neg e, if_neg e]
theorem redStep_yes {n c d p : Nat} {N N3 : Nat → Nat → E} (hp : d + p = findNZ N c (n - d) d) (hlt : d + p < n) (h3 : N3 = swp N d (d + p)) : redStep n c (N, d) = (clr n (scl N3 d (iv (N3 d c))) d c, d + 1) := by
  unfold redStep
  simp only
  rw [← hp, if_pos hlt, h3]
  unfold swp
  rw [sw_self]
theorem redStep_no {n c d : Nat} {N : Nat → Nat → E} (h : ¬ findNZ N c (n - d) d < n) : redStep n c (N, d) = (N, d) := if_neg h
theorem nz_of {n c d p : Nat} {N N3 : Nat → Nat → E} (hp : d + p = findNZ N c (n - d) d) (hlt : d + p < n) (h3 : N3 = swp N d (d + p)) : N3 d c ≠ ze := by
  have h := (findNZ_spec N c (n - d) d).2.2.2 (by omega)
  rw [h3]
  unfold swp
  rw [sw_self, hp]
  exact h
set_option maxRecDepth 100000 in
set_option maxHeartbeats 3200000 in
theorem reduce_any (B n m cols : Nat) (G : Nat → Nat) (M : Nat → Nat → E) (w : World) (hn : 1 ≤ n ∧ n ≤ 8) (hm : m ≤ 16) (hc : cols ≤ m) (h : OwnM w B n m G M) :
    Calls Try.prog 94 #[.slice (some ⟨B, 0, none⟩) n n, .int .i64 cols] w fun e w' => e = .returned (.int .i64 (redTo n M cols).2) ∧ ∃ G', RSt w w' B n m G G' (redTo n M cols).1 := by
  have HH : Hid (OwnM w B n m G M) := h
  clear h
  go_enter Try.func94, Try.ntmps94
  go_wp2_with fail
  go_loopw [5, 11] (fun s i wr => ∃ k : Nat, k ≤ cols ∧ i = .int .i64 k ∧ s = .int .i64 (redTo n M k).2 ∧ ∃ G', RSt w wr B n m G G' (redTo n M k).1) (fun _ i _ => cols - (intOf i).toNat)
  case atStart => exact ⟨0, Nat.zero_le _, rfl, rfl, G, RSt.start HH.out⟩
  case round =>
    obtain ⟨k, hk, rfl, rfl, G', hr⟩ := hrel
    by_cases hlt : k < cols
    · have hd := redTo_le n M k
      have hst : redTo n M (k + 1) = redStep n k (redTo n M k) := rfl
      have HST : Hid (redTo n M (k + 1) = redStep n k (redTo n M k)) := hst
      clear hst
      generalize redTo n M k = s at *
      obtain ⟨N, d⟩ := s
      simp only at hd hr
      have HRS : Hid (RSt w wr B n m G G' N) := hr
      clear hr
      by_cases hdn : d < n
      · go_wp2_with fail
        have hx1 : Ext wr (wr.alloc (.cells #[.int .i64 k] 3)) := (Ext.refl wr).alloc _ _
        have hk1 : k < m := by omega
        refine (indexNZ_any wr.heap.size k _ (n - d) _ m _ _ _ _ (by omega) hk1 (by rw [new_cell]; rfl) ((HRS.out.own.ext hx1).from d)).mono ?_
        rintro e w2 ⟨⟨p0, hp0, rfl⟩, hx2⟩
        have hbox := hx2.keeps (p := ⟨wr.heap.size, 0, none⟩) (v := .int .i64 k) (by rw [new_cell]; rfl)
        have hr2 := HRS.out.grow (hx1.trans hx2)
        have HP : Hid (d + p0 = findNZ N k (n - d) d) := by show d + p0 = _; rw [hp0]; exact findNZ_shift N k (n - d) d
        clear hp0 hx1 hx2
        by_cases hpn : p0 < n - d
        · have hpi : (if p0 < n - d then (p0 : Int) else -1) = p0 := if_pos hpn
          rw [hpi]
          clear hpi
          have hc1 := hr2.own.top.cell hdn
          have hc2 := hr2.own.top.cell (show d + p0 < n by omega)
          have hf1 := hr2.own.top.frozen d
          have hf2 := hr2.own.top.frozen (d + p0)
          have HR2 : Hid (RSt w w2 B n m G G' N) := hr2
          clear hr2
          have hGB : ∀ r, r < n → G' r ≠ wr.heap.size := fun r hr => by have := (HRS.out.own.row r hr).lt; omega
          obtain ⟨N3, hN3⟩ : ∃ N3, N3 = swp N d (d + p0) := ⟨_, rfl⟩
          have HN3 : Hid (N3 = swp N d (d + p0)) := hN3
          have HSW : Hid (RSt w ((w2.setCell ⟨B, d, none⟩ (.slice (some ⟨G' (d + p0), 0, none⟩) m m)).setCell ⟨B, d + p0, none⟩ (.slice (some ⟨G' d, 0, none⟩) m m)) B n m G (fun r => G' (sw d (d + p0) r)) N3) := by
            show RSt _ _ _ _ _ _ _ N3
            rw [hN3]; exact HR2.out.swap hdn (by omega)
          have HG3 : Hid (∀ r, r < n → G' (sw d (d + p0) r) ≠ wr.heap.size) := fun r hr => hGB _ (sw_lt hdn (show d + p0 < n by omega) hr)
          have HNZ : Hid (N3 d k ≠ ze) := nz_of HP.out (by omega) hN3
          have HBX : Hid (((w2.setCell ⟨B, d, none⟩ (.slice (some ⟨G' (d + p0), 0, none⟩) m m)).setCell ⟨B, d + p0, none⟩ (.slice (some ⟨G' d, 0, none⟩) m m)).cell? ⟨wr.heap.size, 0, none⟩ = some (.int .i64 k)) := by
            have hb := HRS.out.own.top.lt
            show _ = _
            rw [cell_other _ _ _ _ (by show wr.heap.size ≠ B; omega), cell_other _ _ _ _ (by show wr.heap.size ≠ B; omega)]
            exact hbox
          have HST2 : Hid (redTo n M (k + 1) = (clr n (scl N3 d (iv (N3 d k))) d k, d + 1)) := HST.out.trans (redStep_yes HP.out (by omega) hN3)
          clear hGB hN3 hbox HP
          by_cases hp1 : 0 < p0
          case' neg =>
            obtain rfl : p0 = 0 := by omega
            simp only [Nat.add_zero] at hc2 hf2 HSW HG3 HBX
            go_wp2_with fail
            go_region
            go_wp2_with fail
            generalize (w2.setCell ⟨B, d, none⟩ (.slice (some ⟨G' d, 0, none⟩) m m)).setCell ⟨B, d, none⟩ (.slice (some ⟨G' d, 0, none⟩) m m) = w3 at *
            generalize hG3e : (fun r => G' (sw d d r)) = G3 at HSW
          case' pos =>
            go_wp2_with fail
            go_region
            go_wp2_with fail
            generalize (w2.setCell ⟨B, d, none⟩ (.slice (some ⟨G' (d + p0), 0, none⟩) m m)).setCell ⟨B, d + p0, none⟩ (.slice (some ⟨G' d, 0, none⟩) m m) = w3 at *
            generalize hG3e : (fun r => G' (sw d (d + p0) r)) = G3 at HSW
          all_goals
            have HG4 : Hid (∀ r, r < n → G3 r ≠ wr.heap.size) := by rw [← hG3e]; exact HG3.out
            have hr4 := HSW.out.grow (Ext.refl w3).drew
            have hb4 : w3.drew.cell? ⟨wr.heap.size, 0, none⟩ = some (.int .i64 k) := HBX.out
            clear hG3e HG3 HSW HBX HR2 hc1 hc2 hf1 hf2 HN3 HST
            generalize w3.drew = w4 at *
            generalize wr.heap.size = qb at *
            have gA := fun x : Gr w4 => x.ext.keeps (hr4.own.top.cell hdn)
            have gB := fun x : Gr w4 => x.ext.keeps hb4
            have gC := fun x : Gr w4 => x.ext.keeps ((hr4.own.row d hdn).cell hk1)
            have HR4 : Hid (RSt w w4 B n m G G3 N3) := hr4
            clear hr4
            refine wp_region_grows 12 (by kernel_rfl) (by kernel_rfl) (fun hne => ?_)
            simp only [List.take_succ_cons, List.take_zero, List.drop_succ_cons, List.drop_zero]
            repeat (go_big_quiet_step (first | (go_at_call 105; exact Calls.grown (minverse_any (N3 d k) HNZ.out _))))
            refine wpQuiet_nil ?_
            intro w5 hw5
            obtain ⟨x, rfl⟩ := hw5
            have hr5 := HR4.out.grow x.ext
            have HB5 : Hid (x.w'.cell? ⟨qb, 0, none⟩ = some (.int .i64 k)) := gB x
            clear gA gB gC HR4 hb4
            generalize x.w' = w6 at *
            have HR5 : Hid (RSt w w6 B n m G G3 N3) := hr5
            clear hr5
            go_wp2_with fail
            refine (scale_any (G3 d) m m (iv (N3 d k)) (N3 d) _ (by omega) (HR5.out.own.row d hdn)).mono ?_
            rintro e w7 ⟨rfl, hrow7, hw7⟩
            have hr7 := HR5.out.put hdn hw7 hrow7
            rw [scl_row] at hr7
            have hb7 : w7.cell? ⟨qb, 0, none⟩ = some (.int .i64 k) := hw7.cell HB5.out (fun e => HG4.out d hdn e.symm)
            generalize scl N3 d (iv (N3 d k)) = N4 at *
            have HR7 : Hid (RSt w w7 B n m G G3 N4) := hr7
            have HB7 : Hid (w7.cell? ⟨qb, 0, none⟩ = some (.int .i64 k)) := hb7
            clear hrow7 hw7 hr7 hb7 HR5 HB5 HNZ
            go_wp2_with fail
            go_loopw [54] (fun i wi => ∃ q : Nat, q ≤ n ∧ i = .int .i64 q ∧ RSt w wi B n m G G3 (clr q N4 d k) ∧ wi.cell? ⟨qb, 0, none⟩ = some (.int .i64 k)) (fun i _ => n - (intOf i).toNat)
            case atStart => exact ⟨0, Nat.zero_le _, rfl, by rw [clr_zero]; exact HR7.out, HB7.out⟩
            case round =>
              clear HR7 HB7
              obtain ⟨q, hq, rfl, hrq, hbq⟩ := hrel
              by_cases hqt : q < n
              · have hcq := hrq.own.top.cell hqt
                by_cases hqd : q = d
                · subst hqd
                  have hne : ((q : Int) != (q : Int)) = false := by simp
                  have HRQ : Hid (RSt w wr B n m G G3 (clr q N4 q k)) := hrq
                  clear hrq
                  go_wp2_with fail
                  go_roundw
                  case rel => exact ⟨q + 1, by omega, by go_num, by rw [clr_skip]; exact HRQ.out, hbq⟩
                  case measure => simp [intOf]; omega
                · have hne : ((q : Int) != (d : Int)) = true := by rw [bne_iff_ne]; omega
                  obtain ⟨e1, e2⟩ := clr_at q N4 d k
                  have r1 := hrq.own.row q hqt
                  have r2 := hrq.own.row d hdn
                  rw [e1] at r1
                  rw [e2] at r2
                  have gA := fun x : Gr wr => x.ext.keeps (hrq.own.top.cell hdn)
                  have gB := fun x : Gr wr => x.ext.keeps hbq
                  have gC : ∀ x : Gr wr, x.w'.cell? ⟨G3 q, k, none⟩ = some (.int .i64 (ev (N4 q k))) := fun x => x.ext.keeps (r1.cell hk1)
                  have HRQ : Hid (RSt w wr B n m G G3 (clr q N4 d k)) := hrq
                  have R1 : Hid (wr.rowIs (G3 q) 3 m (evs (N4 q))) := r1
                  have R2 : Hid (wr.rowIs (G3 d) 3 m (evs (N4 d))) := r2
                  have HGG : Hid (G3 q ≠ G3 d) := fun e => hqd (hrq.own.inj q d hqt hdn e)
                  clear hrq e1 e2 r1 r2
                  go_wp2_with fail
                  refine wp_region_grows 9 (by kernel_rfl) (by kernel_rfl) (fun hne => ?_)
                  simp only [List.take_succ_cons, List.take_zero, List.drop_succ_cons, List.drop_zero]
                  repeat (go_big_quiet_step (fail))
                  refine wpQuiet_nil ?_
                  intro w8 hw8
                  obtain ⟨x, rfl⟩ := hw8
                  have HRQ2 : Hid (RSt w x.w' B n m G G3 (clr q N4 d k)) := HRQ.out.grow x.ext
                  have HBQ2 : Hid (x.w'.cell? ⟨qb, 0, none⟩ = some (.int .i64 k)) := gB x
                  have R12 : Hid (x.w'.rowIs (G3 q) 3 m (evs (N4 q))) := x.ext.rowIs R1.out
                  have R22 : Hid (x.w'.rowIs (G3 d) 3 m (evs (N4 d))) := x.ext.rowIs R2.out
                  clear gA gB gC HRQ R1 R2 hcq hbq
                  generalize x.w' = w9 at *
                  go_wp2_with fail
                  refine (addTimes_any (G3 q) (G3 d) m m m (N4 q k) (N4 q) (N4 d) _ (by omega) HGG.out R12.out R22.out).mono ?_
                  rintro e w10 ⟨rfl, hrow10, hw10⟩
                  have hr10 := HRQ2.out.put hqt hw10 hrow10
                  rw [clr_next q N4 d k hqd] at hr10
                  have hb10 : w10.cell? ⟨qb, 0, none⟩ = some (.int .i64 k) := hw10.cell HBQ2.out (fun e => HG4.out q hqt e.symm)
                  have HR10 : Hid (RSt w w10 B n m G G3 (clr (q + 1) N4 d k)) := hr10
                  clear hrow10 hw10 hr10
                  go_wp2_with fail
                  go_roundw
                  case rel => exact ⟨q + 1, by omega, by go_num, HR10.out, hb10⟩
                  case measure => simp [intOf]; omega
              · obtain rfl : q = n := by omega
                have HRQ : Hid (RSt w wr B q m G G3 (clr q N4 d k)) := hrq
                clear hrq
                go_wp2_with fail
                go_roundw
                case rel => exact ⟨k + 1, by omega, by go_num, by rw [HST2.out]; go_num, G3, by rw [HST2.out]; exact HRQ.out⟩
                case measure => simp [intOf]; omega
        · have hpi : (if p0 < n - d then (p0 : Int) else -1) = -1 := if_neg hpn
          rw [hpi]
          clear hpi
          have hno : redTo n M (k + 1) = (N, d) := HST.out.trans (redStep_no (by rw [← HP.out]; omega))
          have HNO : Hid (redTo n M (k + 1) = (N, d)) := hno
          have HR2 : Hid (RSt w w2 B n m G G' N) := hr2
          clear hno hr2 hbox
          go_wp2_with fail
          go_roundw
          case rel => exact ⟨k + 1, by omega, by go_num, by rw [HNO.out], G', by rw [HNO.out]; exact HR2.out⟩
          case measure => simp [intOf]; omega
      · obtain rfl : d = n := by omega
        have hno : redTo d M (k + 1) = (N, d) := HST.out.trans (redStep_no (by have := (findNZ_spec N k (d - d) d).1; omega))
        have HNO : Hid (redTo d M (k + 1) = (N, d)) := hno
        clear hno
        go_wp2_with fail
        have hx1 : Ext wr (wr.alloc (.cells #[.int .i64 k] 3)) := (Ext.refl wr).alloc _ _
        refine (indexNZ_any wr.heap.size k _ 0 _ m (fun _ => none) (fun _ => 0) N _ (by omega) (by omega) (by rw [new_cell]; rfl) (fun r hr => by omega)).mono ?_
        rintro e w2 ⟨⟨p0, hp0, rfl⟩, hx2⟩
        have HR2 : Hid (RSt w w2 B d m G G' N) := HRS.out.grow (hx1.trans hx2)
        have hpi : (if p0 < 0 then (p0 : Int) else -1) = -1 := if_neg (by omega)
        rw [hpi]
        clear hpi hp0 hx1 hx2
        go_wp2_with fail
        go_roundw
        case rel => exact ⟨k + 1, by omega, by go_num, by rw [HNO.out], G', by rw [HNO.out]; exact HR2.out⟩
        case measure => simp [intOf]; omega
    · obtain rfl : k = cols := by omega
      go_wp2_with fail
      go_ret
      exact ⟨rfl, G', hr⟩
end Go.Proofs.Ythgbfakmkdifbaa
