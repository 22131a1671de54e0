/-
  quicksetref.SpacePlayed: deeds, one by one, as the document says; in new memory.
-/
import Derived.Test.YtfekiccjcfdmkabChecked
import Derived.WalkKit
import Derived.BigQuiet
import Derived.Test.YtfekiccjcfdmkabSpacePl
namespace Go.Proofs.Ytfekiccjcfdmkab
open Go.RowKit Go.Deep
theorem PlI.next {t : TypeId} {w : World} {g n : Nat} {D : List (Int × Int × Int)} {q : Nat} {S : Nat → Int} {F : List (Int × Int × Int)} {R : List (Bool × Int × Int)} {v u : Value} {wr : World} (h : PlI t w g n D q S F R v u wr) {d : Int × Int × Int} (hd : D.drop q = d :: D.drop (q + 1)) (hn : n ≤ 4096) {r : DoR} (hr : doS n S d = r)
    {wz w5 : World} {gf : Nat} {lf : Int} (hlf : cntS r.st 0 n = lf) {u' v5 : Value} {x : Value} {c0 c1 : Array Value} {t0 : TypeId} (hX : Ext w wz) (hU : Uns wz g t n r.st) (hT : wz.ownsRow w.heap.size 52 3 v q (fl3 (fndV F))) (hG : wz.ownsRow w.heap.size 72 3 u' (R ++ r.recs).length (fl3 (recV (R ++ r.recs))))
    (hgw : w.heap.size ≤ gf) (hF : wz.heap[gf]? = some (.cells c1 52 (0, 0))) (hv : ∀ b, v.ownBlock = some b → b ≠ gf) (ht : t ≠ 52)
    (hown5 : w5.ownsRow w.heap.size 52 3 v5 (q + 1) (fl3 (fndV F ++ [(IV r.code, IV r.place, IV lf)]))) (hgrow5 : ((wz.setCell ⟨gf, 2, none⟩ x).alloc (.cells c0 t0)).grownBy w5 v.ownBlock) :
    PlI t w g n D (q + 1) r.st (F ++ [(r.code, r.place, lf)]) (R ++ r.recs) v5 u' w5 := by
  have h4 := h.fst
  have h5 := h.snd
  rw [hd] at h4 h5
  have h6 := play_fst h4
  have h7 := play_snd h5
  rw [hr] at h6 h7
  rw [hlf] at h6
  have hfew : r.recs.length ≤ 4096 := by rw [← hr]; exact recs_few n hn S _
  have hR := h.few
  have hu : ∀ b, u'.ownBlock = some b → b ≠ gf := fun b hb e => by
    obtain ⟨cur, hc⟩ := own_block hG hb
    rw [e, hF] at hc
    have := (Obj.cells.inj (Option.some.inj hc)).2.1
    revert this
    decide
  have hgg : g ≠ gf := fun e => by
    obtain ⟨c, hb, _⟩ := hU
    rw [e, hF] at hb
    exact ht (Obj.cells.inj (Option.some.inj hb)).2.1.symm
  have ws : Wro (· = gf) wz (wz.setCell ⟨gf, 2, none⟩ x) := (Wro.refl (· = gf) wz).setCell (p := ⟨gf, 2, none⟩) rfl x
  have xs : Ext (wz.setCell ⟨gf, 2, none⟩ x) ((wz.setCell ⟨gf, 2, none⟩ x).alloc (.cells c0 t0)) := (Ext.refl _).alloc _ _
  have hT2 := own_ext (own_wroS hT ws hv) xs
  have hG2 := own_ext (own_wroS hG ws hu) xs
  have hU2 : Uns ((wz.setCell ⟨gf, 2, none⟩ x).alloc (.cells c0 t0)) g t n r.st := xs.rowIs (World.rowIs.setOther hU (a := ⟨gf, 2, none⟩) hgg x)
  refine ⟨((hX.setCell (p := ⟨gf, 2, none⟩) hgw x).trans xs).grow hgrow5 fun k hk => own_geS hT hk, uns_keep hU2 hT2 hgrow5 ht, by rw [← hr]; exact h.in4.do _, by rw [List.length_append, h.len]; rfl, by rw [List.length_append]; omega, ?_, own_keep hG2 hT2 hgrow5 (by decide), h6, h7⟩
  rw [fndV_snoc]
  exact hown5
theorem row2_set {w : World} {g : Nat} {a b c : Value} {t : TypeId} (h : w.heap[g]? = some (.cells #[a, b, c] t (0, 0))) (x y : Value) : ((w.setCell ⟨g, 0, none⟩ x).setCell ⟨g, 1, none⟩ y).heap[g]? = some (.cells #[x, y, c] t (0, 0)) := by
  have h1 := heap_setCell_same w g 0 #[a, b, c] t x h
  have h2 := heap_setCell_same _ g 1 _ t y h1
  rw [h2]
  rfl
def T0 (g m : Nat) : Nat → Prop := fun i => i = g ∨ m ≤ i
theorem keepT {wr wz : World} {g : Nat} {t : TypeId} {n : Nat} {S : Nat → Int} (hu : Uns wr g t n S) {e : TypeId} {s : Nat} {v : Value} {m : Nat} {xs : List Value} {base : Nat} (h : wr.ownsRow base e s v m xs) (hne : t ≠ e) (hw : Wro (T0 g wr.heap.size) wr wz) : wz.ownsRow base e s v m xs :=
  own_wroS h hw fun b hb q => by
    rcases q with q | q
    · exact uns_ne hu h hne (by rw [hb, q])
    · have := (h.lt b hb).2
      omega
theorem extT {w wr wz : World} {g : Nat} (hx : Ext w wr) (hg : w.heap.size ≤ g) (hw : Wro (T0 g wr.heap.size) wr wz) : Ext w wz := Wro.after hx hw fun i hi => by
  have := hx.size
  rcases hi with hi | hi
  · omega
  · omega
theorem com_new {n : Nat} {S : Nat → Int} {w : World} {g q : Nat} {t : TypeId} {z : Int} (h : Uns w g t n (comQ S q)) (hz : comS S q = z) : Uns (w.setCell ⟨g, q, none⟩ (.int .i64 z)) g t n (comQ S (q + 1)) := (h.set q z).congr fun j _ => by
  unfold comQ
  by_cases e : j = q
  · subst e
    rw [if_pos rfl, if_pos (by omega), hz]
  · rw [if_neg e]
    by_cases c : j < q
    · rw [if_pos c, if_pos (by omega)]
    · rw [if_neg c, if_neg (by omega)]
theorem blk_keep {w w' : World} {gf : Nat} {cs : Array Value} {e : TypeId} (h : w.heap[gf]? = some (.cells cs e (0, 0))) {b : Nat} {e2 : TypeId} {s2 : Nat} {v : Value} {m : Nat} {xs : List Value} (h2 : w.ownsRow b e2 s2 v m xs) (hg : w.grownBy w' v.ownBlock) (hne : e ≠ e2) : w'.heap[gf]? = some (.cells cs e (0, 0)) :=
  (hg.block gf (Array.getElem?_eq_some_iff.1 h).1 fun q => by
    obtain ⟨cur, hc⟩ := own_block h2 q.symm
    rw [h] at hc
    exact hne (Obj.cells.inj (Option.some.inj hc)).2.1).trans h
def recT (L : List (Int × Int)) : List (Bool × Int × Int) := L.map fun r => (true, r.1, r.2)
theorem recT_snoc (L : List (Int × Int)) (r : Int × Int) : recT (L ++ [r]) = recT L ++ [(true, r.1, r.2)] := by
  unfold recT
  rw [List.map_append]
  rfl
/-- among the records of a commit -/
structure CmI (w : World) (gf n q : Nat) (S : Nat → Int) (F : List (Int × Int × Int)) (R : List (Bool × Int × Int)) (R0 : List (Int × Int)) (r0 u8 l : Value) (q2 : Nat) (wi : World) : Prop where
  ext : Ext w wi
  uns : Uns wi w.heap.size 3 n S
  told : wi.ownsRow w.heap.size 52 3 u8 q (fl3 (fndV F))
  log : wi.ownsRow w.heap.size 72 3 l (R ++ recT (R0.take q2)).length (fl3 (recV (R ++ recT (R0.take q2))))
  rng : wi.ownsRow w.heap.size 58 2 r0 R0.length (fl R0)
  fnd : wi.heap[gf]? = some (.cells #[.int .i64 0, .int .i64 0, .int .i64 0] 52 (0, 0))
theorem CmI.ext' {w : World} {gf n q : Nat} {S : Nat → Int} {F : List (Int × Int × Int)} {R : List (Bool × Int × Int)} {R0 : List (Int × Int)} {r0 u8 l : Value} {q2 : Nat} {wi w' : World} (h : CmI w gf n q S F R R0 r0 u8 l q2 wi) (x : Ext wi w') : CmI w gf n q S F R R0 r0 u8 l q2 w' :=
  ⟨h.ext.trans x, x.rowIs h.uns, own_ext h.told x, own_ext h.log x, own_ext h.rng x, x.blk h.fnd⟩
theorem CmI.next {w : World} {gf n q : Nat} {S : Nat → Int} {F : List (Int × Int × Int)} {R : List (Bool × Int × Int)} {R0 : List (Int × Int)} {r0 u8 l l' : Value} {q2 : Nat} {wi w' : World} (h : CmI w gf n q S F R R0 r0 u8 l q2 wi) {x y : Int} (hq : R0[q2]? = some (x, y))
    (ho : w'.ownsRow w.heap.size 72 3 l' ((R ++ recT (R0.take q2)).length + 1) (fl3 (recV (R ++ recT (R0.take q2)) ++ [(.bool true, IV x, IV y)]))) (hg : wi.grownBy w' l.ownBlock) : CmI w gf n q S F R R0 r0 u8 l' (q2 + 1) w' where
  ext := h.ext.grow hg fun k hk => own_geS h.log hk
  uns := uns_keep h.uns h.log hg (by decide)
  told := own_keep h.told h.log hg (by decide)
  log := by
    have e : R ++ recT (R0.take (q2 + 1)) = (R ++ recT (R0.take q2)) ++ [(true, x, y)] := by rw [take_at hq, recT_snoc, List.append_assoc]
    rw [e, recV_append, List.length_append]
    exact ho
  rng := own_keep h.rng h.log hg (by decide)
  fnd := blk_keep h.fnd h.log hg (by decide)
set_option maxRecDepth 100000 in
set_option maxHeartbeats 16000000 in
theorem Played_any (sz : Int) (a : Option Addr) (m c : Nat) (D : List (Int × Int × Int)) (w : World) (hl : D.length = m) (hm : m ≤ 9223372036854775807) (h : Tri w a (fndV D)) (hb : BddD D) :
    Calls Try.prog 14 #[.int .i64 sz, .slice a m c] w fun e w' => ∃ v u er, e = .returned (.tuple #[v, u, .int .i64 er]) ∧ PlayRes (playQ sz D) v u er w' ∧ Ext w w' := by
  have HL : Hid (D.length = m) := hl
  have HR : Hid (Tri w a (fndV D)) := h
  have HB : Hid (BddD D) := hb
  clear h hb hl
  by_cases hz1 : 1 ≤ sz
  · by_cases hz2 : sz ≤ 4096
    · have hz : szB sz = true := by unfold szB; simp [hz1, hz2]
      obtain ⟨n, rfl⟩ : ∃ n : Nat, sz = n := ⟨sz.toNat, by omega⟩
      have hn : 1 ≤ n ∧ n ≤ 4096 := by omega
      by_cases hm3 : m ≤ 300
      · have HE : Hid (playQ (n : Int) D = .inr (playL n (fun _ => 0) D)) := by
          show _ = _
          unfold playQ
          rw [hz, if_pos rfl, if_pos (by rw [HL.out]; exact hm3), Int.toNat_natCast]
        have hmk := make_now n hn.2
        clear hz
        go_enter Try.func14, Try.ntmps14
        go_wp2_with fail
        go_loopw [8, 9, 32] (fun v u i wr => ∃ (q : Nat) (S : Nat → Int) (F : List (Int × Int × Int)) (R : List (Bool × Int × Int)), q ≤ m ∧ i = .int .i64 q ∧ PlI 3 w w.heap.size n D q S F R v u wr) (fun _ _ i _ => m - (intOf i).toNat)
        case atStart => exact ⟨0, fun _ => 0, [], [], Nat.zero_le _, rfl, ⟨(Ext.refl w).alloc _ _, World.rowIs_made w (.int .i64 0) n 3, fun i _ => by omega, rfl, by simp, World.ownsRow_nil _ _ _ _, World.ownsRow_nil _ _ _ _, rfl, rfl⟩⟩
        case round =>
          clear hmk
          obtain ⟨q, S, F, R, hq, rfl, hpl⟩ := hrel
          have HP : Hid (PlI 3 w w.heap.size n D q S F R u8 u9 wr) := hpl
          have hgl : w.heap.size < wr.heap.size := World.rowIs.lt hpl.uns
          clear hpl
          by_cases hlt : q < m
          · obtain ⟨⟨k, f, cn⟩, h1, h2, h3⟩ := drop_at (L := D) (k := q) (by rw [HL.out]; exact hlt)
            have hbd := HB.out _ h3
            simp only at hbd
            have HD : Hid (D.drop q = (k, f, cn) :: D.drop (q + 1)) := h2
            obtain ⟨b, o, rfl, hc0, hc1, hc2⟩ := deed_at (HR.out.ext HP.out.ext) h1
            have hvt : Hid (∀ b, u8.ownBlock = some b → b ≠ wr.heap.size + 1) := fun b hb => by have := (HP.out.told.lt b hb).2; omega
            obtain ⟨wo, hwo⟩ : ∃ wo, wo = wr := ⟨_, rfl⟩
            subst hwo
            obtain ⟨ul, hul⟩ : ∃ ul, ul = u9 := ⟨_, rfl⟩
            subst hul
            clear h1 h2 h3
            by_cases k1 : k = 1
            · subst k1
              by_cases g0 : 1 ≤ cn
              · by_cases g1 : cn ≤ (n : Int)
                · skip
                  obtain ⟨C, rfl⟩ : ∃ C : Nat, cn = C := ⟨cn.toNat, by omega⟩
                  have xl := ((Ext.refl wo).alloc #[.int .i64 1, .int .i64 f, .int .i64 (C : Int)] 50).alloc #[.int .i64 8, .int .i64 0, .int .i64 0] 52
                  have hbf := heap_alloc_new (wo.alloc (.cells #[.int .i64 1, .int .i64 f, .int .i64 (C : Int)] 50)) (.cells #[.int .i64 8, .int .i64 0, .int .i64 0] 52)
                  rw [World.size_alloc] at hbf
                  have hdc := alloc_keeps (new_cell wo #[.int .i64 1, .int .i64 f, .int .i64 (C : Int)] 50 2) (.cells #[.int .i64 8, .int .i64 0, .int .i64 0] 52)
                  have HSt := stretches_any w.heap.size n S 0 _ hn.2 (xl.rowIs HP.out.uns)
                  have HXL : Hid _ := xl
                  have HBF : Hid _ := hbf
                  have HDC : Hid _ := hdc
                  clear xl hbf hdc
                  have hlen := runs_len (isS S 0) n
                  go_wp2_with fail
                  refine HSt.mono ?_
                  rintro e w4 ⟨r, rfl, ho, hx4⟩
                  obtain ⟨_, aR, cR, rfl, hr⟩ := own_rngs ho
                  obtain ⟨R0, hR⟩ : ∃ R0, runs (isS S 0) n = R0 := ⟨_, rfl⟩
                  rw [hR] at hr hlen ⊢
                  have HRR : Hid (runs (isS S 0) n = R0) := hR
                  have HRg : Hid (Rngs w4 aR R0) := hr
                  obtain ⟨k0, hk⟩ : ∃ k0, R0.length = k0 := ⟨_, rfl⟩
                  rw [hk] at hlen ⊢
                  have HK : Hid (R0.length = k0) := hk
                  have HX4 : Hid (Ext wo w4) := HXL.out.trans hx4
                  have HF4 : Hid (w4.heap[wo.heap.size + 1]? = some (.cells #[.int .i64 8, .int .i64 0, .int .i64 0] 52 (0, 0))) := hx4.blk HBF.out
                  have HD4 : Hid (w4.cell? ⟨wo.heap.size, 2, none⟩ = some (.int .i64 (C : Int))) := hx4.keeps HDC.out
                  clear ho hr HSt hR hk hx4 HXL HBF HDC hc0 hc1 hc2
                  go_wp2_with fail
                  go_loopw [9, 55] (fun l i wi => ∃ q2 : Nat, q2 ≤ k0 ∧ i = .int .i64 q2 ∧ l = ul ∧ Ext w4 wi ∧ fstL (C : Int) (R0.drop q2) = fstL (C : Int) R0) (fun _ i _ => k0 - (intOf i).toNat)
                  case atStart => exact ⟨0, Nat.zero_le _, rfl, rfl, Ext.refl _, rfl⟩
                  case round =>
                    obtain ⟨q2, hq2, rfl, hl9, hx, hf⟩ := hrel
                    obtain rfl : ul = u9 := hl9.symm
                    have HFd : Hid (fstL (C : Int) (R0.drop q2) = fstL (C : Int) R0) := hf
                    have dCi := fun o => alloc_keeps (hx.keeps HD4.out) o
                    clear hf
                    by_cases hlt2 : q2 < k0
                    · obtain ⟨⟨x, y⟩, e1, e2, e3⟩ := drop_at (L := R0) (k := q2) (by rw [HK.out]; exact hlt2)
                      obtain ⟨b2, o2, rfl, hr1, hr2⟩ := (HRg.out.ext hx) q2 x y e1
                      have hbd2 := (runs_spec (isS S 0) n).bd (x, y) (by rw [HRR.out]; exact e3)
                      simp only at hbd2
                      have hxy : x < y := (runs_spec (isS S 0) n).nrm.lt (x, y) (by rw [HRR.out]; exact e3)
                      have H2 : Hid (fstL (C : Int) R0 = if (C : Int) ≤ y - x then some x else fstL (C : Int) (R0.drop (q2 + 1))) := by
                        show _ = _
                        rw [← HFd.out, e2]
                        rfl
                      clear e1 e2 e3
                      by_cases hfit : (C : Int) ≤ y - x
                      · skip
                        have hfst : fstL (C : Int) (runs (isS S 0) n) = some x := by rw [HRR.out, H2.out, if_pos hfit]
                        obtain ⟨hx0, hxn, _⟩ := fst_runs g0 hfst
                        obtain ⟨X, rfl⟩ : ∃ X : Nat, x = X := ⟨x.toNat, by omega⟩
                        have exc : ((X : Int) + (C : Int)).toNat = X + C := by omega
                        have HDoE : doS n S (1, f, (C : Int)) = ⟨0, (X : Int), putS S X (X + C) 1, [(false, (X : Int), (X : Int) + (C : Int))]⟩ := by
                          unfold doS takeR
                          rw [if_pos rfl, if_pos ⟨g0, g1⟩]
                          simp only [hfst, Int.toNat_natCast, exc]
                        have xr : Ext wr (wr.alloc (.cells #[.int .i64 (X : Int), .int .i64 y] 58)) := (Ext.refl wr).alloc _ _
                        have hsz : wo.heap.size + 1 < wr.heap.size := (Array.getElem?_eq_some_iff.1 (hx.blk HF4.out)).1
                        have hbw := hx.blk HF4.out
                        have hb5 := xr.blk hbw
                        obtain ⟨y0, y1, y2, y3⟩ := row3_cells hb5
                        have y4 := y3 0
                        have y6b := heap_setCell_same wr (wo.heap.size + 1) 0 _ 52 (.int .i64 0) hbw
                        have y6 : ((wr.setCell ⟨wo.heap.size + 1, 0, none⟩ (.int .i64 0)).alloc (.cells #[.int .i64 (X : Int), .int .i64 y] 58)).cell? ⟨wo.heap.size + 1, 1, none⟩ = some (.int .i64 0) := alloc_keeps (by rw [cell_of_row _ _ 1 _ _ (0, 0) y6b]; rfl) _
                        have y7 := frozen_of_row ((wr.setCell ⟨wo.heap.size + 1, 0, none⟩ (.int .i64 0)).alloc (.cells #[.int .i64 (X : Int), .int .i64 y] 58)) (wo.heap.size + 1) 1 _ _ (((Ext.refl (wr.setCell ⟨wo.heap.size + 1, 0, none⟩ (.int .i64 0))).alloc _ _).blk y6b)
                        have hs2 : ((wr.setCell ⟨wo.heap.size + 1, 0, none⟩ (.int .i64 0)).setCell ⟨wo.heap.size + 1, 1, none⟩ (.int .i64 (X : Int))).heap.size = wr.heap.size := by simp [World.setCell]
                        obtain ⟨w5, hw5⟩ : ∃ w5, w5 = ((wr.setCell ⟨wo.heap.size + 1, 0, none⟩ (.int .i64 0)).setCell ⟨wo.heap.size + 1, 1, none⟩ (.int .i64 (X : Int))).alloc (.cells #[.int .i64 (X : Int), .int .i64 y] 58) := ⟨_, rfl⟩
                        have HF5 : Hid (w5.heap[wo.heap.size + 1]? = some (.cells #[.int .i64 0, .int .i64 (X : Int), .int .i64 0] 52 (0, 0))) := by
                          show _ = _
                          rw [hw5]
                          exact ((Ext.refl ((wr.setCell ⟨wo.heap.size + 1, 0, none⟩ (.int .i64 0)).setCell ⟨wo.heap.size + 1, 1, none⟩ (.int .i64 (X : Int)))).alloc _ _).blk (row2_set hbw _ _)
                        have hU5 : Uns w5 w.heap.size 3 n S := by
                          rw [hw5]
                          exact World.rowIs.alloc (World.rowIs.setOther (World.rowIs.setOther (hx.rowIs (HX4.out.rowIs HP.out.uns)) (a := ⟨wo.heap.size + 1, 0, none⟩) (by show w.heap.size ≠ wo.heap.size + 1; omega) _) (a := ⟨wo.heap.size + 1, 1, none⟩) (by show w.heap.size ≠ wo.heap.size + 1; omega) _) _
                        have r5 : w5.cell? ⟨wr.heap.size, 0, none⟩ = some (.int .i64 (X : Int)) := by
                          have e := new_cell ((wr.setCell ⟨wo.heap.size + 1, 0, none⟩ (.int .i64 0)).setCell ⟨wo.heap.size + 1, 1, none⟩ (.int .i64 (X : Int))) #[.int .i64 (X : Int), .int .i64 y] 58 0
                          rw [hs2] at e
                          rw [hw5]
                          exact e
                        have c5 : w5.cell? ⟨wo.heap.size, 2, none⟩ = some (.int .i64 (C : Int)) := by
                          rw [hw5]
                          refine alloc_keeps ?_ _
                          rw [cell_other _ _ _ _ (by show wo.heap.size ≠ wo.heap.size + 1; omega), cell_other _ _ _ _ (by show wo.heap.size ≠ wo.heap.size + 1; omega)]
                          exact hx.keeps HD4.out
                        have HW5 : Hid (Wro (T0 w.heap.size wo.heap.size) wo w5) := by
                          show Wro _ _ _
                          rw [hw5]
                          exact (((Wro.ext (HX4.out.trans hx)).setCell (p := ⟨wo.heap.size + 1, 0, none⟩) (Or.inr (by show wo.heap.size ≤ wo.heap.size + 1; omega)) _).setCell (p := ⟨wo.heap.size + 1, 1, none⟩) (Or.inr (by show wo.heap.size ≤ wo.heap.size + 1; omega)) _).then_ext ((Ext.refl _).alloc _ _)
                        have HPt := rput_any w.heap.size n S X (X + C) 1 w5 hn.2 (by omega) (by omega) hU5
                        rw [show ((X + C : Nat) : Int) = (X : Int) + (C : Int) by omega] at HPt
                        have HR5 : Hid (w5.cell? ⟨wr.heap.size, 0, none⟩ = some (.int .i64 (X : Int)) ∧ w5.cell? ⟨wo.heap.size, 2, none⟩ = some (.int .i64 (C : Int))) := ⟨r5, c5⟩
                        have hne1 : ¬ wr.heap.size = wo.heap.size + 1 := by omega
                        have hne2 : ¬ wo.heap.size + 1 = wr.heap.size := by omega
                        rw [hw5] at r5 c5 HPt
                        clear y6b hbw hs2
                        clear hfst exc xr y3 hb5 hU5 y2
                        have HRr : Hid (doS n S (1, f, (C : Int)) = ⟨0, (X : Int), putS S X (X + C) 1, [(false, (X : Int), (X : Int) + (C : Int))]⟩) := HDoE
                        obtain ⟨lf, hlf⟩ : ∃ lf, cntS (putS S X (X + C) 1) 0 n = lf := ⟨_, rfl⟩
                        have hcnt : ∀ W, Uns W w.heap.size 3 n (putS S X (X + C) 1) → Calls Try.prog 36 #[.slice (some ⟨w.heap.size, 0, none⟩) n n, .int .i64 0] W fun e w' => e = .returned (.int .i64 lf) ∧ w' = W := fun W hW => hlf ▸ rcount_any w.heap.size n (putS S X (X + C) 1) 0 W hn.2 hW
                        have HLE : Hid (cntS (putS S X (X + C) 1) 0 n = lf) := hlf
                        clear hlf HDoE
                        go_wp2_with fail
                        refine HPt.mono ?_
                        rw [← hw5]
                        rintro e w6 ⟨rfl, hu6, hw6⟩
                        have r6 := hw6.cell HR5.out.1 (by show ¬ wr.heap.size = w.heap.size; omega)
                        have c6 := hw6.cell HR5.out.2 (by show ¬ wo.heap.size = w.heap.size; omega)
                        have HU6 : Hid (Uns w6 w.heap.size 3 n (putS S X (X + C) 1)) := hu6
                        have HF6 : Hid (w6.heap[wo.heap.size + 1]? = some (.cells #[.int .i64 0, .int .i64 (X : Int), .int .i64 0] 52 (0, 0))) := hw6.blk HF5.out (by show ¬ wo.heap.size + 1 = w.heap.size; omega)
                        have HW6 : Hid (Wro (T0 w.heap.size wo.heap.size) wo w6) := HW5.out.trans (hw6.mono fun _ q => Or.inl q)
                        have hfew := HP.out.few
                        have HL6 : Hid (w6.ownsRow w.heap.size 72 3 ul R.length (fl3 (recV R))) := keepT HP.out.uns HP.out.log (by decide) HW6.out
                        have HT6 : Hid (w6.ownsRow w.heap.size 52 3 u8 q (fl3 (fndV F))) := keepT HP.out.uns HP.out.told (by decide) HW6.out
                        have HX6 : Hid (Ext w w6) := extT HP.out.ext (Nat.le_refl _) HW6.out
                        clear hu6 hw6 HPt r5 c5 y0 y1 y4 y6 y7 hw5
                        go_wp2_with (first | (at_builtin; refine append_tri _ rfl (.tmp 80) (.tmp 90) 34 rfl w.heap.size 72 (.agg #[.bool false, .int .i64 0, .int .i64 0]) 24 Try.underlying34 infoRec rfl ul R.length (recV R) rfl (own_ext HL6.out ((Ext.refl w6).alloc _ _)) (some ⟨w6.heap.size, 0, none⟩) 1 1 [(.bool false, IV (X : Int), IV ((X : Int) + (C : Int)))] rfl rfl ?_ (recL_one false _ _) (by omega) (by omega) (by omega) ?_ ?_) | go_in)
                        · exact tri_new _ _ rfl _ _ _ _
                        · exact (HX6.out.alloc _ _).size
                        intro v7 w7 hown7 hgrow7
                        have HU7 : Hid (Uns w7 w.heap.size 3 n (putS S X (X + C) 1)) := uns_keep (World.rowIs.alloc HU6.out _) (own_ext HL6.out ((Ext.refl w6).alloc _ _)) hgrow7 (by decide)
                        have HF7 : Hid (w7.heap[wo.heap.size + 1]? = some (.cells #[.int .i64 0, .int .i64 (X : Int), .int .i64 0] 52 (0, 0))) := (hgrow7.block _ (by have h5 := (Array.getElem?_eq_some_iff.1 HF6.out).1; rw [World.size_alloc]; omega) (fun e => by have h5 := (HP.out.log.lt _ e.symm).2; omega)).trans (((Ext.refl w6).alloc _ _).blk HF6.out)
                        have HT7 : Hid (w7.ownsRow w.heap.size 52 3 u8 q (fl3 (fndV F))) := own_keep (own_ext HT6.out ((Ext.refl w6).alloc _ _)) (own_ext HL6.out ((Ext.refl w6).alloc _ _)) hgrow7 (by decide)
                        have HG7 : Hid (w7.ownsRow w.heap.size 72 3 v7 (R ++ [(false, (X : Int), (X : Int) + (C : Int))]).length (fl3 (recV (R ++ [(false, (X : Int), (X : Int) + (C : Int))])))) := by
                          show World.ownsRow _ _ _ _ _ _ _
                          rw [recV_append, List.length_append]
                          exact hown7
                        have HX7 : Hid (Ext w w7) := (HX6.out.alloc _ _).grow hgrow7 fun k hk => own_geS HL6.out hk
                        clear hown7 hgrow7 HU6 HF6 HT6 HL6 r6 c6
                        go_wp2_with fail
                        refine (hcnt _ (HU7.out)).mono ?_
                        rintro e wz ⟨rfl, hwz⟩
                        have HFz : Hid (wz.heap[wo.heap.size + 1]? = some (.cells #[.int .i64 0, .int .i64 (X : Int), .int .i64 0] 52 (0, 0))) := by
                          show _ = _
                          rw [hwz]
                          exact HF7.out
                        have HUz : Hid (Uns wz w.heap.size 3 n (putS S X (X + C) 1)) := by
                          show Uns _ _ _ _ _
                          rw [hwz]
                          exact HU7.out
                        have HTz : Hid (wz.ownsRow w.heap.size 52 3 u8 q (fl3 (fndV F))) := by
                          show World.ownsRow _ _ _ _ _ _ _
                          rw [hwz]
                          exact HT7.out
                        have HGz : Hid (wz.ownsRow w.heap.size 72 3 v7 (R ++ [(false, (X : Int), (X : Int) + (C : Int))]).length (fl3 (recV (R ++ [(false, (X : Int), (X : Int) + (C : Int))])))) := by
                          show World.ownsRow _ _ _ _ _ _ _
                          rw [hwz]
                          exact HG7.out
                        have HXz : Hid (Ext w wz) := by
                          show Ext _ _
                          rw [hwz]
                          exact HX7.out
                        obtain ⟨y0, y1, y2, y3⟩ := row3_cells HFz.out
                        have y4 := y3 2
                        clear hwz hcnt y3
                        go_wp2_with (first | (at_builtin; refine append_tri _ rfl (.tmp 172) (.tmp 174) 33 rfl w.heap.size 52 (.agg #[.int .i64 0, .int .i64 0, .int .i64 0]) 24 Try.underlying33 infoFn3 rfl u8 q (fndV F) rfl (own_ext (own_wroS HTz.out ((Wro.refl (· = wo.heap.size + 1) wz).setCell (p := ⟨wo.heap.size + 1, 2, none⟩) rfl _) hvt.out) ((Ext.refl _).alloc _ _)) (some ⟨wz.heap.size, 0, none⟩) 1 1 [(IV (0), IV ((X : Int)), IV lf)] rfl rfl ?_ (fnd_one _ _ _) (by omega) (by omega) (by omega) ?_ ?_) | go_in)
                        · first | exact tri_new _ _ rfl _ _ _ _ | exact tri_new _ _ (by simp [World.setCell]) _ _ _ _
                        · have h5 := HXz.out.size
                          simp [World.setCell]
                          omega
                        intro v5 w5 hown5 hgrow5
                        have HPn : Hid (PlI 3 w w.heap.size n D (q + 1) (putS S X (X + C) 1) (F ++ [(0, (X : Int), lf)]) (R ++ [(false, (X : Int), (X : Int) + (C : Int))]) v5 v7 w5) := HP.out.next HD.out hn.2 HRr.out HLE.out HXz.out HUz.out HTz.out HGz.out (by omega) HFz.out hvt.out (by decide) hown5 hgrow5
                        clear hown5 hgrow5 HP HTz HGz HUz HFz
                        go_wp2_with fail
                        go_roundw
                        case rel => exact ⟨q + 1, _, _, _, by omega, by go_num, HPn.out⟩
                        case measure => simp [intOf]; omega
                      · have i1 : y - x < (C : Int) := by omega
                        go_wp2_with fail
                        go_roundw
                        case rel => exact ⟨q2 + 1, by omega, by go_num, rfl, hx.alloc _ _, by rw [H2.out, if_neg hfit]⟩
                        case measure => simp [intOf]; omega
                    · have e : R0.drop q2 = [] := List.drop_eq_nil_of_le (by rw [HK.out]; omega)
                      have HDoE : doS n S (1, f, (C : Int)) = ⟨8, 0, S, []⟩ := by
                        have h3 := HFd.out
                        rw [e] at h3
                        unfold doS takeR
                        rw [if_pos rfl, if_pos ⟨g0, g1⟩]
                        simp only [HRR.out, ← h3]
                        rfl
                      have HUi : Hid (Uns wr w.heap.size 3 n S) := hx.rowIs (HX4.out.rowIs HP.out.uns)
                      have HFi : Hid (wr.heap[wo.heap.size + 1]? = some (.cells #[.int .i64 8, .int .i64 0, .int .i64 0] 52 (0, 0))) := hx.blk HF4.out
                      have HWi : Hid (Wro (T0 w.heap.size wo.heap.size) wo wr) := Wro.ext (HX4.out.trans hx)
                      clear e
                      have HRr : Hid (doS n S (1, f, (C : Int)) = ⟨8, 0, S, []⟩) := HDoE
                      obtain ⟨lf, hlf⟩ : ∃ lf, cntS (S) 0 n = lf := ⟨_, rfl⟩
                      have hcnt : ∀ W, Uns W w.heap.size 3 n (S) → Calls Try.prog 36 #[.slice (some ⟨w.heap.size, 0, none⟩) n n, .int .i64 0] W fun e w' => e = .returned (.int .i64 lf) ∧ w' = W := fun W hW => hlf ▸ rcount_any w.heap.size n (S) 0 W hn.2 hW
                      have HLE : Hid (cntS (S) 0 n = lf) := hlf
                      clear hlf HDoE
                      go_wp2_with fail
                      refine (hcnt _ (HUi.out)).mono ?_
                      rintro e wz ⟨rfl, hwz⟩
                      have HFz : Hid (wz.heap[wo.heap.size + 1]? = some (.cells #[.int .i64 8, .int .i64 0, .int .i64 0] 52 (0, 0))) := by
                        show _ = _
                        rw [hwz]
                        exact HFi.out
                      have HUz : Hid (Uns wz w.heap.size 3 n (S)) := by
                        show Uns _ _ _ _ _
                        rw [hwz]
                        exact HUi.out
                      have HTz : Hid (wz.ownsRow w.heap.size 52 3 u8 q (fl3 (fndV F))) := by
                        show World.ownsRow _ _ _ _ _ _ _
                        rw [hwz]
                        exact keepT HP.out.uns HP.out.told (by decide) HWi.out
                      have HGz : Hid (wz.ownsRow w.heap.size 72 3 ul (R ++ []).length (fl3 (recV (R ++ [])))) := by
                        show World.ownsRow _ _ _ _ _ _ _
                        rw [hwz]
                        exact by rw [List.append_nil]; exact keepT HP.out.uns HP.out.log (by decide) HWi.out
                      have HXz : Hid (Ext w wz) := by
                        show Ext _ _
                        rw [hwz]
                        exact extT HP.out.ext (Nat.le_refl _) HWi.out
                      obtain ⟨y0, y1, y2, y3⟩ := row3_cells HFz.out
                      have y4 := y3 2
                      clear hwz hcnt y3
                      go_wp2_with (first | (at_builtin; refine append_tri _ rfl (.tmp 172) (.tmp 174) 33 rfl w.heap.size 52 (.agg #[.int .i64 0, .int .i64 0, .int .i64 0]) 24 Try.underlying33 infoFn3 rfl u8 q (fndV F) rfl (own_ext (own_wroS HTz.out ((Wro.refl (· = wo.heap.size + 1) wz).setCell (p := ⟨wo.heap.size + 1, 2, none⟩) rfl _) hvt.out) ((Ext.refl _).alloc _ _)) (some ⟨wz.heap.size, 0, none⟩) 1 1 [(IV (8), IV (0), IV lf)] rfl rfl ?_ (fnd_one _ _ _) (by omega) (by omega) (by omega) ?_ ?_) | go_in)
                      · first | exact tri_new _ _ rfl _ _ _ _ | exact tri_new _ _ (by simp [World.setCell]) _ _ _ _
                      · have h5 := HXz.out.size
                        simp [World.setCell]
                        omega
                      intro v5 w5 hown5 hgrow5
                      have HPn : Hid (PlI 3 w w.heap.size n D (q + 1) (S) (F ++ [(8, 0, lf)]) (R ++ []) v5 ul w5) := HP.out.next HD.out hn.2 HRr.out HLE.out HXz.out HUz.out HTz.out HGz.out (by omega) HFz.out hvt.out (by decide) hown5 hgrow5
                      clear hown5 hgrow5 HP HTz HGz HUz HFz
                      go_wp2_with fail
                      go_roundw
                      case rel => exact ⟨q + 1, _, _, _, by omega, by go_num, HPn.out⟩
                      case measure => simp [intOf]; omega
                · have HDoE : doS n S (1, f, cn) = ⟨2, 0, S, []⟩ := by unfold doS takeR; rw [if_pos rfl, if_neg (by simp only; omega)]
                  have HRr : Hid (doS n S (1, f, cn) = ⟨2, 0, S, []⟩) := HDoE
                  obtain ⟨lf, hlf⟩ : ∃ lf, cntS (S) 0 n = lf := ⟨_, rfl⟩
                  have hcnt : ∀ W, Uns W w.heap.size 3 n (S) → Calls Try.prog 36 #[.slice (some ⟨w.heap.size, 0, none⟩) n n, .int .i64 0] W fun e w' => e = .returned (.int .i64 lf) ∧ w' = W := fun W hW => hlf ▸ rcount_any w.heap.size n (S) 0 W hn.2 hW
                  have HLE : Hid (cntS (S) 0 n = lf) := hlf
                  clear hlf HDoE
                  go_wp2_with fail
                  refine (hcnt _ ((((Ext.refl wo).alloc #[.int .i64 1, .int .i64 f, .int .i64 cn] 50).alloc #[.int .i64 2, .int .i64 0, .int .i64 0] 52).rowIs HP.out.uns)).mono ?_
                  rintro e wz ⟨rfl, hwz⟩
                  have HFz : Hid (wz.heap[wo.heap.size + 1]? = some (.cells #[.int .i64 2, .int .i64 0, .int .i64 0] 52 (0, 0))) := by
                    show _ = _
                    rw [hwz]
                    exact (by have e := heap_alloc_new (wo.alloc (.cells #[.int .i64 1, .int .i64 f, .int .i64 cn] 50)) (.cells #[.int .i64 2, .int .i64 0, .int .i64 0] 52); rw [World.size_alloc] at e; exact e)
                  have HUz : Hid (Uns wz w.heap.size 3 n (S)) := by
                    show Uns _ _ _ _ _
                    rw [hwz]
                    exact (((Ext.refl wo).alloc #[.int .i64 1, .int .i64 f, .int .i64 cn] 50).alloc #[.int .i64 2, .int .i64 0, .int .i64 0] 52).rowIs HP.out.uns
                  have HTz : Hid (wz.ownsRow w.heap.size 52 3 u8 q (fl3 (fndV F))) := by
                    show World.ownsRow _ _ _ _ _ _ _
                    rw [hwz]
                    exact own_ext HP.out.told (((Ext.refl wo).alloc #[.int .i64 1, .int .i64 f, .int .i64 cn] 50).alloc #[.int .i64 2, .int .i64 0, .int .i64 0] 52)
                  have HGz : Hid (wz.ownsRow w.heap.size 72 3 ul (R ++ []).length (fl3 (recV (R ++ [])))) := by
                    show World.ownsRow _ _ _ _ _ _ _
                    rw [hwz]
                    exact by rw [List.append_nil]; exact own_ext HP.out.log (((Ext.refl wo).alloc #[.int .i64 1, .int .i64 f, .int .i64 cn] 50).alloc #[.int .i64 2, .int .i64 0, .int .i64 0] 52)
                  have HXz : Hid (Ext w wz) := by
                    show Ext _ _
                    rw [hwz]
                    exact HP.out.ext.trans (((Ext.refl wo).alloc #[.int .i64 1, .int .i64 f, .int .i64 cn] 50).alloc #[.int .i64 2, .int .i64 0, .int .i64 0] 52)
                  obtain ⟨y0, y1, y2, y3⟩ := row3_cells HFz.out
                  have y4 := y3 2
                  clear hwz hcnt y3
                  go_wp2_with (first | (at_builtin; refine append_tri _ rfl (.tmp 172) (.tmp 174) 33 rfl w.heap.size 52 (.agg #[.int .i64 0, .int .i64 0, .int .i64 0]) 24 Try.underlying33 infoFn3 rfl u8 q (fndV F) rfl (own_ext (own_wroS HTz.out ((Wro.refl (· = wo.heap.size + 1) wz).setCell (p := ⟨wo.heap.size + 1, 2, none⟩) rfl _) hvt.out) ((Ext.refl _).alloc _ _)) (some ⟨wz.heap.size, 0, none⟩) 1 1 [(IV (2), IV (0), IV lf)] rfl rfl ?_ (fnd_one _ _ _) (by omega) (by omega) (by omega) ?_ ?_) | go_in)
                  · first | exact tri_new _ _ rfl _ _ _ _ | exact tri_new _ _ (by simp [World.setCell]) _ _ _ _
                  · have h5 := HXz.out.size
                    simp [World.setCell]
                    omega
                  intro v5 w5 hown5 hgrow5
                  have HPn : Hid (PlI 3 w w.heap.size n D (q + 1) (S) (F ++ [(2, 0, lf)]) (R ++ []) v5 ul w5) := HP.out.next HD.out hn.2 HRr.out HLE.out HXz.out HUz.out HTz.out HGz.out (by omega) HFz.out hvt.out (by decide) hown5 hgrow5
                  clear hown5 hgrow5 HP HTz HGz HUz HFz
                  go_wp2_with fail
                  go_roundw
                  case rel => exact ⟨q + 1, _, _, _, by omega, by go_num, HPn.out⟩
                  case measure => simp [intOf]; omega
              · have HDoE : doS n S (1, f, cn) = ⟨2, 0, S, []⟩ := by unfold doS takeR; rw [if_pos rfl, if_neg (by simp only; omega)]
                have HRr : Hid (doS n S (1, f, cn) = ⟨2, 0, S, []⟩) := HDoE
                obtain ⟨lf, hlf⟩ : ∃ lf, cntS (S) 0 n = lf := ⟨_, rfl⟩
                have hcnt : ∀ W, Uns W w.heap.size 3 n (S) → Calls Try.prog 36 #[.slice (some ⟨w.heap.size, 0, none⟩) n n, .int .i64 0] W fun e w' => e = .returned (.int .i64 lf) ∧ w' = W := fun W hW => hlf ▸ rcount_any w.heap.size n (S) 0 W hn.2 hW
                have HLE : Hid (cntS (S) 0 n = lf) := hlf
                clear hlf HDoE
                go_wp2_with fail
                refine (hcnt _ ((((Ext.refl wo).alloc #[.int .i64 1, .int .i64 f, .int .i64 cn] 50).alloc #[.int .i64 2, .int .i64 0, .int .i64 0] 52).rowIs HP.out.uns)).mono ?_
                rintro e wz ⟨rfl, hwz⟩
                have HFz : Hid (wz.heap[wo.heap.size + 1]? = some (.cells #[.int .i64 2, .int .i64 0, .int .i64 0] 52 (0, 0))) := by
                  show _ = _
                  rw [hwz]
                  exact (by have e := heap_alloc_new (wo.alloc (.cells #[.int .i64 1, .int .i64 f, .int .i64 cn] 50)) (.cells #[.int .i64 2, .int .i64 0, .int .i64 0] 52); rw [World.size_alloc] at e; exact e)
                have HUz : Hid (Uns wz w.heap.size 3 n (S)) := by
                  show Uns _ _ _ _ _
                  rw [hwz]
                  exact (((Ext.refl wo).alloc #[.int .i64 1, .int .i64 f, .int .i64 cn] 50).alloc #[.int .i64 2, .int .i64 0, .int .i64 0] 52).rowIs HP.out.uns
                have HTz : Hid (wz.ownsRow w.heap.size 52 3 u8 q (fl3 (fndV F))) := by
                  show World.ownsRow _ _ _ _ _ _ _
                  rw [hwz]
                  exact own_ext HP.out.told (((Ext.refl wo).alloc #[.int .i64 1, .int .i64 f, .int .i64 cn] 50).alloc #[.int .i64 2, .int .i64 0, .int .i64 0] 52)
                have HGz : Hid (wz.ownsRow w.heap.size 72 3 ul (R ++ []).length (fl3 (recV (R ++ [])))) := by
                  show World.ownsRow _ _ _ _ _ _ _
                  rw [hwz]
                  exact by rw [List.append_nil]; exact own_ext HP.out.log (((Ext.refl wo).alloc #[.int .i64 1, .int .i64 f, .int .i64 cn] 50).alloc #[.int .i64 2, .int .i64 0, .int .i64 0] 52)
                have HXz : Hid (Ext w wz) := by
                  show Ext _ _
                  rw [hwz]
                  exact HP.out.ext.trans (((Ext.refl wo).alloc #[.int .i64 1, .int .i64 f, .int .i64 cn] 50).alloc #[.int .i64 2, .int .i64 0, .int .i64 0] 52)
                obtain ⟨y0, y1, y2, y3⟩ := row3_cells HFz.out
                have y4 := y3 2
                clear hwz hcnt y3
                go_wp2_with (first | (at_builtin; refine append_tri _ rfl (.tmp 172) (.tmp 174) 33 rfl w.heap.size 52 (.agg #[.int .i64 0, .int .i64 0, .int .i64 0]) 24 Try.underlying33 infoFn3 rfl u8 q (fndV F) rfl (own_ext (own_wroS HTz.out ((Wro.refl (· = wo.heap.size + 1) wz).setCell (p := ⟨wo.heap.size + 1, 2, none⟩) rfl _) hvt.out) ((Ext.refl _).alloc _ _)) (some ⟨wz.heap.size, 0, none⟩) 1 1 [(IV (2), IV (0), IV lf)] rfl rfl ?_ (fnd_one _ _ _) (by omega) (by omega) (by omega) ?_ ?_) | go_in)
                · first | exact tri_new _ _ rfl _ _ _ _ | exact tri_new _ _ (by simp [World.setCell]) _ _ _ _
                · have h5 := HXz.out.size
                  simp [World.setCell]
                  omega
                intro v5 w5 hown5 hgrow5
                have HPn : Hid (PlI 3 w w.heap.size n D (q + 1) (S) (F ++ [(2, 0, lf)]) (R ++ []) v5 ul w5) := HP.out.next HD.out hn.2 HRr.out HLE.out HXz.out HUz.out HTz.out HGz.out (by omega) HFz.out hvt.out (by decide) hown5 hgrow5
                clear hown5 hgrow5 HP HTz HGz HUz HFz
                go_wp2_with fail
                go_roundw
                case rel => exact ⟨q + 1, _, _, _, by omega, by go_num, HPn.out⟩
                case measure => simp [intOf]; omega
            · have d1 : (k == 1) = false := by simp [k1]
              by_cases k2 : k = 2
              · clear k1
                subst k2
                by_cases g0 : 0 ≤ f
                · skip
                  by_cases g1 : f < (n : Int)
                  · skip
                    by_cases g2 : 1 ≤ cn
                    · skip
                      by_cases g3 : cn ≤ (n : Int) - f
                      · skip
                        obtain ⟨F', rfl⟩ : ∃ F' : Nat, f = F' := ⟨f.toNat, by omega⟩
                        obtain ⟨C, rfl⟩ : ∃ C : Nat, cn = C := ⟨cn.toNat, by omega⟩
                        have e1 : ((F' : Int) + (C : Int)).toNat = F' + C := by omega
                        have xl := ((Ext.refl wo).alloc #[.int .i64 2, .int .i64 (F' : Int), .int .i64 (C : Int)] 50).alloc #[.int .i64 0, .int .i64 0, .int .i64 0] 52
                        have hbf := heap_alloc_new (wo.alloc (.cells #[.int .i64 2, .int .i64 (F' : Int), .int .i64 (C : Int)] 50)) (.cells #[.int .i64 0, .int .i64 0, .int .i64 0] 52)
                        rw [World.size_alloc] at hbf
                        have HBF : Hid _ := hbf
                        have HIs := ris_any w.heap.size n S F' (F' + C) 1 _ hn.2 (by omega) (by omega) (xl.rowIs HP.out.uns)
                        rw [show ((F' + C : Nat) : Int) = (F' : Int) + (C : Int) by omega] at HIs
                        have HPt := rput_any w.heap.size n S F' (F' + C) 2 _ hn.2 (by omega) (by omega) (xl.rowIs HP.out.uns)
                        rw [show ((F' + C : Nat) : Int) = (F' : Int) + (C : Int) by omega] at HPt
                        clear hbf
                        cases ha : allS S F' (F' + C) 1 with
                        | false =>
                          rw [ha] at HIs
                          have HDoE : doS n S (2, (F' : Int), (C : Int)) = ⟨6, 0, S, []⟩ := by
                            unfold doS giveR
                            rw [if_neg (by simp), if_pos rfl, if_pos ⟨g0, g2, g3⟩]
                            simp only [Int.toNat_natCast, e1, ha]
                            rfl
                          clear ha e1
                          have HRr : Hid (doS n S (2, (F' : Int), (C : Int)) = ⟨6, 0, S, []⟩) := HDoE
                          obtain ⟨lf, hlf⟩ : ∃ lf, cntS (S) 0 n = lf := ⟨_, rfl⟩
                          have hcnt : ∀ W, Uns W w.heap.size 3 n (S) → Calls Try.prog 36 #[.slice (some ⟨w.heap.size, 0, none⟩) n n, .int .i64 0] W fun e w' => e = .returned (.int .i64 lf) ∧ w' = W := fun W hW => hlf ▸ rcount_any w.heap.size n (S) 0 W hn.2 hW
                          have HLE : Hid (cntS (S) 0 n = lf) := hlf
                          clear hlf HDoE
                          go_wp2_with fail
                          refine HIs.mono ?_
                          rintro e wi ⟨rfl, hwi⟩
                          subst hwi
                          go_wp2_with fail
                          refine (hcnt _ ((((Ext.refl wo).alloc #[.int .i64 2, .int .i64 (F' : Int), .int .i64 (C : Int)] 50).alloc #[.int .i64 6, .int .i64 0, .int .i64 0] 52).rowIs HP.out.uns)).mono ?_
                          rintro e wz ⟨rfl, hwz⟩
                          have HFz : Hid (wz.heap[wo.heap.size + 1]? = some (.cells #[.int .i64 6, .int .i64 0, .int .i64 0] 52 (0, 0))) := by
                            show _ = _
                            rw [hwz]
                            exact (by have e := heap_alloc_new (wo.alloc (.cells #[.int .i64 2, .int .i64 (F' : Int), .int .i64 (C : Int)] 50)) (.cells #[.int .i64 6, .int .i64 0, .int .i64 0] 52); rw [World.size_alloc] at e; exact e)
                          have HUz : Hid (Uns wz w.heap.size 3 n (S)) := by
                            show Uns _ _ _ _ _
                            rw [hwz]
                            exact (((Ext.refl wo).alloc #[.int .i64 2, .int .i64 (F' : Int), .int .i64 (C : Int)] 50).alloc #[.int .i64 6, .int .i64 0, .int .i64 0] 52).rowIs HP.out.uns
                          have HTz : Hid (wz.ownsRow w.heap.size 52 3 u8 q (fl3 (fndV F))) := by
                            show World.ownsRow _ _ _ _ _ _ _
                            rw [hwz]
                            exact own_ext HP.out.told (((Ext.refl wo).alloc #[.int .i64 2, .int .i64 (F' : Int), .int .i64 (C : Int)] 50).alloc #[.int .i64 6, .int .i64 0, .int .i64 0] 52)
                          have HGz : Hid (wz.ownsRow w.heap.size 72 3 ul (R ++ []).length (fl3 (recV (R ++ [])))) := by
                            show World.ownsRow _ _ _ _ _ _ _
                            rw [hwz]
                            exact by rw [List.append_nil]; exact own_ext HP.out.log (((Ext.refl wo).alloc #[.int .i64 2, .int .i64 (F' : Int), .int .i64 (C : Int)] 50).alloc #[.int .i64 6, .int .i64 0, .int .i64 0] 52)
                          have HXz : Hid (Ext w wz) := by
                            show Ext _ _
                            rw [hwz]
                            exact HP.out.ext.trans (((Ext.refl wo).alloc #[.int .i64 2, .int .i64 (F' : Int), .int .i64 (C : Int)] 50).alloc #[.int .i64 6, .int .i64 0, .int .i64 0] 52)
                          obtain ⟨y0, y1, y2, y3⟩ := row3_cells HFz.out
                          have y4 := y3 2
                          clear hwz hcnt y3
                          go_wp2_with (first | (at_builtin; refine append_tri _ rfl (.tmp 172) (.tmp 174) 33 rfl w.heap.size 52 (.agg #[.int .i64 0, .int .i64 0, .int .i64 0]) 24 Try.underlying33 infoFn3 rfl u8 q (fndV F) rfl (own_ext (own_wroS HTz.out ((Wro.refl (· = wo.heap.size + 1) wz).setCell (p := ⟨wo.heap.size + 1, 2, none⟩) rfl _) hvt.out) ((Ext.refl _).alloc _ _)) (some ⟨wz.heap.size, 0, none⟩) 1 1 [(IV (6), IV (0), IV lf)] rfl rfl ?_ (fnd_one _ _ _) (by omega) (by omega) (by omega) ?_ ?_) | go_in)
                          · first | exact tri_new _ _ rfl _ _ _ _ | exact tri_new _ _ (by simp [World.setCell]) _ _ _ _
                          · have h5 := HXz.out.size
                            simp [World.setCell]
                            omega
                          intro v5 w5 hown5 hgrow5
                          have HPn : Hid (PlI 3 w w.heap.size n D (q + 1) (S) (F ++ [(6, 0, lf)]) (R ++ []) v5 ul w5) := HP.out.next HD.out hn.2 HRr.out HLE.out HXz.out HUz.out HTz.out HGz.out (by omega) HFz.out hvt.out (by decide) hown5 hgrow5
                          clear hown5 hgrow5 HP HTz HGz HUz HFz
                          go_wp2_with fail
                          go_roundw
                          case rel => exact ⟨q + 1, _, _, _, by omega, by go_num, HPn.out⟩
                          case measure => simp [intOf]; omega
                        | true =>
                          rw [ha] at HIs
                          have HDoE : doS n S (2, (F' : Int), (C : Int)) = ⟨0, 0, putS S F' (F' + C) 2, []⟩ := by
                            unfold doS giveR
                            rw [if_neg (by simp), if_pos rfl, if_pos ⟨g0, g2, g3⟩]
                            simp only [Int.toNat_natCast, e1, ha]
                            rfl
                          clear ha e1
                          have HXL : Hid _ := xl
                          clear xl
                          have HRr : Hid (doS n S (2, (F' : Int), (C : Int)) = ⟨0, 0, putS S F' (F' + C) 2, []⟩) := HDoE
                          obtain ⟨lf, hlf⟩ : ∃ lf, cntS (putS S F' (F' + C) 2) 0 n = lf := ⟨_, rfl⟩
                          have hcnt : ∀ W, Uns W w.heap.size 3 n (putS S F' (F' + C) 2) → Calls Try.prog 36 #[.slice (some ⟨w.heap.size, 0, none⟩) n n, .int .i64 0] W fun e w' => e = .returned (.int .i64 lf) ∧ w' = W := fun W hW => hlf ▸ rcount_any w.heap.size n (putS S F' (F' + C) 2) 0 W hn.2 hW
                          have HLE : Hid (cntS (putS S F' (F' + C) 2) 0 n = lf) := hlf
                          clear hlf HDoE
                          go_wp2_with fail
                          refine HIs.mono ?_
                          rintro e wi ⟨rfl, hwi⟩
                          subst hwi
                          go_wp2_with fail
                          refine HPt.mono ?_
                          rintro e w5 ⟨rfl, hu5, hw5⟩
                          have HU5 : Hid (Uns w5 w.heap.size 3 n (putS S F' (F' + C) 2)) := hu5
                          have HF5 : Hid (w5.heap[wo.heap.size + 1]? = some (.cells #[.int .i64 0, .int .i64 0, .int .i64 0] 52 (0, 0))) := hw5.blk HBF.out (by show ¬ wo.heap.size + 1 = w.heap.size; omega)
                          have HW5 : Hid (Wro (T0 w.heap.size wo.heap.size) wo w5) := (Wro.ext HXL.out).trans (hw5.mono fun _ q => Or.inl q)
                          clear hu5 hw5 HIs HPt
                          go_wp2_with fail
                          refine (hcnt _ (HU5.out)).mono ?_
                          rintro e wz ⟨rfl, hwz⟩
                          have HFz : Hid (wz.heap[wo.heap.size + 1]? = some (.cells #[.int .i64 0, .int .i64 0, .int .i64 0] 52 (0, 0))) := by
                            show _ = _
                            rw [hwz]
                            exact HF5.out
                          have HUz : Hid (Uns wz w.heap.size 3 n (putS S F' (F' + C) 2)) := by
                            show Uns _ _ _ _ _
                            rw [hwz]
                            exact HU5.out
                          have HTz : Hid (wz.ownsRow w.heap.size 52 3 u8 q (fl3 (fndV F))) := by
                            show World.ownsRow _ _ _ _ _ _ _
                            rw [hwz]
                            exact keepT HP.out.uns HP.out.told (by decide) HW5.out
                          have HGz : Hid (wz.ownsRow w.heap.size 72 3 ul (R ++ []).length (fl3 (recV (R ++ [])))) := by
                            show World.ownsRow _ _ _ _ _ _ _
                            rw [hwz]
                            exact by rw [List.append_nil]; exact keepT HP.out.uns HP.out.log (by decide) HW5.out
                          have HXz : Hid (Ext w wz) := by
                            show Ext _ _
                            rw [hwz]
                            exact extT HP.out.ext (Nat.le_refl _) HW5.out
                          obtain ⟨y0, y1, y2, y3⟩ := row3_cells HFz.out
                          have y4 := y3 2
                          clear hwz hcnt y3
                          go_wp2_with (first | (at_builtin; refine append_tri _ rfl (.tmp 172) (.tmp 174) 33 rfl w.heap.size 52 (.agg #[.int .i64 0, .int .i64 0, .int .i64 0]) 24 Try.underlying33 infoFn3 rfl u8 q (fndV F) rfl (own_ext (own_wroS HTz.out ((Wro.refl (· = wo.heap.size + 1) wz).setCell (p := ⟨wo.heap.size + 1, 2, none⟩) rfl _) hvt.out) ((Ext.refl _).alloc _ _)) (some ⟨wz.heap.size, 0, none⟩) 1 1 [(IV (0), IV (0), IV lf)] rfl rfl ?_ (fnd_one _ _ _) (by omega) (by omega) (by omega) ?_ ?_) | go_in)
                          · first | exact tri_new _ _ rfl _ _ _ _ | exact tri_new _ _ (by simp [World.setCell]) _ _ _ _
                          · have h5 := HXz.out.size
                            simp [World.setCell]
                            omega
                          intro v5 w5 hown5 hgrow5
                          have HPn : Hid (PlI 3 w w.heap.size n D (q + 1) (putS S F' (F' + C) 2) (F ++ [(0, 0, lf)]) (R ++ []) v5 ul w5) := HP.out.next HD.out hn.2 HRr.out HLE.out HXz.out HUz.out HTz.out HGz.out (by omega) HFz.out hvt.out (by decide) hown5 hgrow5
                          clear hown5 hgrow5 HP HTz HGz HUz HFz
                          go_wp2_with fail
                          go_roundw
                          case rel => exact ⟨q + 1, _, _, _, by omega, by go_num, HPn.out⟩
                          case measure => simp [intOf]; omega
                      · have HDoE : doS n S (2, f, cn) = ⟨2, 0, S, []⟩ := by unfold doS giveR; rw [if_neg (by simp), if_pos rfl, if_neg (by simp only; omega)]
                        have HRr : Hid (doS n S (2, f, cn) = ⟨2, 0, S, []⟩) := HDoE
                        obtain ⟨lf, hlf⟩ : ∃ lf, cntS (S) 0 n = lf := ⟨_, rfl⟩
                        have hcnt : ∀ W, Uns W w.heap.size 3 n (S) → Calls Try.prog 36 #[.slice (some ⟨w.heap.size, 0, none⟩) n n, .int .i64 0] W fun e w' => e = .returned (.int .i64 lf) ∧ w' = W := fun W hW => hlf ▸ rcount_any w.heap.size n (S) 0 W hn.2 hW
                        have HLE : Hid (cntS (S) 0 n = lf) := hlf
                        clear hlf HDoE
                        go_wp2_with fail
                        refine (hcnt _ ((((Ext.refl wo).alloc #[.int .i64 2, .int .i64 f, .int .i64 cn] 50).alloc #[.int .i64 2, .int .i64 0, .int .i64 0] 52).rowIs HP.out.uns)).mono ?_
                        rintro e wz ⟨rfl, hwz⟩
                        have HFz : Hid (wz.heap[wo.heap.size + 1]? = some (.cells #[.int .i64 2, .int .i64 0, .int .i64 0] 52 (0, 0))) := by
                          show _ = _
                          rw [hwz]
                          exact (by have e := heap_alloc_new (wo.alloc (.cells #[.int .i64 2, .int .i64 f, .int .i64 cn] 50)) (.cells #[.int .i64 2, .int .i64 0, .int .i64 0] 52); rw [World.size_alloc] at e; exact e)
                        have HUz : Hid (Uns wz w.heap.size 3 n (S)) := by
                          show Uns _ _ _ _ _
                          rw [hwz]
                          exact (((Ext.refl wo).alloc #[.int .i64 2, .int .i64 f, .int .i64 cn] 50).alloc #[.int .i64 2, .int .i64 0, .int .i64 0] 52).rowIs HP.out.uns
                        have HTz : Hid (wz.ownsRow w.heap.size 52 3 u8 q (fl3 (fndV F))) := by
                          show World.ownsRow _ _ _ _ _ _ _
                          rw [hwz]
                          exact own_ext HP.out.told (((Ext.refl wo).alloc #[.int .i64 2, .int .i64 f, .int .i64 cn] 50).alloc #[.int .i64 2, .int .i64 0, .int .i64 0] 52)
                        have HGz : Hid (wz.ownsRow w.heap.size 72 3 ul (R ++ []).length (fl3 (recV (R ++ [])))) := by
                          show World.ownsRow _ _ _ _ _ _ _
                          rw [hwz]
                          exact by rw [List.append_nil]; exact own_ext HP.out.log (((Ext.refl wo).alloc #[.int .i64 2, .int .i64 f, .int .i64 cn] 50).alloc #[.int .i64 2, .int .i64 0, .int .i64 0] 52)
                        have HXz : Hid (Ext w wz) := by
                          show Ext _ _
                          rw [hwz]
                          exact HP.out.ext.trans (((Ext.refl wo).alloc #[.int .i64 2, .int .i64 f, .int .i64 cn] 50).alloc #[.int .i64 2, .int .i64 0, .int .i64 0] 52)
                        obtain ⟨y0, y1, y2, y3⟩ := row3_cells HFz.out
                        have y4 := y3 2
                        clear hwz hcnt y3
                        go_wp2_with (first | (at_builtin; refine append_tri _ rfl (.tmp 172) (.tmp 174) 33 rfl w.heap.size 52 (.agg #[.int .i64 0, .int .i64 0, .int .i64 0]) 24 Try.underlying33 infoFn3 rfl u8 q (fndV F) rfl (own_ext (own_wroS HTz.out ((Wro.refl (· = wo.heap.size + 1) wz).setCell (p := ⟨wo.heap.size + 1, 2, none⟩) rfl _) hvt.out) ((Ext.refl _).alloc _ _)) (some ⟨wz.heap.size, 0, none⟩) 1 1 [(IV (2), IV (0), IV lf)] rfl rfl ?_ (fnd_one _ _ _) (by omega) (by omega) (by omega) ?_ ?_) | go_in)
                        · first | exact tri_new _ _ rfl _ _ _ _ | exact tri_new _ _ (by simp [World.setCell]) _ _ _ _
                        · have h5 := HXz.out.size
                          simp [World.setCell]
                          omega
                        intro v5 w5 hown5 hgrow5
                        have HPn : Hid (PlI 3 w w.heap.size n D (q + 1) (S) (F ++ [(2, 0, lf)]) (R ++ []) v5 ul w5) := HP.out.next HD.out hn.2 HRr.out HLE.out HXz.out HUz.out HTz.out HGz.out (by omega) HFz.out hvt.out (by decide) hown5 hgrow5
                        clear hown5 hgrow5 HP HTz HGz HUz HFz
                        go_wp2_with fail
                        go_roundw
                        case rel => exact ⟨q + 1, _, _, _, by omega, by go_num, HPn.out⟩
                        case measure => simp [intOf]; omega
                    · have HDoE : doS n S (2, f, cn) = ⟨2, 0, S, []⟩ := by unfold doS giveR; rw [if_neg (by simp), if_pos rfl, if_neg (by simp only; omega)]
                      have HRr : Hid (doS n S (2, f, cn) = ⟨2, 0, S, []⟩) := HDoE
                      obtain ⟨lf, hlf⟩ : ∃ lf, cntS (S) 0 n = lf := ⟨_, rfl⟩
                      have hcnt : ∀ W, Uns W w.heap.size 3 n (S) → Calls Try.prog 36 #[.slice (some ⟨w.heap.size, 0, none⟩) n n, .int .i64 0] W fun e w' => e = .returned (.int .i64 lf) ∧ w' = W := fun W hW => hlf ▸ rcount_any w.heap.size n (S) 0 W hn.2 hW
                      have HLE : Hid (cntS (S) 0 n = lf) := hlf
                      clear hlf HDoE
                      go_wp2_with fail
                      refine (hcnt _ ((((Ext.refl wo).alloc #[.int .i64 2, .int .i64 f, .int .i64 cn] 50).alloc #[.int .i64 2, .int .i64 0, .int .i64 0] 52).rowIs HP.out.uns)).mono ?_
                      rintro e wz ⟨rfl, hwz⟩
                      have HFz : Hid (wz.heap[wo.heap.size + 1]? = some (.cells #[.int .i64 2, .int .i64 0, .int .i64 0] 52 (0, 0))) := by
                        show _ = _
                        rw [hwz]
                        exact (by have e := heap_alloc_new (wo.alloc (.cells #[.int .i64 2, .int .i64 f, .int .i64 cn] 50)) (.cells #[.int .i64 2, .int .i64 0, .int .i64 0] 52); rw [World.size_alloc] at e; exact e)
                      have HUz : Hid (Uns wz w.heap.size 3 n (S)) := by
                        show Uns _ _ _ _ _
                        rw [hwz]
                        exact (((Ext.refl wo).alloc #[.int .i64 2, .int .i64 f, .int .i64 cn] 50).alloc #[.int .i64 2, .int .i64 0, .int .i64 0] 52).rowIs HP.out.uns
                      have HTz : Hid (wz.ownsRow w.heap.size 52 3 u8 q (fl3 (fndV F))) := by
                        show World.ownsRow _ _ _ _ _ _ _
                        rw [hwz]
                        exact own_ext HP.out.told (((Ext.refl wo).alloc #[.int .i64 2, .int .i64 f, .int .i64 cn] 50).alloc #[.int .i64 2, .int .i64 0, .int .i64 0] 52)
                      have HGz : Hid (wz.ownsRow w.heap.size 72 3 ul (R ++ []).length (fl3 (recV (R ++ [])))) := by
                        show World.ownsRow _ _ _ _ _ _ _
                        rw [hwz]
                        exact by rw [List.append_nil]; exact own_ext HP.out.log (((Ext.refl wo).alloc #[.int .i64 2, .int .i64 f, .int .i64 cn] 50).alloc #[.int .i64 2, .int .i64 0, .int .i64 0] 52)
                      have HXz : Hid (Ext w wz) := by
                        show Ext _ _
                        rw [hwz]
                        exact HP.out.ext.trans (((Ext.refl wo).alloc #[.int .i64 2, .int .i64 f, .int .i64 cn] 50).alloc #[.int .i64 2, .int .i64 0, .int .i64 0] 52)
                      obtain ⟨y0, y1, y2, y3⟩ := row3_cells HFz.out
                      have y4 := y3 2
                      clear hwz hcnt y3
                      go_wp2_with (first | (at_builtin; refine append_tri _ rfl (.tmp 172) (.tmp 174) 33 rfl w.heap.size 52 (.agg #[.int .i64 0, .int .i64 0, .int .i64 0]) 24 Try.underlying33 infoFn3 rfl u8 q (fndV F) rfl (own_ext (own_wroS HTz.out ((Wro.refl (· = wo.heap.size + 1) wz).setCell (p := ⟨wo.heap.size + 1, 2, none⟩) rfl _) hvt.out) ((Ext.refl _).alloc _ _)) (some ⟨wz.heap.size, 0, none⟩) 1 1 [(IV (2), IV (0), IV lf)] rfl rfl ?_ (fnd_one _ _ _) (by omega) (by omega) (by omega) ?_ ?_) | go_in)
                      · first | exact tri_new _ _ rfl _ _ _ _ | exact tri_new _ _ (by simp [World.setCell]) _ _ _ _
                      · have h5 := HXz.out.size
                        simp [World.setCell]
                        omega
                      intro v5 w5 hown5 hgrow5
                      have HPn : Hid (PlI 3 w w.heap.size n D (q + 1) (S) (F ++ [(2, 0, lf)]) (R ++ []) v5 ul w5) := HP.out.next HD.out hn.2 HRr.out HLE.out HXz.out HUz.out HTz.out HGz.out (by omega) HFz.out hvt.out (by decide) hown5 hgrow5
                      clear hown5 hgrow5 HP HTz HGz HUz HFz
                      go_wp2_with fail
                      go_roundw
                      case rel => exact ⟨q + 1, _, _, _, by omega, by go_num, HPn.out⟩
                      case measure => simp [intOf]; omega
                  · have HDoE : doS n S (2, f, cn) = ⟨2, 0, S, []⟩ := by unfold doS giveR; rw [if_neg (by simp), if_pos rfl, if_neg (by simp only; omega)]
                    have HRr : Hid (doS n S (2, f, cn) = ⟨2, 0, S, []⟩) := HDoE
                    obtain ⟨lf, hlf⟩ : ∃ lf, cntS (S) 0 n = lf := ⟨_, rfl⟩
                    have hcnt : ∀ W, Uns W w.heap.size 3 n (S) → Calls Try.prog 36 #[.slice (some ⟨w.heap.size, 0, none⟩) n n, .int .i64 0] W fun e w' => e = .returned (.int .i64 lf) ∧ w' = W := fun W hW => hlf ▸ rcount_any w.heap.size n (S) 0 W hn.2 hW
                    have HLE : Hid (cntS (S) 0 n = lf) := hlf
                    clear hlf HDoE
                    go_wp2_with fail
                    refine (hcnt _ ((((Ext.refl wo).alloc #[.int .i64 2, .int .i64 f, .int .i64 cn] 50).alloc #[.int .i64 2, .int .i64 0, .int .i64 0] 52).rowIs HP.out.uns)).mono ?_
                    rintro e wz ⟨rfl, hwz⟩
                    have HFz : Hid (wz.heap[wo.heap.size + 1]? = some (.cells #[.int .i64 2, .int .i64 0, .int .i64 0] 52 (0, 0))) := by
                      show _ = _
                      rw [hwz]
                      exact (by have e := heap_alloc_new (wo.alloc (.cells #[.int .i64 2, .int .i64 f, .int .i64 cn] 50)) (.cells #[.int .i64 2, .int .i64 0, .int .i64 0] 52); rw [World.size_alloc] at e; exact e)
                    have HUz : Hid (Uns wz w.heap.size 3 n (S)) := by
                      show Uns _ _ _ _ _
                      rw [hwz]
                      exact (((Ext.refl wo).alloc #[.int .i64 2, .int .i64 f, .int .i64 cn] 50).alloc #[.int .i64 2, .int .i64 0, .int .i64 0] 52).rowIs HP.out.uns
                    have HTz : Hid (wz.ownsRow w.heap.size 52 3 u8 q (fl3 (fndV F))) := by
                      show World.ownsRow _ _ _ _ _ _ _
                      rw [hwz]
                      exact own_ext HP.out.told (((Ext.refl wo).alloc #[.int .i64 2, .int .i64 f, .int .i64 cn] 50).alloc #[.int .i64 2, .int .i64 0, .int .i64 0] 52)
                    have HGz : Hid (wz.ownsRow w.heap.size 72 3 ul (R ++ []).length (fl3 (recV (R ++ [])))) := by
                      show World.ownsRow _ _ _ _ _ _ _
                      rw [hwz]
                      exact by rw [List.append_nil]; exact own_ext HP.out.log (((Ext.refl wo).alloc #[.int .i64 2, .int .i64 f, .int .i64 cn] 50).alloc #[.int .i64 2, .int .i64 0, .int .i64 0] 52)
                    have HXz : Hid (Ext w wz) := by
                      show Ext _ _
                      rw [hwz]
                      exact HP.out.ext.trans (((Ext.refl wo).alloc #[.int .i64 2, .int .i64 f, .int .i64 cn] 50).alloc #[.int .i64 2, .int .i64 0, .int .i64 0] 52)
                    obtain ⟨y0, y1, y2, y3⟩ := row3_cells HFz.out
                    have y4 := y3 2
                    clear hwz hcnt y3
                    go_wp2_with (first | (at_builtin; refine append_tri _ rfl (.tmp 172) (.tmp 174) 33 rfl w.heap.size 52 (.agg #[.int .i64 0, .int .i64 0, .int .i64 0]) 24 Try.underlying33 infoFn3 rfl u8 q (fndV F) rfl (own_ext (own_wroS HTz.out ((Wro.refl (· = wo.heap.size + 1) wz).setCell (p := ⟨wo.heap.size + 1, 2, none⟩) rfl _) hvt.out) ((Ext.refl _).alloc _ _)) (some ⟨wz.heap.size, 0, none⟩) 1 1 [(IV (2), IV (0), IV lf)] rfl rfl ?_ (fnd_one _ _ _) (by omega) (by omega) (by omega) ?_ ?_) | go_in)
                    · first | exact tri_new _ _ rfl _ _ _ _ | exact tri_new _ _ (by simp [World.setCell]) _ _ _ _
                    · have h5 := HXz.out.size
                      simp [World.setCell]
                      omega
                    intro v5 w5 hown5 hgrow5
                    have HPn : Hid (PlI 3 w w.heap.size n D (q + 1) (S) (F ++ [(2, 0, lf)]) (R ++ []) v5 ul w5) := HP.out.next HD.out hn.2 HRr.out HLE.out HXz.out HUz.out HTz.out HGz.out (by omega) HFz.out hvt.out (by decide) hown5 hgrow5
                    clear hown5 hgrow5 HP HTz HGz HUz HFz
                    go_wp2_with fail
                    go_roundw
                    case rel => exact ⟨q + 1, _, _, _, by omega, by go_num, HPn.out⟩
                    case measure => simp [intOf]; omega
                · have HDoE : doS n S (2, f, cn) = ⟨2, 0, S, []⟩ := by unfold doS giveR; rw [if_neg (by simp), if_pos rfl, if_neg (by simp only; omega)]
                  have HRr : Hid (doS n S (2, f, cn) = ⟨2, 0, S, []⟩) := HDoE
                  obtain ⟨lf, hlf⟩ : ∃ lf, cntS (S) 0 n = lf := ⟨_, rfl⟩
                  have hcnt : ∀ W, Uns W w.heap.size 3 n (S) → Calls Try.prog 36 #[.slice (some ⟨w.heap.size, 0, none⟩) n n, .int .i64 0] W fun e w' => e = .returned (.int .i64 lf) ∧ w' = W := fun W hW => hlf ▸ rcount_any w.heap.size n (S) 0 W hn.2 hW
                  have HLE : Hid (cntS (S) 0 n = lf) := hlf
                  clear hlf HDoE
                  go_wp2_with fail
                  refine (hcnt _ ((((Ext.refl wo).alloc #[.int .i64 2, .int .i64 f, .int .i64 cn] 50).alloc #[.int .i64 2, .int .i64 0, .int .i64 0] 52).rowIs HP.out.uns)).mono ?_
                  rintro e wz ⟨rfl, hwz⟩
                  have HFz : Hid (wz.heap[wo.heap.size + 1]? = some (.cells #[.int .i64 2, .int .i64 0, .int .i64 0] 52 (0, 0))) := by
                    show _ = _
                    rw [hwz]
                    exact (by have e := heap_alloc_new (wo.alloc (.cells #[.int .i64 2, .int .i64 f, .int .i64 cn] 50)) (.cells #[.int .i64 2, .int .i64 0, .int .i64 0] 52); rw [World.size_alloc] at e; exact e)
                  have HUz : Hid (Uns wz w.heap.size 3 n (S)) := by
                    show Uns _ _ _ _ _
                    rw [hwz]
                    exact (((Ext.refl wo).alloc #[.int .i64 2, .int .i64 f, .int .i64 cn] 50).alloc #[.int .i64 2, .int .i64 0, .int .i64 0] 52).rowIs HP.out.uns
                  have HTz : Hid (wz.ownsRow w.heap.size 52 3 u8 q (fl3 (fndV F))) := by
                    show World.ownsRow _ _ _ _ _ _ _
                    rw [hwz]
                    exact own_ext HP.out.told (((Ext.refl wo).alloc #[.int .i64 2, .int .i64 f, .int .i64 cn] 50).alloc #[.int .i64 2, .int .i64 0, .int .i64 0] 52)
                  have HGz : Hid (wz.ownsRow w.heap.size 72 3 ul (R ++ []).length (fl3 (recV (R ++ [])))) := by
                    show World.ownsRow _ _ _ _ _ _ _
                    rw [hwz]
                    exact by rw [List.append_nil]; exact own_ext HP.out.log (((Ext.refl wo).alloc #[.int .i64 2, .int .i64 f, .int .i64 cn] 50).alloc #[.int .i64 2, .int .i64 0, .int .i64 0] 52)
                  have HXz : Hid (Ext w wz) := by
                    show Ext _ _
                    rw [hwz]
                    exact HP.out.ext.trans (((Ext.refl wo).alloc #[.int .i64 2, .int .i64 f, .int .i64 cn] 50).alloc #[.int .i64 2, .int .i64 0, .int .i64 0] 52)
                  obtain ⟨y0, y1, y2, y3⟩ := row3_cells HFz.out
                  have y4 := y3 2
                  clear hwz hcnt y3
                  go_wp2_with (first | (at_builtin; refine append_tri _ rfl (.tmp 172) (.tmp 174) 33 rfl w.heap.size 52 (.agg #[.int .i64 0, .int .i64 0, .int .i64 0]) 24 Try.underlying33 infoFn3 rfl u8 q (fndV F) rfl (own_ext (own_wroS HTz.out ((Wro.refl (· = wo.heap.size + 1) wz).setCell (p := ⟨wo.heap.size + 1, 2, none⟩) rfl _) hvt.out) ((Ext.refl _).alloc _ _)) (some ⟨wz.heap.size, 0, none⟩) 1 1 [(IV (2), IV (0), IV lf)] rfl rfl ?_ (fnd_one _ _ _) (by omega) (by omega) (by omega) ?_ ?_) | go_in)
                  · first | exact tri_new _ _ rfl _ _ _ _ | exact tri_new _ _ (by simp [World.setCell]) _ _ _ _
                  · have h5 := HXz.out.size
                    simp [World.setCell]
                    omega
                  intro v5 w5 hown5 hgrow5
                  have HPn : Hid (PlI 3 w w.heap.size n D (q + 1) (S) (F ++ [(2, 0, lf)]) (R ++ []) v5 ul w5) := HP.out.next HD.out hn.2 HRr.out HLE.out HXz.out HUz.out HTz.out HGz.out (by omega) HFz.out hvt.out (by decide) hown5 hgrow5
                  clear hown5 hgrow5 HP HTz HGz HUz HFz
                  go_wp2_with fail
                  go_roundw
                  case rel => exact ⟨q + 1, _, _, _, by omega, by go_num, HPn.out⟩
                  case measure => simp [intOf]; omega
              · have d2 : (k == 2) = false := by simp [k2]
                by_cases k3 : k = 3
                · subst k3
                  clear k1 k2
                  have xl := ((Ext.refl wo).alloc #[.int .i64 3, .int .i64 f, .int .i64 cn] 50).alloc #[.int .i64 0, .int .i64 0, .int .i64 0] 52
                  have hbf := heap_alloc_new (wo.alloc (.cells #[.int .i64 3, .int .i64 f, .int .i64 cn] 50)) (.cells #[.int .i64 0, .int .i64 0, .int .i64 0] 52)
                  rw [World.size_alloc] at hbf
                  have HSt := stretches_any w.heap.size n S 3 _ hn.2 (xl.rowIs HP.out.uns)
                  have HXL : Hid _ := xl
                  have HBF : Hid _ := hbf
                  clear xl hbf
                  have hlen := runs_len (isS S 3) n
                  go_wp2_with fail
                  refine HSt.mono ?_
                  rintro e w4 ⟨r0, rfl, ho, hx4⟩
                  obtain ⟨R0, hR⟩ : ∃ R0, runs (isS S 3) n = R0 := ⟨_, rfl⟩
                  rw [hR] at ho hlen
                  have HRR : Hid (runs (isS S 3) n = R0) := hR
                  have HXX : Hid (Ext wo w4) := HXL.out.trans hx4
                  have hcm : CmI w (wo.heap.size + 1) n q S F R R0 r0 u8 ul 0 w4 := ⟨HP.out.ext.trans HXX.out, HXX.out.rowIs HP.out.uns, own_ext HP.out.told HXX.out, by rw [show R ++ recT (R0.take 0) = R from List.append_nil R]; exact own_ext HP.out.log HXX.out, own_mono ho (by have h5 := HP.out.ext.size; have h6 := HXL.out.size; omega), hx4.blk HBF.out⟩
                  have HCm : Hid (CmI w (wo.heap.size + 1) n q S F R R0 r0 u8 ul 0 w4) := hcm
                  obtain ⟨k0, hk⟩ : ∃ k0, R0.length = k0 := ⟨_, rfl⟩
                  have hfr := own_rngs hcm.rng
                  obtain ⟨_, aR, cR, rfl, _⟩ := hfr
                  rw [hk] at hlen HCm ⊢
                  have HK : Hid (R0.length = k0) := hk
                  have hfew := HP.out.few
                  clear ho HSt hR hk hx4 HXL HBF hcm hc0 hc1 hc2
                  go_wp2_with fail
                  go_loopw [9, 144] (fun l i wi => ∃ q2 : Nat, q2 ≤ k0 ∧ i = .int .i64 q2 ∧ CmI w (wo.heap.size + 1) n q S F R R0 (.slice aR k0 cR) u8 l q2 wi) (fun _ i _ => k0 - (intOf i).toNat)
                  case atStart => exact ⟨0, Nat.zero_le _, rfl, HCm.out⟩
                  case round =>
                    clear HCm
                    obtain ⟨q2, hq2, rfl, hcm⟩ := hrel
                    have HCm : Hid (CmI w (wo.heap.size + 1) n q S F R R0 (.slice aR k0 cR) u8 u9 q2 wr) := hcm
                    clear hcm
                    obtain ⟨lg, hlg⟩ : ∃ lg, lg = u9 := ⟨_, rfl⟩
                    subst hlg
                    by_cases hlt2 : q2 < k0
                    · obtain ⟨⟨x, y⟩, e1, e2, e3⟩ := drop_at (L := R0) (k := q2) (by rw [HK.out]; exact hlt2)
                      obtain ⟨_, a9, c9, he9, hr9⟩ := own_rngs HCm.out.rng
                      rw [HK.out] at he9
                      cases he9
                      obtain ⟨b2, o2, rfl, hr1, hr2⟩ := hr9 q2 x y e1
                      have HE1 : Hid (R0[q2]? = some (x, y)) := e1
                      obtain ⟨ll, hll⟩ : ∃ ll, (R ++ recT (R0.take q2)).length = ll := ⟨_, rfl⟩
                      have hllb : ll ≤ 2000000 := by rw [← hll, List.length_append]; unfold recT; rw [List.length_map, List.length_take]; omega
                      have HLL : Hid ((R ++ recT (R0.take q2)).length = ll) := hll
                      have hlo := HCm.out.log
                      rw [hll] at hlo
                      have HLo : Hid (wr.ownsRow w.heap.size 72 3 lg ll (fl3 (recV (R ++ recT (R0.take q2))))) := hlo
                      clear e1 e2 e3 hr9 hll hlo
                      go_wp2_with (first | (at_builtin; refine append_tri _ rfl (.tmp 148) (.tmp 151) 34 rfl w.heap.size 72 (.agg #[.bool false, .int .i64 0, .int .i64 0]) 24 Try.underlying34 infoRec rfl lg ll (recV (R ++ recT (R0.take q2))) rfl (own_ext HLo.out (((Ext.refl wr).alloc _ _).alloc _ _)) (some ⟨wr.heap.size + 1, 0, none⟩) 1 1 [(.bool true, IV x, IV y)] rfl rfl ?_ (recL_one true _ _) (by omega) (by omega) (by omega) ?_ ?_) | go_in)
                      · exact tri_new _ _ (by rw [World.size_alloc]) _ _ _ _
                      · first | exact ((HCm.out.ext.alloc _ _).alloc _ _).size | (have h5 := HCm.out.ext.size; omega)
                      intro v7 w7 hown7 hgrow7
                      have HC7 : Hid (CmI w (wo.heap.size + 1) n q S F R R0 (.slice (some ⟨b2, o2, none⟩) k0 cR) u8 v7 (q2 + 1) w7) := (HCm.out.ext' (((Ext.refl wr).alloc _ _).alloc _ _)).next HE1.out (by rw [HLL.out]; exact hown7) hgrow7
                      clear hown7 hgrow7 HCm HLo
                      go_wp2_with fail
                      go_roundw
                      case rel => exact ⟨q2 + 1, by omega, by go_num, HC7.out⟩
                      case measure => simp [intOf]; omega
                    · obtain rfl : q2 = k0 := by omega
                      have HDoE : doS n S (3, f, cn) = ⟨0, 0, comS S, recT R0⟩ := by
                        unfold doS commitR
                        rw [if_neg (by simp), if_neg (by simp), if_pos rfl, HRR.out]
                        rfl
                      have hlo := HCm.out.log
                      rw [List.take_of_length_le (by rw [HK.out]; omega)] at hlo
                      have HLo : Hid (wr.ownsRow w.heap.size 72 3 lg (R ++ recT R0).length (fl3 (recV (R ++ recT R0)))) := hlo
                      clear hlo
                      obtain ⟨w6, hw6⟩ : ∃ w6, w6 = wr := ⟨_, rfl⟩
                      subst hw6
                      go_wp2_with fail
                      go_loopw [156] (fun i wi => ∃ q3 : Nat, q3 ≤ n ∧ i = .int .i64 q3 ∧ Uns wi w.heap.size 3 n (comQ S q3) ∧ Wro (· = w.heap.size) w6 wi) (fun i _ => n - (intOf i).toNat)
                      case atStart => exact ⟨0, Nat.zero_le _, rfl, (World.rowIs.congr HCm.out.uns fun i _ => by unfold comQ; rw [if_neg (by omega)]), Wro.refl _ _⟩
                      case round =>
                        obtain ⟨q3, hq3, rfl, hu, hx⟩ := hrel
                        have HUr : Hid (Uns wr w.heap.size 3 n (comQ S q3)) := hu
                        clear hu
                        by_cases hlt3 : q3 < n
                        · have hc := HUr.out.cell hlt3
                          have hfz := fun o => World.rowIs.frozen (World.rowIs.alloc HUr.out o) q3
                          have eq : comQ S q3 q3 = S q3 := by unfold comQ; rw [if_neg (by omega)]
                          have hin := HP.out.in4 q3 hlt3
                          unfold IV at hc
                          rw [eq] at hc
                          clear eq
                          rcases (show S q3 = 0 ∨ S q3 = 1 ∨ S q3 = 2 ∨ S q3 = 3 by omega) with hv | hv | hv | hv
                          · rw [hv] at hc
                            have hca := fun o => alloc_keeps hc o
                            have HZ : Hid (comS S q3 = 0) := by show _ = _; unfold comS; simp [hv]
                            have HS : Hid (Uns ((wr.alloc (.cells #[.int .i64 0, .int .i64 1, .int .i64 3, .int .i64 0] 3)).setCell ⟨w.heap.size, q3, none⟩ (.int .i64 0)) w.heap.size 3 n (comQ S (q3 + 1))) := com_new (World.rowIs.alloc HUr.out _) HZ.out
                            clear hv hin
                            go_wp2_with fail
                            go_roundw
                            case rel => exact ⟨q3 + 1, by omega, by go_num, HS.out, (hx.then_ext ((Ext.refl _).alloc _ _)).setCell (p := ⟨w.heap.size, q3, none⟩) rfl _⟩
                            case measure => simp [intOf]; omega
                          · rw [hv] at hc
                            have hca := fun o => alloc_keeps hc o
                            have HZ : Hid (comS S q3 = 1) := by show _ = _; unfold comS; simp [hv]
                            have HS : Hid (Uns ((wr.alloc (.cells #[.int .i64 0, .int .i64 1, .int .i64 3, .int .i64 0] 3)).setCell ⟨w.heap.size, q3, none⟩ (.int .i64 1)) w.heap.size 3 n (comQ S (q3 + 1))) := com_new (World.rowIs.alloc HUr.out _) HZ.out
                            clear hv hin
                            go_wp2_with fail
                            go_roundw
                            case rel => exact ⟨q3 + 1, by omega, by go_num, HS.out, (hx.then_ext ((Ext.refl _).alloc _ _)).setCell (p := ⟨w.heap.size, q3, none⟩) rfl _⟩
                            case measure => simp [intOf]; omega
                          · rw [hv] at hc
                            have hca := fun o => alloc_keeps hc o
                            have HZ : Hid (comS S q3 = 3) := by show _ = _; unfold comS; simp [hv]
                            have HS : Hid (Uns ((wr.alloc (.cells #[.int .i64 0, .int .i64 1, .int .i64 3, .int .i64 0] 3)).setCell ⟨w.heap.size, q3, none⟩ (.int .i64 3)) w.heap.size 3 n (comQ S (q3 + 1))) := com_new (World.rowIs.alloc HUr.out _) HZ.out
                            clear hv hin
                            go_wp2_with fail
                            go_roundw
                            case rel => exact ⟨q3 + 1, by omega, by go_num, HS.out, (hx.then_ext ((Ext.refl _).alloc _ _)).setCell (p := ⟨w.heap.size, q3, none⟩) rfl _⟩
                            case measure => simp [intOf]; omega
                          · rw [hv] at hc
                            have hca := fun o => alloc_keeps hc o
                            have HZ : Hid (comS S q3 = 0) := by show _ = _; unfold comS; simp [hv]
                            have HS : Hid (Uns ((wr.alloc (.cells #[.int .i64 0, .int .i64 1, .int .i64 3, .int .i64 0] 3)).setCell ⟨w.heap.size, q3, none⟩ (.int .i64 0)) w.heap.size 3 n (comQ S (q3 + 1))) := com_new (World.rowIs.alloc HUr.out _) HZ.out
                            clear hv hin
                            go_wp2_with fail
                            go_roundw
                            case rel => exact ⟨q3 + 1, by omega, by go_num, HS.out, (hx.then_ext ((Ext.refl _).alloc _ _)).setCell (p := ⟨w.heap.size, q3, none⟩) rfl _⟩
                            case measure => simp [intOf]; omega
                        · have e3 : n = q3 := by omega
                          subst e3
                          have HUc : Hid (Uns wr w.heap.size 3 n (comS S)) := HUr.out.congr fun j hj => by unfold comQ; rw [if_pos hj]
                          have HFc : Hid (wr.heap[wo.heap.size + 1]? = some (.cells #[.int .i64 0, .int .i64 0, .int .i64 0] 52 (0, 0))) := hx.blk HCm.out.fnd (by show ¬ wo.heap.size + 1 = w.heap.size; omega)
                          have HTc : Hid (wr.ownsRow w.heap.size 52 3 u8 q (fl3 (fndV F))) := own_uns HCm.out.uns HCm.out.told hx (by decide)
                          have HGc : Hid (wr.ownsRow w.heap.size 72 3 lg (R ++ recT R0).length (fl3 (recV (R ++ recT R0)))) := own_uns HCm.out.uns HLo.out hx (by decide)
                          have HXc : Hid (Ext w wr) := Wro.after HCm.out.ext hx fun i hi => by rw [hi]; exact Nat.le_refl _
                          clear HUr
                          have HRr : Hid (doS n S (3, f, cn) = ⟨0, 0, comS S, recT R0⟩) := HDoE
                          obtain ⟨lf, hlf⟩ : ∃ lf, cntS (comS S) 0 n = lf := ⟨_, rfl⟩
                          have hcnt : ∀ W, Uns W w.heap.size 3 n (comS S) → Calls Try.prog 36 #[.slice (some ⟨w.heap.size, 0, none⟩) n n, .int .i64 0] W fun e w' => e = .returned (.int .i64 lf) ∧ w' = W := fun W hW => hlf ▸ rcount_any w.heap.size n (comS S) 0 W hn.2 hW
                          have HLE : Hid (cntS (comS S) 0 n = lf) := hlf
                          clear hlf HDoE
                          go_wp2_with fail
                          refine (hcnt _ (HUc.out)).mono ?_
                          rintro e wz ⟨rfl, hwz⟩
                          have HFz : Hid (wz.heap[wo.heap.size + 1]? = some (.cells #[.int .i64 0, .int .i64 0, .int .i64 0] 52 (0, 0))) := by
                            show _ = _
                            rw [hwz]
                            exact HFc.out
                          have HUz : Hid (Uns wz w.heap.size 3 n (comS S)) := by
                            show Uns _ _ _ _ _
                            rw [hwz]
                            exact HUc.out
                          have HTz : Hid (wz.ownsRow w.heap.size 52 3 u8 q (fl3 (fndV F))) := by
                            show World.ownsRow _ _ _ _ _ _ _
                            rw [hwz]
                            exact HTc.out
                          have HGz : Hid (wz.ownsRow w.heap.size 72 3 lg (R ++ recT R0).length (fl3 (recV (R ++ recT R0)))) := by
                            show World.ownsRow _ _ _ _ _ _ _
                            rw [hwz]
                            exact HGc.out
                          have HXz : Hid (Ext w wz) := by
                            show Ext _ _
                            rw [hwz]
                            exact HXc.out
                          obtain ⟨y0, y1, y2, y3⟩ := row3_cells HFz.out
                          have y4 := y3 2
                          clear hwz hcnt y3
                          go_wp2_with (first | (at_builtin; refine append_tri _ rfl (.tmp 172) (.tmp 174) 33 rfl w.heap.size 52 (.agg #[.int .i64 0, .int .i64 0, .int .i64 0]) 24 Try.underlying33 infoFn3 rfl u8 q (fndV F) rfl (own_ext (own_wroS HTz.out ((Wro.refl (· = wo.heap.size + 1) wz).setCell (p := ⟨wo.heap.size + 1, 2, none⟩) rfl _) hvt.out) ((Ext.refl _).alloc _ _)) (some ⟨wz.heap.size, 0, none⟩) 1 1 [(IV (0), IV (0), IV lf)] rfl rfl ?_ (fnd_one _ _ _) (by omega) (by omega) (by omega) ?_ ?_) | go_in)
                          · first | exact tri_new _ _ rfl _ _ _ _ | exact tri_new _ _ (by simp [World.setCell]) _ _ _ _
                          · have h5 := HXz.out.size
                            simp [World.setCell]
                            omega
                          intro v5 w5 hown5 hgrow5
                          have HPn : Hid (PlI 3 w w.heap.size n D (q + 1) (comS S) (F ++ [(0, 0, lf)]) (R ++ recT R0) v5 lg w5) := HP.out.next HD.out hn.2 HRr.out HLE.out HXz.out HUz.out HTz.out HGz.out (by omega) HFz.out hvt.out (by decide) hown5 hgrow5
                          clear hown5 hgrow5 HP HTz HGz HUz HFz
                          go_wp2_with fail
                          go_roundw
                          case rel => exact ⟨q + 1, _, _, _, by omega, by go_num, HPn.out⟩
                          case measure => simp [intOf]; omega
                · have d3 : (k == 3) = false := by simp [k3]
                  have HDoE : doS n S (k, f, cn) = ⟨3, 0, S, []⟩ := by unfold doS; rw [if_neg k1, if_neg k2, if_neg k3]
                  clear k1 k2 k3
                  have HRr : Hid (doS n S (k, f, cn) = ⟨3, 0, S, []⟩) := HDoE
                  obtain ⟨lf, hlf⟩ : ∃ lf, cntS (S) 0 n = lf := ⟨_, rfl⟩
                  have hcnt : ∀ W, Uns W w.heap.size 3 n (S) → Calls Try.prog 36 #[.slice (some ⟨w.heap.size, 0, none⟩) n n, .int .i64 0] W fun e w' => e = .returned (.int .i64 lf) ∧ w' = W := fun W hW => hlf ▸ rcount_any w.heap.size n (S) 0 W hn.2 hW
                  have HLE : Hid (cntS (S) 0 n = lf) := hlf
                  clear hlf HDoE
                  go_wp2_with fail
                  refine (hcnt _ ((((Ext.refl wo).alloc #[.int .i64 k, .int .i64 f, .int .i64 cn] 50).alloc #[.int .i64 3, .int .i64 0, .int .i64 0] 52).rowIs HP.out.uns)).mono ?_
                  rintro e wz ⟨rfl, hwz⟩
                  have HFz : Hid (wz.heap[wo.heap.size + 1]? = some (.cells #[.int .i64 3, .int .i64 0, .int .i64 0] 52 (0, 0))) := by
                    show _ = _
                    rw [hwz]
                    exact (by have e := heap_alloc_new (wo.alloc (.cells #[.int .i64 k, .int .i64 f, .int .i64 cn] 50)) (.cells #[.int .i64 3, .int .i64 0, .int .i64 0] 52); rw [World.size_alloc] at e; exact e)
                  have HUz : Hid (Uns wz w.heap.size 3 n (S)) := by
                    show Uns _ _ _ _ _
                    rw [hwz]
                    exact (((Ext.refl wo).alloc #[.int .i64 k, .int .i64 f, .int .i64 cn] 50).alloc #[.int .i64 3, .int .i64 0, .int .i64 0] 52).rowIs HP.out.uns
                  have HTz : Hid (wz.ownsRow w.heap.size 52 3 u8 q (fl3 (fndV F))) := by
                    show World.ownsRow _ _ _ _ _ _ _
                    rw [hwz]
                    exact own_ext HP.out.told (((Ext.refl wo).alloc #[.int .i64 k, .int .i64 f, .int .i64 cn] 50).alloc #[.int .i64 3, .int .i64 0, .int .i64 0] 52)
                  have HGz : Hid (wz.ownsRow w.heap.size 72 3 ul (R ++ []).length (fl3 (recV (R ++ [])))) := by
                    show World.ownsRow _ _ _ _ _ _ _
                    rw [hwz]
                    exact by rw [List.append_nil]; exact own_ext HP.out.log (((Ext.refl wo).alloc #[.int .i64 k, .int .i64 f, .int .i64 cn] 50).alloc #[.int .i64 3, .int .i64 0, .int .i64 0] 52)
                  have HXz : Hid (Ext w wz) := by
                    show Ext _ _
                    rw [hwz]
                    exact HP.out.ext.trans (((Ext.refl wo).alloc #[.int .i64 k, .int .i64 f, .int .i64 cn] 50).alloc #[.int .i64 3, .int .i64 0, .int .i64 0] 52)
                  obtain ⟨y0, y1, y2, y3⟩ := row3_cells HFz.out
                  have y4 := y3 2
                  clear hwz hcnt y3
                  go_wp2_with (first | (at_builtin; refine append_tri _ rfl (.tmp 172) (.tmp 174) 33 rfl w.heap.size 52 (.agg #[.int .i64 0, .int .i64 0, .int .i64 0]) 24 Try.underlying33 infoFn3 rfl u8 q (fndV F) rfl (own_ext (own_wroS HTz.out ((Wro.refl (· = wo.heap.size + 1) wz).setCell (p := ⟨wo.heap.size + 1, 2, none⟩) rfl _) hvt.out) ((Ext.refl _).alloc _ _)) (some ⟨wz.heap.size, 0, none⟩) 1 1 [(IV (3), IV (0), IV lf)] rfl rfl ?_ (fnd_one _ _ _) (by omega) (by omega) (by omega) ?_ ?_) | go_in)
                  · first | exact tri_new _ _ rfl _ _ _ _ | exact tri_new _ _ (by simp [World.setCell]) _ _ _ _
                  · have h5 := HXz.out.size
                    simp [World.setCell]
                    omega
                  intro v5 w5 hown5 hgrow5
                  have HPn : Hid (PlI 3 w w.heap.size n D (q + 1) (S) (F ++ [(3, 0, lf)]) (R ++ []) v5 ul w5) := HP.out.next HD.out hn.2 HRr.out HLE.out HXz.out HUz.out HTz.out HGz.out (by omega) HFz.out hvt.out (by decide) hown5 hgrow5
                  clear hown5 hgrow5 HP HTz HGz HUz HFz
                  go_wp2_with fail
                  go_roundw
                  case rel => exact ⟨q + 1, _, _, _, by omega, by go_num, HPn.out⟩
                  case measure => simp [intOf]; omega
          · obtain rfl : q = m := by omega
            have HF : Hid (PlayRes (.inr (playL n (fun _ => 0) D)) u8 u9 0 wr) := HP.out.fin HL.out hm3
            have HX : Hid (Ext w wr) := HP.out.ext
            clear HP
            go_wp2_with fail
            go_ret3
            exact ⟨_, _, _, rfl, by rw [HE.out]; exact HF.out, HX.out⟩
      · have HE : Hid (playQ (n : Int) D = .inl 1) := by
          show _ = _
          unfold playQ
          rw [hz, if_pos rfl, if_neg (by rw [HL.out]; exact hm3)]
        clear hz
        go_enter Try.func14, Try.ntmps14
        go_wp2_with fail
        go_ret3
        exact ⟨_, _, _, rfl, by rw [HE.out]; exact ⟨rfl, rfl, rfl⟩, Ext.refl _⟩
    · have HE : Hid (playQ sz D = .inl 2) := by show _ = _; unfold playQ szB; rw [decide_eq_false hz2]; simp
      go_enter Try.func14, Try.ntmps14
      go_wp2_with fail
      go_ret3
      exact ⟨_, _, _, rfl, by rw [HE.out]; exact ⟨rfl, rfl, rfl⟩, Ext.refl _⟩
  · have HE : Hid (playQ sz D = .inl 2) := by show _ = _; unfold playQ szB; rw [decide_eq_false hz1]; simp
    go_enter Try.func14, Try.ntmps14
    go_wp2_with fail
    go_ret3
    exact ⟨_, _, _, rfl, by rw [HE.out]; exact ⟨rfl, rfl, rfl⟩, Ext.refl _⟩
end Go.Proofs.Ytfekiccjcfdmkab
