/-
  space.Play: deeds, one by one; in new memory.
-/
import Derived.Test.YtfpbiimjcdbaoaaChecked
import Derived.WalkKit
import Derived.BigQuiet
import Derived.Test.YtfpbiimjcdbaoaaSpaceDo
namespace Go.Proofs.Ytfpbiimjcdbaoaa
open Go.RowKit Go.Deep
def fndV (L : List (Int × Int × Int)) : List V3 := L.map fun r => (IV r.1, IV r.2.1, IV r.2.2)
def BddD (L : List (Int × Int × Int)) : Prop := ∀ r, r ∈ L → (-9223372036854775808 ≤ r.2.1 ∧ r.2.1 ≤ 9223372036854775807) ∧ -9223372036854775808 ≤ r.2.2 ∧ r.2.2 ≤ 9223372036854775807
/-- refused (with what), or what is told, and the log -/
def playQ (sz : Int) (D : List (Int × Int × Int)) : Int ⊕ (List (Int × Int × Int) × List (Bool × Int × Int)) :=
  if szB sz then (if D.length ≤ 300 then .inr (playL sz.toNat (fun _ => 0) D) else .inl 1) else .inl 2
def PlayRes (q : Int ⊕ (List (Int × Int × Int) × List (Bool × Int × Int))) (v u : Value) (er : Int) (w' : World) : Prop :=
  match q with
  | .inl k => v = .slice none 0 0 ∧ u = .slice none 0 0 ∧ er = k
  | .inr p => er = 0 ∧ (p.1.length ≤ 300 ∧ p.2.length ≤ 1228800) ∧ ∃ a b c d, v = .slice a p.1.length c ∧ u = .slice b p.2.length d ∧ Tri w' a (fndV p.1) ∧ Tri w' b (recV p.2)
theorem deed_at {w : World} {a : Option Addr} {L : List (Int × Int × Int)} (h : Tri w a (fndV L)) {q : Nat} {k x y : Int} (hq : L[q]? = some (k, x, y)) : ∃ b o, a = some ⟨b, o, none⟩ ∧ w.cell? ⟨b, o + q * 3, none⟩ = some (.int .i64 k) ∧ w.cell? ⟨b, o + q * 3 + 1, none⟩ = some (.int .i64 x) ∧ w.cell? ⟨b, o + q * 3 + 2, none⟩ = some (.int .i64 y) :=
  h q (IV k) (IV x) (IV y) (by unfold fndV; rw [List.getElem?_map, hq]; rfl)
theorem infoFn3 : (Try.prog.info? 34).map (fun i => (i.zero, i.size, i.bytes)) = some (some (.agg #[.int .i64 0, .int .i64 0, .int .i64 0]), 3, 24) := by kernel_rfl
theorem fnd_one (x y z : Int) : one3 [(IV x, IV y, IV z)] := fun r hr => by
  rw [List.mem_singleton] at hr
  subst hr
  exact ⟨rfl, rfl, rfl⟩
theorem rec_one (L : List (Bool × Int × Int)) : one3 (recV L) := fun r hr => by
  obtain ⟨s, _, rfl⟩ := List.mem_map.1 hr
  exact ⟨rfl, rfl, rfl⟩
theorem fndV_snoc (L : List (Int × Int × Int)) (r : Int × Int × Int) : fndV (L ++ [r]) = fndV L ++ [(IV r.1, IV r.2.1, IV r.2.2)] := by
  unfold fndV
  rw [List.map_append]
  rfl
theorem recV_append (L M : List (Bool × Int × Int)) : recV (L ++ M) = recV L ++ recV M := List.map_append ..
theorem own_keep {w w' : World} {b b2 : Nat} {e e2 : TypeId} {s s2 : Nat} {v v2 : Value} {n n2 : Nat} {xs xs2 : List Value} (h : w.ownsRow b e s v n xs) (h2 : w.ownsRow b2 e2 s2 v2 n2 xs2) (hg : w.grownBy w' v2.ownBlock) (hne : e ≠ e2) : w'.ownsRow b e s v n xs := h.kept hg (own_apart h h2 hne)
theorem uns_ne {w : World} {g : Nat} {t : TypeId} {n : Nat} {S : Nat → Int} (h : Uns w g t n S) {b : Nat} {e : TypeId} {s : Nat} {v : Value} {m : Nat} {xs : List Value} (h2 : w.ownsRow b e s v m xs) (hne : t ≠ e) : some g ≠ v.ownBlock := fun q => by
  obtain ⟨cur, hc⟩ := own_block h2 q.symm
  obtain ⟨c, hb, _⟩ := h
  rw [hb] at hc
  cases hc
  exact hne rfl
theorem uns_keep {w w' : World} {g : Nat} {t : TypeId} {n : Nat} {S : Nat → Int} (h : Uns w g t n S) {b : Nat} {e : TypeId} {s : Nat} {v : Value} {m : Nat} {xs : List Value} (h2 : w.ownsRow b e s v m xs) (hg : w.grownBy w' v.ownBlock) (hne : t ≠ e) : Uns w' g t n S :=
  World.rowIs.of_block h (hg.block g (World.rowIs.lt h) (uns_ne h h2 hne))
/-- an own row of another type stays where the units are written -/
theorem own_uns {w w' : World} {g : Nat} {t : TypeId} {n : Nat} {S : Nat → Int} (h : Uns w g t n S) {b : Nat} {e : TypeId} {s : Nat} {v : Value} {m : Nat} {xs : List Value} (h2 : w.ownsRow b e s v m xs) (hw : Wro (· = g) w w') (hne : t ≠ e) : w'.ownsRow b e s v m xs :=
  own_wroS h2 hw fun _ hk q => uns_ne h h2 hne (by rw [hk, q])
/-- ahead of deed q -/
structure PlI (t : TypeId) (w : World) (g n : Nat) (D : List (Int × Int × Int)) (q : Nat) (S : Nat → Int) (F : List (Int × Int × Int)) (R : List (Bool × Int × Int)) (v u : Value) (wr : World) : Prop where
  ext : Ext w wr
  uns : Uns wr g t n S
  in4 : In4 n S
  len : F.length = q
  few : R.length ≤ 4096 * q
  told : wr.ownsRow w.heap.size 34 3 v q (fl3 (fndV F))
  log : wr.ownsRow w.heap.size 69 3 u R.length (fl3 (recV R))
  fst : F ++ (playL n S (D.drop q)).1 = (playL n (fun _ => 0) D).1
  snd : R ++ (playL n S (D.drop q)).2 = (playL n (fun _ => 0) D).2
theorem PlI.fin {t : TypeId} {w : World} {g n : Nat} {D : List (Int × Int × Int)} {q : Nat} {S : Nat → Int} {F : List (Int × Int × Int)} {R : List (Bool × Int × Int)} {v u : Value} {wr : World} (h : PlI t w g n D q S F R v u wr) (hq : D.length = q) (hm : q ≤ 300) : PlayRes (.inr (playL n (fun _ => 0) D)) v u 0 wr := by
  have e : D.drop q = [] := List.drop_eq_nil_of_le (by omega)
  have e1 := h.fst
  have e2 := h.snd
  rw [e] at e1 e2
  have f1 : (playL n (fun _ => 0) D).1 = F := by rw [← e1]; exact List.append_nil _
  have f2 : (playL n (fun _ => 0) D).2 = R := by rw [← e2]; exact List.append_nil _
  obtain ⟨_, a, c, rfl, ha⟩ := own_tri h.told
  obtain ⟨_, b, d, rfl, hb⟩ := own_tri h.log
  have := h.few
  have := h.len
  refine ⟨rfl, ⟨by rw [f1]; omega, by rw [f2]; omega⟩, a, b, c, d, by rw [f1, h.len], by rw [f2], by rw [f1]; exact ha, by rw [f2]; exact hb⟩
theorem play_fst {n : Nat} {S : Nat → Int} {d : Int × Int × Int} {l D : List (Int × Int × Int)} {F : List (Int × Int × Int)} (h : F ++ (playL n S (d :: l)).1 = (playL n (fun _ => 0) D).1) : (F ++ [((doS n S d).code, (doS n S d).place, cntS (doS n S d).st 0 n)]) ++ (playL n (doS n S d).st l).1 = (playL n (fun _ => 0) D).1 := by
  rw [← h, List.append_assoc]
  rfl
theorem play_snd {n : Nat} {S : Nat → Int} {d : Int × Int × Int} {l D : List (Int × Int × Int)} {R : List (Bool × Int × Int)} (h : R ++ (playL n S (d :: l)).2 = (playL n (fun _ => 0) D).2) : (R ++ (doS n S d).recs) ++ (playL n (doS n S d).st l).2 = (playL n (fun _ => 0) D).2 := by
  rw [← h, List.append_assoc]
  rfl
set_option maxRecDepth 100000 in
set_option maxHeartbeats 1600000 in
theorem Play_any (sz : Int) (a : Option Addr) (m c : Nat) (D : List (Int × Int × Int)) (w : World) (hl : D.length = m) (hm : m ≤ 9223372036854775807) (h : Tri w a (fndV D)) (hb : BddD D) :
    Calls Try.prog 9 #[.int .i64 sz, .slice a m c] w fun e w' => ∃ v u er, e = .returned (.tuple #[v, u, .int .i64 er]) ∧ PlayRes (playQ sz D) v u er w' ∧ Ext w w' := by
  have HL : Hid (D.length = m) := hl
  have HR : Hid (Tri w a (fndV D)) := h
  have HB : Hid (BddD D) := hb
  have HM := Smay_any sz w
  clear h hb hl
  cases hz : szB sz with
  | false =>
    rw [hz] at HM
    have HE : Hid (playQ sz D = .inl 2) := by show _ = _; unfold playQ; rw [hz]; rfl
    clear hz
    go_enter Try.func9, Try.ntmps9
    go_wp2_with fail
    refine HM.mono ?_
    rintro e w1 ⟨rfl, rfl⟩
    go_wp2_with fail
    go_ret3
    exact ⟨_, _, _, rfl, by rw [HE.out]; exact ⟨rfl, rfl, rfl⟩, Ext.refl _⟩
  | true =>
    rw [hz] at HM
    have hz2 : 1 ≤ sz ∧ sz ≤ 4096 := by unfold szB at hz; simpa using hz
    obtain ⟨n, rfl⟩ : ∃ n : Nat, sz = n := ⟨sz.toNat, by omega⟩
    have hn : 1 ≤ n ∧ n ≤ 4096 := by omega
    by_cases hm3 : m ≤ 300
    · have HE : Hid (playQ (n : Int) D = .inr (playL n (fun _ => 0) D)) := by
        show _ = _
        unfold playQ
        rw [hz, if_pos rfl, if_pos (by rw [HL.out]; exact hm3), Int.toNat_natCast]
      have hmk := make_units n hn.2
      clear hz
      go_enter Try.func9, Try.ntmps9
      go_wp2_with fail
      refine HM.mono ?_
      rintro e w1 ⟨rfl, hw1⟩
      obtain rfl : w = w1 := hw1.symm
      go_wp2_with fail
      go_loopw [8, 9, 24] (fun v u i wr => ∃ (q : Nat) (S : Nat → Int) (F : List (Int × Int × Int)) (R : List (Bool × Int × Int)), q ≤ m ∧ i = .int .i64 q ∧ PlI 63 w w.heap.size n D q S F R v u wr) (fun _ _ i _ => m - (intOf i).toNat)
      case atStart => exact ⟨0, fun _ => 0, [], [], Nat.zero_le _, rfl, ⟨(Ext.refl w).alloc _ _, World.rowIs_made w (.int .i64 0) n 63, fun i _ => by omega, rfl, by simp, World.ownsRow_nil _ _ _ _, World.ownsRow_nil _ _ _ _, rfl, rfl⟩⟩
      case round =>
        clear hmk HM
        obtain ⟨q, S, F, R, hq, rfl, hpl⟩ := hrel
        have HP : Hid (PlI 63 w w.heap.size n D q S F R u8 u9 wr) := hpl
        clear hpl
        by_cases hlt : q < m
        · obtain ⟨⟨k, f, cn⟩, h1, h2, h3⟩ := drop_at (L := D) (k := q) (by rw [HL.out]; exact hlt)
          have hbd := HB.out _ h3
          simp only at hbd
          have HD : Hid (D.drop q = (k, f, cn) :: D.drop (q + 1)) := h2
          obtain ⟨b, o, rfl, hc0, hc1, hc2⟩ := deed_at (HR.out.ext HP.out.ext) h1
          have x1 : Ext wr (wr.alloc (.cells #[.int .i64 k, .int .i64 f, .int .i64 cn] 31)) := (Ext.refl wr).alloc _ _
          have HDo := do_any w.heap.size n S k f cn (wr.alloc (.cells #[.int .i64 k, .int .i64 f, .int .i64 cn] 31)) hn.2 (x1.rowIs HP.out.uns) hbd.1 hbd.2
          obtain ⟨r, hr⟩ : ∃ r, doS n S (k, f, cn) = r := ⟨_, rfl⟩
          rw [hr] at HDo
          have HRr : Hid (doS n S (k, f, cn) = r) := hr
          have HX1 : Hid (Ext wr (wr.alloc (.cells #[.int .i64 k, .int .i64 f, .int .i64 cn] 31))) := x1
          clear h1 h2 h3 x1 hr
          go_wp2_with fail
          refine HDo.mono ?_
          rintro e w3 ⟨v3, rfl, ho3, hu3, hw3⟩
          have x4 : Ext w3 (w3.alloc (.cells #[.int .i64 r.code, .int .i64 r.place, .int .i64 0] 34)) := (Ext.refl w3).alloc _ _
          have HLf := left_any w.heap.size n r.st (w3.alloc (.cells #[.int .i64 r.code, .int .i64 r.place, .int .i64 0] 34)) hn.2 (x4.rowIs hu3)
          have ht3 := own_uns (HX1.out.rowIs HP.out.uns) (own_ext HP.out.told HX1.out) hw3 (by decide)
          have hg3 := own_uns (HX1.out.rowIs HP.out.uns) (own_ext HP.out.log HX1.out) hw3 (by decide)
          have HT3 : Hid (w3.ownsRow w.heap.size 34 3 u8 q (fl3 (fndV F))) := ht3
          have HG3 : Hid (w3.ownsRow w.heap.size 69 3 u9 R.length (fl3 (recV R))) := hg3
          have HV3 : Hid (w3.ownsRow w.heap.size 69 3 v3 r.recs.length (fl3 (recV r.recs))) := own_mono ho3 (by have h5 := HP.out.ext.size; have h6 := HX1.out.size; omega)
          have HU3 : Hid (Uns w3 w.heap.size 63 n r.st) := hu3
          have HX3 : Hid (Ext w w3) := Wro.after (HP.out.ext.trans HX1.out) hw3 fun i hi => by rw [hi]; exact Nat.le_refl _
          obtain ⟨lf, hlf⟩ : ∃ lf, cntS r.st 0 n = lf := ⟨_, rfl⟩
          rw [hlf] at HLf
          have HLE : Hid (cntS r.st 0 n = lf) := hlf
          clear ho3 hu3 hw3 x4 ht3 hg3 HDo hlf hc0 hc1 hc2
          go_wp2_with fail
          refine HLf.mono ?_
          rintro e w4 ⟨rfl, rfl⟩
          go_wp2_with (first | (at_builtin; refine append_tri _ rfl (.tmp 37) (.tmp 39) 25 rfl w.heap.size 34 (.agg #[.int .i64 0, .int .i64 0, .int .i64 0]) 24 Try.underlying25 infoFn3 rfl u8 q (fndV F) rfl (own_ext HT3.out (((Ext.refl w3).alloc _ _).alloc _ _)) (some ⟨w3.heap.size + 1, 0, none⟩) 1 1 [(IV r.code, IV r.place, IV lf)] rfl rfl ?_ (fnd_one _ _ _) (by omega) (by omega) (by omega) ?_ ?_) | go_in)
          · exact tri_new _ _ (by rw [World.size_alloc]) _ _ _ _
          · exact ((HX3.out.alloc _ _).alloc _ _).size
          intro v5 w5 hown5 hgrow5
          have xW : Ext w3 ((w3.alloc (.cells #[.int .i64 r.code, .int .i64 r.place, .int .i64 lf] 34)).alloc (.cells #[.int .i64 r.code, .int .i64 r.place, .int .i64 lf] 34)) := ((Ext.refl w3).alloc _ _).alloc _ _
          have hx5 : Ext w w5 := (HX3.out.trans xW).grow hgrow5 fun k hk => own_geS HT3.out hk
          have hgl5 := own_keep (own_ext HG3.out xW) (own_ext HT3.out xW) hgrow5 (by decide)
          have hvl5 := own_keep (own_ext HV3.out xW) (own_ext HT3.out xW) hgrow5 (by decide)
          have hul5 : Uns w5 w.heap.size 63 n r.st := uns_keep (xW.rowIs HU3.out) (own_ext HT3.out xW) hgrow5 (by decide)
          obtain ⟨_, a3, c3, rfl, htri⟩ := own_tri hvl5
          have HT5 : Hid (w5.ownsRow w.heap.size 34 3 v5 (q + 1) (fl3 (fndV F ++ [(IV r.code, IV r.place, IV lf)]))) := hown5
          have HG5 : Hid (w5.ownsRow w.heap.size 69 3 u9 R.length (fl3 (recV R))) := hgl5
          have HV5 : Hid (Tri w5 a3 (recV r.recs)) := htri
          have HU5 : Hid (Uns w5 w.heap.size 63 n r.st) := hul5
          have hfew := HP.out.few
          have hrf : r.recs.length ≤ 4096 := by rw [← HRr.out]; exact recs_few n hn.2 S _
          have HX5 : Hid (Ext w w5) := hx5
          have hs5 := hx5.size
          have hlr : (recV r.recs).length = r.recs.length := List.length_map ..
          have HLR : Hid ((recV r.recs).length = r.recs.length) := hlr
          clear hown5 hgrow5 xW hx5 hgl5 hvl5 hul5 htri hlr HT3 HG3 HV3 HU3
          go_wp2_with (first | (at_builtin; refine append_tri w5 rfl (.tmp 41) (.tmp 42) 26 rfl w.heap.size 69 (.agg #[.bool false, .int .i64 0, .int .i64 0]) 24 Try.underlying26 infoRec rfl u9 R.length (recV R) rfl HG5.out a3 r.recs.length c3 (recV r.recs) HLR.out rfl HV5.out (rec_one _) (by omega) (by omega) (by omega) hs5 ?_) | go_in)
          intro v6 w6 hown6 hgrow6
          have HPn : Hid (PlI 63 w w.heap.size n D (q + 1) r.st (F ++ [(r.code, r.place, lf)]) (R ++ r.recs) v5 v6 w6) := by
            have h4 := HP.out.fst
            have h5 := HP.out.snd
            rw [HD.out] at h4 h5
            have h6 := play_fst h4
            have h7 := play_snd h5
            rw [HRr.out] at h6 h7
            rw [HLE.out] at h6
            refine ⟨HX5.out.grow hgrow6 fun k hk => own_geS HG5.out hk, uns_keep HU5.out HG5.out hgrow6 (by decide), by rw [← HRr.out]; exact HP.out.in4.do _, by rw [List.length_append, HP.out.len]; rfl, by rw [List.length_append]; omega, ?_, ?_, h6, h7⟩
            · rw [fndV_snoc]
              exact own_keep HT5.out HG5.out hgrow6 (by decide)
            · rw [recV_append, List.length_append]
              exact hown6
          clear hown6 hgrow6 HP
          go_wp2_with fail
          go_roundw
          case rel => exact ⟨q + 1, r.st, _, _, by omega, by go_num, HPn.out⟩
          case measure => simp [intOf]; omega
        · obtain rfl : q = m := by omega
          have HF : Hid (PlayRes (.inr (playL n (fun _ => 0) D)) u8 u9 0 wr) := HP.out.fin HL.out hm3
          have HX : Hid (Ext w wr) := HP.out.ext
          clear HP
          go_wp2_with fail
          go_ret3
          exact ⟨_, _, _, rfl, by rw [HE.out]; exact HF.out, HX.out⟩
    · have HE : Hid (playQ (n : Int) D = .inl 1) := by
        show _ = _
        unfold playQ
        rw [hz, if_pos rfl, if_neg (by rw [HL.out]; exact hm3)]
      clear hz
      go_enter Try.func9, Try.ntmps9
      go_wp2_with fail
      refine HM.mono ?_
      rintro e w1 ⟨rfl, rfl⟩
      go_wp2_with fail
      go_ret3
      exact ⟨_, _, _, rfl, by rw [HE.out]; exact ⟨rfl, rfl, rfl⟩, Ext.refl _⟩
end Go.Proofs.Ytfpbiimjcdbaoaa
