/-
  drive.Play: jobs, one by one, of a drive; what each comes to, in new memory.
-/
import Derived.Test.YtgboboojjboocaaChecked
import Derived.WalkKit
import Derived.BigQuiet
import Derived.Test.YtgboboojjboocaaDrDo
namespace Go.Proofs.Ytgboboojjboocaa
open Go.RowKit Go.Deep E
/-- a job, as it lies in memory -/
structure Jb where
  k : Int
  at' : Int
  kp : Int
  ad : Option Addr
  l : Nat
  c : Nat
  f : Nat → E
def jbC (J : Jb) : List Value := [.int .i64 J.k, .int .i64 J.at', .int .i64 J.kp, .slice J.ad J.l J.c]
theorem jbC_len (J : Jb) : (jbC J).length = 4 := rfl
/-- jobs lie at a -/
def Jobs (w : World) (a : Option Addr) (L : List Jb) : Prop := Els w a 4 (L.map jbC) ∧ ∀ J, J ∈ L → Byts w J.ad J.l J.f ∧ J.l ≤ 9223372036854775807
theorem Jobs.ext {w w' : World} {a : Option Addr} {L : List Jb} (h : Jobs w a L) (e : Ext w w') : Jobs w' a L := ⟨h.1.ext e, fun J hJ => ⟨(h.2 J hJ).1.ext e, (h.2 J hJ).2⟩⟩
abbrev DState := List ((Nat → E) × Bool) × List (Nat × (Nat → E)) × Bool
/-- one job's reply, and what it leaves -/
def jobR (n : Nat) (s : DState) (J : Jb) : (Int × Option (Nat → E)) × DState := doR n s.1 s.2.1 s.2.2 J.k J.at' J.kp J.l J.f
def dplay (n : Nat) : DState → List Jb → List (Int × Option (Nat → E))
  | _, [] => []
  | s, J :: l => (jobR n s J).1 :: dplay n (jobR n s J).2 l
def newS (n : Nat) : DState := (newP n, [], false)
theorem doR_W {n : Nat} {PL : List ((Nat → E) × Bool)} {W : List (Nat × (Nat → E))} {dead : Bool} {k at' kp : Int} {l : Nat} {f : Nat → E} (h : ∀ x, x ∈ W → x.1 < n) :
    (∀ x, x ∈ (doR n PL W dead k at' kp l f).2.2.1 → x.1 < n) ∧ (doR n PL W dead k at' kp l f).2.2.1.length ≤ W.length + 1 := by
  unfold doR
  split
  · exact ⟨h, by simp⟩
  · rename_i hz
    have hz : refC n dead k at' l = 0 := Classical.byContradiction fun q => hz q
    split
    · rename_i hk
      subst hk
      have hn := (refC_zero hz).2.2.1 rfl
      refine ⟨fun x hx => ?_, by simp⟩
      rcases List.mem_append.1 hx with h1 | h1
      · exact h x h1
      · rw [List.mem_singleton.1 h1]
        show at'.toNat < n
        omega
    · split
      · exact ⟨h, by simp⟩
      · split
        · exact ⟨fun x hx => by simp at hx, by simp⟩
        · split
          · exact ⟨fun x hx => by simp at hx, by simp⟩
          · split
            · exact ⟨h, by simp⟩
            · split
              · exact ⟨h, by simp⟩
              · split
                · exact ⟨h, by simp⟩
                · exact ⟨fun x hx => by simp at hx, by simp⟩
/-- a reply's data -/
def DataV (w : World) (base : Nat) (o : Option (Nat → E)) (dv : Value) : Prop := match o with | none => dv = .slice none 0 0 | some f => w.ownsRow base 5 1 dv 128 (cts f)
theorem DataV.one {w : World} {base : Nat} {o : Option (Nat → E)} {dv : Value} (h : DataV w base o dv) : dv.oneCell' = true := by
  cases o with
  | none => rw [show dv = _ from h]; rfl
  | some f =>
    obtain ⟨a, c, rfl, _⟩ := own_slice (show w.ownsRow base 5 1 dv 128 (cts f) from h)
    rfl
def rpC (r : Int × Value) : List Value := [.int .i64 r.1, r.2]
theorem rpC_len (r : Int × Value) : (rpC r).length = 2 := rfl
/-- what was told so far -/
structure DTold (w : World) (base : Nat) (v : Value) (m : Nat) (R : List (Int × Value)) (T : List (Int × Option (Nat → E))) : Prop where
  own : w.ownsRow base 46 2 v m (R.map rpC).flatten
  len : T.length = m
  len2 : R.length = m
  each : ∀ (i : Nat) (r : Int × Value) (t : Int × Option (Nat → E)), R[i]? = some r → T[i]? = some t → r.1 = t.1 ∧ DataV w base t.2 r.2
theorem DTold.snoc {w : World} {base : Nat} {v : Value} {m : Nat} {R : List (Int × Value)} {T : List (Int × Option (Nat → E))} {v' : Value} {w' : World} (h : DTold w base v m R T) (hk : ∀ o dv, DataV w base o dv → DataV w' base o dv) {c : Int} {dv : Value} {o : Option (Nat → E)} (hd : DataV w' base o dv)
    (ho : w'.ownsRow base 46 2 v' (m + 1) (R.map rpC ++ [[.int .i64 c, dv]]).flatten) : DTold w' base v' (m + 1) (R ++ [(c, dv)]) (T ++ [(c, o)]) := by
  refine ⟨by rw [List.map_append]; exact ho, by rw [List.length_append, h.len]; rfl, by rw [List.length_append, h.len2]; rfl, fun i r t hr ht => ?_⟩
  rcases Nat.lt_or_ge i m with hi | hi
  · rw [List.getElem?_append_left (by rw [h.len2]; exact hi)] at hr
    rw [List.getElem?_append_left (by rw [h.len]; exact hi)] at ht
    obtain ⟨h1, h2⟩ := h.each i r t hr ht
    exact ⟨h1, hk _ _ h2⟩
  · rw [List.getElem?_append_right (by rw [h.len2]; exact hi), h.len2] at hr
    rw [List.getElem?_append_right (by rw [h.len]; exact hi), h.len] at ht
    have e : i - m = 0 := by
      have := lt_of_get hr
      simp at this
      omega
    rw [e] at hr ht
    cases hr
    cases ht
    exact ⟨rfl, hd⟩
section
variable {w w' : World} {base gd gp n : Nat} {PL : List ((Nat → E) × Bool)} {W : List (Nat × (Nat → E))} {wv : Value} {dead : Bool}
theorem DSt.sep (h : DSt w base gd gp n PL W wv dead) {b : Nat} {e : TypeId} {sz : Nat} {v : Value} {m : Nat} {xs : List Value} (ho : w.ownsRow b e sz v m xs) (he : e ≠ 51 ∧ e ≠ 68 ∧ e ≠ 63) (hw : Wro (fun i => i = gd ∨ i = gp ∨ wv.ownBlock = some i) w w') : w'.ownsRow b e sz v m xs := by
  refine own_wro2 ho hw fun q hq => ?_
  rcases hq with rfl | rfl | hq
  · exact own_type ho h.box he.1
  · obtain ⟨cur, hc⟩ := own_block h.plate (g := q) rfl
    exact own_type ho hc he.2.1
  · obtain ⟨cur, hc⟩ := own_block h.row hq
    exact own_type ho hc he.2.2
theorem DSt.grown (h : DSt w base gd gp n PL W wv dead) {b : Nat} {e : TypeId} {sz : Nat} {v : Value} {m : Nat} {xs : List Value} (ho : w.ownsRow b e sz v m xs) (he : e ≠ 51 ∧ e ≠ 68 ∧ e ≠ 63) (hg : w.grownBy w' v.ownBlock) : DSt w' base gd gp n PL W wv dead := by
  refine ⟨(hg.block gd h.lt.1 fun q => own_type ho h.box he.1 q.symm).trans h.box, h.len, h.plate.kept hg (Or.inr fun q => ?_), h.row.kept hg ?_, h.lo⟩
  · obtain ⟨cur, hc⟩ := own_block h.plate (g := gp) rfl
    exact own_type ho hc he.2.1 (q.symm.trans rfl)
  · cases hb : wv.ownBlock with
    | none => exact Or.inl rfl
    | some q =>
      obtain ⟨cur, hc⟩ := own_block h.row hb
      exact Or.inr fun hq => own_type ho hc he.2.2 hq.symm
end
theorem DataV.grown {w w' : World} {base : Nat} {o : Option (Nat → E)} {dv : Value} (h : DataV w base o dv) {b : Nat} {sz : Nat} {v : Value} {m : Nat} {xs : List Value} (ho : w.ownsRow b 46 sz v m xs) (hg : w.grownBy w' v.ownBlock) : DataV w' base o dv := by
  cases o with
  | none => exact h
  | some f => exact own_keep2 h ho hg (by decide)
theorem infoRep : (Try.prog.info? 46).map (fun i => (i.zero, i.size, i.bytes)) = some (some (.agg #[.int .i64 0, .slice none 0 0]), 2, 32) := by kernel_rfl
/-- what Play tells, as it lies in memory -/
def Replies (w : World) (a : Option Addr) (T : List (Int × Option (Nat → E))) : Prop :=
  ∃ R : List (Int × Value), R.length = T.length ∧ Els w a 2 (R.map rpC) ∧ ∀ (i : Nat) (r : Int × Value) (t : Int × Option (Nat → E)), R[i]? = some r → T[i]? = some t → r.1 = t.1 ∧ match t.2 with | none => r.2 = .slice none 0 0 | some f => ∃ ad c, r.2 = .slice ad 128 c ∧ Byts w ad 128 f
def playV (sz : Int) (L : List Jb) : List (Int × Option (Nat → E)) × Int :=
  if sz < 1 ∨ 512 < sz then ([], 2) else if 300 < L.length then ([], 1) else (dplay sz.toNat (newS sz.toNat) L, 0)
def DpRes (p : List (Int × Option (Nat → E)) × Int) (e : Ending) (w' : World) : Prop :=
  ∃ a c, e = .returned (.tuple #[.slice a p.1.length c, .int .i64 p.2]) ∧ Replies w' a p.1

theorem DataV.ext {w w' : World} {base : Nat} {o : Option (Nat → E)} {dv : Value} (h : DataV w base o dv) (x : Ext w w') : DataV w' base o dv := by
  cases o with
  | none => exact h
  | some f => exact own_ext (show w.ownsRow base 5 1 dv 128 (cts f) from h) x
theorem DTold.ext {w w' : World} {base : Nat} {v : Value} {m : Nat} {R : List (Int × Value)} {T : List (Int × Option (Nat → E))} (h : DTold w base v m R T) (x : Ext w w') : DTold w' base v m R T :=
  ⟨own_ext h.own x, h.len, h.len2, fun i r t hr ht => ⟨(h.each i r t hr ht).1, (h.each i r t hr ht).2.ext x⟩⟩
theorem DSt.sepData {w w' : World} {base gd gp n : Nat} {PL : List ((Nat → E) × Bool)} {W : List (Nat × (Nat → E))} {wv : Value} {dead : Bool} (h : DSt w base gd gp n PL W wv dead) {b : Nat} {o : Option (Nat → E)} {dv : Value} (hd : DataV w b o dv) (hw : Wro (fun i => i = gd ∨ i = gp ∨ wv.ownBlock = some i) w w') : DataV w' b o dv := by
  cases o with
  | none => exact hd
  | some f => exact h.sep (show w.ownsRow b 5 1 dv 128 (cts f) from hd) (by decide) hw
theorem data_byts {w : World} {base : Nat} {f : Nat → E} {dv : Value} (h : w.ownsRow base 5 1 dv 128 (cts f)) : ∃ ad c, dv = .slice ad 128 c ∧ Byts w ad 128 f :=
  own_byts h
/-- where the loop of Play stands -/
structure DPI (w : World) (gd n : Nat) (L : List Jb) (q : Nat) (v : Value) (wr : World) : Prop where
  ext : Ext w wr
  all : ∃ (s : DState) (gp : Nat) (wv : Value) (R : List (Int × Value)) (T : List (Int × Option (Nat → E))), DSt wr w.heap.size gd gp n s.1 s.2.1 wv s.2.2 ∧ DTold wr w.heap.size v q R T ∧ (∀ x, x ∈ s.2.1 → x.1 < n) ∧ s.2.1.length ≤ q ∧ dplay n (newS n) L = T ++ dplay n s (L.drop q)
theorem jobs_at {w : World} {a : Option Addr} {L : List Jb} (h : Jobs w a L) {q : Nat} {J : Jb} (hq : L[q]? = some J) : ∃ b o, a = some ⟨b, o, none⟩ ∧ w.cell? ⟨b, o + q * 4, none⟩ = some (.int .i64 J.k) ∧ w.cell? ⟨b, o + q * 4 + 1, none⟩ = some (.int .i64 J.at') ∧ w.cell? ⟨b, o + q * 4 + 2, none⟩ = some (.int .i64 J.kp) ∧ w.cell? ⟨b, o + q * 4 + 3, none⟩ = some (.slice J.ad J.l J.c) := by
  obtain ⟨b, o, h1, h2⟩ := h.1 q (jbC J) (by rw [List.getElem?_map, hq]; rfl)
  exact ⟨b, o, h1, h2 0 _ rfl, h2 1 _ rfl, h2 2 _ rfl, h2 3 _ rfl⟩
theorem DTold.fin {w : World} {base : Nat} {v : Value} {m : Nat} {R : List (Int × Value)} {T : List (Int × Option (Nat → E))} (h : DTold w base v m R T) : ∃ a c, v = .slice a m c ∧ Replies w a T := by
  obtain ⟨_, a, c, rfl, _, _, he⟩ := own_els h.own (Szd.map rpC_len _) (by omega)
  refine ⟨a, c, rfl, R, by rw [h.len, h.len2], he, fun i r t hr ht => ?_⟩
  obtain ⟨h1, h2⟩ := h.each i r t hr ht
  refine ⟨h1, ?_⟩
  cases hq : t.2 with
  | none => rw [hq] at h2; exact h2
  | some f =>
    rw [hq] at h2
    exact data_byts h2
/-- Play -/
theorem drPlay_any (sz : Int) (a : Option Addr) (m c : Nat) (L : List Jb) (w : World) (hl : L.length = m) (hm : m ≤ 9223372036854775807) (h : Jobs w a L) :
    Calls Try.prog 8 #[.int .i64 sz, .slice a m c] w fun e w' => DpRes (playV sz L) e w' ∧ Ext w w' := by
  have HL : Hid (L.length = m) := hl
  have HJ : Hid (Jobs w a L) := h
  clear h hl
  by_cases hz : 1 ≤ sz ∧ sz ≤ 512
  · obtain ⟨n, rfl⟩ : ∃ n : Nat, sz = n := ⟨sz.toNat, by omega⟩
    have hn : 1 ≤ n ∧ n ≤ 512 := by omega
    by_cases hm3 : m ≤ 300
    · have HE : Hid (playV (n : Int) L = (dplay n (newS n) L, 0)) := by
        show _ = _
        unfold playV
        rw [if_neg (by omega), if_neg (by rw [HL.out]; omega), Int.toNat_natCast]
      have HF := fresh_any n w hn.2
      go_enter Try.func8, Try.ntmps8
      go_wp2_with fail
      refine HF.mono ?_
      rintro e w1 ⟨gp, rfl, hown, hx⟩
      have HS : Hid (DSt (w1.alloc (.cells #[.slice (some ⟨gp, 0, none⟩) n n, .slice none 0 0, .bool false] 51)) w.heap.size w1.heap.size gp n (newP n) [] (.slice none 0 0) false) :=
        ⟨heap_alloc_new w1 _, List.length_replicate, own_ext hown ((Ext.refl w1).alloc _ _), World.ownsRow_nil _ _ _ _, hx.size⟩
      have HX1 : Hid (Ext w w1) := hx
      have HGD : Hid (w.heap.size ≤ w1.heap.size) := hx.size
      clear hown hx HF
      go_wp2_with fail
      go_loopw [7, 23] (fun v i wr => ∃ q : Nat, q ≤ m ∧ i = .int .i64 q ∧ DPI w w1.heap.size n L q v wr) (fun _ i _ => m - (intOf i).toNat)
      case atStart => exact ⟨0, Nat.zero_le _, rfl, HX1.out.alloc _ _, newS n, gp, .slice none 0 0, [], [], HS.out, ⟨World.ownsRow_nil _ _ _ _, rfl, rfl, fun i r t hr => by simp at hr⟩, fun x hx => by simp [newS] at hx, Nat.le_refl _, rfl⟩
      case round =>
        clear HS
        obtain ⟨q, hq, rfl, hpl⟩ := hrel
        obtain ⟨hx, s, gp', wv, R, T, hds, htl, hat, hfw, hsum⟩ := hpl
        obtain ⟨PL, W, dead⟩ := s
        simp only at hds hat hfw
        have HD : Hid (DSt wr w.heap.size w1.heap.size gp' n PL W wv dead) := hds
        have HT : Hid (DTold wr w.heap.size u7 q R T) := htl
        have HA : Hid (∀ x, x ∈ W → x.1 < n) := hat
        have HQ : Hid (dplay n (newS n) L = T ++ dplay n (PL, W, dead) (L.drop q)) := hsum
        have HX : Hid (Ext w wr) := hx
        clear hds htl hat hsum hx
        by_cases hlt : q < m
        · obtain ⟨J, h1, h2, h3⟩ := drop_at (L := L) (k := q) (by rw [HL.out]; exact hlt)
          have HD2 : Hid (L.drop q = J :: L.drop (q + 1)) := h2
          obtain ⟨b, o, rfl, hc0, hc1, hc2, hc3⟩ := jobs_at (HJ.out.ext HX.out) h1
          obtain ⟨hby, hbl⟩ := HJ.out.2 J h3
          have HDo := drDo_any w.heap.size w1.heap.size gp' n PL W wv dead J.k J.at' J.kp J.ad J.l J.c J.f (wr.alloc (.cells #[.int .i64 J.k, .int .i64 J.at', .int .i64 J.kp, .slice J.ad J.l J.c] 34)) hn.2 (by omega) HA.out hbl (hby.ext (HX.out.alloc _ _)) (HD.out.ext ((Ext.refl wr).alloc _ _))
          clear h1 h2 h3 hby
          go_wp2_with fail
          refine HDo.mono ?_
          rintro e w3 ⟨v3, gq, wv2, rfl, ⟨dv, rfl, hrv⟩, hd3, hw3⟩
          have x1 : Ext wr (wr.alloc (.cells #[.int .i64 J.k, .int .i64 J.at', .int .i64 J.kp, .slice J.ad J.l J.c] 34)) := (Ext.refl wr).alloc _ _
          have hdv : DataV w3 w.heap.size (jobR n (PL, W, dead) J).1.2 dv := by
            have hge : w.heap.size ≤ (wr.alloc (.cells #[.int .i64 J.k, .int .i64 J.at', .int .i64 J.kp, .slice J.ad J.l J.c] 34)).heap.size := (HX.out.alloc _ _).size
            unfold DataV
            revert hrv
            show (match (jobR n (PL, W, dead) J).1.2 with | none => _ | some f => _) → _
            cases (jobR n (PL, W, dead) J).1.2 with
            | none => exact fun h => h
            | some f => exact fun h => own_mono h hge
          have HO3 : Hid (w3.ownsRow w.heap.size 46 2 u7 q (R.map rpC).flatten) := (HD.out.ext x1).sep (own_ext HT.out.own x1) (by decide) hw3
          have HKp : Hid (∀ o dv, DataV wr w.heap.size o dv → DataV w3 w.heap.size o dv) := fun o dv h => (HD.out.ext x1).sepData (h.ext x1) hw3
          have HX3 : Hid (Ext w w3) := Wro.after (HX.out.trans x1) hw3 fun i hi => by
            rcases hi with rfl | rfl | hi
            · exact HGD.out
            · exact own_geD HD.out.plate rfl
            · exact own_geD HD.out.row hi
          have hW := doR_W (n := n) (PL := PL) (dead := dead) (k := J.k) (at' := J.at') (kp := J.kp) (l := J.l) (f := J.f) HA.out
          obtain ⟨r, hr⟩ : ∃ r, doR n PL W dead J.k J.at' J.kp J.l J.f = r := ⟨_, rfl⟩
          have hj : jobR n (PL, W, dead) J = r := hr
          rw [hj] at hdv
          rw [hr] at hd3 hW ⊢
          obtain ⟨⟨rc, ro⟩, PL2, W2, dead2⟩ := r
          have HJr : Hid (jobR n (PL, W, dead) J = ((rc, ro), (PL2, W2, dead2))) := hj
          have HDV : Hid (DataV w3 w.heap.size ro dv) := hdv
          have HD3 : Hid (DSt w3 w.heap.size w1.heap.size gq n PL2 W2 wv2 dead2) := hd3
          have HW2 : Hid ((∀ x, x ∈ W2 → x.1 < n) ∧ W2.length ≤ W.length + 1) := hW
          clear hr hj hd3 hdv hW hrv hw3 HDo x1 hc0 hc1 hc2 hc3
          go_wp2_with (first | (at_builtin; refine append_els _ rfl (.tmp 27) (.tmp 30) 23 rfl 2 (by omega) w.heap.size 46 (.agg #[.int .i64 0, .slice none 0 0]) 32 Try.underlying23 infoRep rfl u7 q (R.map rpC) rfl (own_ext HO3.out ((Ext.refl w3).alloc _ _)) (some ⟨w3.heap.size, 0, none⟩) 1 1 [[.int .i64 rc, dv]] rfl rfl (els_new _ _ rfl _ _ _) (Szd.one rfl) ?_ (by omega) (by omega) (by omega) ?_ ?_) | go_in)
          · intro cs hcs v hv
            rw [List.mem_singleton.1 hcs] at hv
            simp only [List.mem_cons, List.not_mem_nil, or_false] at hv
            rcases hv with rfl | rfl
            · rfl
            · exact HDV.out.one
          · exact (HX3.out.alloc _ _).size
          intro v5 w5 hown5 hgrow5
          have x5 : Ext w3 (w3.alloc (.cells #[.int .i64 rc, dv] 46)) := (Ext.refl w3).alloc _ _
          have hown5' : w5.ownsRow w.heap.size 46 2 v5 (q + 1) (R.map rpC ++ [[.int .i64 rc, dv]]).flatten := by
            rw [List.flatten_append]
            simpa using hown5
          have HXn : Hid (Ext w w5) := (HX3.out.trans x5).grow hgrow5 fun k hk => own_geD HO3.out hk
          have HTn : Hid (DTold w5 w.heap.size v5 (q + 1) (R ++ [(rc, dv)]) (T ++ [(rc, ro)])) := HT.out.snoc (fun o d h => ((HKp.out o d h).ext x5).grown (own_ext HO3.out x5) hgrow5) ((HDV.out.ext x5).grown (own_ext HO3.out x5) hgrow5) hown5'
          have HDn : Hid (DSt w5 w.heap.size w1.heap.size gq n PL2 W2 wv2 dead2) := (HD3.out.ext x5).grown (own_ext HO3.out x5) (by decide) hgrow5
          have HQn : Hid (dplay n (newS n) L = (T ++ [(rc, ro)]) ++ dplay n (PL2, W2, dead2) (L.drop (q + 1))) := by
            show _ = _
            rw [HQ.out, HD2.out]
            show T ++ ((jobR n (PL, W, dead) J).1 :: dplay n (jobR n (PL, W, dead) J).2 (L.drop (q + 1))) = _
            rw [HJr.out, List.append_assoc]
            rfl
          clear hown5 hown5' hgrow5 x5 HO3 HKp HT HD HD3 HDV HQ HX3
          go_wp2_with fail
          go_roundw
          case rel => exact ⟨q + 1, by omega, by go_num, HXn.out, (PL2, W2, dead2), gq, wv2, _, _, HDn.out, HTn.out, HW2.out.1, by have := HW2.out.2; show W2.length ≤ q + 1; omega, HQn.out⟩
          case measure => simp [intOf]; omega
        · obtain rfl : q = m := by omega
          obtain ⟨ta, tc, rfl, hrp⟩ := HT.out.fin
          have HT2 : Hid (T.length = q) := HT.out.len
          have HRp : Hid (Replies wr ta T) := hrp
          have HQ2 : Hid (dplay n (newS n) L = T) := by
            show _ = _
            rw [HQ.out, List.drop_eq_nil_of_le (by rw [HL.out]; exact Nat.le_refl _)]
            exact List.append_nil _
          clear hrp
          go_wp2_with fail
          go_ret2
          rw [HE.out, HQ2.out]
          exact ⟨⟨ta, tc, by rw [HT2.out]; rfl, HRp.out⟩, HX.out⟩
    · have HE : Hid (playV (n : Int) L = ([], 1)) := by
        show _ = _
        unfold playV
        rw [if_neg (by omega), if_pos (by rw [HL.out]; omega)]
      go_enter Try.func8, Try.ntmps8
      go_wp2_with fail
      go_ret2
      rw [HE.out]
      exact ⟨⟨none, 0, rfl, [], rfl, Els.nil, fun i r t hr => by simp at hr⟩, Ext.refl _⟩
  · have HE : Hid (playV sz L = ([], 2)) := by
      show _ = _
      unfold playV
      rw [if_pos (by omega)]
    by_cases h1 : sz < 1
    · go_enter Try.func8, Try.ntmps8
      go_wp2_with fail
      go_ret2
      rw [HE.out]
      exact ⟨⟨none, 0, rfl, [], rfl, Els.nil, fun i r t hr => by simp at hr⟩, Ext.refl _⟩
    · have h2 : 512 < sz := by omega
      go_enter Try.func8, Try.ntmps8
      go_wp2_with fail
      go_ret2
      rw [HE.out]
      exact ⟨⟨none, 0, rfl, [], rfl, Els.nil, fun i r t hr => by simp at hr⟩, Ext.refl _⟩
end Go.Proofs.Ytgboboojjboocaa
