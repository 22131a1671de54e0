/-
  quicksetkeep.gets: what all eight sectors have behind jobs of ordinary kinds.
-/
import Derived.Test.YtgboboojjboocaaChecked
import Derived.WalkKit
import Derived.BigQuiet
import Derived.OwnWalk
import Derived.Test.YtgboboojjboocaaDrActs
import Derived.Test.YtgboboojjboocaaDrMath2
namespace Go.Proofs.Ytgboboojjboocaa
open Go.RowKit Go.Deep E
/-- the job that gets sector i -/
def getJ (i : Nat) : Jb := ⟨2, i, 0, none, 0, 0, fun _ => ze⟩
def getJs (n : Nat) : List Jb := (List.range n).map getJ
theorem getJs_succ (n : Nat) : getJs (n + 1) = getJs n ++ [getJ n] := by
  unfold getJs
  rw [List.range_succ, List.map_append]
  rfl
theorem getJs_len (n : Nat) : (getJs n).length = n := by
  unfold getJs
  rw [List.length_map, List.length_range]
theorem dplay_gets {s : DState} (h : Good 8 s) : ∀ n, n ≤ 8 → dplay 8 s (getJs n) = (List.range n).map fun i => (0, some (has s i)) := fun n => by
  have hd : ∀ n, n ≤ 8 → dend 8 s (getJs n) = s := fun n => by
    induction n with
    | zero => intro _; rfl
    | succ n ih =>
      intro hn
      rw [getJs_succ, dend_append, ih (by omega)]
      show (jobR 8 s (getJ n)).2 = s
      rw [job_get h rfl ⟨by show (0 : Int) ≤ (n : Int); omega, by show (n : Int) < 8; omega⟩]
  induction n with
  | zero => intro _; rfl
  | succ n ih =>
    intro hn
    rw [getJs_succ, dplay_append, ih (by omega), hd n (by omega), List.range_succ, List.map_append]
    congr 1
    show [(jobR 8 s (getJ n)).1] = _
    rw [job_get h rfl ⟨by show (0 : Int) ≤ (n : Int); omega, by show (n : Int) < 8; omega⟩]
    rfl
theorem play_gets {L : List Jb} (hp : ∀ J, J ∈ L → Plain 8 J) (hl : L.length ≤ 200) : playV 8 (L ++ getJs 8) = (dplay 8 (newS 8) L ++ (List.range 8).map (fun i => (0, some (has (dend 8 (newS 8) L) i))), 0) := by
  unfold playV
  rw [if_neg (by omega), if_neg (by rw [List.length_append, getJs_len]; omega)]
  show (dplay 8 (newS 8) (L ++ getJs 8), (0 : Int)) = _
  rw [dplay_append, dplay_gets (dend_good (new_good 8) hp) 8 (Nat.le_refl _)]
/-- eight rows of 128 bytes -/
def Rows8 (w : World) (v : Value) (F : Nat → Nat → E) : Prop := ∃ ao c, v = .slice ao 8 c ∧ ∀ i, i < 8 → ∃ b o ad k, ao = some ⟨b, o, none⟩ ∧ w.cell? ⟨b, o + i, none⟩ = some (.slice ad 128 k) ∧ Byts w ad 128 (F i)
theorem Rows8.ext {w w' : World} {v : Value} {F : Nat → Nat → E} (h : Rows8 w v F) (x : Ext w w') : Rows8 w' v F := by
  obtain ⟨ao, c, hv, h1⟩ := h
  refine ⟨ao, c, hv, fun i hi => ?_⟩
  obtain ⟨b, o, ad, k, h2, h3, h4⟩ := h1 i hi
  exact ⟨b, o, ad, k, h2, x.keeps h3, h4.ext x⟩
structure GtI (w : World) (F : Nat → Nat → E) (i : Nat) (A : List Value) (v : Value) (wr : World) : Prop where
  own : wr.ownsRow w.heap.size 32 1 v i (A.map fun x => [x]).flatten
  len : A.length = i
  each : ∀ (q : Nat) (x : Value), A[q]? = some x → ∃ ad c, x = .slice ad 128 c ∧ Byts w ad 128 (F q)
  ext : Ext w wr
theorem GtI.fin {w wr : World} {F : Nat → Nat → E} {A : List Value} {v : Value} (h : GtI w F 8 A v wr) : Rows8 wr v F := by
  obtain ⟨_, a, c, hv, _, _, hE⟩ := own_els h.own (Szd.map (f := fun x => [x]) (fun x => rfl) A) (by omega)
  refine ⟨a, c, hv, fun i hi => ?_⟩
  have hil : i < A.length := by rw [h.len]; exact hi
  obtain ⟨ad, k, hx, hb⟩ := h.each i _ (List.getElem?_eq_getElem hil)
  obtain ⟨b, o, ha, hc⟩ := hE i [A[i]] (by rw [List.getElem?_map, List.getElem?_eq_getElem hil]; rfl)
  have := hc 0 _ rfl
  rw [hx, Nat.mul_one, Nat.add_zero] at this
  exact ⟨b, o, ad, k, ha, this, hb.ext h.ext⟩
theorem infoRow : (Try.prog.info? 32).map (fun i => (i.zero, i.size, i.bytes)) = some (some (.slice none 0 0), 1, 24) := by kernel_rfl
theorem GtI.snoc {w wr w4 w5 : World} {F : Nat → Nat → E} {i : Nat} {A : List Value} {v v5 : Value} (h : GtI w F i A v wr) (x : Ext wr w4) {ad : Option Addr} {c : Nat} (hb : Byts w ad 128 (F i))
    (hown : w5.ownsRow w.heap.size 32 1 v5 (i + 1) ((A.map fun x => [x]).flatten ++ [.slice ad 128 c])) (hg : w4.grownBy w5 v.ownBlock) : GtI w F (i + 1) (A ++ [.slice ad 128 c]) v5 w5 := by
  refine ⟨?_, by rw [List.length_append, h.len]; rfl, fun q y hy => ?_, (h.ext.trans x).grow hg fun k hk => own_geD (own_ext h.own x) hk⟩
  · rw [List.map_append, List.flatten_append]
    simpa using hown
  · rcases Nat.lt_or_ge q i with hq | hq
    · rw [List.getElem?_append_left (by rw [h.len]; exact hq)] at hy
      obtain ⟨ad', c', h1, h2⟩ := h.each q y hy
      exact ⟨ad', c', h1, h2⟩
    · rw [List.getElem?_append_right (by rw [h.len]; exact hq), h.len] at hy
      have e : q - i = 0 := by
        have := lt_of_get hy
        simp at this
        omega
      rw [e] at hy
      obtain rfl : q = i := by omega
      cases hy
      exact ⟨ad, c, rfl, hb⟩
theorem jobs_one (L : List Jb) : One (L.map jbC) := fun cs hcs v hv => by
  obtain ⟨J, _, rfl⟩ := List.mem_map.1 hcs
  unfold jbC at hv
  simp only [List.mem_cons, List.not_mem_nil, or_false] at hv
  rcases hv with rfl | rfl | rfl | rfl <;> rfl
theorem jobs_szd (L : List Jb) : Szd 4 (L.map jbC) := Szd.map jbC_len L
/-- jobs of a call's own: copies of L and k gets -/
structure GjI (w : World) (L : List Jb) (m k : Nat) (v : Value) (wr : World) : Prop where
  own : wr.ownsRow w.heap.size 34 4 v (m + k) ((L ++ getJs k).map jbC).flatten
  ext : Ext w wr
theorem GjI.jobs {w wr : World} {L : List Jb} {m k : Nat} {v : Value} (h : GjI w L m k v wr) {a : Option Addr} (hJ : Jobs w a L) : ∃ ad c, v = .slice ad (m + k) c ∧ Jobs wr ad (L ++ getJs k) := by
  obtain ⟨_, ad, c, hv, _, _, hE⟩ := own_els h.own (jobs_szd _) (by omega)
  refine ⟨ad, c, hv, hE, fun J hJm => ?_⟩
  rcases List.mem_append.1 hJm with h1 | h1
  · exact ⟨(hJ.2 J h1).1.ext h.ext, (hJ.2 J h1).2⟩
  · obtain ⟨i, _, rfl⟩ := List.mem_map.1 h1
    exact ⟨fun i hi => absurd hi (Nat.not_lt_zero i), by show (0 : Nat) ≤ _; omega⟩
theorem GjI.snoc {w wr w4 w5 : World} {L : List Jb} {m k : Nat} {v v5 : Value} (h : GjI w L m k v wr) (x : Ext wr w4)
    (hown : w5.ownsRow w.heap.size 34 4 v5 (m + k + 1) (((L ++ getJs k).map jbC).flatten ++ [.int .i64 2, .int .i64 (k : Int), .int .i64 0, .slice none 0 0])) (hg : w4.grownBy w5 v.ownBlock) : GjI w L m (k + 1) v5 w5 := by
  refine ⟨?_, (h.ext.trans x).grow hg fun q hq => own_geD (own_ext h.own x) hq⟩
  rw [getJs_succ, ← List.append_assoc, List.map_append, List.flatten_append]
  simpa [jbC, getJ, Nat.add_assoc] using hown
theorem build_get (k : Int) (w : World) : (Instr.build 34 #[(0, .int .i64 2), (1, .int .i64 k)]).run Try.prog w = .ok (.agg #[.int .i64 2, .int .i64 k, .int .i64 0, .slice none 0 0]) w := by
  simp [Instr.build, run_underlying Try.underlying34, go_sem]
theorem rep_get {w : World} {a : Option Addr} {T : List (Int × Option (Nat → E))} (h : Replies w a T) {q : Nat} {c : Int} {f : Nat → E} (hq : T[q]? = some (c, some f)) :
    ∃ b o ad k, a = some ⟨b, o, none⟩ ∧ w.cell? ⟨b, o + q * 2, none⟩ = some (.int .i64 c) ∧ w.cell? ⟨b, o + q * 2 + 1, none⟩ = some (.slice ad 128 k) ∧ Byts w ad 128 f := by
  obtain ⟨R, hl, hE, he⟩ := h
  have hlt : q < R.length := by rw [hl]; exact lt_of_get hq
  have hr := List.getElem?_eq_getElem hlt
  obtain ⟨h1, h2⟩ := he q _ _ hr hq
  obtain ⟨ad, k, h3, h4⟩ := h2
  obtain ⟨b, o, ha, hc⟩ := hE q (rpC R[q]) (by rw [List.getElem?_map, hr]; rfl)
  have c0 := hc 0 _ rfl
  have c1 := hc 1 _ rfl
  rw [h1] at c0
  rw [h3] at c1
  exact ⟨b, o, ad, k, ha, c0, c1, h4⟩
set_option maxRecDepth 100000 in
set_option maxHeartbeats 3200000 in
theorem gets_any (a : Option Addr) (m c : Nat) (L : List Jb) (w : World) (hl : L.length = m) (hm : m ≤ 200) (h : Jobs w a L) (hp : ∀ J, J ∈ L → Plain 8 J) :
    Calls Try.prog 12 #[.slice a m c] w fun e w' => (∃ v, e = .returned (.tuple #[v, .bool true]) ∧ Rows8 w' v (fun i => has (dend 8 (newS 8) L) i)) ∧ Ext w w' := by
  have HL : Hid (L.length = m) := hl
  have HJ : Hid (Jobs w a L) := h
  have HP : Hid (playV 8 (L ++ getJs 8) = (dplay 8 (newS 8) L ++ (List.range 8).map (fun i => (0, some (has (dend 8 (newS 8) L) i))), 0)) := play_gets hp (by omega)
  clear h hl hp
  go_enter Try.func12, Try.ntmps12
  go_wp2_with (first | (at_builtin; refine append_els _ rfl (.const (.slice none 0 0)) (.tmp 11) 22 rfl 4 (by omega) w.heap.size 34 (.agg #[.int .i64 0, .int .i64 0, .int .i64 0, .slice none 0 0]) 48 Try.underlying22 infoJob rfl (.slice none 0 0) 0 [] rfl ?_ a m c (L.map jbC) ?_ rfl ?_ (jobs_szd L) (jobs_one L) ?_ ?_ ?_ ?_ ?_) | go_in)
  · exact World.ownsRow_nil _ _ _ _
  · rw [List.length_map]; exact HL.out
  · exact HJ.out.1
  · omega
  · omega
  · omega
  · exact Nat.le_refl _
  intro v1 w1 hown1 hg1
  have HI : Hid (GjI w L m 0 v1 w1) := ⟨by simpa [getJs] using hown1, (Ext.refl w).grow hg1 fun k hk => by cases hk⟩
  clear hown1 hg1
  go_wp2_with fail
  go_loopw [4, 5] (fun v i wr => ∃ k : Nat, k ≤ 8 ∧ i = .int .i64 k ∧ GjI w L m k v wr) (fun _ i _ => 8 - (intOf i).toNat)
  case atStart => exact ⟨0, by omega, rfl, HI.out⟩
  case round =>
    clear HI
    obtain ⟨k, hk, rfl, hgi⟩ := hrel
    have HG : Hid (GjI w L m k u4 wr) := hgi
    clear hgi
    by_cases hlt : k < 8
    · have hbd := build_get (k : Int)
      go_wp2_with (first | (at_builtin; refine append_els _ rfl (.tmp 17) (.tmp 20) 22 rfl 4 (by omega) w.heap.size 34 (.agg #[.int .i64 0, .int .i64 0, .int .i64 0, .slice none 0 0]) 48 Try.underlying22 infoJob rfl u4 (m + k) ((L ++ getJs k).map jbC) rfl ?_ (some ⟨wr.heap.size, 0, none⟩) 1 1 [[.int .i64 2, .int .i64 (k : Int), .int .i64 0, .slice none 0 0]] rfl rfl ?_ (Szd.one rfl) ?_ ?_ ?_ ?_ ?_ ?_) | go_in)
      · exact own_ext HG.out.own ((Ext.refl wr).alloc _ _)
      · exact els_new _ _ rfl _ _ _
      · intro cs hcs v hv
        rw [List.mem_singleton.1 hcs] at hv
        simp only [List.mem_cons, List.not_mem_nil, or_false] at hv
        rcases hv with rfl | rfl | rfl | rfl <;> rfl
      · omega
      · omega
      · omega
      · exact (HG.out.ext.alloc _ _).size
      intro v5 w5 hown5 hgrow5
      have HG5 : Hid (GjI w L m (k + 1) v5 w5) := HG.out.snoc ((Ext.refl wr).alloc _ _) (by simpa using hown5) hgrow5
      clear hown5 hgrow5
      go_wp2_with fail
      go_roundw
      case rel => exact ⟨k + 1, by omega, by go_num, HG5.out⟩
      case measure => simp [intOf]; omega
    · obtain rfl : k = 8 := by omega
      obtain ⟨ad, c', rfl, hJ⟩ := HG.out.jobs HJ.out
      have hll : (L ++ getJs 8).length = m + 8 := by rw [List.length_append, getJs_len, HL.out]
      have hdp := drPlay_any 8 ad (m + 8) c' (L ++ getJs 8) wr hll (by omega) hJ
      rw [HP.out] at hdp
      have HDP : Hid (Calls Try.prog 8 #[.int .i64 8, .slice ad (m + 8) c'] wr fun e w' => DpRes (dplay 8 (newS 8) L ++ (List.range 8).map (fun i => ((0 : Int), some (has (dend 8 (newS 8) L) i))), 0) e w' ∧ Ext wr w') := hdp
      clear hdp hJ hll hlt hk
      go_wp2_with fail
      refine HDP.out.mono ?_
      rintro e w2 ⟨⟨ar, cr, he, hrep⟩, hx2⟩
      have hT : (dplay 8 (newS 8) L ++ (List.range 8).map (fun i => ((0 : Int), some (has (dend 8 (newS 8) L) i)))).length = m + 8 := by rw [List.length_append, dplay_len, HL.out, List.length_map, List.length_range]
      rw [hT] at he
      subst he
      have HRep : Hid (∀ i, i < 8 → ∃ b o ad k, ar = some ⟨b, o, none⟩ ∧ w2.cell? ⟨b, o + (m + i) * 2, none⟩ = some (.int .i64 0) ∧ w2.cell? ⟨b, o + (m + i) * 2 + 1, none⟩ = some (.slice ad 128 k) ∧ Byts w2 ad 128 (has (dend 8 (newS 8) L) i)) := fun i hi => by
        refine rep_get hrep ?_
        rw [List.getElem?_append_right (by rw [dplay_len, HL.out]; omega), dplay_len, HL.out, Nat.add_sub_cancel_left, range_get _ hi]
      have HX : Hid (Ext w w2) := HG.out.ext.trans hx2
      clear hrep hT hx2 HDP
      go_wp2_with fail
      go_loopw [8, 9] (fun v i wr => ∃ (k : Nat) (A : List Value), k ≤ 8 ∧ i = .int .i64 k ∧ GtI w2 (fun i => has (dend 8 (newS 8) L) i) k A v wr) (fun _ i _ => 8 - (intOf i).toNat)
      case atStart => exact ⟨0, [], by omega, rfl, ⟨World.ownsRow_nil _ _ _ _, rfl, fun q x hx => by simp at hx, Ext.refl _⟩⟩
      case round =>
        clear HG
        obtain ⟨k, A, hk, rfl, hgi⟩ := hrel
        have HG : Hid (GtI w2 (fun i => has (dend 8 (newS 8) L) i) k A u8 wr) := hgi
        by_cases hlt : k < 8
        · obtain ⟨b, o, ad5, k5, rfl, hc0, hc1, hb⟩ := HRep.out k hlt
          replace hc0 := hgi.ext.keeps hc0
          replace hc1 := hgi.ext.keeps hc1
          have HB : Hid (Byts w2 ad5 128 (has (dend 8 (newS 8) L) k)) := hb
          clear hb hgi
          have i1 : (m : Int) + (k : Int) < ((m + 8 : Nat) : Int) := by omega
          have i2 : (0 : Int) ≤ (m : Int) + (k : Int) := by omega
          have i3 : ((m : Int) + (k : Int)).toNat = m + k := by omega
          have x2 : Ext wr (wr.alloc (.cells #[.int .i64 0, .slice ad5 128 k5] 46)) := (Ext.refl wr).alloc _ _
          have n0 := new_cell wr #[.int .i64 0, .slice ad5 128 k5] 46 0
          have n1 := new_cell wr #[.int .i64 0, .slice ad5 128 k5] 46 1
          go_wp2_with (first | (at_builtin; refine append_els _ rfl (.tmp 56) (.tmp 59) 35 rfl 1 (by omega) w2.heap.size 32 (.slice none 0 0) 24 Try.underlying35 infoRow rfl u8 k (A.map fun x => [x]) rfl ?_ (some ⟨wr.heap.size + 1, 0, none⟩) 1 1 [[.slice ad5 128 k5]] rfl rfl ?_ (Szd.one rfl) ?_ ?_ ?_ ?_ ?_ ?_) | go_in)
          · exact own_ext HG.out.own (((Ext.refl wr).alloc _ _).alloc _ _)
          · exact els_new _ _ (by rw [World.size_alloc]) _ _ _
          · intro cs hcs v hv
            rw [List.mem_singleton.1 hcs] at hv
            rw [List.mem_singleton.1 hv]
            rfl
          · omega
          · omega
          · omega
          · exact ((HG.out.ext.alloc _ _).alloc _ _).size
          intro v5 w5 hown5 hgrow5
          have HG5 : Hid (GtI w2 (fun i => has (dend 8 (newS 8) L) i) (k + 1) (A ++ [.slice ad5 128 k5]) v5 w5) := HG.out.snoc (((Ext.refl wr).alloc _ _).alloc _ _) HB.out (by simpa using hown5) hgrow5
          clear hown5 hgrow5
          go_wp2_with fail
          go_roundw
          case rel => exact ⟨k + 1, _, by omega, by go_num, HG5.out⟩
          case measure => simp [intOf]; omega
        · obtain rfl : k = 8 := by omega
          have HR := HG.out.fin
          clear hgi
          go_wp2_with fail
          go_ret2
          exact ⟨⟨_, rfl, HR⟩, HX.out.trans HG.out.ext⟩
end Go.Proofs.Ytgboboojjboocaa
