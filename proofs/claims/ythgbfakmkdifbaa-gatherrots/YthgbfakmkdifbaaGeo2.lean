/-
  quicksetkeep.Shape: drives and parity that may be.
-/
import Derived.Test.YthgbfakmkdifbaaChecked
import Derived.WalkKit
import Derived.BigQuiet
import Derived.Test.YthgbfakmkdifbaaKeeps
import Derived.Test.YthgbfakmkdifbaaGeos
import Derived.Deep.QuietTactic
import Derived.OwnWalk
import Derived.Deep.MidRow
namespace Go.Proofs.Ythgbfakmkdifbaa
open Go.RowKit
set_option maxRecDepth 100000 in
theorem Shape_nat (d p : Int) (hd : -9223372036854775808 ≤ d ∧ d ≤ 9223372036854775807) (hp : -9223372036854775808 ≤ p ∧ p ≤ 9223372036854775807) :
    ∃ D P : Nat, 2 ≤ D ∧ D ≤ 8 ∧ 1 ≤ P ∧ P ≤ 3 ∧ P < D ∧ ∀ w, Calls Try.prog 12 #[.int .i64 d, .int .i64 p] w fun e w' => e = .returned (.tuple #[.int .i64 (D : Nat), .int .i64 (P : Nat)]) ∧ w' = w := by
  obtain ⟨D, hD, hD1⟩ := picked_is d 7 (by omega)
  obtain ⟨M, hM⟩ : ∃ M : Nat, M = min 3 (D + 1) := ⟨_, rfl⟩
  obtain ⟨P, hP, hP1⟩ := picked_is p (M : Int) (by omega)
  refine ⟨2 + D, 1 + P, by omega, by omega, by omega, by omega, by omega, fun w => ?_⟩
  have H1 : Hid (Calls Try.prog 13 #[.int .i64 d, .int .i64 7] w fun e w' => e = .returned (.int .i64 D) ∧ w' = w) := Picked_bd d 7 D w (by omega) (by omega) hd hD
  have H2 : Hid (Calls Try.prog 13 #[.int .i64 p, .int .i64 (M : Int)] w fun e w' => e = .returned (.int .i64 P) ∧ w' = w) := Picked_bd p M P w (by omega) (by omega) hp hP
  by_cases h : D < 2
  · obtain rfl : M = D + 1 := by omega
    have hgo : ¬ (3 : Int) ≤ 2 + (D : Int) - 1 := by omega
    have hmi : min (3 : Int) (2 + (D : Int) - 1) = (D + 1 : Nat) := by omega
    clear hM hP
    have hc : ((D + 1 : Nat) : Int) = 2 + (D : Int) - 1 := by omega
    rw [hc] at H2
    clear hc
    go_enter Try.func12, Try.ntmps12
    go_wp2_with fail
    refine H1.out.mono ?_
    rintro e w1 ⟨rfl, rfl⟩
    go_wp2_with fail
    refine H2.out.mono ?_
    rintro e w1 ⟨rfl, rfl⟩
    go_wp2_with fail
    go_ret2
    exact ⟨ret_two (by omega) (by omega), rfl⟩
  · obtain rfl : M = 3 := by omega
    have hgo : (3 : Int) ≤ 2 + (D : Int) - 1 := by omega
    have hmi : min (3 : Int) (2 + (D : Int) - 1) = 3 := by omega
    clear hM hP
    go_enter Try.func12, Try.ntmps12
    go_wp2_with fail
    refine H1.out.mono ?_
    rintro e w1 ⟨rfl, rfl⟩
    go_wp2_with fail
    refine H2.out.mono ?_
    rintro e w1 ⟨rfl, rfl⟩
    go_wp2_with fail
    go_ret2
    exact ⟨ret_two (by omega) (by omega), rfl⟩
end Go.Proofs.Ythgbfakmkdifbaa
/-
  sameColumns at two slices that hold the same columns.
-/
namespace Go.Proofs.Ythgbfakmkdifbaa
open Go.RowKit Go.Deep
theorem Ext.drewG {a w : World} (h : Ext a w) (n : Nat) : Ext a (w.drewN n) := h.trans ⟨⟨rfl, rfl, rfl, Nat.le_refl _, fun _ _ => rfl⟩⟩
def Col4 (cs : List Value) : Prop := ∃ (x y z : Int) (b : Bool), cs = [.int .i64 x, .int .i64 y, .int .i64 z, .bool b]
theorem gcL_col (d p a c : Int) : ∀ cs, cs ∈ gcL d p a c → Col4 cs := fun cs h => by
  unfold gcL at h
  split at h
  · obtain ⟨i, _, rfl⟩ := List.mem_map.1 h
    exact ⟨_, _, _, _, rfl⟩
  · simp at h
theorem col_at {w : World} {a : Option Addr} {L : List (List Value)} (h : Els w a 4 L) {q : Nat} {x y z : Int} {b : Bool} (hq : L[q]? = some [.int .i64 x, .int .i64 y, .int .i64 z, .bool b]) :
    ∃ k o, a = some ⟨k, o, none⟩ ∧ w.cell? ⟨k, o + q * 4, none⟩ = some (.int .i64 x) ∧ w.cell? ⟨k, o + q * 4 + 1, none⟩ = some (.int .i64 y) ∧ w.cell? ⟨k, o + q * 4 + 2, none⟩ = some (.int .i64 z) ∧ w.cell? ⟨k, o + q * 4 + 3, none⟩ = some (.bool b) := by
  obtain ⟨k, o, h1, h2⟩ := h q _ hq
  exact ⟨k, o, h1, h2 0 _ rfl, h2 1 _ rfl, h2 2 _ rfl, h2 3 _ rfl⟩
end Go.Proofs.Ythgbfakmkdifbaa
/-
  geom.Columns at every four ints: the columns, in new memory.
-/
namespace Go.Proofs.Ythgbfakmkdifbaa
open Go.RowKit Go.Deep
/-- the columns ahead of k are done -/
def doneF (F : Nat → List Value) (k i : Nat) : List Value := if i < k then F i else zc4
theorem doneF_len {F : Nat → List Value} (h : ∀ i, (F i).length = 4) (k i : Nat) : (doneF F k i).length = 4 := by
  unfold doneF
  split <;> first | exact h i | rfl
theorem make_gc (w : World) {ops : Array Oper} {rest : List Oper} {o : Oper} {a : Act} {Q : Exit → Act → World → Prop} (hg : o.guard = none) (l c : Operand) (hop : o.op = Op.makeSlice 51 l c)
    (L : Int) (n : Nat) (hl : a.eval l = .int .i64 L) (hc : a.eval c = .int .i64 L) (hL : L = (n : Int)) (hn : n ≤ 64) (w0 : World) (hx : Ext w0 w)
    (hK : ∀ g w', w0.heap.size ≤ g → GcI w0 (.slice (some ⟨g, 0, none⟩) n n) n (fun _ => zc4) w' → wpList Try.prog ops Q rest (a.put o.dst (.slice (some ⟨g, 0, none⟩) n n)) w') : wpList Try.prog ops Q (o :: rest) a w := by
  obtain ⟨i0, hi, hz0, hz1, hz2⟩ := info_parts infoCol
  refine wpList_make_full w hg l c 51 hop w0.heap.size 59 i0 _ 4 Try.underlying51 hi hz0 hz1 .i64 .i64 L L n hl hc hL hL ?_ ?_ hx.size ?_
  · rw [hz2]; omega
  · unfold maxLen; omega
  · intro w' h1 h2
    refine hK _ _ hx.size ⟨?_, fun _ => rfl, hx.grow h2 fun k hk => by cases hk⟩
    have e := made_flat (zs := zc4) (sz := 4) (by omega) rfl n
    rw [rep_range] at e
    rw [← e]
    exact h1
theorem sizeCol : (Try.prog.info? 59).map (·.size) = some 4 := by kernel_rfl
theorem GcI.grown {w wr w' : World} {v : Value} {m : Nat} {f : Nat → List Value} (h : GcI w v m f wr) (x : Ext wr w') : GcI w v m f w' := ⟨own_ext h.own x, h.len, h.ext.trans x⟩
def colF (d p a F G i : Nat) : List Value := cell4 d p a (fun i => F + if i < G then 1 else 0) i
theorem gc_inc {d p a F G k : Nat} {b : Bool} (hb : decide (k < p) = b) (hg : k < G) {u v : Value} (hv : v = .int .i64 ((F + 1 : Nat) : Int)) {X1 X2 : Nat} (h1 : X1 = (a + k) % d) (h2 : X2 = (a + k) / d) (i : Nat) :
    (if i = k then (if k = k then [Value.int .i64 X1, .int .i64 X2, u, .bool b] else if k < k then colF d p a F G k else zc4).set 2 v else if i = k then [Value.int .i64 X1, .int .i64 X2, u, .bool b] else if i < k then colF d p a F G i else zc4) = if i < k + 1 then colF d p a F G i else zc4 := by
  by_cases e : i = k
  · subst e
    rw [if_pos rfl, if_pos rfl, if_pos (by omega)]
    unfold colF cell4
    simp only [hv, hb, h1, h2, if_pos hg]
    rfl
  · rw [if_neg e, if_neg e]
    by_cases l : i < k
    · rw [if_pos l, if_pos (by omega)]
    · rw [if_neg l, if_neg (by omega)]
theorem gc_put {d p a F G k : Nat} {b : Bool} (hb : decide (k < p) = b) (hg : ¬ k < G) {u : Value} (hu : u = .int .i64 ((F : Nat) : Int)) {X1 X2 : Nat} (h1 : X1 = (a + k) % d) (h2 : X2 = (a + k) / d) (i : Nat) :
    (if i = k then [Value.int .i64 X1, .int .i64 X2, u, .bool b] else if i < k then colF d p a F G i else zc4) = if i < k + 1 then colF d p a F G i else zc4 := by
  by_cases e : i = k
  · subst e
    rw [if_pos rfl, if_pos (by omega)]
    unfold colF cell4
    simp only [hu, hb, h1, h2, if_neg hg]
    rfl
  · rw [if_neg e]
    by_cases l : i < k
    · rw [if_pos l, if_pos (by omega)]
    · rw [if_neg l, if_neg (by omega)]
theorem gc_same {d p a c F G i : Nat} (h : cntC d p c i = F + if i < G then 1 else 0) : colF d p a F G i = cell4 d p a (cntC d p c) i := by
  unfold colF cell4
  simp only [h]
set_option maxRecDepth 100000 in
set_option maxHeartbeats 6400000 in
theorem Columns_any (d p a c : Int) (w : World) : Calls Try.prog 37 #[.int .i64 d, .int .i64 p, .int .i64 a, .int .i64 c] w fun e w' => GcRes d p a c e w' ∧ Ext w w' := by
  have H1 := geoDrives_any d w
  have H2 := geoParity_any d p w
  have H3 := geoCount_any c w
  have H4 := geoAddr_any a w
  cases h1 : okD d with
  | false =>
    have HV : Hid (okG d p a c = false) := by show _ = _; simp [okG, h1]
    rw [h1] at H1
    go_enter Try.func37, Try.ntmps37
    go_wp2_with fail
    refine H1.mono ?_
    rintro e w1 ⟨rfl, rfl⟩
    go_wp2_with fail
    go_ret2
    exact ⟨GcRes.no HV.out, Ext.refl _⟩
  | true =>
    rw [h1] at H1
    cases h2 : okPar d p with
    | false =>
      have HV : Hid (okG d p a c = false) := by show _ = _; simp [okG, h2]
      rw [h2] at H2
      go_enter Try.func37, Try.ntmps37
      go_wp2_with fail
      refine H1.mono ?_
      rintro e w1 ⟨rfl, rfl⟩
      go_wp2_with fail
      refine H2.mono ?_
      rintro e w1 ⟨rfl, rfl⟩
      go_wp2_with fail
      go_ret2
      exact ⟨GcRes.no HV.out, Ext.refl _⟩
    | true =>
      rw [h2] at H2
      cases h3 : okCnt c with
      | false =>
        have HV : Hid (okG d p a c = false) := by show _ = _; simp [okG, h3]
        rw [h3] at H3
        go_enter Try.func37, Try.ntmps37
        go_wp2_with fail
        refine H1.mono ?_
        rintro e w1 ⟨rfl, rfl⟩
        go_wp2_with fail
        refine H2.mono ?_
        rintro e w1 ⟨rfl, rfl⟩
        go_wp2_with fail
        refine H3.mono ?_
        rintro e w1 ⟨rfl, rfl⟩
        go_wp2_with fail
        go_ret2
        exact ⟨GcRes.no HV.out, Ext.refl _⟩
      | true =>
        rw [h3] at H3
        cases h4 : okAd a with
        | false =>
          have HV : Hid (okG d p a c = false) := by show _ = _; simp [okG, h4]
          rw [h4] at H4
          go_enter Try.func37, Try.ntmps37
          go_wp2_with fail
          refine H1.mono ?_
          rintro e w1 ⟨rfl, rfl⟩
          go_wp2_with fail
          refine H2.mono ?_
          rintro e w1 ⟨rfl, rfl⟩
          go_wp2_with fail
          refine H3.mono ?_
          rintro e w1 ⟨rfl, rfl⟩
          go_wp2_with fail
          refine H4.mono ?_
          rintro e w1 ⟨rfl, rfl⟩
          go_wp2_with fail
          go_ret2
          exact ⟨GcRes.no HV.out, Ext.refl _⟩
        | true =>
          rw [h4] at H4
          have hd := (okD_iff d).1 h1
          have hp := (okPar_iff d p).1 h2
          have hc := (okCnt_iff c).1 h3
          have ha := (okAd_iff a).1 h4
          have HV : Hid (okG d p a c = true) := by show _ = _; simp [okG, h1, h2, h3, h4]
          clear h1 h2 h3 h4
          obtain ⟨x, rfl⟩ := Int.eq_ofNat_of_zero_le (show 0 ≤ d by omega)
          obtain ⟨y, rfl⟩ := Int.eq_ofNat_of_zero_le (show 0 ≤ p by omega)
          obtain ⟨z, rfl⟩ := Int.eq_ofNat_of_zero_le (show 0 ≤ c by omega)
          obtain ⟨q, rfl⟩ := Int.eq_ofNat_of_zero_le (show 0 ≤ a by omega)
          obtain ⟨wd, hwd⟩ : ∃ wd : Nat, wd = x - y := ⟨_, rfl⟩
          have hz : ((x : Int) - (y : Int) == 0) = false := by rw [beq_eq_false_iff_ne]; omega
          obtain ⟨F, hF⟩ : ∃ F : Nat, F = z / wd := ⟨_, rfl⟩
          obtain ⟨R, hR⟩ : ∃ R : Nat, R = z % wd := ⟨_, rfl⟩
          have hq : (z : Int).tdiv ((x : Int) - (y : Int)) = F := by
            rw [Int.tdiv_eq_ediv_of_nonneg (by omega), show (x : Int) - (y : Int) = (wd : Nat) by omega, hF]
            rfl
          have hr : (z : Int).tmod ((x : Int) - (y : Int)) = R := by
            rw [Int.tmod_eq_emod_of_nonneg (by omega), show (x : Int) - (y : Int) = (wd : Nat) by omega, hR]
            rfl
          have hq' : (z : Int) / ((x : Int) - (y : Int)) = F := by rw [← hq, Int.tdiv_eq_ediv_of_nonneg (by omega)]
          have hr' : (z : Int) % ((x : Int) - (y : Int)) = R := by rw [← hr, Int.tmod_eq_emod_of_nonneg (by omega)]
          have hdm := Nat.div_add_mod z wd
          have hRl : R < wd := by rw [hR]; exact Nat.mod_lt _ (by omega)
          have hFz : F ≤ z := by rw [hF]; exact Nat.div_le_self _ _
          rw [← hF, ← hR] at hdm
          have HG : Hid (∀ i, i < colN x y z → cntC x y z i = F + if i < (if R = 0 then 0 else y + R) then 1 else 0) := fun i hi => by
            have := cnt_is x y z i (by omega) (by omega) (by omega) (by omega) (by omega) (by omega) (by omega) hi
            unfold lonG at this
            rw [← hwd, ← hF, ← hR] at this
            exact this
          have HNn : Hid (colN x y z = if F = 0 then y + R else x) := by
            show _ = _
            unfold colN nRow
            rw [← hwd, Nat.zero_mul, Nat.sub_zero]
            by_cases h0 : F = 0
            · rw [if_pos h0]
              rw [h0, Nat.mul_zero] at hdm
              omega
            · rw [if_neg h0]
              have : wd * 1 ≤ wd * F := Nat.mul_le_mul_left _ (by omega)
              omega
          have HFR : Hid (F = 0 → R ≠ 0) := fun h0 hr0 => by
            rw [h0, hr0, Nat.mul_zero] at hdm
            omega
          have hb3 : wd ≤ 8 := by omega
          have hb4 : F ≤ 32 := by omega
          have HW : Hid (x = y + wd) := (by omega : x = y + wd)
          clear hF hR hdm hwd
          by_cases h0 : F = 0
          · subst h0
            have hRn := HFR.out rfl
            have hrb : ((R : Int) != 0) = true := by rw [bne_iff_ne]; omega
            have hN := HNn.out
            rw [if_pos rfl] at hN
            have HG2 : Hid (∀ i, i < y + R → cntC x y z i = 0 + if i < y + R then 1 else 0) := fun i hi => by
              have := HG.out i (by rw [hN]; exact hi)
              rw [if_neg hRn] at this
              exact this
            have HN : Hid (y + R = colN x y z) := hN.symm
            clear hN HG HNn HFR
            go_enter Try.func37, Try.ntmps37
            go_wp2_with fail
            refine H1.mono ?_
            rintro e w1 ⟨rfl, rfl⟩
            go_wp2_with fail
            refine H2.mono ?_
            rintro e w1 ⟨rfl, rfl⟩
            go_wp2_with fail
            refine H3.mono ?_
            rintro e w1 ⟨rfl, rfl⟩
            go_wp2_with fail
            refine H4.mono ?_
            rintro e w1 ⟨rfl, rfl⟩
            clear H1 H2 H3 H4
            go_wp2_with fail
            go_region
            go_wp2_with (first | (at_make; refine make_gc _ rfl (.tmp 51) (.tmp 51) rfl (x : Int) x rfl rfl rfl (by omega) w1 (Ext.refl w1).drew ?_; intro g0 w5 _ hg5; have x5 : Ext w1 w5 := hg5.ext; clear hg5) | (at_make; refine make_gc _ rfl (.tmp 55) (.tmp 55) rfl ((y : Int) + (R : Int)) (y + R) rfl rfl (by omega) (by omega) w1 x5 ?_; intro g w6 hlo hgi) | go_in)
          --LOOP0
            go_loopw [59] (fun i wr => ∃ k : Nat, k ≤ y + R ∧ i = .int .i64 k ∧ GcI w1 (.slice (some ⟨g, 0, none⟩) (y + R) (y + R)) (y + R) (fun i => if i < k then colF x y q (0) (y + R) i else zc4) wr) (fun i _ => y + R - (intOf i).toNat)
            case atStart => exact ⟨0, Nat.zero_le _, rfl, hgi.congr (fun i => by split <;> rfl) fun i _ => (if_neg (by omega)).symm⟩
            case round =>
              obtain ⟨k, hk, rfl, hgk⟩ := hrel
              have HK : Hid (GcI w1 (.slice (some ⟨g, 0, none⟩) (y + R) (y + R)) (y + R) (fun i => if i < k then colF x y q (0) (y + R) i else zc4) wr) := hgk
              clear hgk
              by_cases hlt : k < y + R
              · have hkI : (k : Int) < ((y + R : Nat) : Int) := by omega
                have hkI2 : (k : Int) < ((y : Int) + (R : Int)) := by omega
                obtain ⟨X1, hX1⟩ : ∃ X1 : Nat, X1 = (q + k) % x := ⟨_, rfl⟩
                obtain ⟨X2, hX2⟩ : ∃ X2 : Nat, X2 = (q + k) / x := ⟨_, rfl⟩
                have HX1 : Hid (X1 = (q + k) % x) := hX1
                have HX2 : Hid (X2 = (q + k) / x) := hX2
                have hsp : Hid (Calls Try.prog 60 #[.int .i64 x, .int .i64 ((q : Int) + (k : Int))] wr fun e w' => e = .returned (.tuple #[.int .i64 X1, .int .i64 X2]) ∧ Ext wr w') := by
                  have := spot_any x (q + k) wr (by omega) (by omega) (by omega)
                  rw [show ((q + k : Nat) : Int) = (q : Int) + (k : Int) by omega, ← hX1, ← hX2] at this
                  exact this
                clear hX1 hX2
                go_wp2_with fail
                refine hsp.out.mono ?_
                rintro e w7 ⟨rfl, hx7⟩
                have hk7 : GcI w1 (.slice (some ⟨g, 0, none⟩) (y + R) (y + R)) (y + R) (fun i => if i < k then colF x y q (0) (y + R) i else zc4) w7 := HK.out.grown hx7
                have ht : ∀ b : Bool, w7.there g (k * 4) #[Value.int .i64 X1, .int .i64 X2, .int .i64 0, .bool b].size := fun b => by
                  rw [show #[Value.int .i64 X1, .int .i64 X2, .int .i64 0, .bool b].size = 4 from rfl]
                  exact hk7.there hlt
                have hif : ∀ b : Bool, (Try.prog.info? 59).map (·.size) = some #[Value.int .i64 X1, .int .i64 X2, .int .i64 0, .bool b].size := fun b => sizeCol
                have hone : ∀ b : Bool, #[Value.int .i64 X1, .int .i64 X2, .int .i64 0, .bool b].all (·.oneCell') = true := fun b => by simp [Value.oneCell']
                have HP : Hid (∀ b : Bool, GcI w1 (.slice (some ⟨g, 0, none⟩) (y + R) (y + R)) (y + R) (fun i => if i = k then [.int .i64 X1, .int .i64 X2, .int .i64 0, .bool b] else if i < k then colF x y q (0) (y + R) i else zc4) (w7.setCells g (k * 4) [.int .i64 X1, .int .i64 X2, .int .i64 0, .bool b])) := fun b => hk7.put hlo hlt rfl
                have c2 : ∀ b : Bool, (w7.setCells g (k * 4) [.int .i64 X1, .int .i64 X2, .int .i64 0, .bool b]).cell? ⟨g, k * 4 + 2, none⟩ = some (.int .i64 0) := fun b => ((HP.out b).cell hlt (j := 2) (by rw [if_pos rfl]; rfl)).1
                have c3 : ∀ b : Bool, (w7.setCells g (k * 4) [.int .i64 X1, .int .i64 X2, .int .i64 0, .bool b]).frozen? ⟨g, k * 4 + 2, none⟩ = false := fun b => ((HP.out b).cell hlt (j := 2) (v := .int .i64 0) (by rw [if_pos rfl]; rfl)).2
                clear hk7
                by_cases hky : k < y
                · have hkyI : (k : Int) < (y : Int) := by omega
                  by_cases hkg : k < y + R
                  · have hkgI : (k : Int) < ((y : Int) + (R : Int)) := by omega
                    have c2 := c2 true
                    have c3 := c3 true
                    go_wp2_with (first | (refine wpList_store_mid rfl 59 _ _ rfl g (k * 4) #[.int .i64 X1, .int .i64 X2, .int .i64 0, .bool true] rfl rfl ?_ (hif true) (hone true) ?_; exact ht true) | fail)
                    go_roundw
                    case rel =>
                      refine ⟨k + 1, by omega, by go_num, ?_⟩
                      refine ((HP.out true).set hlo hlt (j := 2) (by omega) _).congr (fun i => by split <;> rfl) fun i hi => ?_
                      exact gc_inc (decide_eq_true hky) hkg rfl HX1.out HX2.out i
                    case measure => simp [intOf]; omega
                  · exact absurd hlt hkg
                · have hkyI : ¬ (k : Int) < (y : Int) := by omega
                  by_cases hkg : k < y + R
                  · have hkgI : (k : Int) < ((y : Int) + (R : Int)) := by omega
                    have c2 := c2 false
                    have c3 := c3 false
                    go_wp2_with (first | (refine wpList_store_mid rfl 59 _ _ rfl g (k * 4) #[.int .i64 X1, .int .i64 X2, .int .i64 0, .bool false] rfl rfl ?_ (hif false) (hone false) ?_; exact ht false) | fail)
                    go_roundw
                    case rel =>
                      refine ⟨k + 1, by omega, by go_num, ?_⟩
                      refine ((HP.out false).set hlo hlt (j := 2) (by omega) _).congr (fun i => by split <;> rfl) fun i hi => ?_
                      exact gc_inc (decide_eq_false hky) hkg rfl HX1.out HX2.out i
                    case measure => simp [intOf]; omega
                  · exact absurd hlt hkg
              · obtain rfl : k = y + R := by omega
                clear hlt hk
                go_wp2_with fail
                go_ret2
                exact ⟨GcRes.yes HV.out HK.out HN.out fun i hi => by rw [if_pos hi]; exact gc_same (HG2.out i hi), HK.out.ext⟩
          --ENDLOOP0
          · have hN := HNn.out
            rw [if_neg h0] at hN
            have HN : Hid (x = colN x y z) := hN.symm
            have hFb : ((F : Int) == 0) = false := by rw [beq_eq_false_iff_ne]; omega
            by_cases hR0 : R = 0
            · subst hR0
              have HG2 : Hid (∀ i, i < x → cntC x y z i = F + if i < 0 then 1 else 0) := fun i hi => by
                have := HG.out i (by rw [hN]; exact hi)
                rw [if_pos rfl] at this
                exact this
              have hr2 : (z : Int).tmod ((x : Int) - (y : Int)) = 0 := hr
              have hr3 : (z : Int) % ((x : Int) - (y : Int)) = 0 := hr'
              clear hr hr' hN
              clear HG HNn HFR
              go_enter Try.func37, Try.ntmps37
              go_wp2_with fail
              refine H1.mono ?_
              rintro e w1 ⟨rfl, rfl⟩
              go_wp2_with fail
              refine H2.mono ?_
              rintro e w1 ⟨rfl, rfl⟩
              go_wp2_with fail
              refine H3.mono ?_
              rintro e w1 ⟨rfl, rfl⟩
              go_wp2_with fail
              refine H4.mono ?_
              rintro e w1 ⟨rfl, rfl⟩
              clear H1 H2 H3 H4
              go_wp2_with fail
              go_region
              go_wp2_with (first | (at_make; refine make_gc _ rfl (.tmp 51) (.tmp 51) rfl (x : Int) x rfl rfl rfl (by omega) w1 (Ext.refl w1).drew ?_; intro g w5 hlo hgi) | go_in)
          --LOOP1
              go_loopw [59] (fun i wr => ∃ k : Nat, k ≤ x ∧ i = .int .i64 k ∧ GcI w1 (.slice (some ⟨g, 0, none⟩) (x) (x)) (x) (fun i => if i < k then colF x y q (F) (0) i else zc4) wr) (fun i _ => x - (intOf i).toNat)
              case atStart => exact ⟨0, Nat.zero_le _, rfl, hgi.congr (fun i => by split <;> rfl) fun i _ => (if_neg (by omega)).symm⟩
              case round =>
                obtain ⟨k, hk, rfl, hgk⟩ := hrel
                have HK : Hid (GcI w1 (.slice (some ⟨g, 0, none⟩) (x) (x)) (x) (fun i => if i < k then colF x y q (F) (0) i else zc4) wr) := hgk
                clear hgk
                by_cases hlt : k < x
                · have hkI : (k : Int) < ((x : Nat) : Int) := by omega
                  have hkI2 : (k : Int) < (x : Int) := by omega
                  obtain ⟨X1, hX1⟩ : ∃ X1 : Nat, X1 = (q + k) % x := ⟨_, rfl⟩
                  obtain ⟨X2, hX2⟩ : ∃ X2 : Nat, X2 = (q + k) / x := ⟨_, rfl⟩
                  have HX1 : Hid (X1 = (q + k) % x) := hX1
                  have HX2 : Hid (X2 = (q + k) / x) := hX2
                  have hsp : Hid (Calls Try.prog 60 #[.int .i64 x, .int .i64 ((q : Int) + (k : Int))] wr fun e w' => e = .returned (.tuple #[.int .i64 X1, .int .i64 X2]) ∧ Ext wr w') := by
                    have := spot_any x (q + k) wr (by omega) (by omega) (by omega)
                    rw [show ((q + k : Nat) : Int) = (q : Int) + (k : Int) by omega, ← hX1, ← hX2] at this
                    exact this
                  clear hX1 hX2
                  go_wp2_with fail
                  refine hsp.out.mono ?_
                  rintro e w7 ⟨rfl, hx7⟩
                  have hk7 : GcI w1 (.slice (some ⟨g, 0, none⟩) (x) (x)) (x) (fun i => if i < k then colF x y q (F) (0) i else zc4) w7 := HK.out.grown hx7
                  have ht : ∀ b : Bool, w7.there g (k * 4) #[Value.int .i64 X1, .int .i64 X2, .int .i64 (F : Int), .bool b].size := fun b => by
                    rw [show #[Value.int .i64 X1, .int .i64 X2, .int .i64 (F : Int), .bool b].size = 4 from rfl]
                    exact hk7.there hlt
                  have hif : ∀ b : Bool, (Try.prog.info? 59).map (·.size) = some #[Value.int .i64 X1, .int .i64 X2, .int .i64 (F : Int), .bool b].size := fun b => sizeCol
                  have hone : ∀ b : Bool, #[Value.int .i64 X1, .int .i64 X2, .int .i64 (F : Int), .bool b].all (·.oneCell') = true := fun b => by simp [Value.oneCell']
                  have HP : Hid (∀ b : Bool, GcI w1 (.slice (some ⟨g, 0, none⟩) (x) (x)) (x) (fun i => if i = k then [.int .i64 X1, .int .i64 X2, .int .i64 (F : Int), .bool b] else if i < k then colF x y q (F) (0) i else zc4) (w7.setCells g (k * 4) [.int .i64 X1, .int .i64 X2, .int .i64 (F : Int), .bool b])) := fun b => hk7.put hlo hlt rfl
                  have c2 : ∀ b : Bool, (w7.setCells g (k * 4) [.int .i64 X1, .int .i64 X2, .int .i64 (F : Int), .bool b]).cell? ⟨g, k * 4 + 2, none⟩ = some (.int .i64 (F : Int)) := fun b => ((HP.out b).cell hlt (j := 2) (by rw [if_pos rfl]; rfl)).1
                  have c3 : ∀ b : Bool, (w7.setCells g (k * 4) [.int .i64 X1, .int .i64 X2, .int .i64 (F : Int), .bool b]).frozen? ⟨g, k * 4 + 2, none⟩ = false := fun b => ((HP.out b).cell hlt (j := 2) (v := .int .i64 (F : Int)) (by rw [if_pos rfl]; rfl)).2
                  clear hk7
                  by_cases hky : k < y
                  · have hkyI : (k : Int) < (y : Int) := by omega
                    have c2 := c2 true
                    have c3 := c3 true
                    go_wp2_with (first | (refine wpList_store_mid rfl 59 _ _ rfl g (k * 4) #[.int .i64 X1, .int .i64 X2, .int .i64 (F : Int), .bool true] rfl rfl ?_ (hif true) (hone true) ?_; exact ht true) | fail)
                    go_roundw
                    case rel =>
                      refine ⟨k + 1, by omega, by go_num, ?_⟩
                      refine (HP.out true).congr (fun i => by split <;> rfl) fun i hi => ?_
                      exact gc_put (decide_eq_true hky) (Nat.not_lt_zero k) rfl HX1.out HX2.out i
                    case measure => simp [intOf]; omega
                  · have hkyI : ¬ (k : Int) < (y : Int) := by omega
                    have c2 := c2 false
                    have c3 := c3 false
                    go_wp2_with (first | (refine wpList_store_mid rfl 59 _ _ rfl g (k * 4) #[.int .i64 X1, .int .i64 X2, .int .i64 (F : Int), .bool false] rfl rfl ?_ (hif false) (hone false) ?_; exact ht false) | fail)
                    go_roundw
                    case rel =>
                      refine ⟨k + 1, by omega, by go_num, ?_⟩
                      refine (HP.out false).congr (fun i => by split <;> rfl) fun i hi => ?_
                      exact gc_put (decide_eq_false hky) (Nat.not_lt_zero k) rfl HX1.out HX2.out i
                    case measure => simp [intOf]; omega
                · obtain rfl : k = x := by omega
                  clear hlt hk
                  go_wp2_with fail
                  go_ret2
                  exact ⟨GcRes.yes HV.out HK.out HN.out fun i hi => by rw [if_pos hi]; exact gc_same (HG2.out i hi), HK.out.ext⟩
          --ENDLOOP1
            · have HG2 : Hid (∀ i, i < x → cntC x y z i = F + if i < y + R then 1 else 0) := fun i hi => by
                have := HG.out i (by rw [hN]; exact hi)
                rw [if_neg hR0] at this
                exact this
              have hrb : ((R : Int) != 0) = true := by rw [bne_iff_ne]; omega
              clear hN
              clear HG HNn HFR
              go_enter Try.func37, Try.ntmps37
              go_wp2_with fail
              refine H1.mono ?_
              rintro e w1 ⟨rfl, rfl⟩
              go_wp2_with fail
              refine H2.mono ?_
              rintro e w1 ⟨rfl, rfl⟩
              go_wp2_with fail
              refine H3.mono ?_
              rintro e w1 ⟨rfl, rfl⟩
              go_wp2_with fail
              refine H4.mono ?_
              rintro e w1 ⟨rfl, rfl⟩
              clear H1 H2 H3 H4
              go_wp2_with fail
              go_region
              go_wp2_with (first | (at_make; refine make_gc _ rfl (.tmp 51) (.tmp 51) rfl (x : Int) x rfl rfl rfl (by omega) w1 (Ext.refl w1).drew ?_; intro g w5 hlo hgi) | go_in)
          --LOOP2
              go_loopw [59] (fun i wr => ∃ k : Nat, k ≤ x ∧ i = .int .i64 k ∧ GcI w1 (.slice (some ⟨g, 0, none⟩) (x) (x)) (x) (fun i => if i < k then colF x y q (F) (y + R) i else zc4) wr) (fun i _ => x - (intOf i).toNat)
              case atStart => exact ⟨0, Nat.zero_le _, rfl, hgi.congr (fun i => by split <;> rfl) fun i _ => (if_neg (by omega)).symm⟩
              case round =>
                obtain ⟨k, hk, rfl, hgk⟩ := hrel
                have HK : Hid (GcI w1 (.slice (some ⟨g, 0, none⟩) (x) (x)) (x) (fun i => if i < k then colF x y q (F) (y + R) i else zc4) wr) := hgk
                clear hgk
                by_cases hlt : k < x
                · have hkI : (k : Int) < ((x : Nat) : Int) := by omega
                  have hkI2 : (k : Int) < (x : Int) := by omega
                  obtain ⟨X1, hX1⟩ : ∃ X1 : Nat, X1 = (q + k) % x := ⟨_, rfl⟩
                  obtain ⟨X2, hX2⟩ : ∃ X2 : Nat, X2 = (q + k) / x := ⟨_, rfl⟩
                  have HX1 : Hid (X1 = (q + k) % x) := hX1
                  have HX2 : Hid (X2 = (q + k) / x) := hX2
                  have hsp : Hid (Calls Try.prog 60 #[.int .i64 x, .int .i64 ((q : Int) + (k : Int))] wr fun e w' => e = .returned (.tuple #[.int .i64 X1, .int .i64 X2]) ∧ Ext wr w') := by
                    have := spot_any x (q + k) wr (by omega) (by omega) (by omega)
                    rw [show ((q + k : Nat) : Int) = (q : Int) + (k : Int) by omega, ← hX1, ← hX2] at this
                    exact this
                  clear hX1 hX2
                  go_wp2_with fail
                  refine hsp.out.mono ?_
                  rintro e w7 ⟨rfl, hx7⟩
                  have hk7 : GcI w1 (.slice (some ⟨g, 0, none⟩) (x) (x)) (x) (fun i => if i < k then colF x y q (F) (y + R) i else zc4) w7 := HK.out.grown hx7
                  have ht : ∀ b : Bool, w7.there g (k * 4) #[Value.int .i64 X1, .int .i64 X2, .int .i64 (F : Int), .bool b].size := fun b => by
                    rw [show #[Value.int .i64 X1, .int .i64 X2, .int .i64 (F : Int), .bool b].size = 4 from rfl]
                    exact hk7.there hlt
                  have hif : ∀ b : Bool, (Try.prog.info? 59).map (·.size) = some #[Value.int .i64 X1, .int .i64 X2, .int .i64 (F : Int), .bool b].size := fun b => sizeCol
                  have hone : ∀ b : Bool, #[Value.int .i64 X1, .int .i64 X2, .int .i64 (F : Int), .bool b].all (·.oneCell') = true := fun b => by simp [Value.oneCell']
                  have HP : Hid (∀ b : Bool, GcI w1 (.slice (some ⟨g, 0, none⟩) (x) (x)) (x) (fun i => if i = k then [.int .i64 X1, .int .i64 X2, .int .i64 (F : Int), .bool b] else if i < k then colF x y q (F) (y + R) i else zc4) (w7.setCells g (k * 4) [.int .i64 X1, .int .i64 X2, .int .i64 (F : Int), .bool b])) := fun b => hk7.put hlo hlt rfl
                  have c2 : ∀ b : Bool, (w7.setCells g (k * 4) [.int .i64 X1, .int .i64 X2, .int .i64 (F : Int), .bool b]).cell? ⟨g, k * 4 + 2, none⟩ = some (.int .i64 (F : Int)) := fun b => ((HP.out b).cell hlt (j := 2) (by rw [if_pos rfl]; rfl)).1
                  have c3 : ∀ b : Bool, (w7.setCells g (k * 4) [.int .i64 X1, .int .i64 X2, .int .i64 (F : Int), .bool b]).frozen? ⟨g, k * 4 + 2, none⟩ = false := fun b => ((HP.out b).cell hlt (j := 2) (v := .int .i64 (F : Int)) (by rw [if_pos rfl]; rfl)).2
                  clear hk7
                  by_cases hky : k < y
                  · have hkyI : (k : Int) < (y : Int) := by omega
                    by_cases hkg : k < y + R
                    · have hkgI : (k : Int) < ((y : Int) + (R : Int)) := by omega
                      have c2 := c2 true
                      have c3 := c3 true
                      go_wp2_with (first | (refine wpList_store_mid rfl 59 _ _ rfl g (k * 4) #[.int .i64 X1, .int .i64 X2, .int .i64 (F : Int), .bool true] rfl rfl ?_ (hif true) (hone true) ?_; exact ht true) | fail)
                      go_roundw
                      case rel =>
                        refine ⟨k + 1, by omega, by go_num, ?_⟩
                        refine ((HP.out true).set hlo hlt (j := 2) (by omega) _).congr (fun i => by split <;> rfl) fun i hi => ?_
                        exact gc_inc (decide_eq_true hky) hkg rfl HX1.out HX2.out i
                      case measure => simp [intOf]; omega
                    · exact absurd (show k < y + R by omega) hkg
                  · have hkyI : ¬ (k : Int) < (y : Int) := by omega
                    by_cases hkg : k < y + R
                    · have hkgI : (k : Int) < ((y : Int) + (R : Int)) := by omega
                      have c2 := c2 false
                      have c3 := c3 false
                      go_wp2_with (first | (refine wpList_store_mid rfl 59 _ _ rfl g (k * 4) #[.int .i64 X1, .int .i64 X2, .int .i64 (F : Int), .bool false] rfl rfl ?_ (hif false) (hone false) ?_; exact ht false) | fail)
                      go_roundw
                      case rel =>
                        refine ⟨k + 1, by omega, by go_num, ?_⟩
                        refine ((HP.out false).set hlo hlt (j := 2) (by omega) _).congr (fun i => by split <;> rfl) fun i hi => ?_
                        exact gc_inc (decide_eq_false hky) hkg rfl HX1.out HX2.out i
                      case measure => simp [intOf]; omega
                    · have hkgI : ¬ (k : Int) < ((y : Int) + (R : Int)) := by omega
                      have c2 := c2 false
                      have c3 := c3 false
                      go_wp2_with (first | (refine wpList_store_mid rfl 59 _ _ rfl g (k * 4) #[.int .i64 X1, .int .i64 X2, .int .i64 (F : Int), .bool false] rfl rfl ?_ (hif false) (hone false) ?_; exact ht false) | fail)
                      go_roundw
                      case rel =>
                        refine ⟨k + 1, by omega, by go_num, ?_⟩
                        refine (HP.out false).congr (fun i => by split <;> rfl) fun i hi => ?_
                        exact gc_put (decide_eq_false hky) hkg rfl HX1.out HX2.out i
                      case measure => simp [intOf]; omega
                · obtain rfl : k = x := by omega
                  clear hlt hk
                  go_wp2_with fail
                  go_ret2
                  exact ⟨GcRes.yes HV.out HK.out HN.out fun i hi => by rw [if_pos hi]; exact gc_same (HG2.out i hi), HK.out.ext⟩
          --ENDLOOP2
end Go.Proofs.Ythgbfakmkdifbaa
/-
  What the keeps of geom ask of columns, as plain numbers.
-/
namespace Go.Proofs.Ythgbfakmkdifbaa
open Go.RowKit Go.Deep
/-- the data's sectors in the columns ahead of n; all sectors there -/
def datS (d p c : Nat) : Nat → Nat
  | 0 => 0
  | n + 1 => datS d p c n + if n < p then 0 else cntC d p c n
def allC (d p c : Nat) : Nat → Nat
  | 0 => 0
  | n + 1 => allC d p c n + cntC d p c n
def keepB (d p c : Nat) : Bool := !(decide (2 ≤ d) && decide (1 ≤ p) && decide (p < d) && decide (1 ≤ c)) ||
  (decide (datS d p c (colN d p c) = c) && decide (allC d p c (colN d p c) = c / (d - p) * d + lonG d p c) && decide (allC d p c (colN d p c) ≤ costN d p c) && decide (costN d p c ≤ allC d p c (colN d p c) + p) && decide (costN d p c ≤ 400) && decide (1 ≤ allC d p c (colN d p c)))
theorem keep_is (d p c : Nat) (h1 : 2 ≤ d) (h2 : d ≤ 8) (h3 : 1 ≤ p) (h4 : p ≤ 3) (h5 : p < d) (h6 : 1 ≤ c) (h7 : c ≤ 32) : datS d p c (colN d p c) = c ∧ allC d p c (colN d p c) = c / (d - p) * d + lonG d p c ∧ allC d p c (colN d p c) ≤ costN d p c ∧ costN d p c ≤ allC d p c (colN d p c) + p ∧ costN d p c ≤ 400 ∧ 1 ≤ allC d p c (colN d p c) := by
  have h : ∀ d, d < 9 → ∀ p, p < 4 → ∀ c, c < 33 → keepB d p c = true := by decide +kernel
  have g := h d (by omega) p (by omega) c (by omega)
  unfold keepB at g
  simp only [h1, h3, h5, h6, decide_true, Bool.and_self, Bool.not_true, Bool.false_or, Bool.and_eq_true, decide_eq_true_eq, and_assoc] at g
  exact g
def apB (d p c i : Nat) : Bool := !(decide (2 ≤ d) && decide (1 ≤ p) && decide (p < d) && decide (1 ≤ c) && decide (i < colN d p c)) ||
  (decide (1 ≤ cntC d p c i) && decide (cntC d p c i ≤ cntC d p c 0) && decide (cntC d p c 0 ≤ cntC d p c i + 1) && decide (i < p → cntC d p c i = cntC d p c 0) && decide (cntC d p c 0 ≤ 32))
theorem ap_is (d p c i : Nat) (h1 : 2 ≤ d) (h2 : d ≤ 8) (h3 : 1 ≤ p) (h4 : p ≤ 3) (h5 : p < d) (h6 : 1 ≤ c) (h7 : c ≤ 32) (h8 : i < colN d p c) : 1 ≤ cntC d p c i ∧ cntC d p c i ≤ cntC d p c 0 ∧ cntC d p c 0 ≤ cntC d p c i + 1 ∧ (i < p → cntC d p c i = cntC d p c 0) ∧ cntC d p c 0 ≤ 32 := by
  have h : ∀ d, d < 9 → ∀ p, p < 4 → ∀ c, c < 33 → ∀ i, i < 8 → apB d p c i = true := by decide +kernel
  have h9 : i < 8 := by unfold colN nRow at h8; omega
  have g := h d (by omega) p (by omega) c (by omega) i h9
  unfold apB at g
  simp only [h1, h3, h5, h6, h8, decide_true, Bool.and_self, Bool.not_true, Bool.false_or, Bool.and_eq_true, decide_eq_true_eq, and_assoc] at g
  exact g
theorem colN_bd (d p c : Nat) (h5 : p < d) (h6 : 1 ≤ c) : p < colN d p c ∧ colN d p c ≤ d := by
  unfold colN nRow
  omega
theorem colN_is (d p c : Nat) (h5 : p < d) (h6 : 1 ≤ c) : colN d p c = if c / (d - p) = 0 then lonG d p c else d := by
  have hdm := Nat.div_add_mod c (d - p)
  have hml := Nat.mod_lt c (show 0 < d - p by omega)
  unfold colN nRow lonG
  obtain ⟨wd, hwd⟩ : ∃ wd : Nat, wd = d - p := ⟨_, rfl⟩
  rw [← hwd] at hdm hml ⊢
  generalize c / wd = F at *
  generalize c % wd = R at *
  by_cases h0 : F = 0
  · rw [if_pos h0]
    rw [h0, Nat.mul_zero] at hdm
    rw [if_neg (by omega)]
    omega
  · rw [if_neg h0]
    have : wd * 1 ≤ wd * F := Nat.mul_le_mul_left _ (by omega)
    omega
theorem mod_apart (a d i k : Nat) (hi : i < d) (hk : k < i) : (a + k) % d ≠ (a + i) % d := fun h => by
  have h4 : d * ((a + i) / d) + (a + i) % d = a + i := Nat.div_add_mod _ _
  have h5 : d * ((a + k) / d) + (a + k) % d = a + k := Nat.div_add_mod _ _
  have h6 : d * ((a + i) / d) = d * ((a + k) / d) + (i - k) := by omega
  have h7 : d * ((a + i) / d) % d = (d * ((a + k) / d) + (i - k)) % d := by rw [h6]
  rw [Nat.mul_mod_right, Nat.mul_add_mod, Nat.mod_eq_of_lt (by omega)] at h7
  omega
theorem mod_meet (a d i k : Nat) (hi : i < d) : (a + i) % d = (a + k) % d ↔ i = k % d := by
  have e : (a + k) % d = (a + k % d) % d := by rw [Nat.add_mod, Nat.add_mod a (k % d), Nat.mod_mod]
  have hl : k % d < d := Nat.mod_lt _ (by omega)
  rw [e]
  constructor
  · intro h
    rcases Nat.lt_trichotomy i (k % d) with l | l | l
    · exact absurd h (mod_apart a d (k % d) i hl l)
    · exact l
    · exact absurd h.symm (mod_apart a d i (k % d) hi l)
  · intro h
    rw [h]
theorem div_meet (a d k : Nat) (hd : 0 < d) : (a + k) / d = (a + k % d) / d + k / d := by
  have h := Nat.div_add_mod k d
  have e : a + k = a + k % d + d * (k / d) := by omega
  rw [e, Nat.add_mul_div_left _ _ hd]
/-- address k of the block lies in column k % d, and there at k / d -/
theorem lies (d p c k : Nat) (h1 : 2 ≤ d) (h2 : d ≤ 8) (h3 : 1 ≤ p) (h4 : p ≤ 3) (h5 : p < d) (h6 : 1 ≤ c) (h7 : c ≤ 32) (hk : k < allC d p c (colN d p c)) : k % d < colN d p c ∧ k / d < cntC d p c (k % d) := by
  have hdm := Nat.div_add_mod k d
  have hml := Nat.mod_lt k (show 0 < d by omega)
  have hG : lonG d p c < d ∨ lonG d p c = 0 := by
    have := Nat.mod_lt c (show 0 < d - p by omega)
    unfold lonG
    split <;> omega
  have hN := (keep_is d p c h1 h2 h3 h4 h5 h6 h7).2.1
  rw [hN] at hk
  have hc := colN_is d p c h5 h6
  have hx : k % d < colN d p c := by
    rw [hc]
    by_cases h0 : c / (d - p) = 0
    · rw [if_pos h0]
      rw [h0, Nat.zero_mul, Nat.zero_add] at hk
      rw [Nat.mod_eq_of_lt (by omega)]
      exact hk
    · rw [if_neg h0]
      exact hml
  refine ⟨hx, ?_⟩
  rw [cnt_is d p c (k % d) h1 h2 h3 h4 h5 h6 h7 hx]
  generalize c / (d - p) = F at *
  have hle : k / d ≤ F := by
    have : k < (F + 1) * d := by
      rw [Nat.add_mul]
      omega
    have := (Nat.div_lt_iff_lt_mul (show 0 < d by omega)).2 this
    omega
  by_cases e : k / d = F
  · have : F * d = d * (k / d) := by rw [e, Nat.mul_comm]
    rw [if_pos (by omega)]
    omega
  · omega
theorem cols_nat (d p a c : Nat) (h1 : 2 ≤ d) (h2 : d ≤ 8) (h3 : 1 ≤ p) (h4 : p ≤ 3) (h5 : p < d) (h6 : 1 ≤ c) (h7 : c ≤ 32) (h8 : a ≤ 65536) (w : World) :
    Calls Try.prog 37 #[.int .i64 d, .int .i64 p, .int .i64 a, .int .i64 c] w fun e w' => (∃ b k, e = .returned (.tuple #[.slice b (colN d p c) k, .int .i64 0]) ∧ Els w' b 4 (colsL d p a c)) ∧ Ext w w' := by
  refine (Columns_any d p a c w).mono ?_
  rintro e w' ⟨⟨b, n, k, rfl, hl, hn, hE, _⟩, hx⟩
  have h : okG d p a c = true := by
    have a1 := (okD_iff (d : Int)).2 ⟨by omega, by omega⟩
    have a2 := (okPar_iff (d : Int) p).2 ⟨by omega, by omega, by omega⟩
    have a3 := (okCnt_iff (c : Int)).2 ⟨by omega, by omega⟩
    have a4 := (okAd_iff (a : Int)).2 ⟨by omega, by omega⟩
    unfold okG
    rw [a1, a2, a3, a4]; rfl
  unfold gcL at hl hE
  unfold gcE
  rw [h] at hl hE ⊢
  simp only [if_true, Int.toNat_natCast] at hl hE ⊢
  have hn : n = colN d p c := by
    rw [← hl]
    unfold colsL
    rw [List.length_map, List.length_range]
  rw [hn]
  exact ⟨⟨b, k, rfl, hE⟩, hx⟩
theorem colsL_get (d p a c : Nat) {i : Nat} (h : i < colN d p c) : (colsL d p a c)[i]? = some [.int .i64 ((a + i) % d : Nat), .int .i64 ((a + i) / d : Nat), .int .i64 (cntC d p c i : Nat), .bool (decide (i < p))] := range_get _ h
end Go.Proofs.Ythgbfakmkdifbaa
