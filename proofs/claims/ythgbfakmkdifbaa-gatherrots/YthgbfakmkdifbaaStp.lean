/-
  What the columns of a block have, and what is made of them again: as plain functions.
-/
import Derived.Test.YthgbfakmkdifbaaGeo2
import Derived.Test.YthgbfakmkdifbaaKeepFlet
import Derived.Test.YthgbfakmkdifbaaPars
import Derived.Test.YthgbfakmkdifbaaChecked
import Derived.WalkKit
import Derived.BigQuiet
import Derived.Deep.QuietTactic
import Derived.Test.YthgbfakmkdifbaaByb
import Derived.Test.YthgbfakmkdifbaaMk
import Derived.Laws.CopyOwn
import Derived.Deep.Slices
import Derived.Deep.CutRange
import Derived.Deep.RegionLaw
import Derived.Test.YthgbfakmkdifbaaKeeps
import Derived.Lib.AppendZerosOnto
import Derived.Test.YthgbfakmkdifbaaApps
import Derived.Test.YthgbfakmkdifbaaCApp
namespace Go.Proofs.Ythgbfakmkdifbaa
open Go.RowKit Go.Deep E
/-- filled up with bytes 0 -/
def padZ (n : Nat) (B : Nat → E) (x : Nat) : E := if x < n then B x else ze
/-- where data column i begins among the data -/
def offD (d p c i : Nat) : Nat := 128 * datS d p c (p + i)
def wdB (d p c i : Nat) : Nat := 128 * cntC d p c i
theorem datS_p (d p c : Nat) : ∀ n, n ≤ p → datS d p c n = 0
  | 0, _ => rfl
  | n + 1, h => by unfold datS; rw [datS_p d p c n (by omega), if_pos (by omega)]
theorem offD_0 (d p c : Nat) : offD d p c 0 = 0 := by unfold offD; rw [Nat.add_zero, datS_p d p c p (Nat.le_refl _)]
theorem offD_s (d p c i : Nat) : offD d p c (i + 1) = offD d p c i + wdB d p c (p + i) := by
  unfold offD wdB
  rw [show p + (i + 1) = p + i + 1 by omega]
  conv => lhs; unfold datS
  rw [if_neg (by omega), Nat.mul_add]
theorem offD_mono (d p c : Nat) {i j : Nat} (h : i ≤ j) : offD d p c i ≤ offD d p c j := by
  induction j with
  | zero => rw [show i = 0 by omega]; exact Nat.le_refl _
  | succ j ih =>
    by_cases e : i = j + 1
    · rw [e]; exact Nat.le_refl _
    · rw [offD_s]; have := ih (by omega); omega
/-- sizes and places that a block may have -/
structure StOk (d p c : Nat) : Prop where
  d2 : 2 ≤ d
  d8 : d ≤ 8
  p1 : 1 ≤ p
  p3 : p ≤ 3
  pd : p < d
  c1 : 1 ≤ c
  c32 : c ≤ 32
theorem StOk.N {d p c : Nat} (h : StOk d p c) : p < colN d p c ∧ colN d p c ≤ 8 := by
  have := colN_bd d p c h.pd h.c1
  have := h.d8
  omega
theorem StOk.cnt {d p c i : Nat} (h : StOk d p c) (hi : i < colN d p c) : 1 ≤ cntC d p c i ∧ cntC d p c i ≤ cntC d p c 0 ∧ (i < p → cntC d p c i = cntC d p c 0) ∧ cntC d p c 0 ≤ 32 := by
  have := ap_is d p c i h.d2 h.d8 h.p1 h.p3 h.pd h.c1 h.c32 hi
  exact ⟨this.1, this.2.1, this.2.2.2.1, this.2.2.2.2⟩
theorem StOk.wd {d p c i : Nat} (h : StOk d p c) (hi : i < colN d p c) : 128 ≤ wdB d p c i ∧ wdB d p c i ≤ wdB d p c 0 ∧ wdB d p c 0 ≤ 4096 := by
  have := h.cnt hi
  unfold wdB
  omega
theorem StOk.wdp {d p c i : Nat} (h : StOk d p c) (hi : i < p) : wdB d p c i = wdB d p c 0 := by
  have := h.N
  unfold wdB
  rw [(h.cnt (i := i) (by omega)).2.2.1 hi]
theorem StOk.off {d p c : Nat} (h : StOk d p c) : offD d p c (colN d p c - p) = 128 * c := by
  have := h.N
  unfold offD
  rw [show p + (colN d p c - p) = colN d p c by omega, (keep_is d p c h.d2 h.d8 h.p1 h.p3 h.pd h.c1 h.c32).1]
theorem StOk.offs {d p c i : Nat} (h : StOk d p c) (hi : p + i < colN d p c) : offD d p c i + wdB d p c (p + i) ≤ 128 * c := by
  rw [← h.off, ← offD_s]
  exact offD_mono d p c (by omega)
/-- data column i -/
def datF (d p c n : Nat) (B : Nat → E) (i x : Nat) : E := padZ n B (offD d p c i + x)
/-- the data columns, filled up to the length of the longest -/
def lonF (d p c n : Nat) (B : Nat → E) (i : Nat) : Nat → E := padZ (wdB d p c (p + i)) (datF d p c n B i)
/-- all columns of a block -/
def layF (d p c n : Nat) (B : Nat → E) (r : Nat) : Nat → E := if r < p then enc (colN d p c - p) (lonF d p c n B) r else datF d p c n B (r - p)
def szOk (n : Nat) : Bool := decide (1 ≤ n) && decide (n ≤ 4096)
def secs (n : Nat) : Nat := (n + 127) / 128
theorem szOk_iff (n : Nat) : szOk n = true ↔ 1 ≤ n ∧ n ≤ 4096 := by unfold szOk; simp
theorem secs_bd {n : Nat} (h : szOk n = true) : 1 ≤ secs n ∧ secs n ≤ 32 ∧ n ≤ 128 * secs n ∧ 128 * secs n < n + 128 := by
  have := (szOk_iff n).1 h
  unfold secs
  omega
/-- what the columns of a block with n bytes come to -/
def stE (d p a : Int) (n : Nat) : Int := if szOk n then gcE d p a (secs n : Nat) else 1
def stOkB (d p a : Int) (n : Nat) : Bool := szOk n && okG d p a (secs n : Nat)
theorem stE_ok {d p a : Int} {n : Nat} (h : stOkB d p a n = true) : stE d p a n = 0 := by
  unfold stOkB at h
  rw [Bool.and_eq_true] at h
  unfold stE gcE
  rw [h.1, h.2]
  rfl
theorem stE_no {d p a : Int} {n : Nat} (h : stOkB d p a n = false) : stE d p a n ≠ 0 := by
  unfold stOkB at h
  unfold stE gcE
  cases h1 : szOk n
  · simp
  · rw [h1] at h
    simp only [Bool.true_and] at h
    rw [h]
    simp
theorem stOk_nat {d p a : Int} {n : Nat} (h : stOkB d p a n = true) : ∃ x y z : Nat, d = x ∧ p = y ∧ a = z ∧ z ≤ 65536 ∧ StOk x y (secs n) ∧ szOk n = true := by
  unfold stOkB at h
  rw [Bool.and_eq_true] at h
  have hg := h.2
  unfold okG at hg
  simp only [Bool.and_eq_true] at hg
  have h1 := (okD_iff d).1 hg.1.1.1
  have h2 := (okPar_iff d p).1 hg.1.1.2
  have h3 := (okAd_iff a).1 hg.2
  have h4 := secs_bd h.1
  exact ⟨d.toNat, p.toNat, a.toNat, by omega, by omega, by omega, by omega, ⟨by omega, by omega, by omega, by omega, by omega, h4.1, h4.2.1⟩, h.1⟩
theorem ok_st {d p a n : Nat} (h : StOk d p (secs n)) (ha : a ≤ 65536) (hn : szOk n = true) : stOkB d p a n = true := by
  have a1 := (okD_iff (d : Int)).2 (by have := h.d2; have := h.d8; omega)
  have a2 := (okPar_iff (d : Int) p).2 (by have := h.p1; have := h.p3; have := h.pd; omega)
  have a3 := (okCnt_iff (secs n : Int)).2 (by have := h.c1; have := h.c32; omega)
  have a4 := (okAd_iff (a : Int)).2 (by omega)
  unfold stOkB okG
  rw [hn, a1, a2, a3, a4]
  rfl
end Go.Proofs.Ythgbfakmkdifbaa
/-
  stripe's small functions: sectors, width, longest, columnsOf, cut, filled: plain answers; the world only grows.
-/
namespace Go.Proofs.Ythgbfakmkdifbaa
open Go.RowKit Go.Deep E
theorem ret_intS {a b : Int} (h : a = b) : Ending.returned (.int .i64 a) = .returned (.int .i64 b) := by rw [h]
set_option maxRecDepth 100000 in
theorem sectors_any (n : Nat) (w : World) (hn : n ≤ 1048576) : Calls Try.prog 38 #[.int .i64 n] w fun e w' => e = .returned (.int .i64 (secs n : Nat)) ∧ w' = w := by
  have hq : ((n : Int) + 128 - 1).tdiv 128 = (secs n : Nat) := by
    rw [Int.tdiv_eq_ediv_of_nonneg (by omega)]
    unfold secs
    omega
  have hqb : secs n ≤ n + 127 := by unfold secs; omega
  go_enter Try.func38, Try.ntmps38
  go_wp2_with fail
  go_ret
  exact ⟨ret_intS (by unfold secs; go_num), rfl⟩
set_option maxRecDepth 100000 in
theorem width_any (x y z : Int) (n : Nat) (b : Bool) (hz : z = (n : Int)) (w : World) (hn : n ≤ 1048576) : Calls Try.prog 39 #[.agg #[.int .i64 x, .int .i64 y, .int .i64 z, .bool b]] w fun e w' => e = .returned (.int .i64 ((128 * n : Nat) : Int)) ∧ Ext w w' := by
  subst hz
  go_enter Try.func39, Try.ntmps39
  go_wp2_with fail
  go_ret
  exact ⟨ret_intS (by go_num), (Ext.refl _).alloc _ _⟩
/-- columns of a block from number q on -/
def CnS (w : World) (ac : Option Addr) (d p a c q k : Nat) : Prop := Els w ac 4 ((List.range k).map fun i => cell4 d p a (cntC d p c) (q + i))
theorem CnS.ext {w w' : World} {ac : Option Addr} {d p a c q k : Nat} (h : CnS w ac d p a c q k) (x : Ext w w') : CnS w' ac d p a c q k := Els.ext h x
theorem CnS.at {w : World} {ac : Option Addr} {d p a c q k : Nat} (h : CnS w ac d p a c q k) {i : Nat} (hi : i < k) : ∃ (b o : Nat) (x y : Int) (z : Bool), ac = some ⟨b, o, none⟩ ∧ w.cell? ⟨b, o + i * 4, none⟩ = some (.int .i64 x) ∧ w.cell? ⟨b, o + i * 4 + 1, none⟩ = some (.int .i64 y) ∧ w.cell? ⟨b, o + i * 4 + 2, none⟩ = some (.int .i64 (cntC d p c (q + i) : Nat)) ∧ w.cell? ⟨b, o + i * 4 + 3, none⟩ = some (.bool z) := by
  obtain ⟨b, o, h1, h2⟩ := h i (cell4 d p a (cntC d p c) (q + i)) (range_get _ hi)
  exact ⟨b, o, _, _, _, h1, h2 0 _ rfl, h2 1 _ rfl, h2 2 _ rfl, h2 3 _ rfl⟩
set_option maxRecDepth 100000 in
theorem longest_any (ac : Option Addr) (k cp d p a c : Nat) (w : World) (hk : 0 < k) (hc : cntC d p c 0 ≤ 1048576) (h : CnS w ac d p a c 0 k) :
    Calls Try.prog 25 #[.slice ac k cp] w fun e w' => e = .returned (.int .i64 (wdB d p c 0 : Nat)) ∧ Ext w w' := by
  obtain ⟨b, o, x, y, z, rfl, h0, h1, h2, h3⟩ := h.at hk
  rw [Nat.zero_mul, Nat.add_zero] at h0 h1 h2 h3
  rw [Nat.add_zero] at h2
  have hk' : ¬ ((k : Int) ≤ 0) := by omega
  have hk2 : (0 : Int) < (k : Int) := by omega
  go_enter Try.func25, Try.ntmps25
  go_wp2_with fail
  refine (width_any x y _ (cntC d p c 0) z rfl _ hc).mono ?_
  rintro e w1 ⟨rfl, hx1⟩
  go_wp2_with fail
  go_ret
  exact ⟨rfl, hx1⟩
set_option maxRecDepth 100000 in
theorem columnsOf_any (d p a n : Int) (m : Nat) (w : World) (hm : szOk m = true → n = m) (hm2 : szOk m = false → n < 1 ∨ 4096 < n) : Calls Try.prog 21 #[.int .i64 d, .int .i64 p, .int .i64 a, .int .i64 n] w fun e w' =>
    (∃ ad k cp, e = .returned (.tuple #[.slice ad k cp, .int .i64 (stE d p a m)]) ∧ (stOkB d p a m = true → k = colN d.toNat p.toNat (secs m) ∧ k ≤ cp ∧ CnS w' ad d.toNat p.toNat a.toNat (secs m) 0 k)) ∧ Ext w w' := by
  cases hs : szOk m with
  | false =>
    have h := hm2 hs
    have he : stE d p a m = 1 := by unfold stE; rw [hs]; rfl
    have HO : Hid (stOkB d p a m = false) := by show _ = _; unfold stOkB; rw [hs]; rfl
    rw [he]
    clear he
    clear hm hm2 hs
    by_cases h1 : n < 1
    · go_enter Try.func21, Try.ntmps21
      go_wp2_with fail
      go_ret2
      exact ⟨⟨none, 0, 0, rfl, fun h => by rw [HO.out] at h; cases h⟩, Ext.refl _⟩
    · have h2 : 4096 < n := by omega
      go_enter Try.func21, Try.ntmps21
      go_wp2_with fail
      go_ret2
      exact ⟨⟨none, 0, 0, rfl, fun h => by rw [HO.out] at h; cases h⟩, Ext.refl _⟩
  | true =>
    have h := (szOk_iff m).1 hs
    obtain rfl := hm hs
    have HS : Hid (szOk m = true) := hs
    clear hm hm2 hs
    have i1 : ¬ ((m : Int) < 1) := by omega
    have i2 : ¬ (4096 < (m : Int)) := by omega
    go_enter Try.func21, Try.ntmps21
    go_wp2_with fail
    refine (sectors_any m _ (by omega)).mono ?_
    rintro e w1 ⟨rfl, rfl⟩
    go_wp2_with fail
    refine (Columns_any d p a (secs m : Nat) _).mono ?_
    rintro e w2 ⟨⟨ad, k, cp, rfl, hl, hk8, hE, hcp⟩, hx⟩
    have HR : Hid (stOkB d p a m = true → k = colN d.toNat p.toNat (secs m) ∧ k ≤ cp ∧ CnS w2 ad d.toNat p.toNat a.toNat (secs m) 0 k) := fun ho => by
      unfold stOkB at ho
      rw [HS.out, Bool.true_and] at ho
      unfold gcL at hl hE
      rw [ho] at hl hE
      simp only [if_true, Int.toNat_natCast] at hl hE
      have hn : k = colN d.toNat p.toNat (secs m) := by
        rw [← hl]
        unfold colsL
        rw [List.length_map, List.length_range]
      refine ⟨hn, hcp, ?_⟩
      unfold CnS
      rw [hn]
      have e : (fun i => cell4 d.toNat p.toNat a.toNat (cntC d.toNat p.toNat (secs m)) (0 + i)) = cell4 d.toNat p.toNat a.toNat (cntC d.toNat p.toNat (secs m)) := by funext i; rw [Nat.zero_add]
      rw [e]
      exact hE
    have HST : Hid (stE d p a m = gcE d p a (secs m : Nat)) := by show _ = _; unfold stE; rw [HS.out]; rfl
    clear hl hE hcp
    go_wp2_with fail
    go_ret2
    rw [HST.out]
    exact ⟨⟨ad, k, cp, rfl, HR.out⟩, hx⟩
end Go.Proofs.Ythgbfakmkdifbaa
/-
  stripe.cut, stripe.filled: the data in their columns, and columns filled up, in new memory.
-/
namespace Go.Proofs.Ythgbfakmkdifbaa
open Go.RowKit Go.Deep E
/-- copy over the head of a row that the call has made: as many as fit -/
theorem copy_bytsM {P : Program} {w : World} {ops : Array Oper} {rest : List Oper} {o : Oper} {a : Act} {Q : Exit → Act → World → Prop} (hgd : o.guard = none) (d s : Operand) (T : TypeId)
    (ho : o.op = .call { callee := .builtin .copy, args := #[d, s], argTypes := #[T, T] }) (t : TypeId) (hu : P.underlying T = some (.slice t)) (hsz : (P.info? t).map (·.size) = some 1)
    (g m dCap : Nat) (sp : Option Addr) (l sCap : Nat) (hd : a.eval d = .slice (some ⟨g, 0, none⟩) m dCap) (hs : a.eval s = .slice sp l sCap) (f : Nat → Value) (hg : w.rowIs g t m f) (F : Nat → E) (hi : Byts w sp l F)
    (h : ∀ v w', w'.rowIs g t m (fun i => if i < l then .int .u8 (ev (F i)) else f i) → Wro (· = g) w w' → wpList P ops Q rest (a.put o.dst v) w') : wpList P ops Q (o :: rest) a w := by
  rcases Nat.lt_or_ge m l with hlt | hle
  · rcases Nat.eq_zero_or_pos m with e | h0
    · subst e
      refine wpList_copy_nothing hgd d s T T ho t hu hsz _ _ 0 dCap l sCap hd hs (Nat.min_zero _) ?_
      exact h _ w (hg.congr fun i hi => by omega) (Wro.refl _ _)
    obtain ⟨b, off, rfl, hc⟩ := hi.at (by omega)
    obtain ⟨cur, hcur, hlen, hcell⟩ := hg
    have hcs : ((List.range m).map fun i => Value.int .u8 (ev (F i))).length = m := by simp
    refine wpList_copy_own hgd d s T T ho t hu hsz g 0 m dCap ⟨b, off, none⟩ l sCap hd hs cur t hcur ((List.range m).map fun i => .int .u8 (ev (F i))) (by rw [hcs]; exact (Nat.min_eq_right (by omega)).symm) ?_ ?_ ?_ ?_
    · intro j v hj
      have e : j < m := by
        rcases Nat.lt_or_ge j m with e | e
        · exact e
        · rw [List.getElem?_eq_none (by simp; omega)] at hj; cases hj
      rw [List.getElem?_map, List.getElem?_range e] at hj
      cases hj
      rw [Go.WideShapes.add_plain]
      exact hc j (by omega)
    · rw [hcs]; omega
    · intro v hv
      obtain ⟨i, _, rfl⟩ := List.mem_map.1 hv
      rfl
    · rw [hcs]
      refine h _ _ ⟨_, setRow_heap w g cur _ t _ hcur, ?_, fun i hi' => ?_⟩ ⟨rfl, rfl, rfl, by simp, fun k _ hk => setRow_other _ _ _ _ hk⟩
      · simp; omega
      · simp only [List.getElem?_toArray, List.take_zero, List.nil_append, Nat.zero_add]
        rw [List.getElem?_append_left (by simpa using hi'), if_pos (by omega)]
        simp [hi']
  · exact copy_byts hgd d s T ho t hu hsz g m dCap sp l sCap hd hs f hg F hi hle fun w' h1 h2 => h _ w' h1 h2
/-- a slice by three indexes, nothing behind it shared -/
theorem sub_lhh {P : Program} {T t : TypeId} (hT : P.underlying T = some (.slice t)) (hs : P.cellsOf t = 1) (g l c lo m : Nat) (h : lo + m ≤ c) (hm : 0 < m) (x y z : Int) (hx : x = (lo : Int)) (hy : y = ((lo + m : Nat) : Int)) (hz : z = y) (w : World) :
    (Instr.slice T (.slice (some ⟨g, 0, none⟩) l c) (some (.int .i64 x)) (some (.int .i64 y)) (some (.int .i64 z))).run P w = .ok (.slice (some ⟨g, lo, none⟩) m m) w := by
  subst hz
  have hT' : P.underlying T = some (.slice (P.elem T)) := by simp [Program.elem, hT]
  have he : P.elem T = t := by simp [Program.elem, hT]
  rw [run_slice_lhm (P := P) w T _ l c hT' .i64 .i64 .i64 x z z (by omega) (by omega) (by omega) (by omega), he]
  have h1 : x.toNat = lo := by omega
  have h2 : z.toNat = lo + m := by omega
  have h3 : (sizeOf t).run P w = .ok 1 w := by
    unfold Program.cellsOf at hs
    cases hq : P.info? t with
    | none => simp [hq] at hs
    | some i =>
      simp [hq] at hs
      simp [sizeOf, typeInfo, hq, hs]
  rw [h3, h1, h2]
  simp [Result.andThen, sliced, Addr.add, show m ≠ 0 by omega]
  exact fun h => h.symm
theorem sizeB1 : Try.prog.cellsOf 5 = 1 := by kernel_rfl
theorem padZ_lt {n : Nat} {B : Nat → E} {x : Nat} (h : x < n) : padZ n B x = B x := if_pos h
theorem padZ_ge {n : Nat} {B : Nat → E} {x : Nat} (h : ¬ x < n) : padZ n B x = ze := if_neg h
/-- the first k of the columns cut -/
structure CutI (w wr : World) (g G d p c n : Nat) (B : Nat → E) (m k : Nat) : Prop where
  ext : Ext w wr
  row : wr.rowIs g 5 (128 * c) (bvs (padZ n B))
  top : wr.rowIs G 22 m (fun r => if r < k then .slice (some ⟨g, offD d p c r, none⟩) (wdB d p c (p + r)) (wdB d p c (p + r)) else .slice none 0 0)
theorem CutI.grow {w wr w' : World} {g G d p c n : Nat} {B : Nat → E} {m k : Nat} (h : CutI w wr g G d p c n B m k) (x : Ext wr w') : CutI w w' g G d p c n B m k := ⟨h.ext.trans x, x.rowIs h.row, x.rowIs h.top⟩
theorem CutI.next {w wr : World} {g G d p c n : Nat} {B : Nat → E} {m k : Nat} (h : CutI w wr g G d p c n B m k) (hG : w.heap.size ≤ G) (hgG : g ≠ G) : CutI w (wr.setCell ⟨G, k, none⟩ (.slice (some ⟨g, offD d p c k, none⟩) (wdB d p c (p + k)) (wdB d p c (p + k)))) g G d p c n B m (k + 1) := by
  refine ⟨h.ext.setCell hG _, h.row.setOther (a := ⟨G, k, none⟩) hgG _, (h.top.set k _).congr fun i _ => ?_⟩
  by_cases e : i = k
  · subst e; rw [if_pos rfl, if_pos (by omega)]
  · rw [if_neg e]
    by_cases l : i < k
    · rw [if_pos l, if_pos (by omega)]
    · rw [if_neg l, if_neg (by omega)]
theorem CutI.cols {w wr : World} {g G d p c n : Nat} {B : Nat → E} {m : Nat} (h : CutI w wr g G d p c n B m m) (ho : StOk d p c) (hm : p + m = colN d p c) : Cols wr (some ⟨G, 0, none⟩) m (fun r => some ⟨g, offD d p c r, none⟩) (fun r => wdB d p c (p + r)) (fun r => wdB d p c (p + r)) (datF d p c n B) := fun r hr => by
  refine ⟨⟨G, 0, rfl, by rw [Nat.zero_add, h.top.cell hr, if_pos hr]⟩, Byts.mk fun i hi => ?_⟩
  have := ho.offs (i := r) (by omega)
  have hi' : i < wdB d p c (p + r) := hi
  exact h.row.cell (by omega)
set_option maxRecDepth 100000 in
set_option maxHeartbeats 1600000 in
theorem cut_any (a : Option Addr) (n cn : Nat) (B : Nat → E) (ac : Option Addr) (m cm d p ad : Nat) (w : World) (hsz : szOk n = true) (ho : StOk d p (secs n)) (hm : p + m = colN d p (secs n)) (h : Byts w a n B) (hc : CnS w ac d p ad (secs n) p m) :
    Calls Try.prog 22 #[.slice a n cn, .slice ac m cm] w fun e w' => (∃ g G, e = .returned (.slice (some ⟨G, 0, none⟩) m m) ∧ CutI w w' g G d p (secs n) n B m m ∧ w.heap.size ≤ G) := by
  have HB : Hid (Byts w a n B) := h
  have HC : Hid (CnS w ac d p ad (secs n) p m) := hc
  have HO : Hid (StOk d p (secs n)) := ho
  have HM : Hid (p + m = colN d p (secs n)) := hm
  have hsb := secs_bd hsz
  have hn := (szOk_iff n).1 hsz
  have hm8 := ho.N.2
  rw [← hm] at hm8
  obtain ⟨c, hcn⟩ : ∃ c, secs n = c := ⟨_, rfl⟩
  have HCN : Hid (secs n = c) := hcn
  rw [hcn] at HC HO HM hsb ⊢
  clear h hc ho hm hsz hcn
  obtain ⟨M, hM⟩ : ∃ M : Nat, 128 * c = M := ⟨_, rfl⟩
  have HMM : Hid (128 * c = M) := hM
  rw [hM] at hsb
  have hmul : 128 * (c : Int) = (M : Int) := by omega
  have hmul2 : (c : Int) * 128 = (M : Int) := by omega
  have hmb : M ≤ 4096 := by omega
  clear hM
  have hmk := make_bytes M (by omega)
  have hmk2 := make_cols m (by omega)
  go_enter Try.func22, Try.ntmps22
  go_wp2_with fail
  refine (sectors_any n _ (by omega)).mono ?_
  rintro e w1 ⟨rfl, rfl⟩
  rw [HCN.out]
  have hlen : n ≤ M := hsb.2.2.1
  have HR0 : Hid ((w1.alloc (.cells (madeCells #[.int .u8 0] M) 5)).rowIs w1.heap.size 5 M (bvs fun _ => ze)) := World.rowIs_made w1 (.int .u8 0) M 5
  have HB1 : Hid (Byts (w1.alloc (.cells (madeCells #[.int .u8 0] M) 5)) a n B) := HB.out.ext ((Ext.refl w1).alloc _ _)
  have HX0 : Hid (Ext w1 (w1.alloc (.cells (madeCells #[.int .u8 0] M) 5))) := (Ext.refl w1).alloc _ _
  go_wp2_with (refine copy_byts rfl (.tmp 16) (.tmp 17) 22 rfl 5 Try.underlying22 (sizeByte infoByte) w1.heap.size M M a n cn rfl rfl _ HR0.out B HB1.out hlen ?_)
  intro w2 hr2 hw2
  have HX2 : Hid (Ext w1 w2) := Wro.after HX0.out hw2 fun i hi => by omega
  have HR2 : Hid (w2.rowIs w1.heap.size 5 M (bvs (padZ n B))) := hr2.congr fun i hi => by
    unfold bvs padZ
    by_cases e : i < n
    · rw [if_pos e, if_pos e]
    · rw [if_neg e, if_neg e]
  have hgl := HR2.out.lt
  clear hr2 hw2 HR0 HB1 HX0
  obtain ⟨g, hg⟩ : ∃ g, w1.heap.size = g := ⟨_, rfl⟩
  rw [hg] at HR2 hgl
  go_wp2_with fail
  have hI0 : CutI w1 (w2.alloc (.cells (madeCells #[.slice none 0 0] m) 22)) g w2.heap.size d p c n B m 0 := by
    refine ⟨HX2.out.alloc _ _, ?_, ?_⟩
    · rw [HMM.out]; exact HR2.out.alloc _
    · exact (World.rowIs_made w2 (.slice none 0 0) m 22).congr fun i _ => by rw [if_neg (by omega)]
  have hG2 : w1.heap.size ≤ w2.heap.size := HX2.out.size
  have hgne : g ≠ w2.heap.size := by omega
  generalize w2.alloc (.cells (madeCells #[.slice none 0 0] m) 22) = w3 at *
  obtain ⟨G, hG⟩ : ∃ G, w2.heap.size = G := ⟨_, rfl⟩
  rw [hG] at hI0 hG2 hgne ⊢
  rw [hg]
  clear hmk hmk2 hG
  go_loopw [7, 24] (fun v i wr => ∃ k : Nat, k ≤ m ∧ i = .int .i64 k ∧ v = .int .i64 (offD d p c k : Nat) ∧ CutI w1 wr g G d p c n B m k) (fun _ i _ => m - (intOf i).toNat)
  case atStart => exact ⟨0, Nat.zero_le _, rfl, by rw [offD_0]; rfl, hI0⟩
  case round =>
    clear hI0
    obtain ⟨k, hk, rfl, rfl, hI⟩ := hrel
    have HI : Hid (CutI w1 wr g G d p c n B m k) := hI
    clear hI
    by_cases hlt : k < m
    · obtain ⟨bc, oc, x, y, z, rfl, h0, h1, h2, h3⟩ := (HC.out.ext HI.out.ext).at hlt
      obtain ⟨q, hq⟩ : ∃ q, cntC d p c (p + k) = q := ⟨_, rfl⟩
      obtain ⟨o, hoq⟩ : ∃ o, offD d p c k = o := ⟨_, rfl⟩
      have hqb := (HO.out.cnt (i := p + k) (by rw [← HM.out]; omega))
      have hof := HO.out.offs (i := k) (by rw [← HM.out]; omega)
      have HW : Hid (wdB d p c (p + k) = 128 * q) := by show _ = _; unfold wdB; rw [hq]
      have HOS : Hid (offD d p c (k + 1) = o + 128 * q) := by show _ = _; rw [offD_s, hoq, HW.out]
      rw [HW.out, HMM.out] at hof
      rw [hq] at hqb h2
      have HQ : Hid (cntC d p c (p + k) = q) := hq
      have HOQ : Hid (offD d p c k = o) := hoq
      rw [hoq] at hof ⊢
      clear hq hoq
      have hbnd : o + 128 * q ≤ M ∧ 1 ≤ q ∧ q ≤ 32 := ⟨hof, hqb.1, by omega⟩
      clear hqb hof
      go_wp2_with fail
      generalize hw4 : wr.alloc (.cells #[.int .i64 x, .int .i64 y, .int .i64 q, .bool z] 59) = w4 at *
      have HI4 : Hid (CutI w1 w4 g G d p c n B m k) := by rw [← hw4]; exact HI.out.grow ((Ext.refl wr).alloc _ _)
      clear hw4 HI h0 h1 h2 h3
      refine (width_any x y _ q z rfl _ (by omega)).mono ?_
      rintro e w5 ⟨rfl, hx5⟩
      have HI5 : Hid (CutI w1 w5 g G d p c n B m k) := HI4.out.grow hx5
      clear HI4 hx5
      have hsl : ∀ w, (Instr.slice 22 (.slice (some ⟨g, 0, none⟩) M M) (some (.int .i64 (o : Int))) (some (.int .i64 ((o : Int) + 128 * (q : Int)))) (some (.int .i64 ((o : Int) + 128 * (q : Int))))).run Try.prog w = .ok (.slice (some ⟨g, o, none⟩) (128 * q) (128 * q)) w := fun w => sub_lhh Try.underlying22 sizeB1 g M M o (128 * q) (by omega) (by omega) _ _ _ rfl (by omega) rfl w
      have hct := HI5.out.top.cell hlt
      rw [if_neg (by omega)] at hct
      have hft := HI5.out.top.frozen k
      have HN : Hid (CutI w1 (w5.setCell ⟨G, k, none⟩ (.slice (some ⟨g, o, none⟩) (128 * q) (128 * q))) g G d p c n B m (k + 1)) := by
        have := HI5.out.next hG2 hgne
        rw [HW.out, HOQ.out] at this
        exact this
      go_wp2_with fail
      go_roundw
      case rel => exact ⟨k + 1, by omega, by go_num, by rw [HOS.out]; go_num, HN.out⟩
      case measure => simp [intOf]; omega
    · obtain rfl : m = k := by omega
      go_wp2_with fail
      go_ret
      exact ⟨g, G, rfl, HI.out, hG2⟩
end Go.Proofs.Ythgbfakmkdifbaa
/-
  stripe.filled: columns filled up with bytes 0 to a size, in memory of their own.
-/
namespace Go.Proofs.Ythgbfakmkdifbaa
open Go.RowKit Go.Deep E
def filF (L : Nat → Nat) (F : Nat → Nat → E) (r : Nat) : Nat → E := padZ (L r) (F r)
set_option maxRecDepth 100000 in
set_option maxHeartbeats 1600000 in
theorem filled_any (a : Option Addr) (n cn : Nat) (A : Nat → Option Addr) (L C : Nat → Nat) (F : Nat → Nat → E) (m : Nat) (w : World) (hn : n ≤ 1048576) (hm : m ≤ 1048576) (h : Cols w a n A L C F) :
    Calls Try.prog 24 #[.slice a n cn, .int .i64 m] w fun e w' => e = .returned (.slice (some ⟨w.heap.size, 0, none⟩) n n) ∧ ∃ G, BldB w w' w.heap.size n m n (filF L F) G := by
  have HH : Hid (Cols w a n A L C F) := h
  clear h
  have hmk := make_cols n (by omega)
  have hmk' := make_bytes m (by omega)
  go_enter Try.func24, Try.ntmps24
  go_wp2_with fail
  have h0 := BldB.start w n m (filF L F) (fun _ => 0)
  generalize w.alloc (.cells (madeCells #[.slice none 0 0] n) 22) = w1 at *
  clear hmk
  go_loopw [13] (fun i wr => ∃ k : Nat, k ≤ n ∧ i = .int .i64 k ∧ ∃ G, BldB w wr w.heap.size n m k (filF L F) G) (fun i _ => n - (intOf i).toNat)
  case atStart => exact ⟨0, Nat.zero_le _, rfl, _, h0⟩
  case round =>
    clear h0
    obtain ⟨k, hk, rfl, G, hb⟩ := hrel
    by_cases hlt : k < n
    · obtain ⟨⟨b, o, rfl, hcw⟩, hcol⟩ := HH.out k hlt
      have hck := hb.ext.keeps hcw
      have hct := hb.top.cell hlt
      rw [if_neg (by omega)] at hct
      have hft := hb.top.frozen k
      have hBl := hb.top.lt
      have HB1 : Hid (BldB w ((wr.setCell ⟨w.heap.size, k, none⟩ (.slice (some ⟨wr.heap.size, 0, none⟩) m m)).alloc (.cells (madeCells #[.int .u8 0] m) 5)) w.heap.size n m (k + 1) (fun r => if r = k then fun _ => ze else filF L F r) (fun r => if r = k then wr.heap.size else G r)) := hb.made (Nat.le_refl _)
      clear hb
      go_upto_region 6 with fail
      clear hck hct hft hBl
      generalize (wr.setCell ⟨w.heap.size, k, none⟩ (.slice (some ⟨wr.heap.size, 0, none⟩) m m)).alloc (.cells (madeCells #[.int .u8 0] m) 5) = w3 at *
      generalize wr.heap.size = gk at *
      have hct := HB1.out.top.cell hlt
      rw [if_pos (by omega), if_pos rfl] at hct
      have hrk := HB1.out.row k (by omega)
      rw [if_pos rfl, if_pos rfl] at hrk
      have HC : Hid (Byts w3 (A k) (L k) (F k)) := hcol.ext HB1.out.ext
      have HRK : Hid (w3.rowIs gk 5 m (bvs fun _ => ze)) := hrk
      clear hrk hcol
      go_wp2_with (refine copy_bytsM rfl (.tmp 26) (.tmp 27) 22 rfl 5 Try.underlying22 (sizeByte infoByte) gk m m (A k) (L k) (C k) rfl rfl _ HRK.out (F k) HC.out ?_)
      intro v5 w5 hr5 hw5
      have hg5 : (if k = k then gk else G k) = gk := if_pos rfl
      have H5 : Hid (BldB w w5 w.heap.size n m (k + 1) (filF L F) (fun r => if r = k then gk else G r)) := by
        have hr6 : w5.rowIs gk 5 m (bvs (filF L F k)) := hr5.congr fun i hi => by
          unfold bvs filF padZ
          by_cases e : i < L k
          · rw [if_pos e, if_pos e]
          · rw [if_neg e, if_neg e]
        refine (HB1.out.turn (r := k) (by omega) (filF L F k) (by rw [hg5]; exact hw5) (by rw [hg5]; exact hr6)).congr fun r hr i _ => ?_
        by_cases e : r = k
        · rw [if_pos e, e]
        · rw [if_neg e, if_neg e]
      clear hr5 hw5 hg5 hct
      go_wp2_with fail
      go_roundw
      case rel => exact ⟨k + 1, by omega, by go_num, _, H5.out⟩
      case measure => simp [intOf]; omega
    · obtain rfl : n = k := by omega
      go_wp2_with fail
      go_ret
      exact ⟨rfl, G, hb⟩
end Go.Proofs.Ythgbfakmkdifbaa
/-
  stripe.Lay at every four ints and bytes: what stands in the columns of a block; the world only grows.
-/
namespace Go.Proofs.Ythgbfakmkdifbaa
open Go.RowKit Go.Deep E
/-- where a slice of a slice of structs of sz cells begins -/
def subE (sz : Nat) (a : Option Addr) (c lo : Nat) : Option Addr := if c = lo then a else a.map (·.add (lo * sz))
theorem subE_some {sz c lo b o : Nat} (h : lo < c) : subE sz (some ⟨b, o, none⟩) c lo = some ⟨b, o + lo * sz, none⟩ := by
  unfold subE
  rw [if_neg (by omega)]
  simp [Addr.add]
theorem size_any {P : Program} {t : TypeId} {sz : Nat} (hz : 0 < sz) (hs : P.cellsOf t = sz) (w : World) : (sizeOf t).run P w = .ok sz w := by
  unfold Program.cellsOf at hs
  cases hq : P.info? t with
  | none => simp [hq] at hs; omega
  | some i =>
    simp [hq] at hs
    simp [sizeOf, typeInfo, hq, hs]
theorem subE_l {P : Program} {T t : TypeId} {sz : Nat} (hz : 0 < sz) (hT : P.underlying T = some (.slice t)) (hs : P.cellsOf t = sz) (a : Option Addr) (l c lo : Nat) (h : lo ≤ l) (x : Int) (hx : x = (lo : Int)) (w : World) :
    (Instr.slice T (.slice a l c) (some (.int .i64 x)) none none).run P w = .ok (.slice (subE sz a c lo) (l - lo) (c - lo)) w := by
  have hT' : P.underlying T = some (.slice (P.elem T)) := by simp [Program.elem, hT]
  have he : P.elem T = t := by simp [Program.elem, hT]
  rw [run_slice_l (P := P) w T a l c hT' .i64 x (by omega) (by omega), he]
  have h2 : x.toNat = lo := by omega
  rw [size_any hz hs, h2]
  simp [Result.andThen, sliced, subE]
theorem CnS.sub {w : World} {ac : Option Addr} {d p a c k cp : Nat} (h : CnS w ac d p a c 0 k) (lo : Nat) (hl : lo < k) (hc : k ≤ cp) : CnS w (subE 4 ac cp lo) d p a c lo (k - lo) := fun i cs hi => by
  have hlt : i < k - lo := by
    have := lt_of_get hi
    simpa using this
  rw [range_get _ hlt] at hi
  cases hi
  obtain ⟨b, o, h1, h2⟩ := h (lo + i) (cell4 d p a (cntC d p c) (0 + (lo + i))) (range_get _ (by omega))
  rw [Nat.zero_add] at h2
  refine ⟨b, o + lo * 4, by rw [h1, subE_some (by omega)], ?_⟩
  rw [show o + lo * 4 + i * 4 = o + (lo + i) * 4 by omega]
  exact h2
theorem sizeCol4 : Try.prog.cellsOf 59 = 4 := by kernel_rfl
/-- what Lay tells -/
def LayRes (w' : World) (e : Ending) (d p a : Int) (n : Nat) (B : Nat → E) : Prop :=
  if stOkB d p a n then ∃ (ad : Option Addr) (c : Nat) (A : Nat → Option Addr) (C : Nat → Nat), e = .returned (.tuple #[.slice ad (colN d.toNat p.toNat (secs n)) c, .int .i64 0]) ∧ Cols w' ad (colN d.toNat p.toNat (secs n)) A (wdB d.toNat p.toNat (secs n)) C (layF d.toNat p.toNat (secs n) n B)
  else e = .returned (.tuple #[.slice none 0 0, .int .i64 (stE d p a n)])
set_option maxRecDepth 100000 in
set_option maxHeartbeats 1600000 in
theorem Lay_any (d p a : Int) (b : Option Addr) (n cn : Nat) (B : Nat → E) (w : World) (hb : n ≤ 9223372036854775807) (h : Byts w b n B) :
    Calls Try.prog 8 #[.int .i64 d, .int .i64 p, .int .i64 a, .slice b n cn] w fun e w' => LayRes w' e d p a n B ∧ Ext w w' := by
  have HB : Hid (Byts w b n B) := h
  clear h
  have HC := columnsOf_any d p a n n w (fun _ => rfl) (fun h => by
    have : ¬ (1 ≤ n ∧ n ≤ 4096) := fun h1 => by rw [(szOk_iff n).2 h1] at h; cases h
    omega)
  cases hk : stOkB d p a n with
  | false =>
    have hne := stE_no hk
    have hne2 : (stE d p a n != 0) = true := by rw [bne_iff_ne]; exact hne
    have HK : Hid (stOkB d p a n = false) := hk
    clear hk hne
    go_enter Try.func8, Try.ntmps8
    go_wp2_with fail
    refine HC.mono ?_
    rintro e w1 ⟨⟨ad, k, cp, rfl, _⟩, hx⟩
    obtain ⟨E, hE⟩ : ∃ E, stE d p a n = E := ⟨_, rfl⟩
    have HE : Hid (stE d p a n = E) := hE
    rw [hE] at hne2 ⊢
    clear hE
    go_wp2_with fail
    go_ret2
    unfold LayRes
    rw [HK.out, HE.out, if_neg (by simp)]
    exact ⟨rfl, hx⟩
  | true =>
    obtain ⟨x, y, z, rfl, rfl, rfl, hz, ho, hs⟩ := stOk_nat hk
    have HO : Hid (StOk x y (secs n)) := ho
    have HSZ : Hid (szOk n = true) := hs
    have HK : Hid (stOkB x y z n = true) := hk
    have he := stE_ok hk
    rw [he] at HC
    clear he ho hs hk
    go_enter Try.func8, Try.ntmps8
    go_wp2_with fail
    refine HC.mono ?_
    rintro e w1 ⟨⟨ad, k, cp, rfl, hcn⟩, hx⟩
    obtain ⟨hkn, hkc, hCn⟩ := hcn HK.out
    rw [Int.toNat_natCast, Int.toNat_natCast] at hkn
    rw [Int.toNat_natCast, Int.toNat_natCast, Int.toNat_natCast] at hCn
    have hN := HO.out.N
    obtain ⟨m, hm⟩ : ∃ m, k - y = m := ⟨_, rfl⟩
    have hym : y + m = colN x y (secs n) := by omega
    have HYM : Hid (y + m = colN x y (secs n)) := hym
    have hCs : CnS w1 (subE 4 ad cp y) x y z (secs n) y m := by
      rw [← hm]
      exact hCn.sub y (by omega) hkc
    have HCS : Hid (CnS w1 (subE 4 ad cp y) x y z (secs n) y m) := hCs
    have HCN : Hid (CnS w1 ad x y z (secs n) 0 k) := hCn
    have hyb := HO.out.p3
    have hyb1 := HO.out.p1
    have hsl : ∀ w, (Instr.slice 51 (.slice ad k cp) (some (.int .i64 (y : Int))) none none).run Try.prog w = .ok (.slice (subE 4 ad cp y) m (cp - y)) w := fun w => by
      rw [subE_l (sz := 4) (by omega) Try.underlying51 sizeCol4 ad k cp y (by omega) _ rfl w, hm]
    have hm8 : y + m ≤ 8 ∧ 1 ≤ m := by omega
    have hk0 : 0 < k := by omega
    clear hCs hCn hym hkn hm hN
    go_wp2_with fail
    refine (cut_any b n cn B _ m _ x y z _ HSZ.out HO.out HYM.out (HB.out.ext hx) HCS.out).mono ?_
    rintro e w2 ⟨g, G, rfl, hI, hG⟩
    have HI : Hid (CutI w1 w2 g G x y (secs n) n B m m) := hI
    have hG2 : G < w2.heap.size := hI.top.lt
    clear hI
    go_wp2_with fail
    refine (longest_any ad k cp x y z (secs n) _ hk0 (by have := (HO.out.cnt (i := 0) (by have := HO.out.N; omega)).2.2.2; omega) (HCN.out.ext HI.out.ext)).mono ?_
    rintro e w3 ⟨rfl, hx3⟩
    obtain ⟨M, hM⟩ : ∃ M, wdB x y (secs n) 0 = M := ⟨_, rfl⟩
    have hMb : M ≤ 4096 := by rw [← hM]; exact (HO.out.wd (i := 0) (by have := HO.out.N; omega)).2.2
    have HM : Hid (wdB x y (secs n) 0 = M) := hM
    rw [hM]
    clear hM
    have HCO : Hid (Cols w3 (some ⟨G, 0, none⟩) m (fun r => some ⟨g, offD x y (secs n) r, none⟩) (fun r => wdB x y (secs n) (y + r)) (fun r => wdB x y (secs n) (y + r)) (datF x y (secs n) n B)) := (HI.out.cols HO.out HYM.out).ext hx3
    go_wp2_with fail
    refine (filled_any (some ⟨G, 0, none⟩) m m _ _ _ _ M _ (by omega) (by omega) HCO.out).mono ?_
    rintro e w4 ⟨rfl, Gf, hF⟩
    have HF : Hid (Cols w4 (some ⟨w3.heap.size, 0, none⟩) m (fun r => some ⟨Gf r, 0, none⟩) (fun _ => M) (fun _ => M) (lonF x y (secs n) n B)) := hF.cols
    have hx4 := hF.ext
    have HCO4 : Hid (Cols w4 (some ⟨G, 0, none⟩) m (fun r => some ⟨g, offD x y (secs n) r, none⟩) (fun r => wdB x y (secs n) (y + r)) (fun r => wdB x y (secs n) (y + r)) (datF x y (secs n) n B)) := HCO.out.ext hx4
    clear hF HCO
    have hok : encOk m (fun _ => M) (y : Int) = true := by
      unfold encOk pmayB
      rw [fromTo_true (by omega), fromTo_true (by omega), alikeB_true fun r _ => by unfold colB; simp; omega]
      rfl
    have HEN : Hid (encN m (fun _ => M) (y : Int) = y) := by show _ = _; unfold encN; rw [hok, if_pos rfl, Int.toNat_natCast]
    have HEE : Hid (encE m (fun _ => M) (y : Int) = 0) := by
      show _ = _
      unfold encOk at hok
      rw [Bool.and_eq_true] at hok
      unfold encE
      rw [hok.1, hok.2]
      rfl
    clear hok
    go_wp2_with fail
    refine (Encode_own (some ⟨w3.heap.size, 0, none⟩) m m _ _ _ _ (y : Int) _ (by omega) HF.out).mono ?_
    rintro e w5 ⟨hR, hx5⟩
    rw [HEN.out, HEE.out] at hR
    obtain ⟨_, hR2⟩ := hR
    obtain ⟨Bk, Gk, rfl, hBk, hBk1⟩ := hR2 (by omega)
    have HOW : Hid (w5.ownsRow w4.heap.size 22 1 (.slice (some ⟨Bk, 0, none⟩) y y) y ((List.range y).map fun r => .slice (some ⟨Gk r, 0, none⟩) M M)) := by
      have := own_of_row hBk.top hBk1 (by unfold maxLen; omega)
      rw [show ((List.range y).map fun r => Value.slice (some ⟨Gk r, 0, none⟩) M M) = (List.range y).map fun r => if r < y then Value.slice (some ⟨Gk r, 0, none⟩) M M else Value.slice none 0 0 from range_congr fun i hi => by rw [if_pos hi]]
      exact this
    have HCP : Hid (Cols w5 (some ⟨Bk, 0, none⟩) y (fun r => some ⟨Gk r, 0, none⟩) (fun _ => M) (fun _ => M) (enc m (lonF x y (secs n) n B))) := hBk.cols
    have HCO5 : Hid (Cols w5 (some ⟨G, 0, none⟩) m (fun r => some ⟨g, offD x y (secs n) r, none⟩) (fun r => wdB x y (secs n) (y + r)) (fun r => wdB x y (secs n) (y + r)) (datF x y (secs n) n B)) := HCO4.out.ext hx5
    have HFC : Hid (∀ i, i < m → ∃ b o, (some ⟨G, 0, none⟩ : Option Addr) = some ⟨b, o, none⟩ ∧ w5.cell? ⟨b, o + i, none⟩ = some (.slice (some ⟨g, offD x y (secs n) i, none⟩) (wdB x y (secs n) (y + i)) (wdB x y (secs n) (y + i)))) := fun i hi => (HCO5.out i hi).1
    have hs5 := hx5.size
    have HX5 : Hid (Ext w w5) := (((hx.trans HI.out.ext).trans hx3).trans hx4).trans hx5
    have HX4 : Hid (Ext w w4) := (((hx.trans HI.out.ext).trans hx3).trans hx4)
    have HBK : Hid (BldB w4 w5 Bk y M y (enc m (lonF x y (secs n) n B)) Gk) := hBk
    have HRG : Hid (w5.rowIs g 5 (128 * secs n) (bvs (padZ n B))) := hx5.rowIs (hx4.rowIs (hx3.rowIs HI.out.row))
    have hx45 := hx5
    clear hBk hR2 HCO4 hx3 hx4 hx5 HCP HCO5
    go_wp2_with (first | (at_builtin; refine append_vals w5 rfl (.tmp 41) (.tmp 42) 23 rfl w4.heap.size 22 (.slice none 0 0) 24 Try.underlying23 infoBytes rfl (.slice (some ⟨Bk, 0, none⟩) y y) y _ rfl HOW.out (some ⟨G, 0, none⟩) m m _ rfl HFC.out (fun _ _ => rfl) (by omega) (by omega) hs5 ?_) | go_in)
    intro v' w6 hown6 hgrow6
    have HX6 : Hid (Ext w w6) := HX4.out.trans (hx45.grow hgrow6 fun q hq => by cases hq; exact hBk1)
    obtain ⟨ao, co, rfl, hco⟩ := own_slice hown6
    have keep : ∀ {b : Nat} {q : Nat} {f : Nat → Value}, w5.rowIs b 5 q f → w6.rowIs b 5 q f := fun {b q f} hr => by
      have hne := own_ne_row HOW.out hr (by decide)
      exact hr.of_block (hgrow6.block b hr.lt hne.symm)
    have hrg := keep HRG.out
    have hrp : ∀ r, r < y → w6.rowIs (Gk r) 5 M (bvs (enc m (lonF x y (secs n) n B) r)) := fun r hr => keep (HBK.out.row r hr)
    have HRES : Hid (LayRes w6 (.returned (.tuple #[.slice ao (y + m) co, .int .i64 0])) x y z n B) := by
      show LayRes w6 _ x y z n B
      unfold LayRes
      rw [HK.out, if_pos rfl, Int.toNat_natCast, Int.toNat_natCast, ← HYM.out]
      refine ⟨ao, co, fun r => if r < y then some ⟨Gk r, 0, none⟩ else some ⟨g, offD x y (secs n) (r - y), none⟩, fun r => if r < y then M else wdB x y (secs n) r, rfl, fun r hr => ?_⟩
      obtain ⟨bb, oo, h1, h2⟩ := hco r hr
      by_cases e : r < y
      · refine ⟨⟨bb, oo, h1, ?_⟩, ?_⟩
        · rw [h2, List.getElem?_append_left (by simpa using e), range_get _ e]
          dsimp only
          rw [if_pos e, if_pos e, HO.out.wdp e, HM.out]
        · dsimp only
          unfold layF
          rw [if_pos e, if_pos e, HO.out.wdp e, HM.out, ← HYM.out, show y + m - y = m by omega]
          exact Byts.row (hrp r e) (Nat.le_refl _)
      · refine ⟨⟨bb, oo, h1, ?_⟩, ?_⟩
        · rw [h2, List.getElem?_append_right (by simp; omega), List.length_map, List.length_range, range_get _ (by omega)]
          dsimp only
          rw [if_neg e, if_neg e, show y + (r - y) = r by omega]
        · dsimp only
          unfold layF
          rw [if_neg e, if_neg e]
          have hof := HO.out.offs (i := r - y) (by rw [← HYM.out]; omega)
          rw [show y + (r - y) = r by omega] at hof
          exact Byts.mk fun i hi => hrg.cell (by omega)
    clear hown6 hgrow6 hco HOW HFC keep hrg hrp
    go_wp2_with fail
    go_ret2
    exact ⟨HRES.out, HX6.out⟩
end Go.Proofs.Ythgbfakmkdifbaa
/-
  Two lists of columns of any lengths, grown by append side by side; k zeros more where k may be 0.
-/
namespace Go.Proofs.Ythgbfakmkdifbaa
open Go.RowKit Go.Deep E
theorem zeros_run {P : Program} (w : World) (oT t tn : TypeId) (base : Nat) (e : TypeId) (z : Value) (bytes : Nat) (kn : IntKind) (ht : P.underlying t = some (.slice e)) (htn : P.underlying tn = some (.int kn))
    (hinfo : (P.info? e).map (fun i => (i.zero, i.size, i.bytes)) = some (some z, 1, bytes)) (hzs : z.cells = #[z]) (hz1 : z.oneCell' = true) (v : Value) (n : Nat) (xs : List Value) (hown : w.ownsRow base e 1 v n xs)
    (k : Nat) (h0 : 0 < k) (hn0 : 0 < n) (kq : IntKind) (hb : (n + k) * bytes ≤ 140737488355328) (hb1 : k * bytes ≤ 281474976710656) (hm : n + k ≤ 9223372036854775807) (hbase : base ≤ w.heap.size) :
    ∃ v' w', (Builtin.append_ #[t, tn] oT #[v, .int kq (k : Int)]).run P w = .ok v' w' ∧ w'.ownsRow base e 1 v' (n + k) (xs ++ List.replicate k z) ∧ w.grownBy w' v.ownBlock := by
  obtain ⟨i0, hi, hz0, hzz, hzb⟩ := info_parts hinfo
  have hlen : (xs ++ List.replicate k z).length = (n + k) * 1 := by rw [List.length_append, hown.1, List.length_replicate]; omega
  rcases hown.2 with ⟨rfl, e0⟩ | ⟨g, cap, cur, rfl, hbg, hg, hnc, hcm, hcs, htake⟩
  · omega
  · by_cases hroom : n + k ≤ cap
    · have hfit : n + (List.replicate k z).length ≤ cur.size := by rw [List.length_replicate, hcs]; omega
      have hst := run_storeCells_at P g n e (List.replicate k z) 0 cur w hg (by simpa using hfit) (fun u hu => by rw [List.eq_of_mem_replicate hu]; exact hz1)
      have hk : k ≠ 0 := by omega
      have hw : IntKind.i64.wrap (k : Int) = k := by rw [IntKind.wrap_i64]; omega
      have h48i : ¬ (281474976710656 < (k : Int) * (i0.bytes : Int)) := by
        rw [← Int.natCast_mul, hzb]
        omega
      have hneg : ¬ ((k : Int) < 0) := by omega
      have hr : (Builtin.append_ #[t, tn] oT #[.slice (some ⟨g, 0, none⟩) n cap, .int kq k]).run P w = .ok (.slice (some ⟨g, 0, none⟩) (n + k) cap) (w.setRow g (cur.toList.take n ++ List.replicate k z ++ cur.toList.drop (n + k)).toArray) := by
        simp only [Nat.add_zero, List.length_replicate] at hst
        simp [Builtin.append_, run_underlying ht, run_underlying htn, sizeOf, typeInfo, zeroValue, hi, hz0, hzz, asInt, asIntOf, hw, hroom, hneg, hk, h48i, hzs, zeroCells_one, Addr.add_lit, hst]
      refine ⟨_, _, hr, And.intro ⟨hlen, .inr ⟨g, cap, _, rfl, hbg, setRow_heap w g cur _ e _ hg, hroom, hcm, ?_, ?_⟩⟩ ⟨rfl, rfl, rfl, by simp, fun k _ hk => setRow_other w g k _ (fun e => hk (by simp [Value.ownBlock, e]))⟩⟩
      · simp only [List.size_toArray, List.length_append, List.length_take, List.length_drop, Array.length_toList, List.length_replicate]
        omega
      · rw [Nat.mul_one] at htake
        rw [htake, ← hlen]
        exact List.take_left
    · have hfc : (Builtin.firstCells i0.size n (.slice (some ⟨g, 0, none⟩) n cap)).run P w.drew = .ok xs.toArray w.drew :=
        run_firstCells_some (P := P) w.drew i0.size n ⟨g, 0, none⟩ n cap xs (by rw [hzz]; exact hown.1) (fun j u hj => by
          have := hown.cells (g := g) rfl j u hj
          exact this)
      have hr := Go.Lib.run_append_grow_zeros (P := P) w t tn oT e i0 z kq kn ht htn hi hz0 (some ⟨g, 0, none⟩) n cap xs hfc k h0 (by rw [hzz]; omega) (by omega) (by omega) (by rw [hzb]; exact hb1) (growslice_fits (by omega) (by rw [hzb]; exact hb))
      have hge := grownCap_ge w (n + k) cap e
      have hcm' : grownCap w (n + k) cap e ≤ maxLen := grownCap_le_maxLen w (n + k) cap e (by unfold maxLen; omega)
      rw [hzs, zeroCells_one] at hr
      refine ⟨_, _, hr, And.intro ⟨hlen, .inr ⟨w.heap.size, _, _, rfl, hbase, heap_alloc_new w.drew _, hge, hcm', ?_, ?_⟩⟩ ⟨rfl, rfl, rfl, by simp, fun k hk _ => heap_alloc_old w.drew _ hk⟩⟩
      · rw [zeroCells_one]
        have hx1 := hown.1
        simp only [Array.size_append, List.size_toArray, List.length_replicate]
        omega
      · simp only [Array.toList_append, List.append_assoc]
        rw [← List.append_assoc, ← hlen]
        exact List.take_left
theorem zerosN_run {P : Program} (w : World) (oT t tn : TypeId) (base : Nat) (e : TypeId) (z : Value) (bytes : Nat) (kn : IntKind) (ht : P.underlying t = some (.slice e)) (htn : P.underlying tn = some (.int kn))
    (hinfo : (P.info? e).map (fun i => (i.zero, i.size, i.bytes)) = some (some z, 1, bytes)) (hzs : z.cells = #[z]) (hz1 : z.oneCell' = true) (v : Value) (n : Nat) (xs : List Value) (hown : w.ownsRow base e 1 v n xs)
    (k : Nat) (hn0 : 0 < n) (hb : (n + k) * bytes ≤ 140737488355328) (hb1 : k * bytes ≤ 281474976710656) (hm : n + k ≤ 9223372036854775807) (hbase : base ≤ w.heap.size) :
    ∃ v' w', (Builtin.append_ #[t, tn] oT #[v, .int .i64 (k : Int)]).run P w = .ok v' w' ∧ w'.ownsRow base e 1 v' (n + k) (xs ++ List.replicate k z) ∧ w.grownBy w' v.ownBlock := by
  rcases Nat.eq_zero_or_pos k with e0 | h0
  · subst e0
    rcases hown.2 with ⟨rfl, e0⟩ | ⟨g, cap, cur, rfl, hbg, hg, hnc, hcm, hcs, htake⟩
    · omega
    · obtain ⟨i0, hi, hz0, hzz, hzb⟩ := info_parts hinfo
      have hw0 : IntKind.i64.wrap 0 = 0 := by rw [IntKind.wrap_i64]; omega
      have hr : (Builtin.append_ #[t, tn] oT #[.slice (some ⟨g, 0, none⟩) n cap, .int .i64 (0 : Nat)]).run P w = .ok (.slice (some ⟨g, 0, none⟩) n cap) w := by
        simp [Builtin.append_, run_underlying ht, run_underlying htn, sizeOf, typeInfo, zeroValue, hi, hz0, asInt, asIntOf, hw0, hnc, storeCells]
      refine ⟨_, _, hr, ?_, ⟨rfl, rfl, rfl, Nat.le_refl _, fun _ _ _ => rfl⟩⟩
      simpa using hown
  · exact zeros_run w oT t tn base e z bytes kn ht htn hinfo hzs hz1 v n xs hown k h0 hn0 .i64 hb hb1 hm hbase
theorem append_zerosN {P : Program} (w : World) {ops : Array Oper} {rest : List Oper} {o : Oper} {a : Act} {Q : Exit → Act → World → Prop} (hgd : o.guard = none) (s x : Operand) (t tn : TypeId)
    (ho : o.op = .call { callee := .builtin .append, args := #[s, x], argTypes := #[t, tn] }) (base : Nat) (e : TypeId) (z : Value) (bytes : Nat) (kn : IntKind) (ht : P.underlying t = some (.slice e)) (htn : P.underlying tn = some (.int kn))
    (hinfo : (P.info? e).map (fun i => (i.zero, i.size, i.bytes)) = some (some z, 1, bytes)) (hzs : z.cells = #[z]) (hz1 : z.oneCell' = true) (v : Value) (n : Nat) (xs : List Value) (hs : a.eval s = v) (hown : w.ownsRow base e 1 v n xs)
    (k : Nat) (hn0 : 0 < n) (hx : a.eval x = .int .i64 (k : Int)) (hb : (n + k) * bytes ≤ 140737488355328) (hb1 : k * bytes ≤ 281474976710656) (hm : n + k ≤ 9223372036854775807) (hbase : base ≤ w.heap.size)
    (h : ∀ v' w', w'.ownsRow base e 1 v' (n + k) (xs ++ List.replicate k z) → w.grownBy w' v.ownBlock → wpList P ops Q rest (a.put o.dst v') w') : wpList P ops Q (o :: rest) a w := by
  obtain ⟨v', w', hr, h1, h2⟩ := zerosN_run w o.type t tn base e z bytes kn ht htn hinfo hzs hz1 v n xs hown k hn0 hb hb1 hm hbase
  exact Go.Lib.wpList_append_run w hgd s x t tn ho _ _ hs hx _ _ hr (h _ _ h1 h2)
theorem step_append_zeros {P : Program} (w : World) {ops : Array Oper} {o : Oper} {a : Act} {K : Act → World → Prop} {Q : Exit → Act → World → Prop} {X : Prop} (hgd : o.guard = none) (s x : Operand) (t tn : TypeId)
    (ho : o.op = .call { callee := .builtin .append, args := #[s, x], argTypes := #[t, tn] }) (base : Nat) (e : TypeId) (z : Value) (bytes : Nat) (kn : IntKind) (ht : P.underlying t = some (.slice e)) (htn : P.underlying tn = some (.int kn))
    (hinfo : (P.info? e).map (fun i => (i.zero, i.size, i.bytes)) = some (some z, 1, bytes)) (hzs : z.cells = #[z]) (hz1 : z.oneCell' = true) (v : Value) (n : Nat) (xs : List Value) (hs : a.eval s = v) (hown : w.ownsRow base e 1 v n xs)
    (k : Nat) (hn0 : 0 < n) (hx : a.eval x = .int .i64 (k : Int)) (hb : (n + k) * bytes ≤ 140737488355328) (hb1 : k * bytes ≤ 281474976710656) (hm : n + k ≤ 9223372036854775807) (hbase : base ≤ w.heap.size)
    (h : ∀ v' w', w'.ownsRow base e 1 v' (n + k) (xs ++ List.replicate k z) → w.grownBy w' v.ownBlock → K (a.put o.dst v') w') : if Region.wanted o (yielded ops a.tmps) = true then Oper.wp P o a w K Q else X := by
  have hw : Region.wanted o (yielded ops a.tmps) = true := by simp [Region.wanted, hgd]
  rw [if_pos hw]
  obtain ⟨v', w', hr, h1, h2⟩ := zerosN_run w o.type t tn base e z bytes kn ht htn hinfo hzs hz1 v n xs hown k hn0 hb hb1 hm hbase
  exact Go.Lib.wp_append_run w s x t tn ho _ _ hs hx _ _ hr (h _ _ h1 h2)
/-- one element more, by append, at a step of a region that draws; and where it lies then -/
theorem step_app1 {P : Program} (w1 : World) {ops : Array Oper} {o : Oper} {a : Act} {K : Act → World → Prop} {Q : Exit → Act → World → Prop} {X : Prop} (hgd : o.guard = none) (s x : Operand) (t : TypeId)
    (ho : o.op = .call { callee := .builtin .append, args := #[s, x], argTypes := #[t, t] }) (base : Nat) (e : TypeId) (z : Value) (bytes : Nat) (ht : P.underlying t = some (.slice e))
    (hinfo : (P.info? e).map (fun i => (i.zero, i.size, i.bytes)) = some (some z, 1, bytes)) (hzs : z.cells.size = 1) (v : Value) (n : Nat) (xs : List Value) (hs : a.eval s = v) (hown : w1.ownsRow base e 1 v n xs)
    (u : Value) (c : Nat) (hx : a.eval x = .slice (some ⟨w1.heap.size, 0, none⟩) 1 c) (hu : u.oneCell' = true) (hb : bytes ≤ 64) (hn : n ≤ 1099511627776) (hbase : base ≤ w1.heap.size)
    (h : ∀ g cap w', w'.ownsRow base e 1 (.slice (some ⟨g, 0, none⟩) (n + 1) cap) (n + 1) (xs ++ [u]) → (w1.alloc (.cells #[u] e)).grownBy w' v.ownBlock → (v.ownBlock = some g ∨ w1.heap.size < g) → K (a.put o.dst (.slice (some ⟨g, 0, none⟩) (n + 1) cap)) w') :
    if Region.wanted o (yielded ops a.tmps) = true then Oper.wp P o a (w1.alloc (.cells #[u] e)) K Q else X := by
  obtain ⟨i0, hi, hz0, hz1, hz2⟩ := info_parts hinfo
  refine step_append_lies (w1.alloc (.cells #[u] e)) hgd s x t ho base e i0 z 1 bytes ht hi hz0 hz1 hz2 hzs (by decide) v n xs hs (hown.alloc _) ⟨w1.heap.size, 0, none⟩ 1 c [u] hx rfl ?_ ?_ (by decide) ?_ ?_ ?_ _ rfl ?_
  · intro j y hj
    match j, hj with
    | 0, hj => cases hj; simp [Addr.add]
  · intro y hy; simp at hy; subst hy; exact hu
  · unfold maxLen; omega
  · have : (n + 1) * bytes ≤ (n + 1) * 64 := Nat.mul_le_mul_left _ hb
    omega
  · simp; omega
  · intro g cap w' h1 h2 h3 _
    refine h g cap w' h1 h2 ?_
    rcases h3 with h3 | h3
    · exact Or.inl h3
    · rw [World.size_alloc] at h3
      exact Or.inr (by omega)
theorem pad_map (n k : Nat) (B : Nat → E) : (List.range n).map (bvs B) ++ List.replicate k (.int .u8 0) = (List.range (n + k)).map (bvs (padZ n B)) := by
  rw [List.range_add, List.map_append, List.map_map]
  congr 1
  · refine List.map_congr_left fun i hi => ?_
    have := List.mem_range.1 hi
    unfold bvs padZ
    rw [if_pos this]
  · apply List.ext_getElem?
    intro i
    rw [List.getElem?_replicate]
    by_cases h : i < k
    · rw [if_pos h, List.getElem?_map, List.getElem?_range h]
      simp only [Option.map_some, Function.comp]
      unfold bvs padZ
      rw [if_neg (by omega)]
      rfl
    · rw [if_neg h, List.getElem?_map, List.getElem?_eq_none (by simpa using h)]
      rfl
end Go.Proofs.Ythgbfakmkdifbaa
