/-
  drive: get: what a sector has for those who ask.
-/
import Derived.Test.YtgboboojjboocaaChecked
import Derived.WalkKit
import Derived.BigQuiet
import Derived.Lib.SliceRun
import Derived.Laws.Rows
import Derived.StillTail
import Derived.StillTailTactics
import Derived.Test.YtgboboojjboocaaRegAlloc
import Derived.Test.YtgboboojjboocaaRegInv
import Derived.Test.YtgboboojjboocaaDrIter
namespace Go.Proofs.Ytgboboojjboocaa
open Go.RowKit Go.Shelf Go.Deep E
attribute [local go_sem] Oper.semAt_some
theorem infoU8 : (Try.prog.info? 5).map (fun i => (i.zero, i.size, i.bytes)) = some (some (.int .u8 0), 1, 1) := by kernel_rfl
set_option maxRecDepth 100000 in
set_option maxHeartbeats 400000 in
theorem CloneB_any (ad : Addr) (l c : Nat) (f : Nat → E) (w : World) (hl : l ≤ 1099511627776) (h : Byts w (some ad) l f) :
    Calls Try.prog 29 #[.slice (some ad) l c] w fun e w' => ∃ v, e = .returned v ∧ w'.ownsRow w.heap.size 5 1 v l ((List.range l).map (bvs f)) ∧ Ext w w' := by
  have qT : ∀ (w : World) (a : Option Addr) (n c n' c' : Nat), (binOp .eql 32 (.slice a n c) (.slice none n' c')).run Try.prog w = .ok (.bool a.isNone) w := fun w a n c n' c' => Lib.run_eql_slice_nil w _ _ a n c n' c' Try.underlying32
  have HB : Hid (∀ i, i < l → ∃ bb o, some ad = some ⟨bb, o, none⟩ ∧ (w.alloc (.cells #[] 5)).cell? ⟨bb, o + i, none⟩ = some (bvs f i)) := fun i hi => by
    obtain ⟨bb, o, h1, h2⟩ := h i hi
    exact ⟨bb, o, h1, alloc_keeps h2 _⟩
  have HS : Hid ((w.alloc (.cells #[] 5)).ownsRow w.heap.size 5 1 (.slice (some ⟨w.heap.size, 0, none⟩) 0 0) 0 []) := World.ownsRow_lit w #[] 0 (Nat.le_refl _) (by unfold maxLen; omega) rfl
  clear h
  go_enter Try.func29, Try.ntmps29
  go_wp2_with (first | (at_builtin; refine append_vals (w.alloc (.cells #[] 5)) rfl (.tmp 5) (.tmp 6) 32 rfl w.heap.size 5 (.int .u8 0) 1 Try.underlying32 infoU8 rfl (.slice (some ⟨w.heap.size, 0, none⟩) 0 0) 0 [] rfl HS.out (some ad) l c (bvs f) rfl HB.out (fun _ _ => rfl) (by omega) (by omega) (by simp) ?_) | go_in)
  intro v' w5 hown' hgrow
  have hx5 : Ext w w5 := ((Ext.refl w).alloc _ _).grow hgrow fun _ hk => by cases hk; exact Nat.le_refl _
  have HR : Hid (w5.ownsRow w.heap.size 5 1 v' l ((List.range l).map (bvs f))) := hown'
  clear hown' hgrow
  go_wp2_with fail
  go_ret
  exact ⟨_, rfl, HR.out, hx5⟩
/-- the last that waits for a sector -/
def lastW : List (Nat × (Nat → E)) → Nat → Option (Nat → E)
  | [], _ => none
  | x :: l, k => match lastW l k with | some c => some c | none => if x.1 = k then some x.2 else none
/-- what a sector has: its code, its bytes -/
def getV (PL : List ((Nat → E) × Bool)) (W : List (Nat × (Nat → E))) (k : Nat) : Int × Option (Nat → E) :=
  match lastW W k with
  | some c => (0, some c)
  | none => match PL[k]? with | some s => if s.2 then (12, none) else (0, some s.1) | none => (0, none)
/-- a reply, as a value -/
def RepV (w : World) (base : Nat) (r : Int × Option (Nat → E)) (v : Value) : Prop :=
  ∃ dv, v = .agg #[.int .i64 r.1, dv] ∧ match r.2 with | none => dv = .slice none 0 0 | some f => w.ownsRow base 5 1 dv 128 (cts f)
theorem lastW_snoc (L : List (Nat × (Nat → E))) (y : Nat × (Nat → E)) (k : Nat) : lastW (L ++ [y]) k = if y.1 = k then some y.2 else lastW L k := by
  induction L with
  | nil =>
    show (match lastW [] k with | some c => some c | none => if y.1 = k then some y.2 else none) = _
    rfl
  | cons x l ih =>
    show (match lastW (l ++ [y]) k with | some c => some c | none => if x.1 = k then some x.2 else none) = _
    rw [ih]
    by_cases h : y.1 = k
    · rw [if_pos h, if_pos h]
    · rw [if_neg h, if_neg h]
      rfl
theorem bk_at {Ws : List (Nat × (Nat → E))} {j : Nat} (hj : j < Ws.length) : Ws.take (Ws.length - j) = Ws.take (Ws.length - (j + 1)) ++ [(bkF Ws j).2] := by
  have h1 : Ws.length - j = Ws.length - (j + 1) + 1 := by omega
  have h2 : Ws.length - (j + 1) < Ws.length := by omega
  rw [h1, List.take_succ_eq_append_getElem h2]
  congr 1
  unfold bkF
  simp only
  rw [List.getD_eq_getElem?_getD, show Ws.length - 1 - j = Ws.length - (j + 1) by omega, List.getElem?_eq_getElem h2]
  rfl
theorem last_skip (Ws : List (Nat × (Nat → E))) (k : Nat) : ∀ kk, kk ≤ Ws.length → (∀ y, y ∈ upto (bkF Ws) kk → y.2.1 ≠ k) → lastW Ws k = lastW (Ws.take (Ws.length - kk)) k
  | 0, _, _ => by rw [Nat.sub_zero, List.take_length]
  | kk + 1, hl, h => by
    rw [last_skip Ws k kk (by omega) fun y hy => h y (by rw [upto_succ]; exact List.mem_append.2 (Or.inl hy)), bk_at (by omega), lastW_snoc, if_neg (h _ (by rw [upto_succ]; simp))]
theorem last_found {Ws : List (Nat × (Nat → E))} {k kk : Nat} (hl : kk ≤ Ws.length) {pre' : List (Nat × (Nat × (Nat → E)))} {x : Nat × (Nat × (Nat → E))} (he : upto (bkF Ws) kk = pre' ++ [x]) (hp : ∀ y, y ∈ pre' → y.2.1 ≠ k) (hx : x.2.1 = k) : lastW Ws k = some x.2.2 := by
  cases kk with
  | zero => simp [upto] at he
  | succ kk =>
    rw [upto_succ] at he
    obtain ⟨h1, h2⟩ := List.append_inj' he rfl
    have h3 : bkF Ws kk = x := by simpa using h2
    subst h1
    rw [last_skip Ws k kk (by omega) hp, bk_at (by omega), lastW_snoc, h3, if_pos hx]
theorem ext_keepsFrom {B : Nat} {X Y : World} (h : Ext X Y) : KeepsFrom B X Y := ⟨h.size, fun k _ _ hk _ => (h.below.block k (Array.getElem?_eq_some_iff.1 hk).1).trans hk⟩
theorem repInfo : (Try.prog.info? 46).map (·.size) = some 2 := by kernel_rfl
theorem row2_cells {w : World} {g : Nat} {a b : Value} {t : TypeId} (h : w.heap[g]? = some (.cells #[a, b] t (0, 0))) : w.cell? ⟨g, 0, none⟩ = some a ∧ w.cell? ⟨g, 1, none⟩ = some b ∧ ∀ j, w.frozen? ⟨g, j, none⟩ = false := by
  refine ⟨?_, ?_, fun j => frozen_of_row w g j _ t h⟩
  · rw [cell_of_row w g 0 _ t (0, 0) h]; rfl
  · rw [cell_of_row w g 1 _ t (0, 0) h]; rfl
theorem row2_set {w : World} {g : Nat} {a b : Value} {t : TypeId} (h : w.heap[g]? = some (.cells #[a, b] t (0, 0))) (x y : Value) : ((w.setCell ⟨g, 0, none⟩ x).setCell ⟨g, 1, none⟩ y).heap[g]? = some (.cells #[x, y] t (0, 0)) := by
  have h1 := heap_setCell_same w g 0 #[a, b] t x h
  have h2 := heap_setCell_same _ g 1 _ t y h1
  rw [h2]
  rfl
set_option maxRecDepth 100000 in
set_option maxHeartbeats 4000000 in
theorem get_any (base gd gp n k : Nat) (PL : List ((Nat → E) × Bool)) (Ws : List (Nat × (Nat → E))) (wv : Value) (dead : Bool) (w : World) (_hn : n ≤ 512) (hk : k < n) (hW : Ws.length ≤ 300) (h : DSt w base gd gp n PL Ws wv dead) :
    Calls Try.prog 21 #[.pointer (some ⟨gd, 0, none⟩), .int .i64 k] w fun e w' => ∃ v, e = .returned v ∧ RepV w' w.heap.size (getV PL Ws k) v ∧ Ext w w' := by
  refine (callsIn_wide (n := 10)).1 ?_
  have HD : Hid (DSt w base gd gp n PL Ws wv dead) := h
  obtain ⟨_, a, c, hwv, _, _, hels⟩ := own_els h.row (Szd.map wtC_len Ws) (by omega)
  subst hwv
  obtain ⟨m, hm⟩ : ∃ m, Ws.length = m := ⟨_, rfl⟩
  have HM : Hid (Ws.length = m) := hm
  obtain ⟨_, b1, _, _⟩ := cells_drive h.box
  rw [hm] at b1 hW
  have b1' := alloc_keeps (alloc_keeps b1 (.cells #[.int .i64 k] 3)) (.cells #[.int .i64 0, .slice none 0 0] 46)
  clear h
  refine callsIn_of_wp_marks Try.func21 rfl trivial ?_ rfl
  simp only [Try.ntmps21, List.size_toArray, List.length_cons, List.length_nil, Nat.reduceAdd, Nat.reduceSub, Array.replicate_succ, Array.replicate_zero, List.push_toArray, List.append_toArray, List.nil_append, List.cons_append]
  gi_wp2_with (refine ⟨trivial, ?_⟩; gi_at_call 28; refine (bk_in 9 _ _ _ _).mono ?_; rintro e w' ⟨rfl, rfl⟩)
  obtain ⟨W0, hW0⟩ : ∃ W0, (((w.alloc (.cells #[.int .i64 k] 3)).alloc (.cells #[.int .i64 0, .slice none 0 0] 46)).alloc (.cells #[.slice a m c] 49)) = W0 := ⟨_, rfl⟩
  have hs0 : W0.heap.size = w.heap.size + 3 := by rw [← hW0]; simp
  have x0 : Ext w W0 := by rw [← hW0]; exact (((Ext.refl w).alloc _ _).alloc _ _).alloc _ _
  have hB0 : W0.heap[w.heap.size]? = some (.cells #[.int .i64 k] 3 (0, 0)) := by
    rw [← hW0]
    exact extBlk (((Ext.refl _).alloc _ _).alloc _ _) (heap_alloc_new w _)
  have hB1 : W0.heap[w.heap.size + 1]? = some (.cells #[.int .i64 0, .slice none 0 0] 46 (0, 0)) := by
    rw [← hW0]
    have h := heap_alloc_new (w.alloc (.cells #[.int .i64 k] 3)) (.cells #[.int .i64 0, .slice none 0 0] 46)
    rw [World.size_alloc] at h
    exact extBlk ((Ext.refl _).alloc _ _) h
  have hB2 : W0.heap[w.heap.size + 1 + 1]? = some (.cells #[.slice a m c] 49 (0, 0)) := by
    rw [← hW0]
    have h := heap_alloc_new ((w.alloc (.cells #[.int .i64 k] 3)).alloc (.cells #[.int .i64 0, .slice none 0 0] 46)) (.cells #[.slice a m c] 49)
    rw [World.size_alloc, World.size_alloc] at h
    exact h
  have hbox2 : W0.cell? ⟨w.heap.size + 1 + 1, 0, none⟩ = some (.slice a m c) := by rw [cell_of_row _ _ 0 _ _ _ hB2]; rfl
  have hbelow : ∀ b o, a = some ⟨b, o, none⟩ → b < W0.heap.size := fun b o ha => by
    have h1 := HD.out.row.lt b (by rw [ha]; rfl)
    omega
  rw [hW0]
  have HB0 : Hid (W0.heap[w.heap.size]? = some (.cells #[.int .i64 k] 3 (0, 0))) := hB0
  have HB1 : Hid (W0.heap[w.heap.size + 1]? = some (.cells #[.int .i64 0, .slice none 0 0] 46 (0, 0))) := hB1
  have HX0 : Hid (Ext w W0) := x0
  have HS0 : Hid (W0.heap.size = w.heap.size + 3) := hs0
  have hE0 := hels.ext x0
  clear hW0 b1 b1' hels
  refine wpIn_rangeFunc_ownH (F := Fence.wide) rfl (by omega) (gf := 30) (lb := #[.pointer (some ⟨w.heap.size + 1 + 1, 0, none⟩)]) rfl trivial (enters_of Try.func30 (by kernel_rfl) rfl)
    (bk_stops 9 (by omega) (w.heap.size + 1 + 1) W0.heap.size a m c Ws hm hW W0 (by omega) (Nat.le_refl _) hbox2 hE0 hbelow) belowK_t (belowK_b (Nat.le_refl _)) (Below.refl _ _) (fun _ => rfl)
    (fun pre W => (∀ x, x ∈ pre → x.2.1 ≠ k) ∧ Below W0.heap.size W0 W)
    (fun cd pre W => cd = .ret ∧ ∃ pre' x dv, pre = pre' ++ [x] ∧ (∀ y, y ∈ pre' → y.2.1 ≠ k) ∧ x.2.1 = k ∧ W.heap[w.heap.size + 1]? = some (.cells #[.int .i64 0, dv] 46 (0, 0)) ∧ W.ownsRow w.heap.size 5 1 dv 128 (cts x.2.2) ∧ Ext w W)
    (fun s X Y row hs hg hr => ⟨hs.1, ownFrom_below (n₀ := W0.heap.size) (Nat.le_refl _) (Nat.le_refl _) s X Y row hs.2 hg hr⟩)
    (fun cd s X Y row hs hg hr => ?hix)
    ⟨fun x hx => by simp at hx, Below.refl _ _⟩
    (fun x a' W => ∃ Bx, W0.heap.size ≤ Bx ∧ W.heap[Bx]? = some (boxW x.2) ∧ a' = { tmps := #[.pointer (some ⟨gd, 0, none⟩), .int .i64 k, undef, .pointer (some ⟨w.heap.size, 0, none⟩), .pointer (some ⟨w.heap.size + 1, 0, none⟩), undef, .pointer (some ⟨Bx, 0, none⟩), undef, .pointer (some ⟨gd, 0, none⟩), .pointer (some ⟨gd, 0, none⟩), .pointer (some ⟨gd, 1, none⟩), .slice a m c, .func (.func 30) #[] #[.pointer (some ⟨w.heap.size + 1 + 1, 0, none⟩)], .int .i64 (x.1 : Int), .agg (wtC x.2).toArray, undef, undef, undef, undef, undef, undef, undef, undef, undef, undef, undef, undef, undef, undef, undef, undef, undef, undef, undef, undef, undef, undef], defers := [] })
    (fun x a' _ X Y row hs hg hr => ?hax)
    ?assign ?body ?done ?stop
  case hix =>
    obtain ⟨h1, pre', x, dv, h2, h3, h4, h5, h6, h7⟩ := hs
    refine ⟨h1, pre', x, dv, h2, h3, h4, (hg.block _ (Array.getElem?_eq_some_iff.1 h5).1 fun q => ?_).trans h5, h6.kept hg ?_, h7.grow hg fun r e => ?_⟩
    · obtain ⟨_, o, ho, hc⟩ := hr _ q.symm
      rw [h5] at ho
      cases ho
      cases hc
    · cases hb : dv.ownBlock with
      | none => exact Or.inl rfl
      | some g =>
        refine Or.inr fun q => ?_
        obtain ⟨_, o, ho, hc⟩ := hr _ q.symm
        obtain ⟨cur, hcur⟩ := own_block h6 hb
        rw [hcur] at ho
        cases ho
        cases hc
    · have h8 := (hr r e).1
      have h9 := HS0.out
      omega
  case hax =>
    obtain ⟨Bx, h1, h2, h3⟩ := hs
    refine ⟨Bx, h1, (hg.block _ (Array.getElem?_eq_some_iff.1 h2).1 fun q => ?_).trans h2, h3⟩
    obtain ⟨_, o, ho, hc⟩ := hr _ q.symm
    rw [h2] at ho
    cases ho
    cases hc
  case assign =>
    rintro l pre x W K ⟨hp, hB⟩ hK
    have hz := (zero_of_info zeroWt).1
    have hiw2 : (Try.prog.info? 63).map (·.size) = some (wtC x.2).toArray.size := by rw [List.size_toArray, wtC_len]; exact (zero_of_info zeroWt).2
    have hone : (wtC x.2).toArray.all (·.oneCell') = true := all_oneCell_toArray (wtC_one x.2)
    have hsz : (Value.int .i64 0 :: Z128).toArray.size = (wtC x.2).toArray.size := by rw [List.size_toArray, List.size_toArray, wtC_len, List.length_cons, Z128_len]
    have hnew : (W.alloc (.cells (Value.int .i64 0 :: Z128).toArray 63)).heap[W.heap.size]? = some (.cells (Value.int .i64 0 :: Z128).toArray 63 (0, 0)) := heap_alloc_new _ _
    have e9 : (W.alloc (.cells (Value.int .i64 0 :: Z128).toArray 63)).setRow W.heap.size (wtC x.2).toArray = W.alloc (boxW x.2) := World.setRow_alloc_new _ _ _ _
    gi_wp2_with (first | (refine wpListIn_store_row rfl 63 _ _ rfl W.heap.size (wtC x.2).toArray rfl rfl 63 _ hnew hiw2 hsz hone ?_) | fail)
    exact hK _ _ ((KeepsOthers.alloc _ _).from _) ((Below.refl _ W).alloc hB.size _) ⟨hp, hB.alloc hB.size _⟩ ⟨W.heap.size, hB.size, heap_alloc_new _ _, rfl⟩
  case body =>
    rintro l pre x a' W hl ⟨r, hr⟩ ⟨hp, hB⟩ ⟨Bx, hBx, hbx, rfl⟩ hlt
    have f0 : W.cell? ⟨Bx, 0, none⟩ = some (.int .i64 x.2.1) := by rw [cell_of_row _ _ 0 _ _ _ hbx]; rfl
    have hk0 : W0.cell? ⟨w.heap.size, 0, none⟩ = some (.int .i64 k) := by rw [cell_of_row _ _ 0 _ _ _ HB0.out]; rfl
    have fk := (hB.cell (p := ⟨w.heap.size, 0, none⟩) (by have := HS0.out; show w.heap.size < _; omega)).trans hk0
    have hbr : (W.heap[w.heap.size + 1]? : Option Obj) = some (.cells #[.int .i64 0, .slice none 0 0] 46 (0, 0)) := (hB.block _ (by have := HS0.out; omega)).trans HB1.out
    have HBR : Hid (W.heap[w.heap.size + 1]? = some (.cells #[.int .i64 0, .slice none 0 0] 46 (0, 0))) := hbr
    have HXW : Hid (Ext w W) := HX0.out.trans ⟨hB⟩
    by_cases hx : x.2.1 = k
    · have hxb : ((x.2.1 : Int) == (k : Int)) = true := by rw [beq_iff_eq]; omega
      have hbyts : Byts W (some ⟨Bx, 1, none⟩) 128 x.2.2 := fun i hi => ⟨Bx, 1, rfl, by
        rw [cell_of_row _ _ (1 + i) _ _ _ hbx]
        show (wtC x.2).toArray[1 + i]? = _
        rw [List.getElem?_toArray]
        unfold wtC
        rw [show 1 + i = i + 1 by omega, List.getElem?_cons_succ]
        unfold cts
        rw [List.getElem?_map, List.getElem?_range hi]
        rfl⟩
      have HC := CloneB_any ⟨Bx, 1, none⟩ 128 128 x.2.2 W (by omega) hbyts
      clear hbr hbyts
      gi_wp2_with fail
      refine ⟨trivial, ?_⟩
      refine (CallsIn.inRound l (callsIn_wide.2 HC)).mono ?_
      rintro e w5 ⟨dv, rfl, hown, hx5⟩
      obtain ⟨aD, cD, rfl, _⟩ := own_slice hown
      have hb5 := extBlk hx5 HBR.out
      obtain ⟨r0, r1, r2⟩ := row2_cells hb5
      have z0 := r2 0
      have z1 := r2 1
      have HB5 : Hid (w5.heap[w.heap.size + 1]? = some (.cells #[.int .i64 0, .slice none 0 0] 46 (0, 0))) := hb5
      have HO5 : Hid (w5.ownsRow w.heap.size 5 1 (.slice aD 128 cD) 128 (cts x.2.2)) := own_mono hown HXW.out.size
      have HX5 : Hid (Ext W w5) := hx5
      clear r2 hb5 HC hown hx5 fk f0
      gi_wp2
      have hw6 : Wro (· = w.heap.size + 1) w5 ((w5.setCell ⟨w.heap.size + 1, 0, none⟩ (.int .i64 0)).setCell ⟨w.heap.size + 1, 1, none⟩ (.slice aD 128 cD)) := ((Wro.refl (· = w.heap.size + 1) w5).setCell (p := ⟨w.heap.size + 1, 0, none⟩) rfl _).setCell (p := ⟨w.heap.size + 1, 1, none⟩) rfl _
      refine ⟨?_, rfl, pre, x, .slice aD 128 cD, rfl, hp, hx, row2_set HB5.out _ _, own_wro2 HO5.out hw6 fun b hb => by rw [hb]; exact own_type HO5.out HB5.out (by decide), Wro.after (HXW.out.trans HX5.out) hw6 fun i hi => by rw [hi]; omega⟩
      refine ⟨Nat.le_trans HX5.out.size hw6.size, fun q o hq h1 _ => (hw6.block q ?_ ?_).trans (extBlk HX5.out h1)⟩
      · exact Nat.lt_of_lt_of_le (Array.getElem?_eq_some_iff.1 h1).1 HX5.out.size
      · have := HS0.out
        show ¬ q = _
        omega
    · have hxb : ((x.2.1 : Int) == (k : Int)) = false := by rw [beq_eq_false_iff_ne]; omega
      gi_wp2
      refine ⟨KeepsFrom.refl _ _, Below.refl _ _, fun y hy => ?_, hB⟩
      rcases List.mem_append.1 hy with h | h
      · exact hp y h
      · rw [List.mem_singleton.1 h]; exact hx
  case done =>
    rintro D ys W hD rfl ⟨hne, hB⟩ hK
    have hlast : lastW Ws k = none := by
      rw [last_skip Ws k m (by rw [HM.out]; exact Nat.le_refl _) hne, HM.out, Nat.sub_self]
      rfl
    gi_wp2_with fail
    refine wpIn_wide.2 ?_
    have HXW : Hid (Ext w W) := HX0.out.trans ⟨hB⟩
    have HDW : Hid (DSt W base gd gp n PL Ws (.slice a Ws.length c) dead) := HD.out.ext HXW.out
    have hk0 : W0.cell? ⟨w.heap.size, 0, none⟩ = some (.int .i64 k) := by rw [cell_of_row _ _ 0 _ _ _ HB0.out]; rfl
    have fk : W.cell? ⟨w.heap.size, 0, none⟩ = some (.int .i64 k) := (hB.cell (p := ⟨w.heap.size, 0, none⟩) (by have := HS0.out; show w.heap.size < _; omega)).trans hk0
    have HBR : Hid (W.heap[w.heap.size + 1]? = some (.cells #[.int .i64 0, .slice none 0 0] 46 (0, 0))) := (hB.block _ (by have := HS0.out; omega)).trans HB1.out
    obtain ⟨s, hs⟩ : ∃ s, PL[k]? = some s := ⟨_, List.getElem?_eq_getElem (by rw [HD.out.len]; exact hk)⟩
    obtain ⟨b0, _, _, _⟩ := cells_drive HDW.out.box
    obtain ⟨bP, oP, hpp, hrP⟩ := own_els_at HDW.out.plate (Szd.map secC_len PL) (by omega) k (secC s) (by rw [List.getElem?_map, hs]; rfl)
    cases hpp
    have hrange : W.rangeAt gp (0 + k * 129) (secC s) := hrP
    rw [Nat.zero_add] at hrange
    have hiS : (Try.prog.info? 68).map (·.size) = some (secC s).length := by rw [secC_len]; exact (zero_of_info zeroSec).2
    have hki : (k : Int) < (n : Int) := by omega
    obtain ⟨ZS, hZS⟩ : ∃ ZS : Array Value, (Z128 ++ [Value.bool false]).toArray = ZS := ⟨_, rfl⟩
    have hzs : ∀ v, (zeroValue 68).run Try.prog v = .ok (.agg ZS) v := by rw [← hZS]; exact (zero_of_info zeroSec).1
    have b0d : W.drew.cell? ⟨gd, 0, none⟩ = some (.slice (some ⟨gp, 0, none⟩) n n) := by rw [World.cell?_drew]; exact b0
    have fkd : W.drew.cell? ⟨w.heap.size, 0, none⟩ = some (.int .i64 k) := by rw [World.cell?_drew]; exact fk
    have b0a : (W.alloc (.cells ZS 68)).cell? ⟨gd, 0, none⟩ = some (.slice (some ⟨gp, 0, none⟩) n n) := alloc_keeps b0 _
    have fka : (W.alloc (.cells ZS 68)).cell? ⟨w.heap.size, 0, none⟩ = some (.int .i64 k) := alloc_keeps fk _
    have hrd : W.drew.rangeAt gp (k * 129) (secC s) := rangeAt_ext hrange (Ext.refl W).drew
    have hra : (W.drew.alloc (.cells ZS 68)).rangeAt gp (k * 129) (secC s) := rangeAt_ext hrd ((Ext.refl _).alloc _ _)
    refine wp_region_alloc (P := Try.prog) 7 37 7 (.pointer (some ⟨W.heap.size, 0, none⟩)) (W.drew.alloc (.cells ZS 68)) (by kernel_rfl) _ rfl rfl (by kernel_rfl) rfl ?_ ?_
    · intro K a' hK'
      refine wpOp_of rfl rfl (wp_allocs 68 rfl _ hzs ?_)
      exact hK'
    simp only [List.take_succ_cons, List.take_zero]
    iterate 6 still_step
    refine still_of_yields (.inl ⟨by simp [Region.wanted], .inl (exec_load _ _ rfl rfl (run_loadAt_mid (P := Try.prog) W.drew gp (k * 129) 68 (secC s) _ hrd Try.underlying68 rfl hiS))⟩) ?_
    refine wpStill_nil ⟨?_, ?_⟩
    · iterate 6 still_step
      refine still_of_yields (.inl ⟨by simp [Region.wanted], .inl (exec_load _ _ rfl rfl (run_loadAt_mid (P := Try.prog) (W.drew.alloc (.cells ZS 68)) gp (k * 129) 68 (secC s) _ hra Try.underlying68 rfl hiS))⟩) ?_
      exact wpStill_nil rfl
    simp only [List.drop_succ_cons, List.drop_zero, Act.put, List.setIfInBounds_toArray, List.set_cons_succ, List.set_cons_zero]
    have hiS2 : (Try.prog.info? 68).map (·.size) = some (secC s).toArray.size := by rw [List.size_toArray]; exact hiS
    have honeS : (secC s).toArray.all (·.oneCell') = true := all_oneCell_toArray (secC_one s)
    have hszS : ZS.size = (secC s).toArray.size := by rw [← hZS, List.size_toArray, List.size_toArray, secC_len, List.length_append, Z128_len]; rfl
    have hnewS : (W.drew.alloc (.cells ZS 68)).heap[W.heap.size]? = some (.cells ZS 68 (0, 0)) := heap_alloc_new W.drew _
    have e9 : (W.drew.alloc (.cells ZS 68)).setRow W.heap.size (secC s).toArray = W.drew.alloc (.cells (secC s).toArray 68) := World.setRow_alloc_new W.drew _ _ _
    refine wpList_store_row rfl 68 _ _ rfl W.heap.size (secC s).toArray rfl rfl 68 _ hnewS hiS2 hszS honeS ?_
    rw [e9]
    obtain ⟨W1, hW1⟩ : ∃ W1, W.drew.alloc (.cells (secC s).toArray 68) = W1 := ⟨_, rfl⟩
    have hx1 : Ext W W1 := by rw [← hW1]; exact ((Ext.refl W).drew).alloc _ _
    have hbS : W1.heap[W.heap.size]? = some (.cells (secC s).toArray 68 (0, 0)) := by rw [← hW1]; exact heap_alloc_new W.drew _
    have cS : W1.cell? ⟨W.heap.size, 128, none⟩ = some (.bool s.2) := by
      rw [cell_of_row _ _ 128 _ _ _ hbS, List.getElem?_toArray]
      unfold secC
      rw [List.getElem?_append_right (by rw [cts_len]; exact Nat.le_refl _), cts_len]
      rfl
    rw [hW1]
    have HX1 : Hid (Ext W W1) := hx1
    have HBR1 : Hid (W1.heap[w.heap.size + 1]? = some (.cells #[.int .i64 0, .slice none 0 0] 46 (0, 0))) := extBlk hx1 HBR.out
    have HK1 : Hid (W1.heap[D]? = some (.deferred (some []))) := extBlk hx1 hK
    have hneD : w.heap.size + 1 ≠ D := by have := HS0.out; omega
    obtain ⟨r0, r1, r2⟩ := row2_cells HBR1.out
    have z0 := r2 0
    have z1 := r2 1
    clear hiS hiS2 honeS hszS hnewS e9 hW1 hx1 b0 b0d b0a fk fkd fka hrd hra hrange hrP hzs r2 hk0
    cases hbr : s.2 with
    | true =>
      rw [hbr] at cS
      go_wp2_with fail
      gi_wp2
      have hw6 : Wro (· = w.heap.size + 1) W1 ((W1.setCell ⟨w.heap.size + 1, 0, none⟩ (.int .i64 12)).setCell ⟨w.heap.size + 1, 1, none⟩ (.slice none 0 0)) := ((Wro.refl (· = w.heap.size + 1) W1).setCell (p := ⟨w.heap.size + 1, 0, none⟩) rfl _).setCell (p := ⟨w.heap.size + 1, 1, none⟩) rfl _
      have hK2 := wroBlk hw6 HK1.out (fun q => hneD q.symm)
      have hb2 := row2_set HBR1.out (.int .i64 12) (.slice none 0 0)
      have hg := grownBy_putObj' ((W1.setCell ⟨w.heap.size + 1, 0, none⟩ (.int .i64 12)).setCell ⟨w.heap.size + 1, 1, none⟩ (.slice none 0 0)) D (.deferred none)
      have hb3 := (hg.block _ (Array.getElem?_eq_some_iff.1 hb2).1 fun q => hneD (by injection q)).trans hb2
      refine ⟨by simp, .inl ⟨_, _, rfl, run_takeDeferred hK2, ?_⟩⟩
      refine ⟨_, results_cell_row rfl _ _ (w.heap.size + 1) 46 #[.int .i64 12, .slice none 0 0] (0, 0) _ rfl hb3 Try.underlying46 rfl repInfo, _, rfl, ?_, (Wro.after (HXW.out.trans HX1.out) hw6 fun i hi => by rw [hi]; omega).grow hg fun r e => by cases e; have := HS0.out; omega⟩
      have hv : getV PL Ws k = (12, none) := by unfold getV; rw [hlast, hs]; simp [hbr]
      rw [hv]
      exact ⟨_, rfl, rfl⟩
    | false =>
      rw [hbr] at cS
      have hbyts : Byts W1 (some ⟨W.heap.size, 0, none⟩) 128 s.1 := fun i hi => ⟨W.heap.size, 0, rfl, by
        rw [cell_of_row _ _ (0 + i) _ _ _ hbS, Nat.zero_add, List.getElem?_toArray]
        unfold secC
        rw [List.getElem?_append_left (by rw [cts_len]; exact hi)]
        unfold cts
        rw [List.getElem?_map, List.getElem?_range hi]
        rfl⟩
      have HC := CloneB_any ⟨W.heap.size, 0, none⟩ 128 128 s.1 W1 (by omega) hbyts
      go_wp2_with fail
      gi_wp2_with fail
      refine ⟨trivial, ?_⟩
      refine (callsIn_wide.2 HC).mono ?_
      rintro e w5 ⟨dv, rfl, hown, hx5⟩
      obtain ⟨aD, cD, rfl, _⟩ := own_slice hown
      have hb5 := extBlk hx5 HBR1.out
      obtain ⟨q0, q1, q2⟩ := row2_cells hb5
      have y0 := q2 0
      have y1 := q2 1
      have HB5 : Hid (w5.heap[w.heap.size + 1]? = some (.cells #[.int .i64 0, .slice none 0 0] 46 (0, 0))) := hb5
      have HO5 : Hid (w5.ownsRow w.heap.size 5 1 (.slice aD 128 cD) 128 (cts s.1)) := own_mono hown (HXW.out.trans HX1.out).size
      have HX5 : Hid (Ext W1 w5) := hx5
      clear q2 hb5 HC hown hx5 hbyts
      gi_wp2
      have hw6 : Wro (· = w.heap.size + 1) w5 ((w5.setCell ⟨w.heap.size + 1, 0, none⟩ (.int .i64 0)).setCell ⟨w.heap.size + 1, 1, none⟩ (.slice aD 128 cD)) := ((Wro.refl (· = w.heap.size + 1) w5).setCell (p := ⟨w.heap.size + 1, 0, none⟩) rfl _).setCell (p := ⟨w.heap.size + 1, 1, none⟩) rfl _
      have hK2 := wroBlk hw6 (extBlk HX5.out HK1.out) (fun q => hneD q.symm)
      have hb2 := row2_set HB5.out (.int .i64 0) (.slice aD 128 cD)
      have hO6 := own_wro2 HO5.out hw6 fun b hb => by rw [hb]; exact own_type HO5.out HB5.out (by decide)
      have hg := grownBy_putObj' ((w5.setCell ⟨w.heap.size + 1, 0, none⟩ (.int .i64 0)).setCell ⟨w.heap.size + 1, 1, none⟩ (.slice aD 128 cD)) D (.deferred none)
      have hb3 := (hg.block _ (Array.getElem?_eq_some_iff.1 hb2).1 fun q => hneD (by injection q)).trans hb2
      refine ⟨by simp, .inl ⟨_, _, rfl, run_takeDeferred hK2, ?_⟩⟩
      refine ⟨_, results_cell_row rfl _ _ (w.heap.size + 1) 46 #[.int .i64 0, .slice aD 128 cD] (0, 0) _ rfl hb3 Try.underlying46 rfl repInfo, _, rfl, ?_, (Wro.after ((HXW.out.trans HX1.out).trans HX5.out) hw6 fun i hi => by rw [hi]; omega).grow hg fun r e => by cases e; have := HS0.out; omega⟩
      have hv : getV PL Ws k = (0, some s.1) := by unfold getV; rw [hlast, hs]; simp [hbr]
      rw [hv]
      refine ⟨.slice aD 128 cD, rfl, hO6.kept hg ?_⟩
      cases hb : (.slice aD 128 cD : Value).ownBlock with
      | none => exact Or.inl rfl
      | some g =>
        refine Or.inr fun q => ?_
        obtain ⟨cur, hcur⟩ := own_block hO6 hb
        cases q
        rw [hcur] at hK2
        cases hK2
  case stop =>
    rintro D cd pre W hD ⟨kk, hkk, hpre⟩ ⟨rfl, pre', x, dv, h2, h3, h4, h5, h6, h7⟩ hK
    have hlast := last_found (k := k) (kk := kk) (by rw [HM.out]; exact hkk) (hpre.symm.trans h2) h3 h4
    gi_wp2
    have hg := grownBy_putObj' W D (.deferred none)
    have hne : w.heap.size + 1 ≠ D := by have := HS0.out; omega
    have h5' : (W.putObj D (.deferred none)).heap[w.heap.size + 1]? = some (.cells #[.int .i64 0, dv] 46 (0, 0)) := (hg.block _ (Array.getElem?_eq_some_iff.1 h5).1 fun q => hne (by injection q)).trans h5
    refine ⟨by simp, .inl ⟨_, _, rfl, run_takeDeferred hK, ?_⟩⟩
    refine ⟨_, results_cell_row rfl _ _ (w.heap.size + 1) 46 #[.int .i64 0, dv] (0, 0) _ rfl h5' Try.underlying46 rfl repInfo, _, rfl, ?_, h7.grow hg fun r e => by cases e; have := HS0.out; omega⟩
    have hv : getV PL Ws k = (0, some x.2.2) := by unfold getV; rw [hlast]
    rw [hv]
    refine ⟨dv, rfl, h6.kept hg ?_⟩
    cases hb : dv.ownBlock with
    | none => exact Or.inl rfl
    | some g =>
      refine Or.inr fun q => ?_
      obtain ⟨cur, hcur⟩ := own_block h6 hb
      cases q
      rw [hcur] at hK
      cases hK
end Go.Proofs.Ytgboboojjboocaa
