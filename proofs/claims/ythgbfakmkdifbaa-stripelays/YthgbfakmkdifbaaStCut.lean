/-
  stripe.cut, stripe.filled: the data in their columns, and columns filled up, in new memory.
-/
import Derived.Test.YthgbfakmkdifbaaChecked
import Derived.WalkKit
import Derived.Laws.CopyOwn
import Derived.Deep.Slices
import Derived.Test.YthgbfakmkdifbaaStLay
namespace Go.Proofs.Ythgbfakmkdifbaa
open Go.RowKit Go.Deep E
/-- copy over the head of a row that the call has made: as many as fit -/
theorem copy_bytsM {P : Program} {w : World} {ops : Array Oper} {rest : List Oper} {o : Oper} {a : Act} {Q : Exit → Act → World → Prop} (hgd : o.guard = none) (d s : Operand) (T : TypeId)
    (ho : o.op = .call { callee := .builtin .copy, args := #[d, s], argTypes := #[T, T] }) (t : TypeId) (hu : P.underlying T = some (.slice t)) (hsz : (P.info? t).map (·.size) = some 1)
    (g m dCap : Nat) (sp : Option Addr) (l sCap : Nat) (hd : a.eval d = .slice (some ⟨g, 0, none⟩) m dCap) (hs : a.eval s = .slice sp l sCap) (f : Nat → Value) (hg : w.rowIs g t m f) (F : Nat → E) (hi : Byts w sp l F)
    (h : ∀ v w', w'.rowIs g t m (fun i => if i < l then .int .u8 (ev (F i)) else f i) → Wro (· = g) w w' → wpList P ops Q rest (a.put o.dst v) w') : wpList P ops Q (o :: rest) a w := by
  rcases Nat.lt_or_ge m l with hlt | hle
  · rcases Nat.eq_zero_or_pos m with e | h0
    · subst e
      refine wpList_copy_nothing hgd d s T T ho t hu hsz _ _ 0 dCap l sCap hd hs (Nat.min_zero _) ?_
      exact h _ w (hg.congr fun i hi => by omega) (Wro.refl _ _)
    obtain ⟨b, off, rfl, hc⟩ := hi.at (by omega)
    obtain ⟨cur, hcur, hlen, hcell⟩ := hg
    have hcs : ((List.range m).map fun i => Value.int .u8 (ev (F i))).length = m := by simp
    refine wpList_copy_own hgd d s T T ho t hu hsz g 0 m dCap ⟨b, off, none⟩ l sCap hd hs cur t hcur ((List.range m).map fun i => .int .u8 (ev (F i))) (by rw [hcs]; exact (Nat.min_eq_right (by omega)).symm) ?_ ?_ ?_ ?_
    · intro j v hj
      have e : j < m := by
        rcases Nat.lt_or_ge j m with e | e
        · exact e
        · rw [List.getElem?_eq_none (by simp; omega)] at hj; cases hj
      rw [List.getElem?_map, List.getElem?_range e] at hj
      cases hj
      rw [Go.WideShapes.add_plain]
      exact hc j (by omega)
    · rw [hcs]; omega
    · intro v hv
      obtain ⟨i, _, rfl⟩ := List.mem_map.1 hv
      rfl
    · rw [hcs]
      refine h _ _ ⟨_, setRow_heap w g cur _ t _ hcur, ?_, fun i hi' => ?_⟩ ⟨rfl, rfl, rfl, by simp, fun k _ hk => setRow_other _ _ _ _ hk⟩
      · simp; omega
      · simp only [List.getElem?_toArray, List.take_zero, List.nil_append, Nat.zero_add]
        rw [List.getElem?_append_left (by simpa using hi'), if_pos (by omega)]
        simp [hi']
  · exact copy_byts hgd d s T ho t hu hsz g m dCap sp l sCap hd hs f hg F hi hle fun w' h1 h2 => h _ w' h1 h2
/-- a slice by three indexes, nothing behind it shared -/
theorem sub_lhh {P : Program} {T t : TypeId} (hT : P.underlying T = some (.slice t)) (hs : P.cellsOf t = 1) (g l c lo m : Nat) (h : lo + m ≤ c) (hm : 0 < m) (x y z : Int) (hx : x = (lo : Int)) (hy : y = ((lo + m : Nat) : Int)) (hz : z = y) (w : World) :
    (Instr.slice T (.slice (some ⟨g, 0, none⟩) l c) (some (.int .i64 x)) (some (.int .i64 y)) (some (.int .i64 z))).run P w = .ok (.slice (some ⟨g, lo, none⟩) m m) w := by
  subst hz
  have hT' : P.underlying T = some (.slice (P.elem T)) := by simp [Program.elem, hT]
  have he : P.elem T = t := by simp [Program.elem, hT]
  rw [run_slice_lhm (P := P) w T _ l c hT' .i64 .i64 .i64 x z z (by omega) (by omega) (by omega) (by omega), he]
  have h1 : x.toNat = lo := by omega
  have h2 : z.toNat = lo + m := by omega
  have h3 : (sizeOf t).run P w = .ok 1 w := by
    unfold Program.cellsOf at hs
    cases hq : P.info? t with
    | none => simp [hq] at hs
    | some i =>
      simp [hq] at hs
      simp [sizeOf, typeInfo, hq, hs]
  rw [h3, h1, h2]
  simp [Result.andThen, sliced, Addr.add, show m ≠ 0 by omega]
  exact fun h => h.symm
theorem sizeB1 : Try.prog.cellsOf 5 = 1 := by kernel_rfl
theorem padZ_lt {n : Nat} {B : Nat → E} {x : Nat} (h : x < n) : padZ n B x = B x := if_pos h
theorem padZ_ge {n : Nat} {B : Nat → E} {x : Nat} (h : ¬ x < n) : padZ n B x = ze := if_neg h
/-- the first k of the columns cut -/
structure CutI (w wr : World) (g G d p c n : Nat) (B : Nat → E) (m k : Nat) : Prop where
  ext : Ext w wr
  row : wr.rowIs g 5 (128 * c) (bvs (padZ n B))
  top : wr.rowIs G 22 m (fun r => if r < k then .slice (some ⟨g, offD d p c r, none⟩) (wdB d p c (p + r)) (wdB d p c (p + r)) else .slice none 0 0)
theorem CutI.grow {w wr w' : World} {g G d p c n : Nat} {B : Nat → E} {m k : Nat} (h : CutI w wr g G d p c n B m k) (x : Ext wr w') : CutI w w' g G d p c n B m k := ⟨h.ext.trans x, x.rowIs h.row, x.rowIs h.top⟩
theorem CutI.next {w wr : World} {g G d p c n : Nat} {B : Nat → E} {m k : Nat} (h : CutI w wr g G d p c n B m k) (hG : w.heap.size ≤ G) (hgG : g ≠ G) : CutI w (wr.setCell ⟨G, k, none⟩ (.slice (some ⟨g, offD d p c k, none⟩) (wdB d p c (p + k)) (wdB d p c (p + k)))) g G d p c n B m (k + 1) := by
  refine ⟨h.ext.setCell hG _, h.row.setOther (a := ⟨G, k, none⟩) hgG _, (h.top.set k _).congr fun i _ => ?_⟩
  by_cases e : i = k
  · subst e; rw [if_pos rfl, if_pos (by omega)]
  · rw [if_neg e]
    by_cases l : i < k
    · rw [if_pos l, if_pos (by omega)]
    · rw [if_neg l, if_neg (by omega)]
theorem CutI.cols {w wr : World} {g G d p c n : Nat} {B : Nat → E} {m : Nat} (h : CutI w wr g G d p c n B m m) (ho : StOk d p c) (hm : p + m = colN d p c) : Cols wr (some ⟨G, 0, none⟩) m (fun r => some ⟨g, offD d p c r, none⟩) (fun r => wdB d p c (p + r)) (fun r => wdB d p c (p + r)) (datF d p c n B) := fun r hr => by
  refine ⟨⟨G, 0, rfl, by rw [Nat.zero_add, h.top.cell hr, if_pos hr]⟩, Byts.mk fun i hi => ?_⟩
  have := ho.offs (i := r) (by omega)
  have hi' : i < wdB d p c (p + r) := hi
  exact h.row.cell (by omega)
set_option maxRecDepth 100000 in
set_option maxHeartbeats 1600000 in
theorem cut_any (a : Option Addr) (n cn : Nat) (B : Nat → E) (ac : Option Addr) (m cm d p ad : Nat) (w : World) (hsz : szOk n = true) (ho : StOk d p (secs n)) (hm : p + m = colN d p (secs n)) (h : Byts w a n B) (hc : CnS w ac d p ad (secs n) p m) :
    Calls Try.prog 22 #[.slice a n cn, .slice ac m cm] w fun e w' => (∃ g G, e = .returned (.slice (some ⟨G, 0, none⟩) m m) ∧ CutI w w' g G d p (secs n) n B m m ∧ w.heap.size ≤ G) := by
  have HB : Hid (Byts w a n B) := h
  have HC : Hid (CnS w ac d p ad (secs n) p m) := hc
  have HO : Hid (StOk d p (secs n)) := ho
  have HM : Hid (p + m = colN d p (secs n)) := hm
  have hsb := secs_bd hsz
  have hn := (szOk_iff n).1 hsz
  have hm8 := ho.N.2
  rw [← hm] at hm8
  obtain ⟨c, hcn⟩ : ∃ c, secs n = c := ⟨_, rfl⟩
  have HCN : Hid (secs n = c) := hcn
  rw [hcn] at HC HO HM hsb ⊢
  clear h hc ho hm hsz hcn
  obtain ⟨M, hM⟩ : ∃ M : Nat, 128 * c = M := ⟨_, rfl⟩
  have HMM : Hid (128 * c = M) := hM
  rw [hM] at hsb
  have hmul : 128 * (c : Int) = (M : Int) := by omega
  have hmul2 : (c : Int) * 128 = (M : Int) := by omega
  have hmb : M ≤ 4096 := by omega
  clear hM
  have hmk := make_bytes M (by omega)
  have hmk2 := make_cols m (by omega)
  go_enter Try.func22, Try.ntmps22
  go_wp2_with fail
  refine (sectors_any n _ (by omega)).mono ?_
  rintro e w1 ⟨rfl, rfl⟩
  rw [HCN.out]
  have hlen : n ≤ M := hsb.2.2.1
  have HR0 : Hid ((w1.alloc (.cells (madeCells #[.int .u8 0] M) 5)).rowIs w1.heap.size 5 M (bvs fun _ => ze)) := World.rowIs_made w1 (.int .u8 0) M 5
  have HB1 : Hid (Byts (w1.alloc (.cells (madeCells #[.int .u8 0] M) 5)) a n B) := HB.out.ext ((Ext.refl w1).alloc _ _)
  have HX0 : Hid (Ext w1 (w1.alloc (.cells (madeCells #[.int .u8 0] M) 5))) := (Ext.refl w1).alloc _ _
  go_wp2_with (refine copy_byts rfl (.tmp 16) (.tmp 17) 22 rfl 5 Try.underlying22 (sizeByte infoByte) w1.heap.size M M a n cn rfl rfl _ HR0.out B HB1.out hlen ?_)
  intro w2 hr2 hw2
  have HX2 : Hid (Ext w1 w2) := Wro.after HX0.out hw2 fun i hi => by omega
  have HR2 : Hid (w2.rowIs w1.heap.size 5 M (bvs (padZ n B))) := hr2.congr fun i hi => by
    unfold bvs padZ
    by_cases e : i < n
    · rw [if_pos e, if_pos e]
    · rw [if_neg e, if_neg e]
  have hgl := HR2.out.lt
  clear hr2 hw2 HR0 HB1 HX0
  obtain ⟨g, hg⟩ : ∃ g, w1.heap.size = g := ⟨_, rfl⟩
  rw [hg] at HR2 hgl
  go_wp2_with fail
  have hI0 : CutI w1 (w2.alloc (.cells (madeCells #[.slice none 0 0] m) 22)) g w2.heap.size d p c n B m 0 := by
    refine ⟨HX2.out.alloc _ _, ?_, ?_⟩
    · rw [HMM.out]; exact HR2.out.alloc _
    · exact (World.rowIs_made w2 (.slice none 0 0) m 22).congr fun i _ => by rw [if_neg (by omega)]
  have hG2 : w1.heap.size ≤ w2.heap.size := HX2.out.size
  have hgne : g ≠ w2.heap.size := by omega
  generalize w2.alloc (.cells (madeCells #[.slice none 0 0] m) 22) = w3 at *
  obtain ⟨G, hG⟩ : ∃ G, w2.heap.size = G := ⟨_, rfl⟩
  rw [hG] at hI0 hG2 hgne ⊢
  rw [hg]
  clear hmk hmk2 hG
  go_loopw [7, 24] (fun v i wr => ∃ k : Nat, k ≤ m ∧ i = .int .i64 k ∧ v = .int .i64 (offD d p c k : Nat) ∧ CutI w1 wr g G d p c n B m k) (fun _ i _ => m - (intOf i).toNat)
  case atStart => exact ⟨0, Nat.zero_le _, rfl, by rw [offD_0]; rfl, hI0⟩
  case round =>
    clear hI0
    obtain ⟨k, hk, rfl, rfl, hI⟩ := hrel
    have HI : Hid (CutI w1 wr g G d p c n B m k) := hI
    clear hI
    by_cases hlt : k < m
    · obtain ⟨bc, oc, x, y, z, rfl, h0, h1, h2, h3⟩ := (HC.out.ext HI.out.ext).at hlt
      obtain ⟨q, hq⟩ : ∃ q, cntC d p c (p + k) = q := ⟨_, rfl⟩
      obtain ⟨o, hoq⟩ : ∃ o, offD d p c k = o := ⟨_, rfl⟩
      have hqb := (HO.out.cnt (i := p + k) (by rw [← HM.out]; omega))
      have hof := HO.out.offs (i := k) (by rw [← HM.out]; omega)
      have HW : Hid (wdB d p c (p + k) = 128 * q) := by show _ = _; unfold wdB; rw [hq]
      have HOS : Hid (offD d p c (k + 1) = o + 128 * q) := by show _ = _; rw [offD_s, hoq, HW.out]
      rw [HW.out, HMM.out] at hof
      rw [hq] at hqb h2
      have HQ : Hid (cntC d p c (p + k) = q) := hq
      have HOQ : Hid (offD d p c k = o) := hoq
      rw [hoq] at hof ⊢
      clear hq hoq
      have hbnd : o + 128 * q ≤ M ∧ 1 ≤ q ∧ q ≤ 32 := ⟨hof, hqb.1, by omega⟩
      clear hqb hof
      go_wp2_with fail
      generalize hw4 : wr.alloc (.cells #[.int .i64 x, .int .i64 y, .int .i64 q, .bool z] 59) = w4 at *
      have HI4 : Hid (CutI w1 w4 g G d p c n B m k) := by rw [← hw4]; exact HI.out.grow ((Ext.refl wr).alloc _ _)
      clear hw4 HI h0 h1 h2 h3
      refine (width_any x y _ q z rfl _ (by omega)).mono ?_
      rintro e w5 ⟨rfl, hx5⟩
      have HI5 : Hid (CutI w1 w5 g G d p c n B m k) := HI4.out.grow hx5
      clear HI4 hx5
      have hsl : ∀ w, (Instr.slice 22 (.slice (some ⟨g, 0, none⟩) M M) (some (.int .i64 (o : Int))) (some (.int .i64 ((o : Int) + 128 * (q : Int)))) (some (.int .i64 ((o : Int) + 128 * (q : Int))))).run Try.prog w = .ok (.slice (some ⟨g, o, none⟩) (128 * q) (128 * q)) w := fun w => sub_lhh Try.underlying22 sizeB1 g M M o (128 * q) (by omega) (by omega) _ _ _ rfl (by omega) rfl w
      have hct := HI5.out.top.cell hlt
      rw [if_neg (by omega)] at hct
      have hft := HI5.out.top.frozen k
      have HN : Hid (CutI w1 (w5.setCell ⟨G, k, none⟩ (.slice (some ⟨g, o, none⟩) (128 * q) (128 * q))) g G d p c n B m (k + 1)) := by
        have := HI5.out.next hG2 hgne
        rw [HW.out, HOQ.out] at this
        exact this
      go_wp2_with fail
      go_roundw
      case rel => exact ⟨k + 1, by omega, by go_num, by rw [HOS.out]; go_num, HN.out⟩
      case measure => simp [intOf]; omega
    · obtain rfl : m = k := by omega
      go_wp2_with fail
      go_ret
      exact ⟨g, G, rfl, HI.out, hG2⟩
end Go.Proofs.Ythgbfakmkdifbaa
