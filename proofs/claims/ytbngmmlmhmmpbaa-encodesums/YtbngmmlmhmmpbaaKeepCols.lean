/-
  quicksetkeep.ColumnsOf: so many columns of bytes, all as long; in new memory.
-/
import Derived.Test.YtbngmmlmhmmpbaaChecked
import Derived.WalkKit
import Derived.Deep.Cut
import Derived.Test.YtbngmmlmhmmpbaaByb
import Derived.Test.YtbngmmlmhmmpbaaMk
import Derived.Test.YtbngmmlmhmmpbaaKeepPick
namespace Go.Proofs.Ytbngmmlmhmmpbaa
open Go.RowKit Go.Deep E
/-- columns made by append, the list too: n of them, of m bytes each -/
structure COf (w wr : World) (v : Value) (n m : Nat) (V : Nat → Value) (D : Nat → Nat → E) : Prop where
  ext : Ext w wr
  top : wr.ownsRow w.heap.size 32 1 v n ((List.range n).map V)
  row : ∀ s, s < n → wr.ownsRow w.heap.size 5 1 (V s) m ((List.range m).map (bvs (D s)))
  inj : ∀ s t g, s < n → t < n → (V s).ownBlock = some g → (V t).ownBlock = some g → s = t
theorem COf.start (w : World) (m : Nat) (D : Nat → Nat → E) : COf w w (.slice none 0 0) 0 m (fun _ => .int .i64 0) D := ⟨Ext.refl _, World.ownsRow_nil _ _ _ _, fun s hs => by omega, fun s t g hs => by omega⟩
theorem COf.ext' {w wr w' : World} {v : Value} {n m : Nat} {V : Nat → Value} {D : Nat → Nat → E} (h : COf w wr v n m V D) (e : Ext wr w') : COf w w' v n m V D := ⟨h.ext.trans e, own_ext h.top e, fun s hs => own_ext (h.row s hs) e, h.inj⟩
theorem COf.next {w w1 wi w5 : World} {v v' u : Value} {n m : Nat} {V : Nat → Value} {D : Nat → Nat → E} {o : Obj} (h0 : COf w w1 v n m V D) (x : Ext w1 wi) (hr0 : wi.ownsRow w1.heap.size 5 1 u m ((List.range m).map (bvs (D n))))
    (ht : w5.ownsRow w.heap.size 32 1 v' (n + 1) ((List.range n).map V ++ [u])) (g : (wi.alloc o).grownBy w5 v.ownBlock) : COf w w5 v' (n + 1) m (fun s => if s < n then V s else u) D := by
  have hal : Ext wi (wi.alloc o) := ⟨Below.refl _ _ |>.alloc (Nat.le_refl _) o⟩
  have hr := own_mono hr0 h0.ext.size
  have h := h0.ext' x
  have h1 := h.ext' hal
  have hr1 := own_ext hr hal
  refine ⟨h1.ext.grow g fun k hk => (own_ge h1.top hk).1, ?_, fun s hs => ?_, fun s t b hs ht' hb hb' => ?_⟩
  · have e : (List.range n).map V ++ [u] = (List.range (n + 1)).map fun s => if s < n then V s else u := by
      rw [List.range_succ, List.map_append]
      congr 1
      · exact List.map_congr_left fun x hx => by rw [if_pos (List.mem_range.1 hx)]
      · simp
    rw [e] at ht
    exact ht
  · have keep : ∀ {y : Value} {xs : List Value}, (wi.alloc o).ownsRow w.heap.size 5 1 y m xs → w5.ownsRow w.heap.size 5 1 y m xs := fun {y xs} hy => by
      refine hy.kept g ?_
      exact own_apart hy h1.top (by decide)
    by_cases e : s < n
    · rw [if_pos e]; exact keep (h1.row s e)
    · rw [if_neg e, show s = n by omega]; exact keep hr1
  · by_cases e : s < n
    · rw [if_pos e] at hb
      by_cases e' : t < n
      · rw [if_pos e'] at hb'; exact h.inj s t b e e' hb hb'
      · rw [if_neg e'] at hb'
        have q1 := (own_ge hr0 hb').1
        have q2 := (own_ge (h0.row s e) hb).2
        omega
    · rw [if_neg e] at hb
      by_cases e' : t < n
      · rw [if_pos e'] at hb'
        have q1 := (own_ge hr0 hb).1
        have q2 := (own_ge (h0.row t e') hb').2
        omega
      · omega
theorem COf.cols {w wr : World} {v : Value} {n m : Nat} {V : Nat → Value} {D : Nat → Nat → E} (h : COf w wr v n m V D) : ∃ a c A C, v = .slice a n c ∧ Cols wr a n A (fun _ => m) C D := by
  have each : ∀ r, r < n → ∃ y : Option Addr × Nat, V r = .slice y.1 m y.2 ∧ Byts wr y.1 m (D r) := fun r hr => by
    obtain ⟨a, c, h1, h2⟩ := own_byts (h.row r hr)
    exact ⟨(a, c), h1, h2⟩
  obtain ⟨y, hy⟩ := choose_lt each
  obtain ⟨a, c, hv, hc⟩ := own_slice h.top
  refine ⟨a, c, fun r => (y r).1, fun r => (y r).2, hv, fun r hr => ⟨?_, (hy r hr).2⟩⟩
  obtain ⟨b, o, ha, hb⟩ := hc r hr
  exact ⟨b, o, ha, by rw [hb]; simp [hr, (hy r hr).1]⟩
theorem COf.congr {w wr : World} {v : Value} {n m : Nat} {V : Nat → Value} {D D' : Nat → Nat → E} (h : COf w wr v n m V D) (e : ∀ s, s < n → ∀ i, i < m → D s i = D' s i) : COf w wr v n m V D' :=
  ⟨h.ext, h.top, fun s hs => by
    have := h.row s hs
    rwa [List.map_congr_left (g := bvs (D' s)) fun i hi => by unfold bvs; rw [e s hs i (List.mem_range.1 hi)]] at this, h.inj⟩
theorem COf.back {w0 w wr : World} {v : Value} {n m : Nat} {V : Nat → Value} {D : Nat → Nat → E} (h : COf w wr v n m V D) (x : Ext w0 w) : COf w0 wr v n m V D := ⟨x.trans h.ext, own_mono h.top x.size, fun s hs => own_mono (h.row s hs) x.size, h.inj⟩
/-- one byte of one column written -/
theorem COf.set {w wr : World} {v : Value} {n m : Nat} {V : Nat → Value} {D : Nat → Nat → E} (h : COf w wr v n m V D) {i k : Nat} (hi : i < n) (hk : k < m) (x : E) : ∃ g c, V i = .slice (some ⟨g, 0, none⟩) m c ∧ wr.cell? ⟨g, k, none⟩ = some (.int .u8 (ev (D i k))) ∧ wr.frozen? ⟨g, k, none⟩ = false ∧
    COf w (wr.setCell ⟨g, k, none⟩ (.int .u8 (ev x))) v n m V fun i' k' => if i' = i ∧ k' = k then x else D i' k' := by
  have hr := h.row i hi
  obtain ⟨g, c, hv⟩ : ∃ g c, V i = .slice (some ⟨g, 0, none⟩) m c := by
    obtain ⟨_, h2⟩ := hr
    rcases h2 with ⟨_, h3⟩ | ⟨g, cap, cur, h3, _⟩
    · omega
    · exact ⟨g, cap, h3⟩
  rw [hv] at hr
  have hob : (V i).ownBlock = some g := by rw [hv]; rfl
  have hst := hr.stored k (.int .u8 (ev x))
  have hcl := hr.cellAt k (by omega)
  have hw : Wro (· = g) wr (wr.setCell ⟨g, k, none⟩ (.int .u8 (ev x))) := (Wro.refl (· = g) wr).setCell (p := ⟨g, k, none⟩) rfl _
  refine ⟨g, c, hv, by rw [hcl]; simp [hk, bvs], hr.frozenAt k, ⟨h.ext.setCell (own_ge (h.row i hi) hob).1 _, ?_, fun s hs => ?_, h.inj⟩⟩
  · refine own_wro h.top hw fun b hb e => ?_
    have := own_apart (h.row i hi) h.top (by decide)
    rw [hob, hb, e] at this
    rcases this with q | q
    · cases q
    · exact q rfl
  · by_cases e : s = i
    · subst e
      rw [hv]
      have e2 : ((List.range m).map (bvs (D s))).set k (.int .u8 (ev x)) = (List.range m).map (bvs fun k' => if s = s ∧ k' = k then x else D s k') := by
        apply List.ext_getElem?
        intro j
        rw [List.getElem?_set]
        by_cases hj : j < m
        · by_cases e3 : k = j
          · subst e3; simp [hk, bvs]
          · simp [e3, hj, bvs, Ne.symm e3]
        · simp [show ¬ k = j by omega, hj]
      rw [← e2]
      exact hst.1
    · have e2 : (List.range m).map (bvs fun k' => if s = i ∧ k' = k then x else D s k') = (List.range m).map (bvs (D s)) := List.map_congr_left fun j _ => by unfold bvs; simp [e]
      rw [e2]
      exact own_wro (h.row s hs) hw fun b hb q => e (h.inj s i g hs hi (by rw [hb, q]) hob)
theorem sizeB : Try.prog.cellsOf 5 = 1 := by kernel_rfl
theorem sizeBs : Try.prog.cellsOf 32 = 1 := by kernel_rfl
/-- how long each column is -/
def colLen (l n : Nat) : Nat := if 64 < l / n then 64 else l / n
theorem colLen_le (l n : Nat) : colLen l n ≤ 64 ∧ colLen l n ≤ l / n := by unfold colLen; split <;> omega
set_option maxRecDepth 100000 in
set_option maxHeartbeats 800000 in
theorem ColumnsOf_any (a : Option Addr) (l c : Nat) (f : Nat → E) (n : Nat) (w : World) (hn : 1 ≤ n ∧ n ≤ 64) (hl : l ≤ c) (hc : c ≤ 140737488355328) (h : Byts w a l f) :
    Calls Try.prog 17 #[.slice a l c, .int .i64 n] w fun e w' => ∃ v V, e = .returned v ∧ COf w w' v n (colLen l n) V fun i k => f (i * colLen l n + k) := by
  have HH : Hid (Byts w a l f) := h
  clear h
  have hdl : l / n ≤ l := Nat.div_le_self _ _
  have hq : wrap64 ((l : Int) / (n : Int)) = ((l / n : Nat) : Int) := by
    rw [show (l : Int) / (n : Int) = ((l / n : Nat) : Int) from rfl]
    generalize l / n = q at hdl
    unfold wrap64
    omega
  have HM : Hid (∀ i, i < n → (i + 1) * colLen l n ≤ l) := fun i hi => by
    have h1 := (colLen_le l n).2
    have h2 : (i + 1) * colLen l n ≤ n * (l / n) := Nat.mul_le_mul hi h1
    have h3 := Nat.mul_div_le l n
    omega
  have hml := (colLen_le l n).1
  go_enter Try.func17, Try.ntmps17
  go_upto_if 13 with fail
  go_cut [5] from 8 (fun s wc => ∃ m : Nat, s = .int .i64 m ∧ Hid (m = colLen l n) ∧ Ext w wc)
  case first =>
    by_cases h64 : (64 : Int) < ((l / n : Nat) : Int)
    · go_wp2_with fail
      go_meet
      case rel => exact ⟨64, rfl, (by show 64 = colLen l n; unfold colLen; rw [if_pos (by omega)]), Ext.refl _⟩
    · go_wp2_with fail
      go_meet
      case rel => exact ⟨l / n, rfl, (by show l / n = colLen l n; unfold colLen; rw [if_neg (by omega)]), Ext.refl _⟩
  case rest =>
    clear hq
    obtain ⟨m, rfl, HMC, hxc⟩ := hcut
    rw [← HMC.out] at hml HM
    go_wp2_with fail
    go_loopw [6, 7] (fun v i wr => ∃ k : Nat, k ≤ n ∧ i = .int .i64 k ∧ ∃ V, COf wc wr v k m V fun i p => f (i * m + p)) (fun _ i _ => n - (intOf i).toNat)
    case atStart => exact ⟨0, Nat.zero_le _, rfl, _, COf.start _ _ _⟩
    case round =>
      obtain ⟨k, hk, rfl, V, hco⟩ := hrel
      have HCO : Hid (COf wc wr u6 k m V fun i p => f (i * m + p)) := hco
      clear hco
      by_cases hlt : k < n
      · have e1 : (k : Int) * (m : Int) = ((k * m : Nat) : Int) := (Int.natCast_mul k m).symm
        have e2 : ((k : Int) + 1) * (m : Int) = ((k * m + m : Nat) : Int) := by rw [Int.add_mul, e1]; omega
        have hkm : k * m + m ≤ l := by have := HM.out k hlt; rw [Nat.add_mul, Nat.one_mul] at this; exact this
        have hsl := sub_lh (P := Try.prog) Try.underlying32 sizeB a l c (k * m) m (by omega) ((k : Int) * (m : Int)) (((k : Int) + 1) * (m : Int)) e1 e2
        have hb1 : 0 ≤ (k : Int) * (m : Int) := by rw [e1]; omega
        have hb2 : (k : Int) * (m : Int) ≤ 140737488355328 := by rw [e1]; omega
        have hb3 : 0 ≤ ((k : Int) + 1) * (m : Int) := by rw [e2]; omega
        have hb4 : ((k : Int) + 1) * (m : Int) ≤ 140737488355328 := by rw [e2]; omega
        have HS : Hid (Byts wr (subA a c (k * m)) m fun i => f (k * m + i)) := (HH.out.ext (hxc.trans HCO.out.ext)).sub (k * m) m hkm fun h0 b o ha => by rw [ha, subA_some (by omega)]
        clear e1 e2
        have hsz := HCO.out.ext.size
        go_wp2_with (first | (at_builtin; refine append_vals wr rfl (.const (.slice none 0 0)) (.tmp 28) 32 rfl wr.heap.size 5 (.int .u8 0) 1 Try.underlying32 infoByte rfl (.slice none 0 0) 0 [] rfl (World.ownsRow_nil _ _ _ _) (subA a c (k * m)) m (c - k * m) (bvs fun i => f (k * m + i)) rfl HS.out (fun _ _ => rfl) (by omega) (by omega) (Nat.le_refl _) ?_) | go_in)
        intro v' w5 hown' hgrow
        obtain ⟨a9, c9, rfl, h9⟩ := own_slice hown'
        have hx5 : Ext wr w5 := (Ext.refl wr).grow hgrow fun _ hk => by cases hk
        have HR : Hid (w5.ownsRow wr.heap.size 5 1 (.slice a9 m c9) m ((List.range m).map (bvs fun i => f (k * m + i)))) := hown'
        have HX5 : Hid (Ext wr w5) := hx5
        have HC5 : Hid (COf wc w5 u6 k m V fun i p => f (i * m + p)) := HCO.out.ext' hx5
        have HT : Hid (w5.ownsRow wc.heap.size 32 1 u6 k ((List.range k).map V)) := HC5.out.top
        have hsz5 := HC5.out.ext.size
        clear h9 hown' hgrow
        go_wp2_with (first | (at_builtin; refine append_one w5 rfl _ _ 22 rfl wc.heap.size 32 (.slice none 0 0) 24 Try.underlying22 infoBytes rfl u6 k _ rfl HT.out (.slice a9 m c9) 1 rfl rfl (by omega) (by omega) hsz5 ?_) | go_in)
        intro v' w8 hown' hgrow
        have HN : Hid (COf wc w8 v' (k + 1) m (fun s => if s < k then V s else .slice a9 m c9) fun i p => f (i * m + p)) := HCO.out.next HX5.out HR.out hown' hgrow
        clear hown' hgrow
        go_wp2_with fail
        go_roundw
        case rel => exact ⟨k + 1, by omega, by go_num, _, HN.out⟩
        case measure => simp [intOf]; omega
      · obtain rfl : n = k := by omega
        go_wp2_with fail
        go_ret
        rw [← HMC.out]
        exact ⟨_, V, rfl, HCO.out.back hxc⟩
end Go.Proofs.Ytbngmmlmhmmpbaa
