/-
  drive: do: one job.
-/
import Derived.Test.YtgboboojjboocaaChecked
import Derived.WalkKit
import Derived.BigQuiet
import Derived.Laws.Tables
import Derived.Laws.Rows
import Derived.Test.YtgboboojjboocaaDrSet
import Derived.Test.YtgboboojjboocaaDrRef
import Derived.Test.YtgboboojjboocaaDrGet
import Derived.Test.YtgboboojjboocaaRegFix
import Derived.Test.YtgboboojjboocaaDrPut
import Derived.Test.YtgboboojjboocaaGfs
namespace Go.Proofs.Ytgboboojjboocaa
open Go.RowKit Go.Deep E
/-- is bit k, come round at 62, of Keep set? -/
def keepB (kp : Int) (k : Nat) : Bool := kp / 2 ^ (k % 62) % 2 == 1
set_option maxRecDepth 100000 in
theorem do1_any (k : Int) (w : World) : Calls Try.prog 23 #[.int .i64 k] w fun e w' => e = .returned (.bool true) ∧ w' = w := by
  go_enter Try.func23, Try.ntmps23
  go_wp2_with fail
  go_ret
  exact ⟨rfl, rfl⟩
set_option maxRecDepth 100000 in
theorem do2_any (k : Nat) (gj : Nat) (kp : Int) (w : World) (h : w.cell? ⟨gj, 2, none⟩ = some (.int .i64 kp)) (hk : k ≤ 1048576) : Calls Try.prog 24 #[.int .i64 k, .pointer (some ⟨gj, 0, none⟩)] w fun e w' => e = .returned (.bool (keepB kp k)) ∧ w' = w := by
  go_enter Try.func24, Try.ntmps24
  go_wp2_with fail
  go_ret
  exact ⟨by rw [i64_and1]; rfl, rfl⟩
theorem refC_zero {n : Nat} {dead : Bool} {k at' : Int} {l : Nat} (h : refC n dead k at' l = 0) : (1 ≤ k ∧ k ≤ 8) ∧ (dead = true → k = 8) ∧ (namB k = true → 0 ≤ at' ∧ at' < (n : Int)) ∧ (briB k = true → l = 128) := by
  unfold refC at h
  split at h
  · exact absurd h (by decide)
  · rename_i h1
    split at h
    · exact absurd h (by decide)
    · rename_i h2
      split at h
      · exact absurd h (by decide)
      · rename_i h3
        split at h
        · exact absurd h (by decide)
        · rename_i h4
          refine ⟨by omega, fun hd => Classical.byContradiction fun q => h2 ⟨hd, q⟩, fun hn => Classical.byContradiction fun q => h3 ⟨hn, by omega⟩, fun hb => Classical.byContradiction fun q => h4 ⟨hb, q⟩⟩
/-- what a job comes to: the reply, the plate, what waits, is it dead -/
def doR (n : Nat) (PL : List ((Nat → E) × Bool)) (W : List (Nat × (Nat → E))) (dead : Bool) (k at' kp : Int) (l : Nat) (f : Nat → E) : (Int × Option (Nat → E)) × List ((Nat → E) × Bool) × List (Nat × (Nat → E)) × Bool :=
  if refC n dead k at' l ≠ 0 then ((refC n dead k at' l, none), PL, W, dead)
  else if k = 1 then ((0, none), PL, W ++ [(at'.toNat, f)], dead)
  else if k = 2 then (getV PL W at'.toNat, PL, W, dead)
  else if k = 3 then ((0, none), setK (fun _ => true) 0 W PL, [], dead)
  else if k = 4 then ((0, none), setK (keepB kp) 0 W PL, [], dead)
  else if k = 5 then ((0, none), PL.set at'.toNat ((PL.getD at'.toNat (fun _ => ze, false)).1, true), W, dead)
  else if k = 6 then ((0, none), PL.set at'.toNat (f, false), W, dead)
  else if k = 7 then ((0, none), PL, W, true)
  else ((0, none), newP n, [], false)
/-- what a job leaves -/
def DrRes (w : World) (base gd gp n : Nat) (wv : Value) (r : (Int × Option (Nat → E)) × List ((Nat → E) × Bool) × List (Nat × (Nat → E)) × Bool) (e : Ending) (w' : World) : Prop :=
  ∃ v gp' wv', e = .returned v ∧ RepV w' w.heap.size r.1 v ∧ DSt w' base gd gp' n r.2.1 r.2.2.1 wv' r.2.2.2 ∧ Wro (fun i => i = gd ∨ i = gp ∨ wv.ownBlock = some i) w w'
theorem wroSetNew {T : Nat → Prop} {w w' : World} (h : Wro T w w') {p : Addr} (hp : w.heap.size ≤ p.block) (u : Value) : Wro T w (w'.setCell p u) :=
  ⟨h.os, h.tape, h.output, by have := h.size; simpa [World.setCell] using this, fun k hk ht => (Below.heap_setCell _ _ _ _ (by omega)).trans (h.block k hk ht)⟩
section
variable {w w' : World} {base gd gp n : Nat} {PL : List ((Nat → E) × Bool)} {W : List (Nat × (Nat → E))} {wv : Value} {dead : Bool}
theorem DSt.apart (h : DSt w base gd gp n PL W wv dead) {g : Nat} {cs : Array Value} {t : TypeId} {fr : Nat × Nat} (hg : w.heap[g]? = some (.cells cs t fr)) (ht : t ≠ 51 ∧ t ≠ 68 ∧ t ≠ 63) (hw : Wro (· = g) w w') : DSt w' base gd gp n PL W wv dead := by
  refine ⟨wroBlk hw h.box fun q => ?_, h.len, own_wro2 h.plate hw fun b hb => by rw [hb]; exact own_type h.plate hg (Ne.symm ht.2.1), own_wro2 h.row hw fun b hb => by rw [hb]; exact own_type h.row hg (Ne.symm ht.2.2), h.lo⟩
  have hb := h.box
  rw [q, hg] at hb
  injection hb with hb
  injection hb with _ hb _
  exact ht.1 hb
/-- what was told, laid into the result's box -/
theorem do_end {w0 wq : World} {gp' : Nat} {wv' : Value} {PL' : List ((Nat → E) × Bool)} {W' : List (Nat × (Nat → E))} {dead' : Bool} {x y : Value} {S : Nat → Prop} {gr : Nat} (hr : wq.heap[gr]? = some (.cells #[x, y] 46 (0, 0))) (hgr : w0.heap.size ≤ gr) (hd : DSt wq base gd gp' n PL' W' wv' dead') (hw : Wro S w0 wq) (u v : Value) :
    ((wq.setCell ⟨gr, 0, none⟩ u).setCell ⟨gr, 1, none⟩ v).heap[gr]? = some (.cells #[u, v] 46 (0, 0)) ∧ DSt ((wq.setCell ⟨gr, 0, none⟩ u).setCell ⟨gr, 1, none⟩ v) base gd gp' n PL' W' wv' dead' ∧ Wro S w0 ((wq.setCell ⟨gr, 0, none⟩ u).setCell ⟨gr, 1, none⟩ v) ∧ Wro (· = gr) wq ((wq.setCell ⟨gr, 0, none⟩ u).setCell ⟨gr, 1, none⟩ v) := by
  have h1 : Wro (· = gr) wq ((wq.setCell ⟨gr, 0, none⟩ u).setCell ⟨gr, 1, none⟩ v) := ((Wro.refl (· = gr) wq).setCell (p := ⟨gr, 0, none⟩) rfl _).setCell (p := ⟨gr, 1, none⟩) rfl _
  exact ⟨row2_set hr u v, hd.apart hr (by decide) h1, wroSetNew (wroSetNew hw (p := ⟨gr, 0, none⟩) hgr u) (p := ⟨gr, 1, none⟩) hgr v, h1⟩
end
theorem list_mid {X A C B : List Value} {v : Value} (h : A ++ (C ++ [v]) ++ B = X) {n : Nat} (hA : A.length + C.length = n) : X.take n = A ++ C := by
  subst h
  rw [List.append_assoc, List.append_assoc, ← List.append_assoc A C, List.take_append_of_le_length (by rw [List.length_append]; omega), List.take_of_length_le (by rw [List.length_append]; omega)]
theorem DSt.lt {w : World} {base gd gp n : Nat} {PL : List ((Nat → E) × Bool)} {W : List (Nat × (Nat → E))} {wv : Value} {dead : Bool} (h : DSt w base gd gp n PL W wv dead) : gd < w.heap.size ∧ gp < w.heap.size ∧ base ≤ gd :=
  ⟨(Array.getElem?_eq_some_iff.1 h.box).1, (h.plate.lt gp rfl).2, h.lo⟩
theorem DSt.brk {w : World} {base gd gp n : Nat} {PL : List ((Nat → E) × Bool)} {W : List (Nat × (Nat → E))} {wv : Value} {dead : Bool} (h : DSt w base gd gp n PL W wv dead) {k : Nat} {s : (Nat → E) × Bool} (hs : PL[k]? = some s) : DSt (w.setCell ⟨gp, k * 129 + 128, none⟩ (.bool true)) base gd gp n (PL.set k (s.1, true)) W wv dead := by
  obtain ⟨h1, h2, h3⟩ := h.ne
  have hk : k < n := by have := (List.getElem?_eq_some_iff.1 hs).1; rw [h.len] at this; exact this
  have hw : Wro (· = gp) w (w.setCell ⟨gp, k * 129 + 128, none⟩ (.bool true)) := (Wro.refl (· = gp) w).setCell (p := ⟨gp, k * 129 + 128, none⟩) rfl _
  have hS : Szd 129 (PL.map secC) := Szd.map secC_len PL
  have hkL : k < (PL.map secC).length := by rw [List.length_map, h.len]; exact hk
  have hset : (PL.map secC).set k (secC s) = PL.map secC := by
    apply List.ext_getElem?
    intro i
    rw [List.getElem?_set]
    by_cases e : k = i
    · subst e
      rw [if_pos rfl, if_pos hkL, List.getElem?_map, hs]
      rfl
    · rw [if_neg e]
  have hx := flat_set hS hkL (secC s)
  rw [hset] at hx
  have hx2 := flat_set hS hkL (secC (s.1, true))
  have hst := own_stored [.bool true] (k * 129 + 128) w _ h.plate (by simp; omega)
  refine ⟨wroBlk hw h.box h1, by rw [List.length_set]; exact h.len, ?_, own_wro2 h.row hw fun b hb => by rw [hb]; exact h3, h.lo⟩
  rw [List.map_set, ← hx2]
  have hlen := flat_length hS
  rw [List.length_map, h.len] at hlen
  have hA : ((PL.map secC).flatten.take (k * 129)).length = k * 129 := by rw [List.length_take, hlen]; omega
  have e1 : (PL.map secC).flatten.take (k * 129 + 128) = (PL.map secC).flatten.take (k * 129) ++ cts s.1 := list_mid (v := .bool s.2) hx (by rw [hA, cts_len])
  have e2 : k * 129 + 128 + [Value.bool true].length = k * 129 + 129 := rfl
  rw [e2, e1] at hst
  have e3 : ∀ A B : List Value, A ++ secC (s.1, true) ++ B = A ++ cts s.1 ++ [Value.bool true] ++ B := fun A B => by
    unfold secC
    simp only [List.append_assoc]
  rw [e3]
  exact hst
theorem DSt.renew {w : World} {base gd gp gp' n b2 : Nat} {PL : List ((Nat → E) × Bool)} {W : List (Nat × (Nat → E))} {wv : Value} {dead : Bool} (h : DSt w base gd gp n PL W wv dead) (hp : w.ownsRow b2 68 129 (.slice (some ⟨gp', 0, none⟩) n n) n ((newP n).map secC).flatten) (hb : base ≤ b2) :
    DSt (((w.setCell ⟨gd, 0, none⟩ (.slice (some ⟨gp', 0, none⟩) n n)).setCell ⟨gd, 1, none⟩ (.slice none 0 0)).setCell ⟨gd, 2, none⟩ (.bool false)) base gd gp' n (newP n) [] (.slice none 0 0) false ∧ Wro (· = gd) w (((w.setCell ⟨gd, 0, none⟩ (.slice (some ⟨gp', 0, none⟩) n n)).setCell ⟨gd, 1, none⟩ (.slice none 0 0)).setCell ⟨gd, 2, none⟩ (.bool false)) := by
  have hw : Wro (· = gd) w (((w.setCell ⟨gd, 0, none⟩ (.slice (some ⟨gp', 0, none⟩) n n)).setCell ⟨gd, 1, none⟩ (.slice none 0 0)).setCell ⟨gd, 2, none⟩ (.bool false)) := (((Wro.refl (· = gd) w).setCell (p := ⟨gd, 0, none⟩) rfl _).setCell (p := ⟨gd, 1, none⟩) rfl _).setCell (p := ⟨gd, 2, none⟩) rfl _
  refine ⟨⟨?_, by unfold newP; rw [List.length_replicate], own_wro2 (own_mono hp hb) hw fun b hb => by rw [hb]; exact own_type hp h.box (by decide), World.ownsRow_nil _ _ _ _, h.lo⟩, hw⟩
  have h1 := heap_setCell_same w gd 0 _ _ (.slice (some ⟨gp', 0, none⟩) n n) h.box
  have h2 := heap_setCell_same _ gd 1 _ _ (.slice none 0 0) h1
  have h3 := heap_setCell_same _ gd 2 _ _ (.bool false) h2
  rw [h3]
  rfl
theorem byts_range {w : World} {b o : Nat} {f : Nat → E} (h : Byts w (some ⟨b, o, none⟩) 128 f) : w.rangeAt b o (cts f) := fun j v hv => by
  have hj : j < 128 := by have := lt_of_get hv; rw [cts_len] at this; exact this
  obtain ⟨b', o', e, hc⟩ := h j hj
  cases e
  unfold cts at hv
  rw [List.getElem?_map, List.getElem?_range hj] at hv
  cases hv
  exact hc
theorem row4_cells {w : World} {g : Nat} {a b c d : Value} {t : TypeId} (h : w.heap[g]? = some (.cells #[a, b, c, d] t (0, 0))) : w.cell? ⟨g, 0, none⟩ = some a ∧ w.cell? ⟨g, 1, none⟩ = some b ∧ w.cell? ⟨g, 2, none⟩ = some c ∧ w.cell? ⟨g, 3, none⟩ = some d := by
  refine ⟨?_, ?_, ?_, ?_⟩
  · rw [cell_of_row w g 0 _ t (0, 0) h]; rfl
  · rw [cell_of_row w g 1 _ t (0, 0) h]; rfl
  · rw [cell_of_row w g 2 _ t (0, 0) h]; rfl
  · rw [cell_of_row w g 3 _ t (0, 0) h]; rfl
set_option maxRecDepth 100000 in
set_option maxHeartbeats 8000000 in
theorem drDo_any (base gd gp n : Nat) (PL : List ((Nat → E) × Bool)) (W : List (Nat × (Nat → E))) (wv : Value) (dead : Bool) (k at' kp : Int) (ad : Option Addr) (l c : Nat) (f : Nat → E) (w : World) (hn : n ≤ 512) (hW : W.length < 300) (hat : ∀ x, x ∈ W → x.1 < n) (hl : l ≤ 9223372036854775807) (hf : Byts w ad l f) (h : DSt w base gd gp n PL W wv dead) :
    Calls Try.prog 18 #[.pointer (some ⟨gd, 0, none⟩), .agg #[.int .i64 k, .int .i64 at', .int .i64 kp, .slice ad l c]] w fun e w' => DrRes w base gd gp n wv (doR n PL W dead k at' kp l f) e w' := by
  have x2 : Ext w ((w.alloc (.cells #[.int .i64 k, .int .i64 at', .int .i64 kp, .slice ad l c] 34)).alloc (.cells #[.int .i64 0, .slice none 0 0] 46)) := ((Ext.refl w).alloc _ _).alloc _ _
  have HRf := refuses_any base gd gp n PL W wv dead k at' kp ad l c _ hn hl (h.ext x2)
  have hj2 : ((w.alloc (.cells #[.int .i64 k, .int .i64 at', .int .i64 kp, .slice ad l c] 34)).alloc (.cells #[.int .i64 0, .slice none 0 0] 46)).heap[w.heap.size]? = some (.cells #[.int .i64 k, .int .i64 at', .int .i64 kp, .slice ad l c] 34 (0, 0)) := extBlk ((Ext.refl _).alloc _ _) (heap_alloc_new w _)
  have hr2 : ((w.alloc (.cells #[.int .i64 k, .int .i64 at', .int .i64 kp, .slice ad l c] 34)).alloc (.cells #[.int .i64 0, .slice none 0 0] 46)).heap[w.heap.size + 1]? = some (.cells #[.int .i64 0, .slice none 0 0] 46 (0, 0)) := by
    have e := heap_alloc_new (w.alloc (.cells #[.int .i64 k, .int .i64 at', .int .i64 kp, .slice ad l c] 34)) (.cells #[.int .i64 0, .slice none 0 0] 46)
    rw [World.size_alloc] at e
    exact e
  have HX2 : Hid (Ext w ((w.alloc (.cells #[.int .i64 k, .int .i64 at', .int .i64 kp, .slice ad l c] 34)).alloc (.cells #[.int .i64 0, .slice none 0 0] 46))) := x2
  have HJ2 : Hid (((w.alloc (.cells #[.int .i64 k, .int .i64 at', .int .i64 kp, .slice ad l c] 34)).alloc (.cells #[.int .i64 0, .slice none 0 0] 46)).heap[w.heap.size]? = some (.cells #[.int .i64 k, .int .i64 at', .int .i64 kp, .slice ad l c] 34 (0, 0))) := hj2
  have HR2 : Hid (((w.alloc (.cells #[.int .i64 k, .int .i64 at', .int .i64 kp, .slice ad l c] 34)).alloc (.cells #[.int .i64 0, .slice none 0 0] 46)).heap[w.heap.size + 1]? = some (.cells #[.int .i64 0, .slice none 0 0] 46 (0, 0))) := hr2
  have HD : Hid (DSt w base gd gp n PL W wv dead) := h
  have HF : Hid (Byts w ad l f) := hf
  have HA : Hid (∀ x, x ∈ W → x.1 < n) := hat
  clear x2 hj2 hr2 h hf hat
  go_enter Try.func18, Try.ntmps18
  go_wp2_with fail
  refine HRf.mono ?_
  rintro e w3 ⟨rfl, hx3⟩
  have HX3 : Hid (Ext w w3) := HX2.out.trans hx3
  have HJ3 : Hid (w3.heap[w.heap.size]? = some (.cells #[.int .i64 k, .int .i64 at', .int .i64 kp, .slice ad l c] 34 (0, 0))) := extBlk hx3 HJ2.out
  have HR3 : Hid (w3.heap[w.heap.size + 1]? = some (.cells #[.int .i64 0, .slice none 0 0] 46 (0, 0))) := extBlk hx3 HR2.out
  have HD3 : Hid (DSt w3 base gd gp n PL W wv dead) := HD.out.ext HX3.out
  clear HRf hx3 HX2 HJ2 HR2
  obtain ⟨rc, hrc⟩ : ∃ rc, refC n dead k at' l = rc := ⟨_, rfl⟩
  rw [hrc]
  by_cases hz : rc = 0
  case neg =>
    have hzb : (rc != 0) = true := by rw [bne_iff_ne]; exact hz
    have HE : Hid (doR n PL W dead k at' kp l f = ((rc, none), PL, W, dead)) := by show _ = _; unfold doR; rw [hrc, if_pos hz]
    obtain ⟨r0, r1, r2⟩ := row2_cells HR3.out
    have z0 := r2 0
    have z1 := r2 1
    clear hz hrc r2
    go_wp2_with fail
    obtain ⟨e1, e2, e3, _⟩ := do_end (w0 := w) HR3.out (by omega) HD3.out (Wro.ext (S := fun i => i = gd ∨ i = gp ∨ wv.ownBlock = some i) HX3.out) (.int .i64 rc) (.slice none 0 0)
    refine bodyPost_ret (results_cell_row rfl _ _ (w.heap.size + 1) 46 #[.int .i64 rc, .slice none 0 0] (0, 0) _ rfl e1 Try.underlying46 rfl repInfo) rfl ?_
    show DrRes ..
    rw [HE.out]
    exact ⟨_, gp, wv, rfl, ⟨_, rfl, rfl⟩, e2, e3⟩
  case pos =>
    subst hz
    obtain ⟨hk8, hdd, hnm, hbr⟩ := refC_zero hrc
    have HE0 : Hid (refC n dead k at' l = 0) := hrc
    obtain ⟨hgd, hgp, hbase⟩ := HD.out.lt
    obtain ⟨j0, j1, j2, j3⟩ := row4_cells HJ3.out
    clear hrc
    rcases (show k = 1 ∨ k = 2 ∨ k = 3 ∨ k = 4 ∨ k = 5 ∨ k = 6 ∨ k = 7 ∨ k = 8 by omega) with rfl | rfl | rfl | rfl | rfl | rfl | rfl | rfl
    · obtain ⟨K, rfl⟩ : ∃ K : Nat, at' = K := ⟨at'.toNat, by have := hnm rfl; omega⟩
      have hK : K < n := by have := hnm rfl; omega
      obtain rfl : l = 128 := hbr rfl
      have HE : Hid (doR n PL W dead 1 (K : Int) kp 128 f = ((0, none), PL, W ++ [(K, f)], dead)) := by show _ = _; unfold doR; rw [if_neg (fun q => q HE0.out)]; rfl
      obtain ⟨bA, oA, rfl, _⟩ := HF.out 0 (by omega)
      have hrng : w.rangeAt bA oA (cts f) := byts_range HF.out
      obtain ⟨b0, b1, _, bz⟩ := cells_drive HD3.out.box
      obtain ⟨i0, hi, hz0, hz1, hz2⟩ := info_parts infoWtZ
      have xA : Ext w3 (w3.drew.alloc (boxW (K, f))) := ((Ext.refl w3).drew).alloc _ _
      have hnews : ∀ j u, (wtC (K, f))[j]? = some u → (w3.drew.alloc (boxW (K, f))).cell? ((⟨w3.heap.size, 0, none⟩ : Addr).add j) = some u := fun j u hj => by
        rw [Go.WideShapes.add_plain, Nat.zero_add]
        have h := new_cell w3.drew (wtC (K, f)).toArray 63 j
        rw [List.getElem?_toArray] at h
        exact h.trans hj
      obtain ⟨v', w', hrun, hown, hgrow, _⟩ := run_append_own (P := Try.prog) (w3.drew.alloc (boxW (K, f))) base 49 49 63 i0 _ 129 136 Try.underlying49 hi hz0 hz1 hz2 (by rw [show (Value.agg (Value.int .i64 0 :: Z128).toArray).cells = (Value.int .i64 0 :: Z128).toArray from rfl, List.size_toArray, List.length_cons, Z128_len]) (by omega) wv W.length _ (own_ext HD3.out.row xA) ⟨w3.heap.size, 0, none⟩ 1 1 (wtC (K, f)) (by rw [wtC_len]) hnews (wtC_one _) (by unfold maxLen; omega) (by omega) (by have := xA.size; have := HX3.out.size; omega)
      have hnb : wv.ownBlock ≠ some gd := HD3.out.ne.2.1
      have HN : Hid (w'.ownsRow base 63 129 v' (W ++ [(K, f)]).length ((W ++ [(K, f)]).map wtC).flatten) := by
        show World.ownsRow ..
        rw [List.map_append, List.flatten_append, List.length_append]
        simpa using hown
      have HG : Hid (Wro (fun i => wv.ownBlock = some i) w3 w') := by
        have h1 : Wro (fun i => wv.ownBlock = some i) w3 (w3.drew.alloc (boxW (K, f))) := Wro.ext xA
        exact h1.trans ⟨hgrow.os, hgrow.tape, hgrow.output, hgrow.size, fun q hq hs => hgrow.block q hq fun e => hs e.symm⟩
      have b1d : w3.drew.cell? ⟨gd, 1, none⟩ = some wv := by rw [World.cell?_drew]; exact b1
      have b1a : (w3.drew.alloc (boxW (K, f))).cell? ⟨gd, 1, none⟩ = some wv := alloc_keeps b1d _
      have j1d : w3.drew.cell? ⟨w.heap.size, 1, none⟩ = some (.int .i64 (K : Int)) := by rw [World.cell?_drew]; exact j1
      have j3d : w3.drew.cell? ⟨w.heap.size, 3, none⟩ = some (.slice (some ⟨bA, oA, none⟩) 128 c) := by rw [World.cell?_drew]; exact j3
      have hld := run_loadAt_mid (P := Try.prog) w3.drew bA oA 61 (cts f) _ (rangeAt_ext hrng (HX3.out.trans (Ext.refl w3).drew)) Try.underlying61 rfl (by rw [cts_len]; exact sizeCon)
      have hl1 : ∀ W9 : World, W9.cell? ⟨gd, 1, none⟩ = some wv → (Instr.loadAt 49 (.pointer (some ⟨gd, 1, none⟩))).run Try.prog W9 = .ok wv W9 := fun W9 h => load_one Try.underlying49 rfl h
      clear hnm hbr hdd hnews hown hgrow b0 bz
      go_wp2_with fail
      obtain ⟨Wd, hWd⟩ : ∃ Wd : (Nat → Bool) → World, Wd = fun L => if L 13 = true then w' else if L 12 = true then w3.drew.alloc (boxW (K, f)) else w3.drew := ⟨_, rfl⟩
      have hW0 : Hid (∀ L : Nat → Bool, L 13 = false → L 12 = false → Wd L = w3.drew) := fun L h1 h2 => by rw [hWd]; simp [h1, h2]
      have hW1 : Hid (∀ L : Nat → Bool, L 13 = false → L 12 = true → Wd L = w3.drew.alloc (boxW (K, f))) := fun L h1 h2 => by rw [hWd]; simp [h1, h2]
      have hW2 : Hid (∀ L : Nat → Bool, L 13 = true → Wd L = w') := fun L h1 => by rw [hWd]; simp [h1]
      have hWu : Hid (∀ (L : Nat → Bool) (i : Nat), i ≠ 12 → i ≠ 13 → Wd (updB L i) = Wd L) := fun L i h1 h2 => by
        rw [hWd]
        simp only [updB, if_neg (Ne.symm h1), if_neg (Ne.symm h2)]
      clear hWd
      refine wp_region_fixed (P := Try.prog) 16 (by kernel_rfl) (by kernel_rfl) (fun i => 17 + i) (fun i => match i with
        | 0 => .pointer (some ⟨gd, 0, none⟩)
        | 1 => .pointer (some ⟨gd, 0, none⟩)
        | 2 => .pointer (some ⟨gd, 0, none⟩)
        | 3 => .pointer (some ⟨gd, 1, none⟩)
        | 4 => wv
        | 5 => .pointer (some ⟨w.heap.size, 1, none⟩)
        | 6 => .int .i64 (K : Int)
        | 7 => .pointer (some ⟨w.heap.size, 3, none⟩)
        | 8 => .slice (some ⟨bA, oA, none⟩) 128 c
        | 9 => .pointer (some ⟨bA, oA, none⟩)
        | 10 => .agg (cts f).toArray
        | 11 => .agg (wtC (K, f)).toArray
        | 12 => .slice (some ⟨w3.heap.size, 0, none⟩) 1 1
        | 13 => v'
        | 14 => .pointer (some ⟨gd, 0, none⟩)
        | 15 => .pointer (some ⟨gd, 1, none⟩)
        | _ => undef) Wd (by kernel_rfl) (fun i j _ _ h => by have h : 17 + i = 17 + j := h; omega) (fun i hi => by show 17 + i < 84; omega) (hW0.out _ rfl rfl) ?_ ?_
      · intro L i a' hi16 hLi hde hcl hA
        have n13 : ∀ d, depB _ 13 d = true → L d = false → L 13 = false := fun d hd h => by
          cases h13 : L 13 with
          | false => rfl
          | true => rw [hcl 13 d (by omega) h13 hd] at h; cases h
        have n11 : L 11 = true → L 6 = true ∧ L 8 = true ∧ L 10 = true := fun q => by
          have q10 := hcl 11 10 (by omega) q (by kernel_rfl)
          have q9 := hcl 10 9 (by omega) q10 (by kernel_rfl)
          exact ⟨hcl 11 6 (by omega) q (by kernel_rfl), hcl 9 8 (by omega) q9 (by kernel_rfl), q10⟩
        have n13x : ∀ d, L d = false → (L 11 = true → L d = true) → L 12 = false ∧ L 13 = false := fun d h hh => by
          have q12 : L 12 = false := by
            cases h12 : L 12 with
            | false => rfl
            | true => rw [hh (hcl 12 11 (by omega) h12 (by kernel_rfl))] at h; cases h
          refine ⟨q12, ?_⟩
          cases h13 : L 13 with
          | false => rfl
          | true => rw [hcl 13 12 (by omega) h13 (by kernel_rfl)] at q12; cases q12
        match i, hi16, hLi, hde with
        | 0, _, hLi, hde =>
          have e0 : a'.eval (.tmp 0) = .pointer (some ⟨gd, 0, none⟩) := hA.eval 0 (fun j _ => by show 17 + j ≠ 0; omega)
          exact ⟨_, rfl, by rw [hWu.out L 0 (by omega) (by omega)]; exact exec_move (.tmp 0) rfl e0⟩
        | 1, _, hLi, hde =>
          have e0 : a'.eval (.tmp 0) = .pointer (some ⟨gd, 0, none⟩) := hA.eval 0 (fun j _ => by show 17 + j ≠ 0; omega)
          exact ⟨_, rfl, by rw [hWu.out L 1 (by omega) (by omega)]; exact exec_move (.tmp 0) rfl e0⟩
        | 2, _, hLi, hde =>
          have e18 : a'.eval (.tmp 18) = .pointer (some ⟨gd, 0, none⟩) := hA.at 1 (by omega) (hde 1 (by kernel_rfl))
          exact ⟨_, rfl, by rw [hWu.out L 2 (by omega) (by omega)]; exact exec_nil (.tmp 18) rfl e18⟩
        | 3, _, hLi, hde =>
          have e19 : a'.eval (.tmp 19) = .pointer (some ⟨gd, 0, none⟩) := hA.at 2 (by omega) (hde 2 (by kernel_rfl))
          exact ⟨_, rfl, by rw [hWu.out L 3 (by omega) (by omega)]; exact exec_field _ (.tmp 19) 1 rfl e19 (field_d1 gd _)⟩
        | 4, _, hLi, hde =>
          have e20 : a'.eval (.tmp 20) = .pointer (some ⟨gd, 1, none⟩) := hA.at 3 (by omega) (hde 3 (by kernel_rfl))
          have hwl : (Wd L).cell? ⟨gd, 1, none⟩ = some wv := by
            have h13 := n13 4 (by kernel_rfl) hLi
            cases h12 : L 12 with
            | false => rw [hW0.out L h13 h12]; exact b1d
            | true => rw [hW1.out L h13 h12]; exact b1a
          exact ⟨_, rfl, by rw [hWu.out L 4 (by omega) (by omega)]; exact exec_load _ (.tmp 20) rfl e20 (hl1 _ hwl)⟩
        | 5, _, hLi, hde =>
          have e3 : a'.eval (.tmp 3) = .pointer (some ⟨w.heap.size, 0, none⟩) := hA.eval 3 (fun j _ => by show 17 + j ≠ 3; omega)
          exact ⟨_, rfl, by rw [hWu.out L 5 (by omega) (by omega)]; exact exec_field _ (.tmp 3) 1 rfl e3 (field_j1 _ _)⟩
        | 6, _, hLi, hde =>
          have e22 : a'.eval (.tmp 22) = .pointer (some ⟨w.heap.size, 1, none⟩) := hA.at 5 (by omega) (hde 5 (by kernel_rfl))
          have hw6 := hW0.out L (n13x 6 hLi (fun q => (n11 q).1)).2 (n13x 6 hLi (fun q => (n11 q).1)).1
          exact ⟨_, rfl, by rw [hWu.out L 6 (by omega) (by omega), hw6]; exact exec_load _ (.tmp 22) rfl e22 (load_one Try.underlying3 rfl j1d)⟩
        | 7, _, hLi, hde =>
          have e3 : a'.eval (.tmp 3) = .pointer (some ⟨w.heap.size, 0, none⟩) := hA.eval 3 (fun j _ => by show 17 + j ≠ 3; omega)
          exact ⟨_, rfl, by rw [hWu.out L 7 (by omega) (by omega)]; exact exec_field _ (.tmp 3) 3 rfl e3 (field_j3 _ _)⟩
        | 8, _, hLi, hde =>
          have e24 : a'.eval (.tmp 24) = .pointer (some ⟨w.heap.size, 3, none⟩) := hA.at 7 (by omega) (hde 7 (by kernel_rfl))
          have hw8 := hW0.out L (n13x 8 hLi (fun q => (n11 q).2.1)).2 (n13x 8 hLi (fun q => (n11 q).2.1)).1
          exact ⟨_, rfl, by rw [hWu.out L 8 (by omega) (by omega), hw8]; exact exec_load _ (.tmp 24) rfl e24 (load_one Try.underlying32 rfl j3d)⟩
        | 9, _, hLi, hde =>
          have e25 : a'.eval (.tmp 25) = .slice (some ⟨bA, oA, none⟩) 128 c := hA.at 8 (by omega) (hde 8 (by kernel_rfl))
          exact ⟨_, rfl, by rw [hWu.out L 9 (by omega) (by omega)]; exact exec_arr _ (.tmp 25) rfl e25 (array_at _ _ _)⟩
        | 10, _, hLi, hde =>
          have e26 : a'.eval (.tmp 26) = .pointer (some ⟨bA, oA, none⟩) := hA.at 9 (by omega) (hde 9 (by kernel_rfl))
          have hw10 := hW0.out L (n13x 10 hLi (fun q => (n11 q).2.2)).2 (n13x 10 hLi (fun q => (n11 q).2.2)).1
          exact ⟨_, rfl, by rw [hWu.out L 10 (by omega) (by omega), hw10]; exact exec_load _ (.tmp 26) rfl e26 hld⟩
        | 11, _, hLi, hde =>
          have e23 : a'.eval (.tmp 23) = .int .i64 (K : Int) := hA.at 6 (by omega) (hde 6 (by kernel_rfl))
          have e27 : a'.eval (.tmp 27) = .agg (cts f).toArray := hA.at 10 (by omega) (hde 10 (by kernel_rfl))
          exact ⟨_, rfl, by rw [hWu.out L 11 (by omega) (by omega)]; exact exec_build _ _ rfl (vs := #[(0, .int .i64 (K : Int)), (1, .agg (cts f).toArray)]) (by simp [e23, e27]) (build_wt (K, f) _)⟩
        | 12, _, hLi, hde =>
          have e28 : a'.eval (.tmp 28) = .agg (wtC (K, f)).toArray := hA.at 11 (by omega) (hde 11 (by kernel_rfl))
          have hwa := hW0.out L (n13 12 (by kernel_rfl) hLi) hLi
          have hwb := hW1.out (updB L 12) (n13 12 (by kernel_rfl) hLi) rfl
          exact ⟨_, rfl, by rw [hwa, hwb]; exact exec_bslice _ _ _ rfl (vs := #[(0, .agg (wtC (K, f)).toArray)]) (by simp [e28]) (bslice_wt (K, f) w3.drew)⟩
        | 13, _, hLi, hde =>
          have e21 : a'.eval (.tmp 21) = wv := hA.at 4 (by omega) (hde 4 (by kernel_rfl))
          have e29 : a'.eval (.tmp 29) = .slice (some ⟨w3.heap.size, 0, none⟩) 1 1 := hA.at 12 (by omega) (hde 12 (by kernel_rfl))
          have hwa := hW1.out L hLi (hde 12 (by kernel_rfl))
          have hwb := hW2.out (updB L 13) rfl
          exact ⟨_, rfl, by rw [hwa, hwb]; exact exec_append (.tmp 21) (.tmp 29) 49 rfl e21 e29 hrun⟩
        | 14, _, hLi, hde =>
          have e17 : a'.eval (.tmp 17) = .pointer (some ⟨gd, 0, none⟩) := hA.at 0 (by omega) (hde 0 (by kernel_rfl))
          exact ⟨_, rfl, by rw [hWu.out L 14 (by omega) (by omega)]; exact exec_nil (.tmp 17) rfl e17⟩
        | 15, _, hLi, hde =>
          have e31 : a'.eval (.tmp 31) = .pointer (some ⟨gd, 0, none⟩) := hA.at 14 (by omega) (hde 14 (by kernel_rfl))
          exact ⟨_, rfl, by rw [hWu.out L 15 (by omega) (by omega)]; exact exec_field _ (.tmp 31) 1 rfl e31 (field_d1 gd _)⟩
        | q + 16, h, _, _ => exact absurd h (by omega)
      · intro L hL
        rw [hW2.out L (hL 13 (by omega))]
        clear hW0 hW1 hW2 hWu
        simp only [List.drop_succ_cons, List.drop_zero]
        have hput : ∀ a0 : Act, putAll (fun i => 17 + i) (fun i => match i with
          | 0 => .pointer (some ⟨gd, 0, none⟩)
          | 1 => .pointer (some ⟨gd, 0, none⟩)
          | 2 => .pointer (some ⟨gd, 0, none⟩)
          | 3 => .pointer (some ⟨gd, 1, none⟩)
          | 4 => wv
          | 5 => .pointer (some ⟨w.heap.size, 1, none⟩)
          | 6 => .int .i64 (K : Int)
          | 7 => .pointer (some ⟨w.heap.size, 3, none⟩)
          | 8 => .slice (some ⟨bA, oA, none⟩) 128 c
          | 9 => .pointer (some ⟨bA, oA, none⟩)
          | 10 => .agg (cts f).toArray
          | 11 => .agg (wtC (K, f)).toArray
          | 12 => .slice (some ⟨w3.heap.size, 0, none⟩) 1 1
          | 13 => v'
          | 14 => .pointer (some ⟨gd, 0, none⟩)
          | 15 => .pointer (some ⟨gd, 1, none⟩)
          | _ => undef) a0 16 = ((((((((((((((((a0.put (some 17) (.pointer (some ⟨gd, 0, none⟩))).put (some 18) (.pointer (some ⟨gd, 0, none⟩))).put (some 19) (.pointer (some ⟨gd, 0, none⟩))).put (some 20) (.pointer (some ⟨gd, 1, none⟩))).put (some 21) (wv)).put (some 22) (.pointer (some ⟨w.heap.size, 1, none⟩))).put (some 23) (.int .i64 (K : Int))).put (some 24) (.pointer (some ⟨w.heap.size, 3, none⟩))).put (some 25) (.slice (some ⟨bA, oA, none⟩) 128 c)).put (some 26) (.pointer (some ⟨bA, oA, none⟩))).put (some 27) (.agg (cts f).toArray)).put (some 28) (.agg (wtC (K, f)).toArray)).put (some 29) (.slice (some ⟨w3.heap.size, 0, none⟩) 1 1)).put (some 30) (v')).put (some 31) (.pointer (some ⟨gd, 0, none⟩))).put (some 32) (.pointer (some ⟨gd, 1, none⟩))) := fun _ => rfl
        rw [hput]
        simp only [Act.put, List.setIfInBounds_toArray, List.set_cons_succ, List.set_cons_zero]
        have hbd : w'.heap[gd]? = some (.cells #[.slice (some ⟨gp, 0, none⟩) n n, wv, .bool dead] 51 (0, 0)) := wroBlk HG.out HD3.out.box hnb
        obtain ⟨_, c1, _, cz⟩ := cells_drive hbd
        have cz1 := cz 1
        have hrg := wroBlk HG.out HR3.out (own_type HD3.out.row HR3.out (by decide))
        have HDW : Hid (DSt w' base gd gp n PL (W ++ [(K, f)]) wv dead → True) := fun _ => trivial
        have HRG : Hid (w'.heap[w.heap.size + 1]? = some (.cells #[.int .i64 0, .slice none 0 0] 46 (0, 0))) := hrg
        have HBD : Hid (w'.heap[gd]? = some (.cells #[.slice (some ⟨gp, 0, none⟩) n n, wv, .bool dead] 51 (0, 0))) := hbd
        have HPL : Hid (w'.ownsRow base 68 129 (.slice (some ⟨gp, 0, none⟩) n n) n (PL.map secC).flatten) := own_wro2 HD3.out.plate HG.out fun b hb q => by
          have h2 := HD3.out.ne.2.2
          injection q with q
          rw [← q] at hb
          exact h2 hb
        have hwk : Wro (· = gd) w' (w'.setCell ⟨gd, 1, none⟩ v') := (Wro.refl (· = gd) w').setCell (p := ⟨gd, 1, none⟩) rfl _
        have HWK : Hid (Wro (· = gd) w' (w'.setCell ⟨gd, 1, none⟩ v')) := hwk
        have hrk := wroBlk hwk hrg (by show ¬ w.heap.size + 1 = gd; omega)
        have HRK : Hid ((w'.setCell ⟨gd, 1, none⟩ v').heap[w.heap.size + 1]? = some (.cells #[.int .i64 0, .slice none 0 0] 46 (0, 0))) := hrk
        have HDN : Hid (DSt (w'.setCell ⟨gd, 1, none⟩ v') base gd gp n PL (W ++ [(K, f)]) v' dead) := by
          refine ⟨?_, HD.out.len, own_wro2 HPL.out hwk fun b hb q => ?_, own_wro2 HN.out hwk fun b hb => by rw [hb]; exact own_type HN.out hbd (by decide), HD.out.lo⟩
          · rw [heap_setCell_same w' gd 1 _ _ v' hbd]
            rfl
          · rw [hb] at q
            exact own_type HPL.out hbd (by decide) q
        obtain ⟨q0, q1, q2⟩ := row2_cells hrk
        have y0 := q2 0
        have y1 := q2 1
        clear q2
        clear hrun hwk hbd hrg cz hl1 hld HDW
        obtain ⟨_, aV, cV, hv', _⟩ := own_els HN.out (Szd.map wtC_len _) (by omega)
        obtain ⟨M9, hM9⟩ : ∃ M9, (W ++ [(K, f)]).length = M9 := ⟨_, rfl⟩
        rw [hM9] at hv'
        subst hv'
        clear hM9
        go_wp2_with fail
        obtain ⟨e1, e2, e3, e4⟩ := do_end (w0 := w) HRK.out (by omega) HDN.out ((((Wro.ext (S := fun i => i = gd ∨ i = gp ∨ wv.ownBlock = some i) HX3.out).trans (HG.out.mono fun i hi => Or.inr (Or.inr hi))).trans (HWK.out.mono fun i hi => Or.inl hi))) (.int .i64 0) (.slice none 0 0)
        refine bodyPost_ret (results_cell_row rfl _ _ (w.heap.size + 1) 46 #[.int .i64 0, .slice none 0 0] (0, 0) _ rfl e1 Try.underlying46 rfl repInfo) rfl ?_
        show DrRes ..
        rw [HE.out]
        exact ⟨_, gp, _, rfl, ⟨_, rfl, rfl⟩, e2, e3⟩
    · obtain ⟨K, rfl⟩ : ∃ K : Nat, at' = K := ⟨at'.toNat, by have := hnm rfl; omega⟩
      have hK : K < n := by have := hnm rfl; omega
      have HE : Hid (doR n PL W dead 2 (K : Int) kp l f = (getV PL W K, PL, W, dead)) := by show _ = _; unfold doR; rw [if_neg (fun q => q HE0.out)]; rfl
      have HGt := get_any base gd gp n K PL W wv dead w3 hn hK (by omega) HD3.out
      clear hnm hbr hdd
      go_wp2_with fail
      refine HGt.mono ?_
      rintro e w4 ⟨v4, rfl, ⟨dv, rfl, hrep⟩, hx4⟩
      obtain ⟨gv, hgv⟩ : ∃ gv, getV PL W K = gv := ⟨_, rfl⟩
      rw [hgv] at hrep HE ⊢
      obtain ⟨gc, gf⟩ := gv
      have HX4 : Hid (Ext w3 w4) := hx4
      have hrk := extBlk hx4 HR3.out
      obtain ⟨q0, q1, q2⟩ := row2_cells hrk
      have y0 := q2 0
      have y1 := q2 1
      clear q2
      clear HGt hx4 hgv
      cases gf with
      | none =>
        obtain rfl : dv = .slice none 0 0 := hrep
        go_wp2_with fail
        obtain ⟨e1, e2, e3, e4⟩ := do_end (w0 := w) hrk (by omega) (HD3.out.ext HX4.out) ((Wro.ext (S := fun i => i = gd ∨ i = gp ∨ wv.ownBlock = some i) HX3.out).then_ext HX4.out) (.int .i64 gc) (.slice none 0 0)
        refine bodyPost_ret (results_cell_row rfl _ _ (w.heap.size + 1) 46 #[.int .i64 gc, .slice none 0 0] (0, 0) _ rfl e1 Try.underlying46 rfl repInfo) rfl ?_
        show DrRes ..
        rw [HE.out]
        exact ⟨_, gp, wv, rfl, ⟨_, rfl, rfl⟩, e2, e3⟩
      | some g =>
        have hown : w4.ownsRow w3.heap.size 5 1 dv 128 (cts g) := hrep
        obtain ⟨aD, cD, rfl, _⟩ := own_slice hown
        have HOW : Hid (w4.ownsRow w3.heap.size 5 1 (.slice aD 128 cD) 128 (cts g)) := hown
        clear hrep hown
        go_wp2_with fail
        obtain ⟨e1, e2, e3, e4⟩ := do_end (w0 := w) hrk (by omega) (HD3.out.ext HX4.out) ((Wro.ext (S := fun i => i = gd ∨ i = gp ∨ wv.ownBlock = some i) HX3.out).then_ext HX4.out) (.int .i64 gc) (.slice aD 128 cD)
        refine bodyPost_ret (results_cell_row rfl _ _ (w.heap.size + 1) 46 #[.int .i64 gc, .slice aD 128 cD] (0, 0) _ rfl e1 Try.underlying46 rfl repInfo) rfl ?_
        show DrRes ..
        rw [HE.out]
        exact ⟨_, gp, wv, rfl, ⟨_, rfl, own_mono (own_wro2 HOW.out e4 fun b hb => by rw [hb]; exact own_type HOW.out hrk (by decide)) HX3.out.size⟩, e2, e3⟩
    · have HE : Hid (doR n PL W dead 3 at' kp l f = ((0, none), setK (fun _ => true) 0 W PL, [], dead)) := by show _ = _; unfold doR; rw [if_neg (fun q => q HE0.out)]; rfl
      have HSt := settleA_any base gd gp 0 n (fun _ => true) PL W wv dead w3 hn (by omega) HA.out HD3.out (fun k w' _ _ => do1_any k w')
      clear hnm hbr hdd
      go_wp2_with fail
      refine HSt.mono ?_
      rintro e w4 ⟨rfl, hd4, hw4⟩
      have hrk := wroBlk hw4 HR3.out (by show ¬ (w.heap.size + 1 = gd ∨ w.heap.size + 1 = gp); omega)
      have HD4 : Hid (DSt w4 base gd gp n (setK (fun _ => true) 0 W PL) [] (.slice none 0 0) dead) := hd4
      have HW4 : Hid (Wro (fun k => k = gd ∨ k = gp) w3 w4) := hw4
      obtain ⟨q0, q1, q2⟩ := row2_cells hrk
      have y0 := q2 0
      have y1 := q2 1
      clear q2
      clear hd4 hw4 HSt
      go_wp2_with fail
      obtain ⟨e1, e2, e3, _⟩ := do_end (w0 := w) hrk (by omega) HD4.out ((Wro.ext (S := fun i => i = gd ∨ i = gp ∨ wv.ownBlock = some i) HX3.out).trans (HW4.out.mono fun i hi => hi.elim Or.inl fun q => Or.inr (Or.inl q))) (.int .i64 0) (.slice none 0 0)
      refine bodyPost_ret (results_cell_row rfl _ _ (w.heap.size + 1) 46 #[.int .i64 0, .slice none 0 0] (0, 0) _ rfl e1 Try.underlying46 rfl repInfo) rfl ?_
      show DrRes ..
      rw [HE.out]
      exact ⟨_, gp, (.slice none 0 0), rfl, ⟨_, rfl, rfl⟩, e2, e3⟩
    · have HE : Hid (doR n PL W dead 4 at' kp l f = ((0, none), setK (keepB kp) 0 W PL, [], dead)) := by show _ = _; unfold doR; rw [if_neg (fun q => q HE0.out)]; rfl
      have HSt := settleB_any base gd gp w.heap.size n (keepB kp) PL W wv dead w3 hn (by omega) HA.out HD3.out (fun k w' hk hw => do2_any k w.heap.size kp w' (hw.cell (row4_cells HJ3.out).2.2.1 (by show ¬ w.heap.size = gp; omega)) (by omega))
      clear hnm hbr hdd
      go_wp2_with fail
      refine HSt.mono ?_
      rintro e w4 ⟨rfl, hd4, hw4⟩
      have hrk := wroBlk hw4 HR3.out (by show ¬ (w.heap.size + 1 = gd ∨ w.heap.size + 1 = gp); omega)
      have HD4 : Hid (DSt w4 base gd gp n (setK (keepB kp) 0 W PL) [] (.slice none 0 0) dead) := hd4
      have HW4 : Hid (Wro (fun k => k = gd ∨ k = gp) w3 w4) := hw4
      obtain ⟨q0, q1, q2⟩ := row2_cells hrk
      have y0 := q2 0
      have y1 := q2 1
      clear q2
      clear hd4 hw4 HSt
      go_wp2_with fail
      obtain ⟨e1, e2, e3, _⟩ := do_end (w0 := w) hrk (by omega) HD4.out ((Wro.ext (S := fun i => i = gd ∨ i = gp ∨ wv.ownBlock = some i) HX3.out).trans (HW4.out.mono fun i hi => hi.elim Or.inl fun q => Or.inr (Or.inl q))) (.int .i64 0) (.slice none 0 0)
      refine bodyPost_ret (results_cell_row rfl _ _ (w.heap.size + 1) 46 #[.int .i64 0, .slice none 0 0] (0, 0) _ rfl e1 Try.underlying46 rfl repInfo) rfl ?_
      show DrRes ..
      rw [HE.out]
      exact ⟨_, gp, (.slice none 0 0), rfl, ⟨_, rfl, rfl⟩, e2, e3⟩
    · obtain ⟨K, rfl⟩ : ∃ K : Nat, at' = K := ⟨at'.toNat, by have := hnm rfl; omega⟩
      have hK : K < n := by have := hnm rfl; omega
      obtain ⟨s, hs⟩ : ∃ s, PL[K]? = some s := ⟨_, List.getElem?_eq_getElem (by rw [HD.out.len]; exact hK)⟩
      have HE : Hid (doR n PL W dead 5 (K : Int) kp l f = ((0, none), PL.set K (s.1, true), W, dead)) := by
        show _ = _
        unfold doR
        rw [if_neg (fun q => q HE0.out)]
        show ((0, none), PL.set K ((PL.getD K (fun _ => ze, false)).1, true), W, dead) = _
        rw [List.getD_eq_getElem?_getD, hs]
        rfl
      have HS : Hid (PL[K]? = some s) := hs
      obtain ⟨b0, _, _, _⟩ := cells_drive HD3.out.box
      have g1 := fun x : Gr w3 => x.ext.keeps b0
      have g2 := fun x : Gr w3 => x.ext.keeps j1
      have hKi : (K : Int) < (n : Int) := by omega
      clear hnm hbr hdd hs b0
      go_wp2_with fail
      refine wp_region_grows 8 (by kernel_rfl) (by kernel_rfl) (fun hne => ?_)
      simp only [List.take_succ_cons, List.take_zero, List.drop_succ_cons, List.drop_zero]
      repeat (go_big_quiet_step (fail))
      refine wpQuiet_nil ?_
      intro w4 hw4
      obtain ⟨x4, rfl⟩ := hw4
      have HX4 : Hid (Ext w3 x4.w') := x4.ext
      have HD4 : Hid (DSt x4.w' base gd gp n PL W wv dead) := HD3.out.ext x4.ext
      clear g1 g2 hne
      generalize x4.w' = w5 at *
      have hplen : (PL.map secC).flatten.length = n * 129 := by rw [flat_length (Szd.map secC_len PL), List.length_map, HD4.out.len]
      have hcell : w5.cell? ⟨gp, K * 129 + 128, none⟩ = some (.bool s.2) := by
        rw [HD4.out.plate.cellAt _ (by omega), flat_get (Szd.map secC_len PL) (i := K) (cs := secC s) (by rw [List.getElem?_map, HS.out]; rfl) 128 (by omega)]
        unfold secC
        rw [List.getElem?_append_right (by rw [cts_len]; exact Nat.le_refl _), cts_len]
        rfl
      have hfz := HD4.out.plate.frozenAt (K * 129 + 128)
      have hwk : Wro (· = gp) w5 (w5.setCell ⟨gp, K * 129 + 128, none⟩ (.bool true)) := (Wro.refl (· = gp) w5).setCell (p := ⟨gp, K * 129 + 128, none⟩) rfl _
      have hrk := wroBlk hwk (extBlk HX4.out HR3.out) (by show ¬ w.heap.size + 1 = gp; omega)
      have HDN : Hid (DSt (w5.setCell ⟨gp, K * 129 + 128, none⟩ (.bool true)) base gd gp n (PL.set K (s.1, true)) W wv dead) := HD4.out.brk HS.out
      have HWK : Hid (Wro (· = gp) w5 (w5.setCell ⟨gp, K * 129 + 128, none⟩ (.bool true))) := hwk
      obtain ⟨q0, q1, q2⟩ := row2_cells hrk
      have y0 := q2 0
      have y1 := q2 1
      clear q2
      clear hplen hwk
      go_wp2_with fail
      obtain ⟨e1, e2, e3, e4⟩ := do_end (w0 := w) hrk (by omega) HDN.out (((Wro.ext (S := fun i => i = gd ∨ i = gp ∨ wv.ownBlock = some i) HX3.out).then_ext HX4.out).trans (HWK.out.mono fun i hi => Or.inr (Or.inl hi))) (.int .i64 0) (.slice none 0 0)
      refine bodyPost_ret (results_cell_row rfl _ _ (w.heap.size + 1) 46 #[.int .i64 0, .slice none 0 0] (0, 0) _ rfl e1 Try.underlying46 rfl repInfo) rfl ?_
      show DrRes ..
      rw [HE.out]
      exact ⟨_, gp, wv, rfl, ⟨_, rfl, rfl⟩, e2, e3⟩
    · obtain ⟨K, rfl⟩ : ∃ K : Nat, at' = K := ⟨at'.toNat, by have := hnm rfl; omega⟩
      have hK : K < n := by have := hnm rfl; omega
      obtain rfl : l = 128 := hbr rfl
      have HE : Hid (doR n PL W dead 6 (K : Int) kp 128 f = ((0, none), PL.set K (f, false), W, dead)) := by show _ = _; unfold doR; rw [if_neg (fun q => q HE0.out)]; rfl
      obtain ⟨bA, oA, rfl, _⟩ := HF.out 0 (by omega)
      have hrng : w.rangeAt bA oA (cts f) := byts_range HF.out
      have g1 := fun x : Gr w3 => x.ext.keeps j1
      have g2 := fun x : Gr w3 => x.ext.keeps j3
      have hsa := array_at (some ⟨bA, oA, none⟩) c
      have g3 := fun x : Gr w3 => run_loadAt_mid (P := Try.prog) x.w' bA oA 61 (cts f) _ (rangeAt_ext hrng (HX3.out.trans x.ext)) Try.underlying61 rfl (by rw [cts_len]; exact sizeCon)
      clear hnm hbr hdd
      go_wp2_with fail
      refine wp_region_grows 7 (by kernel_rfl) (by kernel_rfl) (fun hne => ?_)
      simp only [List.take_succ_cons, List.take_zero, List.drop_succ_cons, List.drop_zero]
      iterate 6 (go_big_quiet_step (fail))
      refine wpQuiet_at rfl _ (fun w hw => exec_load _ _ rfl rfl (by obtain ⟨x, rfl⟩ := hw; exact g3 x)) ?_
      simp only [Act.put, List.setIfInBounds_toArray, List.set_cons_succ, List.set_cons_zero]
      refine wpQuiet_nil ?_
      intro w4 hw4
      obtain ⟨x4, rfl⟩ := hw4
      have HX4 : Hid (Ext w3 x4.w') := x4.ext
      have HD4 : Hid (DSt x4.w' base gd gp n PL W wv dead) := HD3.out.ext x4.ext
      clear g1 g2 g3 hne
      generalize x4.w' = w5 at *
      have HL := lay_any base gd gp n K PL W wv dead f w5 hn hK HD4.out
      go_wp2_with fail
      refine HL.mono ?_
      rintro e w6 ⟨rfl, hd6, hw6⟩
      have hrk := wroBlk hw6 (extBlk HX4.out HR3.out) (by show ¬ w.heap.size + 1 = gp; omega)
      have HD6 : Hid (DSt w6 base gd gp n (PL.set K (f, false)) W wv dead) := hd6
      have HW6 : Hid (Wro (· = gp) w5 w6) := hw6
      obtain ⟨q0, q1, q2⟩ := row2_cells hrk
      have y0 := q2 0
      have y1 := q2 1
      clear q2
      clear hd6 hw6 HL
      go_wp2_with fail
      obtain ⟨e1, e2, e3, e4⟩ := do_end (w0 := w) hrk (by omega) HD6.out (((Wro.ext (S := fun i => i = gd ∨ i = gp ∨ wv.ownBlock = some i) HX3.out).then_ext HX4.out).trans (HW6.out.mono fun i hi => Or.inr (Or.inl hi))) (.int .i64 0) (.slice none 0 0)
      refine bodyPost_ret (results_cell_row rfl _ _ (w.heap.size + 1) 46 #[.int .i64 0, .slice none 0 0] (0, 0) _ rfl e1 Try.underlying46 rfl repInfo) rfl ?_
      show DrRes ..
      rw [HE.out]
      exact ⟨_, gp, wv, rfl, ⟨_, rfl, rfl⟩, e2, e3⟩
    · have HE : Hid (doR n PL W dead 7 at' kp l f = ((0, none), PL, W, true)) := by show _ = _; unfold doR; rw [if_neg (fun q => q HE0.out)]; rfl
      obtain ⟨b0, b1, b2, bz⟩ := cells_drive HD3.out.box
      have bz2 := bz 2
      have hwk : Wro (· = gd) w3 (w3.setCell ⟨gd, 2, none⟩ (.bool true)) := (Wro.refl (· = gd) w3).setCell (p := ⟨gd, 2, none⟩) rfl _
      have hrk := wroBlk hwk HR3.out (by show ¬ w.heap.size + 1 = gd; omega)
      obtain ⟨q0, q1, q2⟩ := row2_cells hrk
      have y0 := q2 0
      have y1 := q2 1
      clear q2
      clear bz hnm hbr hdd
      go_wp2_with fail
      obtain ⟨e1, e2, e3, _⟩ := do_end (w0 := w) hrk (by omega) HD3.out.kill ((Wro.ext (S := fun i => i = gd ∨ i = gp ∨ wv.ownBlock = some i) HX3.out).setCell (p := ⟨gd, 2, none⟩) (Or.inl rfl) _) (.int .i64 0) (.slice none 0 0)
      refine bodyPost_ret (results_cell_row rfl _ _ (w.heap.size + 1) 46 #[.int .i64 0, .slice none 0 0] (0, 0) _ rfl e1 Try.underlying46 rfl repInfo) rfl ?_
      show DrRes ..
      rw [HE.out]
      exact ⟨_, gp, wv, rfl, ⟨_, rfl, rfl⟩, e2, e3⟩
    · have HE : Hid (doR n PL W dead 8 at' kp l f = ((0, none), newP n, [], false)) := by show _ = _; unfold doR; rw [if_neg (fun q => q HE0.out)]; rfl
      obtain ⟨b0, b1, b2, bz⟩ := cells_drive HD3.out.box
      have HFr := fresh_any n w3 hn
      clear hnm hbr hdd b1 b2 bz
      go_wp2_with fail
      refine HFr.mono ?_
      rintro e w4 ⟨gp', rfl, hown4, hx4⟩
      have HD4 : Hid (DSt w4 base gd gp n PL W wv dead) := HD3.out.ext hx4
      have HX4 : Hid (Ext w w4) := HX3.out.trans hx4
      obtain ⟨hdn, hwn⟩ := HD4.out.renew hown4 (by have := HX3.out.size; omega)
      have hrk := wroBlk hwn (extBlk hx4 HR3.out) (by show ¬ w.heap.size + 1 = gd; omega)
      have HDN : Hid (DSt (((w4.setCell ⟨gd, 0, none⟩ (.slice (some ⟨gp', 0, none⟩) n n)).setCell ⟨gd, 1, none⟩ (.slice none 0 0)).setCell ⟨gd, 2, none⟩ (.bool false)) base gd gp' n (newP n) [] (.slice none 0 0) false) := hdn
      have HWN : Hid (Wro (· = gd) w4 (((w4.setCell ⟨gd, 0, none⟩ (.slice (some ⟨gp', 0, none⟩) n n)).setCell ⟨gd, 1, none⟩ (.slice none 0 0)).setCell ⟨gd, 2, none⟩ (.bool false))) := hwn
      obtain ⟨c0, c1, c2, cz⟩ := cells_drive HD4.out.box
      have cz0 := cz 0
      have cz1 := cz 1
      have cz2 := cz 2
      obtain ⟨q0, q1, q2⟩ := row2_cells hrk
      have y0 := q2 0
      have y1 := q2 1
      clear q2
      clear hdn hwn hown4 hx4 HFr cz b0
      go_wp2_with fail
      obtain ⟨e1, e2, e3, _⟩ := do_end (w0 := w) hrk (by omega) HDN.out ((Wro.ext (S := fun i => i = gd ∨ i = gp ∨ wv.ownBlock = some i) HX4.out).trans (HWN.out.mono fun i hi => Or.inl hi)) (.int .i64 0) (.slice none 0 0)
      refine bodyPost_ret (results_cell_row rfl _ _ (w.heap.size + 1) 46 #[.int .i64 0, .slice none 0 0] (0, 0) _ rfl e1 Try.underlying46 rfl repInfo) rfl ?_
      show DrRes ..
      rw [HE.out]
      exact ⟨_, gp', (.slice none 0 0), rfl, ⟨_, rfl, rfl⟩, e2, e3⟩
end Go.Proofs.Ytgboboojjboocaa
