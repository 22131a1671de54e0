/-
  drive: what lies in memory: sectors on the plate, what waits, the drive itself.
-/
import Derived.Test.YtgboboojjboocaaChecked
import Derived.WalkKit
import Derived.BigQuiet
import Derived.Deep.WholeRow
import Derived.Test.YtgboboojjboocaaEls
import Derived.Test.YtgboboojjboocaaQuiets
import Derived.Test.YtgboboojjboocaaMidQuiet
namespace Go.Proofs.Ytgboboojjboocaa
open Go.RowKit Go.Deep E
theorem extDrewN {a w : World} (h : Ext a w) (n : Nat) : Ext a (w.drewN n) := h.trans ⟨⟨rfl, rfl, rfl, Nat.le_refl _, fun _ _ => rfl⟩⟩
/-- the bytes of a sector -/
def cts (c : Nat → E) : List Value := (List.range 128).map (bvs c)
theorem cts_len (c : Nat → E) : (cts c).length = 128 := by unfold cts; rw [List.length_map, List.length_range]
theorem cts_one (c : Nat → E) : ∀ v, v ∈ cts c → v.oneCell' = true := fun v hv => by
  obtain ⟨i, _, rfl⟩ := List.mem_map.1 hv
  rfl
def secC (s : (Nat → E) × Bool) : List Value := cts s.1 ++ [.bool s.2]
theorem secC_len (s : (Nat → E) × Bool) : (secC s).length = 129 := by unfold secC; rw [List.length_append, cts_len]; rfl
theorem secC_one (s : (Nat → E) × Bool) : ∀ v, v ∈ secC s → v.oneCell' = true := fun v hv => by
  rcases List.mem_append.1 hv with h | h
  · exact cts_one _ v h
  · rw [List.mem_singleton.1 h]; rfl
def wtC (x : Nat × (Nat → E)) : List Value := .int .i64 x.1 :: cts x.2
theorem wtC_len (x : Nat × (Nat → E)) : (wtC x).length = 129 := by unfold wtC; rw [List.length_cons, cts_len]
theorem wtC_one (x : Nat × (Nat → E)) : ∀ v, v ∈ wtC x → v.oneCell' = true := fun v hv => by
  rcases List.mem_cons.1 hv with h | h
  · rw [h]; rfl
  · exact cts_one _ v h
/-- a drive, as it lies in memory -/
structure DSt (w : World) (base gd gp n : Nat) (PL : List ((Nat → E) × Bool)) (W : List (Nat × (Nat → E))) (wv : Value) (dead : Bool) : Prop where
  box : w.heap[gd]? = some (.cells #[.slice (some ⟨gp, 0, none⟩) n n, wv, .bool dead] 51 (0, 0))
  len : PL.length = n
  plate : w.ownsRow base 68 129 (.slice (some ⟨gp, 0, none⟩) n n) n (PL.map secC).flatten
  row : w.ownsRow base 63 129 wv W.length (W.map wtC).flatten
  lo : base ≤ gd
theorem cells_drive {w : World} {gd : Nat} {a b c : Value} (h : w.heap[gd]? = some (.cells #[a, b, c] 51 (0, 0))) : w.cell? ⟨gd, 0, none⟩ = some a ∧ w.cell? ⟨gd, 1, none⟩ = some b ∧ w.cell? ⟨gd, 2, none⟩ = some c ∧ ∀ j, w.frozen? ⟨gd, j, none⟩ = false := by
  refine ⟨?_, ?_, ?_, fun j => frozen_of_row w gd j _ _ h⟩
  · rw [cell_of_row w gd 0 _ _ (0, 0) h]; rfl
  · rw [cell_of_row w gd 1 _ _ (0, 0) h]; rfl
  · rw [cell_of_row w gd 2 _ _ (0, 0) h]; rfl
section
variable {w w' : World} {base gd gp n : Nat} {PL : List ((Nat → E) × Bool)} {W : List (Nat × (Nat → E))} {wv : Value} {dead : Bool}
theorem DSt.ext (h : DSt w base gd gp n PL W wv dead) (e : Ext w w') : DSt w' base gd gp n PL W wv dead :=
  ⟨extBlk e h.box, h.len, own_ext h.plate e, own_ext h.row e, h.lo⟩
theorem DSt.ne (h : DSt w base gd gp n PL W wv dead) : gd ≠ gp ∧ wv.ownBlock ≠ some gd ∧ wv.ownBlock ≠ some gp := by
  obtain ⟨cur, hc⟩ := own_block h.plate (g := gp) rfl
  refine ⟨fun q => ?_, own_type h.row h.box (by decide), own_type h.row hc (by decide)⟩
  have hb := h.box
  rw [q, hc] at hb
  injection hb with hb
  injection hb with _ hb _
  exact absurd hb (by decide)
theorem DSt.set (h : DSt w base gd gp n PL W wv dead) {k : Nat} (hk : k < n) (s : (Nat → E) × Bool) : DSt (w.setCells gp (k * 129) (secC s)) base gd gp n (PL.set k s) W wv dead := by
  obtain ⟨h1, h2, h3⟩ := h.ne
  have hw : Wro (· = gp) w (w.setCells gp (k * 129) (secC s)) := (Wro.refl (· = gp) w).setCells (g := gp) rfl _ _
  refine ⟨wroBlk hw h.box h1, by rw [List.length_set]; exact h.len, ?_, own_wro2 h.row hw fun b hb => by rw [hb]; exact h3, h.lo⟩
  rw [List.map_set]
  exact own_set h.plate (Szd.map secC_len PL) (by omega) hk (secC_len s)
theorem DSt.plate_ne (h : DSt w base gd gp n PL W wv dead) : (.slice (some ⟨gp, 0, none⟩) n n : Value).ownBlock ≠ some gd := fun q => by
  injection q with q
  exact h.ne.1 q.symm
theorem DSt.setRow (h : DSt w base gd gp n PL W wv dead) {wv' : Value} {W' : List (Nat × (Nat → E))} (hr : w.ownsRow base 63 129 wv' W'.length (W'.map wtC).flatten) : DSt (w.setCell ⟨gd, 1, none⟩ wv') base gd gp n PL W' wv' dead := by
  have hw : Wro (· = gd) w (w.setCell ⟨gd, 1, none⟩ wv') := (Wro.refl (· = gd) w).setCell (p := ⟨gd, 1, none⟩) rfl _
  refine ⟨?_, h.len, own_wro2 h.plate hw fun b hb => by rw [hb]; exact h.plate_ne, own_wro2 hr hw fun b hb => by rw [hb]; exact own_type hr h.box (by decide), h.lo⟩
  rw [heap_setCell_same w gd 1 _ _ wv' h.box]
  rfl
theorem DSt.kill (h : DSt w base gd gp n PL W wv dead) : DSt (w.setCell ⟨gd, 2, none⟩ (.bool true)) base gd gp n PL W wv true := by
  have hw : Wro (· = gd) w (w.setCell ⟨gd, 2, none⟩ (.bool true)) := (Wro.refl (· = gd) w).setCell (p := ⟨gd, 2, none⟩) rfl _
  refine ⟨?_, h.len, own_wro2 h.plate hw fun b hb => by rw [hb]; exact h.plate_ne, own_wro2 h.row hw fun b hb => by rw [hb]; exact h.ne.2.1, h.lo⟩
  rw [heap_setCell_same w gd 2 _ _ (.bool true) h.box]
  rfl
end
def boxW (x : Nat × (Nat → E)) : Obj := .cells (wtC x).toArray 63
theorem boxW_at (w : World) (x : Nat × (Nat → E)) : (w.alloc (boxW x)).cell? ⟨w.heap.size, 0, none⟩ = some (.int .i64 x.1) := by
  unfold boxW
  rw [new_cell]
  rfl
theorem boxW_range (w : World) (x : Nat × (Nat → E)) : (w.alloc (boxW x)).rangeAt w.heap.size 1 (cts x.2) := fun j v hv => by
  unfold boxW
  rw [new_cell]
  simp [wtC]
  rw [show 1 + j = j + 1 by omega, List.getElem?_cons_succ]
  exact hv
def Z128 : List Value := List.replicate 128 (.int .u8 0)
theorem zeroCon : (Try.prog.info? 61).map (fun i => (i.zero, i.size)) = some (some (.agg Z128.toArray), 128) := by kernel_rfl
theorem zeroSec : (Try.prog.info? 68).map (fun i => (i.zero, i.size)) = some (some (.agg (Z128 ++ [Value.bool false]).toArray), 129) := by kernel_rfl
theorem zeroWt : (Try.prog.info? 63).map (fun i => (i.zero, i.size)) = some (some (.agg (Value.int .i64 0 :: Z128).toArray), 129) := by kernel_rfl
/-- cells put over others, one by one -/
theorem fill_cells : ∀ (l : List Value) (o : Nat) (cs : Array Value) (pre old post : List Value), cs.toList = pre ++ old ++ post → pre.length = o → old.length = l.length →
    ((l.zipIdx).foldl (fun cs (c, j) => cs.setIfInBounds (o + j) c) cs).toList = pre ++ l ++ post := by
  have key : ∀ (l : List Value) (s o : Nat) (cs : Array Value) (pre old post : List Value), cs.toList = pre ++ old ++ post → pre.length = o + s → old.length = l.length →
      ((l.zipIdx s).foldl (fun cs (c, j) => cs.setIfInBounds (o + j) c) cs).toList = pre ++ l ++ post := by
    intro l
    induction l with
    | nil =>
      intro s o cs pre old post h1 h2 h3
      simp at h3
      subst h3
      simpa using h1
    | cons v r ih =>
      intro s o cs pre old post h1 h2 h3
      cases old with
      | nil => simp at h3
      | cons x old =>
        rw [List.zipIdx_cons, List.foldl_cons]
        have h4 := ih (s + 1) o (cs.setIfInBounds (o + s) v) (pre ++ [v]) old post (by
          rw [Array.toList_setIfInBounds, h1, List.set_append_left _ _ (by simp; omega), List.set_append_right _ _ (by omega), h2, Nat.sub_self]
          simp) (by rw [List.length_append, h2]; rfl) (by simpa using h3)
        rw [h4]
        simp
  intro l o cs pre old post h1 h2 h3
  exact key l 0 o cs pre old post h1 h2 h3
theorem Z128_len : Z128.length = 128 := by unfold Z128; rw [List.length_replicate]
theorem infoSecZ : (Try.prog.info? 68).map (fun i => (i.zero, i.size, i.bytes)) = some (some (.agg (Z128 ++ [Value.bool false]).toArray), 129, 129) := by kernel_rfl
theorem infoWtZ : (Try.prog.info? 63).map (fun i => (i.zero, i.size, i.bytes)) = some (some (.agg (Value.int .i64 0 :: Z128).toArray), 129, 136) := by kernel_rfl
theorem sizeOf_of {t : TypeId} {n : Nat} (h : (Try.prog.info? t).map (·.size) = some n) (w : World) : (sizeOf t).run Try.prog w = .ok n w := by
  cases hq : Try.prog.info? t with
  | none => simp [hq] at h
  | some i =>
    simp [hq] at h
    simp [sizeOf, typeInfo, hq, h]
theorem sizeCon : (Try.prog.info? 61).map (·.size) = some 128 := by kernel_rfl
theorem sizeBool : (Try.prog.info? 4).map (·.size) = some 1 := by kernel_rfl
theorem sizeInt : (Try.prog.info? 3).map (·.size) = some 1 := by kernel_rfl
theorem fill_one {place : Nat → Option (Nat × Nat)} {cells : Array Value} {i off size : Nat} {cs pre old post : List Value} (hp : place i = some (off, size)) (hs : cs.length = size) (hc : cells.toList = pre ++ old ++ post) (h1 : pre.length = off) (h2 : old.length = cs.length) {rest : List (Nat × Value)} :
    Instr.fill place cells ((i, .agg cs.toArray) :: rest) = Instr.fill place (pre ++ cs ++ post).toArray rest := by
  have hsz : cells.size = pre.length + old.length + post.length := by rw [← Array.length_toList, hc]; simp; omega
  have hf := fill_cells cs off cells pre old post hc h1 h2
  have hv : (Value.agg cs.toArray).cells = cs.toArray := rfl
  rw [Instr.fill, hp]
  simp only [hv]
  rw [if_neg (by simp; omega)]
  congr 1
  apply Array.toList_inj.1
  rw [← hf]
  simp
theorem build_sec (c : Nat → E) (w : World) : (Instr.build 68 #[(0, .agg (cts c).toArray)]).run Try.prog w = .ok (.agg (secC (c, false)).toArray) w := by
  have hz := (zero_of_info zeroSec).1
  have hfill : Instr.fill (fun x => ([(0, 128), (128, 1)] : List (Nat × Nat))[x]?) (Value.agg (Z128 ++ [Value.bool false]).toArray).cells [(0, .agg (cts c).toArray)] = some (secC (c, false)).toArray := by
    show Instr.fill _ (Z128 ++ [Value.bool false]).toArray _ = _
    rw [fill_one (off := 0) (size := 128) (pre := []) (old := Z128) (post := [.bool false]) rfl (cts_len c) (by simp) rfl (by rw [Z128_len, cts_len])]
    rfl
  simp [Instr.build, hz, run_underlying Try.underlying68, sizeOf_of sizeCon, sizeOf_of sizeBool, hfill]
end Go.Proofs.Ytgboboojjboocaa
