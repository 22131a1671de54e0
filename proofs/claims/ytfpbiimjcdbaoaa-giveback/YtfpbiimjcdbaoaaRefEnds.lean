/-
  quicksetref.ends: all ends of some lists of ranges, ascending, each once; in new memory.
-/
import Derived.Test.YtfpbiimjcdbaoaaChecked
import Derived.WalkKit
import Derived.BigQuiet
import Derived.Test.YtfpbiimjcdbaoaaEndsMath
import Derived.Test.YtfpbiimjcdbaoaaSpanOwn
import Derived.Test.YtfpbiimjcdbaoaaOwnMore
import Derived.Test.YtfpbiimjcdbaoaaQuiets
import Derived.Test.YtfpbiimjcdbaoaaSpanBtw
namespace Go.Proofs.Ytfpbiimjcdbaoaa
open Go.RowKit Go.Deep
theorem infoIE : (Try.prog.info? 3).map (fun i => (i.zero, i.size, i.bytes)) = some (some (.int .i64 0), 1, 8) := by kernel_rfl
theorem sizeIE : (Try.prog.info? 3).map (·.size) = some 1 := by kernel_rfl
theorem cellsIE : Try.prog.cellsOf 3 = 1 := by kernel_rfl
/-- behind append, copy and the store -/
theorem put_row (P : List Int) (q : Nat) (n : Int) (hq : q ≤ P.length) : ((P.map IV ++ [IV 0]).take (q + 1) ++ ((P.map IV ++ [IV 0]).drop q).take (P.length + 1 - (q + 1))).set q (IV n) = (putAt P q n).map IV := by
  have hl : (P.map IV).length = P.length := List.length_map ..
  have h1 : ((P.map IV ++ [IV 0]).drop q).take (P.length + 1 - (q + 1)) = (P.map IV).drop q := by
    rw [List.drop_append_of_le_length (by omega), List.take_left' (by rw [List.length_drop, hl]; omega)]
  obtain ⟨u, hu⟩ : ∃ u, (P.map IV ++ [IV 0])[q]? = some u := ⟨_, List.getElem?_eq_getElem (by rw [List.length_append, hl]; simp; omega)⟩
  have h2 : (P.map IV ++ [IV 0]).take (q + 1) = (P.map IV).take q ++ [u] := by
    rw [take_at hu, List.take_append_of_le_length (by omega)]
  rw [h1, h2]
  unfold putAt
  rw [List.map_append, List.map_cons, List.map_take, List.map_drop, List.append_assoc]
  have h3 : ((P.map IV).take q).length = q := by rw [List.length_take, hl]; omega
  rw [List.set_append_right _ _ (by omega), h3, Nat.sub_self]
  rfl
def e2 (x y : Int) (t : Nat) : Int := if t = 0 then x else y
/-- between two ranges: q of list j are done -/
structure MI (w : World) (LL : Nat → List (Int × Int)) (j q : Nat) (v : Value) (P : List Int) (wi : World) : Prop where
  up : Up P
  all : ∀ i, i < j → Ends P (LL i)
  cur : Ends P ((LL j).take q)
  len : P.length ≤ 400 * j + 2 * q
  own : wi.ownsRow w.heap.size 3 1 v P.length (P.map IV)
  ext : Ext w wi
/-- between two ends of one range -/
structure InI (w : World) (gb : Nat) (x y : Int) (P : List Int) (t : Nat) (v : Value) (P' : List Int) (wi : World) : Prop where
  up : Up P'
  sub : ∀ k, k ∈ P → k ∈ P'
  one : 1 ≤ t → x ∈ P'
  two : 2 ≤ t → y ∈ P'
  len : P'.length ≤ P.length + t
  own : wi.ownsRow w.heap.size 3 1 v P'.length (P'.map IV)
  ext : Ext w wi
  lit : ∀ j, j < 2 → wi.cell? ⟨gb, j, none⟩ = some (.int .i64 (e2 x y j))
  far : v.ownBlock ≠ some gb
theorem MI.start (w : World) (LL : Nat → List (Int × Int)) : MI w LL 0 0 (.slice none 0 0) [] w where
  up := Up.nil
  all i hi := by omega
  cur r hr := by simp at hr
  len := by simp
  own := World.ownsRow_nil _ _ _ _
  ext := Ext.refl _
section
variable {w wi w' : World} {LL : Nat → List (Int × Int)} {j q gb t : Nat} {v v' : Value} {P P' : List Int} {x y : Int}
theorem MI.next (h : MI w LL j q v P wi) (hq : (LL j).length = q) (hN : (LL j).length ≤ 200) : MI w LL (j + 1) 0 v P wi where
  up := h.up
  all i hi := by
    by_cases e : i = j
    · subst e
      have := h.cur
      rwa [List.take_of_length_le (by omega)] at this
    · exact h.all i (by omega)
  cur r hr := by simp at hr
  len := by
    have h1 := h.len
    omega
  own := h.own
  ext := h.ext
theorem InI.start (h : MI w LL j q v P wi) (t1 t2 : TypeId) (c : Array Value) : InI w (wi.heap.size + 1) x y P 0 v P ((wi.alloc (.cells c t1)).alloc (.cells #[.int .i64 x, .int .i64 y] t2)) where
  up := h.up
  sub _ hk := hk
  one h := by omega
  two h := by omega
  len := Nat.le_refl _
  own := own_ext h.own (((Ext.refl _).alloc _ _).alloc _ _)
  ext := (h.ext.alloc _ _).alloc _ _
  lit j hj := by
    have e := new_cell (wi.alloc (.cells c t1)) #[.int .i64 x, .int .i64 y] t2 j
    rw [World.size_alloc] at e
    rw [e]
    match j, hj with
    | 0, _ => rfl
    | 1, _ => rfl
  far e := by
    have := (h.own.lt _ e).2
    omega
theorem InI.end (h : InI w gb x y P 2 v P' wi) (k : MI w LL j q v' P w') (hr : (LL j)[q]? = some (x, y)) : MI w LL j (q + 1) v P' wi where
  up := h.up
  all i hi r hr := ⟨h.sub _ (k.all i hi r hr).1, h.sub _ (k.all i hi r hr).2⟩
  cur := by
    intro r hr2
    rw [take_at hr] at hr2
    rcases List.mem_append.1 hr2 with c | c
    · exact ⟨h.sub _ (k.cur r c).1, h.sub _ (k.cur r c).2⟩
    · rw [List.mem_singleton] at c
      subst c
      exact ⟨h.one (by omega), h.two (by omega)⟩
  len := by have h1 := h.len; have h2 := k.len; omega
  own := h.own
  ext := h.ext
theorem InI.mono (h : InI w gb x y P t v P' wi) (ht : t < 2) {P'' : List Int} (hu : Up P'') (hs : ∀ k, k ∈ P'' ↔ k = e2 x y t ∨ k ∈ P') (hl : P''.length ≤ P'.length + 1)
    (ho : w'.ownsRow w.heap.size 3 1 v' P''.length (P''.map IV)) (hx : Ext w w') (hlit : ∀ j, j < 2 → w'.cell? ⟨gb, j, none⟩ = some (.int .i64 (e2 x y j))) (hf : v'.ownBlock ≠ some gb) : InI w gb x y P (t + 1) v' P'' w' where
  up := hu
  sub k hk := (hs k).2 (Or.inr (h.sub k hk))
  one _ := by
    by_cases e : t = 0
    · subst e; exact (hs x).2 (Or.inl rfl)
    · exact (hs x).2 (Or.inr (h.one (by omega)))
  two _ := by
    have e : t = 1 := by omega
    subst e; exact (hs y).2 (Or.inl rfl)
  len := by have := h.len; omega
  own := ho
  ext := hx
  lit := hlit
  far := hf
theorem InI.skip (h : InI w gb x y P t v P' wi) (ht : t < 2) (hm : e2 x y t ∈ P') : InI w gb x y P (t + 1) v P' wi :=
  h.mono ht h.up (fun k => ⟨Or.inr, fun c => by rcases c with rfl | c; exact hm; exact c⟩) (by omega) h.own h.ext h.lit h.far
theorem InI.put (h : InI w gb x y P t v P' wi) (ht : t < 2) {g cap r : Nat} {nn : Int} (hnn : e2 x y t = nn) (hr : r ≤ P'.length) (hlow : ∀ i z, i < r → P'[i]? = some z → z < nn) (hhigh : ∀ i z, r ≤ i → P'[i]? = some z → nn < z) {w5 w9 w10 : World} {c0 : Array Value} {t0 : TypeId}
    (hown5 : w5.ownsRow w.heap.size 3 1 (.slice (some ⟨g, 0, none⟩) (P'.length + 1) cap) (P'.length + 1) (P'.map IV ++ [Value.int .i64 0])) (hgrow5 : (wi.alloc (.cells c0 t0)).grownBy w5 v.ownBlock) (hat : v.ownBlock = some g ∨ wi.heap.size < g) (q9 : Ext w5 w9)
    (hown10 : w10.ownsRow w.heap.size 3 1 (.slice (some ⟨g, 0, none⟩) (P'.length + 1) cap) (P'.length + 1) ((P'.map IV ++ [Value.int .i64 0]).take (r + 1) ++ ((P'.map IV ++ [Value.int .i64 0]).drop r).take (P'.length + 1 - (r + 1)))) (hgrow10 : w9.grownBy w10 (some g)) :
    InI w gb x y P (t + 1) (.slice (some ⟨g, 0, none⟩) (P'.length + 1) cap) (putAt P' r nn) (w10.setCell ⟨g, r, none⟩ (.int .i64 nn)) := by
  subst hnn
  have hg : w.heap.size ≤ g := own_geS hown5 rfl
  have x5 : Ext w w5 := (h.ext.alloc _ _).grow hgrow5 fun k hk => own_geS h.own hk
  have x10 : Ext w w10 := (x5.trans q9).grow hgrow10 fun k hk => by cases hk; exact hg
  have hgb : gb ≠ g := by
    intro e
    subst e
    rcases hat with e | e
    · exact h.far e
    · have := World.block_lt_of_cell? _ _ (h.lit 0 (by omega))
      simp only at this
      omega
  refine h.mono ht (h.up.put r _ hr hlow hhigh) (fun k => putAt_mem _ _ _ _) (by rw [putAt_length]; omega) ?_ (x10.setCell (p := ⟨g, r, none⟩) hg _) (fun j hj => ?_) (fun e => hgb (by cases e; rfl))
  · have hs := (hown10.stored r (IV (e2 x y t))).1
    rw [putAt_length, ← put_row P' r _ hr]
    exact hs
  · have c1 := hgrow5.cell (alloc_keeps (h.lit j hj) (.cells c0 t0)) (fun e => h.far e.symm)
    have c2 := hgrow10.cell (q9.keeps c1) (fun e => hgb (by cases e; rfl))
    rw [cell_other _ _ _ _ hgb]
    exact c2
end
end Go.Proofs.Ytfpbiimjcdbaoaa
