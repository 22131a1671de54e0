/-
  slices.SortFunc at the ends of ranges, by their places: behind it the slice holds the same ends, ascending; nothing else that was there is written.
-/
import Derived.Test.YtfekiccjcfdmkabChecked
import Derived.WalkKit
import Derived.Shelf.SlSortCmp.WholeK
import Derived.Shelf.SlSortCmp.NoneTotal
import Derived.Test.YtfekiccjcfdmkabSort
import Derived.Test.YtfekiccjcfdmkabSpanOwn
import Derived.Test.YtfekiccjcfdmkabSpanSweep
import Derived.Test.YtfekiccjcfdmkabMm
namespace Go.Proofs.Ytfekiccjcfdmkab
open Go.Shelf Go.RowKit Go.Lib Go.Sort Go.Deep
def encE (x : Int × Int) : List Value := [.int .i64 x.1, .int .i64 x.2]
theorem ltAt (x y : Int × Int) : ltOf (fun x y : Int × Int => Lib.compareInt x.1 y.1) x y = decide (x.1 < y.1) := by
  unfold ltOf Lib.compareInt
  by_cases h1 : x.1 < y.1
  · simp [h1]
  · by_cases h2 : y.1 < x.1 <;> simp [h1, h2]
theorem swoAt : SWO (ltOf fun x y : Int × Int => Lib.compareInt x.1 y.1) where
  irrefl x := by rw [ltAt]; simp
  trans x y z h1 h2 := by rw [ltAt] at *; simp at *; omega
  ntrans x y z h1 h2 := by rw [ltAt] at *; simp at *; omega
set_option maxRecDepth 100000 in
set_option maxHeartbeats 1000000 in
theorem isNaN_any (x : Int) (w : World) : Calls Try.prog 60 #[.int .i64 x] w fun e w' => e = .returned (.bool false) ∧ w' = w := by
  have hx : (x != x) = false := by simp
  go_enter Try.func60, Try.ntmps60
  go_wp2_with fail
  go_ret
  exact ⟨rfl, rfl⟩
set_option maxRecDepth 100000 in
set_option maxHeartbeats 1000000 in
theorem Compare_any (x y : Int) (w : World) : Calls Try.prog 54 #[.int .i64 x, .int .i64 y] w fun e w' => e = .returned (.int .i64 (Lib.compareInt x y)) ∧ w' = w := by
  unfold Lib.compareInt
  by_cases h1 : x < y
  · rw [if_pos h1]
    go_enter Try.func54, Try.ntmps54
    go_wp2_with (first | (go_at_call 60; refine (isNaN_any _ _).mono ?_; rintro e w' ⟨rfl, rfl⟩))
    go_ret
    exact ⟨rfl, rfl⟩
  · rw [if_neg h1]
    by_cases h2 : y < x
    · rw [if_pos h2]
      go_enter Try.func54, Try.ntmps54
      go_wp2_with (first | (go_at_call 60; refine (isNaN_any _ _).mono ?_; rintro e w' ⟨rfl, rfl⟩))
      go_ret
      exact ⟨rfl, rfl⟩
    · rw [if_neg h2]
      go_enter Try.func54, Try.ntmps54
      go_wp2_with (first | (go_at_call 60; refine (isNaN_any _ _).mono ?_; rintro e w' ⟨rfl, rfl⟩))
      go_ret
      exact ⟨rfl, rfl⟩
set_option maxRecDepth 100000 in
set_option maxHeartbeats 1000000 in
theorem sift1_any (x y : Int × Int) (W : World) : Calls Try.prog 53 #[.agg #[.int .i64 x.1, .int .i64 x.2], .agg #[.int .i64 y.1, .int .i64 y.2]] W fun e w' => e = .returned (.int .i64 (Lib.compareInt x.1 y.1)) ∧ ∃ q os', w' = grow (W.drewN q) os' := by
  have hcon := fun W' => Compare_any x.1 y.1 W'
  generalize Lib.compareInt x.1 y.1 = r at hcon ⊢
  go_enter Try.func53, Try.ntmps53
  go_wp2_with (go_at_call 54; refine (hcon _).mono ?_; rintro e w' ⟨rfl, rfl⟩)
  go_ret
  exact ⟨rfl, 0, _, by rw [alloc_eq_grow, alloc_eq_grow, grow_grow]; rfl⟩
theorem cmpLaysE (blk off size : Nat) (w : World) : CmpLays Try.prog 53 #[] encE 2 (fun x y => Lib.compareInt x.1 y.1) blk off size w :=
  fun _ _ _ _ x y => sift1_any x y _
theorem holds_own {w : World} {base g cap n : Nat} {e : TypeId} {D : List (Int × Int)} (h : w.ownsRow base e 2 (.slice (some ⟨g, 0, none⟩) n cap) n (fl D)) : HoldsK encE 2 w g 0 D.toArray := by
  have hn := (own_rngs h).1
  intro j hj
  rw [size_flatK] at hj
  have hj' : j < D.length * 2 := by simpa using hj
  refine ⟨?_, by rw [Nat.zero_add]; exact h.frozenAt j⟩
  rw [get_flatK _ _ _ _ hj, Nat.zero_add, h.cellAt j (by omega)]
  have hi : j / 2 < D.length := by omega
  have hg : D[j / 2]? = some ((D[j / 2]).1, (D[j / 2]).2) := List.getElem?_eq_getElem hi
  have hf := fl_get hg
  have e1 : D.toArray[j / 2]! = D[j / 2] := by simp [hi]
  rw [e1]
  have hm : j % 2 = 0 ∨ j % 2 = 1 := by omega
  rcases hm with hm | hm
  · have ej : j = j / 2 * 2 := by omega
    rw [hm]
    rw [← ej] at hf
    exact hf.1
  · have ej : j = j / 2 * 2 + 1 := by omega
    rw [hm]
    rw [← ej] at hf
    exact hf.2
/-- behind the sort -/
def SortRes (a : Option Addr) (D : List (Int × Int)) (w' : World) : Prop := ∃ E, E.Perm D ∧ Asc E ∧ Rngs w' a E
set_option maxRecDepth 100000 in
theorem SortEnds_any (w0 : World) (v : Value) (n : Nat) (D : List (Int × Int)) (w : World) (hx : Ext w0 w) (h : w.ownsRow w0.heap.size 95 2 v n (fl D)) (hn : n ≤ 1048576) :
    Calls Try.prog 52 #[v, .func (.func 53) #[] #[]] w fun e w' => e = .returned (.tuple #[]) ∧ Ext w0 w' ∧ ∃ a c, v = .slice a n c ∧ SortRes a D w' := by
  have hl := (own_rngs h).1
  rcases h.2 with ⟨rfl, rfl⟩ | ⟨g, cap, cur, rfl, hg, hh, r⟩
  · have hD : D = [] := List.length_eq_zero_iff.1 hl
    subst hD
    have hcon := AnyF.slices_SortFunc_none (P := Try.prog) (ρ := Try.sortEnd_ren) Try.sortEnd none 0 (.func (.func 53) #[] #[]) w
    refine hcon.mono ?_
    rintro e w' ⟨rfl, rfl⟩
    exact ⟨rfl, hx, none, 0, rfl, [], List.Perm.refl _, fun i j r s _ h1 => by simp at h1, Rngs.nil⟩
  · have hH := holds_own h
    have hb : g < w.heap.size := (Array.getElem?_eq_some_iff.1 hh).1
    have eg : ∀ args w, (callFunc 53 args).run Try.prog w = .ok (.enter 53 args) w := enters_of Try.func53 (by kernel_rfl) rfl
    have hcon := AnyQ.slices_SortFunc (P := Try.prog) (ρ := Try.sortEnd_ren) Try.sortEnd 2 Try.isAgg95 Try.sizeOf95 encE (fun _ => rfl) (fun x v hv => by simp [encE] at hv; rcases hv with rfl | rfl <;> rfl) (fun x y => Lib.compareInt x.1 y.1) swoAt 53 #[] g 0 cap D.toArray w eg (cmpLaysE g 0 _ w) hH hb (by simp; omega)
    rw [show D.toArray.size = n by simpa using hl] at hcon
    refine hcon.mono ?_
    rintro e w' ⟨rfl, d', m, os, hp, hs, rfl⟩
    have hds : d'.size = D.length := by simpa using hp.1
    have hHr : HoldsK encE 2 (sortWorldK encE 2 w g 0 m d' os) g 0 d' := by
      unfold sortWorldK
      refine holdsK_grow _ _ _ _ _ _ _ (by simpa [putRowK, Sort.ahead] using hb) ?_
      exact holdsK_putRowK _ _ _ _ _ D.toArray d' (holdsK_ahead _ _ _ _ _ _ _ hH) (by simpa using hds)
    have hwro : Wro (· = g) w (sortWorldK encE 2 w g 0 m d' os) := by
      refine ⟨rfl, rfl, rfl, by simp [sortWorldK, putRowK, Sort.ahead], fun k hk hne => ?_⟩
      unfold sortWorldK putRowK
      rw [heap_grow_old _ _ (by simpa [Sort.ahead] using hk)]
      have : g ≠ k := fun e => hne e.symm
      simp [putRow, mapBlock, Sort.ahead, Array.getElem?_modify, this]
    refine ⟨rfl, Wro.after hx hwro (fun i hi => by rw [hi]; exact hg), _, _, rfl, d'.toList, ?_, ?_, ?_⟩
    · have h3 := hp.2.2
      rw [← hl] at h3
      have e1 : d'.extract 0 D.length = d' := by rw [← hds]; exact Array.extract_size
      have e2 : D.toArray.extract 0 D.length = D.toArray := by
        have : D.toArray.size = D.length := by simp
        rw [← this]; exact Array.extract_size
      rw [e1, e2] at h3
      simpa using h3
    · intro i j r s hij hi hj
      have hj' := lt_of_get hj
      have hi' := lt_of_get hi
      simp only [Array.length_toList] at hj' hi'
      have := hs i j (Nat.zero_le _) hij (by omega)
      rw [ltAt, getElem!_pos d' i hi', getElem!_pos d' j hj'] at this
      rw [Array.getElem?_toList, Array.getElem?_eq_getElem hi'] at hi
      rw [Array.getElem?_toList, Array.getElem?_eq_getElem hj'] at hj
      cases hi
      cases hj
      simp at this
      exact this
    · intro i x y hi
      have hi' := lt_of_get hi
      simp only [Array.length_toList] at hi'
      rw [Array.getElem?_toList, Array.getElem?_eq_getElem hi'] at hi
      have hxy := Option.some.inj hi
      have c0 := (hHr.cell (i := i) (c := 0) hi' (by omega)).1
      have c1 := (hHr.cell (i := i) (c := 1) hi' (by omega)).1
      rw [getElem!_pos d' i hi'] at c0 c1
      exact ⟨g, 0, rfl, by simpa [encE, hxy] using c0, by simpa [encE, hxy] using c1⟩
end Go.Proofs.Ytfekiccjcfdmkab
