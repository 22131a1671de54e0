/-
  A slice of rows that is made by append, row by row.
-/
import Derived.Test.YthgbfakmkdifbaaChecked
import Derived.WalkKit
import Derived.Test.YthgbfakmkdifbaaMk
import Derived.Test.YthgbfakmkdifbaaMm
import Derived.Test.YthgbfakmkdifbaaAlg
import Derived.OpenShut
import Derived.Test.YthgbfakmkdifbaaGfs
import Derived.BigQuiet
import Derived.Test.YthgbfakmkdifbaaQuiets
import Derived.Test.YthgbfakmkdifbaaMatRow
namespace Go.Proofs.Ythgbfakmkdifbaa
open Go.RowKit Go.Deep E
theorem wrap64_bd (x : Int) : -9223372036854775808 ≤ wrap64 x ∧ wrap64 x ≤ 9223372036854775807 := by unfold wrap64; omega
/-- one element more -/
theorem row_next {w0 w4 w5 : World} {v v' : Value} {k : Nat} {r : Nat → E} {x : E} {o : Obj} {t : TypeId} (hx : Ext w0 w4) (h : w4.ownsRow w0.heap.size t 1 v k ((List.range k).map fun x => .int .i64 (ev (r x))))
    (h' : w5.ownsRow w0.heap.size t 1 v' (k + 1) (((List.range k).map fun x => Value.int .i64 (ev (r x))) ++ [.int .i64 (ev x)])) (hg : (w4.alloc o).grownBy w5 v.ownBlock) :
    Ext w0 w5 ∧ ∃ r : Nat → E, w5.ownsRow w0.heap.size t 1 v' (k + 1) ((List.range (k + 1)).map fun x => .int .i64 (ev (r x))) := by
  refine ⟨⟨(hx.below.alloc hx.below.size o).grown hg (by have := hx.size; simp; omega) (fun k hk => (h.lt k hk).1)⟩, fun i => if i < k then r i else x, ?_⟩
  rw [List.range_succ, List.map_append]
  have e : (List.range k).map (fun y => Value.int .i64 (ev (if y < k then r y else x))) = (List.range k).map fun y => .int .i64 (ev (r y)) := List.map_congr_left fun y hy => by rw [if_pos (List.mem_range.1 hy)]
  rw [e]
  simpa using h'
def slA : Value → Option Addr
  | .slice a _ _ => a
  | _ => none
def slC : Value → Nat
  | .slice _ _ c => c
  | _ => 0
/-- a slice of i rows that was made by append, each of m elements -/
structure MOf (w wr : World) (v : Value) (i m : Nat) (V : Nat → Value) (M : Nat → Nat → E) : Prop where
  ext : Ext w wr
  top : wr.ownsRow w.heap.size 30 1 v i ((List.range i).map V)
  row : ∀ s, s < i → wr.ownsRow w.heap.size 3 1 (V s) m ((List.range m).map fun x => .int .i64 (ev (M s x)))
theorem MOf.ext' {w wr w' : World} {v : Value} {i m : Nat} {V : Nat → Value} {M : Nat → Nat → E} (h : MOf w wr v i m V M) (e : Ext wr w') : MOf w w' v i m V M := ⟨h.ext.trans e, own_ext h.top e, fun s hs => own_ext (h.row s hs) e⟩
theorem MOf.next {w wi w5 : World} {v v' u : Value} {i m : Nat} {V : Nat → Value} {M : Nat → Nat → E} {r : Nat → E} {o : Array Value} {t : TypeId} (h : MOf w wi v i m V M) (hr : wi.ownsRow w.heap.size 3 1 u m ((List.range m).map fun x => .int .i64 (ev (r x))))
    (h' : w5.ownsRow w.heap.size 30 1 v' (i + 1) ((List.range i).map V ++ [u])) (hg : (wi.alloc (.cells o t)).grownBy w5 v.ownBlock) :
    ∃ V, MOf w w5 v' (i + 1) m V (fun s => if s < i then M s else r) := by
  have hx : Ext wi (wi.alloc (.cells o t)) := (Ext.refl wi).alloc _ _
  refine ⟨fun s => if s < i then V s else u, (h.ext.trans hx).grow hg (fun k hk => (h.top.lt k hk).1), ?_, fun s hs => ?_⟩
  · rw [List.range_succ, List.map_append]
    have e : (List.range i).map (fun s => if s < i then V s else u) = (List.range i).map V := List.map_congr_left fun y hy => by rw [if_pos (List.mem_range.1 hy)]
    rw [e]
    simpa using h'
  · have ht := own_ext h.top hx
    by_cases e : s < i
    · have h1 := own_ext (h.row s e) hx
      have h2 := h1.kept hg (own_apart h1 ht (by decide))
      simpa [e] using h2
    · have h1 := own_ext hr hx
      have h2 := h1.kept hg (own_apart h1 ht (by decide))
      simpa [e] using h2
theorem MOf.congr {w wr : World} {v : Value} {i m : Nat} {V : Nat → Value} {M M' : Nat → Nat → E} (h : MOf w wr v i m V M) (e : ∀ s, s < i → M s = M' s) : MOf w wr v i m V M' := ⟨h.ext, h.top, fun s hs => by rw [← e s hs]; exact h.row s hs⟩
theorem MOf.mat {w wr : World} {v : Value} {n m : Nat} {V : Nat → Value} {M : Nat → Nat → E} (h : MOf w wr v n m V M) : ∃ a c A C, v = .slice a n c ∧ Mat wr a n A (fun _ => m) C (fun r i => ev (M r i)) := by
  obtain ⟨a, c, rfl, hc⟩ := own_slice h.top
  refine ⟨a, c, fun s => slA (V s), fun s => slC (V s), rfl, fun r hr => ?_⟩
  obtain ⟨b, o, ha, hb⟩ := hc r hr
  obtain ⟨a', c', hV, hc'⟩ := own_slice (h.row r hr)
  refine ⟨⟨b, o, ha, ?_⟩, fun i hi => ?_⟩
  · rw [hb]
    simp [hr, hV, slA, slC]
  · obtain ⟨b', o', ha', hb'⟩ := hc' i hi
    refine ⟨b', o', by show slA (V r) = _; rw [hV]; exact ha', ?_⟩
    rw [hb']
    simp [hi]
/-- a matrix of n rows of m elements is told -/
def MatVal (w : World) (e : Ending) (n m : Nat) (M : Nat → Nat → E) : Prop := ∃ a c A C, e = .returned (.slice a n c) ∧ Mat w a n A (fun _ => m) C (fun r i => ev (M r i))
end Go.Proofs.Ythgbfakmkdifbaa
/-
  quicksetkeep.Picked at the arguments that it is called with; the memory stays as it was.
-/
namespace Go.Proofs.Ythgbfakmkdifbaa
open Go.RowKit
theorem tmod_emod (a n : Int) (hn : 0 < n) : (a.tmod n < 0 → a.tmod n + n = a % n) ∧ (¬ a.tmod n < 0 → a.tmod n = a % n) ∧ -n < a.tmod n ∧ a.tmod n < n := by
  rw [Int.tmod_eq_emod]
  have h1 := Int.emod_nonneg a (show n ≠ 0 by omega)
  have h2 := Int.emod_lt_of_pos a hn
  split
  · omega
  · rename_i h
    have h3 : a % n ≠ 0 := fun e => h (Or.inr (Int.dvd_of_emod_eq_zero e))
    omega
set_option maxRecDepth 100000 in
theorem Picked_any (a n : Int) (w : World) (h0 : 0 < n) (h1 : n ≤ 1073741824) (ha : -9223372036854775808 ≤ a) (ha2 : a ≤ 9223372036854775807) :
    Calls Try.prog 13 #[.int .i64 a, .int .i64 n] w fun e w' => e = .returned (.int .i64 (a % n)) ∧ w' = w := by
  obtain ⟨t1, t2, t3, t4⟩ := tmod_emod a n h0
  have T1 : Hid (a.tmod n < 0 → a.tmod n + n = a % n) := t1
  have T2 : Hid (¬ a.tmod n < 0 → a.tmod n = a % n) := t2
  clear t1 t2
  have hz : (n == 0) = false := by rw [beq_eq_false_iff_ne]; omega
  have g1 := Int.emod_nonneg a (show n ≠ 0 by omega)
  have g2 := Int.emod_lt_of_pos a h0
  by_cases hp : 0 ≤ a
  · go_enter Try.func13, Try.ntmps13
    go_wp2
    go_ret
    exact ⟨rfl, rfl⟩
  · by_cases ht : a.tmod n < 0
    · go_enter Try.func13, Try.ntmps13
      go_wp2
      go_ret
      exact ⟨ret_int (T1.out ht), rfl⟩
    · go_enter Try.func13, Try.ntmps13
      go_wp2
      go_ret
      exact ⟨ret_int (T2.out ht), rfl⟩
theorem Picked_nat (a n : Int) (x : Nat) (w : World) (h0 : 0 < n) (h1 : n ≤ 1073741824) (hw : (Lit.int .i64 a).wf = true) (hx : a % n = x) :
    Calls Try.prog 13 #[.int .i64 a, .int .i64 n] w fun e w' => e = .returned (.int .i64 x) ∧ w' = w := by
  have hb := bounds_i64 hw
  rw [← hx]
  exact Picked_any a n w h0 h1 hb.1 hb.2
theorem Picked_bd (a n : Int) (x : Nat) (w : World) (h0 : 0 < n) (h1 : n ≤ 1073741824) (hb : -9223372036854775808 ≤ a ∧ a ≤ 9223372036854775807) (hx : a % n = x) :
    Calls Try.prog 13 #[.int .i64 a, .int .i64 n] w fun e w' => e = .returned (.int .i64 x) ∧ w' = w := by
  rw [← hx]
  exact Picked_any a n w h0 h1 hb.1 hb.2
theorem picked_is (a n : Int) (hn : 0 < n) : ∃ x : Nat, a % n = x ∧ (x : Int) < n := by
  have g1 := Int.emod_nonneg a (show n ≠ 0 by omega)
  have g2 := Int.emod_lt_of_pos a hn
  exact ⟨(a % n).toNat, by omega, by omega⟩
end Go.Proofs.Ythgbfakmkdifbaa
/-
  quicksetkeep.side and MatrixOf: a matrix of so many rows and columns, of elements; the world only grows.
-/
namespace Go.Proofs.Ythgbfakmkdifbaa
open Go.RowKit Go.Deep E
end Go.Proofs.Ythgbfakmkdifbaa
/-
  quicksetkeep.One: the matrix with 1 where row and column have the same place; the world only grows.
-/
namespace Go.Proofs.Ythgbfakmkdifbaa
open Go.RowKit Go.Deep E
theorem own_of_row {w : World} {base g : Nat} {t : TypeId} {n : Nat} {f : Nat → Value} (h : w.rowIs g t n f) (hb : base ≤ g) (hn : n ≤ maxLen) : w.ownsRow base t 1 (.slice (some ⟨g, 0, none⟩) n n) n ((List.range n).map f) := by
  obtain ⟨c, hc, hs, hi⟩ := h
  refine ⟨by simp, Or.inr ⟨g, n, c, rfl, hb, hc, Nat.le_refl _, hn, by omega, ?_⟩⟩
  apply List.ext_getElem?
  intro i
  by_cases e : i < n
  · rw [List.getElem?_take_of_lt (by omega), List.getElem?_map, List.getElem?_range e]
    have := hi i e
    simpa using this
  · rw [List.getElem?_eq_none (by simp; omega), List.getElem?_eq_none (by simp; omega)]
theorem one_row (w : World) (n i : Nat) : (w.alloc (.cells ((madeCells #[.int .i64 0] n).setIfInBounds i (.int .i64 1)) 3)).rowIs w.heap.size 3 n (evs (dl i)) := by
  have h := (World.rowIs_made w (.int .i64 0) n 3).set i (.int .i64 1)
  rw [World.setCell_alloc_at _ _ _ _ _ rfl] at h
  refine h.congr fun j _ => ?_
  unfold evs dl
  by_cases e : j = i
  · rw [if_pos e, if_pos e.symm]; rfl
  · rw [if_neg e, if_neg (fun q => e q.symm)]; rfl
theorem append_one_at {P : Program} (w1 : World) (g : Nat) (hg : w1.heap.size = g) {ops : Array Oper} {rest : List Oper} {o : Oper} {a : Act} {Q : Exit → Act → World → Prop} (hgd : o.guard = none) (s x : Operand) (t : TypeId)
    (ho : o.op = .call { callee := .builtin .append, args := #[s, x], argTypes := #[t, t] }) (base : Nat) (e : TypeId) (z : Value) (bytes : Nat) (ht : P.underlying t = some (.slice e))
    (hinfo : (P.info? e).map (fun i => (i.zero, i.size, i.bytes)) = some (some z, 1, bytes)) (hzs : z.cells.size = 1) (v : Value) (n : Nat) (xs : List Value) (hs : a.eval s = v) (hown : w1.ownsRow base e 1 v n xs)
    (u : Value) (c : Nat) (hx : a.eval x = .slice (some ⟨g, 0, none⟩) 1 c) (hu : u.oneCell' = true) (hb : bytes ≤ 64) (hn : n ≤ 1099511627776) (hbase : base ≤ w1.heap.size)
    (h : ∀ v' w', w'.ownsRow base e 1 v' (n + 1) (xs ++ [u]) → (w1.alloc (.cells #[u] e)).grownBy w' v.ownBlock → wpList P ops Q rest (a.put o.dst v') w') : wpList P ops Q (o :: rest) a (w1.alloc (.cells #[u] e)) := by
  subst hg
  exact append_one w1 hgd s x t ho base e z bytes ht hinfo hzs v n xs hs hown u c hx hu hb hn hbase h
end Go.Proofs.Ythgbfakmkdifbaa
