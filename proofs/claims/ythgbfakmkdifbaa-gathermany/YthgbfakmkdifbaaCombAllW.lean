/-
  comb.All: its inner walk adds the picks that begin with the numbers laid so far, in order; all picks, in new memory.
-/
import Derived.Test.YthgbfakmkdifbaaChecked
import Derived.WalkKit
import Derived.OneCell
import Derived.Deep.RegionLaw
import Derived.Deep.AppendLies
import Derived.Test.YthgbfakmkdifbaaApps
import Derived.Test.YthgbfakmkdifbaaClone
import Derived.Test.YthgbfakmkdifbaaCombAt
namespace Go.Proofs.Ythgbfakmkdifbaa
open Go.RowKit Go.Deep E
/-- the numbers laid, as values -/
def gV (g : Nat → Nat) (i : Nat) : Value := nV (g i)
def capt (bk bp bq bn bw : Nat) : Array Value := #[.pointer (some ⟨bk, 0, none⟩), .pointer (some ⟨bp, 0, none⟩), .pointer (some ⟨bq, 0, none⟩), .pointer (some ⟨bn, 0, none⟩), .pointer (some ⟨bw, 0, none⟩)]
/-- where the variables lie -/
structure Lay (w0 : World) (B bk bp bq bn bw Q : Nat) : Prop where
  ck : w0.heap.size ≤ bk ∧ bk < B
  cp : w0.heap.size ≤ bp ∧ bp < B
  cq : w0.heap.size ≤ bq ∧ bq < B
  cn : w0.heap.size ≤ bn ∧ bn < B
  cw : w0.heap.size ≤ bw ∧ bw < B
  cQ : w0.heap.size ≤ Q ∧ Q < B
  ckQ : bk ≠ Q
  cnQ : bn ≠ Q
/-- what they hold: the picks so far are L, the numbers laid are g -/
structure AllSt (w0 : World) (B bk bp bq bn bw Q K N : Nat) (w : World) (g : Nat → Nat) (v : Value) (vs : List Value) (L : List (List Nat)) : Prop where
  cext : Ext w0 w
  csize : B ≤ w.heap.size
  ck : w.heap[bk]? = some (.cells #[.int .i64 K] 3 (0, 0))
  cn : w.heap[bn]? = some (.cells #[.int .i64 N] 3 (0, 0))
  cq : w.heap[bq]? = some (.cells #[.slice (some ⟨Q, 0, none⟩) K K] 30 (0, 0))
  cw : w.heap[bw]? = some (.cells #[.func (.func 66) #[] (capt bk bp bq bn bw)] 93 (0, 0))
  crow : w.rowIs Q 3 K (gV g)
  cp : w.heap[bp]? = some (.cells #[v] 79 (0, 0))
  ctop : w.ownsRow w0.heap.size 30 1 v L.length vs
  cne : v.ownBlock ≠ some bq
  crows : rowsOk w B vs L
theorem block_ne {w : World} {b b' : Nat} {c c' : Array Value} {t t' : TypeId} {z z' : Nat × Nat} (h : w.heap[b]? = some (.cells c t z)) (h' : w.heap[b']? = some (.cells c' t' z')) (hne : t ≠ t') : b ≠ b' := fun e => by
  subst e
  rw [h] at h'
  cases h'
  exact hne rfl
theorem row_block {w : World} {b n : Nat} {t : TypeId} {f : Nat → Value} (h : w.rowIs b t n f) : ∃ c, w.heap[b]? = some (.cells c t (0, 0)) := by
  obtain ⟨c, h1, _⟩ := h
  exact ⟨c, h1⟩
section
variable {w0 w w' : World} {B bk bp bq bn bw Q K N : Nat} {g : Nat → Nat} {v : Value} {vs : List Value} {L : List (List Nat)}
theorem AllSt.grow (h : AllSt w0 B bk bp bq bn bw Q K N w g v vs L) (x : Ext w w') : AllSt w0 B bk bp bq bn bw Q K N w' g v vs L :=
  ⟨h.cext.trans x, Nat.le_trans h.csize x.size, (x.below.block _ (lt_of_block h.ck)).trans h.ck, (x.below.block _ (lt_of_block h.cn)).trans h.cn, (x.below.block _ (lt_of_block h.cq)).trans h.cq, (x.below.block _ (lt_of_block h.cw)).trans h.cw, x.rowIs h.crow, (x.below.block _ (lt_of_block h.cp)).trans h.cp, own_ext h.ctop x, h.cne, h.crows.ext x⟩
/-- a number is laid -/
theorem AllSt.lay (h : AllSt w0 B bk bp bq bn bw Q K N w g v vs L) (l : Lay w0 B bk bp bq bn bw Q) (i a : Nat) : AllSt w0 B bk bp bq bn bw Q K N (w.setCell ⟨Q, i, none⟩ (nV a)) (fun x => if x = i then a else g x) v vs L := by
  obtain ⟨cq, hcq⟩ := row_block h.crow
  have o : ∀ {b : Nat} {y}, b ≠ Q → w.heap[b]? = some y → (w.setCell ⟨Q, i, none⟩ (nV a)).heap[b]? = some y := fun hb hy => (Below.heap_setCell w ⟨Q, i, none⟩ _ _ hb).trans hy
  refine ⟨h.cext.setCell (p := ⟨Q, i, none⟩) l.cQ.1 _, by rw [show (w.setCell ⟨Q, i, none⟩ (nV a)).heap.size = w.heap.size by simp [World.setCell]]; exact h.csize, o l.ckQ h.ck, o l.cnQ h.cn, o (block_ne h.cq hcq (by decide)) h.cq, o (block_ne h.cw hcq (by decide)) h.cw, (h.crow.set i (nV a)).congr fun x _ => ?_, o (block_ne h.cp hcq (by decide)) h.cp, ?_, h.cne, ?_⟩
  · by_cases e : x = i
    · rw [if_pos e]; show nV a = nV (if x = i then a else g x); rw [if_pos e]
    · rw [if_neg e]; show nV (g x) = nV (if x = i then a else g x); rw [if_neg e]
  · refine ownsRow_setCell_other h.ctop (fun e => ?_) _
    obtain ⟨c, hc⟩ := own_block h.ctop e
    exact block_ne hc hcq (by decide) rfl
  · refine ⟨h.crows.1, fun x u p h1 h2 => ownsRow_setCell_other (h.crows.2 x u p h1 h2) (fun e => ?_) _⟩
    have : B ≤ Q := (own_ge (h.crows.2 x u p h1 h2) e).1
    have := l.cQ.2
    omega
/-- a row more -/
theorem AllSt.add {w1 : World} {u : Value} {pk : List Nat} {v' : Value} (h : AllSt w0 B bk bp bq bn bw Q K N w g v vs L) (l : Lay w0 B bk bp bq bn bw Q) (hu : w.ownsRow B 3 1 u pk.length (pk.map nV)) (hown : w1.ownsRow w0.heap.size 30 1 v' (L.length + 1) (vs ++ [u])) (hg : (w.alloc (.cells #[u] 30)).grownBy w1 v.ownBlock) (hat : v'.ownBlock = v.ownBlock ∨ ∀ b, v'.ownBlock = some b → w.heap.size ≤ b) :
    AllSt w0 B bk bp bq bn bw Q K N (w1.setCell ⟨bp, 0, none⟩ v') g v' (vs ++ [u]) (L ++ [pk]) ∧ w1.heap[bp]? = some (.cells #[v] 79 (0, 0)) := by
  have h1 := h.grow ((Ext.refl w).alloc #[u] 30)
  have keep : ∀ {b : Nat} {y}, v.ownBlock ≠ some b → (w.alloc (.cells #[u] 30)).heap[b]? = some y → w1.heap[b]? = some y := fun hb hy => (hg.block _ (lt_of_block hy) (fun e => hb e.symm)).trans hy
  have nb : ∀ {b : Nat} {c : Array Value} {t : TypeId} {z : Nat × Nat}, (w.alloc (.cells #[u] 30)).heap[b]? = some (.cells c t z) → t ≠ 30 → v.ownBlock ≠ some b := fun hb hne e => by
    obtain ⟨c, hc⟩ := own_block h1.ctop e
    exact block_ne hb hc hne rfl
  have kp := keep (nb h1.cp (by decide)) h1.cp
  obtain ⟨cq, hcq⟩ := row_block h1.crow
  have krow : w1.rowIs Q 3 K (gV g) := h1.crow.of_block ((hg.block _ (lt_of_block hcq) (fun e => nb hcq (by decide) e.symm)))
  have kk := keep (nb h1.ck (by decide)) h1.ck
  have kn := keep (nb h1.cn (by decide)) h1.cn
  have kw := keep (nb h1.cw (by decide)) h1.cw
  have kq := keep h1.cne h1.cq
  obtain ⟨cq1, hcq1⟩ := row_block krow
  have o : ∀ {b : Nat} {y}, b ≠ bp → w1.heap[b]? = some y → (w1.setCell ⟨bp, 0, none⟩ v').heap[b]? = some y := fun hb hy => (Below.heap_setCell w1 ⟨bp, 0, none⟩ _ _ hb).trans hy
  have hx1 : Ext w0 w1 := h1.cext.grow hg fun b hb => (own_ge h1.ctop hb).1
  have hsz : (w.alloc (.cells #[u] 30)).heap.size ≤ w1.heap.size := hg.size
  refine ⟨⟨hx1.setCell (p := ⟨bp, 0, none⟩) l.cp.1 _, ?_, o (block_ne kk kp (by decide)) kk, o (block_ne kn kp (by decide)) kn, o (block_ne kq kp (by decide)) kq, o (block_ne kw kp (by decide)) kw, krow.of_block (Below.heap_setCell w1 ⟨bp, 0, none⟩ _ _ (block_ne hcq1 kp (by decide))), one_setCell kp, ?_, ?_, ?_⟩, kp⟩
  · rw [show (w1.setCell ⟨bp, 0, none⟩ v').heap.size = w1.heap.size by simp [World.setCell]]
    exact Nat.le_trans h1.csize hsz
  · rw [List.length_append]
    refine ownsRow_setCell_other hown (fun e => ?_) _
    obtain ⟨c, hc⟩ := own_block hown e
    exact block_ne hc kp (by decide) rfl
  · rcases hat with hat | hat
    · rw [hat]; exact h.cne
    · intro e
      have := hat _ e
      have := lt_of_block h.cq
      omega
  · have hr := (h.crows.append (rowsOk.one hu)).ext ((Ext.refl w).alloc #[u] 30)
    have hr1 := hr.kept h1.ctop hg
    refine ⟨hr1.1, fun x y p h3 h4 => ownsRow_setCell_other (hr1.2 x y p h3 h4) (fun e => ?_) _⟩
    have : B ≤ bp := (own_ge (hr1.2 x y p h3 h4) e).1
    have := l.cp.2
    omega
end
def WalkRes (w0 : World) (B bk bp bq bn bw Q K N : Nat) (g : Nat → Nat) (place : Nat) (L : List (List Nat)) (w' : World) : Prop := ∃ g' v vs, (∀ x, x < place → g' x = g x) ∧ AllSt w0 B bk bp bq bn bw Q K N w' g' v vs L
theorem range_gV (g : Nat → Nat) (K : Nat) : (List.range K).map (iV fun i => (g i : Int)) = ((List.range K).map g).map nV := by simp [iV, nV]
theorem row_ints {w : World} {Q K : Nat} {g : Nat → Nat} (h : w.rowIs Q 3 K (gV g)) : Ints w (some ⟨Q, 0, none⟩) K (fun i => (g i : Int)) := fun i hi => ⟨Q, 0, rfl, by rw [Nat.zero_add, h.cell hi]; rfl⟩
end Go.Proofs.Ythgbfakmkdifbaa
