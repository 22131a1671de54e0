/-
  A range over a function whose rounds are handed slices: the law with what each round may know of the memory in which its slice lies.
-/
import Derived.RangeFuncNested
import Derived.RangeFuncBound
import Derived.RangeFuncCalls
import Derived.RangeFuncLeaves
import Derived.Shelf.Abstract
import Derived.Shelf.RegionOpen
import Derived.WalkKit
import Derived.OwnWalkIn
import Derived.TacticsInMore
import Derived.LoopNIn
import Derived.LoopIn
import Derived.Test.YthgbfakmkdifbaaMm
namespace Go.Proofs.Ythgbfakmkdifbaa
open Go.RowKit Go.Shelf Go.Deep
/-- all cells stay as they were -/
structure Kc (W W' : World) : Prop where
  os : W'.os = W.os
  tape : W'.tape = W.tape
  output : W'.output = W.output
  size : W.heap.size ≤ W'.heap.size
  block : ∀ (k : Nat) (o : Obj), W.heap[k]? = some o → o.isCells = true → W'.heap[k]? = some o
theorem Kc.refl (W : World) : Kc W W := ⟨rfl, rfl, rfl, Nat.le_refl _, fun _ _ h _ => h⟩
theorem Kc.trans {A B C : World} (h : Kc A B) (k : Kc B C) : Kc A C := ⟨k.os.trans h.os, k.tape.trans h.tape, k.output.trans h.output, Nat.le_trans h.size k.size, fun i o hi ho => k.block i o (h.block i o hi ho) ho⟩
theorem Kc.ext {A B : World} (h : Ext A B) : Kc A B := ⟨h.below.os, h.below.tape, h.below.output, h.below.size, fun k _ hk _ => (h.below.block k (Array.getElem?_eq_some_iff.1 hk).1).trans hk⟩
theorem Kc.put {A B : World} (h : Kc A B) {l : Nat} {o o' : Obj} (hl : B.heap[l]? = some o) (hc : o.isCells = false) : Kc A (B.putObj l o') :=
  h.trans ⟨rfl, rfl, rfl, by simp [World.putObj], fun k p hk hp => by
    have hne : k ≠ l := fun e => by
      subst e
      rw [hl] at hk
      cases hk
      rw [hc] at hp
      cases hp
    exact (World.putObj_heap_other hne).trans hk⟩
theorem Kc.keeps {W W' : World} (h : Kc W W') {p : Addr} {v : Value} (hv : W.cell? p = some v) : W'.cell? p = some v := by
  have hb : ∃ o, W.heap[p.block]? = some o ∧ o.isCells = true := by
    unfold World.cell? at hv
    split at hv
    · next c t f hh => exact ⟨_, hh, rfl⟩
    · cases hv
  obtain ⟨o, h1, h2⟩ := hb
  exact (World.cell?_of_block ((h.block _ o h1 h2).trans h1.symm)).trans hv
theorem Kc.ints {W W' : World} (h : Kc W W') {a : Option Addr} {n : Nat} {f : Nat → Int} (hi : Ints W a n f) : Ints W' a n f := fun i hl => by
  obtain ⟨b, o, h1, h2⟩ := hi i hl
  exact ⟨b, o, h1, h.keeps h2⟩
/-- all cells stay, and whatever lies below n₀ -/
def Kb (n₀ : Nat) (A B : World) : Prop := Kc A B ∧ Below n₀ A B
theorem Kb.ext {n₀ : Nat} {A B : World} (h : Ext A B) (hn : n₀ ≤ A.heap.size) : Kb n₀ A B := ⟨Kc.ext h, h.below.mono hn⟩
theorem Kb.trans {n₀ : Nat} {A B C : World} (h : Kb n₀ A B) (k : Kb n₀ B C) : Kb n₀ A C := ⟨h.1.trans k.1, h.2.trans k.2⟩
theorem Kb.put {n₀ : Nat} {A : World} {l : Nat} {o : Obj} (o' : Obj) (hl : A.heap[l]? = some o) (hc : o.isCells = false) (hn : n₀ ≤ l) : Kb n₀ A (A.putObj l o') := by
  refine ⟨(Kc.refl A).put hl hc, ⟨rfl, rfl, rfl, by simp [World.putObj], fun k hk => World.putObj_heap_other (by omega)⟩⟩
/-- how a round may be left -/
def rgPost {β : Type} (I : β → World → Prop) (Ix : World → Prop) (s' : β) (W : World) : Exit → Act → World → Prop
  | .normal, _, W' => Ext W W' ∧ I s' W'
  | .ret, _, W' => KeepsOthers W W' ∧ Ix W'
  | _, _, _ => False
/-- the iterator's word -/
def RgSeq {β : Type} (F : Fence) (n : Nat) (P : Program) (gf : Nat) (lb : Array Value) (Px : β → β → Value → World → Prop) (s0 all : β) (w : World) : Prop :=
  ∀ (l : Nat) (J : β → World → Prop) (Jx : World → Prop) (W : World), Kc w W → (∀ s A B, J s A → Ext A B → J s B) →
    (∀ s s' v W1, J s W1 → Px s s' v W1 → YieldAt F (n - 1) P l #[v] W1 fun e W' => (e = .returned (.bool true) ∧ J s' W' ∧ Kc W1 W') ∨ (e = .returned (.bool false) ∧ Jx W')) →
    J s0 W → CallsIn F n P gf (#[.func (.yield l) #[] #[]] ++ lb) W fun e W' => (∃ v, e = .returned v) ∧ (J all W' ∨ Jx W')
section
variable {F : Fence} {n : Nat} {P : Program} {w : World}
theorem wp_range_given {β : Type} {g : Operand} {ps : Array Tmp} {assign body : Code} {Q : Exit → Act → World → Prop} {a : Act} (hro : F.round = none) (h1 : 1 ≤ n) {gf : Nat} {lb : Array Value}
    (hg : a.eval g = .func (.func gf) #[] lb) (hFg : F.fn gf) (eg : Enters P gf) (hps : ps.size = 1)
    (I : β → World → Prop) (Ix : World → Prop) (Px : β → β → Value → World → Prop) (s0 all : β) (hseq : RgSeq F (n - 1) P gf lb Px s0 all w)
    (hI : ∀ s A B, I s A → Kb w.heap.size A B → I s B) (hIx : ∀ A B, Ix A → Kb w.heap.size A B → Ix B) (hPx : ∀ s s' v A B, Px s s' v A → Kc A B → Px s s' v B) (h0 : I s0 w) (a₁ : Array Value → Value → Act)
    (hassign : ∀ (l : Nat) (s s' : β) (v : Value) (W : World) (K : Act → World → Prop), I s W → Px s s' v W → K (a₁ a.tmps v) W → assign.wpIn (F.inRound l) (n - 1 - 1) P (Exit.then K (fun _ _ _ => False)) { tmps := (ps.zip #[v]).foldl (fun t (p, v) => t.setIfInBounds p v) a.tmps, defers := [] } W)
    (hbody : ∀ (l : Nat) (s s' : β) (v : Value) (W : World), I s W → Px s s' v W → body.wpIn (F.inRound l) (n - 1 - 1) P (rgPost I Ix s' W) (a₁ a.tmps v) W)
    (hdone : ∀ (D : Nat) (W : World), w.heap.size ≤ D → I all W → W.heap[D]? = some (.deferred (some [])) → Q .normal { a with defers := { target := .collected D, args := #[] } :: a.defers } W)
    (hstop : ∀ (D : Nat) (W : World), w.heap.size ≤ D → Ix W → W.heap[D]? = some (.deferred (some [])) → Code.ret.wpIn F n P Q { a with defers := { target := .collected D, args := #[] } :: a.defers } W) :
    (Code.rangeFunc g ps assign body).wpIn F n P Q a w := by
  refine wpIn_rangeFunc fun fn hfn => ?_
  rw [hro]
  -- the loop's record in its states
  let rc : LoopState → Option Code → Loop := fun st pe => { state := st, pending := pe, fn, tmps := a.tmps, params := ps, assign, body, defers := w.heap.size }
  have hx1 : Ext w ((w.alloc (.deferred (some []))).alloc (.loop (rc .ready none))) := ⟨((Below.refl _ w).alloc (Nat.le_refl _) _).alloc (by simp) _⟩
  have hL : ((w.alloc (.deferred (some []))).alloc (.loop (rc .ready none))).heap[w.heap.size + 1]? = some (.loop (rc .ready none)) := by
    have := World.alloc_heap_new (w.alloc (.deferred (some []))) (.loop (rc .ready none))
    rwa [World.size_alloc] at this
  have hD : ((w.alloc (.deferred (some []))).alloc (.loop (rc .ready none))).heap[w.heap.size]? = some (.deferred (some [])) := (Below.heap_alloc _ _ _ (by simp)).trans (World.alloc_heap_new w _)
  have hEL := run_enterLoop_outer (P := P) (w := w) fn a.tmps ps assign body
  refine ⟨w.heap.size + 1, [{ target := .collected w.heap.size, args := #[] }], (w.alloc (.deferred (some []))).alloc (.loop (rc .ready none)), { target := .fn (.func gf) lb, args := #[.func (.yield (w.heap.size + 1)) #[] #[]] }, (w.alloc (.deferred (some []))).alloc (.loop (rc .ready none)), gf, #[.func (.yield (w.heap.size + 1)) #[] #[]] ++ lb, (w.alloc (.deferred (some []))).alloc (.loop (rc .ready none)), hEL, ?_, ?_, ?_, fun _ => h1, ?_⟩
  · simp only [resolve, hg]
    simp [go_sem]
  · intro f' hf'
    simp [Target.leads] at hf'
    subst hf'
    exact hFg
  · simp [invoke, go_sem, eg _ _]
  · refine (hseq (w.heap.size + 1)
      (fun s W => I s W ∧ W.heap[w.heap.size + 1]? = some (.loop (rc .ready none)) ∧ W.heap[w.heap.size]? = some (.deferred (some [])))
      (fun W => Ix W ∧ W.heap[w.heap.size + 1]? = some (.loop (rc .done (some .ret))) ∧ W.heap[w.heap.size]? = some (.deferred (some [])))
      _ (Kc.ext hx1) (fun s A B hJ x => ?_) (fun s s' v W1 hJ hp => ?_) ⟨hI _ _ _ h0 (Kb.ext hx1 (Nat.le_refl _)), hL, hD⟩).mono ?_
    · exact ⟨hI _ _ _ hJ.1 (Kb.ext x (Nat.le_of_lt (Array.getElem?_eq_some_iff.1 hJ.2.2).1)), (x.below.block _ (Array.getElem?_eq_some_iff.1 hJ.2.1).1).trans hJ.2.1, (x.below.block _ (Array.getElem?_eq_some_iff.1 hJ.2.2).1).trans hJ.2.2⟩
    · -- a round
      obtain ⟨hi, hl, hd⟩ := hJ
      have hy := run_yield (P := P) (args := #[v]) hl (show (#[v] : Array Value).size = ps.size by rw [hps]; rfl)
      refine ⟨fn, _, assign, body, hy, roundIn_of_wpIn hfn (hassign _ s s' v W1 _ hi hp ⟨_, run_beginRound hl rfl, ?_⟩)⟩
      have hlt := (Array.getElem?_eq_some_iff.1 hl).1
      have hk2 : Kc W1 (W1.putObj (w.heap.size + 1) (.loop { rc .ready none with state := .busy })) := (Kc.refl W1).put hl rfl
      have hl2 : (W1.putObj (w.heap.size + 1) (.loop { rc .ready none with state := .busy })).heap[w.heap.size + 1]? = some (.loop { rc .ready none with state := .busy }) := World.putObj_heap_same hlt
      have hd2 : (W1.putObj (w.heap.size + 1) (.loop { rc .ready none with state := .busy })).heap[w.heap.size]? = some (.deferred (some [])) := (World.putObj_heap_other (by omega)).trans hd
      refine wpIn_mono (hbody _ s s' v _ (hI _ _ _ hi (Kb.put _ hl rfl (by omega))) (hPx _ _ _ _ _ hp hk2)) fun e a3 W3 hq => ?_
      cases e with
      | normal =>
        obtain ⟨hx3, hi3⟩ := hq
        have hl3 := (hx3.below.block _ (Array.getElem?_eq_some_iff.1 hl2).1).trans hl2
        have hd3 := (hx3.below.block _ (Array.getElem?_eq_some_iff.1 hd2).1).trans hd2
        have hr := run_endRound (P := P) none hl3
        exact ⟨_, _, hr, .inl ⟨rfl, ⟨hI _ _ _ hi3 (Kb.put _ hl3 rfl (by omega)), World.putObj_heap_same (Array.getElem?_eq_some_iff.1 hl3).1, (World.putObj_heap_other (by omega)).trans hd3⟩, (hk2.trans (Kc.ext hx3)).put hl3 rfl⟩⟩
      | ret =>
        obtain ⟨hk3, hi3⟩ := hq
        have hl3 := hk3.same _ _ hl2 rfl
        have hd3 := hk3.same _ _ hd2 rfl
        have hr := run_endRound (P := P) (some .ret) hl3
        exact ⟨_, _, hr, .inr ⟨rfl, hIx _ _ hi3 (Kb.put _ hl3 rfl (by omega)), World.putObj_heap_same (Array.getElem?_eq_some_iff.1 hl3).1, (World.putObj_heap_other (by omega)).trans hd3⟩⟩
      | exit id => exact hq.elim
      | goto t => exact hq.elim
      | panic ch => exact hq.elim
      | outgrown => exact hq.elim
    · -- behind the iterator
      rintro e W2 ⟨⟨v, rfl⟩, (⟨hi, hl, hd⟩ | ⟨hi, hl, hd⟩)⟩
      · exact ⟨none, _, run_endLoop (P := P) hl (by simp [rc]), hdone _ _ (Nat.le_refl _) (hI _ _ _ hi (Kb.put _ hl rfl (by omega))) ((World.putObj_heap_other (by omega)).trans hd)⟩
      · exact ⟨some .ret, _, run_endLoop (P := P) hl (by simp [rc]), hstop _ _ (Nat.le_refl _) (hIx _ _ hi (Kb.put _ hl rfl (by omega))) ((World.putObj_heap_other (by omega)).trans hd)⟩
end
end Go.Proofs.Ythgbfakmkdifbaa
