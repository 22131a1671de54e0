/-
  stripe.Gather where its columns fit: what it tells, as plain functions.
-/
import Derived.RangeFuncNested
import Derived.RangeFuncBound
import Derived.RangeFuncCalls
import Derived.RangeFuncLeaves
import Derived.Shelf.Abstract
import Derived.Shelf.RegionOpen
import Derived.WalkKit
import Derived.OwnWalkIn
import Derived.TacticsInMore
import Derived.LoopNIn
import Derived.LoopIn
import Derived.BigQuiet
import Derived.Deep.CutRange
import Derived.Deep.QuietTactic
import Derived.Deep.RegionLaw
import Derived.Test.YthgbfakmkdifbaaChecked
import Derived.Test.YthgbfakmkdifbaaStIter
import Derived.Test.YthgbfakmkdifbaaStWith
import Derived.Test.YthgbfakmkdifbaaStPk
import Derived.Test.YthgbfakmkdifbaaFlets
import Derived.Test.YthgbfakmkdifbaaRegFix3
import Derived.Test.YthgbfakmkdifbaaRegFix4
import Derived.Test.YthgbfakmkdifbaaRegFixIn
namespace Go.Proofs.Ythgbfakmkdifbaa
open Go.RowKit Go.Shelf Go.Deep E
attribute [local go_sem] Oper.semAt_some
theorem picks_seq (n : Nat) (hn : 1 ≤ n) (bm bn N q : Nat) (hN : N ≤ 12) (hq : q ≤ N) (w : World) (hm : w.cell? ⟨bm, 0, none⟩ = some (.int .i64 q)) (hb : w.cell? ⟨bn, 0, none⟩ = some (.int .i64 N)) :
    RgSeq Fence.wide n Try.prog 48 #[.pointer (some ⟨bm, 0, none⟩), .pointer (some ⟨bn, 0, none⟩)] (PkAt (allPk N (q + 1))) 0 (allPk N (q + 1)).length w := fun l J Jx W hk hJ hY h0 =>
  picks1_in n hn l bm bn N q hN hq J Jx hJ hY W (hk.keeps hm) (hk.keeps hb) h0
set_option maxRecDepth 100000 in
theorem stPicks_any (N q : Nat) (w : World) : Calls Try.prog 32 #[.int .i64 N, .int .i64 q] w fun e w' => e = .returned (.func (.func 48) #[] #[.pointer (some ⟨w.heap.size + 1, 0, none⟩), .pointer (some ⟨w.heap.size, 0, none⟩)]) ∧ w' = (w.alloc (.cells #[.int .i64 N] 3)).alloc (.cells #[.int .i64 q] 3) := by
  go_enter Try.func32, Try.ntmps32
  go_wp2_with fail
  go_ret
  exact ⟨by simp, rfl⟩
/-- the data, if these are gone -/
def gatP (d p c : Nat) (T : Nat → Bool) (L : Nat → Nat) (F : Nat → Nat → E) (k : List Nat) : Nat → E := gatD d p c (fun r => decide (r ∈ goneL (colN d p c) T k)) L F
def sumB4 (c : Nat) (s : Nat → Int) (B : Nat → E) : Bool := (List.range 4).all fun i => decide (moreV (128 * c) (fun _ => 0) B i = s i)
/-- the first pick with which the data have the sum -/
def gatF (d p c : Nat) (T : Nat → Bool) (L : Nat → Nat) (F : Nat → Nat → E) (s : Nat → Int) : Option (List Nat) :=
  (allPk (plcs (colN d p c) T false).length (p - (plcs (colN d p c) T true).length + 1)).find? fun k => sumB4 c s (gatP d p c T L F k)
def GatRes (w' : World) (e : Ending) (d p c n : Nat) (T : Nat → Bool) (L : Nat → Nat) (F : Nat → Nat → E) (s : Nat → Int) : Prop :=
  match gatF d p c T L F s with
  | none => e = .returned (.tuple #[.slice none 0 0, .slice none 0 0, .int .i64 11])
  | some k => ∃ ad ab cb, e = .returned (.tuple #[.slice ad n n, .slice ab k.length cb, .int .i64 0]) ∧ Byts w' ad n (gatP d p c T L F k) ∧ Ints w' ab k.length fun i => (((badL (colN d p c) T k).getD i 0 : Nat) : Int)
theorem load_oneS {w : World} {ty : TypeId} {d : TypeDesc} (hu : Try.prog.underlying ty = some d) (hd : d.isRow = false) {ad : Addr} {v : Value} (h : w.cell? ad = some v) : (Instr.loadAt ty (.pointer (some ad))).run Try.prog w = .ok v w := by
  have hagg : (isAgg ty).run Try.prog w = .ok false w := by
    unfold isAgg
    rw [Sem.run_bind, run_underlying hu w]
    cases d <;> simp_all
  simp [Instr.loadAt, Instr.sureAddr, loadVar, Sem.run_bind, hagg, h]
/-- the values of the statement that lays all columns, by what was laid -/
def r9V (ap ac : Option Addr) (np cp cm p M : Nat) (g : Nat × Nat × Nat) : Nat → Value
  | 0 => .slice ap np cp
  | 1 => .int .i64 p
  | 2 => .slice (some ⟨g.1, 0, none⟩) np np
  | 3 => .slice ac np cm
  | 4 => .int .i64 M
  | 5 => .slice (some ⟨g.2.1, 0, none⟩) np np
  | 6 => .pointer (some ⟨g.2.2, 0, none⟩)
  | _ => undef
theorem r9V_2 {ap ac : Option Addr} {np cp cm p M x j : Nat} {g : Nat × Nat × Nat} (h : j ≠ 2) : r9V ap ac np cp cm p M (x, g.2) j = r9V ap ac np cp cm p M g j := by
  unfold r9V
  split <;> first | rfl | exact absurd rfl h
theorem r9V_5 {ap ac : Option Addr} {np cp cm p M x j : Nat} {g : Nat × Nat × Nat} (h : j ≠ 5) : r9V ap ac np cp cm p M (g.1, x, g.2.2) j = r9V ap ac np cp cm p M g j := by
  unfold r9V
  split <;> first | rfl | exact absurd rfl h
theorem r9V_6 {ap ac : Option Addr} {np cp cm p M x j : Nat} {g : Nat × Nat × Nat} (h : j ≠ 6) : r9V ap ac np cp cm p M (g.1, g.2.1, x) j = r9V ap ac np cp cm p M g j := by
  unfold r9V
  split <;> first | rfl | exact absurd rfl h
/-- what lies there -/
structure R9J (W6 : World) (np M : Nat) (A : Nat → Option Addr) (L C : Nat → Nat) (F Z : Nat → Nat → E) (g : Nat × Nat × Nat) (Ls : Nat → Bool) (w' : World) : Prop where
  ext : Ext W6 w'
  dat : Ls 2 = true → Cols w' (some ⟨g.1, 0, none⟩) np A L C F
  fil : Ls 5 = true → ∃ w0 G, BldB w0 w' g.2.1 np M np Z G
  bx : Ls 6 = true → w'.heap[g.2.2]? = some (.cells #[.slice none 0 0] 23 (0, 0)) ∧ W6.heap.size ≤ g.2.2
theorem Ext.cols2 {w w' : World} (x : Ext w w') {B n M : Nat} {Z : Nat → Nat → E} (h : ∃ w0 G, BldB w0 w B n M n Z G) : ∃ w0 G, BldB w0 w' B n M n Z G := by
  obtain ⟨w0, G, h⟩ := h
  exact ⟨w0, G, h.grow x⟩
theorem BldB.cols_set {w0 w : World} {B n M : Nat} {Z : Nat → Nat → E} {G : Nat → Nat} (h : BldB w0 w B n M n Z G) {g : Nat} {cs : Array Value} {t : TypeId} (hg : w.heap[g]? = some (.cells cs t (0, 0))) (h1 : t ≠ 22) (h2 : t ≠ 5) (v : Value) : Cols (w.setCell ⟨g, 0, none⟩ v) (some ⟨B, 0, none⟩) n (fun r => some ⟨G r, 0, none⟩) (fun _ => M) (fun _ => M) Z := by
  have ne : ∀ {b m : Nat} {e : TypeId} {f : Nat → Value}, w.rowIs b e m f → t ≠ e → b ≠ g := fun {b m e f} hr hne q => by
    subst q
    obtain ⟨c, hc, _⟩ := hr
    rw [hg] at hc
    cases hc
    exact hne rfl
  intro r hr
  have ht := h.top.setOther (a := ⟨g, 0, none⟩) (ne h.top h1) v
  have hw := (h.row r hr).setOther (a := ⟨g, 0, none⟩) (ne (h.row r hr) h2) v
  exact ⟨⟨B, 0, rfl, by rw [Nat.zero_add, ht.cell hr, if_pos hr]⟩, Byts.row hw (Nat.le_refl _)⟩
theorem R9J.next {W6 w' w'' : World} {np M : Nat} {A : Nat → Option Addr} {L C : Nat → Nat} {F Z : Nat → Nat → E} {g : Nat × Nat × Nat} {Ls : Nat → Bool} (h : R9J W6 np M A L C F Z g Ls w') (x : Ext w' w'') {i : Nat} (h2 : i ≠ 2) (h5 : i ≠ 5) (h6 : i ≠ 6) : R9J W6 np M A L C F Z g (updB Ls i) w'' :=
  ⟨h.ext.trans x, fun hl => (h.dat (by unfold updB at hl; rw [if_neg (by omega)] at hl; exact hl)).ext x, fun hl => x.cols2 (h.fil (by unfold updB at hl; rw [if_neg (by omega)] at hl; exact hl)), fun hl => ⟨extBlk x (h.bx (by unfold updB at hl; rw [if_neg (by omega)] at hl; exact hl)).1, (h.bx (by unfold updB at hl; rw [if_neg (by omega)] at hl; exact hl)).2⟩⟩
theorem zeroV_of {P : Program} {t : TypeId} {v : Value} (h : (P.info? t).map (fun i => i.zero) = some (some v)) : ∀ w, (zeroValue t).run P w = .ok v w := fun w => by
  cases hq : P.info? t with
  | none => simp [hq] at h
  | some i =>
    simp [hq] at h
    simp [zeroValue, typeInfo, hq, h]
theorem wp_allocs1 {P : Program} {Q : Exit → Act → World → Prop} {o : Oper} {a : Act} {w : World} {K : Act → World → Prop} (t : TypeId) (ho : o.op = .alloc t) (hz : ∀ w, (zeroValue t).run P w = .ok (.slice none 0 0) w) (h : K (a.put o.dst (.pointer (some ⟨w.heap.size, 0, none⟩))) (w.alloc (.cells #[.slice none 0 0] t))) : Oper.wp P o a w K Q := by
  unfold Oper.wp execOp
  simp only [ho]
  simp [Instr.alloc, hz, go_sem]
  exact h
theorem gat_none {d p c : Nat} {T : Nat → Bool} {L : Nat → Nat} {F : Nat → Nat → E} {s : Nat → Int} {All : List (List Nat)} (hA : All = allPk (plcs (colN d p c) T false).length (p - (plcs (colN d p c) T true).length + 1)) (h : ∀ i k, i < All.length → All[i]? = some k → sumB4 c s (gatP d p c T L F k) = false) : gatF d p c T L F s = none := by
  unfold gatF
  rw [← hA, List.find?_eq_none]
  intro k hk
  obtain ⟨i, hi, e⟩ := List.getElem_of_mem hk
  rw [h i k hi (by rw [List.getElem?_eq_getElem hi, e])]
  simp
theorem gat_some {d p c : Nat} {T : Nat → Bool} {L : Nat → Nat} {F : Nat → Nat → E} {s : Nat → Int} {All : List (List Nat)} {x : Nat} {k : List Nat} (hA : All = allPk (plcs (colN d p c) T false).length (p - (plcs (colN d p c) T true).length + 1)) (h : ∀ i k, i < x → All[i]? = some k → sumB4 c s (gatP d p c T L F k) = false) (hx : All[x]? = some k) (hk : sumB4 c s (gatP d p c T L F k) = true) : gatF d p c T L F s = some k := by
  unfold gatF
  rw [← hA]
  refine List.find?_eq_some_iff_getElem.2 ⟨hk, x, (List.getElem?_eq_some_iff.1 hx).1, (List.getElem?_eq_some_iff.1 hx).2, fun j hj => ?_⟩
  rw [h j _ hj (List.getElem?_eq_getElem _)]
  rfl
/-- what a round that has found the data leaves -/
structure GatX (w : World) (d p c n : Nat) (T : Nat → Bool) (L : Nat → Nat) (F : Nat → Nat → E) (s : Nat → Int) (g : Nat) (W : World) : Prop where
  ext : Below w.heap.size w W
  res : ∃ k ad ab cb, gatF d p c T L F s = some k ∧ W.heap[g]? = some (.cells #[.slice ad n n] 22 (0, 0)) ∧ W.heap[g + 1]? = some (.cells #[.slice ab k.length cb] 30 (0, 0)) ∧ W.heap[g + 1 + 1]? = some (.cells #[.int .i64 0] 24 (0, 0)) ∧
    Byts W ad n (gatP d p c T L F k) ∧ Ints W ab k.length fun i => (((badL (colN d p c) T k).getD i 0 : Nat) : Int)
theorem Kc.byts {W W' : World} (h : Kc W W') {a : Option Addr} {n : Nat} {f : Nat → E} (hi : Byts W a n f) : Byts W' a n f := fun i hl => by
  obtain ⟨b, o, h1, h2⟩ := hi i hl
  exact ⟨b, o, h1, h.keeps h2⟩
theorem Kc.cols {W W' : World} (h : Kc W W') {a : Option Addr} {n : Nat} {A : Nat → Option Addr} {L C : Nat → Nat} {F : Nat → Nat → E} (hm : Cols W a n A L C F) : Cols W' a n A L C F := fun r hr => by
  obtain ⟨⟨b, o, h1, h2⟩, h3⟩ := hm r hr
  exact ⟨⟨b, o, h1, h.keeps h2⟩, h.byts h3⟩
theorem Kc.els {W W' : World} (h : Kc W W') {a : Option Addr} {sz : Nat} {L : List (List Value)} (hm : Els W a sz L) : Els W' a sz L := fun i cs hi => by
  obtain ⟨b, o, h1, h2⟩ := hm i cs hi
  exact ⟨b, o, h1, fun j v hv => h.keeps (h2 j v hv)⟩
theorem GatX.kb {w A B : World} {d p c n : Nat} {T : Nat → Bool} {L : Nat → Nat} {F : Nat → Nat → E} {s : Nat → Int} {g n₀ : Nat} (h : GatX w d p c n T L F s g A) (k : Kb n₀ A B) (hn : w.heap.size ≤ n₀) : GatX w d p c n T L F s g B := by
  obtain ⟨h1, q, ad, ab, cb, h2, h3, h4, h5, h6, h7⟩ := h
  exact ⟨h1.trans (k.2.mono hn), q, ad, ab, cb, h2, k.1.block _ _ h3 rfl, k.1.block _ _ h4 rfl, k.1.block _ _ h5 rfl, k.1.byts h6, k.1.ints h7⟩
/-- the values of the statement that takes the data without what is gone -/
def r13V (va vc vp vl vb : Value) (g : Nat × Value × Value) : Nat → Value
  | 0 => va
  | 1 => vc
  | 2 => vp
  | 3 => vl
  | 4 => vb
  | 5 => .slice (some ⟨g.1, 0, none⟩) 2 2
  | 6 => g.2.1
  | 7 => g.2.2
  | _ => undef
theorem r13V_5 {va vc vp vl vb : Value} {x j : Nat} {g : Nat × Value × Value} (h : j ≠ 5) : r13V va vc vp vl vb (x, g.2) j = r13V va vc vp vl vb g j := by
  unfold r13V
  split <;> first | rfl | exact absurd rfl h
theorem r13V_6 {va vc vp vl vb x : Value} {j : Nat} {g : Nat × Value × Value} (h : j ≠ 6) : r13V va vc vp vl vb (g.1, x, g.2.2) j = r13V va vc vp vl vb g j := by
  unfold r13V
  split <;> first | rfl | exact absurd rfl h
theorem r13V_7 {va vc vp vl vb x : Value} {j : Nat} {g : Nat × Value × Value} (h : j ≠ 7) : r13V va vc vp vl vb (g.1, g.2.1, x) j = r13V va vc vp vl vb g j := by
  unfold r13V
  split <;> first | rfl | exact absurd rfl h
/-- what lies there -/
structure R13J (Wa : World) (M1 : World → Nat → Prop) (M2 M3 : World → Value → Prop) (g : Nat × Value × Value) (Ls : Nat → Bool) (w' : World) : Prop where
  ext : Ext Wa w'
  m1 : Ls 5 = true → ∀ Y, Ext w' Y → M1 Y g.1
  m2 : Ls 6 = true → ∀ Y, Ext w' Y → M2 Y g.2.1
  m3 : Ls 7 = true → ∀ Y, Ext w' Y → M3 Y g.2.2
theorem updB_ne {Ls : Nat → Bool} {i j : Nat} (h : j ≠ i) (hl : updB Ls i j = true) : Ls j = true := by
  unfold updB at hl
  rwa [if_neg h] at hl
theorem R13J.next {Wa w' w'' : World} {M1 : World → Nat → Prop} {M2 M3 : World → Value → Prop} {g : Nat × Value × Value} {Ls : Nat → Bool} (h : R13J Wa M1 M2 M3 g Ls w') (x : Ext w' w'') {i : Nat} (hi : i < 5) : R13J Wa M1 M2 M3 g (updB Ls i) w'' :=
  ⟨h.ext.trans x, fun hl Y y => h.m1 (updB_ne (by omega) hl) Y (x.trans y), fun hl Y y => h.m2 (updB_ne (by omega) hl) Y (x.trans y), fun hl Y y => h.m3 (updB_ne (by omega) hl) Y (x.trans y)⟩
theorem R13J.at5 {Wa w' w'' : World} {M1 : World → Nat → Prop} {M2 M3 : World → Value → Prop} {g : Nat × Value × Value} {Ls : Nat → Bool} (h : R13J Wa M1 M2 M3 g Ls w') (x : Ext w' w'') (b : Nat) (hb : ∀ Y, Ext w'' Y → M1 Y b) : R13J Wa M1 M2 M3 (b, g.2) (updB Ls 5) w'' :=
  ⟨h.ext.trans x, fun _ => hb, fun hl Y y => h.m2 (updB_ne (by omega) hl) Y (x.trans y), fun hl Y y => h.m3 (updB_ne (by omega) hl) Y (x.trans y)⟩
theorem R13J.at6 {Wa w' w'' : World} {M1 : World → Nat → Prop} {M2 M3 : World → Value → Prop} {g : Nat × Value × Value} {Ls : Nat → Bool} (h : R13J Wa M1 M2 M3 g Ls w') (x : Ext w' w'') (v : Value) (hb : ∀ Y, Ext w'' Y → M2 Y v) : R13J Wa M1 M2 M3 (g.1, v, g.2.2) (updB Ls 6) w'' :=
  ⟨h.ext.trans x, fun hl Y y => h.m1 (updB_ne (by omega) hl) Y (x.trans y), fun _ => hb, fun hl Y y => h.m3 (updB_ne (by omega) hl) Y (x.trans y)⟩
theorem R13J.at7 {Wa w' w'' : World} {M1 : World → Nat → Prop} {M2 M3 : World → Value → Prop} {g : Nat × Value × Value} {Ls : Nat → Bool} (h : R13J Wa M1 M2 M3 g Ls w') (x : Ext w' w'') (v : Value) (hb : ∀ Y, Ext w'' Y → M3 Y v) : R13J Wa M1 M2 M3 (g.1, g.2.1, v) (updB Ls 7) w'' :=
  ⟨h.ext.trans x, fun hl Y y => h.m1 (updB_ne (by omega) hl) Y (x.trans y), fun hl Y y => h.m2 (updB_ne (by omega) hl) Y (x.trans y), fun _ => hb⟩
theorem row1_set {w : World} {g : Nat} {a : Value} {t : TypeId} (h : w.heap[g]? = some (.cells #[a] t (0, 0))) (x : Value) : (w.setCell ⟨g, 0, none⟩ x).heap[g]? = some (.cells #[x] t (0, 0)) := by
  unfold World.setCell
  simp [Array.getElem?_modify, h]
theorem row1_oth {w : World} {g k : Nat} (h : k ≠ g) (x : Value) : (w.setCell ⟨g, 0, none⟩ x).heap[k]? = w.heap[k]? := Below.heap_setCell w ⟨g, 0, none⟩ x k h
theorem row1_cell {w : World} {g : Nat} {a : Value} {t : TypeId} (h : w.heap[g]? = some (.cells #[a] t (0, 0))) : w.cell? ⟨g, 0, none⟩ = some a := by rw [cell_of_row _ _ 0 _ _ _ h]; rfl
theorem row1_any {w : World} {g o : Nat} {a v : Value} {t : TypeId} (h : w.heap[g]? = some (.cells #[a] t (0, 0))) (hv : w.cell? ⟨g, o, none⟩ = some v) : v = a := by
  rw [cell_of_row _ _ o _ _ _ h] at hv
  match o, hv with
  | 0, hv => simpa using hv.symm
  | o + 1, hv => simp at hv
theorem GatX.make {w Wv : World} {d p c n : Nat} {T : Nat → Bool} {L : Nat → Nat} {F : Nat → Nat → E} {s : Nat → Int} {g gb : Nat} {k : List Nat} {ad : Option Addr} (cb kl : Nat) (hw : Below w.heap.size w Wv) (hgf : gatF d p c T L F s = some k) (hkl : k.length = kl)
    (h1 : Wv.heap[g]? = some (.cells #[.slice none 0 0] 22 (0, 0))) (h2 : Wv.heap[g + 1]? = some (.cells #[.slice none 0 0] 30 (0, 0))) (h3 : Wv.heap[g + 1 + 1]? = some (.cells #[.int .i64 0] 24 (0, 0))) (hg : w.heap.size ≤ g)
    (hb : Byts Wv ad n (gatP d p c T L F k)) (hgb : g + 2 < gb) (hi : Ints Wv (some ⟨gb, 0, none⟩) kl fun i => (((badL (colN d p c) T k).getD i 0 : Nat) : Int)) :
    GatX w d p c n T L F s g (((Wv.setCell ⟨g, 0, none⟩ (.slice ad n n)).setCell ⟨g + 1, 0, none⟩ (.slice (some ⟨gb, 0, none⟩) kl cb)).setCell ⟨g + 1 + 1, 0, none⟩ (.int .i64 0)) := by
  subst hkl
  have ho : ∀ b o v, Wv.cell? ⟨b, o, none⟩ = some v → b ≠ g → b ≠ g + 1 → b ≠ g + 1 + 1 → (((Wv.setCell ⟨g, 0, none⟩ (.slice ad n n)).setCell ⟨g + 1, 0, none⟩ (.slice (some ⟨gb, 0, none⟩) k.length cb)).setCell ⟨g + 1 + 1, 0, none⟩ (.int .i64 0)).cell? ⟨b, o, none⟩ = some v := fun b o v hv n1 n2 n3 => by
    rw [cell_other _ ⟨g + 1 + 1, 0, none⟩ ⟨b, o, none⟩ _ n3, cell_other _ ⟨g + 1, 0, none⟩ ⟨b, o, none⟩ _ n2, cell_other _ ⟨g, 0, none⟩ ⟨b, o, none⟩ _ n1]
    exact hv
  refine ⟨((hw.setCell (show w.heap.size ≤ g from hg) _).setCell (show w.heap.size ≤ g + 1 by omega) _).setCell (show w.heap.size ≤ g + 1 + 1 by omega) _, k, ad, some ⟨gb, 0, none⟩, cb, hgf, ?_, ?_, ?_, fun i hl => ?_, fun i hl => ?_⟩
  · rw [row1_oth (by omega), row1_oth (by omega)]
    exact row1_set h1 _
  · rw [row1_oth (by omega)]
    exact row1_set ((row1_oth (by omega) _).trans h2) _
  · exact row1_set ((row1_oth (by omega) _).trans ((row1_oth (by omega) _).trans h3)) _
  · obtain ⟨b, o, e, hv⟩ := hb i hl
    refine ⟨b, o, e, ho _ _ _ hv (fun q => ?_) (fun q => ?_) (fun q => ?_)⟩
    · subst q; have := row1_any h1 hv; cases this
    · subst q; have := row1_any h2 hv; cases this
    · subst q; have := row1_any h3 hv; cases this
  · obtain ⟨b, o, e, hv⟩ := hi i hl
    cases e
    exact ⟨_, _, rfl, ho _ _ _ hv (by omega) (by omega) (by omega)⟩
/-- a slice up to an index, nothing behind it shared -/
theorem sub_hm {P : Program} {T t : TypeId} (hT : P.underlying T = some (.slice t)) (hs : P.cellsOf t = 1) (a : Option Addr) (l c m : Nat) (h : m ≤ c) (w : World) :
    (Instr.slice T (.slice a l c) none (some (.int .i64 m)) (some (.int .i64 m))).run P w = .ok (.slice a m m) w := by
  have hT' : P.underlying T = some (.slice (P.elem T)) := by simp [Program.elem, hT]
  have he : P.elem T = t := by simp [Program.elem, hT]
  rw [run_slice_hm (P := P) w T _ l c hT' .i64 .i64 m m (by omega) (by omega) (by omega), he]
  have h3 : (sizeOf t).run P w = .ok 1 w := by
    unfold Program.cellsOf at hs
    cases hq : P.info? t with
    | none => simp [hq] at hs
    | some i =>
      simp [hq] at hs
      simp [sizeOf, typeInfo, hq, hs]
  rw [h3]
  have ha : ∀ a : Option Addr, a.map (·.add 0) = a := fun a => by cases a <;> simp [Addr.add]
  simp [Result.andThen, sliced]
  exact fun _ => ha a
theorem loadVar_one {w : World} {ty : TypeId} {d : TypeDesc} (hu : Try.prog.underlying ty = some d) (hd : d.isRow = false) {ad : Addr} {v : Value} (h : w.cell? ad = some v) : (loadVar ty ad).run Try.prog w = .ok v w := by
  have hagg : (isAgg ty).run Try.prog w = .ok false w := by
    unfold isAgg
    rw [Sem.run_bind, run_underlying hu w]
    cases d <;> simp_all
  simp [loadVar, Sem.run_bind, hagg, h]
theorem results_cell3 {P : Program} {fn : Func} {p q r : Tmp} {t1 t2 t3 : TypeId} (h : fn.results = #[.cell p t1, .cell q t2, .cell r t3]) (tmps : Array Value) (w : World) (a b c : Addr) {v1 v2 v3 : Value}
    (hp : tmps.getD p undef = .pointer (some a)) (hq : tmps.getD q undef = .pointer (some b)) (hr : tmps.getD r undef = .pointer (some c)) (l1 : (loadVar t1 a).run P w = .ok v1 w) (l2 : (loadVar t2 b).run P w = .ok v2 w) (l3 : (loadVar t3 c).run P w = .ok v3 w) :
    (results fn tmps).run P w = .ok (.tuple #[v1, v2, v3]) w := by
  have hp' : tmps[p]?.getD undef = .pointer (some a) := by simpa using hp
  have hq' : tmps[q]?.getD undef = .pointer (some b) := by simpa using hq
  have hr' : tmps[r]?.getD undef = .pointer (some c) := by simpa using hr
  simp [results, h, hp', hq', hr', asAddr, l1, l2, l3]
/-- three stores, one behind the other -/
theorem three_set {w : World} {g : Nat} {a b c : Value} {t1 t2 t3 : TypeId} (h1 : w.heap[g]? = some (.cells #[a] t1 (0, 0))) (h2 : w.heap[g + 1]? = some (.cells #[b] t2 (0, 0))) (h3 : w.heap[g + 1 + 1]? = some (.cells #[c] t3 (0, 0))) (x y z : Value) :
    (((w.setCell ⟨g, 0, none⟩ x).setCell ⟨g + 1, 0, none⟩ y).setCell ⟨g + 1 + 1, 0, none⟩ z).heap[g]? = some (.cells #[x] t1 (0, 0)) ∧ (((w.setCell ⟨g, 0, none⟩ x).setCell ⟨g + 1, 0, none⟩ y).setCell ⟨g + 1 + 1, 0, none⟩ z).heap[g + 1]? = some (.cells #[y] t2 (0, 0)) ∧ (((w.setCell ⟨g, 0, none⟩ x).setCell ⟨g + 1, 0, none⟩ y).setCell ⟨g + 1 + 1, 0, none⟩ z).heap[g + 1 + 1]? = some (.cells #[z] t3 (0, 0)) := by
  refine ⟨?_, ?_, ?_⟩
  · rw [row1_oth (by omega), row1_oth (by omega)]
    exact row1_set h1 _
  · rw [row1_oth (by omega)]
    exact row1_set ((row1_oth (by omega) _).trans h2) _
  · exact row1_set ((row1_oth (by omega) _).trans ((row1_oth (by omega) _).trans h3)) _
theorem res_three {w : World} {g : Nat} {x y z : Value} (h1 : w.heap[g]? = some (.cells #[x] 22 (0, 0))) (h2 : w.heap[g + 1]? = some (.cells #[y] 30 (0, 0))) (h3 : w.heap[g + 1 + 1]? = some (.cells #[z] 24 (0, 0))) {fn : Func} (h : fn.results = #[.cell 12 22, .cell 13 30, .cell 14 24]) (tmps : Array Value)
    (hp : tmps.getD 12 undef = .pointer (some ⟨g, 0, none⟩)) (hq : tmps.getD 13 undef = .pointer (some ⟨g + 1, 0, none⟩)) (hr : tmps.getD 14 undef = .pointer (some ⟨g + 1 + 1, 0, none⟩)) : (results fn tmps).run Try.prog w = .ok (.tuple #[x, y, z]) w :=
  results_cell3 h tmps w _ _ _ hp hq hr (loadVar_one Try.underlying22 rfl (row1_cell h1)) (loadVar_one Try.underlying30 rfl (row1_cell h2)) (loadVar_one Try.underlying24 rfl (row1_cell h3))
theorem gx_bslice2 {P : Program} {o : Oper} {a : Act} {w w' : World} {v p q : Value} (t : TypeId) (n : Nat) (x y : Operand) (ho : o.op = .buildSlice t n #[(0, x), (1, y)]) (hx : a.eval x = p) (hy : a.eval y = q) (hrun : (Instr.buildSlice t n #[(0, p), (1, q)]).run P w = .ok v w') : (execOp a.eval o).run P w = .ok (.value v) w' := by
  unfold execOp
  simp only [ho, List.map_toArray, List.map_cons, List.map_nil, hx, hy, Sem.run_bind, hrun, Result.andThen_ok, Sem.run_pure]
theorem bslice_two (a b : Option Addr) (n c m k : Nat) (w : World) : (Instr.buildSlice 79 2 #[(0, .slice a n c), (1, .slice b m k)]).run Try.prog w = .ok (.slice (some ⟨w.heap.size, 0, none⟩) 2 2) (w.alloc (.cells #[.slice a n c, .slice b m k] 30)) := by
  simp [Instr.buildSlice, go_sem]
end Go.Proofs.Ythgbfakmkdifbaa
