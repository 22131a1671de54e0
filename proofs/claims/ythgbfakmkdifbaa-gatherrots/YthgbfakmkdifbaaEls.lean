/-
  Slices of structs of any number of cells: as they lie in memory, and as a call makes and writes them.
-/
import Derived.WalkKit
import Derived.Laws.OwnMore
import Derived.Deep.MidRow
import Derived.Deep.Upon
import Derived.Test.YthgbfakmkdifbaaMm
import Derived.Test.YthgbfakmkdifbaaByb
import Derived.Test.YthgbfakmkdifbaaSpanOwn
namespace Go.Proofs.Ythgbfakmkdifbaa
open Go.RowKit Go.Deep
/-- elements of sz cells each lie at a -/
def Els (w : World) (a : Option Addr) (sz : Nat) (L : List (List Value)) : Prop :=
  ∀ i cs, L[i]? = some cs → ∃ b o, a = some ⟨b, o, none⟩ ∧ w.rangeAt b (o + i * sz) cs
def Szd (sz : Nat) (L : List (List Value)) : Prop := ∀ cs, cs ∈ L → cs.length = sz
theorem Szd.cons {sz : Nat} {cs : List Value} {L : List (List Value)} (h : Szd sz (cs :: L)) : cs.length = sz ∧ Szd sz L := ⟨h cs (List.mem_cons.2 (Or.inl rfl)), fun d hd => h d (List.mem_cons.2 (Or.inr hd))⟩
theorem Szd.append {sz : Nat} {L M : List (List Value)} (h : Szd sz L) (k : Szd sz M) : Szd sz (L ++ M) := fun cs hc => (List.mem_append.1 hc).elim (h cs) (k cs)
theorem Szd.one {sz : Nat} {cs : List Value} (h : cs.length = sz) : Szd sz [cs] := fun d hd => by rw [List.mem_singleton.1 hd]; exact h
theorem Szd.map {α : Type} {sz : Nat} {f : α → List Value} (h : ∀ x, (f x).length = sz) (L : List α) : Szd sz (L.map f) := fun cs hc => by
  obtain ⟨x, _, rfl⟩ := List.mem_map.1 hc
  exact h x
theorem rangeAt_ext {w w' : World} {b o : Nat} {cs : List Value} (h : w.rangeAt b o cs) (e : Ext w w') : w'.rangeAt b o cs := fun j v hv => e.keeps (h j v hv)
theorem Els.ext {w w' : World} {a : Option Addr} {sz : Nat} {L : List (List Value)} (h : Els w a sz L) (e : Ext w w') : Els w' a sz L := fun i cs hi => by
  obtain ⟨b, o, ha, hc⟩ := h i cs hi
  exact ⟨b, o, ha, rangeAt_ext hc e⟩
theorem Els.nil {w : World} {a : Option Addr} {sz : Nat} : Els w a sz [] := fun i cs hi => by simp at hi
theorem flat_length {sz : Nat} : ∀ {L : List (List Value)}, Szd sz L → L.flatten.length = L.length * sz
  | [], _ => by simp
  | cs :: l, h => by
    have h1 := h.cons
    rw [List.flatten_cons, List.length_append, flat_length h1.2, h1.1, List.length_cons, Nat.add_mul]
    omega
theorem flat_get {sz : Nat} : ∀ {L : List (List Value)} {i : Nat} {cs : List Value}, Szd sz L → L[i]? = some cs → ∀ j, j < sz → L.flatten[i * sz + j]? = cs[j]?
  | [], _, _, _, hi, _, _ => by simp at hi
  | d :: l, 0, cs, h, hi, j, hj => by
    have h1 := h.cons
    simp at hi
    subst hi
    rw [List.flatten_cons, Nat.zero_mul, Nat.zero_add, List.getElem?_append_left (by omega)]
  | d :: l, i + 1, cs, h, hi, j, hj => by
    have h1 := h.cons
    have ih := flat_get h1.2 (i := i) (cs := cs) (by simpa using hi) j hj
    rw [List.flatten_cons, show (i + 1) * sz + j = d.length + (i * sz + j) by rw [h1.1, Nat.add_mul]; omega, List.getElem?_append_right (by omega), Nat.add_sub_cancel_left]
    exact ih
theorem own_els {w : World} {base : Nat} {e : TypeId} {sz : Nat} {v : Value} {n : Nat} {L : List (List Value)} (h : w.ownsRow base e sz v n L.flatten) (hs : Szd sz L) (hz : 0 < sz) : L.length = n ∧ ∃ a c, v = .slice a n c ∧ n ≤ c ∧ c ≤ 9223372036854775807 ∧ Els w a sz L := by
  have h0 := h
  obtain ⟨h1, h2⟩ := h
  rw [flat_length hs] at h1
  have hn : L.length = n := Nat.eq_of_mul_eq_mul_right hz h1
  refine ⟨hn, ?_⟩
  rcases h2 with ⟨rfl, rfl⟩ | ⟨g, cap, cur, rfl, hg, _, h5, h6, _⟩
  · exact ⟨none, 0, rfl, Nat.le_refl _, by omega, fun i cs hi => by have := lt_of_get hi; omega⟩
  · have h7 : cap ≤ 9223372036854775807 := h6
    refine ⟨_, _, rfl, h5, h7, fun i cs hi => ⟨g, 0, rfl, fun j u hj => ?_⟩⟩
    have hi2 := lt_of_get hi
    have hj2 : j < sz := by
      have := hs cs (List.mem_of_getElem? hi)
      have := lt_of_get hj
      omega
    have hlt : i * sz + j < n * sz := by
      have : (i + 1) * sz ≤ n * sz := Nat.mul_le_mul_right _ (by omega)
      rw [Nat.add_mul] at this
      omega
    rw [Nat.zero_add, h0.cellAt _ (by omega), flat_get hs hi j hj2]
    exact hj
theorem own_els_at {w : World} {base : Nat} {e : TypeId} {sz : Nat} {a : Option Addr} {n c : Nat} {L : List (List Value)} (h : w.ownsRow base e sz (.slice a n c) n L.flatten) (hs : Szd sz L) (hz : 0 < sz) : Els w a sz L := by
  obtain ⟨_, a', c', h1, _, _, h2⟩ := own_els h hs hz
  cases h1
  exact h2
theorem Els.cellsAt {w : World} {a : Option Addr} {sz : Nat} {L : List (List Value)} (h : Els w a sz L) (hs : Szd sz L) (hz : 0 < sz) {ad : Addr} (ha : a = some ad) : ∀ j u, L.flatten[j]? = some u → w.cell? (ad.add j) = some u := by
  intro j u hj
  have hl := lt_of_get hj
  rw [flat_length hs] at hl
  have hi : j / sz < L.length := (Nat.div_lt_iff_lt_mul hz).2 hl
  obtain ⟨cs, hcs⟩ : ∃ cs, L[j / sz]? = some cs := ⟨_, List.getElem?_eq_getElem hi⟩
  obtain ⟨b, o, h0, h1⟩ := h _ cs hcs
  rw [ha] at h0
  cases h0
  have hm : j % sz < sz := Nat.mod_lt _ hz
  have hdm : j / sz * sz + j % sz = j := by rw [Nat.mul_comm]; exact Nat.div_add_mod _ _
  have hg := flat_get hs hcs (j % sz) hm
  rw [hdm, hj] at hg
  have h2 := h1 (j % sz) u hg.symm
  rw [Go.WideShapes.add_plain]
  rw [show o + j = o + j / sz * sz + j % sz by omega]
  exact h2
def One (L : List (List Value)) : Prop := ∀ cs, cs ∈ L → ∀ v, v ∈ cs → v.oneCell' = true
theorem One.flat {L : List (List Value)} (h : One L) : ∀ u ∈ L.flatten, u.oneCell' = true := fun u hu => by
  obtain ⟨cs, h1, h2⟩ := List.mem_flatten.1 hu
  exact h cs h1 u h2
/-- some elements more, by append: whatever source, nil too -/
theorem append_els {P : Program} (w : World) {ops : Array Oper} {rest : List Oper} {o : Oper} {a : Act} {Q : Exit → Act → World → Prop} (hgd : o.guard = none) (s x : Operand) (t : TypeId)
    (ho : o.op = .call { callee := .builtin .append, args := #[s, x], argTypes := #[t, t] }) (sz : Nat) (hz : 0 < sz) (base : Nat) (e : TypeId) (z : Value) (bytes : Nat) (ht : P.underlying t = some (.slice e))
    (hinfo : (P.info? e).map (fun i => (i.zero, i.size, i.bytes)) = some (some z, sz, bytes)) (hzs : z.cells.size = sz) (v : Value) (n : Nat) (D : List (List Value)) (hs : a.eval s = v) (hown : w.ownsRow base e sz v n D.flatten)
    (ao : Option Addr) (m c : Nat) (E : List (List Value)) (hm : E.length = m) (hx : a.eval x = .slice ao m c) (hE : Els w ao sz E) (hS : Szd sz E) (h1 : One E) (hb : bytes ≤ 1024) (hn : n ≤ 1073741824) (hm2 : m ≤ 1048576) (hbase : base ≤ w.heap.size)
    (h : ∀ v' w', w'.ownsRow base e sz v' (n + m) (D ++ E).flatten → w.grownBy w' v.ownBlock → wpList P ops Q rest (a.put o.dst v') w') : wpList P ops Q (o :: rest) a w := by
  obtain ⟨i0, hi, hz0, hz1, hz2⟩ := info_parts hinfo
  cases ao with
  | none =>
    have hE0 : E = [] := by
      cases E with
      | nil => rfl
      | cons r l =>
        obtain ⟨b, o, h0, _⟩ := hE 0 r rfl
        cases h0
    subst hE0
    simp at hm
    subst hm
    refine append_none w hgd s x t ho base e i0 ht hi v n D.flatten hs hown c hx ?_
    refine h v w ?_ ⟨rfl, rfl, rfl, Nat.le_refl _, fun _ _ _ => rfl⟩
    rw [List.append_nil]
    exact hown
  | some ad =>
    refine wpList_append_own w hgd s x t ho base e i0 z sz bytes ht hi hz0 hz1 hz2 hzs hz v n D.flatten hs hown ad m c E.flatten hx (by rw [flat_length hS, hm]) (hE.cellsAt hS hz rfl) h1.flat ?_ ?_ hbase ?_
    · unfold maxLen; omega
    · have : (n + m) * bytes ≤ (n + m) * 1024 := Nat.mul_le_mul_left _ hb
      omega
    · exact fun v' w' h1 h2 _ => h v' w' (by rw [List.flatten_append]; exact h1) h2
/-- one element, laid in a block of its own -/
theorem els_new (W : World) (g : Nat) (hg : g = W.heap.size) (cs : List Value) (t : TypeId) (sz : Nat) : Els (W.alloc (.cells cs.toArray t)) (some ⟨g, 0, none⟩) sz [cs] := by
  subst hg
  intro i ds hi
  have hl := lt_of_get hi
  obtain rfl : i = 0 := by simp at hl; omega
  simp at hi
  subst hi
  refine ⟨_, 0, rfl, fun j v hv => ?_⟩
  rw [show 0 + 0 * sz + j = j by omega, new_cell]
  simpa using hv
/-- many cells of an own row written -/
theorem own_stored {e : TypeId} {sz base g cap n : Nat} : ∀ (cs : List Value) (o : Nat) (w : World) (xs : List Value), w.ownsRow base e sz (.slice (some ⟨g, 0, none⟩) n cap) n xs → o + cs.length ≤ n * sz →
    (w.setCells g o cs).ownsRow base e sz (.slice (some ⟨g, 0, none⟩) n cap) n (xs.take o ++ cs ++ xs.drop (o + cs.length))
  | [], o, w, xs, h, _ => by
    simp only [List.append_nil, List.length_nil, Nat.add_zero, List.take_append_drop]
    exact h
  | v :: r, o, w, xs, h, hl => by
    simp only [List.length_cons] at hl
    have h1 := (h.stored o v).1
    have ih := own_stored r (o + 1) (w.setCell ⟨g, o, none⟩ v) (xs.set o v) h1 (by omega)
    have hx : o < xs.length := by rw [h.1]; omega
    rw [World.setCells]
    have e1 : (xs.set o v).take (o + 1) ++ r ++ (xs.set o v).drop (o + 1 + r.length) = xs.take o ++ (v :: r) ++ xs.drop (o + (v :: r).length) := by
      rw [List.drop_set, if_pos (by omega), List.length_cons, show o + 1 + r.length = o + (r.length + 1) by omega, List.take_succ_eq_append_getElem (by rw [List.length_set]; exact hx)]
      rw [List.getElem_set_self, List.take_set_of_le (Nat.le_refl _)]
      simp
    rw [← e1]
    exact ih
theorem flat_set {sz : Nat} : ∀ {L : List (List Value)} {k : Nat}, Szd sz L → k < L.length → ∀ cs : List Value, L.flatten.take (k * sz) ++ cs ++ L.flatten.drop (k * sz + sz) = (L.set k cs).flatten
  | [], _, _, hk, _ => by simp at hk
  | d :: l, 0, h, _, cs => by
    have h1 := h.cons
    rw [List.flatten_cons, List.set_cons_zero, List.flatten_cons, Nat.zero_mul, Nat.zero_add, List.take_zero, List.nil_append, ← h1.1, List.drop_left]
  | d :: l, k + 1, h, hk, cs => by
    have h1 := h.cons
    have ih := flat_set h1.2 (k := k) (by simpa using hk) cs
    rw [List.flatten_cons, List.set_cons_succ, List.flatten_cons, ← ih, show (k + 1) * sz = d.length + k * sz by rw [h1.1, Nat.add_mul]; omega, List.take_length_add_append, show d.length + k * sz + sz = d.length + (k * sz + sz) by omega, List.drop_length_add_append]
    simp
/-- an element of an own row written -/
theorem own_set {e : TypeId} {sz base g cap n : Nat} {w : World} {L : List (List Value)} (h : w.ownsRow base e sz (.slice (some ⟨g, 0, none⟩) n cap) n L.flatten) (hs : Szd sz L) (hz : 0 < sz) {k : Nat} (hk : k < n) {cs : List Value} (hc : cs.length = sz) :
    (w.setCells g (k * sz) cs).ownsRow base e sz (.slice (some ⟨g, 0, none⟩) n cap) n (L.set k cs).flatten := by
  have hn := (own_els h hs hz).1
  have hle : k * sz + sz ≤ n * sz := by
    have : (k + 1) * sz ≤ n * sz := Nat.mul_le_mul_right _ (by omega)
    rw [Nat.add_mul] at this
    omega
  have := own_stored cs (k * sz) w L.flatten h (by omega)
  rw [hc, flat_set hs (by omega)] at this
  exact this
theorem Wro.setCells {S : Nat → Prop} {a b : World} (h : Wro S a b) {g : Nat} (hg : S g) : ∀ (cs : List Value) (o : Nat), Wro S a (b.setCells g o cs) := fun cs => by
  induction cs generalizing b with
  | nil => intro o; exact h
  | cons v r ih => intro o; rw [World.setCells]; exact ih (h.setCell (p := ⟨g, o, none⟩) hg v) (o + 1)
theorem own_there {w : World} {base : Nat} {e : TypeId} {sz g cap n : Nat} {xs : List Value} (h : w.ownsRow base e sz (.slice (some ⟨g, 0, none⟩) n cap) n xs) {o m : Nat} (hm : o + m ≤ n * sz) : w.there g o m := fun j hj => by
  have hx : o + j < xs.length := by rw [h.1]; omega
  refine ⟨?_, h.frozenAt _⟩
  rw [h.cellAt _ (by omega), List.getElem?_eq_getElem hx]
  rfl
theorem extBlk {w w' : World} (h : Ext w w') {b : Nat} {o : Obj} (hb : w.heap[b]? = some o) : w'.heap[b]? = some o := (h.below.block b (Array.getElem?_eq_some_iff.1 hb).1).trans hb
theorem wroBlk {T : Nat → Prop} {w w' : World} (h : Wro T w w') {b : Nat} {o : Obj} (hb : w.heap[b]? = some o) (hT : ¬ T b) : w'.heap[b]? = some o := (h.block b (Array.getElem?_eq_some_iff.1 hb).1 hT).trans hb
theorem own_type {w : World} {base : Nat} {e : TypeId} {sz : Nat} {v : Value} {n : Nat} {xs : List Value} (h : w.ownsRow base e sz v n xs) {g : Nat} {cs : Array Value} {t : TypeId} {fr : Nat × Nat} (hg : w.heap[g]? = some (.cells cs t fr)) (hne : e ≠ t) : v.ownBlock ≠ some g := fun q => by
  obtain ⟨cur, hc⟩ := own_block h q
  rw [hg] at hc
  cases hc
  exact hne rfl
theorem own_keep2 {w w' : World} {b b2 : Nat} {e e2 : TypeId} {s s2 : Nat} {v v2 : Value} {n n2 : Nat} {xs xs2 : List Value} (h : w.ownsRow b e s v n xs) (h2 : w.ownsRow b2 e2 s2 v2 n2 xs2) (hg : w.grownBy w' v2.ownBlock) (hne : e ≠ e2) : w'.ownsRow b e s v n xs := h.kept hg (own_apart h h2 hne)
theorem own_wro2 {S : Nat → Prop} {w w' : World} {base : Nat} {e : TypeId} {sz : Nat} {v : Value} {n : Nat} {xs : List Value} (h : w.ownsRow base e sz v n xs) (hw : Wro S w w') (hs : ∀ b, S b → v.ownBlock ≠ some b) : w'.ownsRow base e sz v n xs := by
  obtain ⟨h1, h2⟩ := h
  refine ⟨h1, ?_⟩
  rcases h2 with h2 | ⟨g, cap, cur, hv, hg, hh, r⟩
  · exact Or.inl h2
  · exact Or.inr ⟨g, cap, cur, hv, hg, wroBlk hw hh (fun q => hs g q (by rw [hv]; rfl)), r⟩
theorem made_flat {zs : List Value} {sz : Nat} (hz : 0 < sz) (hl : zs.length = sz) (n : Nat) : (madeCells zs.toArray (n * sz)).toList = (List.replicate n zs).flatten := by
  have hs : Szd sz (List.replicate n zs) := fun cs hc => by rw [(List.mem_replicate.1 hc).2]; exact hl
  apply List.ext_getElem?
  intro i
  by_cases hi : i < n * sz
  · have hd : i / sz < n := (Nat.div_lt_iff_lt_mul hz).2 hi
    have hm : i % sz < sz := Nat.mod_lt _ hz
    have h1 := flat_get hs (i := i / sz) (cs := zs) (by rw [List.getElem?_replicate, if_pos hd]) (i % sz) hm
    rw [show i / sz * sz + i % sz = i by rw [Nat.mul_comm]; exact Nat.div_add_mod _ _] at h1
    rw [h1, List.getElem?_eq_getElem (by rw [Array.length_toList, size_madeCells]; exact hi)]
    simp [madeCells, hl]
    rw [List.getElem?_eq_getElem (by omega)]
    rfl
  · rw [List.getElem?_eq_none (by simp [size_madeCells]; omega), List.getElem?_eq_none (by rw [flat_length hs, List.length_replicate]; omega)]
theorem flat_set1 {sz : Nat} : ∀ {L : List (List Value)} {k : Nat} {cs : List Value}, Szd sz L → L[k]? = some cs → ∀ (j : Nat) (v : Value), j < sz → L.flatten.set (k * sz + j) v = (L.set k (cs.set j v)).flatten
  | [], _, _, _, hk, _, _, _ => by simp at hk
  | d :: l, 0, cs, h, hk, j, v, hj => by
    have h1 := h.cons
    simp at hk
    subst hk
    rw [List.flatten_cons, List.set_cons_zero, List.flatten_cons, Nat.zero_mul, Nat.zero_add, List.set_append_left _ _ (by omega)]
  | d :: l, k + 1, cs, h, hk, j, v, hj => by
    have h1 := h.cons
    have ih := flat_set1 h1.2 (k := k) (cs := cs) (by simpa using hk) j v hj
    rw [List.flatten_cons, List.set_cons_succ, List.flatten_cons, ← ih, show (k + 1) * sz + j = d.length + (k * sz + j) by rw [h1.1, Nat.add_mul]; omega, List.set_append_right _ _ (by omega), Nat.add_sub_cancel_left]
/-- one cell of an element of an own row written -/
theorem own_set1 {e : TypeId} {sz base g cap n : Nat} {w : World} {L : List (List Value)} (h : w.ownsRow base e sz (.slice (some ⟨g, 0, none⟩) n cap) n L.flatten) (hs : Szd sz L) {k : Nat} {cs : List Value} (hk : L[k]? = some cs) {j : Nat} (hj : j < sz) (v : Value) :
    (w.setCell ⟨g, k * sz + j, none⟩ v).ownsRow base e sz (.slice (some ⟨g, 0, none⟩) n cap) n (L.set k (cs.set j v)).flatten := by
  rw [← flat_set1 hs hk j v hj]
  exact (h.stored (k * sz + j) v).1
theorem Ext.setCells {a : World} {g : Nat} (hg : a.heap.size ≤ g) : ∀ (cs : List Value) (o : Nat) {w : World}, Ext a w → Ext a (w.setCells g o cs)
  | [], _, _, h => h
  | v :: r, o, _, h => by
    rw [World.setCells]
    exact Ext.setCells hg r (o + 1) (h.setCell (p := ⟨g, o, none⟩) hg v)
theorem map_range_set {α : Type} (f : Nat → α) (n k : Nat) (x : α) : ((List.range n).map f).set k x = (List.range n).map fun i => if i = k then x else f i := by
  apply List.ext_getElem?
  intro i
  rw [List.getElem?_set]
  by_cases e : k = i
  · subst e
    rw [if_pos rfl]
    by_cases h : k < n
    · rw [if_pos (by simpa using h), List.getElem?_map, List.getElem?_range h]
      simp
    · rw [if_neg (by simpa using h), List.getElem?_map, List.getElem?_eq_none (by simpa using h)]
      rfl
  · rw [if_neg e]
    by_cases h : i < n
    · rw [List.getElem?_map, List.getElem?_map, List.getElem?_range h]
      simp only [Option.map_some]
      rw [if_neg (Ne.symm e)]
    · rw [List.getElem?_map, List.getElem?_map, List.getElem?_eq_none (by simpa using h)]
      rfl
theorem range_get {α : Type} (f : Nat → α) {n k : Nat} (h : k < n) : ((List.range n).map f)[k]? = some (f k) := by
  rw [List.getElem?_map, List.getElem?_range h]
  rfl
theorem range_congr {α : Type} {f g : Nat → α} {n : Nat} (h : ∀ i, i < n → f i = g i) : (List.range n).map f = (List.range n).map g := List.map_congr_left fun i hi => h i (List.mem_range.1 hi)
theorem own_geD {w : World} {base : Nat} {e : TypeId} {size : Nat} {v : Value} {n : Nat} {xs : List Value} (h : w.ownsRow base e size v n xs) {q : Nat} (hq : v.ownBlock = some q) : base ≤ q := by
  rcases h.2 with ⟨rfl, _⟩ | ⟨g, cap, cur, rfl, hg, _⟩
  · cases hq
  · cases hq; exact hg
end Go.Proofs.Ythgbfakmkdifbaa
