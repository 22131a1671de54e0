/-
  As many columns lost as parity: the data are made again.
-/
import Derived.Test.YthgbfakmkdifbaaSks
namespace Go.Proofs.Ythgbfakmkdifbaa
open Go.RowKit Go.Deep E
theorem tauP_lo {n p j : Nat} (h : j + p < n) : tauP n p j = j + p := Nat.mod_eq_of_lt h
theorem tauP_hi {n p j : Nat} (h : n ≤ j + p) (hp : p < n) (hj : j < n) : tauP n p j = j + p - n := by
  unfold tauP
  rw [Nat.mod_eq_sub_mod h, Nat.mod_eq_of_lt (by omega)]
theorem hasP_len {n p : Nat} {has : Nat → Bool} (hp : p < n) : (PL n (hasP n p has)).length = (PL n has).length := by
  obtain ⟨a, rfl⟩ : ∃ a, n = a + p := ⟨n - p, by omega⟩
  have h1 := PL_add a p (hasP (a + p) p has)
  have h2 := PL_add p a has
  rw [Nat.add_comm p a] at h2
  rw [h1, h2]
  have e1 : PL a (hasP (a + p) p has) = PL a fun i => has (p + i) := PL_same fun x hx => by
    unfold hasP
    rw [tauP_lo (by omega), Nat.add_comm]
  have e2 : PL p (fun i => hasP (a + p) p has (a + i)) = PL p has := PL_same fun x hx => by
    unfold hasP
    rw [tauP_hi (by omega) hp (by omega), show a + x + p - (a + p) = x by omega]
  rw [e1, e2]
  omega
theorem catW_is {d p c n : Nat} {B : Nat → E} {R : Nat → Nat → E} {N : Nat} (h : ∀ j, j < N → ∀ x, x < wdB d p c (p + j) → R j x = padZ n B (offD d p c j + x)) : ∀ k, k ≤ N → ∀ i, i < offD d p c k → catW d p c R k i = padZ n B i
  | 0, _, i, hi => by rw [offD_0] at hi; omega
  | k + 1, hk, i, hi => by
    rw [offD_s] at hi
    show catB (offD d p c k) (catW d p c R k) (R k) i = _
    unfold catB
    by_cases e : i < offD d p c k
    · rw [if_pos e]
      exact catW_is h k (by omega) i e
    · rw [if_neg e, h k (by omega) _ (by omega), show offD d p c k + (i - offD d p c k) = i by omega]
theorem mendF {d p c n : Nat} {B : Nat → E} {has : Nat → Bool} {L : Nat → Nat} {F : Nat → Nat → E} (ho : StOk d p c) (hl : (PL (colN d p c) has).length ≤ p) (hL : ∀ r, r < colN d p c → has r = false → L r = wdB d p c r) (hF : ∀ r, r < colN d p c → has r = false → F r = layF d p c n B r) {i : Nat} (hi : i < 128 * c) : gatD d p c has L F i = padZ n B i := by
  have hN := ho.N
  have hp1 := ho.p1
  have hp3 := ho.p3
  obtain ⟨N, hn⟩ : ∃ N, colN d p c = N + p := ⟨colN d p c - p, by omega⟩
  have hoff := ho.off
  have hNp : colN d p c - p = N := by omega
  have hback : ∀ r, r < N + p → ∀ x, x < wdB d p c 0 → rebC (colN d p c) p (hasP (colN d p c) p has) (gatZ (colN d p c) p L F) r x = wholeF N (lonF d p c n B) r x := by
    intro r hr x hx
    unfold rebC
    rw [hNp, hn]
    refine rebD_back (N := N) (q := p) (m := wdB d p c 0) (D := lonF d p c n B) ⟨by omega, by omega⟩ hp3 ?_ ?_ hr hx
    · exact holes_pf (by rw [hasP_len (by omega), ← hn]; exact hl)
    · intro r hr hb x hx
      rw [has_pf hr] at hb
      unfold hasP at hb
      unfold gatZ wholeF
      by_cases e : r < N
      · have ht : tauP (N + p) p r = p + r := by rw [tauP_lo (by omega)]; omega
        rw [if_pos e]
        rw [ht] at hb ⊢
        rw [hL _ (by omega) hb, hF _ (by omega) hb]
        unfold lonF layF
        rw [if_neg (by omega), show p + r - p = r by omega]
      · have ht : tauP (N + p) p r = r - N := by rw [tauP_hi (by omega) (by omega) hr]; omega
        rw [if_neg e]
        rw [ht] at hb ⊢
        rw [hL _ (by omega) hb, hF _ (by omega) hb]
        unfold padZ layF
        rw [ho.wdp (by omega), if_pos hx, if_pos (by omega), hNp]
  unfold gatD
  rw [hNp]
  rw [← hNp] at hback
  refine catW_is (N := N) (fun j hj x hx => ?_) N (Nat.le_refl _) i (by rw [← hNp, hoff]; exact hi)
  have hw := (ho.wd (i := p + j) (by omega)).2.1
  rw [hback j (by omega) x (by omega)]
  unfold wholeF lonF datF
  rw [if_pos (by omega)]
  unfold padZ
  rw [if_pos hx]
theorem mend {d p c n : Nat} {B : Nat → E} {has : Nat → Bool} {L : Nat → Nat} (ho : StOk d p c) (hl : (PL (colN d p c) has).length ≤ p) (hL : ∀ r, r < colN d p c → has r = false → L r = wdB d p c r) {i : Nat} (hi : i < 128 * c) : gatD d p c has L (layF d p c n B) i = padZ n B i := mendF ho hl hL (fun _ _ _ => rfl) hi
/-- the first pick takes nothing as bad -/
theorem gat_first {d p c : Nat} {T : Nat → Bool} {L : Nat → Nat} {F : Nat → Nat → E} {s : Nat → Int} (h : sumB4 c s (gatP d p c T L F []) = true) : gatF d p c T L F s = some [] := by
  have e : ∀ N m, ∃ l, allPk N (m + 1) = [] :: l := fun N m => by
    induction m with
    | zero => exact ⟨[], by show [] ++ pk N 0 0 = _; rw [pk_zero]; rfl⟩
    | succ m ih =>
      obtain ⟨l, hl⟩ := ih
      exact ⟨l ++ pk N (m + 1) 0, by show allPk N (m + 1) ++ pk N (m + 1) 0 = _; rw [hl]; rfl⟩
  obtain ⟨l, hl⟩ := e (plcs (colN d p c) T false).length (p - (plcs (colN d p c) T true).length)
  unfold gatF
  rw [hl, List.find?_cons, h]
theorem mend_none {d p c n : Nat} {B : Nat → E} {T : Nat → Bool} {L : Nat → Nat} (ho : StOk d p c) (hl : (PL (colN d p c) T).length ≤ p) (hL : ∀ r, r < colN d p c → T r = false → L r = wdB d p c r) {i : Nat} (hi : i < 128 * c) : gatP d p c T L (layF d p c n B) [] i = padZ n B i := by
  unfold gatP
  rw [gatD_congr (has' := T) ho fun r hr => ?_]
  · exact mend ho hl hL hi
  · have hm : r ∈ goneL (colN d p c) T [] ↔ T r = true := by
      unfold goneL badL plcs
      rw [List.map_nil, List.append_nil, PL_mem]
      simp [hr]
    cases e : T r with
    | true => exact decide_eq_true (hm.2 e)
    | false => exact decide_eq_false fun h => by have := hm.1 h; rw [e] at this; cases this
theorem mo_congr {s : Nat → Int} {B B' : Nat → E} : ∀ k, (∀ i, i < 4 * k → B i = B' i) → mo s B k = mo s B' k
  | 0, _ => rfl
  | k + 1, h => by
    unfold mo
    rw [mo_congr k fun i hi => h i (by omega), h (4 * k) (by omega), h (4 * k + 1) (by omega), h (4 * k + 2) (by omega), h (4 * k + 3) (by omega)]
theorem moreV_congr {n : Nat} {s : Nat → Int} {B B' : Nat → E} {i : Nat} (h : ∀ x, x < n → B x = B' x) : moreV n s B i = moreV n s B' i := by
  unfold moreV
  split
  · rw [mo_congr (n / 4) fun x hx => h x (by omega)]
  · rfl
theorem mend_sum {d p c n : Nat} {B : Nat → E} {T : Nat → Bool} {L : Nat → Nat} {s : Nat → Int} (ho : StOk d p c) (hl : (PL (colN d p c) T).length ≤ p) (hL : ∀ r, r < colN d p c → T r = false → L r = wdB d p c r) (hs : ∀ i, moreV (128 * c) (fun _ => 0) (padZ n B) i = s i) : gatF d p c T L (layF d p c n B) s = some [] := by
  refine gat_first ?_
  unfold sumB4
  rw [List.all_eq_true]
  intro i _
  rw [decide_eq_true_eq, ← hs i]
  exact moreV_congr fun x hx => mend_none ho hl hL hx
end Go.Proofs.Ythgbfakmkdifbaa
/-
  The pick of just the places that were changed is among all picks, and its data are the block.
-/
namespace Go.Proofs.Ythgbfakmkdifbaa
open Go.RowKit Go.Deep E
theorem pk_in : ∀ (N s : Nat) (l : List Nat), (∀ x, x ∈ l → s ≤ x ∧ x < s + N) → l.Pairwise (· < ·) → l ∈ pk N l.length s
  | N, s, [], _, _ => by rw [List.length_nil, pk_zero]; exact List.mem_singleton.2 rfl
  | 0, s, x :: t, h, _ => by have := h x (List.mem_cons.2 (Or.inl rfl)); omega
  | N + 1, s, x :: t, h, hp => by
    have hx := h x (List.mem_cons.2 (Or.inl rfl))
    have hp2 := List.pairwise_cons.1 hp
    show x :: t ∈ (pk N t.length (s + 1)).map (s :: ·) ++ pk N (t.length + 1) (s + 1)
    by_cases e : x = s
    · subst e
      refine List.mem_append.2 (Or.inl (List.mem_map.2 ⟨t, pk_in N (x + 1) t (fun y hy => ?_) hp2.2, rfl⟩))
      have h1 := h y (List.mem_cons.2 (Or.inr hy))
      have h2 := hp2.1 y hy
      omega
    · refine List.mem_append.2 (Or.inr (pk_in N (s + 1) (x :: t) (fun y hy => ?_) hp))
      have h1 := h y hy
      rcases List.mem_cons.1 hy with rfl | hy2
      · omega
      · have h2 := hp2.1 y hy2
        omega
theorem allPk_mem {N m k : Nat} {l : List Nat} (hk : k < m) (h : l ∈ pk N k 0) : l ∈ allPk N m := by
  induction m with
  | zero => omega
  | succ m ih =>
    show l ∈ allPk N m ++ pk N m 0
    by_cases e : k = m
    · subst e; exact List.mem_append.2 (Or.inr h)
    · exact List.mem_append.2 (Or.inl (ih (by omega)))
/-- the places among the read ones that are in ch -/
def pickOf (n : Nat) (T ch : Nat → Bool) : List Nat := PL (plcs n T false).length fun i => ch ((plcs n T false).getD i 0)
theorem list_range (l : List Nat) : (List.range l.length).map (fun i => l.getD i 0) = l := by
  apply List.ext_getElem?
  intro i
  rw [List.getElem?_map]
  by_cases h : i < l.length
  · rw [List.getElem?_range h, List.getElem?_eq_getElem h, Option.map_some, List.getD_eq_getElem?_getD, List.getElem?_eq_getElem h]
    rfl
  · rw [List.getElem?_eq_none (by simpa using h), List.getElem?_eq_none (by omega)]
    rfl
theorem badL_pick (n : Nat) (T ch : Nat → Bool) : badL n T (pickOf n T ch) = (plcs n T false).filter ch := by
  unfold badL pickOf PL
  conv => rhs; rw [← list_range (plcs n T false)]
  rw [List.filter_map]
  rfl
theorem pickOf_in (n m : Nat) (T ch : Nat → Bool) (h : (pickOf n T ch).length < m) : pickOf n T ch ∈ allPk (plcs n T false).length m := by
  refine allPk_mem h (pk_in _ 0 _ (fun x hx => ?_) ?_)
  · have := (PL_mem.1 hx).1
    omega
  · unfold pickOf PL
    exact List.Pairwise.filter _ List.pairwise_lt_range
theorem pickOf_len (n : Nat) (T ch : Nat → Bool) : (pickOf n T ch).length = (PL n fun r => !T r && ch r).length := by
  have h : (badL n T (pickOf n T ch)).length = (pickOf n T ch).length := badL_len _ _ _
  rw [← h, badL_pick]
  unfold plcs PL
  rw [List.filter_filter]
  congr 1
  refine List.filter_congr fun x _ => ?_
  cases T x <;> simp
theorem goneL_pick (n : Nat) (T ch : Nat → Bool) {r : Nat} (hr : r < n) : decide (r ∈ goneL n T (pickOf n T ch)) = (T r || ch r) := by
  have hm : r ∈ goneL n T (pickOf n T ch) ↔ (T r = true ∨ (T r = false ∧ ch r = true)) := by
    unfold goneL
    rw [badL_pick, List.mem_append, List.mem_filter]
    unfold plcs
    rw [PL_mem, PL_mem]
    simp [hr]
  cases e : T r <;> cases e2 : ch r <;> simp [hm, e, e2]
theorem two_len (n : Nat) (T ch : Nat → Bool) : (plcs n T true).length + (pickOf n T ch).length = (PL n fun r => T r || ch r).length := by
  rw [pickOf_len]
  unfold plcs
  induction n with
  | zero => rfl
  | succ n ih =>
    have e1 : ∀ f : Nat → Bool, (PL (n + 1) f).length = (PL n f).length + if f n then 1 else 0 := fun f => by
      cases e : f n with
      | true => rw [PL_yes e, List.length_append]; rfl
      | false => rw [PL_no e]; rfl
    rw [e1, e1, e1]
    cases T n <;> cases ch n <;> simp at ih ⊢ <;> omega
/-- where no more were lost or changed than parity: some pick has the sum -/
theorem rot_some {d p c n : Nat} {B : Nat → E} {T ch : Nat → Bool} {L : Nat → Nat} {F : Nat → Nat → E} {s : Nat → Int} (ho : StOk d p c) (hl : (PL (colN d p c) fun r => T r || ch r).length ≤ p) (hL : ∀ r, r < colN d p c → (T r || ch r) = false → L r = wdB d p c r) (hF : ∀ r, r < colN d p c → (T r || ch r) = false → F r = layF d p c n B r)
    (hs : ∀ i, moreV (128 * c) (fun _ => 0) (padZ n B) i = s i) : ∃ k, gatF d p c T L F s = some k ∧ sumB4 c s (gatP d p c T L F k) = true ∧ k.length ≤ p := by
  have h2 := two_len (colN d p c) T ch
  have hin : pickOf (colN d p c) T ch ∈ allPk (plcs (colN d p c) T false).length (p - (plcs (colN d p c) T true).length + 1) := pickOf_in _ _ _ _ (by omega)
  have hsum : sumB4 c s (gatP d p c T L F (pickOf (colN d p c) T ch)) = true := by
    unfold sumB4
    rw [List.all_eq_true]
    intro i _
    rw [decide_eq_true_eq, ← hs i]
    refine moreV_congr fun x hx => ?_
    unfold gatP
    rw [gatD_congr (has' := fun r => T r || ch r) ho fun r hr => goneL_pick _ T ch hr]
    exact mendF ho hl hL hF hx
  unfold gatF
  cases e : (allPk (plcs (colN d p c) T false).length (p - (plcs (colN d p c) T true).length + 1)).find? fun k => sumB4 c s (gatP d p c T L F k) with
  | none =>
    rw [List.find?_eq_none] at e
    exact absurd hsum (e _ hin)
  | some k =>
    have h1 := List.find?_some e
    have h3 := List.mem_of_find?_eq_some e
    exact ⟨k, rfl, h1, by have := (pick_facts h3).1; omega⟩
end Go.Proofs.Ythgbfakmkdifbaa
/-
  Pieces in new memory, made lost or given other bytes.
-/
namespace Go.Proofs.Ythgbfakmkdifbaa
open Go.RowKit Go.Deep E
/-- bytes that lie outside block g -/
def BytsX (g : Nat) (w : World) (a : Option Addr) (n : Nat) (f : Nat → E) : Prop := ∀ i, i < n → ∃ b o, a = some ⟨b, o, none⟩ ∧ b ≠ g ∧ w.cell? ⟨b, o + i, none⟩ = some (bvs f i)
theorem BytsX.byts {g : Nat} {w : World} {a : Option Addr} {n : Nat} {f : Nat → E} (h : BytsX g w a n f) : Byts w a n f := fun i hi => by
  obtain ⟨b, o, h1, _, h2⟩ := h i hi
  exact ⟨b, o, h1, h2⟩
theorem BytsX.ext {g : Nat} {w w' : World} {a : Option Addr} {n : Nat} {f : Nat → E} (h : BytsX g w a n f) (x : Ext w w') : BytsX g w' a n f := fun i hi => by
  obtain ⟨b, o, h1, h2, h3⟩ := h i hi
  exact ⟨b, o, h1, h2, x.keeps h3⟩
theorem BytsX.set {g j : Nat} {w : World} {a : Option Addr} {n : Nat} {f : Nat → E} (h : BytsX g w a n f) (v : Value) : BytsX g (w.setCell ⟨g, j, none⟩ v) a n f := fun i hi => by
  obtain ⟨b, o, h1, h2, h3⟩ := h i hi
  exact ⟨b, o, h1, h2, by rw [cell_other _ ⟨g, j, none⟩ ⟨b, o + i, none⟩ v h2]; exact h3⟩
theorem cell_lt {w : World} {a : Addr} {v : Value} (h : w.cell? a = some v) : a.block < w.heap.size := by
  unfold World.cell? at h
  split at h
  · next c t f hh => exact (Array.getElem?_eq_some_iff.1 hh).1
  · cases h
theorem Byts.below {g : Nat} {w : World} {a : Option Addr} {n : Nat} {f : Nat → E} (h : Byts w a n f) (hg : w.heap.size ≤ g) : BytsX g w a n f := fun i hi => by
  obtain ⟨b, o, h1, h2⟩ := h i hi
  exact ⟨b, o, h1, fun q => by have := cell_lt h2; simp only at this; omega, h2⟩
theorem own_bytsX {w : World} {base g : Nat} {a : Option Addr} {n c : Nat} {f : Nat → E} (h : w.ownsRow base 5 1 (.slice a n c) n ((List.range n).map (bvs f))) (hg : g < base) : BytsX g w a n f := fun i hi => by
  obtain ⟨g', cap, e, h1, _⟩ := own_some h (by omega)
  cases e
  obtain ⟨a', c', e, hb⟩ := own_byts h
  cases e
  obtain ⟨b, o, e, hv⟩ := hb i hi
  cases e
  exact ⟨_, _, rfl, by omega, hv⟩
def updO {α : Type} (A : Nat → α) (r : Nat) (x : α) (i : Nat) : α := if i = r then x else A i
theorem pc_setData (A : Nat → Option Addr) (L C : Nat → Nat) (S : Nat → Bool) (N r : Nat) (hS : S r = false) (a : Option Addr) (c : Nat) : ((List.range N).map (pcC A L C S)).set r [.bool false, .slice a (L r) c] = (List.range N).map (pcC (updO A r a) L (updO C r c) S) := by
  apply List.ext_getElem?
  intro i
  rw [List.getElem?_set]
  by_cases hi : i < N
  · rw [List.getElem?_map, List.getElem?_map, List.getElem?_range hi]
    by_cases e : r = i
    · subst e
      rw [if_pos rfl]
      simp [hi, pcC, hS, updO]
    · rw [if_neg e]
      simp [pcC, updO, show ¬ i = r from fun q => e q.symm]
  · rw [List.getElem?_eq_none (l := List.map _ (List.range N)) (i := i) (by simpa using hi), List.getElem?_eq_none (l := List.map _ (List.range N)) (i := i) (by simpa using hi)]
    split
    · simp; omega
    · rfl
theorem pc_data {w : World} {base g cap N : Nat} {A : Nat → Option Addr} {L C : Nat → Nat} {S : Nat → Bool} (h : w.ownsRow base 42 2 (.slice (some ⟨g, 0, none⟩) N cap) N ((List.range N).map (pcC A L C S)).flatten) {r : Nat} (hr : r < N) (hS : S r = false) (a : Option Addr) (c : Nat) :
    (w.setCell ⟨g, r * 2 + 1, none⟩ (.slice a (L r) c)).ownsRow base 42 2 (.slice (some ⟨g, 0, none⟩) N cap) N ((List.range N).map (pcC (updO A r a) L (updO C r c) S)).flatten := by
  have hxy : pcC A L C S r = [.bool false, .slice (A r) (L r) (C r)] := by unfold pcC; rw [hS]; rfl
  have hk : ((List.range N).map (pcC A L C S))[r]? = some [.bool false, .slice (A r) (L r) (C r)] := by rw [List.getElem?_map, List.getElem?_range hr, Option.map_some, hxy]
  have h1 := own_set1 h (pc_szd _ _ _ _ _) hk (j := 1) (by decide) (.slice a (L r) c)
  have e : ([Value.bool false, .slice (A r) (L r) (C r)].set 1 (.slice a (L r) c)) = [.bool false, .slice a (L r) c] := rfl
  rw [e, pc_setData _ _ _ _ _ _ hS] at h1
  exact h1
/-- where the loop over the changed places stands -/
def Rot (d p c n N : Nat) (B : Nat → E) (g cap base : Nat) (S ch : Nat → Bool) (wr : World) : Prop :=
  ∃ (A : Nat → Option Addr) (C : Nat → Nat) (F : Nat → Nat → E), wr.ownsRow base 42 2 (.slice (some ⟨g, 0, none⟩) N cap) N ((List.range N).map (pcC A (wdB d p c) C S)).flatten ∧ (∀ r, r < N → BytsX g wr (A r) (wdB d p c r) (F r)) ∧ ∀ r, ch r = false → F r = layF d p c n B r
theorem Rot.lose {d p c n N : Nat} {B : Nat → E} {g cap base : Nat} {S ch : Nat → Bool} {wr : World} (h : Rot d p c n N B g cap base S ch wr) {r : Nat} (hr : r < N) {S' ch' : Nat → Bool} (hS : S' = fun x => x == r || S x) (hc : ∀ x, ch' x = false → ch x = false) :
    Rot d p c n N B g cap base S' ch' ((wr.setCell ⟨g, r * 2, none⟩ (.bool true)).setCell ⟨g, r * 2 + 1, none⟩ (.slice none 0 0)) := by
  obtain ⟨A, C, F, h1, h2, h3⟩ := h
  subst hS
  exact ⟨A, C, F, pc_lose h1 hr, fun x hx => ((h2 x hx).set _).set _, fun x hx => h3 x (hc x hx)⟩
theorem Rot.data {d p c n N : Nat} {B : Nat → E} {g cap base : Nat} {S ch ch' : Nat → Bool} {A : Nat → Option Addr} {C : Nat → Nat} {F : Nat → Nat → E} {wr : World} (h1 : wr.ownsRow base 42 2 (.slice (some ⟨g, 0, none⟩) N cap) N ((List.range N).map (pcC A (wdB d p c) C S)).flatten) (h2 : ∀ r, r < N → BytsX g wr (A r) (wdB d p c r) (F r)) (h3 : ∀ r, ch r = false → F r = layF d p c n B r)
    {r : Nat} (hr : r < N) (hS : S r = false) (hc : ∀ x, ch' x = false → ch x = false ∧ x ≠ r) {a : Option Addr} (cc : Nat) {f : Nat → E} (hb : BytsX g wr a (wdB d p c r) f) :
    Rot d p c n N B g cap base S ch' (wr.setCell ⟨g, r * 2 + 1, none⟩ (.slice a (wdB d p c r) cc)) := by
  refine ⟨updO A r a, updO C r cc, updO F r f, pc_data h1 hr hS a cc, fun x hx => ?_, fun x hx => ?_⟩
  · unfold updO
    by_cases e : x = r
    · subst e; rw [if_pos rfl, if_pos rfl]; exact hb.set _
    · rw [if_neg e, if_neg e]; exact (h2 x hx).set _
  · unfold updO
    rw [if_neg (hc x hx).2]
    exact h3 x (hc x hx).1
theorem wro_then {S : Nat → Prop} {a b c : World} (h : Wro S a b) (x : Ext b c) : Wro S a c := ⟨x.below.os.trans h.os, x.below.tape.trans h.tape, x.below.output.trans h.output, Nat.le_trans h.size x.below.size, fun k hk hn => (x.below.block k (Nat.lt_of_lt_of_le hk h.size)).trans (h.block k hk hn)⟩
def rotS (l : Bool) (P : List Nat) (k x : Nat) : Bool := l && decide (0 < k) && (x == P.getD 0 0)
theorem range_setB (n j : Nat) (f : Nat → E) (x : E) : ((List.range n).map (bvs f)).set j (.int .u8 (ev x)) = (List.range n).map (bvs (updO f j x)) := by
  apply List.ext_getElem?
  intro i
  rw [List.getElem?_set]
  by_cases hi : i < n
  · rw [List.getElem?_map, List.getElem?_map, List.getElem?_range hi]
    by_cases e : j = i
    · subst e
      rw [if_pos rfl]
      simp [hi, bvs, updO]
    · rw [if_neg e]
      simp [bvs, updO, show ¬ i = j from fun q => e q.symm]
  · rw [List.getElem?_eq_none (l := List.map (bvs f) (List.range n)) (i := i) (by simpa using hi), List.getElem?_eq_none (l := List.map _ (List.range n)) (i := i) (by simpa using hi)]
    split
    · simp; omega
    · rfl
end Go.Proofs.Ythgbfakmkdifbaa
