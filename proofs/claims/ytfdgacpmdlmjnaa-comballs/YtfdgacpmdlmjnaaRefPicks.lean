/-
  quicksetref.picks: the picks of k of the numbers from s on, in order, in new memory.
-/
import Derived.Test.YtfdgacpmdlmjnaaChecked
import Derived.WalkKit
import Derived.Deep.AppendLies
import Derived.Test.YtfdgacpmdlmjnaaRefComb
namespace Go.Proofs.Ytfdgacpmdlmjnaa
open Go.RowKit Go.Deep E
def nV (x : Nat) : Value := .int .i64 (x : Int)
/-- rows in blocks of their own, from base on -/
def rowsOk (w : World) (base : Nat) (vs : List Value) (L : List (List Nat)) : Prop :=
  vs.length = L.length ∧ ∀ (i : Nat) (u : Value) (p : List Nat), vs[i]? = some u → L[i]? = some p → w.ownsRow base 3 1 u p.length (p.map nV)
theorem rowsOk.nil (w : World) (base : Nat) : rowsOk w base [] [] := ⟨rfl, fun i u p h => by simp at h⟩
theorem rowsOk.one {w : World} {base : Nat} {u : Value} {p : List Nat} (h : w.ownsRow base 3 1 u p.length (p.map nV)) : rowsOk w base [u] [p] := ⟨rfl, fun i u' p' h1 h2 => by
  cases i with
  | zero => simp at h1 h2; subst h1; subst h2; exact h
  | succ i => simp at h1⟩
theorem rowsOk.ext {w w' : World} {base : Nat} {vs : List Value} {L : List (List Nat)} (h : rowsOk w base vs L) (x : Ext w w') : rowsOk w' base vs L := ⟨h.1, fun i u p h1 h2 => own_ext (h.2 i u p h1 h2) x⟩
theorem rowsOk.mono {w : World} {base base' : Nat} {vs : List Value} {L : List (List Nat)} (h : rowsOk w base vs L) (x : base' ≤ base) : rowsOk w base' vs L := ⟨h.1, fun i u p h1 h2 => own_mono (h.2 i u p h1 h2) x⟩
theorem rowsOk.kept {w w' : World} {base b n : Nat} {vs xs : List Value} {L : List (List Nat)} {v : Value} (h : rowsOk w base vs L) (ho : w.ownsRow b 23 1 v n xs) (g : w.grownBy w' v.ownBlock) : rowsOk w' base vs L :=
  ⟨h.1, fun i u p h1 h2 => (h.2 i u p h1 h2).kept g (own_apart (h.2 i u p h1 h2) ho (by decide))⟩
theorem rowsOk.append {w : World} {base : Nat} {vs vs' : List Value} {L L' : List (List Nat)} (h : rowsOk w base vs L) (h' : rowsOk w base vs' L') : rowsOk w base (vs ++ vs') (L ++ L') :=
  ⟨by simp [h.1, h'.1], fun i u p h1 h2 => by
    by_cases hi : i < vs.length
    · rw [List.getElem?_append_left hi] at h1
      rw [List.getElem?_append_left (by rw [← h.1]; exact hi)] at h2
      exact h.2 i u p h1 h2
    · rw [List.getElem?_append_right (by omega)] at h1
      rw [List.getElem?_append_right (by rw [← h.1]; omega), ← h.1] at h2
      exact h'.2 _ u p h1 h2⟩
theorem rowsOk.at {w : World} {base : Nat} {vs : List Value} {L : List (List Nat)} (h : rowsOk w base vs L) {i : Nat} (hi : i < L.length) : ∃ u p, vs[i]? = some u ∧ L[i]? = some p ∧ w.ownsRow base 3 1 u p.length (p.map nV) := by
  have hv : i < vs.length := by rw [h.1]; exact hi
  exact ⟨vs[i], L[i], by simp [hv], by simp [hi], h.2 i _ _ (by simp [hv]) (by simp [hi])⟩
structure Pks (w wr : World) (v : Value) (vs : List Value) (L : List (List Nat)) : Prop where
  ext : Ext w wr
  top : wr.ownsRow w.heap.size 23 1 v L.length vs
  row : rowsOk wr w.heap.size vs L
theorem own_empty (w : World) {base : Nat} (hb : base ≤ w.heap.size) (e : TypeId) : (w.alloc (.cells #[] e)).ownsRow base e 1 (.slice (some ⟨w.heap.size, 0, none⟩) 0 0) 0 [] :=
  ⟨rfl, .inr ⟨w.heap.size, 0, #[], rfl, hb, heap_alloc_new w _, Nat.le_refl _, by unfold maxLen; omega, rfl, rfl⟩⟩
theorem own_lit_at (w : World) {base : Nat} (k : Nat) (hk : w.heap.size = k) (hb : base ≤ w.heap.size) (u : Value) (e : TypeId) : (w.alloc (.cells #[u] e)).ownsRow base e 1 (.slice (some ⟨k, 0, none⟩) 1 1) 1 [u] := by subst hk; exact own_lit w hb u e
theorem nat_slice {w : World} {base : Nat} {e : TypeId} {u : Value} {p : List Nat} (h : w.ownsRow base e 1 u p.length (p.map nV)) : ∃ a c, u = .slice a p.length c ∧ ∀ i, i < p.length → ∃ b o, a = some ⟨b, o, none⟩ ∧ w.cell? ⟨b, o + i, none⟩ = some (nV (p.getD i 0)) := by
  obtain ⟨a, c, h1, h2⟩ := own_slice h
  refine ⟨a, c, h1, fun i hi => ?_⟩
  obtain ⟨b, o, h3, h4⟩ := h2 i hi
  refine ⟨b, o, h3, ?_⟩
  rw [h4]
  simp [hi]
theorem map_getD (p : List Nat) : (List.range p.length).map (fun i => nV (p[i]?.getD 0)) = p.map nV := by
  apply List.ext_getElem?
  intro i
  by_cases h : i < p.length
  · simp [h]
  · simp [h]
theorem range_getD {vs : List Value} {n : Nat} (h : vs.length = n) : (List.range n).map (fun i => vs[i]?.getD (.slice none 0 0)) = vs := by
  subst h
  apply List.ext_getElem?
  intro i
  by_cases h : i < vs.length
  · simp [h]
  · simp [h]
theorem own_slice_at {w : World} {base : Nat} {e : TypeId} {a : Option Addr} {c n : Nat} {xs : List Value} (h : w.ownsRow base e 1 (.slice a n c) n xs) : ∀ i, i < n → ∃ b o, a = some ⟨b, o, none⟩ ∧ w.cell? ⟨b, o + i, none⟩ = xs[i]? := by
  obtain ⟨a', c', h1, h2⟩ := own_slice h
  cases h1
  exact h2
theorem ones_cell {w : World} {base : Nat} {e : TypeId} {v : Value} {n : Nat} {xs : List Value} (h : w.ownsRow base e 1 v n xs) {i : Nat} {u : Value} (hu : xs[i]? = some u) (hi : i < n) : ∃ g c, v = .slice (some ⟨g, 0, none⟩) n c ∧ w.cell? ⟨g, i, none⟩ = some u := by
  obtain ⟨g, c, h1, h2, h3⟩ := h.form (by omega)
  subst h1
  exact ⟨g, c, rfl, by rw [h.cellAt i (by omega), hu]⟩
set_option maxRecDepth 100000 in
set_option maxHeartbeats 1600000 in
theorem picks_any (N : Nat) (hN : N ≤ 12) : ∀ (m k s : Nat) (w : World), s + m = N → k ≤ 12 →
    Calls Try.prog 44 #[.int .i64 s, .int .i64 N, .int .i64 k] w fun e w' => ∃ v vs, e = .returned v ∧ Pks w w' v vs (pk m k s) := by
  intro m
  induction m with
  | zero =>
    intro k s w hs hk
    cases k with
    | zero =>
      have HR : Hid (Pks w ((w.alloc (.cells #[] 3)).alloc (.cells #[.slice (some ⟨w.heap.size, 0, none⟩) 0 0] 23)) (.slice (some ⟨w.heap.size + 1, 0, none⟩) 1 1) [.slice (some ⟨w.heap.size, 0, none⟩) 0 0] (pk 0 0 s)) :=
        ⟨((Ext.refl w).alloc _ _).alloc _ _, own_lit_at _ _ (by simp) (by simp) _ _, rowsOk.one (own_ext (own_empty w (Nat.le_refl _) _) ((Ext.refl _).alloc _ _))⟩
      go_enter Try.func44, Try.ntmps44
      go_wp2_with fail
      go_ret
      exact ⟨_, _, rfl, HR.out⟩
    | succ k =>
      have HR : Hid (Pks w w (.slice none 0 0) [] (pk 0 (k + 1) s)) := ⟨Ext.refl w, World.ownsRow_nil _ _ _ _, rowsOk.nil _ _⟩
      go_enter Try.func44, Try.ntmps44
      go_wp2_with fail
      go_ret
      exact ⟨_, _, rfl, HR.out⟩
  | succ m ih =>
    intro k s w hs hk
    cases k with
    | zero =>
      have HR : Hid (Pks w ((w.alloc (.cells #[] 3)).alloc (.cells #[.slice (some ⟨w.heap.size, 0, none⟩) 0 0] 23)) (.slice (some ⟨w.heap.size + 1, 0, none⟩) 1 1) [.slice (some ⟨w.heap.size, 0, none⟩) 0 0] (pk (m + 1) 0 s)) :=
        ⟨((Ext.refl w).alloc _ _).alloc _ _, own_lit_at _ _ (by simp) (by simp) _ _, rowsOk.one (own_ext (own_empty w (Nat.le_refl _) _) ((Ext.refl _).alloc _ _))⟩
      go_enter Try.func44, Try.ntmps44
      go_wp2_with fail
      go_ret
      exact ⟨_, _, rfl, HR.out⟩
    | succ k =>
      have HIH : Hid (∀ (k s : Nat) (w : World), s + m = N → k ≤ 12 → Calls Try.prog 44 #[.int .i64 s, .int .i64 N, .int .i64 k] w fun e w' => ∃ v vs, e = .returned v ∧ Pks w w' v vs (pk m k s)) := ih
      clear ih
      obtain ⟨L, hL⟩ : ∃ L, pk m k (s + 1) = L := ⟨_, rfl⟩
      have hLl : L.length ≤ 924 := by rw [← hL, pk_len]; exact cho_le m (by omega) k (by omega)
      have HL : Hid (pk m k (s + 1) = L) := hL
      clear hL
      go_enter Try.func44, Try.ntmps44
      go_wp2_with (first | (go_at_call 44; refine (HIH.out k (s + 1) _ (by omega) (by omega)).mono ?_; rw [HL.out]; rintro e w1 ⟨v1, vs1, rfl, hp1⟩; obtain ⟨a1, c1, rfl, _⟩ := own_slice hp1.top; have HP1 : Hid (Pks w w1 (.slice a1 L.length c1) vs1 L) := hp1; clear hp1))
      go_loopw [7, 24] (fun v i wr => ∃ x : Nat, x ≤ L.length ∧ i = .int .i64 x ∧ Ext w1 wr ∧ ∃ vs, wr.ownsRow w1.heap.size 23 1 v x vs ∧ rowsOk wr w1.heap.size vs ((L.take x).map (s :: ·))) (fun _ i _ => L.length - (intOf i).toNat)
      case atStart => exact ⟨0, Nat.zero_le _, rfl, Ext.refl _, [], World.ownsRow_nil _ _ _ _, rowsOk.nil _ _⟩
      case round =>
        obtain ⟨x, hx, rfl, hex, vs, hown, hrows⟩ := hrel
        have HO : Hid (wr.ownsRow w1.heap.size 23 1 u7 x vs) := hown
        have HR : Hid (rowsOk wr w1.heap.size vs ((L.take x).map (s :: ·))) := hrows
        clear hown hrows
        by_cases hlt : x < L.length
        · obtain ⟨u, p, hu, hp, hpo⟩ := HP1.out.row.at hlt
          obtain ⟨g, c, hgc, hcell⟩ := ones_cell HP1.out.top hu hlt
          cases hgc
          obtain ⟨b, cb, rfl, hb⟩ := nat_slice hpo
          have hcell' := hex.keeps hcell
          have hpl : p.length ≤ 12 := by
            have := (pk_mem m k (s + 1) p (by rw [HL.out]; exact List.mem_of_getElem? hp)).1
            omega
          have HB : Hid (∀ i, i < p.length → ∃ bb o, b = some ⟨bb, o, none⟩ ∧ (wr.alloc (.cells #[.int .i64 (s : Int)] 3)).cell? ⟨bb, o + i, none⟩ = some (nV (p.getD i 0))) := fun i hi => by
            obtain ⟨bb, o, h1, h2⟩ := hb i hi
            exact ⟨bb, o, h1, alloc_keeps (hex.keeps h2) _⟩
          have HS : Hid ((wr.alloc (.cells #[.int .i64 (s : Int)] 3)).ownsRow wr.heap.size 3 1 (.slice (some ⟨wr.heap.size, 0, none⟩) 1 1) 1 [.int .i64 (s : Int)]) := own_lit wr (Nat.le_refl _) _ _
          have HPX : Hid (L[x]? = some p) := hp
          have hsz := hex.size
          clear hb hpo hu hp hcell
          go_wp2_with (first | (at_builtin; refine append_vals (wr.alloc (.cells #[.int .i64 (s : Int)] 3)) rfl (.tmp 30) (.tmp 31) 23 rfl wr.heap.size 3 (.int .i64 0) 8 Try.underlying23 infoI rfl (.slice (some ⟨wr.heap.size, 0, none⟩) 1 1) 1 [.int .i64 (s : Int)] rfl HS.out b p.length cb (fun i => nV (p.getD i 0)) rfl HB.out (fun _ _ => rfl) (by omega) (by omega) (by simp) ?_) | go_in)
          intro v' w5 hown' hgrow
          have hx5 : Ext wr w5 := ((Ext.refl wr).alloc _ _).grow hgrow fun _ hk => by cases hk; exact Nat.le_refl _
          obtain ⟨a9, c9, rfl, _⟩ := own_slice hown'
          have HR5 : Hid (w5.ownsRow w1.heap.size 3 1 (.slice a9 (1 + p.length) c9) (s :: p).length ((s :: p).map nV)) := by
            have := own_mono hown' hsz
            rw [map_getD] at this
            show w5.ownsRow w1.heap.size 3 1 (.slice a9 (1 + p.length) c9) (p.length + 1) _
            rw [Nat.add_comm p.length 1]
            exact this
          have HO5 : Hid (w5.ownsRow w1.heap.size 23 1 u7 x vs) := own_ext HO.out hx5
          have hsz5 := (hex.trans hx5).size
          clear hown' hgrow HS HB
          go_wp2_with (first | (at_builtin; refine append_one w5 rfl (.tmp 28) (.tmp 33) 32 rfl w1.heap.size 23 (.slice none 0 0) 24 Try.underlying32 infoIs rfl u7 x vs rfl HO5.out (.slice a9 (1 + p.length) c9) 1 rfl rfl (by omega) (by omega) hsz5 ?_) | go_in)
          intro v2 w6 hown' hgrow
          have hx6 : Ext w1 w6 := ((hex.trans hx5).alloc _ _).grow hgrow fun b hb => (own_ge HO5.out hb).1
          have R1 : Hid (w6.ownsRow w1.heap.size 23 1 v2 (x + 1) (vs ++ [.slice a9 (1 + p.length) c9])) := hown'
          have R2 : Hid (rowsOk w6 w1.heap.size (vs ++ [.slice a9 (1 + p.length) c9]) ((L.take (x + 1)).map (s :: ·))) := by
            rw [List.take_add_one, HPX.out, List.map_append]
            exact (((HR.out.ext hx5).append (rowsOk.one HR5.out)).ext ((Ext.refl _).alloc _ _)).kept (HO5.out.alloc _) hgrow
          clear hown' hgrow HR HO HO5 HR5
          go_wp2_with fail
          go_roundw
          case rel => exact ⟨x + 1, by omega, by go_num, hx6, _, R1.out, R2.out⟩
          case measure => simp [intOf]; omega
        · obtain rfl : x = L.length := by omega
          obtain ⟨L2, hL2⟩ : ∃ L2, pk m (k + 1) (s + 1) = L2 := ⟨_, rfl⟩
          have hL2l : L2.length ≤ 924 := by rw [← hL2, pk_len]; exact cho_le m (by omega) (k + 1) (by omega)
          have HL2 : Hid (pk m (k + 1) (s + 1) = L2) := hL2
          clear hL2
          go_wp2_with (first | (go_at_call 44; refine (HIH.out (k + 1) (s + 1) _ (by omega) (by omega)).mono ?_; rw [HL2.out]; rintro e w2 ⟨v2, vs2, rfl, hp2⟩; obtain ⟨a2, c2, rfl, hc2⟩ := own_slice hp2.top; have HP2 : Hid (Pks wr w2 (.slice a2 L2.length c2) vs2 L2) := hp2; clear hp2) | (at_builtin; refine append_vals w2 rfl (.tmp 36) (.tmp 41) 32 rfl w1.heap.size 23 (.slice none 0 0) 24 Try.underlying32 infoIs rfl u7 L.length vs rfl (own_ext HO.out HP2.out.ext) a2 L2.length c2 (fun i => vs2[i]?.getD (.slice none 0 0)) rfl ?_ ?_ (by omega) (by omega) ?_ ?_) | go_in)
          case refine_1 =>
            intro i hi
            obtain ⟨bb, o, h1, h2⟩ := (own_slice_at HP2.out.top) i hi
            obtain ⟨u, p, h3, _, _⟩ := HP2.out.row.at hi
            exact ⟨bb, o, h1, by rw [h2, h3]; rfl⟩
          case refine_2 =>
            intro i hi
            obtain ⟨u, p, h3, _, h5⟩ := HP2.out.row.at hi
            obtain ⟨ua, uc, h6, _⟩ := own_slice h5
            rw [h3, h6]
            rfl
          case refine_3 => exact Nat.le_trans hex.size HP2.out.ext.size
          case refine_4 =>
            intro v' w7 hown' hgrow
            have hO2 := own_ext HO.out HP2.out.ext
            have hs1 := HP1.out.ext.size
            have hx7 : Ext w w7 := HP1.out.ext.trans ((hex.trans HP2.out.ext).grow hgrow fun b hb => (own_ge hO2 hb).1)
            have hvs : (List.range L2.length).map (fun i => vs2[i]?.getD (.slice none 0 0)) = vs2 := range_getD HP2.out.row.1
            rw [hvs] at hown'
            have hrows : rowsOk w7 w.heap.size (vs ++ vs2) (L.map (s :: ·) ++ L2) := by
              have h1 := HR.out
              rw [List.take_length] at h1
              have h2 := HP2.out.row.mono hex.size
              exact (((h1.ext HP2.out.ext).append h2).kept hO2 hgrow).mono hs1
            have HF : Hid (Pks w w7 v' (vs ++ vs2) (pk (m + 1) (k + 1) s)) := by
              refine ⟨hx7, ?_, ?_⟩
              · show w7.ownsRow _ _ _ _ (pk (m + 1) (k + 1) s).length _
                rw [show pk (m + 1) (k + 1) s = L.map (s :: ·) ++ L2 by rw [← HL.out, ← HL2.out]; rfl]
                simp only [List.length_append, List.length_map]
                exact own_mono hown' hs1
              · rw [show pk (m + 1) (k + 1) s = L.map (s :: ·) ++ L2 by rw [← HL.out, ← HL2.out]; rfl]
                exact hrows
            clear hown' hgrow hrows hvs
            go_wp2_with fail
            go_ret
            exact ⟨_, _, rfl, HF.out⟩
end Go.Proofs.Ytfdgacpmdlmjnaa
