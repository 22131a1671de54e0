/-
  quicksetref.ownMatrix of a matrix of elements: the same in new memory; the world only grows.
-/
import Derived.Test.YtfdgacpmdlmjnaaChecked
import Derived.WalkKit
import Derived.Deep.Slices
import Derived.Test.YtfdgacpmdlmjnaaOwnC
namespace Go.Proofs.Ytfdgacpmdlmjnaa
open Go.RowKit Go.Deep E
theorem append_ints {P : Program} (w : World) {ops : Array Oper} {rest : List Oper} {o : Oper} {a : Act} {Q : Exit → Act → World → Prop} (hgd : o.guard = none) (s x : Operand) (T : TypeId)
    (ho : o.op = .call { callee := .builtin .append, args := #[s, x], argTypes := #[T, T] }) (base : Nat) (t : TypeId) (ht : P.underlying T = some (.slice t))
    (hinfo : (P.info? t).map (fun i => (i.zero, i.size, i.bytes)) = some (some (.int .i64 0), 1, 8)) (v : Value) (n : Nat) (xs : List Value) (hs : a.eval s = v) (hown : w.ownsRow base t 1 v n xs)
    (b off l c : Nat) (F : Nat → Int) (hx : a.eval x = .slice (some ⟨b, off, none⟩) l c) (hF : ∀ i, i < l → w.cell? ⟨b, off + i, none⟩ = some (.int .i64 (F i))) (hn : n + l ≤ 1099511627776) (hbase : base ≤ w.heap.size)
    (h : ∀ v' w', w'.ownsRow base t 1 v' (n + l) (xs ++ (List.range l).map fun i => .int .i64 (F i)) → w.grownBy w' v.ownBlock → wpList P ops Q rest (a.put o.dst v') w') : wpList P ops Q (o :: rest) a w := by
  obtain ⟨i0, hi, hz0, hz1, hz2⟩ := info_parts hinfo
  refine wpList_append_own w hgd s x T ho base t i0 (.int .i64 0) 1 8 ht hi hz0 hz1 hz2 rfl (by decide) v n xs hs hown ⟨b, off, none⟩ l c ((List.range l).map fun i => .int .i64 (F i)) hx (by simp) ?_ ?_ ?_ ?_ hbase ?_
  · intro j y hj
    have e : j < l := by
      rcases Nat.lt_or_ge j l with e | e
      · exact e
      · rw [List.getElem?_eq_none (by simp; omega)] at hj; cases hj
    rw [List.getElem?_map, List.getElem?_range e] at hj
    cases hj
    rw [Go.WideShapes.add_plain]
    exact hF j e
  · intro y hy
    obtain ⟨i, _, rfl⟩ := List.mem_map.1 hy
    rfl
  · unfold maxLen; omega
  · omega
  · exact fun v' w' h1 h2 _ => h v' w' h1 h2
/-- a matrix in new memory is told -/
def OwnRes (w w' : World) (e : Ending) (n m : Nat) (M : Nat → Nat → E) : Prop := ∃ B c G Cp, e = .returned (.slice (some ⟨B, 0, none⟩) n c) ∧ OwnC w' B n m G Cp M ∧ w.heap.size ≤ B ∧ ∀ r, r < n → w.heap.size ≤ G r ∧ m ≤ Cp r ∧ w'.ownsRow w.heap.size 3 1 (.slice (some ⟨G r, 0, none⟩) m (Cp r)) m ((List.range m).map fun x => .int .i64 (ev (M r x)))
theorem MOf.res {w wr : World} {v : Value} {n m : Nat} {V : Nat → Value} {M : Nat → Nat → E} (h : MOf w wr v n m V M) (hn : 0 < n) (hm : 0 < m) (hi : ∀ s t, s < n → t < n → (V s).ownBlock = (V t).ownBlock → s = t) : OwnRes w wr (.returned v) n m M := by
  have hr : ∀ s, s < n → ∃ y : Nat × Nat, V s = .slice (some ⟨y.1, 0, none⟩) m y.2 ∧ w.heap.size ≤ y.1 ∧ (V s).ownBlock = some y.1 ∧ rowHas wr y.1 3 m (evs (M s)) ∧ m ≤ y.2 := fun s hs => by
    obtain ⟨g, c, h1, h2, h3, h4, h5⟩ := rowHas_of_own (h.row s hs) hm (evs (M s)) (fun i hi => by simp [hi, evs])
    exact ⟨(g, c), h1, h2, h3, h4, h5⟩
  obtain ⟨y, hy⟩ := choose_lt hr
  obtain ⟨B, c, hv, hB, hob, htop, _⟩ := rowHas_of_own h.top hn (fun r => .slice (some ⟨(y r).1, 0, none⟩) m (y r).2) (fun i hi => by simp [hi, (hy i hi).1])
  refine ⟨B, c, fun r => (y r).1, fun r => (y r).2, by rw [hv], ⟨htop, fun r hr => (hy r hr).2.2.2.1, fun r hr e => ?_, fun r s hr hs e => ?_⟩, hB, fun r hr => ⟨(hy r hr).2.1, (hy r hr).2.2.2.2, by rw [← (hy r hr).1]; exact h.row r hr⟩⟩
  · have h1 := own_apart (h.row r hr) h.top (by decide)
    rw [(hy r hr).2.2.1, hob] at h1
    rcases h1 with h1 | h1
    · cases h1
    · exact h1 (congrArg some e)
  · exact hi r s hr hs (by rw [(hy r hr).2.2.1, (hy s hs).2.2.1, e])
set_option maxRecDepth 100000 in
set_option maxHeartbeats 800000 in
theorem ownMatrix_any (a : Option Addr) (n c m : Nat) (A : Nat → Option Addr) (C : Nat → Nat) (M : Nat → Nat → E) (w : World) (hn : 1 ≤ n ∧ n ≤ 8) (hm : 1 ≤ m ∧ m ≤ 8) (h : Mat w a n A (fun _ => m) C fun r i => ev (M r i)) :
    Calls Try.prog 58 #[.slice a n c] w fun e w' => OwnRes w w' e n m M ∧ Ext w w' := by
  obtain ⟨b, o, rfl, hc⟩ := h.at (by omega)
  have HH : Hid (Mat w (some ⟨b, o, none⟩) n A (fun _ => m) C fun r i => ev (M r i)) := h
  have HC : Hid (∀ r, r < n → w.cell? ⟨b, o + r, none⟩ = some (.slice (A r) m (C r))) := hc
  clear h hc
  go_enter Try.func58, Try.ntmps58
  go_wp2_with fail
  go_loopw [3, 8] (fun v i wr => ∃ k : Nat, k ≤ n ∧ i = .int .i64 k ∧ ∃ V, MOf w wr v k m V M ∧ Hid (∀ s t, s < k → t < k → (V s).ownBlock = (V t).ownBlock → s = t)) (fun _ i _ => n - (intOf i).toNat)
  case atStart => exact ⟨0, Nat.zero_le _, rfl, fun _ => .int .i64 0, ⟨Ext.refl _, World.ownsRow_nil _ _ _ _, fun s hs => by omega⟩, fun s t hs => by omega⟩
  case round =>
    obtain ⟨k, hk, rfl, V, hmo, HIN⟩ := hrel
    have HMO : Hid (MOf w wr u3 k m V M) := hmo
    have hx := hmo.ext
    clear hmo
    by_cases hlt : k < n
    · have hck := hx.keeps (HC.out k hlt)
      obtain ⟨br, or, hAk, hrow⟩ := (HH.out.row hlt).at (by omega)
      have HROW : Hid (∀ i, i < m → wr.cell? ⟨br, or + i, none⟩ = some (.int .i64 (ev (M k i)))) := fun i hi => hx.keeps (hrow i hi)
      clear hrow
      rw [hAk] at hck
      go_wp2_with (refine append_ints wr rfl (.const (.slice none 0 0)) (.tmp 13) 23 rfl wr.heap.size 3 Try.underlying23 infoInt (.slice none 0 0) 0 [] rfl (World.ownsRow_nil _ _ _ _) br or m (C k) (fun i => ev (M k i)) rfl HROW.out (by omega) (Nat.le_refl _) ?_)
      intro v1 w1 hown1 hgrow1
      have hx1 : Ext wr w1 := (Ext.refl wr).grow hgrow1 (fun k hk => by cases hk)
      obtain ⟨a9, c9, rfl, hc9⟩ := own_slice hown1
      have HM1 : Hid (MOf w w1 u3 k m V M) := HMO.out.ext' hx1
      have HT1 : Hid (w1.ownsRow w.heap.size 23 1 u3 k ((List.range k).map V)) := HM1.out.top
      have HR1 : Hid (w1.ownsRow w.heap.size 3 1 (.slice a9 m c9) m ((List.range m).map fun x => .int .i64 (ev (M k x)))) := own_mono hown1 hx.size
      have HLT : Hid (∀ g, (Value.slice a9 m c9).ownBlock = some g → wr.heap.size ≤ g) := fun g hg => (hown1.lt g hg).1
      have HNN : Hid ((Value.slice a9 m c9).ownBlock ≠ none) := by
        obtain ⟨g, c, _, _, h3, _, _⟩ := rowHas_of_own hown1 (by omega) (fun i => .int .i64 (ev (M k i))) (fun i hi => by simp [hi])
        show _ ≠ _
        rw [h3]; simp
      have hsz := HM1.out.ext.size
      clear hown1 hgrow1 hc9 hck
      go_wp2_with (first | (at_builtin; refine append_one w1 rfl _ _ 32 rfl w.heap.size 23 (.slice none 0 0) 24 Try.underlying32 infoInts rfl u3 k _ rfl HT1.out (.slice a9 m c9) 1 rfl rfl (by omega) (by omega) hsz ?_) | go_in)
      intro v' w5 hown' hgrow
      have R1 : Hid (∃ V, MOf w w5 v' (k + 1) m V M ∧ ∀ s t, s < k + 1 → t < k + 1 → (V s).ownBlock = (V t).ownBlock → s = t) := by
        have hold : ∀ s, s < k → ∃ g, (V s).ownBlock = some g ∧ g < wr.heap.size := fun s hs => by
          obtain ⟨g, c, _, _, h3, h4, _⟩ := rowHas_of_own (HMO.out.row s hs) (by omega) (evs (M s)) (fun i hi => by simp [hi, evs])
          exact ⟨g, h3, h4.lt⟩
        refine ⟨fun s => if s < k then V s else .slice a9 m c9, ?_, fun s t hs ht e => ?_⟩
        · have hxa : Ext w1 (w1.alloc (.cells #[.slice a9 m c9] 23)) := (Ext.refl w1).alloc _ _
          refine ⟨(HM1.out.ext.trans hxa).grow hgrow (fun k hk => (HT1.out.lt k hk).1), ?_, fun s hs => ?_⟩
          · rw [List.range_succ, List.map_append]
            have e : (List.range k).map (fun s => if s < k then V s else .slice a9 m c9) = (List.range k).map V := List.map_congr_left fun y hy => by rw [if_pos (List.mem_range.1 hy)]
            rw [e]
            simpa using hown'
          · have ht := own_ext HT1.out hxa
            by_cases e : s < k
            · have h1 := own_ext (HM1.out.row s e) hxa
              have h2 := h1.kept hgrow (own_apart h1 ht (by decide))
              simpa [e] using h2
            · have h1 := own_ext HR1.out hxa
              have h2 := h1.kept hgrow (own_apart h1 ht (by decide))
              rw [show s = k by omega]
              simpa using h2
        · replace e : (if s < k then V s else .slice a9 m c9).ownBlock = (if t < k then V t else .slice a9 m c9).ownBlock := e
          by_cases es : s < k
          · by_cases et : t < k
            · rw [if_pos es, if_pos et] at e; exact HIN.out s t es et e
            · rw [if_pos es, if_neg et] at e
              obtain ⟨g, h1, h2⟩ := hold s es
              have := HLT.out g (e.symm.trans h1)
              omega
          · by_cases et : t < k
            · rw [if_neg es, if_pos et] at e
              obtain ⟨g, h1, h2⟩ := hold t et
              have := HLT.out g (e.trans h1)
              omega
            · omega
      clear hown' hgrow
      go_wp2_with fail
      go_roundw
      case rel =>
        obtain ⟨V1, h1, h2⟩ := R1.out
        exact ⟨k + 1, by omega, by go_num, V1, h1, h2⟩
      case measure => simp [intOf]; omega
    · obtain rfl : k = n := by omega
      have HRES : Hid (OwnRes w wr (.returned u3) k m M) := HMO.out.res (by omega) (by omega) HIN.out
      go_wp2_with fail
      go_ret
      exact ⟨HRES.out, hx⟩
end Go.Proofs.Ytfdgacpmdlmjnaa
