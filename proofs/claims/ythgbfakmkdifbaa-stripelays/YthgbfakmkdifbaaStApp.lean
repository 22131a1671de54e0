/-
  Two lists of columns of any lengths, grown by append side by side; k zeros more where k may be 0.
-/
import Derived.Test.YthgbfakmkdifbaaChecked
import Derived.WalkKit
import Derived.Test.YthgbfakmkdifbaaStMath
import Derived.Lib.AppendZerosOnto
import Derived.Test.YthgbfakmkdifbaaAppZ
import Derived.Test.YthgbfakmkdifbaaOwnMore
import Derived.Test.YthgbfakmkdifbaaKeepFlet
import Derived.Test.YthgbfakmkdifbaaCApp
namespace Go.Proofs.Ythgbfakmkdifbaa
open Go.RowKit Go.Deep E
theorem zeros_run {P : Program} (w : World) (oT t tn : TypeId) (base : Nat) (e : TypeId) (z : Value) (bytes : Nat) (kn : IntKind) (ht : P.underlying t = some (.slice e)) (htn : P.underlying tn = some (.int kn))
    (hinfo : (P.info? e).map (fun i => (i.zero, i.size, i.bytes)) = some (some z, 1, bytes)) (hzs : z.cells = #[z]) (hz1 : z.oneCell' = true) (v : Value) (n : Nat) (xs : List Value) (hown : w.ownsRow base e 1 v n xs)
    (k : Nat) (h0 : 0 < k) (hn0 : 0 < n) (kq : IntKind) (hb : (n + k) * bytes ≤ 140737488355328) (hb1 : k * bytes ≤ 281474976710656) (hm : n + k ≤ 9223372036854775807) (hbase : base ≤ w.heap.size) :
    ∃ v' w', (Builtin.append_ #[t, tn] oT #[v, .int kq (k : Int)]).run P w = .ok v' w' ∧ w'.ownsRow base e 1 v' (n + k) (xs ++ List.replicate k z) ∧ w.grownBy w' v.ownBlock := by
  obtain ⟨i0, hi, hz0, hzz, hzb⟩ := info_parts hinfo
  have hlen : (xs ++ List.replicate k z).length = (n + k) * 1 := by rw [List.length_append, hown.1, List.length_replicate]; omega
  rcases hown.2 with ⟨rfl, e0⟩ | ⟨g, cap, cur, rfl, hbg, hg, hnc, hcm, hcs, htake⟩
  · omega
  · by_cases hroom : n + k ≤ cap
    · have hfit : n + (List.replicate k z).length ≤ cur.size := by rw [List.length_replicate, hcs]; omega
      have hst := run_storeCells_at P g n e (List.replicate k z) 0 cur w hg (by simpa using hfit) (fun u hu => by rw [List.eq_of_mem_replicate hu]; exact hz1)
      have hk : k ≠ 0 := by omega
      have hw : IntKind.i64.wrap (k : Int) = k := by rw [IntKind.wrap_i64]; omega
      have h48i : ¬ (281474976710656 < (k : Int) * (i0.bytes : Int)) := by
        rw [← Int.natCast_mul, hzb]
        omega
      have hneg : ¬ ((k : Int) < 0) := by omega
      have hr : (Builtin.append_ #[t, tn] oT #[.slice (some ⟨g, 0, none⟩) n cap, .int kq k]).run P w = .ok (.slice (some ⟨g, 0, none⟩) (n + k) cap) (w.setRow g (cur.toList.take n ++ List.replicate k z ++ cur.toList.drop (n + k)).toArray) := by
        simp only [Nat.add_zero, List.length_replicate] at hst
        simp [Builtin.append_, run_underlying ht, run_underlying htn, sizeOf, typeInfo, zeroValue, hi, hz0, hzz, asInt, asIntOf, hw, hroom, hneg, hk, h48i, hzs, zeroCells_one, Addr.add_lit, hst]
      refine ⟨_, _, hr, And.intro ⟨hlen, .inr ⟨g, cap, _, rfl, hbg, setRow_heap w g cur _ e _ hg, hroom, hcm, ?_, ?_⟩⟩ ⟨rfl, rfl, rfl, by simp, fun k _ hk => setRow_other w g k _ (fun e => hk (by simp [Value.ownBlock, e]))⟩⟩
      · simp only [List.size_toArray, List.length_append, List.length_take, List.length_drop, Array.length_toList, List.length_replicate]
        omega
      · rw [Nat.mul_one] at htake
        rw [htake, ← hlen]
        exact List.take_left
    · have hfc : (Builtin.firstCells i0.size n (.slice (some ⟨g, 0, none⟩) n cap)).run P w.drew = .ok xs.toArray w.drew :=
        run_firstCells_some (P := P) w.drew i0.size n ⟨g, 0, none⟩ n cap xs (by rw [hzz]; exact hown.1) (fun j u hj => by
          have := hown.cells (g := g) rfl j u hj
          exact this)
      have hr := Go.Lib.run_append_grow_zeros (P := P) w t tn oT e i0 z kq kn ht htn hi hz0 (some ⟨g, 0, none⟩) n cap xs hfc k h0 (by rw [hzz]; omega) (by omega) (by omega) (by rw [hzb]; exact hb1) (growslice_fits (by omega) (by rw [hzb]; exact hb))
      have hge := grownCap_ge w (n + k) cap e
      have hcm' : grownCap w (n + k) cap e ≤ maxLen := grownCap_le_maxLen w (n + k) cap e (by unfold maxLen; omega)
      rw [hzs, zeroCells_one] at hr
      refine ⟨_, _, hr, And.intro ⟨hlen, .inr ⟨w.heap.size, _, _, rfl, hbase, heap_alloc_new w.drew _, hge, hcm', ?_, ?_⟩⟩ ⟨rfl, rfl, rfl, by simp, fun k hk _ => heap_alloc_old w.drew _ hk⟩⟩
      · rw [zeroCells_one]
        have hx1 := hown.1
        simp only [Array.size_append, List.size_toArray, List.length_replicate]
        omega
      · simp only [Array.toList_append, List.append_assoc]
        rw [← List.append_assoc, ← hlen]
        exact List.take_left
theorem zerosN_run {P : Program} (w : World) (oT t tn : TypeId) (base : Nat) (e : TypeId) (z : Value) (bytes : Nat) (kn : IntKind) (ht : P.underlying t = some (.slice e)) (htn : P.underlying tn = some (.int kn))
    (hinfo : (P.info? e).map (fun i => (i.zero, i.size, i.bytes)) = some (some z, 1, bytes)) (hzs : z.cells = #[z]) (hz1 : z.oneCell' = true) (v : Value) (n : Nat) (xs : List Value) (hown : w.ownsRow base e 1 v n xs)
    (k : Nat) (hn0 : 0 < n) (hb : (n + k) * bytes ≤ 140737488355328) (hb1 : k * bytes ≤ 281474976710656) (hm : n + k ≤ 9223372036854775807) (hbase : base ≤ w.heap.size) :
    ∃ v' w', (Builtin.append_ #[t, tn] oT #[v, .int .i64 (k : Int)]).run P w = .ok v' w' ∧ w'.ownsRow base e 1 v' (n + k) (xs ++ List.replicate k z) ∧ w.grownBy w' v.ownBlock := by
  rcases Nat.eq_zero_or_pos k with e0 | h0
  · subst e0
    rcases hown.2 with ⟨rfl, e0⟩ | ⟨g, cap, cur, rfl, hbg, hg, hnc, hcm, hcs, htake⟩
    · omega
    · obtain ⟨i0, hi, hz0, hzz, hzb⟩ := info_parts hinfo
      have hw0 : IntKind.i64.wrap 0 = 0 := by rw [IntKind.wrap_i64]; omega
      have hr : (Builtin.append_ #[t, tn] oT #[.slice (some ⟨g, 0, none⟩) n cap, .int .i64 (0 : Nat)]).run P w = .ok (.slice (some ⟨g, 0, none⟩) n cap) w := by
        simp [Builtin.append_, run_underlying ht, run_underlying htn, sizeOf, typeInfo, zeroValue, hi, hz0, asInt, asIntOf, hw0, hnc, storeCells]
      refine ⟨_, _, hr, ?_, ⟨rfl, rfl, rfl, Nat.le_refl _, fun _ _ _ => rfl⟩⟩
      simpa using hown
  · exact zeros_run w oT t tn base e z bytes kn ht htn hinfo hzs hz1 v n xs hown k h0 hn0 .i64 hb hb1 hm hbase
theorem append_zerosN {P : Program} (w : World) {ops : Array Oper} {rest : List Oper} {o : Oper} {a : Act} {Q : Exit → Act → World → Prop} (hgd : o.guard = none) (s x : Operand) (t tn : TypeId)
    (ho : o.op = .call { callee := .builtin .append, args := #[s, x], argTypes := #[t, tn] }) (base : Nat) (e : TypeId) (z : Value) (bytes : Nat) (kn : IntKind) (ht : P.underlying t = some (.slice e)) (htn : P.underlying tn = some (.int kn))
    (hinfo : (P.info? e).map (fun i => (i.zero, i.size, i.bytes)) = some (some z, 1, bytes)) (hzs : z.cells = #[z]) (hz1 : z.oneCell' = true) (v : Value) (n : Nat) (xs : List Value) (hs : a.eval s = v) (hown : w.ownsRow base e 1 v n xs)
    (k : Nat) (hn0 : 0 < n) (hx : a.eval x = .int .i64 (k : Int)) (hb : (n + k) * bytes ≤ 140737488355328) (hb1 : k * bytes ≤ 281474976710656) (hm : n + k ≤ 9223372036854775807) (hbase : base ≤ w.heap.size)
    (h : ∀ v' w', w'.ownsRow base e 1 v' (n + k) (xs ++ List.replicate k z) → w.grownBy w' v.ownBlock → wpList P ops Q rest (a.put o.dst v') w') : wpList P ops Q (o :: rest) a w := by
  obtain ⟨v', w', hr, h1, h2⟩ := zerosN_run w o.type t tn base e z bytes kn ht htn hinfo hzs hz1 v n xs hown k hn0 hb hb1 hm hbase
  exact Go.Lib.wpList_append_run w hgd s x t tn ho _ _ hs hx _ _ hr (h _ _ h1 h2)
theorem step_append_zeros {P : Program} (w : World) {ops : Array Oper} {o : Oper} {a : Act} {K : Act → World → Prop} {Q : Exit → Act → World → Prop} {X : Prop} (hgd : o.guard = none) (s x : Operand) (t tn : TypeId)
    (ho : o.op = .call { callee := .builtin .append, args := #[s, x], argTypes := #[t, tn] }) (base : Nat) (e : TypeId) (z : Value) (bytes : Nat) (kn : IntKind) (ht : P.underlying t = some (.slice e)) (htn : P.underlying tn = some (.int kn))
    (hinfo : (P.info? e).map (fun i => (i.zero, i.size, i.bytes)) = some (some z, 1, bytes)) (hzs : z.cells = #[z]) (hz1 : z.oneCell' = true) (v : Value) (n : Nat) (xs : List Value) (hs : a.eval s = v) (hown : w.ownsRow base e 1 v n xs)
    (k : Nat) (hn0 : 0 < n) (hx : a.eval x = .int .i64 (k : Int)) (hb : (n + k) * bytes ≤ 140737488355328) (hb1 : k * bytes ≤ 281474976710656) (hm : n + k ≤ 9223372036854775807) (hbase : base ≤ w.heap.size)
    (h : ∀ v' w', w'.ownsRow base e 1 v' (n + k) (xs ++ List.replicate k z) → w.grownBy w' v.ownBlock → K (a.put o.dst v') w') : if Region.wanted o (yielded ops a.tmps) = true then Oper.wp P o a w K Q else X := by
  have hw : Region.wanted o (yielded ops a.tmps) = true := by simp [Region.wanted, hgd]
  rw [if_pos hw]
  obtain ⟨v', w', hr, h1, h2⟩ := zerosN_run w o.type t tn base e z bytes kn ht htn hinfo hzs hz1 v n xs hown k hn0 hb hb1 hm hbase
  exact Go.Lib.wp_append_run w s x t tn ho _ _ hs hx _ _ hr (h _ _ h1 h2)
/-- one element more, by append, at a step of a region that draws; and where it lies then -/
theorem step_app1 {P : Program} (w1 : World) {ops : Array Oper} {o : Oper} {a : Act} {K : Act → World → Prop} {Q : Exit → Act → World → Prop} {X : Prop} (hgd : o.guard = none) (s x : Operand) (t : TypeId)
    (ho : o.op = .call { callee := .builtin .append, args := #[s, x], argTypes := #[t, t] }) (base : Nat) (e : TypeId) (z : Value) (bytes : Nat) (ht : P.underlying t = some (.slice e))
    (hinfo : (P.info? e).map (fun i => (i.zero, i.size, i.bytes)) = some (some z, 1, bytes)) (hzs : z.cells.size = 1) (v : Value) (n : Nat) (xs : List Value) (hs : a.eval s = v) (hown : w1.ownsRow base e 1 v n xs)
    (u : Value) (c : Nat) (hx : a.eval x = .slice (some ⟨w1.heap.size, 0, none⟩) 1 c) (hu : u.oneCell' = true) (hb : bytes ≤ 64) (hn : n ≤ 1099511627776) (hbase : base ≤ w1.heap.size)
    (h : ∀ g cap w', w'.ownsRow base e 1 (.slice (some ⟨g, 0, none⟩) (n + 1) cap) (n + 1) (xs ++ [u]) → (w1.alloc (.cells #[u] e)).grownBy w' v.ownBlock → (v.ownBlock = some g ∨ w1.heap.size < g) → K (a.put o.dst (.slice (some ⟨g, 0, none⟩) (n + 1) cap)) w') :
    if Region.wanted o (yielded ops a.tmps) = true then Oper.wp P o a (w1.alloc (.cells #[u] e)) K Q else X := by
  obtain ⟨i0, hi, hz0, hz1, hz2⟩ := info_parts hinfo
  refine step_append_lies (w1.alloc (.cells #[u] e)) hgd s x t ho base e i0 z 1 bytes ht hi hz0 hz1 hz2 hzs (by decide) v n xs hs (hown.alloc _) ⟨w1.heap.size, 0, none⟩ 1 c [u] hx rfl ?_ ?_ (by decide) ?_ ?_ ?_ _ rfl ?_
  · intro j y hj
    match j, hj with
    | 0, hj => cases hj; simp [Addr.add]
  · intro y hy; simp at hy; subst hy; exact hu
  · unfold maxLen; omega
  · have : (n + 1) * bytes ≤ (n + 1) * 64 := Nat.mul_le_mul_left _ hb
    omega
  · simp; omega
  · intro g cap w' h1 h2 h3 _
    refine h g cap w' h1 h2 ?_
    rcases h3 with h3 | h3
    · exact Or.inl h3
    · rw [World.size_alloc] at h3
      exact Or.inr (by omega)
theorem pad_map (n k : Nat) (B : Nat → E) : (List.range n).map (bvs B) ++ List.replicate k (.int .u8 0) = (List.range (n + k)).map (bvs (padZ n B)) := by
  rw [List.range_add, List.map_append, List.map_map]
  congr 1
  · refine List.map_congr_left fun i hi => ?_
    have := List.mem_range.1 hi
    unfold bvs padZ
    rw [if_pos this]
  · apply List.ext_getElem?
    intro i
    rw [List.getElem?_replicate]
    by_cases h : i < k
    · rw [if_pos h, List.getElem?_map, List.getElem?_range h]
      simp only [Option.map_some, Function.comp]
      unfold bvs padZ
      rw [if_neg (by omega)]
      rfl
    · rw [if_neg h, List.getElem?_map, List.getElem?_eq_none (by simpa using h)]
      rfl
end Go.Proofs.Ythgbfakmkdifbaa
