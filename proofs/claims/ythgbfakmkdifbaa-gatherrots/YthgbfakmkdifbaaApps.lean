/-
  A call of a Go function as one step of a region that draws its order.
-/
import Derived.WalkKit
import Derived.Deep.RegionLaw
import Derived.Deep.AppendLies
import Derived.Test.YthgbfakmkdifbaaMm
import Derived.Lib.AppendZerosOnto
import Derived.Test.YthgbfakmkdifbaaByb
import Derived.Laws.CopyOwn
namespace Go.Proofs.Ythgbfakmkdifbaa
open Go.RowKit Go.Deep
theorem step_call {P : Program} {ops : Array Oper} {o : Oper} {a : Act} {w : World} {K : Act → World → Prop} {Q : Exit → Act → World → Prop} {X : Prop} (hgd : o.guard = none) (f : FuncId) {fn : Func} (hfn : P.funcs[f]? = some fn) (hnm : (fn.name == "runtime.NumGoroutine") = false) (hbd : fn.body.isNone = false) (args : List Operand) (ts : Array TypeId)
    (ho : o.op = .call { callee := .value (.func f), args := args.toArray, argTypes := ts }) (vals : List Value) (hv : args.map a.eval = vals) (v : Value) (R : World → Prop) (hc : Calls P f vals.toArray w fun e w' => e = .returned v ∧ R w')
    (h : ∀ w', R w' → K (a.put o.dst v) w') : if Region.wanted o (yielded ops a.tmps) = true then Oper.wp P o a w K Q else X := by
  have hw : Region.wanted o (yielded ops a.tmps) = true := by simp [Region.wanted, hgd]
  rw [if_pos hw]
  have hx : (execOp a.eval o).run P w = .ok (.enter f vals.toArray) w := by
    subst hv
    simp only [beq_eq_false_iff_ne] at hnm
    simp only [Option.isNone_eq_false_iff] at hbd
    obtain ⟨b, hb⟩ := Option.isSome_iff_exists.1 hbd
    simp [execOp, ho, resolve, invoke, Act.eval, Deferred.ofValue, callFunc, hfn, hnm, hb]
  unfold Oper.wp
  rw [hx]
  unfold Oper.upon
  refine hc.mono fun e w' hh => ?_
  rw [hh.1]
  exact h w' hh.2
/-- .. whose value is told by a condition alone -/
theorem step_callx {P : Program} {ops : Array Oper} {o : Oper} {a : Act} {w : World} {K : Act → World → Prop} {Q : Exit → Act → World → Prop} {X : Prop} (hgd : o.guard = none) (f : FuncId) {fn : Func} (hfn : P.funcs[f]? = some fn) (hnm : (fn.name == "runtime.NumGoroutine") = false) (hbd : fn.body.isNone = false) (args : List Operand) (ts : Array TypeId)
    (ho : o.op = .call { callee := .value (.func f), args := args.toArray, argTypes := ts }) (vals : List Value) (hv : args.map a.eval = vals) (R : Value → World → Prop) (hc : Calls P f vals.toArray w fun e w' => ∃ v, e = .returned v ∧ R v w')
    (h : ∀ v w', R v w' → K (a.put o.dst v) w') : if Region.wanted o (yielded ops a.tmps) = true then Oper.wp P o a w K Q else X := by
  have hw : Region.wanted o (yielded ops a.tmps) = true := by simp [Region.wanted, hgd]
  rw [if_pos hw]
  have hx : (execOp a.eval o).run P w = .ok (.enter f vals.toArray) w := by
    subst hv
    simp only [beq_eq_false_iff_ne] at hnm
    simp only [Option.isNone_eq_false_iff] at hbd
    obtain ⟨b, hb⟩ := Option.isSome_iff_exists.1 hbd
    simp [execOp, ho, resolve, invoke, Act.eval, Deferred.ofValue, callFunc, hfn, hnm, hb]
  unfold Oper.wp
  rw [hx]
  unfold Oper.upon
  refine hc.mono fun e w' hh => ?_
  obtain ⟨v, he, hr⟩ := hh
  rw [he]
  exact h v w' hr
end Go.Proofs.Ythgbfakmkdifbaa
/-
  append(x, make([]T, k)...): k zeros more onto a slice of the call's own, in its row or in a new one.
-/
namespace Go.Proofs.Ythgbfakmkdifbaa
open Go.RowKit Go.Deep
theorem zeroCells_one (z : Value) (k : Nat) : Builtin.zeroCells #[z] k = (List.replicate k z).toArray := by
  apply Array.ext
  · simp [Builtin.zeroCells]
  · intro i h1 h2
    simp [Builtin.zeroCells, Nat.mod_one]
section
variable {P : Program}
theorem append_zeros (w : World) {ops : Array Oper} {rest : List Oper} {o : Oper} {a : Act} {Q : Exit → Act → World → Prop} (hgd : o.guard = none) (s x : Operand) (t tn : TypeId)
    (ho : o.op = .call { callee := .builtin .append, args := #[s, x], argTypes := #[t, tn] }) (base : Nat) (e : TypeId) (z : Value) (bytes : Nat) (kn : IntKind) (ht : P.underlying t = some (.slice e)) (htn : P.underlying tn = some (.int kn))
    (hinfo : (P.info? e).map (fun i => (i.zero, i.size, i.bytes)) = some (some z, 1, bytes)) (hzs : z.cells = #[z]) (hz1 : z.oneCell' = true) (v : Value) (n : Nat) (xs : List Value) (hs : a.eval s = v) (hown : w.ownsRow base e 1 v n xs)
    (k : Nat) (h0 : 0 < k) (hn0 : 0 < n) (kq : IntKind) (hx : a.eval x = .int kq (k : Int)) (hb : (n + k) * bytes ≤ 140737488355328) (hb1 : k * bytes ≤ 281474976710656) (hm : n + k ≤ 9223372036854775807) (hbase : base ≤ w.heap.size)
    (h : ∀ v' w', w'.ownsRow base e 1 v' (n + k) (xs ++ List.replicate k z) → w.grownBy w' v.ownBlock → wpList P ops Q rest (a.put o.dst v') w') : wpList P ops Q (o :: rest) a w := by
  obtain ⟨i0, hi, hz0, hzz, hzb⟩ := info_parts hinfo
  have hlen : (xs ++ List.replicate k z).length = (n + k) * 1 := by rw [List.length_append, hown.1, List.length_replicate]; omega
  rcases hown.2 with ⟨rfl, e0⟩ | ⟨g, cap, cur, rfl, hbg, hg, hnc, hcm, hcs, htake⟩
  · omega
  · by_cases hroom : n + k ≤ cap
    · have hfit : n + (List.replicate k z).length ≤ cur.size := by rw [List.length_replicate, hcs]; omega
      have hst := run_storeCells_at P g n e (List.replicate k z) 0 cur w hg (by simpa using hfit) (fun u hu => by rw [List.eq_of_mem_replicate hu]; exact hz1)
      have hk : k ≠ 0 := by omega
      have hw : IntKind.i64.wrap (k : Int) = k := by rw [IntKind.wrap_i64]; omega
      have h48i : ¬ (281474976710656 < (k : Int) * (i0.bytes : Int)) := by
        rw [← Int.natCast_mul, hzb]
        omega
      have hneg : ¬ ((k : Int) < 0) := by omega
      have hr : (Builtin.append_ #[t, tn] o.type #[.slice (some ⟨g, 0, none⟩) n cap, .int kq k]).run P w = .ok (.slice (some ⟨g, 0, none⟩) (n + k) cap) (w.setRow g (cur.toList.take n ++ List.replicate k z ++ cur.toList.drop (n + k)).toArray) := by
        simp only [Nat.add_zero, List.length_replicate] at hst
        simp [Builtin.append_, run_underlying ht, run_underlying htn, sizeOf, typeInfo, zeroValue, hi, hz0, hzz, asInt, asIntOf, hw, hroom, hneg, hk, h48i, hzs, zeroCells_one, Addr.add_lit, hst]
      refine Go.Lib.wpList_append_run w hgd s x t tn ho _ _ hs hx _ _ hr (h _ _ ⟨hlen, .inr ⟨g, cap, _, rfl, hbg, setRow_heap w g cur _ e _ hg, hroom, hcm, ?_, ?_⟩⟩ ⟨rfl, rfl, rfl, by simp, fun k _ hk => setRow_other w g k _ (fun e => hk (by simp [Value.ownBlock, e]))⟩)
      · simp only [List.size_toArray, List.length_append, List.length_take, List.length_drop, Array.length_toList, List.length_replicate]
        omega
      · rw [Nat.mul_one] at htake
        rw [htake, ← hlen]
        exact List.take_left
    · have hfc : (Builtin.firstCells i0.size n (.slice (some ⟨g, 0, none⟩) n cap)).run P w.drew = .ok xs.toArray w.drew :=
        run_firstCells_some (P := P) w.drew i0.size n ⟨g, 0, none⟩ n cap xs (by rw [hzz]; exact hown.1) (fun j u hj => by
          have := hown.cells (g := g) rfl j u hj
          exact this)
      have hr := Go.Lib.run_append_grow_zeros (P := P) w t tn o.type e i0 z kq kn ht htn hi hz0 (some ⟨g, 0, none⟩) n cap xs hfc k h0 (by rw [hzz]; omega) (by omega) (by omega) (by rw [hzb]; exact hb1) (growslice_fits (by omega) (by rw [hzb]; exact hb))
      have hge := grownCap_ge w (n + k) cap e
      have hcm' : grownCap w (n + k) cap e ≤ maxLen := grownCap_le_maxLen w (n + k) cap e (by unfold maxLen; omega)
      rw [hzs, zeroCells_one] at hr
      refine Go.Lib.wpList_append_run w hgd s x t tn ho _ _ hs hx _ _ hr (h _ _ ⟨hlen, .inr ⟨w.heap.size, _, _, rfl, hbase, heap_alloc_new w.drew _, hge, hcm', ?_, ?_⟩⟩ ⟨rfl, rfl, rfl, by simp, fun k hk _ => heap_alloc_old w.drew _ hk⟩)
      · rw [zeroCells_one]
        have hx1 := hown.1
        simp only [Array.size_append, List.size_toArray, List.length_replicate]
        omega
      · simp only [Array.toList_append, List.append_assoc]
        rw [← List.append_assoc, ← hlen]
        exact List.take_left
end
end Go.Proofs.Ythgbfakmkdifbaa
/-
  Slices that a call makes by append, told by where they lie; elements that are moved up by one, inside such a slice.
-/
namespace Go.Proofs.Ythgbfakmkdifbaa
open Go.RowKit Go.Deep
def IV (z : Int) : Value := .int .i64 z
/-- one element more, by append; and where it lies then -/
theorem append_one_lies {P : Program} (w1 : World) {ops : Array Oper} {rest : List Oper} {o : Oper} {a : Act} {Q : Exit → Act → World → Prop} (hgd : o.guard = none) (s x : Operand) (t : TypeId)
    (ho : o.op = .call { callee := .builtin .append, args := #[s, x], argTypes := #[t, t] }) (base : Nat) (e : TypeId) (z : Value) (bytes : Nat) (ht : P.underlying t = some (.slice e))
    (hinfo : (P.info? e).map (fun i => (i.zero, i.size, i.bytes)) = some (some z, 1, bytes)) (hzs : z.cells.size = 1) (v : Value) (n : Nat) (xs : List Value) (hs : a.eval s = v) (hown : w1.ownsRow base e 1 v n xs)
    (u : Value) (c : Nat) (hx : a.eval x = .slice (some ⟨w1.heap.size, 0, none⟩) 1 c) (hu : u.oneCell' = true) (hb : bytes ≤ 64) (hn : n ≤ 1099511627776) (hbase : base ≤ w1.heap.size)
    (h : ∀ g cap w', w'.ownsRow base e 1 (.slice (some ⟨g, 0, none⟩) (n + 1) cap) (n + 1) (xs ++ [u]) → (w1.alloc (.cells #[u] e)).grownBy w' v.ownBlock → (v.ownBlock = some g ∨ w1.heap.size < g) → n + 1 ≤ cap → wpList P ops Q rest (a.put o.dst (.slice (some ⟨g, 0, none⟩) (n + 1) cap)) w') : wpList P ops Q (o :: rest) a (w1.alloc (.cells #[u] e)) := by
  obtain ⟨i0, hi, hz0, hz1, hz2⟩ := info_parts hinfo
  refine wpList_append_lies (w1.alloc (.cells #[u] e)) hgd s x t ho base e i0 z 1 bytes ht hi hz0 hz1 hz2 hzs (by decide) v n xs hs (hown.alloc _) ⟨w1.heap.size, 0, none⟩ 1 c [u] hx rfl ?_ ?_ (by decide) ?_ ?_ ?_ _ rfl ?_
  · intro j y hj
    match j, hj with
    | 0, hj => cases hj; simp [Addr.add]
  · intro y hy; simp at hy; subst hy; exact hu
  · unfold maxLen; omega
  · have : (n + 1) * bytes ≤ (n + 1) * 64 := Nat.mul_le_mul_left _ hb
    omega
  · simp; omega
  · intro g cap w' h1 h2 h3 _
    refine h g cap w' h1 h2 ?_ ?_
    · rcases h3 with h3 | h3
      · exact Or.inl h3
      · rw [World.size_alloc] at h3
        exact Or.inr (by omega)
    · rcases h1.2 with ⟨h4, _⟩ | ⟨g', cap', cur, h4, _, _, h5, _⟩
      · cases h4
      · cases h4; exact h5
/-- copy(x[q+1:], x[q:]) -/
theorem copy_up {P : Program} {w : World} {ops : Array Oper} {rest : List Oper} {o : Oper} {a : Act} {Q : Exit → Act → World → Prop} (hgd : o.guard = none) (d s : Operand) (T : TypeId)
    (ho : o.op = .call { callee := .builtin .copy, args := #[d, s], argTypes := #[T, T] }) (e : TypeId) (hu : P.underlying T = some (.slice e)) (hsz : (P.info? e).map (·.size) = some 1)
    (base g N cap q : Nat) (xs : List Value) (hown : w.ownsRow base e 1 (.slice (some ⟨g, 0, none⟩) N cap) N xs) (hq : q < N) (h1 : ∀ v ∈ xs, v.oneCell' = true)
    (hd : a.eval d = .slice (subA (some ⟨g, 0, none⟩) cap (q + 1)) (N - (q + 1)) (cap - (q + 1))) (hs : a.eval s = .slice (subA (some ⟨g, 0, none⟩) cap q) (N - q) (cap - q))
    (h : ∀ w', w'.ownsRow base e 1 (.slice (some ⟨g, 0, none⟩) N cap) N (xs.take (q + 1) ++ (xs.drop q).take (N - (q + 1))) → w.grownBy w' (some g) → wpList P ops Q rest (a.put o.dst (goInt (N - (q + 1) : Nat))) w') : wpList P ops Q (o :: rest) a w := by
  have hl : xs.length = N := by have := hown.1; omega
  rcases hown.2 with ⟨h4, _⟩ | ⟨g', cap', cur, h4, hbg, hcur, hnc, hcm, hcs, htake⟩
  · cases h4
  cases h4
  rcases Nat.eq_zero_or_pos (N - (q + 1)) with e0 | h0
  · refine wpList_copy_nothing hgd d s T T ho e hu hsz _ _ _ _ _ _ hd hs (by rw [e0]; exact Nat.min_zero _) ?_
    have := h w (by rw [e0, List.take_zero, List.append_nil, List.take_of_length_le (by omega)]; exact hown) ⟨rfl, rfl, rfl, Nat.le_refl _, fun _ _ _ => rfl⟩
    rw [e0] at this
    exact this
  have hc1 : subA (some (⟨g, 0, none⟩ : Addr)) cap (q + 1) = some ⟨g, q + 1, none⟩ := by rw [subA_some (by omega), Nat.zero_add]
  have hc2 : subA (some (⟨g, 0, none⟩ : Addr)) cap q = some ⟨g, q, none⟩ := by rw [subA_some (by omega), Nat.zero_add]
  rw [hc1] at hd
  rw [hc2] at hs
  obtain ⟨cs, hcs0⟩ : ∃ cs, cs = (xs.drop q).take (N - (q + 1)) := ⟨_, rfl⟩
  have hcl : cs.length = N - (q + 1) := by rw [hcs0, List.length_take, List.length_drop]; omega
  have hx : cur.toList.take N = xs := by simpa using htake
  refine wpList_copy_own hgd d s T T ho e hu hsz g (q + 1) _ _ ⟨g, q, none⟩ _ _ hd hs cur e hcur cs ?_ ?_ ?_ ?_ ?_
  · rw [hcl]; exact (Nat.min_eq_right (by omega)).symm
  · intro j v hj
    have hjl : j < N - (q + 1) := by
      have := (List.getElem?_eq_some_iff.1 hj).1
      omega
    rw [hcs0, List.getElem?_take, if_pos hjl, List.getElem?_drop] at hj
    rw [show (⟨g, q, none⟩ : Addr).add j = ⟨g, q + j, none⟩ from by simp [Addr.add], hown.cellAt _ (by omega)]
    exact hj
  · rw [hcl]; omega
  · intro v hv
    rw [hcs0] at hv
    exact h1 v (List.mem_of_mem_drop (List.mem_of_mem_take hv))
  · rw [hcl]
    refine h _ ?_ ⟨rfl, rfl, rfl, by simp, fun k _ hk => setRow_other _ _ _ _ fun e => hk (by rw [e])⟩
    rw [← hcs0]
    have hA : cur.toList.take (q + 1) = xs.take (q + 1) := by rw [← hx, List.take_take, Nat.min_eq_left (by omega)]
    refine ⟨?_, Or.inr ⟨g, cap, _, rfl, hbg, setRow_heap w g cur _ e _ hcur, hnc, hcm, ?_, ?_⟩⟩
    · rw [List.length_append, List.length_take, hcl]; omega
    · have : cur.toList.length = cur.size := Array.length_toList
      simp only [List.size_toArray, List.length_append, List.length_take, List.length_drop, hcl]
      omega
    · rw [hA, ← List.append_assoc, Nat.mul_one]
      show List.take N ((xs.take (q + 1) ++ cs) ++ _) = _
      rw [List.take_left' (by rw [List.length_append, List.length_take, hcl]; omega)]
end Go.Proofs.Ythgbfakmkdifbaa
