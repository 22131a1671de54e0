/-
  slices.Backward over what waits: the iterator's contract.
-/
import Derived.RangeFuncNested
import Derived.RangeFuncBound
import Derived.RangeFuncCalls
import Derived.RangeFuncLeaves
import Derived.Shelf.Abstract
import Derived.Shelf.RegionOpen
import Derived.WalkKit
import Derived.OwnWalkIn
import Derived.TacticsInMore
import Derived.LoopNIn
import Derived.LoopIn
import Derived.Test.YtgboboojjboocaaChecked
import Derived.Laws.Tables
import Derived.Test.YtgboboojjboocaaDrMem
namespace Go.Proofs.Ytgboboojjboocaa
open Go.RowKit Go.Shelf Go.Deep E
attribute [local go_sem] Oper.semAt_some
theorem wpListIn_load_mid {F : Fence} {n : Nat} {P : Program} {w : World} {ops : Array Oper} {rest : List Oper} {op : Oper} {a : Act} {Q : Exit → Act → World → Prop} (hg : op.guard = none) (ty : TypeId) (x : Operand) (ho : op.op = .load ty x)
    (b o : Nat) (hx : a.eval x = .pointer (some ⟨b, o, none⟩)) (cs : List Value) (d : TypeDesc) (hc : w.rangeAt b o cs)
    (hu : P.underlying ty = some d) (hd : d.isRow = true) (hi : (P.info? ty).map (·.size) = some cs.length)
    (hK : wpListIn F n P ops Q rest (a.put op.dst (.agg cs.toArray)) w) : wpListIn F n P ops Q (op :: rest) a w := by
  refine wpListIn_plain hg fun K hK' => ?_
  unfold Oper.wpIn
  refine ⟨by simp [Oper.about, ho], ?_⟩
  rw [Oper.semAt_plain F _ _ (by rw [ho]; intro c hc'; cases hc'), exec_load ty x ho hx (run_loadAt_mid w b o ty cs d hc hu hd hi)]
  exact hK' _ _ hK
theorem exec_store {P : Program} {o : Oper} {a : Act} {w w' : World} (ty : TypeId) (x y : Operand) (ho : o.op = .store ty x y) {p v : Value} (hx : a.eval x = p) (hy : a.eval y = v) (hrun : (Instr.storeAt ty p v).run P w = .ok () w') : (execOp a.eval o).run P w = .ok .skip w' := by
  unfold execOp
  simp only [ho, hx, hy, Sem.run_bind, hrun, Result.andThen_ok, Sem.run_pure]
theorem wpListIn_store_row {F : Fence} {n : Nat} {P : Program} {w : World} {ops : Array Oper} {rest : List Oper} {op : Oper} {a : Act} {Q : Exit → Act → World → Prop} (hg : op.guard = none) (ty : TypeId) (x y : Operand) (ho : op.op = .store ty x y)
    (g : Nat) (cells : Array Value) (hx : a.eval x = .pointer (some ⟨g, 0, none⟩)) (hy : a.eval y = .agg cells) (t : TypeId) (old : Array Value) (hgo : w.heap[g]? = some (.cells old t (0, 0))) (hi : (P.info? ty).map (·.size) = some cells.size)
    (hold : old.size = cells.size) (h1 : cells.all (·.oneCell') = true)
    (hK : wpListIn F n P ops Q rest (a.put op.dst undef) (w.setRow g cells)) : wpListIn F n P ops Q (op :: rest) a w := by
  refine wpListIn_plain hg fun K hK' => ?_
  unfold Oper.wpIn
  refine ⟨by simp [Oper.about, ho], ?_⟩
  have hrun : (Instr.storeAt ty (.pointer (some ⟨g, 0, none⟩)) (.agg cells)).run P w = .ok () (w.setRow g cells) := by
    simp only [Instr.storeAt, Instr.sureAddr, Sem.run_bind, Sem.run_pure, Result.andThen_ok, run_storeVar_row w g t ty old cells hgo hi hold h1]
  rw [Oper.semAt_plain F _ _ (by rw [ho]; intro c hc'; cases hc'), exec_store ty x y ho hx hy hrun]
  exact hK' _ _ hK
def upto {α : Type} (f : Nat → α) (k : Nat) : List α := (List.range k).map f
theorem upto_succ {α : Type} (f : Nat → α) (k : Nat) : upto f (k + 1) = upto f k ++ [f k] := by simp [upto, List.range_succ]
theorem upto_length {α : Type} (f : Nat → α) (k : Nat) : (upto f k).length = k := by simp [upto]
/-- what comes in round k, from behind -/
def bkF (Ws : List (Nat × (Nat → E))) (k : Nat) : Nat × (Nat × (Nat → E)) := (Ws.length - 1 - k, Ws.getD (Ws.length - 1 - k) (0, fun _ => ze))
set_option maxRecDepth 100000 in
set_option maxHeartbeats 2000000 in
theorem bk1_in (n : Nat) (hn : 1 ≤ n) (l Bs n₀ : Nat) (a : Option Addr) (len cap : Nat) (Ws : List (Nat × (Nat → E))) (hlen : Ws.length = len) (h300 : len ≤ 300) (J Jx : List (Nat × (Nat × (Nat → E))) → World → Prop)
    (hY : ∀ pre x W, J pre W → pre.length < len → YieldAt Fence.wide (n - 1) Try.prog l #[.int .i64 (x.1 : Int), .agg (wtC x.2).toArray] W fun e W' =>
      (e = .returned (.bool true) ∧ J (pre ++ [x]) W' ∧ Below n₀ W W') ∨ (e = .returned (.bool false) ∧ Jx (pre ++ [x]) W'))
    (W : World) (hB : Bs < n₀) (hBs : W.cell? ⟨Bs, 0, none⟩ = some (.slice a len cap)) (hE : Els W a 129 (Ws.map wtC)) (hb : ∀ b o, a = some ⟨b, o, none⟩ → b < n₀) (h0 : J [] W) :
    CallsIn Fence.wide n Try.prog 30 #[.func (.yield l) #[] #[], .pointer (some ⟨Bs, 0, none⟩)] W fun e W' => (∃ v, e = .returned v) ∧
      ((∃ ys, ys = upto (bkF Ws) len ∧ J ys W') ∨ (∃ pre, (∃ k, k ≤ len ∧ pre = upto (bkF Ws) k) ∧ Jx pre W')) := by
  have HE : Hid (Els W a 129 (Ws.map wtC)) := hE
  have HL : Hid (Ws.length = len) := hlen
  have HBx : Hid (∀ b o, a = some ⟨b, o, none⟩ → b < n₀) := hb
  clear hE hlen hb
  refine callsIn_of_wp Try.func30 rfl trivial ?_ rfl
  simp only [Try.ntmps30, List.size_toArray, List.length_cons, List.length_nil, Nat.reduceAdd, Nat.reduceSub, Array.replicate_succ, Array.replicate_zero, List.push_toArray, List.append_toArray, List.nil_append, List.cons_append]
  gi_wp2
  gi_loopw [3] (fun i wr => ∃ k : Nat, k ≤ len ∧ i = .int .i64 ((len : Int) - 1 - (k : Int)) ∧ J (upto (bkF Ws) k) wr ∧ Below n₀ W wr)
    (fun i _ => (intOf i + 1).toNat)
  case atStart => exact ⟨0, Nat.zero_le _, by simp, h0, Below.refl _ _⟩
  case round =>
    obtain ⟨k, hk, rfl, hJs, hnx⟩ := hrel
    have hbs := (hnx.cell (p := ⟨Bs, 0, none⟩) hB).trans hBs
    by_cases hlt : k < len
    · obtain ⟨p, hp⟩ : ∃ p : Nat, (len : Int) - 1 - (k : Int) = (p : Int) := ⟨len - 1 - k, by omega⟩
      have hpl : p < len := by omega
      obtain ⟨y, hy1⟩ : ∃ y, Ws[p]? = some y := ⟨_, List.getElem?_eq_getElem (by rw [HL.out]; exact hpl)⟩
      have hf : bkF Ws k = (p, y) := by
        unfold bkF
        rw [HL.out, show len - 1 - k = p by omega, List.getD_eq_getElem?_getD, hy1]
        rfl
      obtain ⟨fn, tmps, assign, body, hy, hR⟩ := hY _ (p, y) wr hJs (by rw [upto_length]; exact hlt)
      dsimp only at hy
      obtain ⟨b, o, ha, hr0⟩ := HE.out p (wtC y) (by rw [List.getElem?_map, hy1]; rfl)
      have hbn := HBx.out b o ha
      have hr : wr.rangeAt b (o + p * 129) (wtC y) := fun j v hv => (hnx.cell (p := ⟨b, o + p * 129 + j, none⟩) hbn).trans (hr0 j v hv)
      have hiw : (Try.prog.info? 63).map (·.size) = some (wtC y).length := by rw [wtC_len]; exact (zero_of_info zeroWt).2
      subst ha
      have hpi : (p : Int) < (len : Int) := by omega
      rw [hp]
      have HP : Hid ((len : Int) - 1 - (k : Int) = (p : Int)) := hp
      have HF : Hid (bkF Ws k = (p, y)) := hf
      clear hp hf hr0 hy1
      gi_wp2_with (first | (refine wpListIn_load_mid rfl 63 _ rfl b (o + p * 129) rfl (wtC y) _ hr Try.underlying63 rfl hiw ?_) | fail)
      refine hR.mono ?_
      rintro e W3 (⟨rfl, hJ3, hk3⟩ | ⟨rfl, hJx3⟩)
      · gi_wp2
        go_roundw
        case rel => exact ⟨k + 1, by omega, by have := HP.out; rw [show ((k + 1 : Nat) : Int) = (k : Int) + 1 by omega, show (len : Int) - 1 - ((k : Int) + 1) = (p : Int) - 1 by omega], by rw [upto_succ, HF.out]; exact hJ3, hnx.trans hk3⟩
        case measure => simp [intOf]
      · gi_wp2
        refine bodyPost_ret (results_none rfl _ _ _) rfl ?_
        exact ⟨⟨_, rfl⟩, .inr ⟨_, ⟨k + 1, by omega, by rw [upto_succ, HF.out]⟩, hJx3⟩⟩
    · obtain rfl : len = k := by omega
      rw [show (len : Int) - 1 - (len : Int) = -1 by omega]
      gi_wp2
      go_end0
      exact ⟨⟨_, rfl⟩, .inl ⟨_, rfl, hJs⟩⟩
/-- the iterator, as the law for its caller asks it -/
theorem bk_stops (n : Nat) (hn : 1 ≤ n) (Bs n₀ : Nat) (a : Option Addr) (len cap : Nat) (Ws : List (Nat × (Nat → E))) (hlen : Ws.length = len) (h300 : len ≤ 300) (w : World) (hB : Bs < n₀) (hn₀ : n₀ ≤ w.heap.size) (hBs : w.cell? ⟨Bs, 0, none⟩ = some (.slice a len cap)) (hE : Els w a 129 (Ws.map wtC)) (hb : ∀ b o, a = some ⟨b, o, none⟩ → b < n₀) :
    SeqStopsK Fence.wide n Try.prog 30 #[.pointer (some ⟨Bs, 0, none⟩)] (fun x : Nat × (Nat × (Nat → E)) => #[.int .i64 (x.1 : Int), .agg (wtC x.2).toArray]) (Below n₀) (fun ys => ys = upto (bkF Ws) len) (fun pre => ∃ k, k ≤ len ∧ pre = upto (bkF Ws) k) len w := fun l J Jx W hW _ _ hY h0 => by
  have hWn := hW.mono hn₀
  refine (bk1_in n hn l Bs n₀ a len cap Ws hlen h300 J Jx hY W hB ((hWn.cell (p := ⟨Bs, 0, none⟩) hB).trans hBs) (fun i cs hi => ?_) hb h0).mono ?_
  · obtain ⟨b, o, ha, hr⟩ := hE i cs hi
    exact ⟨b, o, ha, fun j v hv => (hWn.cell (p := ⟨b, o + i * 129 + j, none⟩) (hb b o ha)).trans (hr j v hv)⟩
  · rintro e W' ⟨he, ⟨ys, rfl, hj⟩ | ⟨pre, ⟨k, hk, rfl⟩, hj⟩⟩
    · exact ⟨he, .inl ⟨_, rfl, hj⟩⟩
    · exact ⟨he, .inr ⟨_, ⟨k, hk, rfl⟩, hj⟩⟩
set_option maxHeartbeats 1000000 in
theorem bk_in (n : Nat) (a : Option Addr) (m c : Nat) (w : World) :
    CallsIn Fence.wide n Try.prog 28 #[.slice a m c] w fun e w' => e = .returned (.func (.func 30) #[] #[.pointer (some ⟨w.heap.size, 0, none⟩)]) ∧ w' = w.alloc (.cells #[.slice a m c] 49) := by
  refine callsIn_of_wp Try.func28 rfl trivial ?_ rfl
  simp only [Try.ntmps28, List.size_toArray, List.length_cons, List.length_nil, Nat.reduceAdd, Nat.reduceSub, Array.replicate_succ, Array.replicate_zero, List.push_toArray, List.append_toArray, List.nil_append, List.cons_append]
  gi_wp2
  go_ret
  exact ⟨rfl, rfl⟩
end Go.Proofs.Ytgboboojjboocaa
