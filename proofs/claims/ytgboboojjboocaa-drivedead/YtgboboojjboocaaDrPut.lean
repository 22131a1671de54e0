/-
  drive: what the operations of a put come to, one by one.
-/
import Derived.Test.YtgboboojjboocaaChecked
import Derived.WalkKit
import Derived.BigQuiet
import Derived.Test.YtgboboojjboocaaDrMem
import Derived.Test.YtgboboojjboocaaRegFix
namespace Go.Proofs.Ytgboboojjboocaa
open Go.RowKit Go.Deep Go.BigFrame E
section
variable {P : Program} {o : Oper} {a : Act} {w w' : World} {v : Value}
theorem exec_move (x : Operand) (ho : o.op = .move x) (hx : a.eval x = v) : (execOp a.eval o).run P w = .ok (.value v) w := by rw [run_move x ho, hx]
theorem exec_nil (x : Operand) {ad : Addr} (ho : o.op = .nilCheck x) (hx : a.eval x = .pointer (some ad)) : (execOp a.eval o).run P w = .ok (.value (.pointer (some ad))) w := by
  unfold execOp
  simp only [ho, hx, Sem.run_pure]
theorem exec_field (t : TypeId) (x : Operand) (i : Nat) {p : Value} (ho : o.op = .fieldAddr t x i) (hx : a.eval x = p) (hrun : (Instr.fieldAt t p i).run P w = .ok v w) : (execOp a.eval o).run P w = .ok (.value v) w := by
  unfold execOp
  simp only [ho, hx, Sem.run_bind, hrun, Result.andThen_ok, Sem.run_pure]
theorem exec_arr (t : TypeId) (x : Operand) {p : Value} (ho : o.op = .sliceToArrayPointer t x) (hx : a.eval x = p) (hrun : (Instr.arrayAt t p).run P w = .ok v w) : (execOp a.eval o).run P w = .ok (.value v) w := by
  unfold execOp
  simp only [ho, hx, Sem.run_bind, hrun, Result.andThen_ok, Sem.run_pure]
theorem exec_bslice (t : TypeId) (n : Nat) (parts : Array (Nat × Operand)) (ho : o.op = .buildSlice t n parts) {vs : Array (Nat × Value)} (hx : (parts.map fun (i, x) => (i, a.eval x)) = vs) (hrun : (Instr.buildSlice t n vs).run P w = .ok v w') : (execOp a.eval o).run P w = .ok (.value v) w' := by
  unfold execOp
  simp only [ho, hx, Sem.run_bind, hrun, Result.andThen_ok, Sem.run_pure]
theorem exec_append (s x : Operand) (t : TypeId) (ho : o.op = .call { callee := .builtin .append, args := #[s, x], argTypes := #[t, t] }) {vs vx : Value} (hs : a.eval s = vs) (hx : a.eval x = vx) (hrun : (Builtin.append_ #[t, t] o.type #[vs, vx]).run P w = .ok v w') : (execOp a.eval o).run P w = .ok (.value v) w' := by
  simp [execOp, ho, resolve, invoke, builtin, hs, hx, hrun, Result.andThen]
end
theorem fill_any {place : Nat → Option (Nat × Nat)} {cells : Array Value} {i off size : Nat} {v : Value} {cs pre old post : List Value} (hv : v.cells = cs.toArray) (hp : place i = some (off, size)) (hs : cs.length = size) (hc : cells.toList = pre ++ old ++ post) (h1 : pre.length = off) (h2 : old.length = cs.length) {rest : List (Nat × Value)} :
    Instr.fill place cells ((i, v) :: rest) = Instr.fill place (pre ++ cs ++ post).toArray rest := by
  have hsz : cells.size = pre.length + old.length + post.length := by rw [← Array.length_toList, hc]; simp; omega
  have hf := fill_cells cs off cells pre old post hc h1 h2
  rw [Instr.fill, hp]
  simp only [hv]
  rw [if_neg (by simp; omega)]
  congr 1
  apply Array.toList_inj.1
  rw [← hf]
  simp
theorem build_wt (x : Nat × (Nat → E)) (w : World) : (Instr.build 63 #[(0, .int .i64 x.1), (1, .agg (cts x.2).toArray)]).run Try.prog w = .ok (.agg (wtC x).toArray) w := by
  have hz := (zero_of_info zeroWt).1
  have hfill : Instr.fill (fun x => ([(0, 1), (1, 128)] : List (Nat × Nat))[x]?) (Value.agg (Value.int .i64 0 :: Z128).toArray).cells [(0, .int .i64 x.1), (1, .agg (cts x.2).toArray)] = some (wtC x).toArray := by
    show Instr.fill _ (Value.int .i64 0 :: Z128).toArray _ = _
    rw [fill_any (cs := [.int .i64 x.1]) (off := 0) (size := 1) (pre := []) (old := [.int .i64 0]) (post := Z128) rfl rfl rfl (by simp) rfl rfl]
    rw [fill_any (cs := cts x.2) (off := 1) (size := 128) (pre := [.int .i64 x.1]) (old := Z128) (post := []) rfl rfl (cts_len _) (by simp) rfl (by rw [Z128_len, cts_len])]
    simp [Instr.fill, wtC]
  simp [Instr.build, hz, run_underlying Try.underlying63, sizeOf_of sizeCon, sizeOf_of sizeInt, hfill]
theorem bslice_wt (x : Nat × (Nat → E)) (w : World) : (Instr.buildSlice 49 1 #[(0, .agg (wtC x).toArray)]).run Try.prog w = .ok (.slice (some ⟨w.heap.size, 0, none⟩) 1 1) (w.alloc (boxW x)) := by
  have hz := (zero_of_info zeroWt).1
  have hsz := sizeOf_of (zero_of_info zeroWt).2
  have hfill : ∀ zs : Array Value, zs.size = 129 → Instr.fill (fun i => some (i * 129, 129)) zs [(0, .agg (wtC x).toArray)] = some (wtC x).toArray := fun zs hs => by
    rw [fill_any (cs := wtC x) (off := 0 * 129) (size := 129) (pre := []) (old := zs.toList) (post := []) rfl rfl (wtC_len _) (by simp) rfl (by rw [Array.length_toList, hs, wtC_len])]
    simp [Instr.fill]
  have h2 := hfill ((Array.range 129).map ((Value.agg (Value.int .i64 0 :: Z128).toArray).cells[· % (Value.agg (Value.int .i64 0 :: Z128).toArray).cells.size]!)) (by simp)
  simp only [Instr.buildSlice, Sem.run_bind, run_underlying Try.underlying49, Result.andThen_ok, hsz]
  simp [Sem.run_bind, hz, newRow, newObj]
  rw [h2]
  rfl
theorem load_one {w : World} {ty : TypeId} {d : TypeDesc} (hu : Try.prog.underlying ty = some d) (hd : d.isRow = false) {ad : Addr} {v : Value} (h : w.cell? ad = some v) : (Instr.loadAt ty (.pointer (some ad))).run Try.prog w = .ok v w := by
  have hagg : (isAgg ty).run Try.prog w = .ok false w := by
    unfold isAgg
    rw [Sem.run_bind, run_underlying hu w]
    cases d <;> simp_all
  simp [Instr.loadAt, Instr.sureAddr, loadVar, Sem.run_bind, hagg, h]
theorem array_at (a : Option Addr) (c : Nat) (w : World) : (Instr.arrayAt 61 (.slice a 128 c)).run Try.prog w = .ok (.pointer a) w := by
  simp [Instr.arrayAt, run_underlying Try.underlying61]
theorem field_d1 (gd : Nat) (w : World) : (Instr.fieldAt 51 (.pointer (some ⟨gd, 0, none⟩)) 1).run Try.prog w = .ok (.pointer (some ⟨gd, 1, none⟩)) w := by
  simp [Instr.fieldAt, run_underlying Try.underlying51, go_sem]
theorem field_j1 (gj : Nat) (w : World) : (Instr.fieldAt 34 (.pointer (some ⟨gj, 0, none⟩)) 1).run Try.prog w = .ok (.pointer (some ⟨gj, 1, none⟩)) w := by
  simp [Instr.fieldAt, run_underlying Try.underlying34, go_sem]
theorem field_j3 (gj : Nat) (w : World) : (Instr.fieldAt 34 (.pointer (some ⟨gj, 0, none⟩)) 3).run Try.prog w = .ok (.pointer (some ⟨gj, 3, none⟩)) w := by
  simp [Instr.fieldAt, run_underlying Try.underlying34, go_sem]
end Go.Proofs.Ytgboboojjboocaa
