/-
  A call of a Go function as one step of a region that draws its order.
-/
import Derived.WalkKit
import Derived.Deep.RegionLaw
import Derived.Deep.AppendLies
import Derived.Test.YthgbfakmkdifbaaMm
namespace Go.Proofs.Ythgbfakmkdifbaa
open Go.RowKit Go.Deep
theorem step_call {P : Program} {ops : Array Oper} {o : Oper} {a : Act} {w : World} {K : Act → World → Prop} {Q : Exit → Act → World → Prop} {X : Prop} (hgd : o.guard = none) (f : FuncId) {fn : Func} (hfn : P.funcs[f]? = some fn) (hnm : (fn.name == "runtime.NumGoroutine") = false) (hbd : fn.body.isNone = false) (args : List Operand) (ts : Array TypeId)
    (ho : o.op = .call { callee := .value (.func f), args := args.toArray, argTypes := ts }) (vals : List Value) (hv : args.map a.eval = vals) (v : Value) (R : World → Prop) (hc : Calls P f vals.toArray w fun e w' => e = .returned v ∧ R w')
    (h : ∀ w', R w' → K (a.put o.dst v) w') : if Region.wanted o (yielded ops a.tmps) = true then Oper.wp P o a w K Q else X := by
  have hw : Region.wanted o (yielded ops a.tmps) = true := by simp [Region.wanted, hgd]
  rw [if_pos hw]
  have hx : (execOp a.eval o).run P w = .ok (.enter f vals.toArray) w := by
    subst hv
    simp only [beq_eq_false_iff_ne] at hnm
    simp only [Option.isNone_eq_false_iff] at hbd
    obtain ⟨b, hb⟩ := Option.isSome_iff_exists.1 hbd
    simp [execOp, ho, resolve, invoke, Act.eval, Deferred.ofValue, callFunc, hfn, hnm, hb]
  unfold Oper.wp
  rw [hx]
  unfold Oper.upon
  refine hc.mono fun e w' hh => ?_
  rw [hh.1]
  exact h w' hh.2
/-- .. whose value is told by a condition alone -/
theorem step_callx {P : Program} {ops : Array Oper} {o : Oper} {a : Act} {w : World} {K : Act → World → Prop} {Q : Exit → Act → World → Prop} {X : Prop} (hgd : o.guard = none) (f : FuncId) {fn : Func} (hfn : P.funcs[f]? = some fn) (hnm : (fn.name == "runtime.NumGoroutine") = false) (hbd : fn.body.isNone = false) (args : List Operand) (ts : Array TypeId)
    (ho : o.op = .call { callee := .value (.func f), args := args.toArray, argTypes := ts }) (vals : List Value) (hv : args.map a.eval = vals) (R : Value → World → Prop) (hc : Calls P f vals.toArray w fun e w' => ∃ v, e = .returned v ∧ R v w')
    (h : ∀ v w', R v w' → K (a.put o.dst v) w') : if Region.wanted o (yielded ops a.tmps) = true then Oper.wp P o a w K Q else X := by
  have hw : Region.wanted o (yielded ops a.tmps) = true := by simp [Region.wanted, hgd]
  rw [if_pos hw]
  have hx : (execOp a.eval o).run P w = .ok (.enter f vals.toArray) w := by
    subst hv
    simp only [beq_eq_false_iff_ne] at hnm
    simp only [Option.isNone_eq_false_iff] at hbd
    obtain ⟨b, hb⟩ := Option.isSome_iff_exists.1 hbd
    simp [execOp, ho, resolve, invoke, Act.eval, Deferred.ofValue, callFunc, hfn, hnm, hb]
  unfold Oper.wp
  rw [hx]
  unfold Oper.upon
  refine hc.mono fun e w' hh => ?_
  obtain ⟨v, he, hr⟩ := hh
  rw [he]
  exact h v w' hr
end Go.Proofs.Ythgbfakmkdifbaa
