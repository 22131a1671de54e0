/-
  A word of a sector that is changed is seen, and one of its seal: at whatever numbers a label is made of, every place and every list of bytes; no condition.
-/
import Derived.Test.YtemndnpbbkjmhabRows
import Derived.WalkKit
import Derived.ProofKit
import Derived.OpenShut
import Derived.ChangeOld
import Derived.Below
import Derived.BigQuiet
import Derived.Deep.CutRange
import Derived.Deep.QuietTactic
import Derived.Deep.RegionLaw
import Derived.Test.YtemndnpbbkjmhabOpn
import Derived.Test.YtemndnpbbkjmhabFlat
import Derived.Test.YtemndnpbbkjmhabLabOf
import Derived.Test.YtemndnpbbkjmhabLabDec2
import Derived.Test.YtemndnpbbkjmhabLabTch
import Derived.Test.YtemndnpbbkjmhabKeepFlet
import Derived.Test.YtemndnpbbkjmhabSameB
import Derived.Test.YtemndnpbbkjmhabOwnC
import Derived.Test.YtemndnpbbkjmhabWkLabelTouched
namespace Go.Proofs.Ytemndnpbbkjmhab.labelTouched
open Go.ChangeShapes Go.WideShapes Go.ChangeAt Go.RowKit Go.Deep E
set_option linter.unusedVariables false
set_option maxRecDepth 100000 in
theorem flat24 : intsT Try.prog 2 24 (Try.prog.cellsOf 24) := Or.inr ⟨_, Try.underlying24, rfl, fun k hk => by
    have hk : k < 4 := (show Try.prog.cellsOf 24 = 4 by kernel_rfl) ▸ hk
    match k, hk with
    | 0, _ => exact ⟨0, _, rfl, by decide, of_decide_eq_true (by kernel_rfl), Or.inl ⟨Try.underlying3, by kernel_rfl, by kernel_rfl⟩⟩
    | 1, _ => exact ⟨1, _, rfl, by decide, of_decide_eq_true (by kernel_rfl), Or.inl ⟨Try.underlying3, by kernel_rfl, by kernel_rfl⟩⟩
    | 2, _ => exact ⟨2, _, rfl, by decide, of_decide_eq_true (by kernel_rfl), Or.inl ⟨Try.underlying3, by kernel_rfl, by kernel_rfl⟩⟩
    | 3, _ => exact ⟨3, _, rfl, by decide, of_decide_eq_true (by kernel_rfl), Or.inl ⟨Try.underlying3, by kernel_rfl, by kernel_rfl⟩⟩⟩
set_option maxRecDepth 100000 in
theorem flat39 : intsT Try.prog 3 39 (Try.prog.cellsOf 39) := Or.inr ⟨_, Try.underlying39, rfl, fun k hk => by
    have hk : k < 12 := (show Try.prog.cellsOf 39 = 12 by kernel_rfl) ▸ hk
    match k, hk with
    | 0, _ => exact ⟨0, _, rfl, by decide, of_decide_eq_true (by kernel_rfl), Or.inl ⟨Try.underlying3, by kernel_rfl, by kernel_rfl⟩⟩
    | 1, _ => exact ⟨1, _, rfl, by decide, of_decide_eq_true (by kernel_rfl), Or.inl ⟨Try.underlying3, by kernel_rfl, by kernel_rfl⟩⟩
    | 2, _ => exact ⟨2, _, rfl, by decide, of_decide_eq_true (by kernel_rfl), Or.inl ⟨Try.underlying3, by kernel_rfl, by kernel_rfl⟩⟩
    | 3, _ => exact ⟨3, _, rfl, by decide, of_decide_eq_true (by kernel_rfl), Or.inl ⟨Try.underlying3, by kernel_rfl, by kernel_rfl⟩⟩
    | 4, _ => exact ⟨4, _, rfl, by decide, of_decide_eq_true (by kernel_rfl), Or.inl ⟨Try.underlying3, by kernel_rfl, by kernel_rfl⟩⟩
    | 5, _ => exact ⟨5, _, rfl, by decide, of_decide_eq_true (by kernel_rfl), Or.inl ⟨Try.underlying3, by kernel_rfl, by kernel_rfl⟩⟩
    | 6, _ => exact ⟨6, _, rfl, by decide, of_decide_eq_true (by kernel_rfl), Or.inl ⟨Try.underlying3, by kernel_rfl, by kernel_rfl⟩⟩
    | 7, _ => exact ⟨7, _, rfl, by decide, of_decide_eq_true (by kernel_rfl), Or.inl ⟨Try.underlying3, by kernel_rfl, by kernel_rfl⟩⟩
    | 8, _ => exact ⟨8, _, rfl, by decide, of_decide_eq_true (by kernel_rfl), flat24⟩
    | 9, _ => exact ⟨8, _, rfl, by decide, of_decide_eq_true (by kernel_rfl), flat24⟩
    | 10, _ => exact ⟨8, _, rfl, by decide, of_decide_eq_true (by kernel_rfl), flat24⟩
    | 11, _ => exact ⟨8, _, rfl, by decide, of_decide_eq_true (by kernel_rfl), flat24⟩⟩
theorem own : ownKnob Try.prog.godebug = none := by kernel_rfl
theorem laidOut : laidOutB Try.prog = true := by kernel_rfl
set_option maxRecDepth 100000 in
theorem lifted (os : Os) (started : os.Started) (H : Type) (enc : TypeId × Value → H) :
    ReturnsInHanded {} Try.checked os 7 .any (Rows.labelTouchedSpec.pre6 enc Try.prog Try.f7 Rows.labelTouchedRow.domain false) (Rows.labelTouchedSpec.post enc Try.prog Try.f7 false true false false) := by
  refine returnsInHanded_of_change (C := Try.checked) own started (by kernel_rfl) Try.func7
    (ChangeSpec.witness6 (enc := enc) (C := Try.checked) false ⟨#[], #[.agg #[.int .i64 0, .int .i64 0, .int .i64 0, .int .i64 0, .int .i64 0, .int .i64 0, .int .i64 0, .int .i64 0, .int .i64 0, .int .i64 0, .int .i64 0, .int .i64 0], .int .i64 0, .slice none 0 0], []⟩ 8 (by kernel_rfl) (by kernel_rfl) (by kernel_rfl) (by kernel_rfl)) ?_
  intro W base args ds gs before hval0 hW hcnd _
  have hval : ∀ (j : Nat) t v, Try.f7.params[j]? = some t → args[j]? = some v → Value.okWide Try.prog W .any base t v := hval0
  have hW' := hW
  obtain ⟨p, q, hA0, hV, rfl, hfz, hnd⟩ := hW
  have hA : DataW.TrodAll enc Try.prog W 0 (fun _ => true) true Try.f7.params.toList args.toList ds p := hA0
  rw [Try.params7] at hA hval
  obtain ⟨v0, vs0, d0, ds0, p0, q0, hargs, rfl, rfl, h0, r0⟩ := trodAll_cons hA
  obtain ⟨v1, vs1, d1, ds1, p1, q1, rfl, rfl, rfl, h1, r1⟩ := trodAll_cons r0
  obtain ⟨v2, vs2, d2, ds2, p2, q2, rfl, rfl, rfl, h2, r2⟩ := trodAll_cons r1
  obtain ⟨rfl, rfl, rfl⟩ := trodAll_nil r2
  obtain rfl : args = #[v0, v1, v2] := by cases args; simp_all
  obtain ⟨rfl, rfl⟩ := trodVars_none hV
  obtain ⟨cs0, rfl, cz0⟩ := okWide_struct Try.underlying39 (hval 0 39 v0 rfl rfl)
  obtain ⟨s0, es0, b0⟩ := flat_of_trod ((show Try.prog.cellsOf 39 = 12 by kernel_rfl) ▸ flat39) h0
  obtain rfl : cs0 = #[.int .i64 (s0 0), .int .i64 (s0 1), .int .i64 (s0 2), .int .i64 (s0 3), .int .i64 (s0 4), .int .i64 (s0 5), .int .i64 (s0 6), .int .i64 (s0 7), .int .i64 (s0 8), .int .i64 (s0 9), .int .i64 (s0 10), .int .i64 (s0 11)] := Array.ext' (by rw [es0]; rfl)
  have k0 := h0
  have lt0 : ∀ x ∈ p0, x.block < W.heap.size := by obtain ⟨m, hm⟩ := k0; exact DataW.trod_lt m _ _ _ hm
  obtain ⟨a1, rfl, rfl, rfl, w1⟩ := open_int Try.underlying3 (hval 1 3 v1 rfl rfl) h1
  obtain ⟨a2, n2, c2, rfl⟩ := okWide_slice Try.underlying22 (hval 2 22 v2 rfl rfl)
  have k2 := h2
  have lt2 : ∀ x ∈ p2, x.block < W.heap.size := by obtain ⟨m, hm⟩ := k2; exact DataW.trod_lt m _ _ _ hm
  obtain ⟨f2, i2, b2⟩ := byts_of_trod Try.underlying22 Try.underlying5 (by kernel_rfl) h2
  clear hA0 hval0
  refine (walk s0 a1 a2 n2 c2 f2 W b0 (bounds_i64 w1) i2 b2).mono fun e W' ⟨he, hx⟩ => ?_
  subst he
  have bel := hx.below
  exact ⟨_, rfl, _, _, _, [], _, [], hW', trodAll_mk1 (shut_bool Try.underlying4 _), (trodAll_cons_mk (Below.trod laidOut (by kernel_rfl) (of_decide_eq_true (by kernel_rfl)) k0 bel lt0) (trodAll_cons_mk (shut_int Try.underlying3 w1) (trodAll_cons_mk (Below.trod laidOut (by kernel_rfl) (of_decide_eq_true (by kernel_rfl)) k2 bel lt2) trodAll_mk0))), rfl, bel.frame _, fun h => by cases h⟩
theorem over : Rows.labelTouchedRow.holds Try.pinned (OpenSpec.ofChange Rows.labelTouchedSpec) :=
  OpenClaim.holds_of_wide 7 Try.f7 rfl rfl rfl rfl rfl rfl rfl ⟨rfl, rfl, rfl, rfl, rfl⟩ rfl rfl rfl rfl rfl (by kernel_rfl) Try.func7 (by kernel_rfl)
    (of_decide_eq_true (by kernel_rfl)) (by unfold Func.isWrapper; first | (rw [if_pos (by decide +kernel)]; kernel_rfl) | (rw [if_neg (by decide +kernel)]; exact ⟨rfl, rfl⟩))
    (fun os started H enc _ => lifted os started H enc)
end Go.Proofs.Ytemndnpbbkjmhab.labelTouched
namespace Go.Proofs.Ytemndnpbbkjmhab
theorem labelTouched_holds : Rows.LabelTouchedSaid := labelTouched.over
#print axioms labelTouched_holds
end Go.Proofs.Ytemndnpbbkjmhab
