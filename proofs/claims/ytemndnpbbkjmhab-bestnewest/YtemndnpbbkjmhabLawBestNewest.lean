/-
  The newest of those that are whole is taken, whatever else stands there: at every list of what labels are made of, every list of bools and every list of lists of bytes; no condition.
-/
import Derived.Test.YtemndnpbbkjmhabRows
import Derived.WalkKit
import Derived.ProofKit
import Derived.OpenShut
import Derived.ChangeOld
import Derived.Below
import Derived.BigQuiet
import Derived.Deep.CutRange
import Derived.Deep.QuietTactic
import Derived.Deep.RegionLaw
import Derived.Test.YtemndnpbbkjmhabOpn
import Derived.Test.YtemndnpbbkjmhabOpenZ2
import Derived.Test.YtemndnpbbkjmhabFlat
import Derived.Test.YtemndnpbbkjmhabLabNew
import Derived.Test.YtemndnpbbkjmhabWkBestNewest
namespace Go.Proofs.Ytemndnpbbkjmhab.bestNewest
open Go.ChangeShapes Go.WideShapes Go.ChangeAt Go.RowKit Go.Deep E
set_option linter.unusedVariables false
set_option maxRecDepth 100000 in
theorem flat24 : intsT Try.prog 2 24 (Try.prog.cellsOf 24) := Or.inr ⟨_, Try.underlying24, rfl, fun k hk => by
    have hk : k < 4 := (show Try.prog.cellsOf 24 = 4 by kernel_rfl) ▸ hk
    match k, hk with
    | 0, _ => exact ⟨0, _, rfl, by decide, of_decide_eq_true (by kernel_rfl), Or.inl ⟨Try.underlying3, by kernel_rfl, by kernel_rfl⟩⟩
    | 1, _ => exact ⟨1, _, rfl, by decide, of_decide_eq_true (by kernel_rfl), Or.inl ⟨Try.underlying3, by kernel_rfl, by kernel_rfl⟩⟩
    | 2, _ => exact ⟨2, _, rfl, by decide, of_decide_eq_true (by kernel_rfl), Or.inl ⟨Try.underlying3, by kernel_rfl, by kernel_rfl⟩⟩
    | 3, _ => exact ⟨3, _, rfl, by decide, of_decide_eq_true (by kernel_rfl), Or.inl ⟨Try.underlying3, by kernel_rfl, by kernel_rfl⟩⟩⟩
set_option maxRecDepth 100000 in
theorem flat39 : intsT Try.prog 3 39 (Try.prog.cellsOf 39) := Or.inr ⟨_, Try.underlying39, rfl, fun k hk => by
    have hk : k < 12 := (show Try.prog.cellsOf 39 = 12 by kernel_rfl) ▸ hk
    match k, hk with
    | 0, _ => exact ⟨0, _, rfl, by decide, of_decide_eq_true (by kernel_rfl), Or.inl ⟨Try.underlying3, by kernel_rfl, by kernel_rfl⟩⟩
    | 1, _ => exact ⟨1, _, rfl, by decide, of_decide_eq_true (by kernel_rfl), Or.inl ⟨Try.underlying3, by kernel_rfl, by kernel_rfl⟩⟩
    | 2, _ => exact ⟨2, _, rfl, by decide, of_decide_eq_true (by kernel_rfl), Or.inl ⟨Try.underlying3, by kernel_rfl, by kernel_rfl⟩⟩
    | 3, _ => exact ⟨3, _, rfl, by decide, of_decide_eq_true (by kernel_rfl), Or.inl ⟨Try.underlying3, by kernel_rfl, by kernel_rfl⟩⟩
    | 4, _ => exact ⟨4, _, rfl, by decide, of_decide_eq_true (by kernel_rfl), Or.inl ⟨Try.underlying3, by kernel_rfl, by kernel_rfl⟩⟩
    | 5, _ => exact ⟨5, _, rfl, by decide, of_decide_eq_true (by kernel_rfl), Or.inl ⟨Try.underlying3, by kernel_rfl, by kernel_rfl⟩⟩
    | 6, _ => exact ⟨6, _, rfl, by decide, of_decide_eq_true (by kernel_rfl), Or.inl ⟨Try.underlying3, by kernel_rfl, by kernel_rfl⟩⟩
    | 7, _ => exact ⟨7, _, rfl, by decide, of_decide_eq_true (by kernel_rfl), Or.inl ⟨Try.underlying3, by kernel_rfl, by kernel_rfl⟩⟩
    | 8, _ => exact ⟨8, _, rfl, by decide, of_decide_eq_true (by kernel_rfl), flat24⟩
    | 9, _ => exact ⟨8, _, rfl, by decide, of_decide_eq_true (by kernel_rfl), flat24⟩
    | 10, _ => exact ⟨8, _, rfl, by decide, of_decide_eq_true (by kernel_rfl), flat24⟩
    | 11, _ => exact ⟨8, _, rfl, by decide, of_decide_eq_true (by kernel_rfl), flat24⟩⟩
theorem own : ownKnob Try.prog.godebug = none := by kernel_rfl
theorem laidOut : laidOutB Try.prog = true := by kernel_rfl
set_option maxRecDepth 100000 in
theorem lifted (os : Os) (started : os.Started) (H : Type) (enc : TypeId × Value → H) :
    ReturnsInHanded {} Try.checked os 8 .any (Rows.bestNewestSpec.pre6 enc Try.prog Try.f8 Rows.bestNewestRow.domain false) (Rows.bestNewestSpec.post enc Try.prog Try.f8 false true false false) := by
  refine returnsInHanded_of_change_sized (C := Try.checked) own started (by kernel_rfl) Try.func8
    (ChangeSpec.witness6 (enc := enc) (C := Try.checked) false ⟨#[], #[.slice none 0 0, .slice none 0 0, .slice none 0 0], []⟩ 8 (by kernel_rfl) (by kernel_rfl) (by kernel_rfl) (by kernel_rfl)) ?_
  intro W base args ds gs before hval0 hW hcnd hsz0 _
  have hval : ∀ (j : Nat) t v, Try.f8.params[j]? = some t → args[j]? = some v → Value.okWide Try.prog W .any base t v := hval0
  have hW' := hW
  obtain ⟨p, q, hA0, hV, rfl, hfz, hnd⟩ := hW
  have hA : DataW.TrodAll enc Try.prog W 0 (fun _ => true) true Try.f8.params.toList args.toList ds p := hA0
  rw [Try.params8] at hA hval
  have hsz : (DataW.weightsEach Try.prog (Try.f8.params.toList ++ Rows.bestNewestSpec.plain.varTypes Try.prog) (ds ++ gs)).all (· ≤ reachBytes) = true := hsz0
  rw [Try.params8] at hsz
  obtain ⟨v0, vs0, d0, ds0, p0, q0, hargs, rfl, rfl, h0, r0⟩ := trodAll_cons hA
  obtain ⟨v1, vs1, d1, ds1, p1, q1, rfl, rfl, rfl, h1, r1⟩ := trodAll_cons r0
  obtain ⟨v2, vs2, d2, ds2, p2, q2, rfl, rfl, rfl, h2, r2⟩ := trodAll_cons r1
  obtain ⟨rfl, rfl, rfl⟩ := trodAll_nil r2
  obtain rfl : args = #[v0, v1, v2] := by cases args; simp_all
  obtain ⟨rfl, rfl⟩ := trodVars_none hV
  obtain ⟨a0, n0, c0, rfl⟩ := okWide_slice Try.underlying48 (hval 0 48 v0 rfl rfl)
  have k0 := h0
  have lt0 : ∀ x ∈ p0, x.block < W.heap.size := by obtain ⟨m, hm⟩ := k0; exact DataW.trod_lt m _ _ _ hm
  obtain ⟨F0, i0, b0, s0⟩ := flats_of_trod (n := 12) (by omega) Try.underlying48 (by kernel_rfl) ((show Try.prog.cellsOf 39 = 12 by kernel_rfl) ▸ flat39) h0
  obtain ⟨a1, n1, c1, rfl⟩ := okWide_slice Try.underlying49 (hval 1 49 v1 rfl rfl)
  have k1 := h1
  have lt1 : ∀ x ∈ p1, x.block < W.heap.size := by obtain ⟨m, hm⟩ := k1; exact DataW.trod_lt m _ _ _ hm
  obtain ⟨f1, i1, s1⟩ := bools_of_trod Try.underlying49 Try.underlying4 (by kernel_rfl) h1
  obtain ⟨a2, n2, c2, rfl⟩ := okWide_slice Try.underlying34 (hval 2 34 v2 rfl rfl)
  have k2 := h2
  have lt2 : ∀ x ∈ p2, x.block < W.heap.size := by obtain ⟨m, hm⟩ := k2; exact DataW.trod_lt m _ _ _ hm
  obtain ⟨A2, L2, C2, F2, i2, b2⟩ := cols_sized Try.underlying34 Try.underlying22 Try.underlying5 (by kernel_rfl) (by kernel_rfl) (by kernel_rfl) hsz (j := 2) rfl rfl h2
  clear hA0 hval0 hsz0 hsz
  refine (walk a0 n0 c0 F0 a1 n1 c1 f1 a2 n2 c2 A2 L2 C2 F2 W i0 b0 s0 i1 s1 i2 b2).mono fun e W' ⟨he, hx⟩ => ?_
  subst he
  have bel := hx.below
  exact ⟨_, rfl, _, _, _, [], _, [], hW', trodAll_mk1 (shut_bool Try.underlying4 _), (trodAll_cons_mk (Below.trod laidOut (by kernel_rfl) (of_decide_eq_true (by kernel_rfl)) k0 bel lt0) (trodAll_cons_mk (Below.trod laidOut (by kernel_rfl) (of_decide_eq_true (by kernel_rfl)) k1 bel lt1) (trodAll_cons_mk (Below.trod laidOut (by kernel_rfl) (of_decide_eq_true (by kernel_rfl)) k2 bel lt2) trodAll_mk0))), rfl, bel.frame _, fun h => by cases h⟩
theorem over : Rows.bestNewestRow.holds Try.pinned (OpenSpec.ofChange Rows.bestNewestSpec) :=
  OpenClaim.holds_of_wide 8 Try.f8 rfl rfl rfl rfl rfl rfl rfl ⟨rfl, rfl, rfl, rfl, rfl⟩ rfl rfl rfl rfl rfl (by kernel_rfl) Try.func8 (by kernel_rfl)
    (of_decide_eq_true (by kernel_rfl)) (by unfold Func.isWrapper; first | (rw [if_pos (by decide +kernel)]; kernel_rfl) | (rw [if_neg (by decide +kernel)]; exact ⟨rfl, rfl⟩))
    (fun os started H enc _ => lifted os started H enc)
end Go.Proofs.Ytemndnpbbkjmhab.bestNewest
namespace Go.Proofs.Ytemndnpbbkjmhab
theorem bestNewest_holds : Rows.BestNewestSaid := bestNewest.over
#print axioms bestNewest_holds
end Go.Proofs.Ytemndnpbbkjmhab
