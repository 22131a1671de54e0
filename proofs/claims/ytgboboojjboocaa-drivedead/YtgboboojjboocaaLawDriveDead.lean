/-
  A dead drive says nothing; a new one has nothing; one sector that is broken is lost till it is put anew; no condition.
-/
import Derived.Test.YtgboboojjboocaaRows
import Derived.WalkKit
import Derived.ProofKit
import Derived.OpenShut
import Derived.ChangeOld
import Derived.Below
import Derived.BigQuiet
import Derived.Deep.CutRange
import Derived.Deep.QuietTactic
import Derived.Deep.RegionLaw
import Derived.Test.YtgboboojjboocaaOpn
import Derived.Test.YtgboboojjboocaaFlat
import Derived.Test.YtgboboojjboocaaDrKeep
import Derived.Test.YtgboboojjboocaaDrKeep2
import Derived.Test.YtgboboojjboocaaDrDead
import Derived.Test.YtgboboojjboocaaKeepPick
import Derived.Test.YtgboboojjboocaaMk
import Derived.Test.YtgboboojjboocaaDrSec
import Derived.Test.YtgboboojjboocaaRegFix3
import Derived.Test.YtgboboojjboocaaWkDriveDead
namespace Go.Proofs.Ytgboboojjboocaa.driveDead
open Go.ChangeShapes Go.WideShapes Go.ChangeAt Go.RowKit Go.Deep E
set_option linter.unusedVariables false
set_option maxRecDepth 100000 in
theorem flat57 : intsT Try.prog 2 57 (Try.prog.cellsOf 57) := Or.inr ⟨_, Try.underlying57, rfl, fun k hk => by
    have hk : k < 4 := (show Try.prog.cellsOf 57 = 4 by kernel_rfl) ▸ hk
    match k, hk with
    | 0, _ => exact ⟨0, _, rfl, by decide, of_decide_eq_true (by kernel_rfl), Or.inl ⟨Try.underlying3, by kernel_rfl, by kernel_rfl⟩⟩
    | 1, _ => exact ⟨1, _, rfl, by decide, of_decide_eq_true (by kernel_rfl), Or.inl ⟨Try.underlying3, by kernel_rfl, by kernel_rfl⟩⟩
    | 2, _ => exact ⟨2, _, rfl, by decide, of_decide_eq_true (by kernel_rfl), Or.inl ⟨Try.underlying3, by kernel_rfl, by kernel_rfl⟩⟩
    | 3, _ => exact ⟨3, _, rfl, by decide, of_decide_eq_true (by kernel_rfl), Or.inl ⟨Try.underlying3, by kernel_rfl, by kernel_rfl⟩⟩⟩
theorem own : ownKnob Try.prog.godebug = none := by kernel_rfl
theorem laidOut : laidOutB Try.prog = true := by kernel_rfl
set_option maxRecDepth 100000 in
theorem lifted (os : Os) (started : os.Started) (H : Type) (enc : TypeId × Value → H) :
    ReturnsInHanded {} Try.checked os 7 .any (Rows.driveDeadSpec.pre6 enc Try.prog Try.f7 Rows.driveDeadRow.domain false) (Rows.driveDeadSpec.post enc Try.prog Try.f7 false true false false) := by
  refine returnsInHanded_of_change (C := Try.checked) own started (by kernel_rfl) Try.func7
    (ChangeSpec.witness6 (enc := enc) (C := Try.checked) false ⟨#[], #[.slice none 0 0, .int .i64 0, .int .i64 0], []⟩ 8 (by kernel_rfl) (by kernel_rfl) (by kernel_rfl) (by kernel_rfl)) ?_
  intro W base args ds gs before hval0 hW hcnd _
  have hval : ∀ (j : Nat) t v, Try.f7.params[j]? = some t → args[j]? = some v → Value.okWide Try.prog W .any base t v := hval0
  have hW' := hW
  obtain ⟨p, q, hA0, hV, rfl, hfz, hnd⟩ := hW
  have hA : DataW.TrodAll enc Try.prog W 0 (fun _ => true) true Try.f7.params.toList args.toList ds p := hA0
  rw [Try.params7] at hA hval
  obtain ⟨v0, vs0, d0, ds0, p0, q0, hargs, rfl, rfl, h0, r0⟩ := trodAll_cons hA
  obtain ⟨v1, vs1, d1, ds1, p1, q1, rfl, rfl, rfl, h1, r1⟩ := trodAll_cons r0
  obtain ⟨v2, vs2, d2, ds2, p2, q2, rfl, rfl, rfl, h2, r2⟩ := trodAll_cons r1
  obtain ⟨rfl, rfl, rfl⟩ := trodAll_nil r2
  obtain rfl : args = #[v0, v1, v2] := by cases args; simp_all
  obtain ⟨rfl, rfl⟩ := trodVars_none hV
  obtain ⟨a0, n0, c0, rfl⟩ := okWide_slice Try.underlying29 (hval 0 29 v0 rfl rfl)
  have k0 := h0
  have lt0 : ∀ x ∈ p0, x.block < W.heap.size := by obtain ⟨m, hm⟩ := k0; exact DataW.trod_lt m _ _ _ hm
  obtain ⟨F0, i0, b0, s0⟩ := flats_of_trod (n := 4) (by omega) Try.underlying29 (by kernel_rfl) ((show Try.prog.cellsOf 57 = 4 by kernel_rfl) ▸ flat57) h0
  obtain ⟨a1, rfl, rfl, rfl, w1⟩ := open_int Try.underlying3 (hval 1 3 v1 rfl rfl) h1
  obtain ⟨a2, rfl, rfl, rfl, w2⟩ := open_int Try.underlying3 (hval 2 3 v2 rfl rfl) h2
  clear hA0 hval0
  refine (walk a0 n0 c0 F0 a1 a2 W i0 b0 s0 (bounds_i64 w1) (bounds_i64 w2)).mono fun e W' ⟨he, hx⟩ => ?_
  subst he
  have bel := hx.below
  exact ⟨_, rfl, _, _, _, [], _, [], hW', trodAll_mk1 (shut_bool Try.underlying4 _), (trodAll_cons_mk (Below.trod laidOut (by kernel_rfl) (of_decide_eq_true (by kernel_rfl)) k0 bel lt0) (trodAll_cons_mk (shut_int Try.underlying3 w1) (trodAll_cons_mk (shut_int Try.underlying3 w2) trodAll_mk0))), rfl, bel.frame _, fun h => by cases h⟩
theorem over : Rows.driveDeadRow.holds Try.pinned (OpenSpec.ofChange Rows.driveDeadSpec) :=
  OpenClaim.holds_of_wide 7 Try.f7 rfl rfl rfl rfl rfl rfl rfl ⟨rfl, rfl, rfl, rfl, rfl⟩ rfl rfl rfl rfl rfl (by kernel_rfl) Try.func7 (by kernel_rfl)
    (of_decide_eq_true (by kernel_rfl)) (by unfold Func.isWrapper; first | (rw [if_pos (by decide +kernel)]; kernel_rfl) | (rw [if_neg (by decide +kernel)]; exact ⟨rfl, rfl⟩))
    (fun os started H enc _ => lifted os started H enc)
end Go.Proofs.Ytgboboojjboocaa.driveDead
namespace Go.Proofs.Ytgboboojjboocaa
theorem driveDead_holds : Rows.DriveDeadSaid := driveDead.over
#print axioms driveDead_holds
end Go.Proofs.Ytgboboojjboocaa
