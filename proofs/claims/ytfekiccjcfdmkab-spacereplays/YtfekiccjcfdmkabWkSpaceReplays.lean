/-
  space.Replay answers what the document's own function answers, ranges and error, at every number and every list of records; no condition.
-/
import Derived.Test.YtfekiccjcfdmkabRows
import Derived.WalkKit
import Derived.ProofKit
import Derived.OpenShut
import Derived.ChangeOld
import Derived.Below
import Derived.BigQuiet
import Derived.Deep.CutRange
import Derived.Deep.QuietTactic
import Derived.Deep.RegionLaw
import Derived.Test.YtfekiccjcfdmkabOpn
import Derived.Test.YtfekiccjcfdmkabChecked
import Derived.Test.YtfekiccjcfdmkabSpaceOpen
import Derived.Test.YtfekiccjcfdmkabSpaceP
import Derived.Test.YtfekiccjcfdmkabSameR
namespace Go.Proofs.Ytfekiccjcfdmkab.spaceReplays
open Go.ChangeShapes Go.WideShapes Go.ChangeAt Go.RowKit
set_option linter.unusedVariables false
theorem repSame {sz : Int} {q : Int ⊕ (Nat → Int)} {v v' : Value} {er er' : Int} {w w' w2 : World} (h : RepRes sz q v er w) (h' : RepRes sz q v' er' w') (x : Ext w w2) (x' : Ext w' w2) (hl : ∀ S, (runs (isS S 0) sz.toNat).length ≤ 1000000000 + sz.toNat) :
    er = er' ∧ ∃ (a b : Option Addr) (c d : Nat) (L : List (Int × Int)), v = .slice a L.length c ∧ v' = .slice b L.length d ∧ L.length ≤ 200 ∧ Rngs w2 a L ∧ Rngs w2 b L := by
  cases q with
  | inl k =>
    obtain ⟨rfl, rfl⟩ := h
    obtain ⟨rfl, rfl⟩ := h'
    exact ⟨rfl, none, none, 0, 0, [], rfl, rfl, by simp, Rngs.nil, Rngs.nil⟩
  | inr S =>
    unfold RepRes at h h'
    simp only at h h'
    by_cases h2 : (runs (isS S 0) sz.toNat).length ≤ 200
    · rw [if_pos h2] at h h'
      obtain ⟨rfl, a, c, rfl, hr⟩ := h
      obtain ⟨rfl, b, d, rfl, hr'⟩ := h'
      exact ⟨rfl, a, b, c, d, _, rfl, rfl, h2, hr.ext x, hr'.ext x'⟩
    · rw [if_neg h2] at h h'
      obtain ⟨rfl, rfl⟩ := h
      obtain ⟨rfl, rfl⟩ := h'
      exact ⟨rfl, none, none, 0, 0, [], rfl, rfl, by simp, Rngs.nil, Rngs.nil⟩
set_option maxRecDepth 100000 in
set_option maxHeartbeats 4000000 in
theorem walk (a0 : Int) (a1 : Option Addr) (n1 c1 : Nat) (L1 : List (Bool × Int × Int)) (w : World) (w0 : -9223372036854775808 ≤ a0 ∧ a0 ≤ 9223372036854775807) (l1 : L1.length = n1) (h1 : Tri w a1 (L1.map rec3)) (b1 : ∀ r, r ∈ L1 → InI64 r.2.1 ∧ InI64 r.2.2) (k1 : n1 ≤ c1 ∧ c1 ≤ 9223372036854775807) :
    Calls Try.prog 5 #[.int .i64 a0, .slice a1 n1 c1] w fun e w' => e = .returned (.bool true) ∧ Ext w w' := by
  have HR : Hid (∀ w', Ext w w' → Tri w' a1 (recV L1)) := fun w' q => h1.ext q
  have HA := Replay_any a0 a1 n1 c1 L1 w l1 (by omega) h1 b1
  have HL : Hid (L1.length = n1) := l1
  have hn1 : n1 ≤ 9223372036854775807 := by omega
  clear h1 l1
  go_enter Try.func5, Try.ntmps5
  go_wp2_with fail
  refine HA.mono ?_
  rintro e z1 ⟨v1, er1, rfl, hs1, hx1⟩
  have HS1 : Hid (RepRes a0 (behS a0 L1) v1 er1 z1) := hs1
  have HB := RReplay_any a0 a1 n1 c1 L1 z1 HL.out hn1 (HR.out _ hx1)
  clear hs1 HA
  go_wp2_with fail
  refine HB.mono ?_
  rintro e z2 ⟨v2, er2, rfl, hs2, hx2⟩
  obtain ⟨rfl, a, b, c, d, L, rfl, rfl, hL, hr1, hr2⟩ := repSame (sz := a0) (q := behS a0 L1) HS1.out hs2 hx2 (Ext.refl _) (fun S => by have := runs_len (isS S 0) a0.toNat; omega)
  have HC := lawSameR_any a b L.length c d L z2 rfl (by omega) hr1 hr2
  clear hs2 HB HS1 hr1 hr2
  go_wp2_with fail
  refine HC.mono ?_
  rintro e z3 ⟨rfl, hx3⟩
  go_wp2_with fail
  go_ret
  exact ⟨ret_boolS (by simp), (hx1.trans hx2).trans hx3⟩
end Go.Proofs.Ytfekiccjcfdmkab.spaceReplays
