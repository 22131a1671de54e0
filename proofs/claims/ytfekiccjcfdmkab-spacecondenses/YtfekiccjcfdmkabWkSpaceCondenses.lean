/-
  space.Condense answers what the document's own function answers, records and error, at every number and every list of records; no condition.
-/
import Derived.Test.YtfekiccjcfdmkabRows
import Derived.WalkKit
import Derived.ProofKit
import Derived.OpenShut
import Derived.ChangeOld
import Derived.Below
import Derived.BigQuiet
import Derived.Deep.CutRange
import Derived.Deep.QuietTactic
import Derived.Deep.RegionLaw
import Derived.Test.YtfekiccjcfdmkabOpn
import Derived.Test.YtfekiccjcfdmkabChecked
import Derived.Test.YtfekiccjcfdmkabSpaceOpen
import Derived.Test.YtfekiccjcfdmkabSpaceP
namespace Go.Proofs.Ytfekiccjcfdmkab.spaceCondenses
open Go.ChangeShapes Go.WideShapes Go.ChangeAt Go.RowKit
set_option linter.unusedVariables false
theorem recL_V (f : Bool) (L : List (Int × Int)) : recL f L = recV (L.map fun r => (f, r.1, r.2)) := by
  unfold recL recV
  rw [List.map_map]
  rfl
theorem conSame {sz : Int} {q : Int ⊕ (Nat → Int)} {v v' : Value} {er er' : Int} {w w' w2 : World} (h : ConRes sz q v er w) (h' : ConRes sz q v' er' w') (x : Ext w w2) (x' : Ext w' w2) (hz : ∀ S, q = .inr S → sz.toNat ≤ 4096) :
    er = er' ∧ ∃ (a b : Option Addr) (c d : Nat) (L : List (Bool × Int × Int)), v = .slice a L.length c ∧ v' = .slice b L.length d ∧ L.length ≤ 4096 ∧ Tri w2 a (recV L) ∧ Tri w2 b (recV L) := by
  cases q with
  | inl k =>
    obtain ⟨rfl, rfl⟩ := h
    obtain ⟨rfl, rfl⟩ := h'
    exact ⟨rfl, none, none, 0, 0, [], rfl, rfl, by simp, Tri.nil, Tri.nil⟩
  | inr S =>
    obtain ⟨rfl, a, c, rfl, hr⟩ := h
    obtain ⟨rfl, b, d, rfl, hr'⟩ := h'
    rw [recL_V] at hr hr'
    have := runs_len (isS S 1) sz.toNat
    have := hz S rfl
    exact ⟨rfl, a, b, c, d, (runs (isS S 1) sz.toNat).map fun r => (false, r.1, r.2), by rw [List.length_map], by rw [List.length_map], by rw [List.length_map]; omega, hr.ext x, hr'.ext x'⟩
theorem behS_sz {sz : Int} {L : List (Bool × Int × Int)} {S : Nat → Int} (h : behS sz L = .inr S) : sz.toNat ≤ 4096 := by
  unfold behS at h
  by_cases hz : szB sz = true
  · unfold szB at hz
    simp at hz
    omega
  · rw [if_neg hz] at h; cases h
set_option maxRecDepth 100000 in
set_option maxHeartbeats 4000000 in
theorem walk (a0 : Int) (a1 : Option Addr) (n1 c1 : Nat) (L1 : List (Bool × Int × Int)) (w : World) (w0 : -9223372036854775808 ≤ a0 ∧ a0 ≤ 9223372036854775807) (l1 : L1.length = n1) (h1 : Tri w a1 (L1.map rec3)) (b1 : ∀ r, r ∈ L1 → InI64 r.2.1 ∧ InI64 r.2.2) (k1 : n1 ≤ c1 ∧ c1 ≤ 9223372036854775807) :
    Calls Try.prog 6 #[.int .i64 a0, .slice a1 n1 c1] w fun e w' => e = .returned (.bool true) ∧ Ext w w' := by
  have HR : Hid (∀ w', Ext w w' → Tri w' a1 (recV L1)) := fun w' q => h1.ext q
  have HA := Condense_any a0 a1 n1 c1 L1 w l1 (by omega) h1 b1
  have HL : Hid (L1.length = n1) := l1
  have hn1 : n1 ≤ 9223372036854775807 := by omega
  clear h1 l1
  go_enter Try.func6, Try.ntmps6
  go_wp2_with fail
  refine HA.mono ?_
  rintro e z1 ⟨v1, er1, rfl, hs1, hx1⟩
  have HS1 : Hid (ConRes a0 (behS a0 L1) v1 er1 z1) := hs1
  have HB := RCondense_any a0 a1 n1 c1 L1 z1 HL.out hn1 (HR.out _ hx1)
  clear hs1 HA
  go_wp2_with fail
  refine HB.mono ?_
  rintro e z2 ⟨v2, er2, rfl, hs2, hx2⟩
  obtain ⟨rfl, a, b, c, d, L, rfl, rfl, hL, hr1, hr2⟩ := conSame (sz := a0) (q := behS a0 L1) HS1.out hs2 hx2 (Ext.refl _) (fun S hS => behS_sz hS)
  have HC := lawSameRec_any a b L.length c d L z2 rfl (by omega) hr1 hr2
  clear hs2 HB HS1 hr1 hr2
  go_wp2_with fail
  refine HC.mono ?_
  rintro e z3 ⟨rfl, hx3⟩
  go_wp2_with fail
  go_ret
  exact ⟨ret_boolS (by simp), (hx1.trans hx2).trans hx3⟩
end Go.Proofs.Ytfekiccjcfdmkab.spaceCondenses
