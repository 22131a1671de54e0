/-
  sameFounds at two slices that hold the same; and two answers of Play that are the same.
-/
import Derived.Test.YtfekiccjcfdmkabChecked
import Derived.WalkKit
import Derived.BigQuiet
import Derived.Test.YtfekiccjcfdmkabSpacePl
import Derived.Test.YtfekiccjcfdmkabSpaceP
namespace Go.Proofs.Ytfekiccjcfdmkab
open Go.RowKit Go.Deep
set_option maxRecDepth 100000 in
set_option maxHeartbeats 400000 in
theorem lawSameF_any (a b : Option Addr) (n c d : Nat) (L : List (Int × Int × Int)) (w : World) (hl : L.length = n) (hn : n ≤ 9223372036854775807) (h : Tri w a (fndV L)) (h' : Tri w b (fndV L)) :
    Calls Try.prog 15 #[.slice a n c, .slice b n d] w fun e w' => e = .returned (.bool true) ∧ Ext w w' := by
  have HL : Hid (L.length = n) := hl
  have HA : Hid (Tri w a (fndV L)) := h
  have HB : Hid (Tri w b (fndV L)) := h'
  clear hl h h'
  go_enter Try.func15, Try.ntmps15
  go_wp2_with fail
  go_loopw [5] (fun i wr => ∃ q : Nat, q ≤ n ∧ i = .int .i64 q ∧ Ext w wr) (fun i _ => n - (intOf i).toNat)
  case atStart => exact ⟨0, Nat.zero_le _, rfl, Ext.refl _⟩
  case round =>
    obtain ⟨q, hq, rfl, hx⟩ := hrel
    by_cases hlt : q < n
    · obtain ⟨⟨f, x, y⟩, h1, _, _⟩ := drop_at (L := L) (k := q) (by rw [HL.out]; exact hlt)
      obtain ⟨b1, o1, rfl, hc0, hc1, hc2⟩ := deed_at (HA.out.ext hx) h1
      obtain ⟨b2, o2, rfl, hd0, hd1, hd2⟩ := deed_at (HB.out.ext hx) h1
      clear h1
      have i1 : (q : Int) < (n : Int) := by omega
      go_wp2_with fail
      go_quiet (fail)
      go_wp2_with fail
      go_roundw
      case rel => exact ⟨q + 1, by omega, by go_num, hx.drewN _⟩
      case measure => simp [intOf]; omega
    · go_wp2_with fail
      go_ret
      exact ⟨rfl, hx⟩
theorem playSame {q : Int ⊕ (List (Int × Int × Int) × List (Bool × Int × Int))} {v v' u u' : Value} {er er' : Int} {w w' w2 : World} (h : PlayRes q v u er w) (h' : PlayRes q v' u' er' w') (x : Ext w w2) (x' : Ext w' w2) :
    er = er' ∧ ∃ (a b a' b' : Option Addr) (c d c' d' : Nat) (F : List (Int × Int × Int)) (R : List (Bool × Int × Int)), v = .slice a F.length c ∧ v' = .slice a' F.length c' ∧ u = .slice b R.length d ∧ u' = .slice b' R.length d' ∧ F.length ≤ 300 ∧ R.length ≤ 1228800 ∧ Tri w2 a (fndV F) ∧ Tri w2 a' (fndV F) ∧ Tri w2 b (recV R) ∧ Tri w2 b' (recV R) := by
  cases q with
  | inl k =>
    obtain ⟨rfl, rfl, rfl⟩ := h
    obtain ⟨rfl, rfl, rfl⟩ := h'
    exact ⟨rfl, none, none, none, none, 0, 0, 0, 0, [], [], rfl, rfl, rfl, rfl, by simp, by simp, Tri.nil, Tri.nil, Tri.nil, Tri.nil⟩
  | inr p =>
    obtain ⟨rfl, hl, a, b, c, d, rfl, rfl, h1, h2⟩ := h
    obtain ⟨rfl, _, a', b', c', d', rfl, rfl, h3, h4⟩ := h'
    exact ⟨rfl, a, b, a', b', c, d, c', d', p.1, p.2, rfl, rfl, rfl, rfl, hl.1, hl.2, h1.ext x, h3.ext x', h2.ext x, h4.ext x'⟩
end Go.Proofs.Ytfekiccjcfdmkab
