/-
  sameRanges at two slices that hold the same ranges; and two answers that tell of one set.
-/
import Derived.Test.YtfpbiimjcdbaoaaChecked
import Derived.WalkKit
import Derived.BigQuiet
import Derived.Test.YtfpbiimjcdbaoaaSpanSift
namespace Go.Proofs.Ytfpbiimjcdbaoaa
open Go.RowKit Go.Deep
set_option maxRecDepth 100000 in
set_option maxHeartbeats 400000 in
theorem keepSameR_any (a b : Option Addr) (n c d : Nat) (L : List (Int × Int)) (w : World) (hl : L.length = n) (hn : n ≤ 9223372036854775807) (h : Rngs w a L) (h' : Rngs w b L) :
    Calls Try.prog 14 #[.slice a n c, .slice b n d] w fun e w' => e = .returned (.bool true) ∧ Ext w w' := by
  have HL : Hid (L.length = n) := hl
  have HA : Hid (Rngs w a L) := h
  have HB : Hid (Rngs w b L) := h'
  clear hl h h'
  go_enter Try.func14, Try.ntmps14
  go_wp2_with fail
  go_loopw [5] (fun i wr => ∃ q : Nat, q ≤ n ∧ i = .int .i64 q ∧ Ext w wr) (fun i _ => n - (intOf i).toNat)
  case atStart => exact ⟨0, Nat.zero_le _, rfl, Ext.refl _⟩
  case round =>
    obtain ⟨q, hq, rfl, hx⟩ := hrel
    by_cases hlt : q < n
    · obtain ⟨⟨x, y⟩, h1, _, _⟩ := drop_at (L := L) (k := q) (by rw [HL.out]; exact hlt)
      obtain ⟨b1, o1, rfl, hc1, hc2⟩ := (HA.out.ext hx) q x y h1
      obtain ⟨b2, o2, rfl, hd1, hd2⟩ := (HB.out.ext hx) q x y h1
      clear h1
      have i1 : (q : Int) < (n : Int) := by omega
      go_wp2_with fail
      go_quiet (fail)
      go_wp2_with fail
      go_roundw
      case rel => exact ⟨q + 1, by omega, by go_num, hx.drewN _⟩
      case measure => simp [intOf]; omega
    · go_wp2_with fail
      go_ret
      exact ⟨rfl, hx⟩
/-- two answers of one set are the same: as slices, and as errors -/
theorem SetRes.same {ok : Bool} {P Q : Int → Prop} {v v' : Value} {er er' : Int} {w w' w2 : World} (h : SetRes ok P v er w) (h' : SetRes ok Q v' er' w') (x : Ext w w2) (x' : Ext w' w2) (hPQ : ok = true → ∀ k, P k ↔ Q k) :
    er = er' ∧ ∃ (a b : Option Addr) (c d : Nat) (L : List (Int × Int)), v = .slice a L.length c ∧ v' = .slice b L.length d ∧ L.length ≤ 200 ∧ Rngs w2 a L ∧ Rngs w2 b L := by
  rcases h with ⟨h1, rfl, rfl⟩ | ⟨h1, L, h2, h3, _, h4⟩
  · rcases h' with ⟨_, rfl, rfl⟩ | ⟨k1, _⟩
    · exact ⟨rfl, none, none, 0, 0, [], rfl, rfl, by simp, Rngs.nil, Rngs.nil⟩
    · rw [h1] at k1; cases k1
  · rcases h' with ⟨k1, _⟩ | ⟨_, M, k2, k3, _, k4⟩
    · rw [h1] at k1; cases k1
    · have e : L = M := Nrm.uniq L M h2 k2 fun k => by rw [h3, k3, hPQ h1]
      subst e
      rcases h4 with ⟨h5, rfl, rfl⟩ | ⟨h5, rfl, a, c, rfl, h6⟩
      · rcases k4 with ⟨_, rfl, rfl⟩ | ⟨k5, _⟩
        · exact ⟨rfl, none, none, 0, 0, [], rfl, rfl, by simp, Rngs.nil, Rngs.nil⟩
        · omega
      · rcases k4 with ⟨k5, _⟩ | ⟨_, rfl, b, d, rfl, k6⟩
        · omega
        · exact ⟨rfl, a, b, c, d, L, rfl, rfl, h5, h6.1.ext x, k6.1.ext x'⟩
end Go.Proofs.Ytfpbiimjcdbaoaa
