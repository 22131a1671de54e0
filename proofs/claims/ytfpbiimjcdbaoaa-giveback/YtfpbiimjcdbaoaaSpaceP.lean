/-
  space.Replay, Condense and the document's own: what is free behind records, and the fewest records; in new memory.
-/
import Derived.Test.YtfpbiimjcdbaoaaChecked
import Derived.WalkKit
import Derived.BigQuiet
import Derived.Test.YtfpbiimjcdbaoaaRefAgain
namespace Go.Proofs.Ytfpbiimjcdbaoaa
open Go.RowKit Go.Deep
def RepRes (sz : Int) (q : Int ⊕ (Nat → Int)) (v : Value) (er : Int) (w' : World) : Prop :=
  match q with
  | .inl k => v = .slice none 0 0 ∧ er = k
  | .inr S => if (runs (isS S 0) sz.toNat).length ≤ 200 then er = 0 ∧ ∃ a c, v = .slice a (runs (isS S 0) sz.toNat).length c ∧ Rngs w' a (runs (isS S 0) sz.toNat) else v = .slice none 0 0 ∧ er = 8
def ConRes (sz : Int) (q : Int ⊕ (Nat → Int)) (v : Value) (er : Int) (w' : World) : Prop :=
  match q with
  | .inl k => v = .slice none 0 0 ∧ er = k
  | .inr S => er = 0 ∧ ∃ a c, v = .slice a (runs (isS S 1) sz.toNat).length c ∧ Tri w' a (recL false (runs (isS S 1) sz.toNat))
set_option maxRecDepth 100000 in
set_option maxHeartbeats 400000 in
theorem Replay_any (sz : Int) (a : Option Addr) (m c : Nat) (L : List (Bool × Int × Int)) (w : World) (hl : L.length = m) (hm : m ≤ 9223372036854775807) (h : Tri w a (recV L)) (hb : BddR L) :
    Calls Try.prog 10 #[.int .i64 sz, .slice a m c] w fun e w' => ∃ v er, e = .returned (.tuple #[v, .int .i64 er]) ∧ RepRes sz (behS sz L) v er w' ∧ Ext w w' := by
  have HB := behind_any sz a m c L w hl hm h hb
  clear hl h hb
  cases hq : behS sz L with
  | inl k =>
    rw [hq] at HB
    clear hq
    go_enter Try.func10, Try.ntmps10
    go_wp2_with fail
    refine HB.mono ?_
    rintro e w1 ⟨v, er, rfl, ⟨rfl, rfl, hk⟩, hx1⟩
    have hk2 : (er != 0) = true := by simp [hk]
    go_wp2_with fail
    go_ret2
    exact ⟨_, _, rfl, ⟨rfl, rfl⟩, hx1⟩
  | inr S =>
    rw [hq] at HB
    clear hq
    go_enter Try.func10, Try.ntmps10
    go_wp2_with fail
    refine HB.mono ?_
    rintro e w1 ⟨v, er, rfl, ⟨rfl, hz, g, rfl, hg, hu⟩, hx1⟩
    obtain ⟨n, rfl⟩ : ∃ n : Nat, sz = n := ⟨sz.toNat, by omega⟩
    rw [Int.toNat_natCast] at hu
    have HT := that_any g n S 0 w1 (by omega) hu
    clear HB hu
    have e0 : ((n : Int)).toNat = n := Int.toNat_natCast n
    rw [e0]
    go_wp2_with fail
    refine HT.mono ?_
    rintro e w2 ⟨r, rfl, ho, hx2⟩
    obtain ⟨_, aR, cR, rfl, hr⟩ := own_rngs ho
    have HR : Hid (Rngs w2 aR (runs (isS S 0) n)) := hr
    have hlen := runs_len (isS S 0) n
    clear ho hr HT
    by_cases h2 : (runs (isS S 0) n).length ≤ 200
    · have HP : Hid (RepRes (n : Int) (.inr S) (.slice aR (runs (isS S 0) n).length cR) 0 w2) := by
        show (if _ then _ else _)
        rw [e0, if_pos h2]
        exact ⟨rfl, aR, cR, rfl, HR.out⟩
      generalize (runs (isS S 0) n).length = k at *
      go_wp2_with fail
      go_ret2
      exact ⟨_, _, rfl, HP.out, hx1.trans hx2⟩
    · have HP : Hid (RepRes (n : Int) (.inr S) (.slice none 0 0) 8 w2) := by
        show (if _ then _ else _)
        rw [e0, if_neg h2]
        exact ⟨rfl, rfl⟩
      generalize (runs (isS S 0) n).length = k at *
      go_wp2_with fail
      go_ret2
      exact ⟨_, _, rfl, HP.out, hx1.trans hx2⟩
set_option maxRecDepth 100000 in
set_option maxHeartbeats 400000 in
theorem Condense_any (sz : Int) (a : Option Addr) (m c : Nat) (L : List (Bool × Int × Int)) (w : World) (hl : L.length = m) (hm : m ≤ 9223372036854775807) (h : Tri w a (recV L)) (hb : BddR L) :
    Calls Try.prog 11 #[.int .i64 sz, .slice a m c] w fun e w' => ∃ v er, e = .returned (.tuple #[v, .int .i64 er]) ∧ ConRes sz (behS sz L) v er w' ∧ Ext w w' := by
  have HB := behind_any sz a m c L w hl hm h hb
  clear hl h hb
  cases hq : behS sz L with
  | inl k =>
    rw [hq] at HB
    clear hq
    go_enter Try.func11, Try.ntmps11
    go_wp2_with fail
    refine HB.mono ?_
    rintro e w1 ⟨v, er, rfl, ⟨rfl, rfl, hk⟩, hx1⟩
    have hk2 : (er != 0) = true := by simp [hk]
    go_wp2_with fail
    go_ret2
    exact ⟨_, _, rfl, ⟨rfl, rfl⟩, hx1⟩
  | inr S =>
    rw [hq] at HB
    clear hq
    go_enter Try.func11, Try.ntmps11
    go_wp2_with fail
    refine HB.mono ?_
    rintro e w1 ⟨v, er, rfl, ⟨rfl, hz, g, rfl, hg, hu⟩, hx1⟩
    obtain ⟨n, rfl⟩ : ∃ n : Nat, sz = n := ⟨sz.toNat, by omega⟩
    rw [Int.toNat_natCast] at hu
    have HT := that_any g n S 1 w1 (by omega) hu
    clear HB hu
    have e0 : ((n : Int)).toNat = n := Int.toNat_natCast n
    rw [e0]
    go_wp2_with fail
    refine HT.mono ?_
    rintro e w2 ⟨r, rfl, ho, hx2⟩
    obtain ⟨_, aR, cR, rfl, hr⟩ := own_rngs ho
    have hlen := runs_len (isS S 1) n
    have HRc := records_any false aR (runs (isS S 1) n).length cR (runs (isS S 1) n) w2 rfl (by omega) hr
    clear ho hr HT
    go_wp2_with fail
    refine HRc.mono ?_
    rintro e w3 ⟨v3, rfl, ho3, hx3⟩
    obtain ⟨_, a3, c3, rfl, ht3⟩ := own_tri ho3
    have HP : Hid (ConRes (n : Int) (.inr S) (.slice a3 (runs (isS S 1) n).length c3) 0 w3) := ⟨rfl, a3, c3, by rw [e0], by rw [e0]; exact ht3⟩
    clear ho3 ht3 HRc
    generalize (runs (isS S 1) n).length = k at *
    go_wp2_with fail
    go_ret2
    exact ⟨_, _, rfl, HP.out, (hx1.trans hx2).trans hx3⟩
end Go.Proofs.Ytfpbiimjcdbaoaa
