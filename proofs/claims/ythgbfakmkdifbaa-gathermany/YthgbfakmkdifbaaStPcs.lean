/-
  Pieces as they lie in memory; stripe.places, turned, at: plain answers.
-/
import Derived.Test.YthgbfakmkdifbaaChecked
import Derived.WalkKit
import Derived.BigQuiet
import Derived.Deep.CutRange
import Derived.Deep.QuietTactic
import Derived.Deep.RegionLaw
import Derived.Test.YthgbfakmkdifbaaStp
import Derived.Test.YthgbfakmkdifbaaParCopied
import Derived.Test.YthgbfakmkdifbaaClone
namespace Go.Proofs.Ythgbfakmkdifbaa
open Go.RowKit Go.Deep E
/-- pieces lie at a: number r is lost or not (T r), and has L r bytes (room for C r) at A r: F r -/
def Pcs (w : World) (a : Option Addr) (n : Nat) (T : Nat → Bool) (A : Nat → Option Addr) (L C : Nat → Nat) (F : Nat → Nat → E) : Prop :=
  ∀ r, r < n → (∃ b o, a = some ⟨b, o, none⟩ ∧ w.cell? ⟨b, o + r * 2, none⟩ = some (.bool (T r)) ∧ w.cell? ⟨b, o + r * 2 + 1, none⟩ = some (.slice (A r) (L r) (C r))) ∧ Byts w (A r) (L r) (F r)
theorem Pcs.ext {w w' : World} {a : Option Addr} {n : Nat} {T : Nat → Bool} {A : Nat → Option Addr} {L C : Nat → Nat} {F : Nat → Nat → E} (h : Pcs w a n T A L C F) (x : Ext w w') : Pcs w' a n T A L C F := fun r hr => by
  obtain ⟨⟨b, o, h1, h2, h3⟩, h4⟩ := h r hr
  exact ⟨⟨b, o, h1, x.keeps h2, x.keeps h3⟩, h4.ext x⟩
/-- the places of the pieces that are lost (b), or of those that are not -/
def plcs (n : Nat) (T : Nat → Bool) (b : Bool) : List Nat := PL n fun r => T r == b
set_option maxRecDepth 100000 in
set_option maxHeartbeats 1600000 in
theorem stPlaces_any (a : Option Addr) (n cn : Nat) (T : Nat → Bool) (A : Nat → Option Addr) (L C : Nat → Nat) (F : Nat → Nat → E) (b : Bool) (w : World) (hn : n ≤ 1048576) (h : Pcs w a n T A L C F) :
    Calls Try.prog 30 #[.slice a n cn, .bool b] w fun e w' => (∃ v, e = .returned v ∧ w'.ownsRow w.heap.size 3 1 v (plcs n T b).length ((plcs n T b).map inV)) ∧ Ext w w' := by
  have HH : Hid (Pcs w a n T A L C F) := h
  clear h
  go_enter Try.func30, Try.ntmps30
  go_wp2_with fail
  go_loopw [5, 10] (fun v i wr => ∃ k : Nat, k ≤ n ∧ i = .int .i64 k ∧ Ext w wr ∧ wr.ownsRow w.heap.size 3 1 v (plcs k T b).length ((plcs k T b).map inV)) (fun _ i _ => n - (intOf i).toNat)
  case atStart => exact ⟨0, Nat.zero_le _, rfl, Ext.refl _, World.ownsRow_nil _ _ _ _⟩
  case round =>
    obtain ⟨k, hk, rfl, hx, hown⟩ := hrel
    have HO : Hid (wr.ownsRow w.heap.size 3 1 u5 (plcs k T b).length ((plcs k T b).map inV)) := hown
    clear hown
    by_cases hlt : k < n
    · obtain ⟨⟨bb, o, rfl, h1, h2⟩, _⟩ := (HH.out.ext hx) k hlt
      obtain ⟨t, ht⟩ : ∃ t, T k = t := ⟨_, rfl⟩
      rw [ht] at h1
      have hal := (Ext.refl wr).alloc #[.bool t, .slice (A k) (L k) (C k)] 42
      have HX : Hid (Ext w (wr.alloc (.cells #[.bool t, .slice (A k) (L k) (C k)] 42))) := hx.trans hal
      have HT : Hid (T k = t) := ht
      have hs := HX.out.size
      have HO2 : Hid ((wr.alloc (.cells #[.bool t, .slice (A k) (L k) (C k)] 42)).ownsRow w.heap.size 3 1 u5 (plcs k T b).length ((plcs k T b).map inV)) := own_ext HO.out hal
      have hln := PL_len k (fun r => T r == b)
      have hln2 : (plcs k T b).length ≤ k := hln
      clear ht hal hln
      cases t with
      | false => cases b with
        | false =>
          have hE : (T k == false) = true := by rw [HT.out]; rfl
          have HE : Hid (plcs (k + 1) T false = plcs k T false ++ [k]) := PL_yes (n := k) (ok := fun r => T r == false) hE
          clear hE
          go_upto_region 6 with fail
          generalize wr.alloc (.cells #[.bool false, .slice (A k) (L k) (C k)] 42) = w2 at *
          go_wp2_with (first | (at_builtin; refine append_one w2 rfl _ _ 30 rfl w.heap.size 3 (.int .i64 0) 8 Try.underlying30 infoInt rfl u5 (plcs k T false).length _ rfl HO2.out (.int .i64 k) 1 rfl rfl (by omega) (by omega) hs ?_) | fail)
          intro v' w5 hown' hgrow
          have HN : Hid (Ext w w5 ∧ w5.ownsRow w.heap.size 3 1 v' (plcs (k + 1) T false).length ((plcs (k + 1) T false).map inV)) := by
            refine ⟨(HX.out.alloc _ _).grow hgrow fun b hb => (own_ge HO2.out hb).1, ?_⟩
            rw [HE.out, List.length_append, List.map_append]
            exact hown'
          clear hown' hgrow
          go_wp2_with fail
          go_roundw
          case rel => exact ⟨k + 1, by omega, by go_num, HN.out.1, HN.out.2⟩
          case measure => simp [intOf]; omega
        | true =>
          have hE : (T k == true) = false := by rw [HT.out]; rfl
          have HN : Hid (plcs (k + 1) T true = plcs k T true) := PL_no (n := k) (ok := fun r => T r == true) hE
          clear hE
          go_wp2_with fail
          go_roundw
          case rel => exact ⟨k + 1, by omega, by go_num, HX.out, by rw [HN.out]; exact HO2.out⟩
          case measure => simp [intOf]; omega
      | true => cases b with
        | false =>
          have hE : (T k == false) = false := by rw [HT.out]; rfl
          have HN : Hid (plcs (k + 1) T false = plcs k T false) := PL_no (n := k) (ok := fun r => T r == false) hE
          clear hE
          go_wp2_with fail
          go_roundw
          case rel => exact ⟨k + 1, by omega, by go_num, HX.out, by rw [HN.out]; exact HO2.out⟩
          case measure => simp [intOf]; omega
        | true =>
          have hE : (T k == true) = true := by rw [HT.out]; rfl
          have HE : Hid (plcs (k + 1) T true = plcs k T true ++ [k]) := PL_yes (n := k) (ok := fun r => T r == true) hE
          clear hE
          go_upto_region 6 with fail
          generalize wr.alloc (.cells #[.bool true, .slice (A k) (L k) (C k)] 42) = w2 at *
          go_wp2_with (first | (at_builtin; refine append_one w2 rfl _ _ 30 rfl w.heap.size 3 (.int .i64 0) 8 Try.underlying30 infoInt rfl u5 (plcs k T true).length _ rfl HO2.out (.int .i64 k) 1 rfl rfl (by omega) (by omega) hs ?_) | fail)
          intro v' w5 hown' hgrow
          have HN : Hid (Ext w w5 ∧ w5.ownsRow w.heap.size 3 1 v' (plcs (k + 1) T true).length ((plcs (k + 1) T true).map inV)) := by
            refine ⟨(HX.out.alloc _ _).grow hgrow fun b hb => (own_ge HO2.out hb).1, ?_⟩
            rw [HE.out, List.length_append, List.map_append]
            exact hown'
          clear hown' hgrow
          go_wp2_with fail
          go_roundw
          case rel => exact ⟨k + 1, by omega, by go_num, HN.out.1, HN.out.2⟩
          case measure => simp [intOf]; omega
    · obtain rfl : n = k := by omega
      go_wp2_with fail
      go_ret
      exact ⟨⟨_, rfl, HO.out⟩, hx⟩
end Go.Proofs.Ythgbfakmkdifbaa
