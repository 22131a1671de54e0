/-
  sameColumns at two slices that hold the same columns.
-/
import Derived.Test.YtbjbalflicadjaaChecked
import Derived.WalkKit
import Derived.BigQuiet
import Derived.Deep.QuietTactic
import Derived.Test.YtbjbalflicadjaaGeoCm
namespace Go.Proofs.Ytbjbalflicadjaa
open Go.RowKit Go.Deep
theorem Ext.drewG {a w : World} (h : Ext a w) (n : Nat) : Ext a (w.drewN n) := h.trans ⟨⟨rfl, rfl, rfl, Nat.le_refl _, fun _ _ => rfl⟩⟩
def Col4 (cs : List Value) : Prop := ∃ (x y z : Int) (b : Bool), cs = [.int .i64 x, .int .i64 y, .int .i64 z, .bool b]
theorem gcL_col (d p a c : Int) : ∀ cs, cs ∈ gcL d p a c → Col4 cs := fun cs h => by
  unfold gcL at h
  split at h
  · obtain ⟨i, _, rfl⟩ := List.mem_map.1 h
    exact ⟨_, _, _, _, rfl⟩
  · simp at h
theorem col_at {w : World} {a : Option Addr} {L : List (List Value)} (h : Els w a 4 L) {q : Nat} {x y z : Int} {b : Bool} (hq : L[q]? = some [.int .i64 x, .int .i64 y, .int .i64 z, .bool b]) :
    ∃ k o, a = some ⟨k, o, none⟩ ∧ w.cell? ⟨k, o + q * 4, none⟩ = some (.int .i64 x) ∧ w.cell? ⟨k, o + q * 4 + 1, none⟩ = some (.int .i64 y) ∧ w.cell? ⟨k, o + q * 4 + 2, none⟩ = some (.int .i64 z) ∧ w.cell? ⟨k, o + q * 4 + 3, none⟩ = some (.bool b) := by
  obtain ⟨k, o, h1, h2⟩ := h q _ hq
  exact ⟨k, o, h1, h2 0 _ rfl, h2 1 _ rfl, h2 2 _ rfl, h2 3 _ rfl⟩
set_option maxRecDepth 100000 in
set_option maxHeartbeats 800000 in
theorem lawSameC_any (a b : Option Addr) (n c d : Nat) (L : List (List Value)) (w : World) (hl : L.length = n) (hn : n ≤ 9223372036854775807) (h : Els w a 4 L) (h' : Els w b 4 L) (hc : ∀ cs, cs ∈ L → Col4 cs) :
    Calls Try.prog 15 #[.slice a n c, .slice b n d] w fun e w' => e = .returned (.bool true) ∧ Ext w w' := by
  have HL : Hid (L.length = n) := hl
  have HA : Hid (Els w a 4 L) := h
  have HB : Hid (Els w b 4 L) := h'
  have HC : Hid (∀ cs, cs ∈ L → Col4 cs) := hc
  clear hl h h' hc
  go_enter Try.func15, Try.ntmps15
  go_wp2_with fail
  go_loopw [5] (fun i wr => ∃ q : Nat, q ≤ n ∧ i = .int .i64 q ∧ Ext w wr) (fun i _ => n - (intOf i).toNat)
  case atStart => exact ⟨0, Nat.zero_le _, rfl, Ext.refl _⟩
  case round =>
    obtain ⟨q, hq, rfl, hx⟩ := hrel
    by_cases hlt : q < n
    · have hqL : q < L.length := by rw [HL.out]; exact hlt
      obtain ⟨x, y, z, f, hcs⟩ := HC.out (L[q]'hqL) (List.getElem_mem _)
      have h1 : L[q]? = some [.int .i64 x, .int .i64 y, .int .i64 z, .bool f] := by rw [List.getElem?_eq_getElem hqL, hcs]
      obtain ⟨b1, o1, rfl, hc0, hc1, hc2, hc3⟩ := col_at (HA.out.ext hx) h1
      obtain ⟨b2, o2, rfl, hd0, hd1, hd2, hd3⟩ := col_at (HB.out.ext hx) h1
      clear h1 hcs hqL
      have i1 : (q : Int) < (n : Int) := by omega
      go_wp2_with fail
      go_quiet (fail)
      go_wp2_with fail
      go_roundw
      case rel => exact ⟨q + 1, by omega, by go_num, hx.drewG _⟩
      case measure => simp [intOf]; omega
    · go_wp2_with fail
      go_ret
      exact ⟨rfl, hx⟩
end Go.Proofs.Ytbjbalflicadjaa
