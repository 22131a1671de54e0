/-
  bytes.Equal and the document's sameBytes: both turn bytes into strings and compare these.
-/
import Derived.Test.YtemndnpbbkjmhabChecked
import Derived.WalkKit
import Derived.BigQuiet
import Derived.Laws.BytesArg
import Derived.Laws.Strings
import Derived.WideShapes
import Derived.Test.YtemndnpbbkjmhabLabMath
namespace Go.Proofs.Ytemndnpbbkjmhab
open Go.RowKit Go.Deep E
/-- n bytes as a string -/
def strB (n : Nat) (f : Nat → E) : ByteArray := strOfNums ((List.range n).map fun i => ev (f i))
theorem conv_byts {w : World} {a : Option Addr} {n : Nat} (c : Nat) {f : Nat → E} (h0 : 0 < n) (h : Byts w a n f) : (convert 22 9 (.slice a n c)).run Try.prog w = .ok (.string (strB n f)) w := by
  obtain ⟨b, o, rfl, hc⟩ := h.at h0
  refine run_convert_bytes_arg (P := Try.prog) w 22 5 Try.underlying22 Try.underlying5 b o n c ((List.range n).map fun i => ev (f i)) (by simp) (fun i hi => ?_) 9 Try.underlying9
  rw [hc i hi]
  simp [hi]
theorem strB_eq {n : Nat} {f g : Nat → E} (h : strB n f = strB n g) (i : Nat) (hi : i < n) : f i = g i := by
  have h1 := congrArg (fun s : ByteArray => s.data.toList) h
  simp only [strB, strOfNums_data, List.map_map] at h1
  have h2 := congrArg (fun l : List UInt8 => l[i]?) h1
  simp only [List.getElem?_map, List.getElem?_range hi, Option.map_some, Function.comp] at h2
  have h3 := congrArg UInt8.toNat (Option.some.inj h2)
  have b1 := ev_bd (f i)
  have b2 := ev_bd (g i)
  simp only [UInt8.toNat_ofNat'] at h3
  exact ev_inj (by omega)
def eqB (n : Nat) (f g : Nat → E) : Bool := (List.range n).all fun i => ev (f i) == ev (g i)
theorem eqB_iff (n : Nat) (f g : Nat → E) : eqB n f g = true ↔ ∀ i, i < n → f i = g i := by
  unfold eqB
  rw [List.all_eq_true]
  exact ⟨fun h i hi => ev_inj (eq_of_beq (h i (List.mem_range.2 hi))), fun h i hi => beq_iff_eq.2 (by rw [h i (List.mem_range.1 hi)])⟩
theorem strB_iff (n : Nat) (f g : Nat → E) : (strB n f = strB n g) ↔ eqB n f g = true := by
  rw [eqB_iff]
  constructor
  · exact fun h i hi => strB_eq h i hi
  · intro h
    unfold strB
    rw [List.map_congr_left fun i hi => by rw [h i (List.mem_range.1 hi)]]
theorem str_beq (n : Nat) (f g : Nat → E) : ((strB n f).toList == (strB n g).toList) = eqB n f g := by
  rw [Bool.eq_iff_iff, beq_iff_eq, ← strB_iff]
  constructor
  · intro h
    rw [ByteArray.toList_eq, ByteArray.toList_eq] at h
    exact Go.WideShapes.bytes_inj h
  · intro h
    rw [h]
set_option maxRecDepth 100000 in
set_option maxHeartbeats 800000 in
theorem Equal_any (a a' : Option Addr) (n c c' : Nat) (f g : Nat → E) (w : World) (h0 : 0 < n) (h : Byts w a n f) (h' : Byts w a' n g) :
    Calls Try.prog 23 #[.slice a n c, .slice a' n c'] w fun e w' => e = .returned (.bool (eqB n f g)) ∧ w' = w := by
  have k1 := conv_byts c h0 h
  have k2 := conv_byts c' h0 h'
  go_enter Try.func23, Try.ntmps23
  go_wp2_with fail
  go_ret
  exact ⟨by rw [← str_beq]; rfl, rfl⟩
set_option maxRecDepth 100000 in
set_option maxHeartbeats 800000 in
theorem refSame_any (a a' : Option Addr) (n c c' : Nat) (f g : Nat → E) (w : World) (h0 : 0 < n) (h : Byts w a n f) (h' : Byts w a' n g) :
    Calls Try.prog 25 #[.slice a n c, .slice a' n c'] w fun e w' => e = .returned (.bool (eqB n f g)) ∧ w' = w := by
  have k1 := conv_byts c h0 h
  have k2 := conv_byts c' h0 h'
  go_enter Try.func25, Try.ntmps25
  go_wp2_with fail
  go_ret
  exact ⟨by rw [← str_beq]; rfl, rfl⟩
end Go.Proofs.Ytemndnpbbkjmhab
