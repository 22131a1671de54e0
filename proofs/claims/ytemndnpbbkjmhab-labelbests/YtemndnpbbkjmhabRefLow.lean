/-
  The document's lowFirst, sumBytes, labelBytes: bytes by append, in new memory.
-/
import Derived.Test.YtemndnpbbkjmhabChecked
import Derived.WalkKit
import Derived.BigQuiet
import Derived.Test.YtemndnpbbkjmhabLabEnc
import Derived.Test.YtemndnpbbkjmhabAppZ
import Derived.Test.YtemndnpbbkjmhabByb
namespace Go.Proofs.Ytemndnpbbkjmhab
open Go.RowKit Go.Deep E
theorem map_add (n m : Nat) (F G : Nat → E) (h : ∀ i, i < m → F (n + i) = G i) : (List.range n).map (bvs F) ++ (List.range m).map (bvs G) = (List.range (n + m)).map (bvs F) := by
  rw [List.range_add, List.map_append, List.map_map]
  congr 1
  refine List.map_congr_left fun i hi => ?_
  show bvs G i = bvs F (n + i)
  unfold bvs
  rw [h i (List.mem_range.1 hi)]
theorem map_zeros (n m : Nat) (F : Nat → E) (h : ∀ i, i < m → F (n + i) = ze) : (List.range n).map (bvs F) ++ List.replicate m (.int .u8 0) = (List.range (n + m)).map (bvs F) := by
  rw [← map_add n m F (fun _ => ze) h]
  congr 1
  have : ∀ m : Nat, List.replicate m (Value.int .u8 0) = (List.range m).map (bvs fun _ => ze) := fun m => by
    apply List.ext_getElem
    · simp
    · intro i h1 h2
      simp [bvs, ev_ze]
  exact this m
theorem map_cong (n : Nat) {F G : Nat → E} (h : ∀ i, i < n → F i = G i) : (List.range n).map (bvs F) = (List.range n).map (bvs G) :=
  List.map_congr_left fun i hi => by unfold bvs; rw [h i (List.mem_range.1 hi)]
/-- a list of bytes that a call made by append -/
def OwnB (w : World) (base : Nat) (v : Value) (n : Nat) (F : Nat → E) : Prop := w.ownsRow base 5 1 v n ((List.range n).map (bvs F))
theorem OwnB.ext {w w' : World} {base : Nat} {v : Value} {n : Nat} {F : Nat → E} (h : OwnB w base v n F) (x : Ext w w') : OwnB w' base v n F := own_ext h x
theorem OwnB.mono {w : World} {base base' : Nat} {v : Value} {n : Nat} {F : Nat → E} (h : OwnB w base v n F) (hb : base' ≤ base) : OwnB w base' v n F := own_mono h hb
theorem OwnB.cong {w : World} {base : Nat} {v : Value} {n : Nat} {F G : Nat → E} (h : OwnB w base v n F) (e : ∀ i, i < n → F i = G i) : OwnB w base v n G := by
  unfold OwnB at *
  rw [← map_cong n e]
  exact h
theorem dv_mod (n : Int) (k : Nat) (hk : k < 8) : dv (n % 18446744073709551616) k % 256 = dv n k % 256 := by
  match k, hk with
  | 0, _ => show n % 18446744073709551616 % 256 = n % 256; omega
  | 1, _ => show n % 18446744073709551616 / 256 % 256 = n / 256 % 256; omega
  | 2, _ => show n % 18446744073709551616 / 256 / 256 % 256 = n / 256 / 256 % 256; omega
  | 3, _ => show n % 18446744073709551616 / 256 / 256 / 256 % 256 = n / 256 / 256 / 256 % 256; omega
  | 4, _ => show n % 18446744073709551616 / 256 / 256 / 256 / 256 % 256 = n / 256 / 256 / 256 / 256 % 256; omega
  | 5, _ => show n % 18446744073709551616 / 256 / 256 / 256 / 256 / 256 % 256 = n / 256 / 256 / 256 / 256 / 256 % 256; omega
  | 6, _ => show n % 18446744073709551616 / 256 / 256 / 256 / 256 / 256 / 256 % 256 = n / 256 / 256 / 256 / 256 / 256 / 256 % 256; omega
  | 7, _ => show n % 18446744073709551616 / 256 / 256 / 256 / 256 / 256 / 256 / 256 % 256 = n / 256 / 256 / 256 / 256 / 256 / 256 / 256 % 256; omega
theorem dv_bd {u : Int} (h : 0 ≤ u ∧ u < 18446744073709551616) : ∀ k, 0 ≤ dv u k ∧ dv u k < 18446744073709551616
  | 0 => h
  | k + 1 => by
    have := dv_bd h k
    show 0 ≤ dv u k / 256 ∧ dv u k / 256 < 18446744073709551616
    omega
set_option maxRecDepth 100000 in
set_option maxHeartbeats 1600000 in
theorem lowFirst_any (n : Int) (m : Nat) (hm : m ≤ 8) (w : World) :
    Calls Try.prog 38 #[.int .i64 n, .int .i64 (m : Int)] w fun e w' => (∃ v, e = .returned v ∧ OwnB w' w.heap.size v m (byt n)) ∧ Ext w w' := by
  obtain ⟨u, hu⟩ : ∃ u : Int, IntKind.u64.wrap n = u := ⟨_, rfl⟩
  have hu' : n % 18446744073709551616 = u := by rw [← hu, IntKind.wrap_u64]
  have hub : 0 ≤ u ∧ u < 18446744073709551616 := by omega
  have HU : Hid (n % 18446744073709551616 = u) := hu'
  clear hu'
  go_enter Try.func38, Try.ntmps38
  go_wp2_with fail
  clear hu
  go_loopw [5, 6, 7] (fun q v i wr => ∃ k : Nat, k ≤ m ∧ i = .int .i64 k ∧ q = .int .u64 (dv u k) ∧ Ext w wr ∧ OwnB wr w.heap.size v k (byt n)) (fun _ _ i _ => m - (intOf i).toNat)
  case atStart => exact ⟨0, Nat.zero_le _, rfl, rfl, Ext.refl _, World.ownsRow_nil _ _ _ _⟩
  case round =>
    obtain ⟨k, hk, rfl, rfl, hx, hown⟩ := hrel
    have HO : Hid (OwnB wr w.heap.size u6 k (byt n)) := hown
    clear hown
    have hs := hx.size
    have hd := dv_bd hub k
    by_cases hlt : k < m
    · go_wp2_with (first | (at_builtin; refine append_one wr rfl _ _ 22 rfl w.heap.size 5 (.int .u8 0) 1 Try.underlying22 infoByte rfl u6 k _ rfl HO.out (.int .u8 _) 1 rfl rfl (by omega) (by omega) hs ?_) | go_in)
      intro v' w2 hown' hgrow
      have hx2 : Ext w w2 := (hx.alloc _ _).grow hgrow fun b hb => (own_ge HO.out hb).1
      have R2 : Hid (OwnB w2 w.heap.size v' (k + 1) (byt n)) := by
        unfold OwnB
        rw [← range_bvs, ev_byt, ← dv_mod n k (by omega), HU.out]
        exact hown'
      clear hown' hgrow HO
      go_wp2_with fail
      go_roundw
      case rel => exact ⟨k + 1, by omega, by go_num, rfl, hx2, R2.out⟩
      case measure => simp [intOf]; omega
    · obtain rfl : k = m := by omega
      go_wp2_with fail
      go_ret
      exact ⟨⟨_, rfl, HO.out⟩, hx⟩
end Go.Proofs.Ytemndnpbbkjmhab
