/-
  quicksetkeep.Block and quicksetkeep.padded: bytes in new memory.
-/
import Derived.Test.YthgbfakmkdifbaaKeepFlet
import Derived.Test.YthgbfakmkdifbaaStp
namespace Go.Proofs.Ythgbfakmkdifbaa
open Go.RowKit Go.Deep E
def blkN (n : Nat) : Nat := if n = 0 then 1 else if n ≤ 1000 then n else 1000
def blkF (n : Nat) (f : Nat → E) (i : Nat) : E := if n = 0 then of 7 else f i
theorem blkN_bd (n : Nat) : 1 ≤ blkN n ∧ blkN n ≤ 1000 := by
  unfold blkN
  split
  · omega
  · split <;> omega
set_option maxRecDepth 100000 in
set_option maxHeartbeats 800000 in
theorem Block_any (a : Option Addr) (n c : Nat) (f : Nat → E) (w : World) (hn : n ≤ c) (hc : c ≤ 9223372036854775807) (h : Byts w a n f) :
    Calls Try.prog 14 #[.slice a n c, .int .i64 1000] w fun e w' => (∃ v, e = .returned v ∧ w'.ownsRow w.heap.size 5 1 v (blkN n) ((List.range (blkN n)).map (bvs (blkF n f)))) ∧ Ext w w' := by
  have HB : Hid (Byts w a n f) := h
  clear h
  rcases Nat.eq_zero_or_pos n with e0 | h0
  · subst e0
    go_enter Try.func14, Try.ntmps14
    go_wp2_with fail
    go_ret
    have hr : (w.alloc (.cells #[.int .u8 7] 5)).rowIs w.heap.size 5 1 (bvs (blkF 0 f)) := ⟨_, heap_alloc_new _ _, rfl, fun i hi => by
      obtain rfl : i = 0 := by omega
      rfl⟩
    exact ⟨⟨_, rfl, own_of_row hr (Nat.le_refl _) (by decide)⟩, (Ext.refl w).alloc _ _⟩
  · have hz : ¬ (n : Int) = 0 := by omega
    obtain ⟨m, hm⟩ : ∃ m, blkN n = m := ⟨_, rfl⟩
    have hmn : m ≤ n ∧ m ≤ 1000 ∧ min (n : Int) 1000 = m := by
      rw [← hm]
      unfold blkN
      rw [if_neg (by omega)]
      split <;> omega
    rw [hm]
    have HS : Hid (Byts w (subA a c 0) m f) := by
      have := HB.out.sub 0 m (by omega) (a' := subA a c 0) fun h0 b o ha => by rw [ha, subA_some (by omega)]
      exact this.congr fun i _ => by rw [Nat.zero_add]
    have HF : Hid (∀ i, bvs (blkF n f) i = bvs f i) := fun i => by unfold bvs blkF; rw [if_neg (by omega)]
    obtain ⟨hm1, hm2, hmi⟩ := hmn
    go_enter Try.func14, Try.ntmps14
    by_cases hle : n ≤ 1000
    · have hi : (n : Int) ≤ 1000 := by omega
      have hmn : m = n := by omega
      subst hmn
      have hsl := sub_h (P := Try.prog) Try.underlying22 size8 a m c m (by omega) (m : Int) rfl
      go_wp2_with (first | (at_builtin; refine append_vals w rfl (.const (.slice none 0 0)) (.tmp 14) 22 rfl w.heap.size 5 (.int .u8 0) 1 Try.underlying22 infoByte rfl (.slice none 0 0) 0 [] rfl (World.ownsRow_nil _ _ _ _) (subA a c 0) m c (bvs f) rfl HS.out (fun _ _ => rfl) (by omega) (by omega) (Nat.le_refl _) ?_) | go_in)
      intro v' w5 hown' hgrow
      have hx5 : Ext w w5 := (Ext.refl w).grow hgrow fun _ hk => by cases hk
      go_wp2_with fail
      go_ret
      exact ⟨⟨_, rfl, by rw [List.map_congr_left fun i _ => HF.out i]; simpa using hown'⟩, hx5⟩
    · have hi : ¬ (n : Int) ≤ 1000 := by omega
      have hmn : m = 1000 := by omega
      subst hmn
      have hsl := sub_h (P := Try.prog) Try.underlying22 size8 a n c 1000 (by omega) (1000 : Int) rfl
      go_wp2_with (first | (at_builtin; refine append_vals w rfl (.const (.slice none 0 0)) (.tmp 14) 22 rfl w.heap.size 5 (.int .u8 0) 1 Try.underlying22 infoByte rfl (.slice none 0 0) 0 [] rfl (World.ownsRow_nil _ _ _ _) (subA a c 0) 1000 c (bvs f) rfl HS.out (fun _ _ => rfl) (by omega) (by omega) (Nat.le_refl _) ?_) | go_in)
      intro v' w5 hown' hgrow
      have hx5 : Ext w w5 := (Ext.refl w).grow hgrow fun _ hk => by cases hk
      go_wp2_with fail
      go_ret
      exact ⟨⟨_, rfl, by rw [List.map_congr_left fun i _ => HF.out i]; simpa using hown'⟩, hx5⟩
def lenS : Value → Nat
  | .slice _ n _ => n
  | _ => 0
theorem padZ_out (n m : Nat) (f : Nat → E) (h : n ≤ m) : bvs (padZ n f) m = .int .u8 0 := by
  unfold bvs padZ
  rw [if_neg (by omega)]
  rfl
set_option maxRecDepth 100000 in
set_option maxHeartbeats 800000 in
theorem padded_any (a : Option Addr) (n c : Nat) (f : Nat → E) (w : World) (hn : n ≤ 4096) (h : Byts w a n f) :
    Calls Try.prog 20 #[.slice a n c] w fun e w' => (∃ v, e = .returned v ∧ w'.ownsRow w.heap.size 5 1 v (128 * secs n) ((List.range (128 * secs n)).map (bvs (padZ n f)))) ∧ Ext w w' := by
  have HB : Hid (Byts w a n f) := h
  clear h
  go_enter Try.func20, Try.ntmps20
  go_wp2_with (first | (at_builtin; refine append_vals w rfl (.const (.slice none 0 0)) (.tmp 4) 22 rfl w.heap.size 5 (.int .u8 0) 1 Try.underlying22 infoByte rfl (.slice none 0 0) 0 [] rfl (World.ownsRow_nil _ _ _ _) a n c (bvs f) rfl HB.out (fun _ _ => rfl) (by omega) (by omega) (Nat.le_refl _) ?_) | go_in)
  intro v' w5 hown' hgrow
  have HX5 : Hid (Ext w w5) := (Ext.refl w).grow hgrow fun _ hk => by cases hk
  have HO5 : Hid (w5.ownsRow w.heap.size 5 1 v' n ((List.range n).map (bvs (padZ n f)))) := by
    have e : (List.range n).map (bvs (padZ n f)) = (List.range n).map (bvs f) := List.map_congr_left fun i hi => by
      have := List.mem_range.1 hi
      unfold bvs padZ
      rw [if_pos this]
    show w5.ownsRow _ _ _ _ _ _
    rw [e]
    simpa using hown'
  clear hown' hgrow
  go_wp2_with fail
  go_loopw [3] (fun v wr => ∃ k : Nat, n ≤ k ∧ k ≤ 128 * secs n ∧ Ext w wr ∧ wr.ownsRow w.heap.size 5 1 v k ((List.range k).map (bvs (padZ n f)))) (fun v _ => 128 * secs n - lenS v)
  case atStart => exact ⟨n, Nat.le_refl _, by unfold secs; omega, HX5.out, HO5.out⟩
  case round =>
    obtain ⟨k, hk1, hk2, hxr, hown⟩ := hrel
    obtain ⟨ak, ck, rfl, _⟩ := own_slice hown
    have HO : Hid (wr.ownsRow w.heap.size 5 1 (.slice ak k ck) k ((List.range k).map (bvs (padZ n f)))) := hown
    clear hown
    have hsb : 128 * secs n < n + 128 ∧ n ≤ 128 * secs n ∧ (128 * secs n) % 128 = 0 := by unfold secs; omega
    have hsz := hxr.size
    have htm : (k : Int).tmod 128 = ((k % 128 : Nat) : Int) := by rw [Int.tmod_eq_emod_of_nonneg (by omega)]; omega
    by_cases hlt : k < 128 * secs n
    · have hne : ¬ ((k % 128 : Nat) : Int) = 0 := by omega
      go_wp2_with (first | (at_builtin; refine append_one wr rfl _ _ 22 rfl w.heap.size 5 (.int .u8 0) 1 Try.underlying22 infoByte rfl (.slice ak k ck) k _ rfl HO.out (.int .u8 0) 1 rfl rfl (by omega) (by omega) hsz ?_) | go_in)
      intro v' w5 hown' hgrow
      have HN : Hid (Ext w w5 ∧ w5.ownsRow w.heap.size 5 1 v' (k + 1) ((List.range (k + 1)).map (bvs (padZ n f)))) := by
        refine ⟨(hxr.alloc _ _).grow hgrow fun b hb => (own_ge HO.out hb).1, ?_⟩
        rw [← range_bvs]
        have := padZ_out n k f hk1
        unfold bvs at this
        rw [this]
        exact hown'
      clear hown' hgrow
      obtain ⟨a9, c9, rfl, _⟩ := own_slice HN.out.2
      go_wp2_with fail
      go_roundw
      case rel => exact ⟨k + 1, by omega, by omega, HN.out.1, HN.out.2⟩
      case measure => simp [lenS]; omega
    · obtain rfl : k = 128 * secs n := by omega
      have hne : (((128 * secs n) % 128 : Nat) : Int) = 0 := by omega
      go_wp2_with fail
      go_ret
      exact ⟨⟨_, rfl, HO.out⟩, hxr⟩
end Go.Proofs.Ythgbfakmkdifbaa
