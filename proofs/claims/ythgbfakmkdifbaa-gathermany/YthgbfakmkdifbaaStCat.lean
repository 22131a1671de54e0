/-
  slices.Grow of nil and slices.Concat of lists of ints: plain answers; the world only grows.
-/
import Derived.Test.YthgbfakmkdifbaaChecked
import Derived.WalkKit
import Derived.BigQuiet
import Derived.Deep.CutRange
import Derived.Lib.AppendZerosOnto
import Derived.Test.YthgbfakmkdifbaaStDat
namespace Go.Proofs.Ythgbfakmkdifbaa
open Go.RowKit Go.Deep E
theorem sizeInt4 : Try.prog.cellsOf 3 = 1 := by kernel_rfl
/-- append(nil, make([]T, k)...) -/
theorem zeros_nil {P : Program} (w : World) (oT t tn : TypeId) (base : Nat) (e : TypeId) (z : Value) (bytes : Nat) (kn : IntKind) (ht : P.underlying t = some (.slice e)) (htn : P.underlying tn = some (.int kn))
    (hinfo : (P.info? e).map (fun i => (i.zero, i.size, i.bytes)) = some (some z, 1, bytes)) (hzs : z.cells = #[z])
    (k : Nat) (h0 : 0 < k) (hb : k * bytes ≤ 140737488355328) (hm : k ≤ 9223372036854775807) (hbase : base ≤ w.heap.size) :
    ∃ cap w', (Builtin.append_ #[t, tn] oT #[.slice none 0 0, .int .i64 (k : Int)]).run P w = .ok (.slice (some ⟨w.heap.size, 0, none⟩) k cap) w' ∧ w'.ownsRow base e 1 (.slice (some ⟨w.heap.size, 0, none⟩) k cap) k (List.replicate k z) ∧ Ext w w' := by
  obtain ⟨i0, hi, hz0, hzz, hzb⟩ := info_parts hinfo
  have hfc : (Builtin.firstCells i0.size 0 (.slice none 0 0)).run P w.drew = .ok ([] : List Value).toArray w.drew := by
    simp [Builtin.firstCells]
  have hr := Go.Lib.run_append_grow_zeros (P := P) w t tn oT e i0 z .i64 kn ht htn hi hz0 none 0 0 [] hfc k h0 (by rw [hzz]; omega) (by omega) (by omega) (by rw [hzb]; omega) (growslice_fits (by omega) (by rw [hzb]; simpa using hb))
  have hge := grownCap_ge w (0 + k) 0 e
  have hcm' : grownCap w (0 + k) 0 e ≤ maxLen := grownCap_le_maxLen w (0 + k) 0 e (by unfold maxLen; omega)
  rw [hzs, zeroCells_one, Nat.zero_add] at hr
  rw [Nat.zero_add] at hge hcm'
  refine ⟨_, _, hr, ⟨by simp, .inr ⟨w.heap.size, _, _, rfl, hbase, heap_alloc_new w.drew _, hge, hcm', ?_, ?_⟩⟩, ((Ext.refl w).drew).alloc _ _⟩
  · rw [zeroCells_one]
    simp only [Array.size_append, List.size_toArray, List.length_replicate, List.length_nil]
    omega
  · simp
set_option maxRecDepth 100000 in
set_option maxHeartbeats 800000 in
theorem Grow_nil (k : Nat) (w : World) (hk : k ≤ 1048576) :
    Calls Try.prog 51 #[.slice none 0 0, .int .i64 k] w fun e w' => (∃ v, e = .returned v ∧ w'.ownsRow w.heap.size 3 1 v 0 []) ∧ Ext w w' := by
  have hneg : ¬ ((k : Int) < 0) := by omega
  rcases Nat.eq_zero_or_pos k with e | h0
  · subst e
    go_enter Try.func51, Try.ntmps51
    go_wp2_with fail
    go_ret
    exact ⟨⟨_, rfl, World.ownsRow_nil _ _ _ _⟩, Ext.refl _⟩
  · have hk0 : (0 : Int) < (k : Int) := by omega
    obtain ⟨cap, w1, hr, hown, hx⟩ := zeros_nil (P := Try.prog) w 30 30 3 w.heap.size 3 (.int .i64 0) 8 .i64 Try.underlying30 Try.underlying3 infoInt rfl k h0 (by omega) (by omega) (Nat.le_refl _)
    have HR : Hid ((Builtin.append_ #[30, 3] 30 #[.slice none 0 0, .int .i64 (k : Int)]).run Try.prog w = .ok (.slice (some ⟨w.heap.size, 0, none⟩) k cap) w1) := hr
    have hsl0 : ∀ w, (Instr.slice 30 (.slice none 0 0) none (some (.int .i64 0)) none).run Try.prog w = .ok (.slice none 0 0) w := fun w => by
      have := sub_h (P := Try.prog) Try.underlying30 sizeInt4 none 0 0 0 (Nat.le_refl _) 0 rfl w
      simpa [subA] using this
    have HOW : Hid (w1.ownsRow w.heap.size 3 1 (.slice (some ⟨w.heap.size, 0, none⟩) k cap) k (List.replicate k (.int .i64 0))) := hown
    have hcap : k ≤ cap := by
      rcases hown.2 with ⟨e, _⟩ | ⟨g, cap', cur, e, _, _, h5, _⟩
      · cases e
      · cases e; exact h5
    have hsl1 : ∀ w', (Instr.slice 30 (.slice (some ⟨w.heap.size, 0, none⟩) k cap) none (some (.int .i64 0)) none).run Try.prog w' = .ok (.slice (some ⟨w.heap.size, 0, none⟩) 0 cap) w' := fun w' => by
      have := sub_h (P := Try.prog) Try.underlying30 sizeInt4 (some ⟨w.heap.size, 0, none⟩) k cap 0 (Nat.zero_le _) 0 rfl w'
      rw [subA_some (by omega)] at this
      exact this
    have HO2 : Hid (w1.ownsRow w.heap.size 3 1 (.slice (some ⟨w.heap.size, 0, none⟩) 0 cap) 0 []) := by
      obtain ⟨_, h2⟩ := hown
      rcases h2 with ⟨e, _⟩ | ⟨g, cap', cur, e, h3, h4, h5, h6, h7, h8⟩
      · cases e
      · cases e
        exact ⟨rfl, .inr ⟨_, _, cur, rfl, h3, h4, Nat.zero_le _, h6, h7, by simp⟩⟩
    clear hr hown
    go_enter Try.func51, Try.ntmps51
    go_wp2_with (first | (at_builtin; refine Go.Lib.wpList_append_run w rfl (.tmp 20) (.tmp 21) 30 3 rfl _ _ rfl rfl _ _ HR.out ?_) | fail)
    go_wp2_with fail
    go_ret
    exact ⟨⟨_, rfl, HO2.out⟩, hx⟩
/-- how many numbers the first k lists have; these -/
def sumN (L : Nat → Nat) : Nat → Nat
  | 0 => 0
  | k + 1 => sumN L k + L k
def catV (L : Nat → Nat) (F : Nat → Nat → Int) : Nat → List Value
  | 0 => []
  | k + 1 => catV L F k ++ (List.range (L k)).map fun i => .int .i64 (F k i)
theorem sumN_le {L : Nat → Nat} {b : Nat} : ∀ k, (∀ i, i < k → L i ≤ b) → sumN L k ≤ k * b
  | 0, _ => by simp [sumN]
  | k + 1, h => by
    have := sumN_le k fun i hi => h i (by omega)
    have := h k (by omega)
    unfold sumN
    rw [Nat.add_mul]
    omega
theorem sumN_mono {L : Nat → Nat} {i j : Nat} (h : i ≤ j) : sumN L i ≤ sumN L j := by
  induction j with
  | zero => rw [show i = 0 by omega]; exact Nat.le_refl _
  | succ j ih =>
    by_cases e : i = j + 1
    · rw [e]; exact Nat.le_refl _
    · have := ih (by omega)
      show sumN L i ≤ sumN L j + L j
      omega
set_option maxRecDepth 100000 in
set_option maxHeartbeats 1600000 in
theorem Concat_any (a : Option Addr) (n cn : Nat) (A : Nat → Option Addr) (L C : Nat → Nat) (F : Nat → Nat → Int) (w : World) (hn : n ≤ 8) (hL : ∀ i, i < n → L i ≤ 1024) (h : Mat w a n A L C F) :
    Calls Try.prog 35 #[.slice a n cn] w fun e w' => (∃ v, e = .returned v ∧ w'.ownsRow w.heap.size 3 1 v (sumN L n) (catV L F n)) ∧ Ext w w' := by
  have HH : Hid (Mat w a n A L C F) := h
  have HL : Hid (∀ i, i < n → L i ≤ 1024) := hL
  clear h hL
  go_enter Try.func35, Try.ntmps35
  go_wp2_with fail
  go_loopw [3, 11] (fun s i wr => ∃ k : Nat, k ≤ n ∧ i = .int .i64 k ∧ s = .int .i64 (sumN L k : Nat) ∧ Ext w wr) (fun _ i _ => n - (intOf i).toNat)
  case atStart => exact ⟨0, Nat.zero_le _, rfl, rfl, Ext.refl _⟩
  case round =>
    obtain ⟨k, hk, rfl, rfl, hx⟩ := hrel
    obtain ⟨s, hs⟩ : ∃ s, sumN L k = s := ⟨_, rfl⟩
    have HS : Hid (sumN L k = s) := hs
    have hsb : s ≤ 8192 := by
      have := sumN_le (L := L) (b := 1024) k fun i hi => HL.out i (by omega)
      rw [hs] at this
      omega
    rw [hs]
    clear hs
    by_cases hlt : k < n
    · obtain ⟨⟨b, o, rfl, hc⟩, _⟩ := (HH.out.ext hx) k hlt
      obtain ⟨l, hl⟩ : ∃ l, L k = l := ⟨_, rfl⟩
      have hlb := HL.out k hlt
      rw [hl] at hc hlb
      have HN : Hid (sumN L (k + 1) = s + l) := by show sumN L k + L k = s + l; rw [HS.out, hl]
      have hpos : ¬ ((s : Int) + (l : Int) < 0) := by omega
      clear hl
      go_wp2_with fail
      go_roundw
      case rel => exact ⟨k + 1, by omega, by go_num, by rw [HN.out]; go_num, hx⟩
      case measure => simp [intOf]; omega
    · obtain rfl : k = n := by omega
      go_wp2_with fail
      refine (Grow_nil s _ (by omega)).mono ?_
      rintro e w2 ⟨⟨v0, rfl, hv0⟩, hx2⟩
      go_wp2_with fail
      have HX2 : Hid (Ext w w2) := hx.trans hx2
      have hwr := hx.size
      have h0 : w2.ownsRow w.heap.size 3 1 v0 0 [] := own_mono hv0 hwr
      go_loopw [6, 27] (fun v i w3 => ∃ j : Nat, j ≤ k ∧ i = .int .i64 j ∧ Ext w w3 ∧ w3.ownsRow w.heap.size 3 1 v (sumN L j) (catV L F j)) (fun _ i _ => k - (intOf i).toNat)
      case atStart => exact ⟨0, Nat.zero_le _, rfl, HX2.out, h0⟩
      case round =>
        clear h0 hv0
        obtain ⟨j, hj, rfl, hx3, hown⟩ := hrel
        have HO : Hid (wr.ownsRow w.heap.size 3 1 u6 (sumN L j) (catV L F j)) := hown
        clear hown
        by_cases hjl : j < k
        · have hr3 := (HH.out.ext hx3) j hjl
          obtain ⟨⟨b, o, rfl, hc⟩, hI⟩ := hr3
          have hlb := HL.out j hjl
          have hsb2 : sumN L j ≤ 8192 := by
            have := sumN_mono (L := L) (show j ≤ k by omega)
            rw [HS.out] at this
            omega
          have HI : Hid (∀ i, i < L j → ∃ b o, A j = some ⟨b, o, none⟩ ∧ wr.cell? ⟨b, o + i, none⟩ = some (.int .i64 (F j i))) := hI
          have hs3 := hx3.size
          go_wp2_with (first | (at_builtin; refine append_vals wr rfl _ _ 30 rfl w.heap.size 3 (.int .i64 0) 8 Try.underlying30 infoInt rfl u6 (sumN L j) _ rfl HO.out (A j) (L j) (C j) (fun i => .int .i64 (F j i)) rfl HI.out (fun _ _ => rfl) (by omega) (by omega) hs3 ?_) | fail)
          intro v' w5 hown5 hgrow5
          have HN : Hid (Ext w w5 ∧ w5.ownsRow w.heap.size 3 1 v' (sumN L (j + 1)) (catV L F (j + 1))) := ⟨hx3.grow hgrow5 fun q hq => (own_ge HO.out hq).1, hown5⟩
          clear hown5 hgrow5
          go_wp2_with fail
          go_roundw
          case rel => exact ⟨j + 1, by omega, by go_num, HN.out.1, HN.out.2⟩
          case measure => simp [intOf]; omega
        · obtain rfl : j = k := by omega
          go_wp2_with fail
          go_ret
          exact ⟨⟨_, rfl, HO.out⟩, hx3⟩
end Go.Proofs.Ythgbfakmkdifbaa
