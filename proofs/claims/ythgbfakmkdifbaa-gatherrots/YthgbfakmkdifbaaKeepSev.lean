/-
  quicksetkeep.Several: different numbers below n, ascending, no more than most; in new memory.
-/
import Derived.Test.YthgbfakmkdifbaaChecked
import Derived.WalkKit
import Derived.Test.YthgbfakmkdifbaaParCopied
import Derived.Test.YthgbfakmkdifbaaKeeps
namespace Go.Proofs.Ythgbfakmkdifbaa
open Go.RowKit Go.Deep E
theorem PL_same {n : Nat} {f g : Nat → Bool} (h : ∀ x, x < n → f x = g x) : PL n f = PL n g := by
  unfold PL
  exact List.filter_congr fun x hx => h x (List.mem_range.1 hx)
theorem PL_put {n : Nat} {f : Nat → Bool} {q : Nat} (hq : q < n) (h : f q = false) : (PL n fun x => if x = q then true else f x).length = (PL n f).length + 1 := by
  induction n with
  | zero => omega
  | succ n ih =>
    by_cases e : q = n
    · subst e
      rw [PL_yes (by simp), PL_no h, PL_same (g := f) fun x hx => by rw [if_neg (by omega)]]
      simp
    · have ih' := ih (by omega)
      cases hf : f n
      · rw [PL_no (n := n) (ok := fun x => if x = q then true else f x) (by rw [if_neg (by omega)]; exact hf), PL_no hf]; exact ih'
      · rw [PL_yes (n := n) (ok := fun x => if x = q then true else f x) (by rw [if_neg (by omega)]; exact hf), PL_yes hf, List.length_append, List.length_append, ih']
        simp
def SevRes (w w' : World) (e : Ending) (n most nl : Nat) (fl : Nat → Int) : Prop :=
  ∃ (has : Nat → Bool) (v : Value), e = .returned v ∧ w'.ownsRow w.heap.size 3 1 v (PL n has).length ((PL n has).map inV) ∧ (PL n has).length ≤ most ∧ ((PL n has).length < most → ∀ i, i < nl → has (fl i % (n : Int)).toNat = true) ∧ Ext w w'
set_option maxRecDepth 100000 in
set_option maxHeartbeats 1600000 in
theorem Several_any (al : Option Addr) (nl cl : Nat) (fl : Nat → Int) (most n : Nat) (w : World) (hnl : nl ≤ 9223372036854775807) (hmo : most ≤ 1048576) (hn : 1 ≤ n ∧ n ≤ 1048576) (hl : Ints w al nl fl) (hb : ∀ i, i < nl → -9223372036854775808 ≤ fl i ∧ fl i ≤ 9223372036854775807) :
    Calls Try.prog 16 #[.slice al nl cl, .int .i64 most, .int .i64 n] w fun e w' => SevRes w w' e n most nl fl := by
  have HL : Hid (Ints w al nl fl) := hl
  have HBD : Hid (∀ i, i < nl → -9223372036854775808 ≤ fl i ∧ fl i ≤ 9223372036854775807) := hb
  clear hl hb
  have hmk := make_bools n (by omega)
  go_enter Try.func16, Try.ntmps16
  go_wp2_with fail
  clear hmk
  have HR0 : Hid ((w.alloc (.cells (madeCells #[.bool false] n) 4)).rowIs w.heap.size 4 n (fun _ => .bool false)) := World.rowIs_made w (.bool false) n 4
  have HX0 : Hid (Ext w (w.alloc (.cells (madeCells #[.bool false] n) 4))) := (Ext.refl w).alloc _ _
  generalize w.alloc (.cells (madeCells #[.bool false] n) 4) = w1 at *
  go_loopw [8, 9] (fun cnt i wr => ∃ (k c : Nat) (has : Nat → Bool), k ≤ nl ∧ i = .int .i64 k ∧ cnt = .int .i64 c ∧ c ≤ most ∧ Ext w wr ∧ wr.rowIs w.heap.size 4 n (fun q => .bool (has q)) ∧ Hid (c = (PL n has).length ∧ ∀ i, i < k → has (fl i % (n : Int)).toNat = true)) (fun _ i _ => nl - (intOf i).toNat)
  case atStart =>
    refine ⟨0, 0, fun _ => false, Nat.zero_le _, rfl, rfl, Nat.zero_le _, HX0.out, HR0.out, ?_, fun i hi => by omega⟩
    have : PL n (fun _ => false) = [] := by unfold PL; rw [List.filter_eq_nil_iff]; intro x _; simp
    rw [this]; rfl
  case round =>
    clear HR0 HX0
    obtain ⟨k, c, has, hk, rfl, rfl, hcm, hx, hr, HC⟩ := hrel
    have HR : Hid (wr.rowIs w.heap.size 4 n (fun q => .bool (has q))) := hr
    clear hr
    by_cases hlt : k < nl ∧ c < most
    · obtain ⟨h1, h2⟩ := hlt
      obtain ⟨b, o, rfl, hck⟩ := (HL.out.ext hx) k h1
      have hbk := HBD.out k h1
      have i1 : (k : Int) < (nl : Int) := by omega
      have i2 : (c : Int) < (most : Int) := by omega
      go_wp2_with fail
      clear hck
      obtain ⟨q, hq, hqn⟩ := picked_is (fl k) (n : Int) (by omega)
      refine (Picked_bd (fl k) n q _ (by omega) (by omega) hbk hq).mono ?_
      rintro e w2 ⟨rfl, rfl⟩
      have hqn' : q < n := by omega
      have hc1 := HR.out.cell hqn'
      have hf1 := HR.out.frozen q
      have HQ : Hid ((fl k % (n : Int)).toNat = q) := by show _ = _; rw [hq]; rfl
      clear hq
      cases hE : has q
      · rw [hE] at hc1
        have HN : Hid (c + 1 = (PL n fun x => if x = q then true else has x).length ∧ ∀ i, i < k + 1 → (if (fl i % (n : Int)).toNat = q then true else has (fl i % (n : Int)).toNat) = true) := by
          refine ⟨by rw [PL_put hqn' hE, HC.out.1], fun i hi => ?_⟩
          by_cases e : i = k
          · rw [if_pos (by rw [e]; exact HQ.out)]
          · rw [HC.out.2 i (by omega)]; simp
        go_wp2_with fail
        go_roundw
        case rel =>
          refine ⟨k + 1, c + 1, fun x => if x = q then true else has x, by omega, by go_num, by go_num, by omega, hx.setCell (Nat.le_refl _) _, (HR.out.set q (.bool true)).congr fun i _ => ?_, HN.out⟩
          dsimp only
          by_cases e : i = q
          · rw [if_pos e, if_pos e]
          · rw [if_neg e, if_neg e]
        case measure => simp [intOf]; omega
      · rw [hE] at hc1
        have HN : Hid (c = (PL n has).length ∧ ∀ i, i < k + 1 → has (fl i % (n : Int)).toNat = true) := by
          refine ⟨HC.out.1, fun i hi => ?_⟩
          by_cases e : i = k
          · rw [e, HQ.out]; exact hE
          · exact HC.out.2 i (by omega)
        go_wp2_with fail
        go_roundw
        case rel => exact ⟨k + 1, c, has, by omega, by go_num, rfl, hcm, hx, HR.out, HN.out⟩
        case measure => simp [intOf]; omega
    · have HD : Hid (c < most → ∀ i, i < nl → has (fl i % (n : Int)).toNat = true) := fun h i hi => HC.out.2 i (by omega)
      have HCC : Hid (c = (PL n has).length) := HC.out.1
      have hdd : (decide ((k : Int) < (nl : Int)) && decide ((c : Int) < (most : Int))) = false := by
        simp; omega
      generalize hw0 : wr = wk at *
      clear hw0
      rcases (show ((k : Int) < (nl : Int) ∧ ¬ (c : Int) < (most : Int)) ∨ ¬ (k : Int) < (nl : Int) by omega) with ⟨h1, h2⟩ | h1
      · clear hdd hlt
        go_wp2_with fail
        go_loopw [11, 12] (fun v i wr => ∃ k : Nat, k ≤ n ∧ i = .int .i64 k ∧ Ext wk wr ∧ wr.ownsRow wk.heap.size 3 1 v (PL k has).length ((PL k has).map inV)) (fun _ i _ => n - (intOf i).toNat)
        case atStart => exact ⟨0, Nat.zero_le _, rfl, Ext.refl _, World.ownsRow_nil _ _ _ _⟩
        case round =>
          obtain ⟨k, hk, rfl, hxr, hown⟩ := hrel
          have HO : Hid (wr.ownsRow wk.heap.size 3 1 u11 (PL k has).length ((PL k has).map inV)) := hown
          clear hown
          by_cases hkn : k < n
          · have hck := (hxr.rowIs HR.out).cell hkn
            cases hE : has k
            · rw [hE] at hck
              have HN : Hid (wr.ownsRow wk.heap.size 3 1 u11 (PL (k + 1) has).length ((PL (k + 1) has).map inV)) := by rw [PL_no hE]; exact HO.out
              go_wp2_with fail
              go_roundw
              case rel => exact ⟨k + 1, by omega, by go_num, hxr, HN.out⟩
              case measure => simp [intOf]; omega
            · rw [hE] at hck
              have hln := PL_len k has
              have hsz := hxr.size
              go_wp2_with (first | (at_builtin; refine append_one wr rfl _ _ 30 rfl wk.heap.size 3 (.int .i64 0) 8 Try.underlying30 infoInt rfl u11 (PL k has).length _ rfl HO.out (.int .i64 k) 1 rfl rfl (by omega) (by omega) hsz ?_) | go_in)
              intro v' w5 hown' hgrow
              have HN : Hid (Ext wk w5 ∧ w5.ownsRow wk.heap.size 3 1 v' (PL (k + 1) has).length ((PL (k + 1) has).map inV)) := by
                refine ⟨(hxr.alloc _ _).grow hgrow fun b hb => (own_ge HO.out hb).1, ?_⟩
                rw [PL_yes hE, List.length_append, List.map_append]
                exact hown'
              clear hown' hgrow hln
              go_wp2_with fail
              go_roundw
              case rel => exact ⟨k + 1, by omega, by go_num, HN.out.1, HN.out.2⟩
              case measure => simp [intOf]; omega
          · obtain rfl : n = k := by omega
            go_wp2_with fail
            go_ret
            exact ⟨has, _, rfl, own_mono HO.out hx.size, by rw [← HCC.out]; exact hcm, fun h => HD.out (by rw [HCC.out]; exact h), hx.trans hxr⟩
      · clear hdd hlt
        go_wp2_with fail
        go_loopw [11, 12] (fun v i wr => ∃ k : Nat, k ≤ n ∧ i = .int .i64 k ∧ Ext wk wr ∧ wr.ownsRow wk.heap.size 3 1 v (PL k has).length ((PL k has).map inV)) (fun _ i _ => n - (intOf i).toNat)
        case atStart => exact ⟨0, Nat.zero_le _, rfl, Ext.refl _, World.ownsRow_nil _ _ _ _⟩
        case round =>
          obtain ⟨k, hk, rfl, hxr, hown⟩ := hrel
          have HO : Hid (wr.ownsRow wk.heap.size 3 1 u11 (PL k has).length ((PL k has).map inV)) := hown
          clear hown
          by_cases hkn : k < n
          · have hck := (hxr.rowIs HR.out).cell hkn
            cases hE : has k
            · rw [hE] at hck
              have HN : Hid (wr.ownsRow wk.heap.size 3 1 u11 (PL (k + 1) has).length ((PL (k + 1) has).map inV)) := by rw [PL_no hE]; exact HO.out
              go_wp2_with fail
              go_roundw
              case rel => exact ⟨k + 1, by omega, by go_num, hxr, HN.out⟩
              case measure => simp [intOf]; omega
            · rw [hE] at hck
              have hln := PL_len k has
              have hsz := hxr.size
              go_wp2_with (first | (at_builtin; refine append_one wr rfl _ _ 30 rfl wk.heap.size 3 (.int .i64 0) 8 Try.underlying30 infoInt rfl u11 (PL k has).length _ rfl HO.out (.int .i64 k) 1 rfl rfl (by omega) (by omega) hsz ?_) | go_in)
              intro v' w5 hown' hgrow
              have HN : Hid (Ext wk w5 ∧ w5.ownsRow wk.heap.size 3 1 v' (PL (k + 1) has).length ((PL (k + 1) has).map inV)) := by
                refine ⟨(hxr.alloc _ _).grow hgrow fun b hb => (own_ge HO.out hb).1, ?_⟩
                rw [PL_yes hE, List.length_append, List.map_append]
                exact hown'
              clear hown' hgrow hln
              go_wp2_with fail
              go_roundw
              case rel => exact ⟨k + 1, by omega, by go_num, HN.out.1, HN.out.2⟩
              case measure => simp [intOf]; omega
          · obtain rfl : n = k := by omega
            go_wp2_with fail
            go_ret
            exact ⟨has, _, rfl, own_mono HO.out hx.size, by rw [← HCC.out]; exact hcm, fun h => HD.out (by rw [HCC.out]; exact h), hx.trans hxr⟩
end Go.Proofs.Ythgbfakmkdifbaa
