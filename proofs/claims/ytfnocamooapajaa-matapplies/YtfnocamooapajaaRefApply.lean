/-
  quicksetref.MatApply at every matrix and list, as plain functions; the world only grows.
-/
import Derived.Test.YtfnocamooapajaaChecked
import Derived.WalkKit
import Derived.StillTailTactics
import Derived.Test.YtfnocamooapajaaRefOps
import Derived.Test.YtfnocamooapajaaRefMay
import Derived.Test.YtfnocamooapajaaMatApply
namespace Go.Proofs.Ytfnocamooapajaa
open Go.RowKit Go.Deep E
/-- a row of sums of which the first i are made, and x stands in the next -/
def mad (i : Nat) (f : Nat → Int) (x : E) (j : Nat) : Int := if j < i then f j else if j = i then ev x else 0
theorem mad_start (i : Nat) (f : Nat → Int) : made i f = mad i f ze := by
  funext j
  unfold made mad
  rw [ev_ze]
  split
  · rfl
  · split <;> rfl
theorem mad_done (i : Nat) (f : Nat → Int) (x : E) (h : ev x = f i) : mad i f x = made (i + 1) f := by
  funext j
  unfold made mad
  by_cases e : j = i
  · subst e; rw [if_neg (by omega), if_pos rfl, if_pos (by omega), h]
  · by_cases l : j < i
    · rw [if_pos l, if_pos (by omega)]
    · rw [if_neg l, if_neg e, if_neg (by omega)]
theorem mad_at (i : Nat) (f : Nat → Int) (x : E) : mad i f x i = ev x := by unfold mad; rw [if_neg (by omega), if_pos rfl]
theorem mad_set (i : Nat) (f : Nat → Int) (x y : E) : (fun j => if j = i then Value.int .i64 (ev y) else Value.int .i64 (mad i f x j)) = fun j => Value.int .i64 (mad i f y j) := by
  funext j
  unfold mad
  by_cases e : j = i
  · subst e; rw [if_pos rfl, if_neg (by omega), if_pos rfl]
  · rw [if_neg e, if_neg e, if_neg e]
set_option maxRecDepth 100000 in
set_option maxHeartbeats 800000 in
theorem MatApply_any (a : Option Addr) (n c : Nat) (A : Nat → Option Addr) (L C : Nat → Nat) (F : Nat → Nat → Int) (a' : Option Addr) (n' c' : Nat) (f : Nat → Int) (w : World) (h : Mat w a n A L C F) (h' : Ints w a' n' f) (hn : n ≤ 9223372036854775807) (hl : ∀ r, r < n → L r ≤ 9223372036854775807) (hn' : n' ≤ 9223372036854775807) :
    Calls Try.prog 15 #[.slice a n c, .slice a' n' c'] w fun e w' => IntsRes w' e (appN n L F n' f) (appF L F f) (appE n L F n' f) ∧ Ext w w' := by
  have HH : Hid (Mat w a n A L C F) := h
  have HI : Hid (Ints w a' n' f) := h'
  have HL : Hid (∀ r, r < n → L r ≤ 9223372036854775807) := hl
  clear h h' hl
  go_enter Try.func15, Try.ntmps15
  go_wp2_with fail
  refine (MatMay_any a n c A L C F _ HH.out hn HL.out).mono ?_
  rintro e w1 ⟨rfl, rfl⟩
  cases hM : mayB n L F
  · go_wp2_with fail
    go_ret2
    rw [(app_form hM).1, (app_form hM).2]
    exact ⟨⟨_, _, rfl, Ints.nil _ _ _⟩, Ext.refl _⟩
  · obtain ⟨m1, m2, m3⟩ := mayB_of hM
    have M3 : Hid (∀ r, r < n → L r = L 0 ∧ ∀ i, i < L 0 → 0 ≤ F r i ∧ F r i < 256) := m3
    clear m3
    go_wp2_with fail
    go_loop [16] (fun i => ∃ k : Nat, k ≤ n' ∧ i = .int .i64 k ∧ Hid (∀ j, j < k → elB (f j) = true)) (fun i => n' - (intOf i).toNat)
    case atStart => exact ⟨0, Nat.zero_le _, rfl, fun j h => by omega⟩
    case round =>
      obtain ⟨k, hk, rfl, HJ⟩ := hrel
      by_cases hlt : k < n'
      · obtain ⟨b, o, rfl, hck⟩ := HI.out k hlt
        go_wp2_with fail
        refine (Element_any (f k) _).mono ?_
        rintro e w2 ⟨rfl, rfl⟩
        cases hE : elB (f k)
        · go_wp2_with fail
          go_ret2
          have hA := allB_false hlt hE
          rw [(app_els hA).1, (app_els hA).2]
          exact ⟨⟨_, _, rfl, Ints.nil _ _ _⟩, Ext.refl _⟩
        · go_wp2_with fail
          go_round
          case rel =>
            refine ⟨k + 1, by omega, by go_num, ?_⟩
            intro j hj
            by_cases e : j = k
            · rw [e]; exact hE
            · exact HJ.out j (by omega)
          case measure => simp [intOf]; omega
      · obtain rfl : k = n' := by omega
        have hA : allB k f = true := allB_true HJ.out
        clear hlt hk HJ
        obtain ⟨b, o, rfl, hc⟩ := HH.out.at (by omega)
        have hc0 := hc 0 (by omega)
        rw [Nat.add_zero] at hc0
        have HC : Hid (∀ r, r < n → w1.cell? ⟨b, o + r, none⟩ = some (.slice (A r) (L r) (C r))) := hc
        clear hc
        by_cases hL : L 0 = k
        · have hB : ((k : Int) != (L 0 : Int)) = false := by rw [hL]; simp
          have HE : Hid (L 0 = k) := hL
          have hln : k ≤ 8 := by omega
          have hk1 : 1 ≤ k := by omega
          clear hL
          have hmk := make_ints n (by omega)
          go_wp2_with fail
          clear hmk hc0
          have hx0 : Ext w1 (w1.alloc (.cells (madeCells #[.int .i64 0] n) 3)) := (Ext.refl w1).alloc _ _
          have hr0 : (w1.alloc (.cells (madeCells #[.int .i64 0] n) 3)).rowIs w1.heap.size 3 n (fun j => .int .i64 (made 0 (appF L F f) j)) := World.rowIs_made w1 (.int .i64 0) n 3
          generalize (w1.alloc (.cells (madeCells #[.int .i64 0] n) 3)) = w3 at *
          go_loopw [36] (fun i wr => ∃ q : Nat, q ≤ n ∧ i = .int .i64 q ∧ Ext w1 wr ∧ wr.rowIs w1.heap.size 3 n (fun j => .int .i64 (made q (appF L F f) j))) (fun i _ => n - (intOf i).toNat)
          case atStart => exact ⟨0, Nat.zero_le _, rfl, hx0, hr0⟩
          case round =>
            clear hx0 hr0
            obtain ⟨q, hq, rfl, hx, hr⟩ := hrel
            by_cases hlt : q < n
            · have hcq := HC.out q hlt
              have HR : Hid (Ints w1 (A q) (L q) fun i => ev (of (F q i))) := els_of (HH.out.row hlt) (by rw [(M3.out q hlt).1]; exact (M3.out q hlt).2)
              have HV : Hid (Ints w1 a' k fun i => ev (of (f i))) := els_of HI.out (fun i hi => elB_bd _ (allB_of hA hi))
              have hlk : L q ≤ 8 := by have := (M3.out q hlt).1; omega
              have hLk : k ≤ L q := by have := (M3.out q hlt).1; have := HE.out; omega
              obtain ⟨br, or, hAq, hrow⟩ := HR.out.at (by omega)
              obtain ⟨bv, ov, rfl, hvec⟩ := HV.out.at (by omega)
              have HROW : Hid (∀ i, i < L q → w1.cell? ⟨br, or + i, none⟩ = some (.int .i64 (ev (of (F q i))))) := hrow
              have HVEC : Hid (∀ i, i < k → w1.cell? ⟨bv, ov + i, none⟩ = some (.int .i64 (ev (of (f i))))) := hvec
              clear hrow hvec
              rw [mad_start] at hr
              have HR0 : Hid (wr.rowIs w1.heap.size 3 n (fun j => .int .i64 (mad q (appF L F f) ze j))) := hr
              clear hr
              go_wp2_with fail
              go_loopw [41] (fun i wi => ∃ p : Nat, p ≤ k ∧ i = .int .i64 p ∧ Ext w1 wi ∧ wi.rowIs w1.heap.size 3 n (fun j => .int .i64 (mad q (appF L F f) (dot p (fun i => of (F q i)) fun i => of (f i)) j))) (fun i _ => k - (intOf i).toNat)
              case atStart => exact ⟨0, Nat.zero_le _, rfl, hx, HR0.out⟩
              case round =>
                obtain ⟨p, hp, rfl, hxi, hri⟩ := hrel
                by_cases hpt : p < k
                · have hcq' := hxi.keeps hcq
                  have hcr := hxi.keeps (HROW.out p (by omega))
                  have hcv := hxi.keeps (HVEC.out p hpt)
                  have hco := hri.cell hlt
                  rw [mad_at] at hco
                  have hfo := hri.frozen q
                  have hpL : (p : Int) < (L q : Int) := by omega
                  have HRI : Hid (wr.rowIs w1.heap.size 3 n (fun j => .int .i64 (mad q (appF L F f) (dot p (fun i => of (F q i)) fun i => of (f i)) j))) := hri
                  clear hri
                  go_wp2_with fail
                  refine wp_region_still_tail 18 (by kernel_rfl) (by kernel_rfl) ?_
                  simp only [List.take_succ_cons, List.take_zero, List.drop_succ_cons, List.drop_zero]
                  repeat still_step
                  still_call (mulOf_ev (of (F q p)) (of (f p)) _)
                  repeat still_step
                  refine wpStill_nil ?_
                  go_wp2_with fail
                  go_roundw
                  case rel =>
                    refine ⟨p + 1, by omega, by go_num, (hxi.setCell (p := ⟨w1.heap.size, q, none⟩) (Nat.le_refl _) _).drew, ?_⟩
                    have h6 := HRI.out.set q (.int .i64 (ev (dot (p + 1) (fun i => of (F q i)) fun i => of (f i))))
                    rw [mad_set] at h6
                    rw [xor_ev]
                    exact h6.drew
                  case measure => simp [intOf]; omega
                · obtain rfl : p = k := by omega
                  go_wp2_with fail
                  go_roundw
                  case rel =>
                    refine ⟨q + 1, by omega, by go_num, hxi, ?_⟩
                    rw [mad_done q _ _ (by unfold appF; rw [HE.out])] at hri
                    exact hri
                  case measure => simp [intOf]; omega
            · obtain rfl : q = n := by omega
              go_wp2_with fail
              go_ret2
              rw [(app_ok hM hA HE.out).1, (app_ok hM hA HE.out).2]
              refine ⟨⟨_, _, rfl, (Ints.row hr).congr fun i hi => if_pos hi⟩, hx⟩
        · have hB : ((k : Int) != (L 0 : Int)) = true := by rw [bne_iff_ne]; omega
          have HE : Hid (¬ L 0 = k) := hL
          clear hL
          go_wp2_with fail
          go_ret2
          rw [(app_size hM hA HE.out).1, (app_size hM hA HE.out).2]
          exact ⟨⟨_, _, rfl, Ints.nil _ _ _⟩, Ext.refl _⟩
end Go.Proofs.Ytfnocamooapajaa
