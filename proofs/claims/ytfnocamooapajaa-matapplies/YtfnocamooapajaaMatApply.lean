/-
  mat.Apply at every matrix and list, as plain functions; the world only grows.
-/
import Derived.Test.YtfnocamooapajaaChecked
import Derived.WalkKit
import Derived.Test.YtfnocamooapajaaMatOps
import Derived.Test.YtfnocamooapajaaMatBase
namespace Go.Proofs.Ytfnocamooapajaa
open Go.RowKit Go.Deep E
set_option maxRecDepth 100000 in
theorem Apply1_any (q k : Nat) (a : Option Addr) (n c : Nat) (g : Nat → E) (w : World) (hk : k < n) (hq : w.cell? ⟨q, 0, none⟩ = some (.slice a n c)) (h : Ints w a n fun i => ev (g i)) :
    Calls Try.prog 33 #[.int .i64 k, .pointer (some ⟨q, 0, none⟩)] w fun e w' => e = .returned (.int .i64 (ev (g k))) ∧ Ext w w' := by
  obtain ⟨b, o, rfl, hck⟩ := h k hk
  clear h
  go_enter Try.func33, Try.ntmps33
  go_wp2_with fail
  go_ret
  exact ⟨rfl, Ext.refl _⟩
set_option maxRecDepth 100000 in
set_option maxHeartbeats 400000 in
theorem combinedA_any (q : Nat) (a a' : Option Addr) (n c n' c' : Nat) (f g : Nat → E) (w : World) (hn : n ≤ 9223372036854775807) (hn' : n ≤ n') (h : Ints w a n fun i => ev (f i)) (hq : w.cell? ⟨q, 0, none⟩ = some (.slice a' n' c')) (h' : Ints w a' n' fun i => ev (g i)) :
    Calls Try.prog 30 #[.slice a n c, .func (.func 33) #[] #[.pointer (some ⟨q, 0, none⟩)]] w fun e w' => e = .returned (.int .i64 (ev (dot n f g))) ∧ Ext w w' := by
  have HH : Hid (Ints w a n fun i => ev (f i)) := h
  have HI : Hid (Ints w a' n' fun i => ev (g i)) := h'
  have HQ : Hid (w.cell? ⟨q, 0, none⟩ = some (.slice a' n' c')) := hq
  clear h h' hq
  go_enter Try.func30, Try.ntmps30
  go_wp2_with fail
  go_loopw [5, 10] (fun s i wr => ∃ k : Nat, k ≤ n ∧ i = .int .i64 k ∧ s = .int .i64 (ev (dot k f g)) ∧ Ext w wr) (fun _ i _ => n - (intOf i).toNat)
  case atStart => exact ⟨0, Nat.zero_le _, rfl, rfl, Ext.refl _⟩
  case round =>
    obtain ⟨k, hk, rfl, rfl, hx⟩ := hrel
    by_cases hlt : k < n
    · obtain ⟨b, o, rfl, hck⟩ := (HH.out.ext hx) k hlt
      go_wp2_with fail
      refine (Apply1_any q k a' n' c' g _ (by omega) (hx.keeps HQ.out) (HI.out.ext hx)).mono ?_
      rintro e w1 ⟨rfl, hx1⟩
      go_wp2_with fail
      refine (times_any (f k) (g k) _).mono ?_
      rintro e w2 ⟨rfl, hx2⟩
      go_wp2_with fail
      refine (plus_any (dot k f g) (mu (f k) (g k)) _).mono ?_
      rintro e w3 ⟨rfl, hx3⟩
      go_wp2_with fail
      go_roundw
      case rel => exact ⟨k + 1, by omega, by go_num, rfl, ((hx.trans hx1).trans hx2).trans hx3⟩
      case measure => simp [intOf]; omega
    · obtain rfl : k = n := by omega
      go_wp2_with fail
      go_ret
      exact ⟨rfl, hx⟩
def appE (n : Nat) (L : Nat → Nat) (F : Nat → Nat → Int) (n' : Nat) (f : Nat → Int) : Int := if mayB n L F then (if allB n' f then (if L 0 = n' then 0 else 1) else 4) else 4
def appN (n : Nat) (L : Nat → Nat) (F : Nat → Nat → Int) (n' : Nat) (f : Nat → Int) : Nat := if mayB n L F then (if allB n' f then (if L 0 = n' then n else 0) else 0) else 0
def appF (L : Nat → Nat) (F : Nat → Nat → Int) (f : Nat → Int) (r : Nat) : Int := ev (dot (L 0) (fun i => of (F r i)) fun i => of (f i))
theorem app_form {n : Nat} {L : Nat → Nat} {F : Nat → Nat → Int} {n' : Nat} {f : Nat → Int} (h : mayB n L F = false) : appE n L F n' f = 4 ∧ appN n L F n' f = 0 := by simp [appE, appN, h]
theorem app_els {n : Nat} {L : Nat → Nat} {F : Nat → Nat → Int} {n' : Nat} {f : Nat → Int} (h : allB n' f = false) : appE n L F n' f = 4 ∧ appN n L F n' f = 0 := by simp [appE, appN, h]
theorem app_size {n : Nat} {L : Nat → Nat} {F : Nat → Nat → Int} {n' : Nat} {f : Nat → Int} (h0 : mayB n L F = true) (h1 : allB n' f = true) (h : ¬ L 0 = n') : appE n L F n' f = 1 ∧ appN n L F n' f = 0 := by simp [appE, appN, h, h0, h1]
theorem app_ok {n : Nat} {L : Nat → Nat} {F : Nat → Nat → Int} {n' : Nat} {f : Nat → Int} (h0 : mayB n L F = true) (h1 : allB n' f = true) (h : L 0 = n') : appE n L F n' f = 0 ∧ appN n L F n' f = n := by simp [appE, appN, h, h0, h1]
set_option maxRecDepth 100000 in
set_option maxHeartbeats 800000 in
theorem Apply_any (a : Option Addr) (n c : Nat) (A : Nat → Option Addr) (L C : Nat → Nat) (F : Nat → Nat → Int) (a' : Option Addr) (n' c' : Nat) (f : Nat → Int) (w : World) (h : Mat w a n A L C F) (h' : Ints w a' n' f) (hn' : n' ≤ 9223372036854775807) :
    Calls Try.prog 14 #[.slice a n c, .slice a' n' c'] w fun e w' => IntsRes w' e (appN n L F n' f) (appF L F f) (appE n L F n' f) ∧ Ext w w' := by
  have HH : Hid (Mat w a n A L C F) := h
  have HI : Hid (Ints w a' n' f) := h'
  clear h h'
  go_enter Try.func14, Try.ntmps14
  go_wp2_with fail
  refine (May_any a n c A L C F _ (HH.out.ext ?_)).mono ?_
  · exact (Ext.refl w).alloc _ _
  rintro e w1 ⟨rfl, hx1⟩
  have hbox := hx1.keeps (p := ⟨w.heap.size, 0, none⟩) (v := .slice a' n' c') (by rw [new_cell]; rfl)
  have hy1 : Ext w w1 := ((Ext.refl w).alloc _ _).trans hx1
  clear hx1
  cases hM : mayB n L F
  · go_wp2_with fail
    go_ret2
    rw [(app_form hM).1, (app_form hM).2]
    exact ⟨⟨_, _, rfl, Ints.nil _ _ _⟩, hy1⟩
  · obtain ⟨m1, m2, m3⟩ := mayB_of hM
    have M3 : Hid (∀ r, r < n → L r = L 0 ∧ ∀ i, i < L 0 → 0 ≤ F r i ∧ F r i < 256) := m3
    clear m3
    go_wp2_with fail
    refine (melements_any a' n' c' f _ hn' (HI.out.ext hy1)).mono ?_
    rintro e w2 ⟨rfl, hx2⟩
    have hbox2 := hx2.keeps hbox
    have hy2 := hy1.trans hx2
    clear hbox hy1 hx2
    cases hA : allB n' f
    · go_wp2_with fail
      go_ret2
      rw [(app_els hA).1, (app_els hA).2]
      exact ⟨⟨_, _, rfl, Ints.nil _ _ _⟩, hy2⟩
    · obtain ⟨b, o, rfl, hc⟩ := HH.out.at (by omega)
      have hc0 := hy2.keeps (hc 0 (by omega))
      rw [Nat.add_zero] at hc0
      have HC : Hid (∀ r, r < n → w.cell? ⟨b, o + r, none⟩ = some (.slice (A r) (L r) (C r))) := hc
      clear hc
      by_cases hL : L 0 = n'
      · have hB : ((L 0 : Int) != (n' : Int)) = false := by rw [hL]; simp
        have HL : Hid (L 0 = n') := hL
        have hln : L 0 ≤ n' := by omega
        clear hL
        have hmk := make_ints n (by omega)
        go_wp2_with fail
        go_region
        go_wp2_with fail
        clear hmk hc0
        have hy3 : Ext w (w2.alloc (.cells (madeCells #[.int .i64 0] n) 3)).drew := (hy2.alloc _ _).drew
        have hr3 : (w2.alloc (.cells (madeCells #[.int .i64 0] n) 3)).drew.rowIs w2.heap.size 3 n (fun j => .int .i64 (made 0 (appF L F f) j)) := (World.rowIs_made w2 (.int .i64 0) n 3).drew
        have hb3 : (w2.alloc (.cells (madeCells #[.int .i64 0] n) 3)).drew.cell? ⟨w.heap.size, 0, none⟩ = some (.slice a' n' c') := (((Ext.refl w2).alloc _ _).drew).keeps hbox2
        generalize (w2.alloc (.cells (madeCells #[.int .i64 0] n) 3)).drew = w3 at *
        have hz : w.heap.size < w2.heap.size := World.block_lt_of_cell? _ _ hbox2
        clear hbox2
        go_loopw [29] (fun i wr => ∃ k : Nat, k ≤ n ∧ i = .int .i64 k ∧ Ext w wr ∧ wr.rowIs w2.heap.size 3 n (fun j => .int .i64 (made k (appF L F f) j)) ∧ wr.cell? ⟨w.heap.size, 0, none⟩ = some (.slice a' n' c')) (fun i _ => n - (intOf i).toNat)
        case atStart => exact ⟨0, Nat.zero_le _, rfl, hy3, hr3, hb3⟩
        case round =>
          clear hy3 hr3 hb3
          obtain ⟨k, hk, rfl, hx, hr, hb⟩ := hrel
          by_cases hlt : k < n
          · have hck := hx.keeps (HC.out k hlt)
            have HR : Hid (Ints wr (A k) (L k) fun i => ev (of (F k i))) := els_of ((HH.out.row hlt).ext hx) (by rw [(M3.out k hlt).1]; exact (M3.out k hlt).2)
            have HV : Hid (Ints wr a' n' fun i => ev (of (f i))) := els_of (HI.out.ext hx) (fun i hi => elB_bd _ (allB_of hA hi))
            have hlk : L k ≤ 8 := by have := (M3.out k hlt).1; omega
            have HK : Hid (L k ≤ n') := by have := (M3.out k hlt).1; show L k ≤ n'; omega
            have hrl := hr.lt
            have HR4 : Hid (wr.rowIs w2.heap.size 3 n (fun j => .int .i64 (made k (appF L F f) j))) := hr
            clear hr
            go_wp2_with fail
            refine (combinedA_any w.heap.size (A k) a' (L k) (C k) n' c' (fun i => of (F k i)) (fun i => of (f i)) _ (by omega) HK.out HR.out hb HV.out).mono ?_
            rintro e w4 ⟨rfl, hx4⟩
            have hr5 := hx4.rowIs HR4.out
            have hc5 := hr5.cell hlt
            have hf5 := hr5.frozen k
            have HR5 : Hid (w4.rowIs w2.heap.size 3 n (fun j => .int .i64 (made k (appF L F f) j))) := hr5
            clear hr5
            go_wp2_with fail
            go_roundw
            case rel =>
              refine ⟨k + 1, by omega, by go_num, (hx.trans hx4).setCell (p := ⟨w2.heap.size, k, none⟩) (by show w.heap.size ≤ w2.heap.size; omega) _, ?_, ?_⟩
              · have h6 := HR5.out.set k (.int .i64 (appF L F f k))
                rw [made_next] at h6
                have e : ev (dot (L k) (fun i => of (F k i)) fun i => of (f i)) = appF L F f k := by unfold appF; rw [(M3.out k hlt).1]
                rw [e]
                exact h6
              · rw [cell_other _ _ _ _ (by show w.heap.size ≠ w2.heap.size; omega)]
                exact hx4.keeps hb
            case measure => simp [intOf]; omega
          · obtain rfl : k = n := by omega
            go_wp2_with fail
            go_ret2
            rw [(app_ok hM hA HL.out).1, (app_ok hM hA HL.out).2]
            refine ⟨⟨_, _, rfl, (Ints.row hr).congr fun i hi => if_pos hi⟩, hx⟩
      · have hB : ((L 0 : Int) != (n' : Int)) = true := by rw [bne_iff_ne]; omega
        have HL : Hid (¬ L 0 = n') := hL
        clear hL
        go_wp2_with fail
        go_region
        go_wp2_with fail
        go_ret2
        rw [(app_size hM hA HL.out).1, (app_size hM hA HL.out).2]
        exact ⟨⟨_, _, rfl, Ints.nil _ _ _⟩, hy2.drew⟩
end Go.Proofs.Ytfnocamooapajaa
