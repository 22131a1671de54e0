/-
  mat.Mul at every two matrices, as plain functions; the world only grows.
-/
import Derived.Test.YtfnocamooapajaaChecked
import Derived.WalkKit
import Derived.BigQuiet
import Derived.Test.YtfnocamooapajaaMatBase
import Derived.Test.YtfnocamooapajaaMatNew
namespace Go.Proofs.Ytfnocamooapajaa
open Go.RowKit Go.Deep E
/-- of a matrix that may be its rows have the first one's length, and elements -/
def Els (n : Nat) (L : Nat → Nat) (F : Nat → Nat → Int) : Prop := ∀ r, r < n → L r = L 0 ∧ ∀ i, i < L 0 → 0 ≤ F r i ∧ F r i < 256
theorem Els.row {n : Nat} {L : Nat → Nat} {F : Nat → Nat → Int} (h : Els n L F) {w : World} {a : Option Addr} {A : Nat → Option Addr} {C : Nat → Nat} (hm : Mat w a n A L C F) {r : Nat} (hr : r < n) : Ints w (A r) (L r) fun i => ev (of (F r i)) :=
  els_of (hm.row hr) (by rw [(h r hr).1]; exact (h r hr).2)
set_option maxRecDepth 100000 in
set_option maxHeartbeats 400000 in
theorem Mul11_any (q s k j : Nat) (a : Option Addr) (n c : Nat) (A : Nat → Option Addr) (L C : Nat → Nat) (F : Nat → Nat → Int) (w : World) (hk : k < n) (hj : j < L k) (hq : w.cell? ⟨q, 0, none⟩ = some (.slice a n c)) (hs : w.cell? ⟨s, 0, none⟩ = some (.int .i64 j)) (h : Mat w a n A L C F) (hE : Els n L F) :
    Calls Try.prog 31 #[.int .i64 k, .pointer (some ⟨q, 0, none⟩), .pointer (some ⟨s, 0, none⟩)] w fun e w' => e = .returned (.int .i64 (ev (of (F k j)))) ∧ Ext w w' := by
  obtain ⟨⟨b, o, rfl, hck⟩, _⟩ := h k hk
  obtain ⟨b', o', hA, hcj⟩ := hE.row h hk j hj
  clear h hE
  go_enter Try.func31, Try.ntmps31
  go_wp2_with fail
  go_region
  go_wp2_with fail
  go_ret
  exact ⟨rfl, (Ext.refl _).drew⟩
set_option maxRecDepth 100000 in
set_option maxHeartbeats 400000 in
theorem combinedM_any (q s j : Nat) (a a' : Option Addr) (n c n' c' : Nat) (f : Nat → E) (A : Nat → Option Addr) (L C : Nat → Nat) (F : Nat → Nat → Int) (w : World) (hn : n ≤ 9223372036854775807) (hn' : n ≤ n') (hj : ∀ k, k < n → j < L k) (h : Ints w a n fun i => ev (f i)) (hq : w.cell? ⟨q, 0, none⟩ = some (.slice a' n' c')) (hs : w.cell? ⟨s, 0, none⟩ = some (.int .i64 j)) (h' : Mat w a' n' A L C F) (hE : Els n' L F) :
    Calls Try.prog 30 #[.slice a n c, .func (.func 31) #[] #[.pointer (some ⟨q, 0, none⟩), .pointer (some ⟨s, 0, none⟩)]] w fun e w' => e = .returned (.int .i64 (ev (dot n f fun k => of (F k j)))) ∧ Ext w w' := by
  have HH : Hid (Ints w a n fun i => ev (f i)) := h
  have HI : Hid (Mat w a' n' A L C F) := h'
  have HQ : Hid (w.cell? ⟨q, 0, none⟩ = some (.slice a' n' c')) := hq
  have HS : Hid (w.cell? ⟨s, 0, none⟩ = some (.int .i64 j)) := hs
  have HE : Hid (Els n' L F) := hE
  have HJ : Hid (∀ k, k < n → j < L k) := hj
  clear h h' hq hs hE hj
  go_enter Try.func30, Try.ntmps30
  go_wp2_with fail
  go_loopw [5, 10] (fun s i wr => ∃ k : Nat, k ≤ n ∧ i = .int .i64 k ∧ s = .int .i64 (ev (dot k f fun k => of (F k j))) ∧ Ext w wr) (fun _ i _ => n - (intOf i).toNat)
  case atStart => exact ⟨0, Nat.zero_le _, rfl, rfl, Ext.refl _⟩
  case round =>
    obtain ⟨k, hk, rfl, rfl, hx⟩ := hrel
    by_cases hlt : k < n
    · obtain ⟨b, o, rfl, hck⟩ := (HH.out.ext hx) k hlt
      go_wp2_with fail
      refine (Mul11_any q s k j a' n' c' A L C F _ (by omega) (HJ.out k hlt) (hx.keeps HQ.out) (hx.keeps HS.out) (HI.out.ext hx) HE.out).mono ?_
      rintro e w1 ⟨rfl, hx1⟩
      go_wp2_with fail
      refine (times_any (f k) (of (F k j)) _).mono ?_
      rintro e w2 ⟨rfl, hx2⟩
      go_wp2_with fail
      refine (plus_any (dot k f fun k => of (F k j)) (mu (f k) (of (F k j))) _).mono ?_
      rintro e w3 ⟨rfl, hx3⟩
      go_wp2_with fail
      go_roundw
      case rel => exact ⟨k + 1, by omega, by go_num, rfl, ((hx.trans hx1).trans hx2).trans hx3⟩
      case measure => simp [intOf]; omega
    · obtain rfl : k = n := by omega
      go_wp2_with fail
      go_ret
      exact ⟨rfl, hx⟩
/-- what stands in a row and a column of the product -/
def prodE (L : Nat → Nat) (F F' : Nat → Nat → Int) (r c : Nat) : E := dot (L 0) (fun i => of (F r i)) fun i => of (F' i c)
set_option maxRecDepth 100000 in
set_option maxHeartbeats 400000 in
theorem Mul1_any (p q r j : Nat) (a a' : Option Addr) (n c n' c' : Nat) (A A' : Nat → Option Addr) (L C L' C' : Nat → Nat) (F F' : Nat → Nat → Int) (w : World) (hr : r < n) (hL : L 0 = n') (hl8 : L 0 ≤ 8) (hj : j < L' 0)
    (hp : w.cell? ⟨p, 0, none⟩ = some (.slice a n c)) (hq : w.cell? ⟨q, 0, none⟩ = some (.slice a' n' c')) (h : Mat w a n A L C F) (h' : Mat w a' n' A' L' C' F') (hE : Els n L F) (hE' : Els n' L' F') :
    Calls Try.prog 29 #[.int .i64 r, .int .i64 j, .pointer (some ⟨p, 0, none⟩), .pointer (some ⟨q, 0, none⟩)] w fun e w' => e = .returned (.int .i64 (ev (prodE L F F' r j))) ∧ Ext w w' := by
  have hLr : L r = L 0 := (hE r hr).1
  obtain ⟨⟨b, o, rfl, hck⟩, _⟩ := h r hr
  have HR : Hid (Ints w (A r) (L r) fun i => ev (of (F r i))) := hE.row h hr
  have HI : Hid (Mat w a' n' A' L' C' F') := h'
  have HE : Hid (Els n' L' F') := hE'
  have HQ : Hid (w.cell? ⟨q, 0, none⟩ = some (.slice a' n' c')) := hq
  have HP : Hid (L 0 = n') := hL
  have HLR : Hid (L r = L 0) := hLr
  have hl9 : L r ≤ 8 := by omega
  have hl7 : L r ≤ n' := by omega
  have hp' := alloc_keeps hp
  have hck' := alloc_keeps hck
  clear h h' hE hE' hq hL hLr hp hck
  go_enter Try.func29, Try.ntmps29
  go_wp2_with fail
  have hx0 : Ext w (w.alloc (.cells #[.int .i64 j] 3)) := (Ext.refl w).alloc _ _
  refine (combinedM_any q w.heap.size j (A r) a' (L r) (C r) n' c' (fun i => of (F r i)) A' L' C' F' _ (by omega) hl7 ?_ (HR.out.ext hx0) (hx0.keeps HQ.out) ?_ (HI.out.ext hx0) HE.out).mono ?_
  · intro k hk
    rw [(HE.out k (by omega)).1]
    exact hj
  · rw [new_cell]; rfl
  rintro e w1 ⟨rfl, hx1⟩
  go_wp2_with fail
  go_ret
  refine ⟨ret_int ?_, hx0.trans hx1⟩
  unfold prodE
  rw [HLR.out]
/-- what Mul tells: an error, so many rows and columns, and what stands there -/
def mulE (n : Nat) (L : Nat → Nat) (F : Nat → Nat → Int) (n' : Nat) (L' : Nat → Nat) (F' : Nat → Nat → Int) : Int := if mayB n L F then (if mayB n' L' F' then (if L 0 = n' then 0 else 1) else 4) else 4
def mulN (n : Nat) (L : Nat → Nat) (F : Nat → Nat → Int) (n' : Nat) (L' : Nat → Nat) (F' : Nat → Nat → Int) : Nat := if mayB n L F then (if mayB n' L' F' then (if L 0 = n' then n else 0) else 0) else 0
theorem mul_form {n : Nat} {L : Nat → Nat} {F : Nat → Nat → Int} {n' : Nat} {L' : Nat → Nat} {F' : Nat → Nat → Int} (h : mayB n L F = false) : mulE n L F n' L' F' = 4 ∧ mulN n L F n' L' F' = 0 := by simp [mulE, mulN, h]
theorem mul_form' {n : Nat} {L : Nat → Nat} {F : Nat → Nat → Int} {n' : Nat} {L' : Nat → Nat} {F' : Nat → Nat → Int} (h : mayB n' L' F' = false) : mulE n L F n' L' F' = 4 ∧ mulN n L F n' L' F' = 0 := by simp [mulE, mulN, h]
theorem mul_size {n : Nat} {L : Nat → Nat} {F : Nat → Nat → Int} {n' : Nat} {L' : Nat → Nat} {F' : Nat → Nat → Int} (h0 : mayB n L F = true) (h1 : mayB n' L' F' = true) (h : ¬ L 0 = n') : mulE n L F n' L' F' = 1 ∧ mulN n L F n' L' F' = 0 := by simp [mulE, mulN, h, h0, h1]
theorem mul_ok {n : Nat} {L : Nat → Nat} {F : Nat → Nat → Int} {n' : Nat} {L' : Nat → Nat} {F' : Nat → Nat → Int} (h0 : mayB n L F = true) (h1 : mayB n' L' F' = true) (h : L 0 = n') : mulE n L F n' L' F' = 0 ∧ mulN n L F n' L' F' = n := by simp [mulE, mulN, h, h0, h1]
/-- a matrix of n rows of m elements is told, and an error -/
def MatRes (w : World) (e : Ending) (n m : Nat) (M : Nat → Nat → E) (er : Int) : Prop := ∃ a c A C, e = .returned (.tuple #[.slice a n c, .int .i64 er]) ∧ Mat w a n A (fun _ => m) C (fun r i => ev (M r i))
theorem MatRes.none (w : World) (m : Nat) (M : Nat → Nat → E) (er : Int) : MatRes w (.returned (.tuple #[.slice .none 0 0, .int .i64 er])) 0 m M er := ⟨.none, 0, fun _ => .none, fun _ => 0, rfl, fun r hr => by omega⟩
set_option maxRecDepth 100000 in
set_option maxHeartbeats 800000 in
theorem Mul_any2 (a a' : Option Addr) (n c n' c' : Nat) (A A' : Nat → Option Addr) (L C L' C' : Nat → Nat) (F F' : Nat → Nat → Int) (w : World) (h : Mat w a n A L C F) (h' : Mat w a' n' A' L' C' F') :
    Calls Try.prog 11 #[.slice a n c, .slice a' n' c'] w fun e w' => MatRes w' e (mulN n L F n' L' F') (L' 0) (prodE L F F') (mulE n L F n' L' F') ∧ Ext w w' := by
  have HH : Hid (Mat w a n A L C F) := h
  have HI : Hid (Mat w a' n' A' L' C' F') := h'
  clear h h'
  go_enter Try.func11, Try.ntmps11
  go_wp2_with fail
  have hx0 : Ext w ((w.alloc (.cells #[.slice a n c] 22)).alloc (.cells #[.slice a' n' c'] 22)) := ((Ext.refl w).alloc _ _).alloc _ _
  have hbA : ((w.alloc (.cells #[.slice a n c] 22)).alloc (.cells #[.slice a' n' c'] 22)).cell? ⟨w.heap.size, 0, none⟩ = some (.slice a n c) := alloc_keeps (by rw [new_cell]; rfl) _
  have hbB : ((w.alloc (.cells #[.slice a n c] 22)).alloc (.cells #[.slice a' n' c'] 22)).cell? ⟨w.heap.size + 1, 0, none⟩ = some (.slice a' n' c') := by
    have h1 := new_cell (w.alloc (.cells #[.slice a n c] 22)) #[.slice a' n' c'] 22 0
    rw [nblk_alloc] at h1
    exact h1
  refine (May_any a n c A L C F _ (HH.out.ext hx0)).mono ?_
  rintro e w1 ⟨rfl, hx1⟩
  have hA1 := hx1.keeps hbA
  have hB1 := hx1.keeps hbB
  have hy1 := hx0.trans hx1
  clear hx0 hx1 hbA hbB
  cases hM : mayB n L F
  · go_wp2_with fail
    go_ret2
    rw [(mul_form hM).1, (mul_form hM).2]
    exact ⟨MatRes.none _ _ _ _, hy1⟩
  · obtain ⟨m1, m2, m3⟩ := mayB_of hM
    have M3 : Hid (Els n L F) := m3
    clear m3
    go_wp2_with fail
    refine (May_any a' n' c' A' L' C' F' _ (HI.out.ext hy1)).mono ?_
    rintro e w2 ⟨rfl, hx2⟩
    have hA2 := hx2.keeps hA1
    have hB2 := hx2.keeps hB1
    have hy2 := hy1.trans hx2
    clear hy1 hx2 hA1 hB1
    cases hM' : mayB n' L' F'
    · go_wp2_with fail
      go_ret2
      rw [(mul_form' hM').1, (mul_form' hM').2]
      exact ⟨MatRes.none _ _ _ _, hy2⟩
    · obtain ⟨k1, k2, k3⟩ := mayB_of hM'
      have K3 : Hid (Els n' L' F') := k3
      clear k3
      obtain ⟨b, o, rfl, hc⟩ := HH.out.at (by omega)
      have hc0 := hy2.keeps (hc 0 (by omega))
      rw [Nat.add_zero] at hc0
      obtain ⟨b', o', rfl, hc'⟩ := HI.out.at (by omega)
      have hc0' := hy2.keeps (hc' 0 (by omega))
      rw [Nat.add_zero] at hc0'
      clear hc hc'
      by_cases hL : L 0 = n'
      · have hB : ((L 0 : Int) != (n' : Int)) = false := by rw [hL]; simp
        have HL : Hid (L 0 = n') := hL
        clear hL
        go_wp2_with fail
        go_region
        go_wp2_with fail
        have hy3 : Ext w w2.drew := hy2.drew
        have hA3 : w2.drew.cell? ⟨w.heap.size, 0, none⟩ = some (.slice (some ⟨b, o, none⟩) n c) := hA2
        have hB3 : w2.drew.cell? ⟨w.heap.size + 1, 0, none⟩ = some (.slice (some ⟨b', o', none⟩) n' c') := hB2
        have hC3 : w2.drew.cell? ⟨b', o', none⟩ = some (.slice (A' 0) (L' 0) (C' 0)) := hc0'
        clear hA2 hB2 hc0' hc0 hy2
        generalize w2.drew = w3 at *
        have gA := fun x : Gr w3 => x.ext.keeps hA3
        have gB := fun x : Gr w3 => x.ext.keeps hB3
        have gC := fun x : Gr w3 => x.ext.keeps hC3
        clear hA3 hB3 hC3
        refine wp_region_grows 7 (by kernel_rfl) (by kernel_rfl) (fun hne => ?_)
        simp only [List.take_succ_cons, List.take_zero, List.drop_succ_cons, List.drop_zero]
        repeat (go_big_quiet_step (fail))
        refine wpQuiet_nil ?_
        intro w4 hw4
        obtain ⟨x, rfl⟩ := hw4
        have hx4 := hy3.trans x.ext
        have GA : Hid (x.w'.cell? ⟨w.heap.size, 0, none⟩ = some (.slice (some ⟨b, o, none⟩) n c)) := gA x
        have GB : Hid (x.w'.cell? ⟨w.heap.size + 1, 0, none⟩ = some (.slice (some ⟨b', o', none⟩) n' c')) := gB x
        clear gA gB gC
        generalize x.w' = w5 at *
        go_wp2_with fail
        refine (matrix_mul _ _ n (L' 0) (prodE L F F') w5 (by omega) (by omega) ?_).mono ?_
        · intro r hr j hj w' hx'
          have hz := hx4.trans hx'
          exact Mul1_any w.heap.size (w.heap.size + 1) r j _ _ n c n' c' A A' L C L' C' F F' w' hr HL.out m2.2 hj (hx'.keeps GA.out) (hx'.keeps GB.out) (HH.out.ext hz) (HI.out.ext hz) M3.out K3.out
        rintro e w6 ⟨rfl, G, hb⟩
        go_wp2_with fail
        go_ret2
        rw [(mul_ok hM hM' HL.out).1, (mul_ok hM hM' HL.out).2]
        exact ⟨⟨_, _, _, _, rfl, hb.own.mat⟩, hx4.trans hb.ext⟩
      · have hB : ((L 0 : Int) != (n' : Int)) = true := by rw [bne_iff_ne]; omega
        have HL : Hid (¬ L 0 = n') := hL
        clear hL
        go_wp2_with fail
        go_region
        go_wp2_with fail
        go_ret2
        rw [(mul_size hM hM' HL.out).1, (mul_size hM hM' HL.out).2]
        exact ⟨MatRes.none _ _ _ _, hy2.drew⟩
end Go.Proofs.Ytfnocamooapajaa
