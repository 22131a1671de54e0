/-
  slices.Contains of numbers; par.kept, par.twice, par.refusal: plain answers; the world only grows.
-/
import Derived.Test.YthgbfakmkdifbaaChecked
import Derived.WalkKit
import Derived.Test.YthgbfakmkdifbaaPars
import Derived.Test.YthgbfakmkdifbaaByb
import Derived.Test.YthgbfakmkdifbaaMk
namespace Go.Proofs.Ythgbfakmkdifbaa
open Go.RowKit Go.Deep E
/-- is the number one of the first n? -/
def hasB (n : Nat) (f : Nat → Int) (x : Int) : Bool := (List.range n).any fun i => x == f i
theorem hasB_succ (n : Nat) (f : Nat → Int) (x : Int) : hasB (n + 1) f x = (hasB n f x || x == f n) := by
  unfold hasB
  rw [List.range_succ, List.any_append]
  simp
theorem hasB_true {n : Nat} {f : Nat → Int} {x : Int} {i : Nat} (hi : i < n) (h : x = f i) : hasB n f x = true := by
  unfold hasB
  rw [List.any_eq_true]
  exact ⟨i, List.mem_range.2 hi, by rw [h]; simp⟩
theorem hasB_false {n : Nat} {f : Nat → Int} {x : Int} (h : ∀ i, i < n → (x == f i) = false) : hasB n f x = false := by
  unfold hasB
  rw [List.any_eq_false]
  exact fun i hi => by rw [h i (List.mem_range.1 hi)]; simp
theorem hasB_ex {n : Nat} {f : Nat → Int} {x : Int} (h : hasB n f x = true) : ∃ i, i < n ∧ x = f i := by
  unfold hasB at h
  rw [List.any_eq_true] at h
  obtain ⟨i, hi, hx⟩ := h
  exact ⟨i, List.mem_range.1 hi, eq_of_beq hx⟩
set_option maxRecDepth 100000 in
set_option maxHeartbeats 400000 in
theorem Index_any (a : Option Addr) (n c : Nat) (f : Nat → Int) (x : Int) (w : World) (hn : n ≤ 9223372036854775807) (h : Ints w a n f) :
    Calls Try.prog 86 #[.slice a n c, .int .i64 x] w fun e w' => (∃ r : Int, e = .returned (.int .i64 r) ∧ decide (0 ≤ r) = hasB n f x) ∧ w' = w := by
  have HH : Hid (Ints w a n f) := h
  clear h
  go_enter Try.func86, Try.ntmps86
  go_wp2_with fail
  go_loop [8] (fun i => ∃ k : Nat, k ≤ n ∧ i = .int .i64 k ∧ Hid (∀ j, j < k → (x == f j) = false)) (fun i => n - (intOf i).toNat)
  case atStart => exact ⟨0, Nat.zero_le _, rfl, fun j h => by omega⟩
  case round =>
    obtain ⟨k, hk, rfl, HI⟩ := hrel
    by_cases hlt : k < n
    · obtain ⟨b, o, rfl, hck⟩ := HH.out k hlt
      cases hE : (x == f k)
      · go_wp2_with fail
        go_round
        case rel =>
          refine ⟨k + 1, by omega, by go_num, ?_⟩
          intro j hj
          by_cases e : j = k
          · rw [e]; exact hE
          · exact HI.out j (by omega)
        case measure => simp [intOf]; omega
      · go_wp2_with fail
        go_ret
        exact ⟨⟨_, rfl, by rw [hasB_true hlt (eq_of_beq hE)]; simp⟩, rfl⟩
    · go_wp2_with fail
      go_ret
      exact ⟨⟨_, rfl, by rw [hasB_false fun r hr => HI.out r (by omega)]; simp⟩, rfl⟩
set_option maxRecDepth 100000 in
theorem Contains_any (a : Option Addr) (n c : Nat) (f : Nat → Int) (x : Int) (w : World) (hn : n ≤ 9223372036854775807) (h : Ints w a n f) :
    Calls Try.prog 70 #[.slice a n c, .int .i64 x] w fun e w' => e = .returned (.bool (hasB n f x)) ∧ w' = w := by
  have HH : Hid (Ints w a n f) := h
  clear h
  go_enter Try.func70, Try.ntmps70
  go_wp2_with fail
  refine (Index_any a n c f x _ hn HH.out).mono ?_
  rintro e w' ⟨⟨r, rfl, hr⟩, rfl⟩
  go_wp2_with fail
  go_ret
  exact ⟨rfl, rfl⟩
/-- those ahead of n that are not g, ascending -/
def KL (n : Nat) (g : Nat → Bool) : List Nat := (List.range n).filter fun k => !g k
theorem KL_yes {n : Nat} {g : Nat → Bool} (h : g n = false) : KL (n + 1) g = KL n g ++ [n] := by
  unfold KL
  rw [List.range_succ, List.filter_append]
  simp [h]
theorem KL_no {n : Nat} {g : Nat → Bool} (h : g n = true) : KL (n + 1) g = KL n g := by
  unfold KL
  rw [List.range_succ, List.filter_append]
  simp [h]
theorem KL_len (n : Nat) (g : Nat → Bool) : (KL n g).length ≤ n := by
  unfold KL
  exact Nat.le_trans (List.length_filter_le _ _) (by simp)
theorem KL_mem {n : Nat} {g : Nat → Bool} {k : Nat} : k ∈ KL n g ↔ k < n ∧ g k = false := by
  unfold KL
  rw [List.mem_filter, List.mem_range]
  simp
theorem KL_at {n : Nat} {g : Nat → Bool} {i : Nat} (hi : i < (KL n g).length) : (KL n g).getD i 0 < n ∧ g ((KL n g).getD i 0) = false := by
  rw [List.getD_eq_getElem?_getD, List.getElem?_eq_getElem hi]
  exact KL_mem.1 (List.getElem_mem hi)
/-- a slice of the columns of a list of places -/
theorem own_cols {w w0 : World} {base : Nat} {v : Value} {l : List Nat} {a : Option Addr} {n : Nat} {A : Nat → Option Addr} {L C : Nat → Nat} {F : Nat → Nat → E} {t : TypeId} (h : w.ownsRow base t 1 v l.length (l.map fun r => .slice (A r) (L r) (C r))) (hc : Cols w0 a n A L C F) (x : Ext w0 w) (hl : ∀ k ∈ l, k < n) :
    ∃ a' c', v = .slice a' l.length c' ∧ Cols w a' l.length (fun i => A (l.getD i 0)) (fun i => L (l.getD i 0)) (fun i => C (l.getD i 0)) (fun i => F (l.getD i 0)) := by
  obtain ⟨a', c', hv, hcs⟩ := own_slice h
  refine ⟨a', c', hv, fun r hr => ⟨?_, ?_⟩⟩
  · obtain ⟨b, o, ha, hb⟩ := hcs r hr
    refine ⟨b, o, ha, ?_⟩
    have e : l.getD r 0 = l[r] := by rw [List.getD_eq_getElem?_getD, List.getElem?_eq_getElem hr]; rfl
    rw [hb, List.getElem?_map, List.getElem?_eq_getElem hr]
    dsimp only
    rw [e]
    rfl
  · have hm : l.getD r 0 < n := by
      rw [List.getD_eq_getElem?_getD, List.getElem?_eq_getElem hr]
      exact hl _ (List.getElem_mem hr)
    exact (hc.col hm).ext x
set_option maxRecDepth 100000 in
set_option maxHeartbeats 800000 in
theorem kept_any (a : Option Addr) (n c : Nat) (A : Nat → Option Addr) (L C : Nat → Nat) (F : Nat → Nat → E) (al : Option Addr) (nl cl : Nat) (fl : Nat → Int) (w : World) (hn : n ≤ 1048576) (hnl : nl ≤ 9223372036854775807) (h : Cols w a n A L C F) (hl : Ints w al nl fl) :
    Calls Try.prog 72 #[.slice a n c, .slice al nl cl] w fun e w' => (∃ v, e = .returned v ∧ w'.ownsRow w.heap.size 22 1 v (KL n fun k => hasB nl fl k).length ((KL n fun k => hasB nl fl k).map fun r => .slice (A r) (L r) (C r))) ∧ Ext w w' := by
  have HH : Hid (Cols w a n A L C F) := h
  have HL : Hid (Ints w al nl fl) := hl
  clear h hl
  go_enter Try.func72, Try.ntmps72
  go_wp2_with fail
  go_loopw [5, 10] (fun v i wr => ∃ k : Nat, k ≤ n ∧ i = .int .i64 k ∧ Ext w wr ∧ wr.ownsRow w.heap.size 22 1 v (KL k fun k => hasB nl fl k).length ((KL k fun k => hasB nl fl k).map fun r => .slice (A r) (L r) (C r))) (fun _ i _ => n - (intOf i).toNat)
  case atStart => exact ⟨0, Nat.zero_le _, rfl, Ext.refl _, World.ownsRow_nil _ _ _ _⟩
  case round =>
    obtain ⟨k, hk, rfl, hx, hown⟩ := hrel
    have HO : Hid (wr.ownsRow w.heap.size 22 1 u5 (KL k fun k => hasB nl fl k).length ((KL k fun k => hasB nl fl k).map fun r => .slice (A r) (L r) (C r))) := hown
    clear hown
    by_cases hlt : k < n
    · obtain ⟨⟨b, o, rfl, hck⟩, _⟩ := (HH.out.ext hx) k hlt
      go_wp2_with fail
      refine (Contains_any al nl cl fl k _ hnl (HL.out.ext hx)).mono ?_
      rintro e w' ⟨rfl, rfl⟩
      clear hck
      cases hE : hasB nl fl (k : Int)
      · have hln := KL_len k fun k => hasB nl fl k
        have hsz := hx.size
        go_wp2_with (first | (at_builtin; refine append_one w' rfl _ _ 23 rfl w.heap.size 22 (.slice none 0 0) 24 Try.underlying23 infoBytes rfl u5 (KL k fun k => hasB nl fl k).length _ rfl HO.out (.slice (A k) (L k) (C k)) 1 rfl rfl (by omega) (by omega) hsz ?_) | go_in)
        intro v' w5 hown' hgrow
        have HN : Hid (Ext w w5 ∧ w5.ownsRow w.heap.size 22 1 v' (KL (k + 1) fun k => hasB nl fl k).length ((KL (k + 1) fun k => hasB nl fl k).map fun r => .slice (A r) (L r) (C r))) := by
          refine ⟨(hx.alloc _ _).grow hgrow fun b hb => (own_ge HO.out hb).1, ?_⟩
          rw [KL_yes (g := fun k => hasB nl fl k) hE, List.length_append, List.map_append]
          exact hown'
        clear hown' hgrow hln
        go_wp2_with fail
        go_roundw
        case rel => exact ⟨k + 1, by omega, by go_num, HN.out.1, HN.out.2⟩
        case measure => simp [intOf]; omega
      · have HN : Hid (w'.ownsRow w.heap.size 22 1 u5 (KL (k + 1) fun k => hasB nl fl k).length ((KL (k + 1) fun k => hasB nl fl k).map fun r => .slice (A r) (L r) (C r))) := by
          rw [KL_no (g := fun k => hasB nl fl k) hE]; exact HO.out
        go_wp2_with fail
        go_roundw
        case rel => exact ⟨k + 1, by omega, by go_num, hx, HN.out⟩
        case measure => simp [intOf]; omega
    · obtain rfl : n = k := by omega
      go_wp2_with fail
      go_ret
      exact ⟨⟨_, rfl, HO.out⟩, hx⟩
/-- is one of the first m no place of n? -/
def outB (n m : Nat) (f : Nat → Int) : Bool := (List.range m).any fun i => decide (f i < 0) || decide ((n : Int) ≤ f i)
theorem outB_true {n m : Nat} {f : Nat → Int} {i : Nat} (hi : i < m) (h : f i < 0 ∨ (n : Int) ≤ f i) : outB n m f = true := by
  unfold outB
  rw [List.any_eq_true]
  exact ⟨i, List.mem_range.2 hi, by simp; exact h⟩
theorem outB_false {n m : Nat} {f : Nat → Int} (h : ∀ i, i < m → 0 ≤ f i ∧ f i < n) : outB n m f = false := by
  unfold outB
  rw [List.any_eq_false]
  intro i hi
  have := h i (List.mem_range.1 hi)
  simp; omega
theorem outB_in {n m : Nat} {f : Nat → Int} (h : outB n m f = false) {i : Nat} (hi : i < m) : 0 ≤ f i ∧ f i < n := by
  unfold outB at h
  rw [List.any_eq_false] at h
  have := h i (List.mem_range.2 hi)
  simp at this; omega
set_option maxRecDepth 100000 in
theorem refusal1_any (g : Nat) (a : Option Addr) (n c : Nat) (x : Int) (w : World) (hg : w.cell? ⟨g, 0, none⟩ = some (.slice a n c)) :
    Calls Try.prog 84 #[.int .i64 x, .pointer (some ⟨g, 0, none⟩)] w fun e w' => e = .returned (.bool (decide (x < 0) || decide ((n : Int) ≤ x))) ∧ w' = w := by
  by_cases h0 : x < 0
  · go_enter Try.func84, Try.ntmps84
    go_wp2_with fail
    go_ret
    exact ⟨ret_boolB (by simp [h0]), rfl⟩
  · go_enter Try.func84, Try.ntmps84
    go_wp2_with fail
    go_ret
    exact ⟨ret_boolB (by simp; omega), rfl⟩
set_option maxRecDepth 100000 in
set_option maxHeartbeats 400000 in
theorem indexOut_any (g : Nat) (a : Option Addr) (n c : Nat) (al : Option Addr) (m cl : Nat) (f : Nat → Int) (w : World) (hm : m ≤ 9223372036854775807) (hg : w.cell? ⟨g, 0, none⟩ = some (.slice a n c)) (h : Ints w al m f) :
    Calls Try.prog 91 #[.slice al m cl, .func (.func 84) #[] #[.pointer (some ⟨g, 0, none⟩)]] w fun e w' => (∃ r : Int, e = .returned (.int .i64 r) ∧ decide (0 ≤ r) = outB n m f) ∧ w' = w := by
  have HH : Hid (Ints w al m f) := h
  have HG : Hid (w.cell? ⟨g, 0, none⟩ = some (.slice a n c)) := hg
  clear h hg
  go_enter Try.func91, Try.ntmps91
  go_wp2_with fail
  go_loop [8] (fun i => ∃ k : Nat, k ≤ m ∧ i = .int .i64 k ∧ Hid (∀ j, j < k → 0 ≤ f j ∧ f j < n)) (fun i => m - (intOf i).toNat)
  case atStart => exact ⟨0, Nat.zero_le _, rfl, fun j h => by omega⟩
  case round =>
    obtain ⟨k, hk, rfl, HI⟩ := hrel
    by_cases hlt : k < m
    · obtain ⟨b, o, rfl, hck⟩ := HH.out k hlt
      go_wp2_with fail
      refine (refusal1_any g a n c (f k) _ HG.out).mono ?_
      rintro e w' ⟨rfl, rfl⟩
      cases hE : (decide (f k < 0) || decide ((n : Int) ≤ f k))
      · have hin : 0 ≤ f k ∧ f k < n := by simp at hE; omega
        clear hE
        go_wp2_with fail
        go_round
        case rel =>
          refine ⟨k + 1, by omega, by go_num, ?_⟩
          intro j hj
          by_cases e : j = k
          · rw [e]; exact hin
          · exact HI.out j (by omega)
        case measure => simp [intOf]; omega
      · have hin : f k < 0 ∨ (n : Int) ≤ f k := by simp at hE; omega
        clear hE
        go_wp2_with fail
        go_ret
        exact ⟨⟨_, rfl, by rw [outB_true hlt hin]; simp⟩, rfl⟩
    · go_wp2_with fail
      go_ret
      exact ⟨⟨_, rfl, by rw [outB_false fun r hr => HI.out r (by omega)]; simp⟩, rfl⟩
set_option maxRecDepth 100000 in
theorem containsOut_any (g : Nat) (a : Option Addr) (n c : Nat) (al : Option Addr) (m cl : Nat) (f : Nat → Int) (w : World) (hm : m ≤ 9223372036854775807) (hg : w.cell? ⟨g, 0, none⟩ = some (.slice a n c)) (h : Ints w al m f) :
    Calls Try.prog 83 #[.slice al m cl, .func (.func 84) #[] #[.pointer (some ⟨g, 0, none⟩)]] w fun e w' => e = .returned (.bool (outB n m f)) ∧ w' = w := by
  have HH : Hid (Ints w al m f) := h
  have HG : Hid (w.cell? ⟨g, 0, none⟩ = some (.slice a n c)) := hg
  clear h hg
  go_enter Try.func83, Try.ntmps83
  go_wp2_with fail
  refine (indexOut_any g a n c al m cl f _ hm HG.out HH.out).mono ?_
  rintro e w' ⟨⟨r, rfl, hr⟩, rfl⟩
  go_wp2_with fail
  go_ret
  exact ⟨rfl, rfl⟩
/-- are two of the first m the same? -/
def dupB (m : Nat) (f : Nat → Int) : Bool := (List.range m).any fun i => hasB i f (f i)
theorem dupB_true {m : Nat} {f : Nat → Int} {i : Nat} (hi : i < m) (h : hasB i f (f i) = true) : dupB m f = true := by
  unfold dupB
  rw [List.any_eq_true]
  exact ⟨i, List.mem_range.2 hi, h⟩
theorem dupB_false {m : Nat} {f : Nat → Int} (h : ∀ i, i < m → hasB i f (f i) = false) : dupB m f = false := by
  unfold dupB
  rw [List.any_eq_false]
  exact fun i hi => by rw [h i (List.mem_range.1 hi)]; simp
theorem infoBool : (Try.prog.info? 4).map (fun i => (i.zero, i.size, i.bytes)) = some (some (.bool false), 1, 1) := by kernel_rfl
theorem make_bools (n : Nat) (hb : n ≤ 1073741824) (w : World) : (Instr.makeSlice 60 (.int .i64 (n : Int)) (.int .i64 (n : Int))).run Try.prog w = .ok (.slice (some ⟨w.heap.size, 0, none⟩) n n) (w.alloc (.cells (madeCells #[.bool false] n) 4)) :=
  run_make_row' (P := Try.prog) 60 4 (.bool false) 1 Try.underlying60 infoBool rfl .i64 .i64 n (by omega) (by omega) w
set_option maxRecDepth 100000 in
set_option maxHeartbeats 800000 in
theorem twice_any (n : Nat) (al : Option Addr) (m cl : Nat) (f : Nat → Int) (w : World) (hn : n ≤ 1048576) (hm : m ≤ 9223372036854775807) (hin : ∀ i, i < m → 0 ≤ f i ∧ f i < n) (h : Ints w al m f) :
    Calls Try.prog 85 #[.int .i64 n, .slice al m cl] w fun e w' => e = .returned (.bool (dupB m f)) ∧ Ext w w' := by
  have HH : Hid (Ints w al m f) := h
  have HI : Hid (∀ i, i < m → 0 ≤ f i ∧ f i < n) := hin
  clear h hin
  have hmk := make_bools n (by omega)
  go_enter Try.func85, Try.ntmps85
  go_wp2_with fail
  clear hmk
  have HR0 : Hid ((w.alloc (.cells (madeCells #[.bool false] n) 4)).rowIs w.heap.size 4 n (fun q => .bool (hasB 0 f q))) := World.rowIs_made w (.bool false) n 4
  have HX0 : Hid (Ext w (w.alloc (.cells (madeCells #[.bool false] n) 4))) := (Ext.refl w).alloc _ _
  generalize w.alloc (.cells (madeCells #[.bool false] n) 4) = w1 at *
  go_loopw [12] (fun i wr => ∃ k : Nat, k ≤ m ∧ i = .int .i64 k ∧ Ext w wr ∧ wr.rowIs w.heap.size 4 n (fun q => .bool (hasB k f q)) ∧ Hid (∀ i, i < k → hasB i f (f i) = false)) (fun i _ => m - (intOf i).toNat)
  case atStart => exact ⟨0, Nat.zero_le _, rfl, HX0.out, HR0.out, fun i hi => by omega⟩
  case round =>
    clear HR0 HX0
    obtain ⟨k, hk, rfl, hx, hr, HD⟩ := hrel
    by_cases hlt : k < m
    · obtain ⟨b, o, rfl, hck⟩ := (HH.out.ext hx) k hlt
      obtain ⟨i1, i2⟩ := HI.out k hlt
      obtain ⟨q, hq⟩ := Int.eq_ofNat_of_zero_le i1
      have hqn : q < n := by omega
      rw [hq] at hck
      have hc1 := hr.cell hqn
      have hf1 := hr.frozen q
      have HR : Hid (wr.rowIs w.heap.size 4 n (fun q => .bool (hasB k f q))) := hr
      have HQ : Hid (f k = (q : Int)) := hq
      clear hr hq i1 i2
      cases hE : hasB k f (q : Int)
      · rw [hE] at hc1
        go_wp2_with fail
        go_roundw
        case rel =>
          refine ⟨k + 1, by omega, by go_num, hx.setCell (Nat.le_refl _) _, (HR.out.set q (.bool true)).congr fun i _ => ?_, fun i hi => ?_⟩
          · rw [hasB_succ, HQ.out]
            by_cases e : i = q
            · rw [if_pos e, e]; simp
            · rw [if_neg e, show ((i : Int) == (q : Int)) = false by rw [beq_eq_false_iff_ne]; omega, Bool.or_false]
          · by_cases e : i = k
            · rw [e, HQ.out]; exact hE
            · exact HD.out i (by omega)
        case measure => simp [intOf]; omega
      · rw [hE] at hc1
        go_wp2_with fail
        go_ret
        rw [dupB_true hlt (by rw [HQ.out]; exact hE)]
        exact ⟨rfl, hx⟩
    · go_wp2_with fail
      go_ret
      rw [dupB_false fun i hi => HD.out i (by omega)]
      exact ⟨rfl, hx⟩
/-- what is lost -/
def goneB (nl : Nat) (fl : Nat → Int) (k : Nat) : Bool := hasB nl fl k
def keptAlike (n : Nat) (L : Nat → Nat) (nl : Nat) (fl : Nat → Int) : Bool := alikeB (KL n fun k => hasB nl fl k).length fun i => L ((KL n fun k => hasB nl fl k).getD i 0)
/-- why Rebuild can't be done; 0 if it can -/
def rebE (n : Nat) (L : Nat → Nat) (p : Int) (nl : Nat) (fl : Nat → Int) : Int :=
  if fromTo 1 3 p && fromTo 1 12 (n - p) then if keptAlike n L nl fl then if outB n nl fl then 2 else if dupB nl fl then 7 else if p < nl then 12 else 0 else 4 else 2
set_option maxRecDepth 100000 in
set_option maxHeartbeats 800000 in
theorem refusal_any (a : Option Addr) (n c : Nat) (A : Nat → Option Addr) (L C : Nat → Nat) (F : Nat → Nat → E) (p : Int) (al : Option Addr) (nl cl : Nat) (fl : Nat → Int) (w : World) (hn : n ≤ 9223372036854775807) (hnl : nl ≤ 9223372036854775807) (h : Cols w a n A L C F) (hl : Ints w al nl fl) :
    Calls Try.prog 68 #[.slice a n c, .int .i64 p, .slice al nl cl] w fun e w' => e = .returned (.int .i64 (rebE n L p nl fl)) ∧ Ext w w' := by
  have HH : Hid (Cols w a n A L C F) := h
  have HL : Hid (Ints w al nl fl) := hl
  clear h hl
  have HX : Hid (Ext w (w.alloc (.cells #[.slice a n c] 23))) := (Ext.refl w).alloc _ _
  have HG : Hid ((w.alloc (.cells #[.slice a n c] 23)).cell? ⟨w.heap.size, 0, none⟩ = some (.slice a n c)) := by rw [new_cell]; rfl
  go_enter Try.func68, Try.ntmps68
  go_wp2_with fail
  generalize w.alloc (.cells #[.slice a n c] 23) = w1 at *
  generalize w.heap.size = gb at *
  have hg1 := HG.out
  refine (mayParity_any p _).mono ?_
  rintro e w2 ⟨rfl, rfl⟩
  cases hP : fromTo 1 3 p
  · go_wp2_with fail
    go_ret
    unfold rebE
    rw [hP]
    exact ⟨rfl, HX.out⟩
  · have hpb := fromTo_bd hP
    go_wp2_with fail
    refine (mayData_any ((n : Int) - p) _).mono ?_
    rintro e w2 ⟨rfl, rfl⟩
    cases hD : fromTo 1 12 ((n : Int) - p)
    · go_wp2_with fail
      go_ret
      unfold rebE
      rw [hP, hD]
      exact ⟨rfl, HX.out⟩
    · have hdb := fromTo_bd hD
      have hn16 : n ≤ 16 := by omega
      go_wp2_with fail
      clear hg1
      refine (kept_any a n c A L C F al nl cl fl _ (by omega) hnl (HH.out.ext HX.out) (HL.out.ext HX.out)).mono ?_
      rintro e w3 ⟨⟨v, rfl, hown⟩, hx3⟩
      obtain ⟨a3, c3, rfl, hc3⟩ := own_cols hown (HH.out.ext HX.out) hx3 fun k hk => (KL_mem.1 hk).1
      have HK : Hid (Cols w3 a3 (KL n fun k => hasB nl fl k).length (fun i => A ((KL n fun k => hasB nl fl k).getD i 0)) (fun i => L ((KL n fun k => hasB nl fl k).getD i 0)) (fun i => C ((KL n fun k => hasB nl fl k).getD i 0)) (fun i => F ((KL n fun k => hasB nl fl k).getD i 0))) := hc3
      clear hown hc3
      have hln := KL_len n fun k => hasB nl fl k
      go_wp2_with fail
      refine (alike_any a3 _ c3 _ _ _ _ _ (by omega) HK.out).mono ?_
      rintro e w4 ⟨rfl, hx4⟩
      have hx34 := hx3.trans hx4
      clear HK hln
      cases hA : alikeB (KL n fun k => hasB nl fl k).length fun i => L ((KL n fun k => hasB nl fl k).getD i 0)
      · go_wp2_with fail
        go_ret
        unfold rebE keptAlike
        rw [hP, hD, hA]
        exact ⟨rfl, HX.out.trans hx34⟩
      · have hg4 := hx34.keeps HG.out
        have HG4 : Hid (w4.cell? ⟨gb, 0, none⟩ = some (.slice a n c)) := hg4
        clear hg4
        go_wp2_with fail
        refine (containsOut_any gb a n c al nl cl fl _ hnl HG4.out (HL.out.ext (HX.out.trans hx34))).mono ?_
        rintro e w5 ⟨rfl, rfl⟩
        cases hO : outB n nl fl
        · have hg5 := HG4.out
          go_wp2_with fail
          clear hg5
          refine (twice_any n al nl cl fl _ (by omega) hnl (fun i hi => outB_in hO hi) (HL.out.ext (HX.out.trans hx34))).mono ?_
          rintro e w6 ⟨rfl, hx6⟩
          cases hT : dupB nl fl
          · by_cases hpl : p < nl
            · go_wp2_with fail
              go_ret
              unfold rebE keptAlike
              rw [hP, hD, hA, hO, hT]
              simp only [Bool.and_self, if_true, Bool.false_eq_true, if_false]
              rw [if_pos hpl]
              exact ⟨rfl, (HX.out.trans hx34).trans hx6⟩
            · go_wp2_with fail
              go_ret
              unfold rebE keptAlike
              rw [hP, hD, hA, hO, hT]
              simp only [Bool.and_self, if_true, Bool.false_eq_true, if_false]
              rw [if_neg (by omega)]
              exact ⟨rfl, (HX.out.trans hx34).trans hx6⟩
          · go_wp2_with fail
            go_ret
            unfold rebE keptAlike
            rw [hP, hD, hA, hO, hT]
            exact ⟨rfl, (HX.out.trans hx34).trans hx6⟩
        · go_wp2_with fail
          go_ret
          unfold rebE keptAlike
          rw [hP, hD, hA, hO]
          exact ⟨rfl, HX.out.trans hx34⟩
end Go.Proofs.Ythgbfakmkdifbaa
