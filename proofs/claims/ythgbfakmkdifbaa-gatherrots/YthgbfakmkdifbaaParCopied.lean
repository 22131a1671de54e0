/-
  par.copied and par.places with the closures of par.Rebuild: plain answers; the world only grows.
-/
import Derived.Test.YthgbfakmkdifbaaChecked
import Derived.WalkKit
import Derived.Test.YthgbfakmkdifbaaParLost
import Derived.Test.YthgbfakmkdifbaaByb
import Derived.Test.YthgbfakmkdifbaaMk
namespace Go.Proofs.Ythgbfakmkdifbaa
open Go.RowKit Go.Deep E
set_option maxRecDepth 100000 in
theorem Rebuild1_any (g : Nat) (al : Option Addr) (nl cl : Nat) (fl : Nat → Int) (x : Int) (w : World) (hnl : nl ≤ 9223372036854775807) (hg : w.cell? ⟨g, 0, none⟩ = some (.slice al nl cl)) (hl : Ints w al nl fl) :
    Calls Try.prog 69 #[.int .i64 x, .pointer (some ⟨g, 0, none⟩)] w fun e w' => e = .returned (.bool (hasB nl fl x)) ∧ w' = w := by
  have HL : Hid (Ints w al nl fl) := hl
  clear hl
  go_enter Try.func69, Try.ntmps69
  go_wp2_with fail
  refine (Contains_any al nl cl fl x _ hnl HL.out).mono ?_
  rintro e w' ⟨rfl, rfl⟩
  go_wp2_with fail
  go_ret
  exact ⟨rfl, rfl⟩
/-- the columns, those that are lost as 0s -/
def lostZ (nl : Nat) (fl : Nat → Int) (F : Nat → Nat → E) (k x : Nat) : E := if hasB nl fl k then ze else F k x
theorem lostZ_yes {nl : Nat} {fl : Nat → Int} {F : Nat → Nat → E} {k : Nat} (h : hasB nl fl k = true) (x : Nat) : lostZ nl fl F k x = ze := if_pos h
theorem lostZ_no {nl : Nat} {fl : Nat → Int} {F : Nat → Nat → E} {k : Nat} (h : hasB nl fl k = false) (x : Nat) : lostZ nl fl F k x = F k x := if_neg (by rw [h]; simp)
set_option maxRecDepth 100000 in
set_option maxHeartbeats 800000 in
theorem pcopied_any (a : Option Addr) (n c : Nat) (A : Nat → Option Addr) (L C : Nat → Nat) (F : Nat → Nat → E) (m g : Nat) (al : Option Addr) (nl cl : Nat) (fl : Nat → Int) (w : World) (hn : n ≤ 1048576) (hm : m ≤ 1048576) (hnl : nl ≤ 9223372036854775807) (h : Cols w a n A L C F)
    (hg : w.cell? ⟨g, 0, none⟩ = some (.slice al nl cl)) (hl : Ints w al nl fl) (hL : ∀ k, k < n → hasB nl fl k = false → L k = m) :
    Calls Try.prog 71 #[.slice a n c, .int .i64 m, .func (.func 69) #[] #[.pointer (some ⟨g, 0, none⟩)]] w fun e w' => e = .returned (.slice (some ⟨w.heap.size, 0, none⟩) n n) ∧ ∃ G, BldB w w' w.heap.size n m n (lostZ nl fl F) G := by
  have HH : Hid (Cols w a n A L C F) := h
  have HL : Hid (Ints w al nl fl) := hl
  have HG : Hid (w.cell? ⟨g, 0, none⟩ = some (.slice al nl cl)) := hg
  have HM : Hid (∀ k, k < n → hasB nl fl k = false → L k = m) := hL
  clear h hl hg hL
  have hmk := make_cols n (by omega)
  have hmk' := make_bytes m (by omega)
  go_enter Try.func71, Try.ntmps71
  go_wp2_with fail
  have h0 := BldB.start w n m (lostZ nl fl F) (fun _ => 0)
  generalize w.alloc (.cells (madeCells #[.slice none 0 0] n) 22) = w1 at *
  clear hmk
  go_loopw [15] (fun i wr => ∃ k : Nat, k ≤ n ∧ i = .int .i64 k ∧ ∃ G, BldB w wr w.heap.size n m k (lostZ nl fl F) G) (fun i _ => n - (intOf i).toNat)
  case atStart => exact ⟨0, Nat.zero_le _, rfl, _, h0⟩
  case round =>
    clear h0
    obtain ⟨k, hk, rfl, G, hb⟩ := hrel
    by_cases hlt : k < n
    · obtain ⟨⟨b, o, rfl, hcw⟩, hcol⟩ := HH.out k hlt
      have hck := hb.ext.keeps hcw
      have hct := hb.top.cell hlt
      rw [if_neg (by omega)] at hct
      have hft := hb.top.frozen k
      have hBl := hb.top.lt
      have HB1 : Hid (BldB w ((wr.setCell ⟨w.heap.size, k, none⟩ (.slice (some ⟨wr.heap.size, 0, none⟩) m m)).alloc (.cells (madeCells #[.int .u8 0] m) 5)) w.heap.size n m (k + 1) (fun r => if r = k then fun _ => ze else lostZ nl fl F r) (fun r => if r = k then wr.heap.size else G r)) := hb.made (Nat.le_refl _)
      clear hb
      go_wp2_with fail
      clear hck hct hft hBl
      generalize (wr.setCell ⟨w.heap.size, k, none⟩ (.slice (some ⟨wr.heap.size, 0, none⟩) m m)).alloc (.cells (madeCells #[.int .u8 0] m) 5) = w2 at *
      generalize wr.heap.size = gk at *
      refine (Rebuild1_any g al nl cl fl k _ hnl (HB1.out.ext.keeps HG.out) (HL.out.ext HB1.out.ext)).mono ?_
      rintro e w3 ⟨rfl, rfl⟩
      cases hE : hasB nl fl (k : Int)
      · have hLk := HM.out k hlt hE
        have hct := HB1.out.top.cell hlt
        rw [if_pos (by omega), if_pos rfl] at hct
        have hrk := HB1.out.row k (by omega)
        rw [if_pos rfl, if_pos rfl] at hrk
        have HC : Hid (Byts w3 (A k) (L k) (F k)) := hcol.ext HB1.out.ext
        have HLK : Hid (L k = m) := hLk
        have HRK : Hid (w3.rowIs gk 5 m (bvs fun _ => ze)) := hrk
        clear hLk hrk hcol
        go_wp2_with (refine copy_byts rfl (.tmp 32) (.tmp 33) 22 rfl 5 Try.underlying22 (sizeByte infoByte) gk m m (A k) (L k) (C k) rfl rfl _ HRK.out (F k) HC.out (by rw [HLK.out]; exact Nat.le_refl _) ?_)
        intro w5 hr5 hw5
        have hg5 : (if k = k then gk else G k) = gk := if_pos rfl
        have H5 : Hid (BldB w w5 w.heap.size n m (k + 1) (lostZ nl fl F) (fun r => if r = k then gk else G r)) := by
          have hr6 : w5.rowIs gk 5 m (bvs (lostZ nl fl F k)) := hr5.congr fun i hi => by
            unfold bvs
            rw [if_pos (by rw [HLK.out]; exact hi), lostZ_no hE]
          refine (HB1.out.turn (r := k) (by omega) (lostZ nl fl F k) (by rw [hg5]; exact hw5) (by rw [hg5]; exact hr6)).congr fun r hr i _ => ?_
          by_cases e : r = k
          · rw [if_pos e, e]
          · rw [if_neg e, if_neg e]
        clear hr5 hw5 hg5 hct
        go_wp2_with fail
        go_roundw
        case rel => exact ⟨k + 1, by omega, by go_num, _, H5.out⟩
        case measure => simp [intOf]; omega
      · have H5 : Hid (BldB w w3 w.heap.size n m (k + 1) (lostZ nl fl F) (fun r => if r = k then gk else G r)) := HB1.out.congr fun r hr i _ => by
          by_cases e : r = k
          · rw [if_pos e, e, lostZ_yes hE]
          · rw [if_neg e]
        go_wp2_with fail
        go_roundw
        case rel => exact ⟨k + 1, by omega, by go_num, _, H5.out⟩
        case measure => simp [intOf]; omega
    · obtain rfl : n = k := by omega
      go_wp2_with fail
      go_ret
      exact ⟨rfl, G, hb⟩
set_option maxRecDepth 100000 in
theorem Rebuild2_any (gf gd g : Nat) (ad : Option Addr) (nd cd : Nat) (al : Option Addr) (nl cl : Nat) (fl : Nat → Int) (x : Nat) (w : World) (hnd : nd ≤ 1048576) (hx : x ≤ 1048576) (hnl : nl ≤ 9223372036854775807) (hf : w.cell? ⟨gf, 0, none⟩ = some (.func (.func 69) #[] #[.pointer (some ⟨g, 0, none⟩)])) (hd : w.cell? ⟨gd, 0, none⟩ = some (.slice ad nd cd))
    (hg : w.cell? ⟨g, 0, none⟩ = some (.slice al nl cl)) (hl : Ints w al nl fl) :
    Calls Try.prog 74 #[.int .i64 x, .pointer (some ⟨gf, 0, none⟩), .pointer (some ⟨gd, 0, none⟩)] w fun e w' => e = .returned (.bool (hasB nl fl ((nd : Int) + (x : Int)))) ∧ w' = w := by
  have HL : Hid (Ints w al nl fl) := hl
  have HG : Hid (w.cell? ⟨g, 0, none⟩ = some (.slice al nl cl)) := hg
  clear hl hg
  go_enter Try.func74, Try.ntmps74
  go_wp2_with fail
  refine (Rebuild1_any g al nl cl fl ((nd : Int) + (x : Int)) _ hnl HG.out HL.out).mono ?_
  rintro e w' ⟨rfl, rfl⟩
  go_wp2_with fail
  go_ret
  exact ⟨rfl, rfl⟩
set_option maxRecDepth 100000 in
theorem Rebuild3_any (gf gd g : Nat) (ad : Option Addr) (nd cd : Nat) (al : Option Addr) (nl cl : Nat) (fl : Nat → Int) (x : Nat) (w : World) (hnd : nd ≤ 1048576) (hx : x ≤ 1048576) (hnl : nl ≤ 9223372036854775807) (hf : w.cell? ⟨gf, 0, none⟩ = some (.func (.func 69) #[] #[.pointer (some ⟨g, 0, none⟩)])) (hd : w.cell? ⟨gd, 0, none⟩ = some (.slice ad nd cd))
    (hg : w.cell? ⟨g, 0, none⟩ = some (.slice al nl cl)) (hl : Ints w al nl fl) :
    Calls Try.prog 75 #[.int .i64 x, .pointer (some ⟨gf, 0, none⟩), .pointer (some ⟨gd, 0, none⟩)] w fun e w' => e = .returned (.bool (!hasB nl fl ((nd : Int) + (x : Int)))) ∧ w' = w := by
  have HL : Hid (Ints w al nl fl) := hl
  have HG : Hid (w.cell? ⟨g, 0, none⟩ = some (.slice al nl cl)) := hg
  clear hl hg
  go_enter Try.func75, Try.ntmps75
  go_wp2_with fail
  refine (Rebuild1_any g al nl cl fl ((nd : Int) + (x : Int)) _ hnl HG.out HL.out).mono ?_
  rintro e w' ⟨rfl, rfl⟩
  go_wp2_with fail
  go_ret
  exact ⟨rfl, rfl⟩
/-- those ahead of n of which ok holds, ascending -/
def PL (n : Nat) (ok : Nat → Bool) : List Nat := (List.range n).filter ok
theorem PL_yes {n : Nat} {ok : Nat → Bool} (h : ok n = true) : PL (n + 1) ok = PL n ok ++ [n] := by
  unfold PL
  rw [List.range_succ, List.filter_append]
  simp [h]
theorem PL_no {n : Nat} {ok : Nat → Bool} (h : ok n = false) : PL (n + 1) ok = PL n ok := by
  unfold PL
  rw [List.range_succ, List.filter_append]
  simp [h]
theorem PL_len (n : Nat) (ok : Nat → Bool) : (PL n ok).length ≤ n := by
  unfold PL
  exact Nat.le_trans (List.length_filter_le _ _) (by simp)
theorem PL_mem {n : Nat} {ok : Nat → Bool} {k : Nat} : k ∈ PL n ok ↔ k < n ∧ ok k = true := by
  unfold PL
  rw [List.mem_filter, List.mem_range]
def inV (x : Nat) : Value := .int .i64 (x : Int)
set_option maxRecDepth 100000 in
set_option maxHeartbeats 800000 in
theorem places2_any (cp cq : Value) (n : Nat) (ok : Nat → Bool) (w : World) (hn : n ≤ 1048576) (hat : ∀ k, k < n → ∀ w', Ext w w' → Calls Try.prog 74 #[.int .i64 k, cp, cq] w' fun e w'' => e = .returned (.bool (ok k)) ∧ w'' = w') :
    Calls Try.prog 73 #[.int .i64 n, .func (.func 74) #[] #[cp, cq]] w fun e w' => (∃ v, e = .returned v ∧ w'.ownsRow w.heap.size 3 1 v (PL n ok).length ((PL n ok).map inV)) ∧ Ext w w' := by
  have HA : Hid (∀ k, k < n → ∀ w', Ext w w' → Calls Try.prog 74 #[.int .i64 k, cp, cq] w' fun e w'' => e = .returned (.bool (ok k)) ∧ w'' = w') := hat
  clear hat
  go_enter Try.func73, Try.ntmps73
  go_wp2_with fail
  go_loopw [5, 8] (fun v i wr => ∃ k : Nat, k ≤ n ∧ i = .int .i64 k ∧ Ext w wr ∧ wr.ownsRow w.heap.size 3 1 v (PL k ok).length ((PL k ok).map inV)) (fun _ i _ => n - (intOf i).toNat)
  case atStart => exact ⟨0, Nat.zero_le _, rfl, Ext.refl _, World.ownsRow_nil _ _ _ _⟩
  case round =>
    obtain ⟨k, hk, rfl, hx, hown⟩ := hrel
    have HO : Hid (wr.ownsRow w.heap.size 3 1 u5 (PL k ok).length ((PL k ok).map inV)) := hown
    clear hown
    by_cases hlt : k < n
    · go_wp2_with fail
      refine (HA.out k hlt wr hx).mono ?_
      rintro e w' ⟨rfl, rfl⟩
      cases hE : ok k
      · have HN : Hid (w'.ownsRow w.heap.size 3 1 u5 (PL (k + 1) ok).length ((PL (k + 1) ok).map inV)) := by rw [PL_no hE]; exact HO.out
        go_wp2_with fail
        go_roundw
        case rel => exact ⟨k + 1, by omega, by go_num, hx, HN.out⟩
        case measure => simp [intOf]; omega
      · have hln := PL_len k ok
        have hsz := hx.size
        go_wp2_with (first | (at_builtin; refine append_one w' rfl _ _ 30 rfl w.heap.size 3 (.int .i64 0) 8 Try.underlying30 infoInt rfl u5 (PL k ok).length _ rfl HO.out (.int .i64 k) 1 rfl rfl (by omega) (by omega) hsz ?_) | go_in)
        intro v' w5 hown' hgrow
        have HN : Hid (Ext w w5 ∧ w5.ownsRow w.heap.size 3 1 v' (PL (k + 1) ok).length ((PL (k + 1) ok).map inV)) := by
          refine ⟨(hx.alloc _ _).grow hgrow fun b hb => (own_ge HO.out hb).1, ?_⟩
          rw [PL_yes hE, List.length_append, List.map_append]
          exact hown'
        clear hown' hgrow hln
        go_wp2_with fail
        go_roundw
        case rel => exact ⟨k + 1, by omega, by go_num, HN.out.1, HN.out.2⟩
        case measure => simp [intOf]; omega
    · obtain rfl : n = k := by omega
      go_wp2_with fail
      go_ret
      exact ⟨⟨_, rfl, HO.out⟩, hx⟩
set_option maxRecDepth 100000 in
set_option maxHeartbeats 800000 in
theorem places3_any (cp cq : Value) (n : Nat) (ok : Nat → Bool) (w : World) (hn : n ≤ 1048576) (hat : ∀ k, k < n → ∀ w', Ext w w' → Calls Try.prog 75 #[.int .i64 k, cp, cq] w' fun e w'' => e = .returned (.bool (ok k)) ∧ w'' = w') :
    Calls Try.prog 73 #[.int .i64 n, .func (.func 75) #[] #[cp, cq]] w fun e w' => (∃ v, e = .returned v ∧ w'.ownsRow w.heap.size 3 1 v (PL n ok).length ((PL n ok).map inV)) ∧ Ext w w' := by
  have HA : Hid (∀ k, k < n → ∀ w', Ext w w' → Calls Try.prog 75 #[.int .i64 k, cp, cq] w' fun e w'' => e = .returned (.bool (ok k)) ∧ w'' = w') := hat
  clear hat
  go_enter Try.func73, Try.ntmps73
  go_wp2_with fail
  go_loopw [5, 8] (fun v i wr => ∃ k : Nat, k ≤ n ∧ i = .int .i64 k ∧ Ext w wr ∧ wr.ownsRow w.heap.size 3 1 v (PL k ok).length ((PL k ok).map inV)) (fun _ i _ => n - (intOf i).toNat)
  case atStart => exact ⟨0, Nat.zero_le _, rfl, Ext.refl _, World.ownsRow_nil _ _ _ _⟩
  case round =>
    obtain ⟨k, hk, rfl, hx, hown⟩ := hrel
    have HO : Hid (wr.ownsRow w.heap.size 3 1 u5 (PL k ok).length ((PL k ok).map inV)) := hown
    clear hown
    by_cases hlt : k < n
    · go_wp2_with fail
      refine (HA.out k hlt wr hx).mono ?_
      rintro e w' ⟨rfl, rfl⟩
      cases hE : ok k
      · have HN : Hid (w'.ownsRow w.heap.size 3 1 u5 (PL (k + 1) ok).length ((PL (k + 1) ok).map inV)) := by rw [PL_no hE]; exact HO.out
        go_wp2_with fail
        go_roundw
        case rel => exact ⟨k + 1, by omega, by go_num, hx, HN.out⟩
        case measure => simp [intOf]; omega
      · have hln := PL_len k ok
        have hsz := hx.size
        go_wp2_with (first | (at_builtin; refine append_one w' rfl _ _ 30 rfl w.heap.size 3 (.int .i64 0) 8 Try.underlying30 infoInt rfl u5 (PL k ok).length _ rfl HO.out (.int .i64 k) 1 rfl rfl (by omega) (by omega) hsz ?_) | go_in)
        intro v' w5 hown' hgrow
        have HN : Hid (Ext w w5 ∧ w5.ownsRow w.heap.size 3 1 v' (PL (k + 1) ok).length ((PL (k + 1) ok).map inV)) := by
          refine ⟨(hx.alloc _ _).grow hgrow fun b hb => (own_ge HO.out hb).1, ?_⟩
          rw [PL_yes hE, List.length_append, List.map_append]
          exact hown'
        clear hown' hgrow hln
        go_wp2_with fail
        go_roundw
        case rel => exact ⟨k + 1, by omega, by go_num, HN.out.1, HN.out.2⟩
        case measure => simp [intOf]; omega
    · obtain rfl : n = k := by omega
      go_wp2_with fail
      go_ret
      exact ⟨⟨_, rfl, HO.out⟩, hx⟩
set_option maxRecDepth 100000 in
set_option maxHeartbeats 800000 in
theorem places1_any (cp : Value) (n : Nat) (ok : Nat → Bool) (w : World) (hn : n ≤ 1048576) (hat : ∀ k, k < n → ∀ w', Ext w w' → Calls Try.prog 69 #[.int .i64 k, cp] w' fun e w'' => e = .returned (.bool (ok k)) ∧ w'' = w') :
    Calls Try.prog 73 #[.int .i64 n, .func (.func 69) #[] #[cp]] w fun e w' => (∃ v, e = .returned v ∧ w'.ownsRow w.heap.size 3 1 v (PL n ok).length ((PL n ok).map inV)) ∧ Ext w w' := by
  have HA : Hid (∀ k, k < n → ∀ w', Ext w w' → Calls Try.prog 69 #[.int .i64 k, cp] w' fun e w'' => e = .returned (.bool (ok k)) ∧ w'' = w') := hat
  clear hat
  go_enter Try.func73, Try.ntmps73
  go_wp2_with fail
  go_loopw [5, 8] (fun v i wr => ∃ k : Nat, k ≤ n ∧ i = .int .i64 k ∧ Ext w wr ∧ wr.ownsRow w.heap.size 3 1 v (PL k ok).length ((PL k ok).map inV)) (fun _ i _ => n - (intOf i).toNat)
  case atStart => exact ⟨0, Nat.zero_le _, rfl, Ext.refl _, World.ownsRow_nil _ _ _ _⟩
  case round =>
    obtain ⟨k, hk, rfl, hx, hown⟩ := hrel
    have HO : Hid (wr.ownsRow w.heap.size 3 1 u5 (PL k ok).length ((PL k ok).map inV)) := hown
    clear hown
    by_cases hlt : k < n
    · go_wp2_with fail
      refine (HA.out k hlt wr hx).mono ?_
      rintro e w' ⟨rfl, rfl⟩
      cases hE : ok k
      · have HN : Hid (w'.ownsRow w.heap.size 3 1 u5 (PL (k + 1) ok).length ((PL (k + 1) ok).map inV)) := by rw [PL_no hE]; exact HO.out
        go_wp2_with fail
        go_roundw
        case rel => exact ⟨k + 1, by omega, by go_num, hx, HN.out⟩
        case measure => simp [intOf]; omega
      · have hln := PL_len k ok
        have hsz := hx.size
        go_wp2_with (first | (at_builtin; refine append_one w' rfl _ _ 30 rfl w.heap.size 3 (.int .i64 0) 8 Try.underlying30 infoInt rfl u5 (PL k ok).length _ rfl HO.out (.int .i64 k) 1 rfl rfl (by omega) (by omega) hsz ?_) | go_in)
        intro v' w5 hown' hgrow
        have HN : Hid (Ext w w5 ∧ w5.ownsRow w.heap.size 3 1 v' (PL (k + 1) ok).length ((PL (k + 1) ok).map inV)) := by
          refine ⟨(hx.alloc _ _).grow hgrow fun b hb => (own_ge HO.out hb).1, ?_⟩
          rw [PL_yes hE, List.length_append, List.map_append]
          exact hown'
        clear hown' hgrow hln
        go_wp2_with fail
        go_roundw
        case rel => exact ⟨k + 1, by omega, by go_num, HN.out.1, HN.out.2⟩
        case measure => simp [intOf]; omega
    · obtain rfl : n = k := by omega
      go_wp2_with fail
      go_ret
      exact ⟨⟨_, rfl, HO.out⟩, hx⟩
/-- a list of places that was made by append -/
theorem own_places {w : World} {base : Nat} {t : TypeId} {v : Value} {l : List Nat} (h : w.ownsRow base t 1 v l.length (l.map inV)) : ∃ a c, v = .slice a l.length c ∧ Ints w a l.length fun i => ((l.getD i 0 : Nat) : Int) := by
  obtain ⟨a, c, hv, hc⟩ := own_slice h
  refine ⟨a, c, hv, fun i hi => ?_⟩
  obtain ⟨b, o, ha, hb⟩ := hc i hi
  refine ⟨b, o, ha, ?_⟩
  have e : l.getD i 0 = l[i] := by rw [List.getD_eq_getElem?_getD, List.getElem?_eq_getElem hi]; rfl
  rw [hb, List.getElem?_map, List.getElem?_eq_getElem hi]
  dsimp only
  rw [e]
  rfl
end Go.Proofs.Ythgbfakmkdifbaa
