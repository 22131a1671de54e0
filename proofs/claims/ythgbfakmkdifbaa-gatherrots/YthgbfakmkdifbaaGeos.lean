/-
  What blocks cost and where they lie, as plain numbers.
-/
import Derived.WalkKit
import Derived.Test.YthgbfakmkdifbaaChecked
import Derived.BigQuiet
import Derived.OwnWalk
import Derived.Test.YthgbfakmkdifbaaMm
import Derived.Test.YthgbfakmkdifbaaEls
namespace Go.Proofs.Ythgbfakmkdifbaa
def okD (d : Int) : Bool := decide (2 ≤ d) && decide (d ≤ 8)
def okPar (d p : Int) : Bool := decide (1 ≤ p) && decide (p ≤ 3) && decide (p < d)
def okCnt (c : Int) : Bool := decide (1 ≤ c) && decide (c ≤ 32)
def okAd (a : Int) : Bool := decide (0 ≤ a) && decide (a ≤ 65536)
theorem okD_iff (d : Int) : okD d = true ↔ 2 ≤ d ∧ d ≤ 8 := by unfold okD; simp
theorem okPar_iff (d p : Int) : okPar d p = true ↔ 1 ≤ p ∧ p ≤ 3 ∧ p < d := by unfold okPar; simp [and_assoc]
theorem okCnt_iff (c : Int) : okCnt c = true ↔ 1 ≤ c ∧ c ≤ 32 := by unfold okCnt; simp
theorem okAd_iff (a : Int) : okAd a = true ↔ 0 ≤ a ∧ a ≤ 65536 := by unfold okAd; simp
/-- into how many parts -/
def prt (n s : Nat) : Nat := (n + s - 1) / s
theorem prt_lt (n s : Nat) (hs : 0 < s) : n ≤ prt n s * s ∧ prt n s * s < n + s := by
  unfold prt
  have h1 := Nat.div_add_mod (n + s - 1) s
  have h2 := Nat.mod_lt (n + s - 1) hs
  rw [Nat.mul_comm] at h1
  omega
theorem prt_uniq (n s k : Nat) (h1 : n ≤ k * s) (h2 : k * s < n + s) : prt n s = k := by
  have hs : 0 < s := by omega
  have h := prt_lt n s hs
  rcases Nat.lt_trichotomy (prt n s) k with l | l | l
  · have : (prt n s + 1) * s ≤ k * s := Nat.mul_le_mul_right _ l
    rw [Nat.add_mul] at this
    omega
  · exact l
  · have : (k + 1) * s ≤ prt n s * s := Nat.mul_le_mul_right _ l
    rw [Nat.add_mul] at this
    omega
def costN (d p c : Nat) : Nat := prt (c + p * prt c (d - p)) (p + 1) * (p + 1)
def costV (d p c : Int) : Int := if okD d && okPar d p && okCnt c then (costN d.toNat p.toNat c.toNat : Int) else 0
def costE (d p c : Int) : Int := if okD d && okPar d p && okCnt c then 0 else 2
def spotD (d a : Int) : Int := if okD d && okAd a then a % d else 0
def spotA (d a : Int) : Int := if okD d && okAd a then a / d else 0
def spotE (d a : Int) : Int := if okD d && okAd a then 0 else 2
end Go.Proofs.Ythgbfakmkdifbaa
/-
  The functions of geom that call few others, and the document's.
-/
namespace Go.Proofs.Ythgbfakmkdifbaa
open Go.RowKit
theorem ret_boolG {a b : Bool} (h : a = b) : Ending.returned (.bool a) = .returned (.bool b) := by rw [h]
theorem ret_intG {a b : Int} (h : a = b) : Ending.returned (.int .i64 a) = .returned (.int .i64 b) := by rw [h]
theorem ret_two {a b c d : Int} (h : a = b) (k : c = d) : Ending.returned (.tuple #[.int .i64 a, .int .i64 c]) = .returned (.tuple #[.int .i64 b, .int .i64 d]) := by rw [h, k]
theorem ret_three {a b c d x y : Int} (h : a = b) (k : c = d) (l : x = y) : Ending.returned (.tuple #[.int .i64 a, .int .i64 c, .int .i64 x]) = .returned (.tuple #[.int .i64 b, .int .i64 d, .int .i64 y]) := by rw [h, k, l]
set_option maxRecDepth 100000 in
theorem geoDrives_any (d : Int) (w : World) : Calls Try.prog 56 #[.int .i64 d] w fun e w' => e = .returned (.bool (okD d)) ∧ w' = w := by
  by_cases h1 : 2 ≤ d
  · by_cases h2 : d ≤ 8
    · go_enter Try.func56, Try.ntmps56
      go_wp2_with fail
      go_ret
      exact ⟨ret_boolG (by unfold okD; simp; omega), rfl⟩
    · go_enter Try.func56, Try.ntmps56
      go_wp2_with fail
      go_ret
      exact ⟨ret_boolG (by unfold okD; simp; omega), rfl⟩
  · go_enter Try.func56, Try.ntmps56
    go_wp2_with fail
    go_ret
    exact ⟨ret_boolG (by unfold okD; simp; omega), rfl⟩
set_option maxRecDepth 100000 in
theorem geoParity_any (d p : Int) (w : World) : Calls Try.prog 57 #[.int .i64 d, .int .i64 p] w fun e w' => e = .returned (.bool (okPar d p)) ∧ w' = w := by
  by_cases h1 : 1 ≤ p
  · by_cases h2 : p ≤ 3
    · by_cases h3 : p < d
      · go_enter Try.func57, Try.ntmps57
        go_wp2_with fail
        go_ret
        exact ⟨ret_boolG (by unfold okPar; simp; omega), rfl⟩
      · go_enter Try.func57, Try.ntmps57
        go_wp2_with fail
        go_ret
        exact ⟨ret_boolG (by unfold okPar; simp; omega), rfl⟩
    · go_enter Try.func57, Try.ntmps57
      go_wp2_with fail
      go_ret
      exact ⟨ret_boolG (by unfold okPar; simp; omega), rfl⟩
  · go_enter Try.func57, Try.ntmps57
    go_wp2_with fail
    go_ret
    exact ⟨ret_boolG (by unfold okPar; simp; omega), rfl⟩
set_option maxRecDepth 100000 in
theorem geoCount_any (d : Int) (w : World) : Calls Try.prog 58 #[.int .i64 d] w fun e w' => e = .returned (.bool (okCnt d)) ∧ w' = w := by
  by_cases h1 : 1 ≤ d
  · by_cases h2 : d ≤ 32
    · go_enter Try.func58, Try.ntmps58
      go_wp2_with fail
      go_ret
      exact ⟨ret_boolG (by unfold okCnt; simp; omega), rfl⟩
    · go_enter Try.func58, Try.ntmps58
      go_wp2_with fail
      go_ret
      exact ⟨ret_boolG (by unfold okCnt; simp; omega), rfl⟩
  · go_enter Try.func58, Try.ntmps58
    go_wp2_with fail
    go_ret
    exact ⟨ret_boolG (by unfold okCnt; simp; omega), rfl⟩
set_option maxRecDepth 100000 in
theorem geoAddr_any (d : Int) (w : World) : Calls Try.prog 59 #[.int .i64 d] w fun e w' => e = .returned (.bool (okAd d)) ∧ w' = w := by
  by_cases h1 : 0 ≤ d
  · by_cases h2 : d ≤ 65536
    · go_enter Try.func59, Try.ntmps59
      go_wp2_with fail
      go_ret
      exact ⟨ret_boolG (by unfold okAd; simp; omega), rfl⟩
    · go_enter Try.func59, Try.ntmps59
      go_wp2_with fail
      go_ret
      exact ⟨ret_boolG (by unfold okAd; simp; omega), rfl⟩
  · go_enter Try.func59, Try.ntmps59
    go_wp2_with fail
    go_ret
    exact ⟨ret_boolG (by unfold okAd; simp; omega), rfl⟩
set_option maxRecDepth 100000 in
theorem badShape_any (d p : Int) (w : World) : Calls Try.prog 43 #[.int .i64 d, .int .i64 p] w fun e w' => e = .returned (.bool (!(okD d && okPar d p))) ∧ w' = w := by
  by_cases h1 : d < 2
  · go_enter Try.func43, Try.ntmps43
    go_wp2_with fail
    go_ret
    exact ⟨ret_boolG (by unfold okD; simp; omega), rfl⟩
  by_cases h2 : 8 < d
  · go_enter Try.func43, Try.ntmps43
    go_wp2_with fail
    go_ret
    exact ⟨ret_boolG (by unfold okD; simp; omega), rfl⟩
  by_cases h3 : p < 1
  · go_enter Try.func43, Try.ntmps43
    go_wp2_with fail
    go_ret
    exact ⟨ret_boolG (by unfold okPar; simp; omega), rfl⟩
  by_cases h4 : 3 < p
  · go_enter Try.func43, Try.ntmps43
    go_wp2_with fail
    go_ret
    exact ⟨ret_boolG (by unfold okPar; simp; omega), rfl⟩
  by_cases h5 : d ≤ p
  · go_enter Try.func43, Try.ntmps43
    go_wp2_with fail
    go_ret
    exact ⟨ret_boolG (by unfold okPar; simp; omega), rfl⟩
  · go_enter Try.func43, Try.ntmps43
    go_wp2_with fail
    go_ret
    exact ⟨ret_boolG (by unfold okD okPar; simp [show 2 ≤ d by omega, show d ≤ 8 by omega, show 1 ≤ p by omega, show p ≤ 3 by omega, show p < d by omega]), rfl⟩
set_option maxRecDepth 100000 in
theorem spot_any (d a : Nat) (w : World) (hd : 0 < d) (hd2 : d ≤ 1048576) (ha : a ≤ 1048576) : Calls Try.prog 60 #[.int .i64 d, .int .i64 a] w fun e w' => e = .returned (.tuple #[.int .i64 (a % d : Nat), .int .i64 (a / d : Nat)]) ∧ Ext w w' := by
  have hz : ((d : Int) == 0) = false := by rw [beq_eq_false_iff_ne]; omega
  have hq : (a : Int).tdiv d = (a / d : Nat) := by
    rw [Int.tdiv_eq_ediv_of_nonneg (by omega)]
    rfl
  have hr : (a : Int).tmod d = (a % d : Nat) := by
    rw [Int.tmod_eq_emod_of_nonneg (by omega)]
    rfl
  have hqb : a / d ≤ a := Nat.div_le_self _ _
  have hrb : a % d < d := Nat.mod_lt _ hd
  go_enter Try.func60, Try.ntmps60
  go_wp2_with fail
  have hq2 : wrap64 ((a : Int) / (d : Int)) = ((a / d : Nat) : Int) := by
    rw [show ((a : Int) / (d : Int)) = ((a / d : Nat) : Int) from rfl]
    have h64 : ∀ q : Nat, q ≤ 1048576 → wrap64 (q : Int) = q := fun q h => by unfold wrap64; omega
    exact h64 _ (by omega)
  go_region
  go_wp2_with fail
  go_ret2
  exact ⟨ret_two rfl hq2, (Ext.refl _).drew⟩
end Go.Proofs.Ythgbfakmkdifbaa
/-
  The columns of a block: as plain lists, and as they lie in memory.
-/
namespace Go.Proofs.Ythgbfakmkdifbaa
open Go.RowKit Go.Deep
/-- how many columns have a sector in row r -/
def nRow (d p c r : Nat) : Nat := p + min (d - p) (c - r * (d - p))
/-- how many sectors column i has in r rows -/
def cntR (d p c : Nat) : Nat → Nat → Nat
  | 0, _ => 0
  | r + 1, i => cntR d p c r i + if i < nRow d p c r then 1 else 0
theorem cntR_le (d p c r i : Nat) : cntR d p c r i ≤ r := by
  induction r with
  | zero => exact Nat.le_refl _
  | succ r ih =>
    unfold cntR
    split <;> omega
def cntC (d p c i : Nat) : Nat := cntR d p c (prt c (d - p)) i
def colN (d p c : Nat) : Nat := nRow d p c 0
def cell4 (d p a : Nat) (h : Nat → Nat) (i : Nat) : List Value := [.int .i64 ((a + i) % d : Nat), .int .i64 ((a + i) / d : Nat), .int .i64 (h i : Nat), .bool (decide (i < p))]
def colsL (d p a c : Nat) : List (List Value) := (List.range (colN d p c)).map (cell4 d p a (cntC d p c))
theorem cell4_len (d p a : Nat) (h : Nat → Nat) (i : Nat) : (cell4 d p a h i).length = 4 := rfl
theorem szd4 (d p a : Nat) (h : Nat → Nat) (n : Nat) : Szd 4 ((List.range n).map (cell4 d p a h)) := Szd.map (cell4_len d p a h) _
/-- so many columns are longer -/
def lonG (d p c : Nat) : Nat := if c % (d - p) = 0 then 0 else p + c % (d - p)
def gcntB (d p c i : Nat) : Bool := !(decide (2 ≤ d) && decide (1 ≤ p) && decide (p < d) && decide (1 ≤ c) && decide (i < colN d p c)) || decide (cntC d p c i = c / (d - p) + if i < lonG d p c then 1 else 0)
theorem cnt_is (d p c i : Nat) (h1 : 2 ≤ d) (h2 : d ≤ 8) (h3 : 1 ≤ p) (h4 : p ≤ 3) (h5 : p < d) (h6 : 1 ≤ c) (h7 : c ≤ 32) (h8 : i < colN d p c) : cntC d p c i = c / (d - p) + if i < lonG d p c then 1 else 0 := by
  have h : ∀ d, d < 9 → ∀ p, p < 4 → ∀ c, c < 33 → ∀ i, i < 8 → gcntB d p c i = true := by decide +kernel
  have h9 : i < 8 := by unfold colN nRow at h8; omega
  have g := h d (by omega) p (by omega) c (by omega) i h9
  unfold gcntB at g
  simpa [h1, h3, h5, h6, h8] using g
/-- columns of a call's own -/
structure GcI (w : World) (v : Value) (m : Nat) (f : Nat → List Value) (wr : World) : Prop where
  own : wr.ownsRow w.heap.size 59 4 v m ((List.range m).map f).flatten
  len : ∀ i, (f i).length = 4
  ext : Ext w wr
theorem GcI.congr {w wr : World} {v : Value} {m : Nat} {f g : Nat → List Value} (h : GcI w v m f wr) (hg : ∀ i, (g i).length = 4) (e : ∀ i, i < m → f i = g i) : GcI w v m g wr := ⟨by rw [← range_congr e]; exact h.own, hg, h.ext⟩
theorem GcI.slice {w wr : World} {v : Value} {m : Nat} {f : Nat → List Value} (h : GcI w v m f wr) (hm : 0 < m) : ∃ g c, v = .slice (some ⟨g, 0, none⟩) m c ∧ w.heap.size ≤ g := by
  obtain ⟨_, h2⟩ := h.own
  rcases h2 with ⟨_, h2⟩ | ⟨g, cap, cur, hv, hg, _⟩
  · omega
  · exact ⟨g, cap, hv, hg⟩
theorem GcI.put {w wr : World} {g c m : Nat} {f : Nat → List Value} (h : GcI w (.slice (some ⟨g, 0, none⟩) m c) m f wr) (hg : w.heap.size ≤ g) {k : Nat} (hk : k < m) {x : List Value} (hx : x.length = 4) : GcI w (.slice (some ⟨g, 0, none⟩) m c) m (fun i => if i = k then x else f i) (wr.setCells g (k * 4) x) :=
  ⟨by rw [← map_range_set]; exact own_set h.own (Szd.map h.len _) (by omega) hk hx, fun i => by show (if i = k then x else f i).length = 4; split <;> first | exact hx | exact h.len i, h.ext.setCells hg _ _⟩
theorem GcI.set {w wr : World} {g c m : Nat} {f : Nat → List Value} (h : GcI w (.slice (some ⟨g, 0, none⟩) m c) m f wr) (hg : w.heap.size ≤ g) {k : Nat} (hk : k < m) {j : Nat} (hj : j < 4) (v : Value) : GcI w (.slice (some ⟨g, 0, none⟩) m c) m (fun i => if i = k then (f k).set j v else f i) (wr.setCell ⟨g, k * 4 + j, none⟩ v) :=
  ⟨by rw [← map_range_set]; exact own_set1 h.own (Szd.map h.len _) (range_get f hk) hj v, fun i => by show (if i = k then (f k).set j v else f i).length = 4; split <;> first | (rw [List.length_set]; exact h.len k) | exact h.len i, h.ext.setCell (p := ⟨g, k * 4 + j, none⟩) hg v⟩
theorem GcI.there {w wr : World} {g c m : Nat} {f : Nat → List Value} (h : GcI w (.slice (some ⟨g, 0, none⟩) m c) m f wr) {k : Nat} (hk : k < m) : wr.there g (k * 4) 4 := own_there h.own (by omega)
theorem GcI.cell {w wr : World} {g c m : Nat} {f : Nat → List Value} (h : GcI w (.slice (some ⟨g, 0, none⟩) m c) m f wr) {k : Nat} (hk : k < m) {j : Nat} {v : Value} (hv : (f k)[j]? = some v) : wr.cell? ⟨g, k * 4 + j, none⟩ = some v ∧ wr.frozen? ⟨g, k * 4 + j, none⟩ = false := by
  have hj : j < 4 := by
    have := lt_of_get hv
    rw [h.len] at this
    exact this
  refine ⟨?_, h.own.frozenAt _⟩
  rw [h.own.cellAt _ (by omega), flat_get (Szd.map h.len _) (range_get f hk) j hj]
  exact hv
theorem GcI.els {w wr : World} {v : Value} {m : Nat} {f : Nat → List Value} (h : GcI w v m f wr) : ∃ a c, v = .slice a m c ∧ m ≤ c ∧ c ≤ 9223372036854775807 ∧ Els wr a 4 ((List.range m).map f) := (own_els h.own (Szd.map h.len _) (by omega)).2
theorem infoCol : (Try.prog.info? 59).map (fun i => (i.zero, i.size, i.bytes)) = some (some (.agg #[.int .i64 0, .int .i64 0, .int .i64 0, .bool false]), 4, 32) := by kernel_rfl
def zc4 : List Value := [.int .i64 0, .int .i64 0, .int .i64 0, .bool false]
theorem rep_range {α : Type} (x : α) (n : Nat) : List.replicate n x = (List.range n).map fun _ => x := by
  apply List.ext_getElem?
  intro i
  rw [List.getElem?_replicate]
  by_cases h : i < n
  · rw [if_pos h, range_get _ h]
  · rw [if_neg h, List.getElem?_map, List.getElem?_eq_none (by simpa using h)]
    rfl
/-- what Columns answers -/
def okG (d p a c : Int) : Bool := okD d && okPar d p && okCnt c && okAd a
def gcL (d p a c : Int) : List (List Value) := if okG d p a c then colsL d.toNat p.toNat a.toNat c.toNat else []
def gcE (d p a c : Int) : Int := if okG d p a c then 0 else 2
def GcRes (d p a c : Int) (e : Ending) (w : World) : Prop := ∃ ad n cp, e = .returned (.tuple #[.slice ad n cp, .int .i64 (gcE d p a c)]) ∧ (gcL d p a c).length = n ∧ n ≤ 8 ∧ Els w ad 4 (gcL d p a c) ∧ n ≤ cp
theorem GcRes.no {d p a c : Int} {w : World} (h : okG d p a c = false) : GcRes d p a c (.returned (.tuple #[.slice none 0 0, .int .i64 2])) w := by
  unfold GcRes gcE gcL
  rw [h]
  exact ⟨none, 0, 0, rfl, rfl, by omega, Els.nil, Nat.le_refl _⟩
theorem GcRes.yes {d p a c : Nat} (h : okG d p a c = true) {w wr : World} {v : Value} {m : Nat} {f : Nat → List Value} (hi : GcI w v m f wr) (hm : m = colN d p c) (hf : ∀ i, i < m → f i = cell4 d p a (cntC d p c) i) : GcRes d p a c (.returned (.tuple #[v, .int .i64 0])) wr := by
  have hd := h
  unfold okG at hd
  simp only [Bool.and_eq_true] at hd
  have k1 := (okD_iff _).1 hd.1.1.1
  have k2 := (okPar_iff _ _).1 hd.1.1.2
  unfold GcRes gcE gcL
  rw [h]
  obtain ⟨ad, cp, rfl, hcap, _, hE⟩ := hi.els
  simp only [if_true, Int.toNat_natCast]
  rw [range_congr hf] at hE
  have hl : (colsL d p a c).length = m := by unfold colsL; rw [List.length_map, List.length_range, hm]
  refine ⟨ad, m, cp, rfl, hl, ?_, ?_, hcap⟩
  · rw [hm]
    unfold colN nRow
    omega
  · unfold colsL
    rw [← hm]
    exact hE
end Go.Proofs.Ythgbfakmkdifbaa
