/-
  par.Rebuild at every list of columns, number and list of places: what it tells, as plain functions; the world only grows.
-/
import Derived.Test.YthgbfakmkdifbaaChecked
import Derived.WalkKit
import Derived.Laws.EntriesVeiled
import Derived.Deep.Cut
import Derived.Test.YthgbfakmkdifbaaParSolve
import Derived.Test.YthgbfakmkdifbaaPickMath
import Derived.Test.YthgbfakmkdifbaaByb
import Derived.Test.YthgbfakmkdifbaaMk
namespace Go.Proofs.Ythgbfakmkdifbaa
open Go.RowKit Go.Deep E
theorem sizeBs2 : Try.prog.cellsOf 22 = 1 := by kernel_rfl
theorem sizeInt2 : Try.prog.cellsOf 3 = 1 := by kernel_rfl
def goneF (nl : Nat) (fl : Nat → Int) (k : Nat) : Bool := hasB nl fl k
def holeL (n0 nl : Nat) (fl : Nat → Int) : List Nat := PL n0 fun k => hasB nl fl k
def lostPL (n0 p nl : Nat) (fl : Nat → Int) : List Nat := PL p fun j => hasB nl fl ((n0 : Int) + (j : Int))
def keptPL (n0 p nl : Nat) (fl : Nat → Int) : List Nat := PL p fun j => !hasB nl fl ((n0 : Int) + (j : Int))
/-- the columns with the lost data columns solved -/
def rebZ (n0 p nl : Nat) (fl : Nat → Int) (F : Nat → Nat → E) : Nat → Nat → E :=
  solZ (fun b => (holeL n0 nl fl).getD b 0) (partE (holeL n0 nl fl).length (fun b => (holeL n0 nl fl).getD b 0) (fun a => (keptPL n0 p nl fl).getD a 0) n0 (lostZ nl fl F) (holeL n0 nl fl).length) (lostZ nl fl F) (holeL n0 nl fl).length
/-- the columns when the first k of the parity columns in l have come -/
def encZ (n0 : Nat) (l : Nat → Nat) (Z : Nat → Nat → E) : Nat → Nat → Nat → E
  | 0 => Z
  | k + 1 => fun r x => if r = n0 + l k then enc n0 Z (l k) x else encZ n0 l Z k r x
theorem encZ_other {n0 : Nat} {l : Nat → Nat} {Z : Nat → Nat → E} {k r : Nat} (hr : ∀ b, b < k → n0 + l b ≠ r) (x : Nat) : encZ n0 l Z k r x = Z r x := by
  induction k with
  | zero => rfl
  | succ k ih =>
    show (if r = n0 + l k then _ else _) = _
    rw [if_neg (fun e => hr k (by omega) e.symm)]
    exact ih fun b hb => hr b (by omega)
theorem encZ_at {n0 : Nat} {l : Nat → Nat} {Z : Nat → Nat → E} {k b : Nat} (hb : b < k) (x : Nat) : encZ n0 l Z k (n0 + l b) x = enc n0 Z (l b) x := by
  induction k with
  | zero => omega
  | succ k ih =>
    show (if n0 + l b = n0 + l k then _ else _) = _
    by_cases e : l b = l k
    · rw [if_pos (by rw [e]), e]
    · rw [if_neg (by omega)]
      have : b ≠ k := fun q => e (by rw [q])
      exact ih (by omega)
theorem enc_encZ {n0 : Nat} {l : Nat → Nat} {Z : Nat → Nat → E} {k j x : Nat} : enc n0 (encZ n0 l Z k) j x = enc n0 Z j x := by
  unfold enc
  exact sm_congr fun i hi => by rw [encZ_other (fun b _ => by omega)]
/-- all columns as they must have been -/
def rebD (n0 p nl : Nat) (fl : Nat → Int) (F : Nat → Nat → E) : Nat → Nat → E := encZ n0 (fun i => (lostPL n0 p nl fl).getD i 0) (rebZ n0 p nl fl F) (lostPL n0 p nl fl).length
def sizeOfKept (n : Nat) (L : Nat → Nat) (nl : Nat) (fl : Nat → Int) : Nat := L ((KL n fun k => hasB nl fl k).getD 0 0)
def rebN (n : Nat) (L : Nat → Nat) (p : Int) (nl : Nat) (fl : Nat → Int) : Nat := if rebE n L p nl fl = 0 then n else 0
/-- what is known where it can be done -/
theorem rebE_ok {n : Nat} {L : Nat → Nat} {p : Int} {nl : Nat} {fl : Nat → Int} (h : rebE n L p nl fl = 0) : ∃ q n0 : Nat, p = q ∧ n = n0 + q ∧ 1 ≤ q ∧ q ≤ 3 ∧ 1 ≤ n0 ∧ n0 ≤ 12 ∧ keptAlike n L nl fl = true ∧ outB n nl fl = false ∧ dupB nl fl = false ∧ nl ≤ q := by
  unfold rebE at h
  cases h1 : fromTo 1 3 p
  · rw [h1] at h; simp at h
  cases h2 : fromTo 1 12 ((n : Int) - p)
  · rw [h1, h2] at h; simp at h
  rw [h1, h2] at h
  simp only [Bool.and_self, if_true] at h
  cases h3 : keptAlike n L nl fl
  · rw [h3] at h; simp at h
  cases h4 : outB n nl fl
  · cases h5 : dupB nl fl
    · rw [h3, h4, h5] at h
      simp only [if_true, Bool.false_eq_true, if_false] at h
      have b1 := fromTo_bd h1
      have b2 := fromTo_bd h2
      by_cases h6 : p < nl
      · rw [if_pos h6] at h; cases h
      · exact ⟨p.toNat, n - p.toNat, by omega, by omega, by omega, by omega, by omega, by omega, rfl, rfl, rfl, by omega⟩
    · rw [h3, h4, h5] at h; simp at h
  · rw [h3, h4] at h; simp at h
theorem kept_size {n : Nat} {L : Nat → Nat} {nl : Nat} {fl : Nat → Int} (h : keptAlike n L nl fl = true) {k : Nat} (hk : k < n) (hg : hasB nl fl k = false) : L k = sizeOfKept n L nl fl ∧ L k ≤ 4096 := by
  obtain ⟨i, hi, e⟩ := PL_ex (n := n) (ok := fun k => !hasB nl fl k) hk (by rw [hg]; rfl)
  unfold keptAlike at h
  have := alikeB_of h hi
  unfold sizeOfKept
  rw [KL_PL] at *
  rw [e] at this
  exact this
theorem own_cap {w : World} {base : Nat} {e : TypeId} {v : Value} {n : Nat} {xs : List Value} (h : w.ownsRow base e 1 v n xs) {a : Option Addr} {c : Nat} (hv : v = .slice a n c) : n ≤ c ∧ c ≤ 9223372036854775807 := by
  obtain ⟨_, h2⟩ := h
  rcases h2 with ⟨h3, h4⟩ | ⟨g, cap, cur, h3, _, _, h5, h6, _⟩
  · rw [hv] at h3; cases h3; omega
  · rw [hv] at h3; cases h3
    have : c ≤ 9223372036854775807 := h6
    omega
set_option maxRecDepth 100000 in
set_option maxHeartbeats 800000 in
theorem Rebuild_no (a : Option Addr) (n c : Nat) (A : Nat → Option Addr) (L C : Nat → Nat) (F : Nat → Nat → E) (p : Int) (al : Option Addr) (nl cl : Nat) (fl : Nat → Int) (w : World) (hn : n ≤ 9223372036854775807) (hnl : nl ≤ 9223372036854775807) (h : Cols w a n A L C F) (hl : Ints w al nl fl) (he : rebE n L p nl fl ≠ 0) :
    Calls Try.prog 50 #[.slice a n c, .int .i64 p, .slice al nl cl] w fun e w' => e = .returned (.tuple #[.slice none 0 0, .int .i64 (rebE n L p nl fl)]) ∧ Ext w w' := by
  have HH : Hid (Cols w a n A L C F) := h
  have HL : Hid (Ints w al nl fl) := hl
  have hB : (rebE n L p nl fl != 0) = true := by rw [bne_iff_ne]; exact he
  clear h hl he
  have HX : Hid (Ext w (w.alloc (.cells #[.slice al nl cl] 30))) := (Ext.refl w).alloc _ _
  go_enter Try.func50, Try.ntmps50
  go_wp2_with fail
  generalize w.alloc (.cells #[.slice al nl cl] 30) = w1 at *
  refine (refusal_any a n c A L C F p al nl cl fl _ hn hnl (HH.out.ext HX.out) (HL.out.ext HX.out)).mono ?_
  rintro e w2 ⟨rfl, hx2⟩
  go_wp2_with fail
  go_ret2
  exact ⟨rfl, HX.out.trans hx2⟩
/-- the first of those that are kept is there -/
def KeptRes (A : Nat → Option Addr) (L C : Nat → Nat) (k0 : Nat) (w w' : World) (v : Value) : Prop := ∃ b o len c, v = .slice (some ⟨b, o, none⟩) len c ∧ 0 < len ∧ w'.cell? ⟨b, o, none⟩ = some (.slice (A k0) (L k0) (C k0)) ∧ Ext w w'
theorem kept_one (a : Option Addr) (n c : Nat) (A : Nat → Option Addr) (L C : Nat → Nat) (F : Nat → Nat → E) (al : Option Addr) (nl cl : Nat) (fl : Nat → Int) (k0 : Nat) (w : World) (hn : n ≤ 1048576) (hnl : nl ≤ 9223372036854775807) (h : Cols w a n A L C F) (hl : Ints w al nl fl) (h1 : 0 < (KL n fun k => hasB nl fl k).length) (hk : (KL n fun k => hasB nl fl k).getD 0 0 = k0) :
    Calls Try.prog 72 #[.slice a n c, .slice al nl cl] w fun e w' => ∃ v, e = .returned v ∧ KeptRes A L C k0 w w' v := by
  refine (kept_any a n c A L C F al nl cl fl w hn hnl h hl).mono fun e w' hh => ?_
  obtain ⟨⟨v, rfl, hown⟩, hx⟩ := hh
  refine ⟨v, rfl, ?_⟩
  obtain ⟨a3, c3, rfl, hc3⟩ := own_cols hown h hx fun k hk => (KL_mem.1 hk).1
  obtain ⟨⟨b, o, rfl, hc⟩, _⟩ := hc3 0 h1
  rw [Nat.add_zero] at hc
  dsimp only at hc
  rw [hk] at hc
  exact ⟨b, o, _, c3, rfl, h1, hc, hx⟩
theorem hole_at {n0 nl b : Nat} {fl : Nat → Int} (hb : b < (holeL n0 nl fl).length) : (holeL n0 nl fl).getD b 0 < n0 := (PL_at hb).1
theorem keptP_at {n0 p nl b : Nat} {fl : Nat → Int} (hb : b < (keptPL n0 p nl fl).length) : (keptPL n0 p nl fl).getD b 0 < p := (PL_at hb).1
theorem lostP_at {n0 p nl b : Nat} {fl : Nat → Int} (hb : b < (lostPL n0 p nl fl).length) : (lostPL n0 p nl fl).getD b 0 < p := (PL_at hb).1
theorem ints_pre {w : World} {a : Option Addr} {n c t : Nat} {f : Nat → Int} (h : Ints w a n f) (ht : t ≤ n) (hc : n ≤ c) : Ints w (subA a c 0) t f := fun i hi => by
  obtain ⟨b, o, ha, hv⟩ := h i (by omega)
  exact ⟨b, o, by rw [ha, subA_some (by omega), Nat.add_zero], hv⟩
/-- columns told, each with room for itself -/
def CapRes (w' : World) (e : Ending) (n m : Nat) (D : Nat → Nat → E) (err : Int) : Prop :=
  ∃ a c A C, e = .returned (.tuple #[.slice a n c, .int .i64 err]) ∧ Cols w' a n A (fun _ => m) C D ∧ ∀ r, r < n → m ≤ C r
theorem CapRes.cols {w' : World} {e : Ending} {n m : Nat} {D : Nat → Nat → E} {err : Int} (h : CapRes w' e n m D err) : ColsRes w' e n m D err := by
  obtain ⟨a, c, A, C, h1, h2, _⟩ := h
  exact ⟨a, c, A, C, h1, h2⟩
set_option maxRecDepth 100000 in
set_option maxHeartbeats 4000000 in
theorem Rebuild_cap (a : Option Addr) (n c : Nat) (A : Nat → Option Addr) (L C : Nat → Nat) (F : Nat → Nat → E) (q n0 : Nat) (al : Option Addr) (nl cl : Nat) (fl : Nat → Int) (w : World) (hn : n0 + q = n) (hq : 1 ≤ q ∧ q ≤ 3) (hn0 : 1 ≤ n0 ∧ n0 ≤ 12) (hal : keptAlike n L nl fl = true) (hnq : nl ≤ q) (h : Cols w a n A L C F) (hl : Ints w al nl fl) (he : rebE n L q nl fl = 0) :
    Calls Try.prog 50 #[.slice a n c, .int .i64 q, .slice al nl cl] w fun e w' => CapRes w' e n (sizeOfKept n L nl fl) (rebD n0 q nl fl F) 0 ∧ Ext w w' := by
  have HH : Hid (Cols w a n A L C F) := h
  have HL : Hid (Ints w al nl fl) := hl
  have hB : (rebE n L q nl fl != 0) = false := by rw [he]; rfl
  have HE : Hid (rebE n L q nl fl = 0) := he
  have HAL : Hid (keptAlike n L nl fl = true) := hal
  have hsp := split_len n fun k => hasB nl fl k
  have hgl := gone_len n nl fl
  have hk1 : 0 < (KL n fun k => hasB nl fl k).length := by omega
  obtain ⟨k0, hk0⟩ : ∃ k0, (KL n fun k => hasB nl fl k).getD 0 0 = k0 := ⟨_, rfl⟩
  have hk0n := KL_at hk1
  rw [hk0] at hk0n
  have hkm := kept_size hal hk0n.1 hk0n.2
  have HM : Hid (∀ k, k < n → hasB nl fl k = false → L k = L k0) := fun k hk hg => by rw [hkm.1]; exact (kept_size hal hk hg).1
  have hm4 : L k0 ≤ 4096 := hkm.2
  have HSZ : Hid (sizeOfKept n L nl fl = L k0) := hkm.1.symm
  have HK1 : Hid (0 < (KL n fun k => hasB nl fl k).length) := hk1
  have HK0 : Hid ((KL n fun k => hasB nl fl k).getD 0 0 = k0) := hk0
  have ht3 : (holeL n0 nl fl).length + (lostPL n0 q nl fl).length ≤ nl := by
    have h1 := PL_add n0 q fun k => hasB nl fl k
    rw [hn] at h1
    have h2 : (PL q fun k => hasB nl fl ((n0 + k : Nat) : Int)) = lostPL n0 q nl fl := by unfold lostPL; congr 1
    rw [h2] at h1
    unfold holeL
    omega
  have hkl : (lostPL n0 q nl fl).length + (keptPL n0 q nl fl).length = q := split_len q fun j => hasB nl fl ((n0 : Int) + (j : Int))
  clear h hl he hal hsp hgl hk1 hk0n hkm hk0
  have HX : Hid (Ext w (w.alloc (.cells #[.slice al nl cl] 30))) := (Ext.refl w).alloc _ _
  have HGL : Hid ((w.alloc (.cells #[.slice al nl cl] 30)).cell? ⟨w.heap.size, 0, none⟩ = some (.slice al nl cl)) := by rw [new_cell]; rfl
  go_enter Try.func50, Try.ntmps50
  go_wp2_with fail
  generalize w.alloc (.cells #[.slice al nl cl] 30) = w1 at *
  generalize w.heap.size = gl at *
  refine (refusal_any a n c A L C F q al nl cl fl _ (by omega) (by omega) (HH.out.ext HX.out) (HL.out.ext HX.out)).mono ?_
  rintro e w2 ⟨rfl, hx2⟩
  go_upto_region 5 with fail
  have HX3 : Hid (Ext w (w2.alloc (.cells #[.func (.func 69) #[] #[.pointer (some ⟨gl, 0, none⟩)]] 74))) := (HX.out.trans hx2).alloc _ _
  have HGL3 : Hid ((w2.alloc (.cells #[.func (.func 69) #[] #[.pointer (some ⟨gl, 0, none⟩)]] 74)).cell? ⟨gl, 0, none⟩ = some (.slice al nl cl)) := (hx2.alloc _ _).keeps HGL.out
  have HGF3 : Hid ((w2.alloc (.cells #[.func (.func 69) #[] #[.pointer (some ⟨gl, 0, none⟩)]] 74)).cell? ⟨w2.heap.size, 0, none⟩ = some (.func (.func 69) #[] #[.pointer (some ⟨gl, 0, none⟩)])) := by rw [new_cell]; rfl
  generalize w2.alloc (.cells #[.func (.func 69) #[] #[.pointer (some ⟨gl, 0, none⟩)]] 74) = w3 at *
  generalize w2.heap.size = gf at *
  clear HX HGL hx2 hB
  go_cut [10] from 18 (fun v wc => ∃ B G wb, v = .slice (some ⟨B, 0, none⟩) n n ∧ Ext w3 wb ∧ wb.heap.size ≤ B ∧ BldB wb wc B n (L k0) n (lostZ nl fl F) G)
  case first =>
    have hgl3 := HGL3.out
    have hgf3 := HGF3.out
    have HFK : Hid ((Try.f72.name == "runtime.NumGoroutine") = false ∧ Try.f72.body.isNone = false) := ⟨by kernel_rfl, by kernel_rfl⟩
    have HFC : Hid ((Try.f71.name == "runtime.NumGoroutine") = false ∧ Try.f71.body.isNone = false) := ⟨by kernel_rfl, by kernel_rfl⟩
    have HCK : Hid (∀ W, Ext w3 W → Calls Try.prog 72 #[.slice a n c, .slice al nl cl] W fun e w' => ∃ v, e = .returned v ∧ KeptRes A L C k0 W w' v) := fun W x => kept_one a n c A L C F al nl cl fl k0 W (by omega) (by omega) (HH.out.ext (HX3.out.trans x)) (HL.out.ext (HX3.out.trans x)) HK1.out HK0.out
    have HCC : Hid (∀ W, Ext w3 W → Calls Try.prog 71 #[.slice a n c, .int .i64 (L k0), .func (.func 69) #[] #[.pointer (some ⟨gl, 0, none⟩)]] W fun e w' => ∃ v, e = .returned v ∧ v = .slice (some ⟨W.heap.size, 0, none⟩) n n ∧ ∃ G, BldB W w' W.heap.size n (L k0) n (lostZ nl fl F) G) := fun W x =>
      (pcopied_any a n c A L C F (L k0) gl al nl cl fl W (by omega) (by omega) (by omega) (HH.out.ext (HX3.out.trans x)) (x.keeps HGL3.out) (HL.out.ext (HX3.out.trans x)) HM.out).mono fun e w' hh => ⟨_, hh.1, rfl, hh.2⟩
    go_region_law (first
      | (refine step_callx (by rfl) 72 Try.func72 HFK.out.1 HFK.out.2 _ _ (by rfl) [.slice a n c, .slice al nl cl] (by rfl) (fun v w' => KeptRes A L C k0 w3.drew w' v) (HCK.out w3.drew (Ext.refl w3).drew) ?_; intro v4 w4 hR4; obtain ⟨b4, o4, len4, c4, rfl, hl4, hc4, hx4⟩ := hR4; have hgf4 := ((Ext.refl w3).drew.trans hx4).keeps HGF3.out; have hx34 := (Ext.refl w3).drew.trans hx4)
      | (refine step_callx (by rfl) 71 Try.func71 HFC.out.1 HFC.out.2 _ _ (by rfl) [.slice a n c, .int .i64 (L k0), .func (.func 69) #[] #[.pointer (some ⟨gl, 0, none⟩)]] (by rfl) (fun v w' => v = .slice (some ⟨w4.heap.size, 0, none⟩) n n ∧ ∃ G, BldB w4 w' w4.heap.size n (L k0) n (lostZ nl fl F) G) (HCC.out w4 hx34) ?_; intro v5 w5 hR5; obtain ⟨rfl, G5, hb5⟩ := hR5))
    all_goals
      have HB5 : Hid (BldB w4 w5 w4.heap.size n (L k0) n (lostZ nl fl F) G5) := hb5
      clear hb5
      go_wp2_with fail
      go_meet
      case rel => exact ⟨_, _, _, rfl, hx34, Nat.le_refl _, HB5.out⟩
  case rest =>
    obtain ⟨B, G, wb, rfl, hxb, hBb, hbld⟩ := hcut
    obtain ⟨m, hm⟩ : ∃ m, L k0 = m := ⟨_, rfl⟩
    rw [hm] at hbld HM hm4 HSZ
    have HXB : Hid (Ext w wb) := HX3.out.trans hxb
    have HBD : Hid (BldB wb wc B n m n (lostZ nl fl F) G) := hbld
    have HGL4 : Hid (wc.cell? ⟨gl, 0, none⟩ = some (.slice al nl cl)) := (hxb.trans hbld.ext).keeps HGL3.out
    have HGF4 : Hid (wc.cell? ⟨gf, 0, none⟩ = some (.func (.func 69) #[] #[.pointer (some ⟨gl, 0, none⟩)])) := (hxb.trans hbld.ext).keeps HGF3.out
    have HL4 : Hid (Ints wc al nl fl) := HL.out.ext ((HX3.out.trans hxb).trans hbld.ext)
    clear hm hbld hxb HGL3 HGF3 HX3 HK0 HK1 HAL HH HL HM HE
    have hs1 : ∀ w, (Instr.slice 23 (.slice (some ⟨B, 0, none⟩) n n) none (some (.int .i64 ((n : Int) - (q : Int)))) none).run Try.prog w = .ok (.slice (some ⟨B, 0, none⟩) n0 n) w := fun w => by
      rw [sub_h (P := Try.prog) Try.underlying23 sizeBs2 (some ⟨B, 0, none⟩) n n n0 (by omega) _ (by omega) w, subA_some (by omega)]
    have hs2 : ∀ w, (Instr.slice 23 (.slice (some ⟨B, 0, none⟩) n n) (some (.int .i64 ((n : Int) - (q : Int)))) none none).run Try.prog w = .ok (.slice (some ⟨B, n0, none⟩) q (n - n0)) w := fun w => by
      rw [sub_l (P := Try.prog) Try.underlying23 sizeBs2 (some ⟨B, 0, none⟩) n n n0 (by omega) _ (by omega) w, subA_some (by omega), Nat.zero_add, show n - n0 = q by omega]
    go_upto_region 6 with fail
    go_region
    clear hs1 hs2
    have HXD : Hid (Ext wc (wc.alloc (.cells #[.slice (some ⟨B, 0, none⟩) n0 n] 23)).drew) := ((Ext.refl wc).alloc _ _).drew
    have HGD : Hid ((wc.alloc (.cells #[.slice (some ⟨B, 0, none⟩) n0 n] 23)).drew.cell? ⟨wc.heap.size, 0, none⟩ = some (.slice (some ⟨B, 0, none⟩) n0 n)) := by
      show (wc.alloc (.cells #[.slice (some ⟨B, 0, none⟩) n0 n] 23)).cell? _ = _
      rw [new_cell]; rfl
    have HGB : Hid (wc.heap.size ≠ B) := by
      have := HBD.out.top.lt
      show _ ≠ _
      omega
    generalize (wc.alloc (.cells #[.slice (some ⟨B, 0, none⟩) n0 n] 23)).drew = wd at *
    generalize wc.heap.size = gd at *
    have hgd := HGD.out
    have hgf := HXD.out.keeps HGF4.out
    go_wp2_with fail
    refine (places1_any (.pointer (some ⟨gl, 0, none⟩)) n0 (fun k => hasB nl fl k) _ (by omega) (fun k hk w' x => Rebuild1_any gl al nl cl fl k w' (by omega) ((HXD.out.trans x).keeps HGL4.out) (HL4.out.ext (HXD.out.trans x)))).mono ?_
    rintro e we ⟨⟨v1, rfl, hown1⟩, hxe⟩
    obtain ⟨a1, c1, rfl, hi1⟩ := own_places hown1
    have HI1 : Hid (Ints we a1 (holeL n0 nl fl).length fun i => (((holeL n0 nl fl).getD i 0 : Nat) : Int)) := hi1
    have hxde := HXD.out.trans hxe
    clear hown1 hi1 hgd hgf
    go_wp2_with fail
    refine (places2_any (.pointer (some ⟨gf, 0, none⟩)) (.pointer (some ⟨gd, 0, none⟩)) q (fun j => hasB nl fl ((n0 : Int) + (j : Int))) _ (by omega) (fun k hk w' x => Rebuild2_any gf gd gl _ n0 n al nl cl fl k w' (by omega) (by omega) (by omega) ((hxde.trans x).keeps HGF4.out) ((hxe.trans x).keeps HGD.out) ((hxde.trans x).keeps HGL4.out) (HL4.out.ext (hxde.trans x)))).mono ?_
    rintro e wf ⟨⟨v2, rfl, hown2⟩, hxf⟩
    obtain ⟨a2, c2, rfl, hi2⟩ := own_places hown2
    have HI2 : Hid (Ints wf a2 (lostPL n0 q nl fl).length fun i => (((lostPL n0 q nl fl).getD i 0 : Nat) : Int)) := hi2
    have hxdf := hxde.trans hxf
    have hxef := hxe.trans hxf
    clear hown2 hi2
    go_wp2_with fail
    refine (places3_any (.pointer (some ⟨gf, 0, none⟩)) (.pointer (some ⟨gd, 0, none⟩)) q (fun j => !hasB nl fl ((n0 : Int) + (j : Int))) _ (by omega) (fun k hk w' x => Rebuild3_any gf gd gl _ n0 n al nl cl fl k w' (by omega) (by omega) (by omega) ((hxdf.trans x).keeps HGF4.out) ((hxef.trans x).keeps HGD.out) ((hxdf.trans x).keeps HGL4.out) (HL4.out.ext (hxdf.trans x)))).mono ?_
    rintro e wg ⟨⟨v3, rfl, hown3⟩, hxg⟩
    obtain ⟨a3, c3, rfl, hi3⟩ := own_places hown3
    have hc3 := (own_cap hown3 rfl).1
    have hc3' : (keptPL n0 q nl fl).length ≤ c3 := hc3
    have HI3 : Hid (Ints wg a3 (keptPL n0 q nl fl).length fun i => (((keptPL n0 q nl fl).getD i 0 : Nat) : Int)) := hi3
    have hxdg := hxdf.trans hxg
    clear hown3 hi3 hc3
    have HI1g : Hid (Ints wg a1 (holeL n0 nl fl).length fun i => (((holeL n0 nl fl).getD i 0 : Nat) : Int)) := HI1.out.ext (hxf.trans hxg)
    have HI2g : Hid (Ints wg a2 (lostPL n0 q nl fl).length fun i => (((lostPL n0 q nl fl).getD i 0 : Nat) : Int)) := HI2.out.ext hxg
    have HBG : Hid (BldB wb wg B n m n (lostZ nl fl F) G) := HBD.out.grow hxdg
    have hgd := (hxef.trans hxg).keeps HGD.out
    clear HI1 HI2 HGF4 HGL4 HBD
    have hs3 : ∀ w, (Instr.slice 30 (.slice a3 (PL q fun j => !hasB nl fl ((n0 : Int) + (j : Int))).length c3) none (some (.int .i64 (PL n0 fun k => hasB nl fl k).length)) none).run Try.prog w = .ok (.slice (subA a3 c3 0) (PL n0 fun k => hasB nl fl k).length c3) w := fun w => by
      have e1 : (PL n0 fun k => hasB nl fl k).length = (holeL n0 nl fl).length := rfl
      exact sub_h (P := Try.prog) Try.underlying30 sizeInt2 a3 _ c3 _ (by omega) _ rfl w
    have g1 := fun y : Gr wg => y.ext.keeps hgd
    have HIU : Hid (Ints wg (subA a3 c3 0) (holeL n0 nl fl).length fun i => (((keptPL n0 q nl fl).getD i 0 : Nat) : Int)) := ints_pre HI3.out (by omega) hc3'
    have HGD9 : Hid (wg.cell? ⟨gd, 0, none⟩ = some (.slice (some ⟨B, 0, none⟩) n0 n)) := hgd
    clear hgd
    go_wp2_with fail
    refine wp_region_grows 7 (by kernel_rfl) (by kernel_rfl) (fun hne => ?_)
    simp only [List.take_succ_cons, List.take_zero, List.drop_succ_cons, List.drop_zero]
    repeat (go_big_quiet_step (fail))
    refine wpQuiet_nil ?_
    intro w6 hw6
    obtain ⟨y, rfl⟩ := hw6
    clear g1 hs3
    go_wp2_with fail
    refine (solve_any B n m n (n - n0) G (lostZ nl fl F) n0 q a1 (subA a3 c3 0) c1 c3 (holeL n0 nl fl).length (fun b => (holeL n0 nl fl).getD b 0) (fun b => (keptPL n0 q nl fl).getD b 0) wb _ (HBG.out.grow y.ext) hn hn0 hq.2 (by omega) (by omega) (HI1g.out.ext y.ext) (HIU.out.ext y.ext) (fun b hb => (PL_at hb).1) (fun b hb => (PL_at (show b < (keptPL n0 q nl fl).length by omega)).1) ?_).mono ?_
    · refine rank_lost _ _ (by omega) (fun b hb => ?_) (fun a b hab hb => PL_lt hab hb) (fun b hb => ?_) (fun a b hab hb => PL_lt hab (show b < (keptPL n0 q nl fl).length by omega))
      · have := hole_at hb; omega
      · have := keptP_at (n0 := n0) (p := q) (nl := nl) (fl := fl) (b := b) (by omega); omega
    rintro e wh ⟨rfl, hwh, hbh⟩
    have HI2h : Hid (Ints wh a2 (lostPL n0 q nl fl).length fun i => (((lostPL n0 q nl fl).getD i 0 : Nat) : Int)) := (HBG.out.grow y.ext).ints hwh (HI2g.out.ext y.ext)
    have HGDh : Hid (wh.cell? ⟨gd, 0, none⟩ = some (.slice (some ⟨B, 0, none⟩) n0 n)) := (HBG.out.grow y.ext).keeps hwh (y.ext.keeps HGD9.out) (u8_ne_slice _ _ _)
    have HBH : Hid (BldB wb wh B n m n (rebZ n0 q nl fl F) G) := hbh
    clear hwh hbh HI2g HI1g HIU HI3 HGD9 HGD HBG hxde hxdf hxef hxdg hxe hxf hxg HXD
    go_wp2_with fail
    go_loopw [67] (fun i wr => ∃ k : Nat, k ≤ (lostPL n0 q nl fl).length ∧ i = .int .i64 k ∧ Wro (· = B) wh wr ∧ ∃ G', BldB wb wr B n m n (encZ n0 (fun i => (lostPL n0 q nl fl).getD i 0) (rebZ n0 q nl fl F) k) G') (fun i _ => (lostPL n0 q nl fl).length - (intOf i).toNat)
    case atStart => exact ⟨0, Nat.zero_le _, rfl, Wro.refl _ _, G, HBH.out⟩
    case round =>
      obtain ⟨k, hk, rfl, hwk, G', hbk⟩ := hrel
      have HBK : Hid (BldB wb wr B n m n (encZ n0 (fun i => (lostPL n0 q nl fl).getD i 0) (rebZ n0 q nl fl F) k) G') := hbk
      have HWK : Hid (Wro (· = B) wh wr) := hwk
      clear hbk hwk
      by_cases hkt : k < (lostPL n0 q nl fl).length
      · obtain ⟨b2, o2, rfl, hc2⟩ := HI2h.out k hkt
        have hne2 := HBH.out.top_ne hc2
        have hc2r := HWK.out.cell hc2 hne2
        have hgr := HWK.out.cell HGDh.out HGB.out
        have hlk := (PL_at (show k < (PL q fun j => hasB nl fl ((n0 : Int) + (j : Int))).length from hkt)).1
        have hlk2 : (lostPL n0 q nl fl).getD k 0 < q := hlk
        have hkt2 : k < (PL q fun j => hasB nl fl ((n0 : Int) + (j : Int))).length := hkt
        obtain ⟨jk, hjk⟩ : ∃ jk, (lostPL n0 q nl fl).getD k 0 = jk := ⟨_, rfl⟩
        dsimp only at hc2r
        rw [hjk] at hc2r hlk2
        have HJK : Hid ((lostPL n0 q nl fl).getD k 0 = jk) := hjk
        clear hjk hc2 hne2 hlk
        go_wp2_with fail
        clear hc2r hgr
        refine (encoded_any _ n0 n _ _ _ _ jk m _ ⟨hn0.1, by omega⟩ (by omega) (by omega) (HBK.out.first (by omega)) (fun r hr => rfl)).mono ?_
        rintro e w4 ⟨rfl, hr4, hx4⟩
        have hb4 := HBK.out.grow hx4
        have hct := hb4.top.cell (i := n0 + jk) (by omega)
        rw [if_pos (by omega)] at hct
        have hft := hb4.top.frozen (n0 + jk)
        have HN4 : Hid (∃ G', BldB wb (w4.setCell ⟨B, n0 + jk, none⟩ (.slice (some ⟨wr.heap.size, 0, none⟩) m m)) B n m n (encZ n0 (fun i => (lostPL n0 q nl fl).getD i 0) (rebZ n0 q nl fl F) (k + 1)) G') := by
          refine ⟨_, (HBK.out.replace hBb hx4 (Nat.le_refl _) hr4 (r := n0 + jk)).congr fun r hr i _ => ?_⟩
          show _ = (if r = n0 + (lostPL n0 q nl fl).getD k 0 then _ else _)
          rw [HJK.out]
          by_cases e : r = n0 + jk
          · rw [if_pos e, if_pos e, enc_encZ]
            dsimp only
            rw [HJK.out]
          · rw [if_neg e, if_neg e]
        have HW4 : Hid (Wro (· = B) wh (w4.setCell ⟨B, n0 + jk, none⟩ (.slice (some ⟨wr.heap.size, 0, none⟩) m m))) := (HWK.out.then_ext hx4).setCell (p := ⟨B, n0 + jk, none⟩) rfl _
        clear hb4 hr4
        go_wp2_with fail
        go_roundw
        case rel => exact ⟨k + 1, by omega, by go_num, HW4.out, HN4.out⟩
        case measure => simp [intOf]; omega
      · have hkl2 : k = (lostPL n0 q nl fl).length := by omega
        have HR : Hid (CapRes wr (.returned (.tuple #[.slice (some ⟨B, 0, none⟩) n n, .int .i64 0])) n (sizeOfKept n L nl fl) (rebD n0 q nl fl F) 0) := by
          rw [HSZ.out]
          have h9 := HBK.out
          rw [hkl2] at h9
          exact ⟨_, _, _, _, rfl, h9.cols, fun _ _ => Nat.le_refl _⟩
        have HXE : Hid (Ext w wr) := HXB.out.trans HBK.out.ext
        have hkn : ¬ (k : Int) < ((PL q fun j => hasB nl fl ((n0 : Int) + (j : Int))).length : Int) := by
          have : (PL q fun j => hasB nl fl ((n0 : Int) + (j : Int))).length = (lostPL n0 q nl fl).length := rfl
          omega
        clear hkl2
        go_wp2_with fail
        go_ret2
        exact ⟨HR.out, HXE.out⟩
theorem Rebuild_ok (a : Option Addr) (n c : Nat) (A : Nat → Option Addr) (L C : Nat → Nat) (F : Nat → Nat → E) (q n0 : Nat) (al : Option Addr) (nl cl : Nat) (fl : Nat → Int) (w : World) (hn : n0 + q = n) (hq : 1 ≤ q ∧ q ≤ 3) (hn0 : 1 ≤ n0 ∧ n0 ≤ 12) (hal : keptAlike n L nl fl = true) (hnq : nl ≤ q) (h : Cols w a n A L C F) (hl : Ints w al nl fl) (he : rebE n L q nl fl = 0) :
    Calls Try.prog 50 #[.slice a n c, .int .i64 q, .slice al nl cl] w fun e w' => ColsRes w' e n (sizeOfKept n L nl fl) (rebD n0 q nl fl F) 0 ∧ Ext w w' :=
  (Rebuild_cap a n c A L C F q n0 al nl cl fl w hn hq hn0 hal hnq h hl he).mono fun _ _ hh => ⟨hh.1.cols, hh.2⟩
end Go.Proofs.Ythgbfakmkdifbaa
