/-
  par.products: the products of an element with all others, an array; the world only grows.
-/
import Derived.Test.YthgbfakmkdifbaaChecked
import Derived.WalkKit
import Derived.Deep.WholeRow
import Derived.Deep.OwnRows
import Derived.Laws.BitsAllLaws
import Derived.Test.YthgbfakmkdifbaaMatOps
import Derived.Test.YthgbfakmkdifbaaByb
import Derived.Test.YthgbfakmkdifbaaGfs
import Derived.Test.YthgbfakmkdifbaaAlg
import Derived.Test.YthgbfakmkdifbaaMatRow
import Derived.Test.YthgbfakmkdifbaaMk
namespace Go.Proofs.Ythgbfakmkdifbaa
open Go.RowKit Go.Deep E
def Z256 : Array Value := Array.replicate 256 (.int .u8 0)
theorem zero256 : (Try.prog.info? 104).map (fun i => (i.zero, i.size)) = some (some (.agg Z256), 256) := by kernel_rfl
theorem Z256_size : Z256.size = 256 := by simp [Z256]
theorem xor8_ev (x y : E) : bits .xor .u8 (ev x) (ev y) = ev (ad x y) := u8_xor_nat x.val y.val x.lt y.lt
/-- the element of a number below 256 -/
def en (n : Nat) : E := of (n : Int)
theorem ev_en {n : Nat} (h : n < 256) : ev (en n) = (n : Int) := ev_of _ (by omega) (by omega)
theorem en_val {n : Nat} (h : n < 256) : (en n).val = n := by have := ev_en h; unfold ev at this; omega
theorem en_of_ev (x : E) : en x.val = x := by
  have : (ev x) = (x.val : Int) := rfl
  unfold en
  rw [← this, of_ev]
/-- the numbers 1, 2, 4 .. 256 -/
def Two (b : Nat) : Prop := b = 1 ∨ b = 2 ∨ b = 4 ∨ b = 8 ∨ b = 16 ∨ b = 32 ∨ b = 64 ∨ b = 128 ∨ b = 256
theorem Two.bd {b : Nat} (h : Two b) : 1 ≤ b ∧ b ≤ 256 := by unfold Two at h; omega
theorem Two.next {b : Nat} (h : Two b) (hb : b < 256) : Two (b * 2) := by unfold Two at *; omega
theorem Two.half {b : Nat} (h : Two b) (hb : b < 256) : b ≤ 128 := by unfold Two at *; omega
theorem two_xor {b r : Nat} (h : Two b) (hr : r < b) : b ^^^ r = b + r := by
  have key : ∀ b ∈ [1, 2, 4, 8, 16, 32, 64, 128, 256], ∀ r, r < b → b ^^^ r = b + r := by decide +kernel
  exact key b (by unfold Two at h; simp; omega) r hr
theorem en_add {b r : Nat} (h : Two b) (hb : b < 256) (hr : r < b) : en (b + r) = ad (en r) (en b) := by
  have h2 := h.half hb
  apply ext
  show (en (b + r)).val = (en r).val ^^^ (en b).val
  rw [en_val (by omega), en_val (by omega), en_val hb, Nat.xor_comm, two_xor h hr]
/-- the products with the first m elements; behind them 0 -/
def prodA (x : E) (m i : Nat) : Value := .int .u8 (ev (if i < m then mu x (en i) else ze))
theorem prodA_put {x : E} {b r : Nat} (h : Two b) (hb : b < 256) (hr : r < b) (i : Nat) :
    (if i = b + r then Value.int .u8 (ev (ad (mu x (en r)) (mu x (en b)))) else prodA x (b + r) i) = prodA x (b + (r + 1)) i := by
  unfold prodA
  by_cases e : i = b + r
  · subst e
    rw [if_pos rfl, if_pos (by omega), en_add h hb hr, mu_ad]
  · rw [if_neg e]
    by_cases l : i < b + r
    · rw [if_pos l, if_pos (by omega)]
    · rw [if_neg l, if_neg (by omega)]
def prods (x : E) : Array Value := Array.ofFn (n := 256) fun i => .int .u8 (ev (mu x (en i.val)))
theorem prods_size (x : E) : (prods x).size = 256 := by simp [prods]
theorem prods_at (x : E) (i : Nat) (h : i < 256) : (prods x)[i]? = some (.int .u8 (ev (mu x (en i)))) := by simp [prods, h]
theorem row_prods {w : World} {g : Nat} {t : TypeId} {x : E} (h : w.rowIs g t 256 (prodA x 256)) : w.heap[g]? = some (.cells (prods x) t (0, 0)) := by
  obtain ⟨c, h1, h2, h3⟩ := h
  have e : c = prods x := by
    apply Array.ext_getElem?
    intro i
    by_cases hi : i < 256
    · rw [h3 i hi, prods_at x i hi]
      unfold prodA
      rw [if_pos hi]
    · rw [Array.getElem?_eq_none (by omega), Array.getElem?_eq_none (by rw [prods_size]; omega)]
  rw [h1, e]
set_option maxRecDepth 100000 in
set_option maxHeartbeats 400000 in
theorem products_any (x : E) (w : World) : Calls Try.prog 79 #[.int .i64 (ev x)] w fun e w' => e = .returned (.agg (prods x)) ∧ Ext w w' := by
  have hz := (zero_of_info zero256).1
  go_enter Try.func79, Try.ntmps79
  go_wp2_with fail
  clear hz
  have R0 : Hid (((w.alloc (.cells Z256 104)).alloc (.cells Z256 104)).rowIs (w.heap.size + 1) 104 256 (prodA x 1)) := by
    have h := World.rowIs_alloc (w.alloc (.cells Z256 104)) Z256 104 (prodA x 1) fun i hi => ?_
    · rw [Z256_size] at h
      simp only [World.size_alloc] at h
      exact h
    · rw [Z256_size] at hi
      unfold prodA
      by_cases e : i < 1
      · rw [if_pos e, show i = 0 by omega, show en 0 = ze from rfl, mu_ze]; simp [Z256]; rfl
      · rw [if_neg e]; simp [Z256, hi]; rfl
  have S0 : Hid (((w.alloc (.cells Z256 104)).alloc (.cells Z256 104)).rowIs w.heap.size 104 256 (fun _ => .int .u8 0)) := by
    have h := World.rowIs_alloc w Z256 104 (fun _ => .int .u8 0) fun i hi => ?_
    · rw [Z256_size] at h
      exact h.alloc _
    · rw [Z256_size] at hi
      simp [Z256, hi]
  have E0 : Hid (Ext w ((w.alloc (.cells Z256 104)).alloc (.cells Z256 104))) := ((Ext.refl w).alloc _ _).alloc _ _
  generalize (w.alloc (.cells Z256 104)).alloc (.cells Z256 104) = w0 at *
  go_loopw [4] (fun i wr => ∃ b : Nat, i = .int .i64 b ∧ Two b ∧ Ext w wr ∧ wr.rowIs (w.heap.size + 1) 104 256 (prodA x b) ∧ wr.rowIs w.heap.size 104 256 (fun _ => .int .u8 0)) (fun i _ => 256 - (intOf i).toNat)
  case atStart => exact ⟨1, rfl, Or.inl rfl, E0.out, R0.out, S0.out⟩
  case round =>
    clear R0 S0 E0
    obtain ⟨b, rfl, h2, hx, hr, hs⟩ := hrel
    have hbd := h2.bd
    have H2 : Hid (Two b) := h2
    have HR : Hid (wr.rowIs (w.heap.size + 1) 104 256 (prodA x b)) := hr
    have HS : Hid (wr.rowIs w.heap.size 104 256 (fun _ => .int .u8 0)) := hs
    clear h2 hr hs
    by_cases hlt : b < 256
    · go_wp2_with fail
      have hmul := Mul_any (ev x) (b : Int) wr
      rw [← ev_en hlt, mulV_ev, rangeE_ev, ev_en hlt] at hmul
      refine hmul.mono ?_
      rintro e w1 ⟨rfl, hx1⟩
      have HR1 : Hid (w1.rowIs (w.heap.size + 1) 104 256 (prodA x (b + 0))) := hx1.rowIs HR.out
      have HS1 : Hid (w1.rowIs w.heap.size 104 256 (fun _ => .int .u8 0)) := hx1.rowIs HS.out
      have hx2 := hx.trans hx1
      clear HR HS hmul
      have hp := ev_bd (mu x (en b))
      go_wp2_with fail
      go_loopw [19] (fun i wi => ∃ r : Nat, r ≤ b ∧ i = .int .i64 r ∧ Ext w wi ∧ wi.rowIs (w.heap.size + 1) 104 256 (prodA x (b + r)) ∧ wi.rowIs w.heap.size 104 256 (fun _ => .int .u8 0)) (fun i _ => b - (intOf i).toNat)
      case atStart => exact ⟨0, Nat.zero_le _, rfl, hx2, HR1.out, HS1.out⟩
      case round =>
        clear HR1 HS1
        obtain ⟨r, hr, rfl, hxr, hrow, hres⟩ := hrel
        have HR : Hid (wr.rowIs (w.heap.size + 1) 104 256 (prodA x (b + r))) := hrow
        have HS : Hid (wr.rowIs w.heap.size 104 256 (fun _ => .int .u8 0)) := hres
        have hh := H2.out.half hlt
        clear hrow hres
        by_cases hrt : r < b
        · have hc1 := HR.out.cell (i := r) (by omega)
          have hc2 := HR.out.cell (i := b + r) (by omega)
          have hf2 := HR.out.frozen (b + r)
          rw [show prodA x (b + r) r = .int .u8 (ev (mu x (en r))) by unfold prodA; rw [if_pos (by omega)]] at hc1
          have hw8 : IntKind.u8.wrap (ev (mu x (en b))) = ev (mu x (en b)) := by rw [IntKind.wrap_u8]; omega
          have hxor := xor8_ev (mu x (en r)) (mu x (en b))
          have hbr : ((b : Int) + (r : Int)).toNat = b + r := by omega
          go_wp2_with fail
          go_roundw
          case rel =>
            refine ⟨r + 1, by omega, by go_num, hxr.setCell (by show w.heap.size ≤ w.heap.size + 1; omega) _, ?_, HS.out.setOther (a := ⟨w.heap.size + 1, b + r, none⟩) (by show w.heap.size ≠ w.heap.size + 1; omega) _⟩
            exact (HR.out.set (b + r) _).congr fun i _ => prodA_put H2.out hlt hrt i
          case measure => simp [intOf]; omega
        · obtain rfl : r = b := by omega
          go_wp2_with fail
          go_roundw
          case rel =>
            refine ⟨r * 2, by go_num, H2.out.next hlt, hxr, ?_, HS.out⟩
            have := HR.out
            rwa [show r + r = r * 2 by omega] at this
          case measure => simp [intOf]; omega
    · obtain rfl : b = 256 := by omega
      have hheap := row_prods HR.out
      obtain ⟨old, ho1, ho2, _⟩ := HS.out
      have hin : (Try.prog.info? 104).map (·.size) = some (prods x).size := by rw [prods_size]; exact (zero_of_info zero256).2
      have hone : (prods x).all (·.oneCell') = true := by
        rw [Array.all_eq_true_iff_forall_mem]
        intro v hv
        obtain ⟨i, hi, rfl⟩ := Array.getElem_of_mem hv
        simp [prods]; rfl
      have hsz : old.size = (prods x).size := by rw [prods_size, ho2]
      go_wp2_with (first | (refine wpList_load_row rfl 104 _ rfl (w.heap.size + 1) rfl 104 (prods x) (0, 0) _ hheap Try.underlying104 rfl hin ?_) | (refine wpList_store_row rfl 104 _ _ rfl w.heap.size (prods x) rfl rfl 104 old ho1 hin hsz hone ?_))
      refine bodyPost_ret (results_cell_row rfl _ _ w.heap.size 104 (prods x) (0, 0) _ rfl (setRow_heap _ _ old _ _ _ ho1) Try.underlying104 rfl hin) rfl ?_
      exact ⟨rfl, hx.grow ⟨rfl, rfl, rfl, by simp, fun k _ hk => setRow_other _ _ k _ (fun e => hk (by rw [e]))⟩ (fun k hk => by cases hk; exact Nat.le_refl _)⟩
end Go.Proofs.Ythgbfakmkdifbaa
/-
  par.weight, par.addTimes, par.encoded: what a parity column is; nothing else is written.
-/
namespace Go.Proofs.Ythgbfakmkdifbaa
open Go.RowKit Go.Deep E
/-- with what the data column i stands in the parity column j -/
def wt (j i : Nat) : E := pw (en 2) (j * i)
theorem powV_ev (x : E) (k : Nat) : powV (ev x) k = ev (pw x k) ∧ powE (ev x) k = 0 := by
  have hx := ev_bd x
  have hB : powB (ev x) k = true := by unfold powB; rw [elB_of _ (by omega) hx.2]; simp
  unfold powV powE
  rw [if_pos hB, if_pos hB]
  exact ⟨rfl, rfl⟩
theorem mul_bd {j i : Nat} (hj : j ≤ 16) (hi : i ≤ 16) : 0 ≤ (j : Int) * (i : Int) ∧ (j : Int) * (i : Int) ≤ 256 := by
  have h1 : j * i ≤ 16 * 16 := Nat.mul_le_mul hj hi
  have h2 : ((j * i : Nat) : Int) = (j : Int) * (i : Int) := Int.natCast_mul j i
  omega
set_option maxRecDepth 100000 in
theorem weight_any (j i : Nat) (w : World) (hj : j ≤ 16) (hi : i ≤ 16) :
    Calls Try.prog 64 #[.int .i64 j, .int .i64 i] w fun e w' => e = .returned (.int .i64 (ev (wt j i))) ∧ Ext w w' := by
  obtain ⟨hb1, hb2⟩ := mul_bd hj hi
  go_enter Try.func64, Try.ntmps64
  go_wp2_with fail
  have hE := Exp_any ((j : Int) * (i : Int)) w (by omega)
  have hm : (j : Int) * (i : Int) = ((j * i : Nat) : Int) := (Int.natCast_mul j i).symm
  rw [show (2 : Int) = ev (en 2) from rfl, hm, (powV_ev (en 2) (j * i)).1, (powV_ev (en 2) (j * i)).2, ← hm] at hE
  refine hE.mono ?_
  clear hE hm
  rintro e w' ⟨rfl, hx⟩
  go_wp2_with fail
  go_ret
  exact ⟨rfl, hx⟩
theorem upto_bset (k : Nat) (f g : Nat → E) : (fun j => if j = k then Value.int .u8 (ev (g k)) else bvs (upto k f g) j) = bvs (upto (k + 1) f g) := by
  funext j
  unfold bvs upto
  by_cases e : j = k
  · subst e; rw [if_pos rfl, if_pos (by omega)]
  · rw [if_neg e]
    by_cases l : j < k
    · rw [if_pos l, if_pos (by omega)]
    · rw [if_neg l, if_neg (by omega)]
set_option maxRecDepth 100000 in
set_option maxHeartbeats 800000 in
theorem paddTimes_any (g m mm cm : Nat) (a : Option Addr) (n co : Nat) (x : E) (R O : Nat → E) (w : World) (hm : m ≤ mm) (hn : n ≤ m) (hb : n ≤ 9223372036854775807) (hr : w.rowIs g 5 mm (bvs R)) (ho : Byts w a n O) (hap : 0 < n → ∀ p, a = some p → p.block ≠ g) :
    Calls Try.prog 63 #[.slice (some ⟨g, 0, none⟩) m cm, .slice a n co, .int .i64 (ev x)] w fun e w' => e = .returned (.tuple #[]) ∧ w'.rowIs g 5 mm (bvs (upto n R fun i => ad (R i) (mu x (O i)))) ∧ Wro (· = g) w w' := by
  have HR : Hid (w.rowIs g 5 mm (bvs R)) := hr
  have HO : Hid (Byts w a n O) := ho
  have HA : Hid (0 < n → ∀ p, a = some p → p.block ≠ g) := hap
  clear hr ho hap
  have hz := (zero_of_info zero256).1
  have hin : (Try.prog.info? 104).map (·.size) = some (prods x).size := by rw [prods_size]; exact (zero_of_info zero256).2
  have hone : (prods x).all (·.oneCell') = true := by
    rw [Array.all_eq_true_iff_forall_mem]
    intro v hv
    obtain ⟨i, hi, rfl⟩ := Array.getElem_of_mem hv
    simp [prods]; rfl
  have hsz : Z256.size = (prods x).size := by rw [prods_size, Z256_size]
  go_enter Try.func63, Try.ntmps63
  go_wp2_with fail
  refine (products_any x w).mono ?_
  rintro e w1 ⟨rfl, hx1⟩
  go_wp2_with (first | (refine wpList_store_row rfl 104 _ _ rfl w1.heap.size (prods x) rfl rfl 104 Z256 (heap_alloc_last w1 _) hin hsz hone ?_))
  rw [World.setRow_alloc_new]
  clear hz hin hone hsz
  have HX : Hid (Ext w (w1.alloc (.cells (prods x) 104))) := hx1.alloc _ _
  have HP : Hid (∀ i, i < 256 → (w1.alloc (.cells (prods x) 104)).cell? ⟨w1.heap.size, i, none⟩ = some (.int .u8 (ev (mu x (en i))))) := fun i hi => by
    rw [new_cell]; exact prods_at x i hi
  have HG : Hid (w1.heap.size ≠ g) := fun e => by
    have h1 := HR.out.lt
    have h2 := hx1.size
    omega
  generalize w1.alloc (.cells (prods x) 104) = w2 at *
  generalize w1.heap.size = pb at *
  go_loopw [13] (fun i wr => ∃ k : Nat, k ≤ n ∧ i = .int .i64 k ∧ wr.rowIs g 5 mm (bvs (upto k R fun i => ad (R i) (mu x (O i)))) ∧ Wro (· = g) w2 wr) (fun i _ => n - (intOf i).toNat)
  case atStart =>
    refine ⟨0, Nat.zero_le _, rfl, (HX.out.rowIs HR.out).congr fun i hi => ?_, Wro.refl _ _⟩
    unfold bvs upto
    rw [if_neg (by omega)]
  case round =>
    obtain ⟨k, hk, rfl, hr, hx⟩ := hrel
    by_cases hlt : k < n
    · obtain ⟨b, o, rfl, hck⟩ := (HO.out.ext HX.out) k hlt
      have hcb : wr.cell? ⟨b, o + k, none⟩ = some (.int .u8 (ev (O k))) := hx.cell hck (HA.out (by omega) ⟨b, o, none⟩ rfl)
      have hcr : wr.cell? ⟨g, k, none⟩ = some (.int .u8 (ev (R k))) := by rw [hr.cell (by omega)]; unfold bvs; rw [upto_at]
      have hcp : wr.cell? ⟨pb, (ev (O k)).toNat, none⟩ = some (.int .u8 (ev (mu x (O k)))) := by
        have h1 := hx.cell (HP.out (O k).val (O k).lt) HG.out
        rw [en_of_ev] at h1
        exact h1
      have hfr := hr.frozen k
      have hxor := xor8_ev (R k) (mu x (O k))
      have hbd := ev_bd (O k)
      have HR2 : Hid (wr.rowIs g 5 mm (bvs (upto k R fun i => ad (R i) (mu x (O i))))) := hr
      clear hr hck
      go_wp2_with fail
      go_region
      go_wp2_with fail
      go_roundw
      case rel =>
        refine ⟨k + 1, by omega, by go_num, ?_, (hx.setCell (p := ⟨g, k, none⟩) rfl _).drew⟩
        have h6 := HR2.out.set k (.int .u8 (ev (ad (R k) (mu x (O k)))))
        rw [upto_bset k R fun i => ad (R i) (mu x (O i))] at h6
        exact h6
      case measure => simp [intOf]; omega
    · obtain rfl : k = n := by omega
      go_wp2_with fail
      go_end0
      exact ⟨rfl, hr, (Wro.ext HX.out).trans hx⟩
/-- the parity column j of n data columns, place by place -/
def enc (n : Nat) (F : Nat → Nat → E) (j k : Nat) : E := sm n fun i => mu (wt j i) (F i k)
set_option maxRecDepth 100000 in
set_option maxHeartbeats 800000 in
theorem encoded_any (a : Option Addr) (n c : Nat) (A : Nat → Option Addr) (L C : Nat → Nat) (F : Nat → Nat → E) (j m : Nat) (w : World) (hn : 1 ≤ n ∧ n ≤ 16) (hj : j ≤ 16) (hm : m ≤ 1048576) (h : Cols w a n A L C F) (hL : ∀ r, r < n → L r = m) :
    Calls Try.prog 42 #[.slice a n c, .int .i64 j] w fun e w' => e = .returned (.slice (some ⟨w.heap.size, 0, none⟩) m m) ∧ w'.rowIs w.heap.size 5 m (bvs (enc n F j)) ∧ Ext w w' := by
  obtain ⟨b, o, rfl, hc⟩ := h.at (by omega)
  have hc0 := hc 0 (by omega)
  rw [hL 0 (by omega), Nat.add_zero] at hc0
  have HC : Hid (∀ r, r < n → w.cell? ⟨b, o + r, none⟩ = some (.slice (A r) m (C r))) := fun r hr => by rw [hc r hr, hL r hr]
  have HB : Hid (∀ r, r < n → Byts w (A r) m (F r)) := fun r hr => by have := h.col hr; rwa [hL r hr] at this
  clear h hc hL
  have hmk := make_bytes m (by omega)
  go_enter Try.func42, Try.ntmps42
  go_wp2_with fail
  clear hmk hc0
  have HR : Hid ((w.alloc (.cells (madeCells #[.int .u8 0] m) 5)).rowIs w.heap.size 5 m (bvs (enc 0 F j))) := World.rowIs_made w (.int .u8 0) m 5
  have HX : Hid (Ext w (w.alloc (.cells (madeCells #[.int .u8 0] m) 5))) := (Ext.refl w).alloc _ _
  generalize w.alloc (.cells (madeCells #[.int .u8 0] m) 5) = w1 at *
  go_loopw [15] (fun i wr => ∃ k : Nat, k ≤ n ∧ i = .int .i64 k ∧ wr.rowIs w.heap.size 5 m (bvs (enc k F j)) ∧ Ext w wr) (fun i _ => n - (intOf i).toNat)
  case atStart => exact ⟨0, Nat.zero_le _, rfl, HR.out, HX.out⟩
  case round =>
    clear HR HX
    obtain ⟨k, hk, rfl, hr, hx⟩ := hrel
    by_cases hlt : k < n
    · have hck := hx.keeps (HC.out k hlt)
      have HR : Hid (wr.rowIs w.heap.size 5 m (bvs (enc k F j))) := hr
      clear hr
      go_wp2_with fail
      refine (weight_any j k _ hj (by omega)).mono ?_
      rintro e w2 ⟨rfl, hx2⟩
      have HR2 : Hid (w2.rowIs w.heap.size 5 m (bvs (enc k F j))) := hx2.rowIs HR.out
      clear HR
      go_wp2_with fail
      refine (paddTimes_any w.heap.size m m m (A k) m (C k) (wt j k) (enc k F j) (F k) _ (Nat.le_refl _) (Nat.le_refl _) (by omega) HR2.out ((HB.out k hlt).ext (hx.trans hx2)) ?_).mono ?_
      · intro h0 p hp
        obtain ⟨b', o', hp', hc'⟩ := HB.out k hlt 0 h0
        rw [hp] at hp'
        cases hp'
        have := World.block_lt_of_cell? _ _ hc'
        show b' ≠ w.heap.size
        have h3 : b' < w.heap.size := this
        omega
      rintro e w3 ⟨rfl, hr3, hw3⟩
      have HR3 : Hid (w3.rowIs w.heap.size 5 m (bvs (enc (k + 1) F j))) := hr3.congr fun i hi => by
        unfold bvs upto
        rw [if_pos hi]
        rfl
      have HX3 : Hid (Ext w w3) := Wro.after (hx.trans hx2) hw3 (fun i hi => by rw [hi]; exact Nat.le_refl _)
      clear hr3 hw3
      go_wp2_with fail
      go_roundw
      case rel => exact ⟨k + 1, by omega, by go_num, HR3.out, HX3.out⟩
      case measure => simp [intOf]; omega
    · obtain rfl : k = n := by omega
      go_wp2_with fail
      go_ret
      exact ⟨rfl, hr, hx⟩
end Go.Proofs.Ythgbfakmkdifbaa
/-
  par.May at every list of columns: a plain answer; the world only grows.
-/
namespace Go.Proofs.Ythgbfakmkdifbaa
open Go.RowKit E
def fromTo (lo hi n : Int) : Bool := decide (lo ≤ n) && decide (n ≤ hi)
theorem fromTo_true {lo hi n : Int} (h : lo ≤ n ∧ n ≤ hi) : fromTo lo hi n = true := by unfold fromTo; simp; omega
theorem fromTo_false {lo hi n : Int} (h : ¬ (lo ≤ n ∧ n ≤ hi)) : fromTo lo hi n = false := by unfold fromTo; simp; omega
theorem fromTo_bd {lo hi n : Int} (h : fromTo lo hi n = true) : lo ≤ n ∧ n ≤ hi := by unfold fromTo at h; simp at h; omega
theorem fromTo_not {lo hi n : Int} (h : fromTo lo hi n = false) : ¬ (lo ≤ n ∧ n ≤ hi) := by unfold fromTo at h; simp at h; omega
set_option maxRecDepth 100000 in
theorem mayData_any (n : Int) (w : World) : Calls Try.prog 61 #[.int .i64 n] w fun e w' => e = .returned (.bool (fromTo 1 12 n)) ∧ w' = w := by
  by_cases h1 : 1 ≤ n
  · by_cases h2 : n ≤ 12
    · go_enter Try.func61, Try.ntmps61
      go_wp2
      go_ret
      rw [fromTo_true ⟨h1, h2⟩]
      exact ⟨rfl, rfl⟩
    · go_enter Try.func61, Try.ntmps61
      go_wp2
      go_ret
      rw [fromTo_false (by omega)]
      exact ⟨rfl, rfl⟩
  · go_enter Try.func61, Try.ntmps61
    go_wp2
    go_ret
    rw [fromTo_false (by omega)]
    exact ⟨rfl, rfl⟩
set_option maxRecDepth 100000 in
theorem mayParity_any (n : Int) (w : World) : Calls Try.prog 41 #[.int .i64 n] w fun e w' => e = .returned (.bool (fromTo 1 3 n)) ∧ w' = w := by
  by_cases h1 : 1 ≤ n
  · by_cases h2 : n ≤ 3
    · go_enter Try.func41, Try.ntmps41
      go_wp2
      go_ret
      rw [fromTo_true ⟨h1, h2⟩]
      exact ⟨rfl, rfl⟩
    · go_enter Try.func41, Try.ntmps41
      go_wp2
      go_ret
      rw [fromTo_false (by omega)]
      exact ⟨rfl, rfl⟩
  · go_enter Try.func41, Try.ntmps41
    go_wp2
    go_ret
    rw [fromTo_false (by omega)]
    exact ⟨rfl, rfl⟩
/-- a column as long as the first one, and not too long -/
def colB (L : Nat → Nat) (r : Nat) : Bool := decide (L r = L 0) && decide (L r ≤ 4096)
def alikeB (n : Nat) (L : Nat → Nat) : Bool := (List.range n).all (colB L)
theorem alikeB_true {n : Nat} {L : Nat → Nat} (h : ∀ r, r < n → colB L r = true) : alikeB n L = true := by
  unfold alikeB
  rw [List.all_eq_true]
  exact fun x hx => h x (List.mem_range.1 hx)
theorem alikeB_of {n : Nat} {L : Nat → Nat} (h : alikeB n L = true) {r : Nat} (hr : r < n) : L r = L 0 ∧ L r ≤ 4096 := by
  unfold alikeB at h
  rw [List.all_eq_true] at h
  have := h r (List.mem_range.2 hr)
  unfold colB at this
  simpa using this
theorem alikeB_false {n : Nat} {L : Nat → Nat} {r : Nat} (hr : r < n) (h : colB L r = false) : alikeB n L = false := by
  cases e : alikeB n L
  · rfl
  · have := alikeB_of e hr
    unfold colB at h
    simp at h
    omega
theorem ret_boolB {a b : Bool} (h : a = b) : Ending.returned (.bool a) = .returned (.bool b) := by rw [h]
set_option maxRecDepth 100000 in
theorem alike1_any (g : Nat) (a : Option Addr) (n c : Nat) (A : Nat → Option Addr) (L C : Nat → Nat) (F : Nat → Nat → E) (k : Nat) (w : World) (hk : k < n) (hg : w.cell? ⟨g, 0, none⟩ = some (.slice a n c)) (h : Cols w a n A L C F) :
    Calls Try.prog 78 #[.slice (A k) (L k) (C k), .pointer (some ⟨g, 0, none⟩)] w fun e w' => e = .returned (.bool (!colB L k)) ∧ w' = w := by
  obtain ⟨b, o, rfl, hc⟩ := h.at (by omega)
  have hc0 := hc 0 (by omega)
  rw [Nat.add_zero] at hc0
  clear h hc
  have h0 : 0 < n := by omega
  by_cases h1 : L k = L 0
  · have e1 : ((L k : Int) != (L 0 : Int)) = false := by rw [h1]; simp
    have H1 : Hid (L k = L 0) := h1
    clear h1
    by_cases h2 : L k ≤ 4096
    · go_enter Try.func78, Try.ntmps78
      go_wp2_with fail
      go_ret
      refine ⟨ret_boolB ?_, rfl⟩
      unfold colB
      rw [decide_eq_true H1.out, decide_eq_true h2]
      simp; omega
    · go_enter Try.func78, Try.ntmps78
      go_wp2_with fail
      go_ret
      refine ⟨ret_boolB ?_, rfl⟩
      unfold colB
      rw [decide_eq_true H1.out, decide_eq_false h2]
      simp; omega
  · have e1 : ((L k : Int) != (L 0 : Int)) = true := by rw [bne_iff_ne]; omega
    have H1 : Hid (¬ L k = L 0) := h1
    clear h1
    go_enter Try.func78, Try.ntmps78
    go_wp2_with fail
    go_ret
    refine ⟨ret_boolB ?_, rfl⟩
    unfold colB
    rw [decide_eq_false H1.out]
    rfl
set_option maxRecDepth 100000 in
set_option maxHeartbeats 400000 in
theorem indexCols_any (g : Nat) (a : Option Addr) (n c : Nat) (A : Nat → Option Addr) (L C : Nat → Nat) (F : Nat → Nat → E) (w : World) (hn : n ≤ 9223372036854775807) (hg : w.cell? ⟨g, 0, none⟩ = some (.slice a n c)) (h : Cols w a n A L C F) :
    Calls Try.prog 88 #[.slice a n c, .func (.func 78) #[] #[.pointer (some ⟨g, 0, none⟩)]] w fun e w' => (∃ r : Int, e = .returned (.int .i64 r) ∧ decide (0 ≤ r) = !alikeB n L) ∧ w' = w := by
  have HH : Hid (Cols w a n A L C F) := h
  have HG : Hid (w.cell? ⟨g, 0, none⟩ = some (.slice a n c)) := hg
  clear h hg
  go_enter Try.func88, Try.ntmps88
  go_wp2_with fail
  go_loop [8] (fun i => ∃ k : Nat, k ≤ n ∧ i = .int .i64 k ∧ Hid (∀ j, j < k → colB L j = true)) (fun i => n - (intOf i).toNat)
  case atStart => exact ⟨0, Nat.zero_le _, rfl, fun j h => by omega⟩
  case round =>
    obtain ⟨k, hk, rfl, HI⟩ := hrel
    by_cases hlt : k < n
    · obtain ⟨⟨b, o, rfl, hck⟩, _⟩ := HH.out k hlt
      go_wp2_with fail
      refine (alike1_any g _ n c A L C F k _ hlt HG.out HH.out).mono ?_
      rintro e w' ⟨rfl, rfl⟩
      cases hE : colB L k
      · go_wp2_with fail
        go_ret
        exact ⟨⟨_, rfl, by rw [alikeB_false hlt hE]; simp⟩, rfl⟩
      · go_wp2_with fail
        go_round
        case rel =>
          refine ⟨k + 1, by omega, by go_num, ?_⟩
          intro j hj
          by_cases e : j = k
          · rw [e]; exact hE
          · exact HI.out j (by omega)
        case measure => simp [intOf]; omega
    · go_wp2_with fail
      go_ret
      exact ⟨⟨_, rfl, by rw [alikeB_true fun r hr => HI.out r (by omega)]; simp⟩, rfl⟩
set_option maxRecDepth 100000 in
theorem containsCols_any (g : Nat) (a : Option Addr) (n c : Nat) (A : Nat → Option Addr) (L C : Nat → Nat) (F : Nat → Nat → E) (w : World) (hn : n ≤ 9223372036854775807) (hg : w.cell? ⟨g, 0, none⟩ = some (.slice a n c)) (h : Cols w a n A L C F) :
    Calls Try.prog 77 #[.slice a n c, .func (.func 78) #[] #[.pointer (some ⟨g, 0, none⟩)]] w fun e w' => e = .returned (.bool (!alikeB n L)) ∧ w' = w := by
  have HH : Hid (Cols w a n A L C F) := h
  have HG : Hid (w.cell? ⟨g, 0, none⟩ = some (.slice a n c)) := hg
  clear h hg
  go_enter Try.func77, Try.ntmps77
  go_wp2_with fail
  refine (indexCols_any g a n c A L C F _ hn HG.out HH.out).mono ?_
  rintro e w' ⟨⟨r, rfl, hr⟩, rfl⟩
  go_wp2_with fail
  go_ret
  exact ⟨rfl, rfl⟩
set_option maxRecDepth 100000 in
theorem alike_any (a : Option Addr) (n c : Nat) (A : Nat → Option Addr) (L C : Nat → Nat) (F : Nat → Nat → E) (w : World) (hn : n ≤ 9223372036854775807) (h : Cols w a n A L C F) :
    Calls Try.prog 62 #[.slice a n c] w fun e w' => e = .returned (.bool (alikeB n L)) ∧ Ext w w' := by
  have HH : Hid (Cols w a n A L C F) := h
  clear h
  go_enter Try.func62, Try.ntmps62
  go_wp2_with fail
  refine (containsCols_any w.heap.size a n c A L C F _ hn (by rw [new_cell]; rfl) (HH.out.ext ((Ext.refl w).alloc _ _))).mono ?_
  rintro e w' ⟨rfl, rfl⟩
  go_wp2_with fail
  go_ret
  exact ⟨rfl, (Ext.refl w).alloc _ _⟩
def pmayB (n : Nat) (L : Nat → Nat) : Bool := fromTo 1 12 n && alikeB n L
set_option maxRecDepth 100000 in
theorem pMay_any (a : Option Addr) (n c : Nat) (A : Nat → Option Addr) (L C : Nat → Nat) (F : Nat → Nat → E) (w : World) (hn : n ≤ 9223372036854775807) (h : Cols w a n A L C F) :
    Calls Try.prog 40 #[.slice a n c] w fun e w' => e = .returned (.bool (pmayB n L)) ∧ Ext w w' := by
  have HH : Hid (Cols w a n A L C F) := h
  clear h
  go_enter Try.func40, Try.ntmps40
  go_wp2_with fail
  refine (mayData_any n _).mono ?_
  rintro e w' ⟨rfl, rfl⟩
  cases hS : fromTo 1 12 n
  · go_wp2_with fail
    go_ret
    exact ⟨ret_boolB (by unfold pmayB; rw [hS]; rfl), Ext.refl _⟩
  · go_wp2_with fail
    refine (alike_any a n c A L C F _ hn HH.out).mono ?_
    rintro e w1 ⟨rfl, hx⟩
    go_wp2_with fail
    go_ret
    exact ⟨ret_boolB (by unfold pmayB; rw [hS]; rfl), hx⟩
end Go.Proofs.Ythgbfakmkdifbaa
/-
  par.Encode at every list of columns and every number: what it tells, as plain functions; the world only grows.
-/
namespace Go.Proofs.Ythgbfakmkdifbaa
open Go.RowKit Go.Deep E
def encOk (n : Nat) (L : Nat → Nat) (p : Int) : Bool := pmayB n L && fromTo 1 3 p
def encN (n : Nat) (L : Nat → Nat) (p : Int) : Nat := if encOk n L p then p.toNat else 0
def encE (n : Nat) (L : Nat → Nat) (p : Int) : Int := if pmayB n L then if fromTo 1 3 p then 0 else 2 else 4
/-- what Encode told, and that its list is its own, with no room to spare -/
def EncRes (w w' : World) (e : Ending) (n m : Nat) (D : Nat → Nat → E) (err : Int) : Prop :=
  ColsRes w' e n m D err ∧ (0 < n → ∃ B G, e = .returned (.tuple #[.slice (some ⟨B, 0, none⟩) n n, .int .i64 err]) ∧ BldB w w' B n m n D G ∧ w.heap.size ≤ B)
theorem EncRes.none (w w' : World) (m : Nat) (D : Nat → Nat → E) (err : Int) : EncRes w w' (.returned (.tuple #[.slice none 0 0, .int .i64 err])) 0 m D err := ⟨ColsRes.none _ _ _ _, fun h => by omega⟩
set_option maxRecDepth 100000 in
set_option maxHeartbeats 800000 in
theorem Encode_own (a : Option Addr) (n c : Nat) (A : Nat → Option Addr) (L C : Nat → Nat) (F : Nat → Nat → E) (p : Int) (w : World) (hn : n ≤ 9223372036854775807) (h : Cols w a n A L C F) :
    Calls Try.prog 23 #[.slice a n c, .int .i64 p] w fun e w' => EncRes w w' e (encN n L p) (L 0) (enc n F) (encE n L p) ∧ Ext w w' := by
  have HH : Hid (Cols w a n A L C F) := h
  clear h
  go_enter Try.func23, Try.ntmps23
  go_wp2_with fail
  refine (pMay_any a n c A L C F _ hn HH.out).mono ?_
  rintro e w1 ⟨rfl, hx1⟩
  cases hM : pmayB n L
  · go_wp2_with fail
    go_ret2
    unfold encN encE encOk
    rw [hM]
    exact ⟨EncRes.none _ _ _ _ _, hx1⟩
  · go_wp2_with fail
    refine (mayParity_any p _).mono ?_
    rintro e w2 ⟨rfl, rfl⟩
    cases hP : fromTo 1 3 p
    · go_wp2_with fail
      go_ret2
      unfold encN encE encOk
      rw [hM, hP]
      exact ⟨EncRes.none _ _ _ _ _, hx1⟩
    · have hpb := fromTo_bd hP
      obtain ⟨q, rfl⟩ := Int.eq_ofNat_of_zero_le (show 0 ≤ p by omega)
      have hnb : 1 ≤ n ∧ n ≤ 12 ∧ alikeB n L = true := by
        unfold pmayB at hM
        rw [Bool.and_eq_true] at hM
        have := fromTo_bd hM.1
        exact ⟨by omega, by omega, hM.2⟩
      have HA : Hid (alikeB n L = true) := hnb.2.2
      have hm := (alikeB_of hnb.2.2 (r := 0) (by omega)).2
      obtain ⟨hn1, hn2, _⟩ := hnb
      have hmk := make_cols q (by omega)
      go_wp2_with fail
      clear hmk
      have h0 := BldB.start w2 q (L 0) (enc n F) (fun _ => 0)
      generalize w2.alloc (.cells (madeCells #[.slice none 0 0] q) 22) = w3 at *
      go_loopw [18] (fun i wr => ∃ k : Nat, k ≤ q ∧ i = .int .i64 k ∧ ∃ G, BldB w2 wr w2.heap.size q (L 0) k (enc n F) G) (fun i _ => q - (intOf i).toNat)
      case atStart => exact ⟨0, Nat.zero_le _, rfl, _, h0⟩
      case round =>
        clear h0
        obtain ⟨k, hk, rfl, G, hb⟩ := hrel
        by_cases hlt : k < q
        · have HB : Hid (BldB w2 wr w2.heap.size q (L 0) k (enc n F) G) := hb
          clear hb
          go_wp2_with fail
          refine (encoded_any a n c A L C F k (L 0) _ ⟨hn1, by omega⟩ (by omega) (by omega) (HH.out.ext (hx1.trans HB.out.ext)) (fun r hr => (alikeB_of HA.out hr).1)).mono ?_
          rintro e w4 ⟨rfl, hr4, hx4⟩
          have HB4 := HB.out.grow hx4
          have hck := HB4.top.cell hlt
          rw [if_neg (by omega)] at hck
          have hfk := HB4.top.frozen k
          have HN : Hid (BldB w2 (w4.setCell ⟨w2.heap.size, k, none⟩ (.slice (some ⟨wr.heap.size, 0, none⟩) (L 0) (L 0))) w2.heap.size q (L 0) (k + 1) (enc n F) (fun r => if r = k then wr.heap.size else G r)) := HB.out.put (Nat.le_refl _) hx4 (Nat.le_refl _) hr4
          clear HB4 hr4 HB
          go_wp2_with fail
          go_roundw
          case rel => exact ⟨k + 1, by omega, by go_num, _, HN.out⟩
          case measure => simp [intOf]; omega
        · obtain rfl : k = q := by omega
          have HR : Hid (EncRes w wr (.returned (.tuple #[.slice (some ⟨w2.heap.size, 0, none⟩) k k, .int .i64 0])) k (L 0) (enc n F) 0) := ⟨⟨_, _, _, _, rfl, hb.cols⟩, fun _ => ⟨_, G, rfl, hb.back hx1, hx1.size⟩⟩
          have hx5 := hx1.trans hb.ext
          clear hb
          go_wp2_with fail
          go_ret2
          unfold encN encE encOk
          rw [hM, hP]
          exact ⟨HR.out, hx5⟩
theorem Encode_any (a : Option Addr) (n c : Nat) (A : Nat → Option Addr) (L C : Nat → Nat) (F : Nat → Nat → E) (p : Int) (w : World) (hn : n ≤ 9223372036854775807) (h : Cols w a n A L C F) :
    Calls Try.prog 23 #[.slice a n c, .int .i64 p] w fun e w' => ColsRes w' e (encN n L p) (L 0) (enc n F) (encE n L p) ∧ Ext w w' :=
  (Encode_own a n c A L C F p w hn h).mono fun _ _ hh => ⟨hh.1.1, hh.2⟩
end Go.Proofs.Ythgbfakmkdifbaa
/-
  quicksetref.ParMay at every list of columns: the same plain answer; the memory stays as it was.
-/
namespace Go.Proofs.Ythgbfakmkdifbaa
open Go.RowKit E
set_option maxRecDepth 100000 in
set_option maxHeartbeats 400000 in
theorem ParMay_any (a : Option Addr) (n c : Nat) (A : Nat → Option Addr) (L C : Nat → Nat) (F : Nat → Nat → E) (w : World) (hn : n ≤ 9223372036854775807) (h : Cols w a n A L C F) :
    Calls Try.prog 44 #[.slice a n c] w fun e w' => e = .returned (.bool (pmayB n L)) ∧ w' = w := by
  have HH : Hid (Cols w a n A L C F) := h
  clear h
  by_cases h1 : (n : Int) < 1
  · go_enter Try.func44, Try.ntmps44
    go_wp2_with fail
    go_ret
    exact ⟨ret_boolB (by unfold pmayB; rw [fromTo_false (by omega)]; rfl), rfl⟩
  · by_cases h2 : (12 : Int) < n
    · go_enter Try.func44, Try.ntmps44
      go_wp2_with fail
      go_ret
      exact ⟨ret_boolB (by unfold pmayB; rw [fromTo_false (by omega)]; rfl), rfl⟩
    · obtain ⟨b, o, rfl, hc⟩ := HH.out.at (by omega)
      have hc0 := hc 0 (by omega)
      rw [Nat.add_zero] at hc0
      have HC : Hid (∀ r, r < n → w.cell? ⟨b, o + r, none⟩ = some (.slice (A r) (L r) (C r))) := hc
      have HF : Hid (fromTo 1 12 n = true) := fromTo_true (by omega)
      clear hc
      go_enter Try.func44, Try.ntmps44
      go_wp2_with fail
      go_loop [15] (fun i => ∃ k : Nat, k ≤ n ∧ i = .int .i64 k ∧ Hid (∀ j, j < k → colB L j = true)) (fun i => n - (intOf i).toNat)
      case atStart => exact ⟨0, Nat.zero_le _, rfl, fun j h => by omega⟩
      case round =>
        obtain ⟨k, hk, rfl, HI⟩ := hrel
        by_cases hlt : k < n
        · have hck := HC.out k hlt
          by_cases e1 : L k = L 0
          · have hB : ((L k : Int) != (L 0 : Int)) = false := by rw [e1]; simp
            have HE : Hid (L k = L 0) := e1
            clear e1
            by_cases e2 : (4096 : Int) < L k
            · go_wp2_with fail
              go_ret
              exact ⟨ret_boolB (by unfold pmayB; rw [alikeB_false hlt (by unfold colB; rw [decide_eq_false (p := L k ≤ 4096) (by omega)]; simp)]; simp), rfl⟩
            · go_wp2_with fail
              go_round
              case rel =>
                refine ⟨k + 1, by omega, by go_num, ?_⟩
                intro j hj
                by_cases e : j = k
                · rw [e]; unfold colB; rw [decide_eq_true HE.out, decide_eq_true (by omega)]; rfl
                · exact HI.out j (by omega)
              case measure => simp [intOf]; omega
          · have hB : ((L k : Int) != (L 0 : Int)) = true := by rw [bne_iff_ne]; omega
            have HE : Hid (¬ L k = L 0) := e1
            clear e1
            go_wp2_with fail
            go_ret
            exact ⟨ret_boolB (by unfold pmayB; rw [alikeB_false hlt (by unfold colB; rw [decide_eq_false HE.out]; rfl)]; simp), rfl⟩
        · go_wp2_with fail
          go_ret
          exact ⟨ret_boolB (by unfold pmayB; rw [HF.out, alikeB_true fun r hr => HI.out r (by omega)]; rfl), rfl⟩
end Go.Proofs.Ythgbfakmkdifbaa
