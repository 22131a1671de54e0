/-
  par.products: the products of an element with all others, an array; the world only grows.
-/
import Derived.Test.YthgbfakmkdifbaaChecked
import Derived.WalkKit
import Derived.Deep.WholeRow
import Derived.Deep.OwnRows
import Derived.Laws.BitsAllLaws
import Derived.Test.YthgbfakmkdifbaaMatOps
import Derived.Test.YthgbfakmkdifbaaByb
namespace Go.Proofs.Ythgbfakmkdifbaa
open Go.RowKit Go.Deep E
def Z256 : Array Value := Array.replicate 256 (.int .u8 0)
theorem zero256 : (Try.prog.info? 104).map (fun i => (i.zero, i.size)) = some (some (.agg Z256), 256) := by kernel_rfl
theorem Z256_size : Z256.size = 256 := by simp [Z256]
theorem xor8_ev (x y : E) : bits .xor .u8 (ev x) (ev y) = ev (ad x y) := u8_xor_nat x.val y.val x.lt y.lt
/-- the element of a number below 256 -/
def en (n : Nat) : E := of (n : Int)
theorem ev_en {n : Nat} (h : n < 256) : ev (en n) = (n : Int) := ev_of _ (by omega) (by omega)
theorem en_val {n : Nat} (h : n < 256) : (en n).val = n := by have := ev_en h; unfold ev at this; omega
theorem en_of_ev (x : E) : en x.val = x := by
  have : (ev x) = (x.val : Int) := rfl
  unfold en
  rw [← this, of_ev]
/-- the numbers 1, 2, 4 .. 256 -/
def Two (b : Nat) : Prop := b = 1 ∨ b = 2 ∨ b = 4 ∨ b = 8 ∨ b = 16 ∨ b = 32 ∨ b = 64 ∨ b = 128 ∨ b = 256
theorem Two.bd {b : Nat} (h : Two b) : 1 ≤ b ∧ b ≤ 256 := by unfold Two at h; omega
theorem Two.next {b : Nat} (h : Two b) (hb : b < 256) : Two (b * 2) := by unfold Two at *; omega
theorem Two.half {b : Nat} (h : Two b) (hb : b < 256) : b ≤ 128 := by unfold Two at *; omega
theorem two_xor {b r : Nat} (h : Two b) (hr : r < b) : b ^^^ r = b + r := by
  have key : ∀ b ∈ [1, 2, 4, 8, 16, 32, 64, 128, 256], ∀ r, r < b → b ^^^ r = b + r := by decide +kernel
  exact key b (by unfold Two at h; simp; omega) r hr
theorem en_add {b r : Nat} (h : Two b) (hb : b < 256) (hr : r < b) : en (b + r) = ad (en r) (en b) := by
  have h2 := h.half hb
  apply ext
  show (en (b + r)).val = (en r).val ^^^ (en b).val
  rw [en_val (by omega), en_val (by omega), en_val hb, Nat.xor_comm, two_xor h hr]
/-- the products with the first m elements; behind them 0 -/
def prodA (x : E) (m i : Nat) : Value := .int .u8 (ev (if i < m then mu x (en i) else ze))
theorem prodA_put {x : E} {b r : Nat} (h : Two b) (hb : b < 256) (hr : r < b) (i : Nat) :
    (if i = b + r then Value.int .u8 (ev (ad (mu x (en r)) (mu x (en b)))) else prodA x (b + r) i) = prodA x (b + (r + 1)) i := by
  unfold prodA
  by_cases e : i = b + r
  · subst e
    rw [if_pos rfl, if_pos (by omega), en_add h hb hr, mu_ad]
  · rw [if_neg e]
    by_cases l : i < b + r
    · rw [if_pos l, if_pos (by omega)]
    · rw [if_neg l, if_neg (by omega)]
def prods (x : E) : Array Value := Array.ofFn (n := 256) fun i => .int .u8 (ev (mu x (en i.val)))
theorem prods_size (x : E) : (prods x).size = 256 := by simp [prods]
theorem prods_at (x : E) (i : Nat) (h : i < 256) : (prods x)[i]? = some (.int .u8 (ev (mu x (en i)))) := by simp [prods, h]
theorem row_prods {w : World} {g : Nat} {t : TypeId} {x : E} (h : w.rowIs g t 256 (prodA x 256)) : w.heap[g]? = some (.cells (prods x) t (0, 0)) := by
  obtain ⟨c, h1, h2, h3⟩ := h
  have e : c = prods x := by
    apply Array.ext_getElem?
    intro i
    by_cases hi : i < 256
    · rw [h3 i hi, prods_at x i hi]
      unfold prodA
      rw [if_pos hi]
    · rw [Array.getElem?_eq_none (by omega), Array.getElem?_eq_none (by rw [prods_size]; omega)]
  rw [h1, e]
set_option maxRecDepth 100000 in
set_option maxHeartbeats 400000 in
theorem products_any (x : E) (w : World) : Calls Try.prog 79 #[.int .i64 (ev x)] w fun e w' => e = .returned (.agg (prods x)) ∧ Ext w w' := by
  have hz := (zero_of_info zero256).1
  go_enter Try.func79, Try.ntmps79
  go_wp2_with fail
  clear hz
  have R0 : Hid (((w.alloc (.cells Z256 104)).alloc (.cells Z256 104)).rowIs (w.heap.size + 1) 104 256 (prodA x 1)) := by
    have h := World.rowIs_alloc (w.alloc (.cells Z256 104)) Z256 104 (prodA x 1) fun i hi => ?_
    · rw [Z256_size] at h
      simp only [World.size_alloc] at h
      exact h
    · rw [Z256_size] at hi
      unfold prodA
      by_cases e : i < 1
      · rw [if_pos e, show i = 0 by omega, show en 0 = ze from rfl, mu_ze]; simp [Z256]; rfl
      · rw [if_neg e]; simp [Z256, hi]; rfl
  have S0 : Hid (((w.alloc (.cells Z256 104)).alloc (.cells Z256 104)).rowIs w.heap.size 104 256 (fun _ => .int .u8 0)) := by
    have h := World.rowIs_alloc w Z256 104 (fun _ => .int .u8 0) fun i hi => ?_
    · rw [Z256_size] at h
      exact h.alloc _
    · rw [Z256_size] at hi
      simp [Z256, hi]
  have E0 : Hid (Ext w ((w.alloc (.cells Z256 104)).alloc (.cells Z256 104))) := ((Ext.refl w).alloc _ _).alloc _ _
  generalize (w.alloc (.cells Z256 104)).alloc (.cells Z256 104) = w0 at *
  go_loopw [4] (fun i wr => ∃ b : Nat, i = .int .i64 b ∧ Two b ∧ Ext w wr ∧ wr.rowIs (w.heap.size + 1) 104 256 (prodA x b) ∧ wr.rowIs w.heap.size 104 256 (fun _ => .int .u8 0)) (fun i _ => 256 - (intOf i).toNat)
  case atStart => exact ⟨1, rfl, Or.inl rfl, E0.out, R0.out, S0.out⟩
  case round =>
    clear R0 S0 E0
    obtain ⟨b, rfl, h2, hx, hr, hs⟩ := hrel
    have hbd := h2.bd
    have H2 : Hid (Two b) := h2
    have HR : Hid (wr.rowIs (w.heap.size + 1) 104 256 (prodA x b)) := hr
    have HS : Hid (wr.rowIs w.heap.size 104 256 (fun _ => .int .u8 0)) := hs
    clear h2 hr hs
    by_cases hlt : b < 256
    · go_wp2_with fail
      have hmul := Mul_any (ev x) (b : Int) wr
      rw [← ev_en hlt, mulV_ev, rangeE_ev, ev_en hlt] at hmul
      refine hmul.mono ?_
      rintro e w1 ⟨rfl, hx1⟩
      have HR1 : Hid (w1.rowIs (w.heap.size + 1) 104 256 (prodA x (b + 0))) := hx1.rowIs HR.out
      have HS1 : Hid (w1.rowIs w.heap.size 104 256 (fun _ => .int .u8 0)) := hx1.rowIs HS.out
      have hx2 := hx.trans hx1
      clear HR HS hmul
      have hp := ev_bd (mu x (en b))
      go_wp2_with fail
      go_loopw [19] (fun i wi => ∃ r : Nat, r ≤ b ∧ i = .int .i64 r ∧ Ext w wi ∧ wi.rowIs (w.heap.size + 1) 104 256 (prodA x (b + r)) ∧ wi.rowIs w.heap.size 104 256 (fun _ => .int .u8 0)) (fun i _ => b - (intOf i).toNat)
      case atStart => exact ⟨0, Nat.zero_le _, rfl, hx2, HR1.out, HS1.out⟩
      case round =>
        clear HR1 HS1
        obtain ⟨r, hr, rfl, hxr, hrow, hres⟩ := hrel
        have HR : Hid (wr.rowIs (w.heap.size + 1) 104 256 (prodA x (b + r))) := hrow
        have HS : Hid (wr.rowIs w.heap.size 104 256 (fun _ => .int .u8 0)) := hres
        have hh := H2.out.half hlt
        clear hrow hres
        by_cases hrt : r < b
        · have hc1 := HR.out.cell (i := r) (by omega)
          have hc2 := HR.out.cell (i := b + r) (by omega)
          have hf2 := HR.out.frozen (b + r)
          rw [show prodA x (b + r) r = .int .u8 (ev (mu x (en r))) by unfold prodA; rw [if_pos (by omega)]] at hc1
          have hw8 : IntKind.u8.wrap (ev (mu x (en b))) = ev (mu x (en b)) := by rw [IntKind.wrap_u8]; omega
          have hxor := xor8_ev (mu x (en r)) (mu x (en b))
          have hbr : ((b : Int) + (r : Int)).toNat = b + r := by omega
          go_wp2_with fail
          go_roundw
          case rel =>
            refine ⟨r + 1, by omega, by go_num, hxr.setCell (by show w.heap.size ≤ w.heap.size + 1; omega) _, ?_, HS.out.setOther (a := ⟨w.heap.size + 1, b + r, none⟩) (by show w.heap.size ≠ w.heap.size + 1; omega) _⟩
            exact (HR.out.set (b + r) _).congr fun i _ => prodA_put H2.out hlt hrt i
          case measure => simp [intOf]; omega
        · obtain rfl : r = b := by omega
          go_wp2_with fail
          go_roundw
          case rel =>
            refine ⟨r * 2, by go_num, H2.out.next hlt, hxr, ?_, HS.out⟩
            have := HR.out
            rwa [show r + r = r * 2 by omega] at this
          case measure => simp [intOf]; omega
    · obtain rfl : b = 256 := by omega
      have hheap := row_prods HR.out
      obtain ⟨old, ho1, ho2, _⟩ := HS.out
      have hin : (Try.prog.info? 104).map (·.size) = some (prods x).size := by rw [prods_size]; exact (zero_of_info zero256).2
      have hone : (prods x).all (·.oneCell') = true := by
        rw [Array.all_eq_true_iff_forall_mem]
        intro v hv
        obtain ⟨i, hi, rfl⟩ := Array.getElem_of_mem hv
        simp [prods]; rfl
      have hsz : old.size = (prods x).size := by rw [prods_size, ho2]
      go_wp2_with (first | (refine wpList_load_row rfl 104 _ rfl (w.heap.size + 1) rfl 104 (prods x) (0, 0) _ hheap Try.underlying104 rfl hin ?_) | (refine wpList_store_row rfl 104 _ _ rfl w.heap.size (prods x) rfl rfl 104 old ho1 hin hsz hone ?_))
      refine bodyPost_ret (results_cell_row rfl _ _ w.heap.size 104 (prods x) (0, 0) _ rfl (setRow_heap _ _ old _ _ _ ho1) Try.underlying104 rfl hin) rfl ?_
      exact ⟨rfl, hx.grow ⟨rfl, rfl, rfl, by simp, fun k _ hk => setRow_other _ _ k _ (fun e => hk (by rw [e]))⟩ (fun k hk => by cases hk; exact Nat.le_refl _)⟩
end Go.Proofs.Ythgbfakmkdifbaa
