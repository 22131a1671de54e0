/-
  par.weight, par.addTimes, par.encoded: what a parity column is; nothing else is written.
-/
import Derived.Test.YthgbfakmkdifbaaChecked
import Derived.WalkKit
import Derived.Deep.WholeRow
import Derived.Deep.OwnRows
import Derived.Test.YthgbfakmkdifbaaParProd
import Derived.Test.YthgbfakmkdifbaaGfs
import Derived.Test.YthgbfakmkdifbaaAlg
import Derived.Test.YthgbfakmkdifbaaMatRow
import Derived.Test.YthgbfakmkdifbaaMk
namespace Go.Proofs.Ythgbfakmkdifbaa
open Go.RowKit Go.Deep E
/-- with what the data column i stands in the parity column j -/
def wt (j i : Nat) : E := pw (en 2) (j * i)
theorem powV_ev (x : E) (k : Nat) : powV (ev x) k = ev (pw x k) ∧ powE (ev x) k = 0 := by
  have hx := ev_bd x
  have hB : powB (ev x) k = true := by unfold powB; rw [elB_of _ (by omega) hx.2]; simp
  unfold powV powE
  rw [if_pos hB, if_pos hB]
  exact ⟨rfl, rfl⟩
theorem mul_bd {j i : Nat} (hj : j ≤ 16) (hi : i ≤ 16) : 0 ≤ (j : Int) * (i : Int) ∧ (j : Int) * (i : Int) ≤ 256 := by
  have h1 : j * i ≤ 16 * 16 := Nat.mul_le_mul hj hi
  have h2 : ((j * i : Nat) : Int) = (j : Int) * (i : Int) := Int.natCast_mul j i
  omega
set_option maxRecDepth 100000 in
theorem weight_any (j i : Nat) (w : World) (hj : j ≤ 16) (hi : i ≤ 16) :
    Calls Try.prog 64 #[.int .i64 j, .int .i64 i] w fun e w' => e = .returned (.int .i64 (ev (wt j i))) ∧ Ext w w' := by
  obtain ⟨hb1, hb2⟩ := mul_bd hj hi
  go_enter Try.func64, Try.ntmps64
  go_wp2_with fail
  have hE := Exp_any ((j : Int) * (i : Int)) w (by omega)
  have hm : (j : Int) * (i : Int) = ((j * i : Nat) : Int) := (Int.natCast_mul j i).symm
  rw [show (2 : Int) = ev (en 2) from rfl, hm, (powV_ev (en 2) (j * i)).1, (powV_ev (en 2) (j * i)).2, ← hm] at hE
  refine hE.mono ?_
  clear hE hm
  rintro e w' ⟨rfl, hx⟩
  go_wp2_with fail
  go_ret
  exact ⟨rfl, hx⟩
theorem upto_bset (k : Nat) (f g : Nat → E) : (fun j => if j = k then Value.int .u8 (ev (g k)) else bvs (upto k f g) j) = bvs (upto (k + 1) f g) := by
  funext j
  unfold bvs upto
  by_cases e : j = k
  · subst e; rw [if_pos rfl, if_pos (by omega)]
  · rw [if_neg e]
    by_cases l : j < k
    · rw [if_pos l, if_pos (by omega)]
    · rw [if_neg l, if_neg (by omega)]
set_option maxRecDepth 100000 in
set_option maxHeartbeats 800000 in
theorem paddTimes_any (g m mm cm : Nat) (a : Option Addr) (n co : Nat) (x : E) (R O : Nat → E) (w : World) (hm : m ≤ mm) (hn : n ≤ m) (hb : n ≤ 9223372036854775807) (hr : w.rowIs g 5 mm (bvs R)) (ho : Byts w a n O) (hap : 0 < n → ∀ p, a = some p → p.block ≠ g) :
    Calls Try.prog 63 #[.slice (some ⟨g, 0, none⟩) m cm, .slice a n co, .int .i64 (ev x)] w fun e w' => e = .returned (.tuple #[]) ∧ w'.rowIs g 5 mm (bvs (upto n R fun i => ad (R i) (mu x (O i)))) ∧ Wro (· = g) w w' := by
  have HR : Hid (w.rowIs g 5 mm (bvs R)) := hr
  have HO : Hid (Byts w a n O) := ho
  have HA : Hid (0 < n → ∀ p, a = some p → p.block ≠ g) := hap
  clear hr ho hap
  have hz := (zero_of_info zero256).1
  have hin : (Try.prog.info? 104).map (·.size) = some (prods x).size := by rw [prods_size]; exact (zero_of_info zero256).2
  have hone : (prods x).all (·.oneCell') = true := by
    rw [Array.all_eq_true_iff_forall_mem]
    intro v hv
    obtain ⟨i, hi, rfl⟩ := Array.getElem_of_mem hv
    simp [prods]; rfl
  have hsz : Z256.size = (prods x).size := by rw [prods_size, Z256_size]
  go_enter Try.func63, Try.ntmps63
  go_wp2_with fail
  refine (products_any x w).mono ?_
  rintro e w1 ⟨rfl, hx1⟩
  go_wp2_with (first | (refine wpList_store_row rfl 104 _ _ rfl w1.heap.size (prods x) rfl rfl 104 Z256 (heap_alloc_last w1 _) hin hsz hone ?_))
  rw [World.setRow_alloc_new]
  clear hz hin hone hsz
  have HX : Hid (Ext w (w1.alloc (.cells (prods x) 104))) := hx1.alloc _ _
  have HP : Hid (∀ i, i < 256 → (w1.alloc (.cells (prods x) 104)).cell? ⟨w1.heap.size, i, none⟩ = some (.int .u8 (ev (mu x (en i))))) := fun i hi => by
    rw [new_cell]; exact prods_at x i hi
  have HG : Hid (w1.heap.size ≠ g) := fun e => by
    have h1 := HR.out.lt
    have h2 := hx1.size
    omega
  generalize w1.alloc (.cells (prods x) 104) = w2 at *
  generalize w1.heap.size = pb at *
  go_loopw [13] (fun i wr => ∃ k : Nat, k ≤ n ∧ i = .int .i64 k ∧ wr.rowIs g 5 mm (bvs (upto k R fun i => ad (R i) (mu x (O i)))) ∧ Wro (· = g) w2 wr) (fun i _ => n - (intOf i).toNat)
  case atStart =>
    refine ⟨0, Nat.zero_le _, rfl, (HX.out.rowIs HR.out).congr fun i hi => ?_, Wro.refl _ _⟩
    unfold bvs upto
    rw [if_neg (by omega)]
  case round =>
    obtain ⟨k, hk, rfl, hr, hx⟩ := hrel
    by_cases hlt : k < n
    · obtain ⟨b, o, rfl, hck⟩ := (HO.out.ext HX.out) k hlt
      have hcb : wr.cell? ⟨b, o + k, none⟩ = some (.int .u8 (ev (O k))) := hx.cell hck (HA.out (by omega) ⟨b, o, none⟩ rfl)
      have hcr : wr.cell? ⟨g, k, none⟩ = some (.int .u8 (ev (R k))) := by rw [hr.cell (by omega)]; unfold bvs; rw [upto_at]
      have hcp : wr.cell? ⟨pb, (ev (O k)).toNat, none⟩ = some (.int .u8 (ev (mu x (O k)))) := by
        have h1 := hx.cell (HP.out (O k).val (O k).lt) HG.out
        rw [en_of_ev] at h1
        exact h1
      have hfr := hr.frozen k
      have hxor := xor8_ev (R k) (mu x (O k))
      have hbd := ev_bd (O k)
      have HR2 : Hid (wr.rowIs g 5 mm (bvs (upto k R fun i => ad (R i) (mu x (O i))))) := hr
      clear hr hck
      go_wp2_with fail
      go_region
      go_wp2_with fail
      go_roundw
      case rel =>
        refine ⟨k + 1, by omega, by go_num, ?_, (hx.setCell (p := ⟨g, k, none⟩) rfl _).drew⟩
        have h6 := HR2.out.set k (.int .u8 (ev (ad (R k) (mu x (O k)))))
        rw [upto_bset k R fun i => ad (R i) (mu x (O i))] at h6
        exact h6
      case measure => simp [intOf]; omega
    · obtain rfl : k = n := by omega
      go_wp2_with fail
      go_end0
      exact ⟨rfl, hr, (Wro.ext HX.out).trans hx⟩
/-- the parity column j of n data columns, place by place -/
def enc (n : Nat) (F : Nat → Nat → E) (j k : Nat) : E := sm n fun i => mu (wt j i) (F i k)
set_option maxRecDepth 100000 in
set_option maxHeartbeats 800000 in
theorem encoded_any (a : Option Addr) (n c : Nat) (A : Nat → Option Addr) (L C : Nat → Nat) (F : Nat → Nat → E) (j m : Nat) (w : World) (hn : 1 ≤ n ∧ n ≤ 16) (hj : j ≤ 16) (hm : m ≤ 1048576) (h : Cols w a n A L C F) (hL : ∀ r, r < n → L r = m) :
    Calls Try.prog 42 #[.slice a n c, .int .i64 j] w fun e w' => e = .returned (.slice (some ⟨w.heap.size, 0, none⟩) m m) ∧ w'.rowIs w.heap.size 5 m (bvs (enc n F j)) ∧ Ext w w' := by
  obtain ⟨b, o, rfl, hc⟩ := h.at (by omega)
  have hc0 := hc 0 (by omega)
  rw [hL 0 (by omega), Nat.add_zero] at hc0
  have HC : Hid (∀ r, r < n → w.cell? ⟨b, o + r, none⟩ = some (.slice (A r) m (C r))) := fun r hr => by rw [hc r hr, hL r hr]
  have HB : Hid (∀ r, r < n → Byts w (A r) m (F r)) := fun r hr => by have := h.col hr; rwa [hL r hr] at this
  clear h hc hL
  have hmk := make_bytes m (by omega)
  go_enter Try.func42, Try.ntmps42
  go_wp2_with fail
  clear hmk hc0
  have HR : Hid ((w.alloc (.cells (madeCells #[.int .u8 0] m) 5)).rowIs w.heap.size 5 m (bvs (enc 0 F j))) := World.rowIs_made w (.int .u8 0) m 5
  have HX : Hid (Ext w (w.alloc (.cells (madeCells #[.int .u8 0] m) 5))) := (Ext.refl w).alloc _ _
  generalize w.alloc (.cells (madeCells #[.int .u8 0] m) 5) = w1 at *
  go_loopw [15] (fun i wr => ∃ k : Nat, k ≤ n ∧ i = .int .i64 k ∧ wr.rowIs w.heap.size 5 m (bvs (enc k F j)) ∧ Ext w wr) (fun i _ => n - (intOf i).toNat)
  case atStart => exact ⟨0, Nat.zero_le _, rfl, HR.out, HX.out⟩
  case round =>
    clear HR HX
    obtain ⟨k, hk, rfl, hr, hx⟩ := hrel
    by_cases hlt : k < n
    · have hck := hx.keeps (HC.out k hlt)
      have HR : Hid (wr.rowIs w.heap.size 5 m (bvs (enc k F j))) := hr
      clear hr
      go_wp2_with fail
      refine (weight_any j k _ hj (by omega)).mono ?_
      rintro e w2 ⟨rfl, hx2⟩
      have HR2 : Hid (w2.rowIs w.heap.size 5 m (bvs (enc k F j))) := hx2.rowIs HR.out
      clear HR
      go_wp2_with fail
      refine (paddTimes_any w.heap.size m m m (A k) m (C k) (wt j k) (enc k F j) (F k) _ (Nat.le_refl _) (Nat.le_refl _) (by omega) HR2.out ((HB.out k hlt).ext (hx.trans hx2)) ?_).mono ?_
      · intro h0 p hp
        obtain ⟨b', o', hp', hc'⟩ := HB.out k hlt 0 h0
        rw [hp] at hp'
        cases hp'
        have := World.block_lt_of_cell? _ _ hc'
        show b' ≠ w.heap.size
        have h3 : b' < w.heap.size := this
        omega
      rintro e w3 ⟨rfl, hr3, hw3⟩
      have HR3 : Hid (w3.rowIs w.heap.size 5 m (bvs (enc (k + 1) F j))) := hr3.congr fun i hi => by
        unfold bvs upto
        rw [if_pos hi]
        rfl
      have HX3 : Hid (Ext w w3) := Wro.after (hx.trans hx2) hw3 (fun i hi => by rw [hi]; exact Nat.le_refl _)
      clear hr3 hw3
      go_wp2_with fail
      go_roundw
      case rel => exact ⟨k + 1, by omega, by go_num, HR3.out, HX3.out⟩
      case measure => simp [intOf]; omega
    · obtain rfl : k = n := by omega
      go_wp2_with fail
      go_ret
      exact ⟨rfl, hr, hx⟩
end Go.Proofs.Ythgbfakmkdifbaa
