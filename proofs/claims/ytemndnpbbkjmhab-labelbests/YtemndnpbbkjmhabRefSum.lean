/-
  The document's own sums: quicksetref.words, quicksetref.SumMore, quicksetref.SumJoin; the world only grows.
-/
import Derived.Test.YtemndnpbbkjmhabFletMore
import Derived.Test.YtemndnpbbkjmhabFletMath
import Derived.Test.YtemndnpbbkjmhabMk
import Derived.Test.YtemndnpbbkjmhabMm
import Derived.Test.YtemndnpbbkjmhabByb
import Derived.Test.YtemndnpbbkjmhabQuiets
import Derived.Deep.QuietTactic
namespace Go.Proofs.Ytemndnpbbkjmhab
open Go.RowKit Go.Deep E
/-- the k-th word of bytes -/
def wdAt (B : Nat → E) (k : Nat) : Int := wd (B (4 * k)) (B (4 * k + 1)) (B (4 * k + 2)) (B (4 * k + 3))
def wl (n : Nat) : Nat := if n % 4 = 0 then n / 4 else 0
theorem own_ints {w : World} {base : Nat} {t : TypeId} {v : Value} {n : Nat} {r : Nat → Int} (h : w.ownsRow base t 1 v n ((List.range n).map (ivs r))) : ∃ a c, v = .slice a n c ∧ Ints w a n r := by
  obtain ⟨a, c, rfl, k⟩ := own_slice h
  refine ⟨a, c, rfl, fun i hi => ?_⟩
  obtain ⟨b, o, h1, h2⟩ := k i hi
  refine ⟨b, o, h1, ?_⟩
  rw [h2]
  simp [hi, ivs]
set_option maxRecDepth 100000 in
set_option maxHeartbeats 1600000 in
theorem words_any (a : Option Addr) (n c : Nat) (B : Nat → E) (w : World) (hn : n ≤ 1099511627776) (h : Byts w a n B) :
    Calls Try.prog 37 #[.slice a n c] w fun e w' =>
      (∃ x cx, e = .returned (.tuple #[.slice x (wl n) cx, .bool (decide (n % 4 = 0))]) ∧ Ints w' x (wl n) (wdAt B) ∧ ∀ p, x = some p → w.heap.size ≤ p.block) ∧ Ext w w' := by
  have HB : Hid (Byts w a n B) := h
  clear h
  go_enter Try.func37, Try.ntmps37
  by_cases h4 : n % 4 = 0
  · have hm : ((n : Int) % 4 != 0) = false := by simp; omega
    go_wp2_with fail
    go_loopw [4, 5] (fun v i wr => ∃ k : Nat, 4 * k ≤ n ∧ i = .int .i64 ((4 * k : Nat) : Int) ∧ Ext w wr ∧ wr.ownsRow w.heap.size 3 1 v k ((List.range k).map (ivs (wdAt B)))) (fun _ i _ => n - (intOf i).toNat)
    case atStart => exact ⟨0, by omega, rfl, Ext.refl _, World.ownsRow_nil _ _ _ _⟩
    case round =>
      obtain ⟨k, hk, rfl, hx, hown⟩ := hrel
      have HO : Hid (wr.ownsRow w.heap.size 3 1 u4 k ((List.range k).map (ivs (wdAt B)))) := hown
      clear hown
      by_cases hlt : 4 * k < n
      · obtain ⟨b, o, rfl, hcell⟩ := HB.out.at (by omega)
        have HC : Hid (∀ i, i < n → w.cell? ⟨b, o + i, none⟩ = some (.int .u8 (ev (B i)))) := hcell
        clear hcell
        obtain ⟨q, hq⟩ : ∃ q : Nat, q = 4 * k := ⟨_, rfl⟩
        rw [← hq] at hlt hk ⊢
        have HQ : Hid (q = 4 * k) := hq
        have hq4 : q + 4 ≤ n := by omega
        have hkn : k ≤ n := by omega
        clear HB hq
        have g0 := fun y : Gr wr => (hx.trans y.ext).keeps (HC.out q (by omega))
        have g1 := fun y : Gr wr => (hx.trans y.ext).keeps (HC.out (q + 1) (by omega))
        have g2 := fun y : Gr wr => (hx.trans y.ext).keeps (HC.out (q + 2) (by omega))
        have g3 := fun y : Gr wr => (hx.trans y.ext).keeps (HC.out (q + 3) (by omega))
        have hi1 : ((q : Int) + 1).toNat = q + 1 := by omega
        have hi2 : ((q : Int) + 2).toNat = q + 2 := by omega
        have hi3 : ((q : Int) + 3).toNat = q + 3 := by omega
        have b0 := ev_bd (B q)
        have b1 := ev_bd (B (q + 1))
        have b2 := ev_bd (B (q + 2))
        have b3 := ev_bd (B (q + 3))
        go_wp2_with fail
        refine wp_region_grows1 30 (by kernel_rfl) (by kernel_rfl) rfl _ rfl (fun _ _ _ h => h) (fun hne => ?_)
        simp only [List.take_succ_cons, List.take_zero, List.drop_succ_cons, List.drop_zero]
        repeat (go_big_quiet_step (fail))
        refine wpQuiet_nil ?_
        intro w9 hw9
        obtain ⟨y, rfl⟩ := hw9
        clear g0 g1 g2 g3
        have HO9 : Hid (y.w'.ownsRow w.heap.size 3 1 u4 k ((List.range k).map (ivs (wdAt B)))) := own_ext HO.out y.ext
        have hx9 := hx.trans y.ext
        have hs9 := hx9.size
        go_wp2_with (first | (at_builtin; refine append_one y.w' rfl _ _ 69 rfl w.heap.size 3 (.int .i64 0) 8 Try.underlying69 infoInt rfl u4 k _ rfl HO9.out (.int .i64 _) 1 rfl rfl (by omega) (by omega) hs9 ?_) | go_in)
        intro v' w10 hown' hgrow
        have hx10 : Ext w w10 := (hx9.alloc _ _).grow hgrow fun b hb => (own_ge HO9.out hb).1
        have R1 : Hid (w10.ownsRow w.heap.size 3 1 v' (k + 1) ((List.range (k + 1)).map (ivs (wdAt B)))) := by
          rw [← range_map_succ]
          have hq := HQ.out
          subst hq
          exact hown'
        clear hown' hgrow HO HO9
        go_wp2_with fail
        go_roundw
        case rel =>
          have hq := HQ.out
          exact ⟨k + 1, by omega, by rw [hq]; go_num, hx10, R1.out⟩
        case measure => simp [intOf]; omega
      · have ek : wl n = k := by unfold wl; rw [if_pos h4]; omega
        have e4 : 4 * k = n := by omega
        have hge := @own_ge _ _ _ _ _ _ _ HO.out
        obtain ⟨x, cx, rfl, hI⟩ := own_ints HO.out
        have HG : Hid (∀ p, x = some p → w.heap.size ≤ p.block) := fun p hp => (hge (g := p.block) (by rw [hp]; rfl)).1
        clear hge
        go_wp2_with fail
        go_ret2
        refine ⟨⟨x, cx, ?_, by rw [ek]; exact hI, HG.out⟩, hx⟩
        rw [ek, decide_eq_true h4]
        rfl
  · have hm : ((n : Int) % 4 != 0) = true := by simp; omega
    go_wp2_with fail
    go_ret2
    have ek : wl n = 0 := by unfold wl; rw [if_neg h4]
    refine ⟨⟨none, 0, ?_, fun i hi => by omega, fun p hp => by cases hp⟩, Ext.refl _⟩
    rw [ek, decide_eq_false h4]
    rfl
theorem stp_put3 (w : World) (g : Nat) (t : TypeId) (f : Nat → Int) (x : Int) (h : w.rowIs g t 4 (ivs f)) :
    ((((w.setCell ⟨g, 0, none⟩ (.int .i64 (wrap64 (f 0 + x)))).setCell ⟨g, 1, none⟩ (.int .i64 (wrap64 (f 1 + wrap64 (f 0 + x))))).setCell ⟨g, 2, none⟩ (.int .i64 (wrap64 (f 2 + wrap64 (f 1 + wrap64 (f 0 + x)))))).setCell ⟨g, 3, none⟩ (.int .i64 (wrap64 (f 3 + wrap64 (f 2 + wrap64 (f 1 + wrap64 (f 0 + x))))))).rowIs g t 4 (ivs (stp f x)) := by
  refine ((((h.set 0 _).set 1 _).set 2 _).set 3 _).congr fun i hi => ?_
  match i, hi with
  | 0, _ => rfl
  | 1, _ => rfl
  | 2, _ => rfl
  | 3, _ => rfl
set_option maxRecDepth 100000 in
set_option maxHeartbeats 1600000 in
theorem SumMore_any (s : Nat → Int) (a : Option Addr) (n c : Nat) (B : Nat → E) (w : World) (hn : n ≤ 1099511627776) (h : Byts w a n B) :
    Calls Try.prog 24 #[.agg #[.int .i64 (s 0), .int .i64 (s 1), .int .i64 (s 2), .int .i64 (s 3)], .slice a n c] w fun e w' =>
      e = .returned (.tuple #[.agg #[.int .i64 (moreV n s B 0), .int .i64 (moreV n s B 1), .int .i64 (moreV n s B 2), .int .i64 (moreV n s B 3)], .int .i64 (moreE n)]) ∧ Ext w w' := by
  have HB : Hid (Byts w a n B) := h
  clear h
  go_enter Try.func24, Try.ntmps24
  go_wp2_with fail
  refine (words_any a n c B _ hn (HB.out.ext (((Ext.refl _).alloc _ _).alloc _ _))).mono ?_
  rintro e w1 ⟨⟨x, cx, rfl, hI, hge⟩, hx1⟩
  have HG : Hid (∀ p, x = some p → w.heap.size + 2 ≤ p.block) := fun p hp => by have := hge p hp; simp only [World.size_alloc] at this; exact this
  clear hge
  have HI : Hid (Ints w1 x (wl n) (wdAt B)) := hI
  have X1 : Hid (Ext w w1) := (((Ext.refl _).alloc _ _).alloc _ _).trans hx1
  have S1 : Hid (w1.rowIs (w.heap.size + 1) 24 4 (ivs fun _ => 0)) := by
    have := row4_alloc (w.alloc (.cells #[.int .i64 (s 0), .int .i64 (s 1), .int .i64 (s 2), .int .i64 (s 3)] 24)) 24 (ivs fun _ => 0)
    simp only [World.size_alloc] at this
    exact hx1.rowIs this
  have R1 : Hid (w1.rowIs w.heap.size 24 4 (ivs s)) := hx1.rowIs ((row4_alloc w 24 (ivs s)).alloc _)
  have hinS : (Try.prog.info? 24).map (·.size) = some 4 := by kernel_rfl
  clear hI hx1
  by_cases h4 : n % 4 = 0
  · have hd : decide (n % 4 = 0) = true := decide_eq_true h4
    rw [hd]
    have hwl : wl n ≤ 1099511627776 := by unfold wl; rw [if_pos h4]; omega
    go_wp2_with fail
    go_loopw [20] (fun i wr => ∃ k : Nat, k ≤ wl n ∧ i = .int .i64 k ∧ Wro (· = w.heap.size) w1 wr ∧ wr.rowIs w.heap.size 24 4 (ivs (mo s B k))) (fun i _ => wl n - (intOf i).toNat)
    case atStart => exact ⟨0, Nat.zero_le _, rfl, Wro.refl _ _, R1.out⟩
    case round =>
      obtain ⟨k, hk, rfl, hx, hr⟩ := hrel
      have HR : Hid (wr.rowIs w.heap.size 24 4 (ivs (mo s B k))) := hr
      clear hr
      by_cases hlt : k < wl n
      · obtain ⟨bx, ox, rfl, hcx⟩ := HI.out k hlt
        have hnb : ¬ bx = w.heap.size := fun e => by have h9 : w.heap.size + 2 ≤ bx := HG.out ⟨bx, ox, none⟩ rfl; omega
        have hcx' := hx.cell hcx hnb
        have h0 := HR.out.cell (i := 0) (by omega)
        have h1 := HR.out.cell (i := 1) (by omega)
        have h2 := HR.out.cell (i := 2) (by omega)
        have h3 := HR.out.cell (i := 3) (by omega)
        have f0 := HR.out.frozen 0
        have f1 := HR.out.frozen 1
        have f2 := HR.out.frozen 2
        have f3 := HR.out.frozen 3
        unfold ivs at h0 h1 h2 h3
        clear hcx
        go_wp2_with fail
        go_roundw
        case rel =>
          refine ⟨k + 1, by omega, by go_num, ?_, stp_put3 wr w.heap.size 24 (mo s B k) (wdAt B k) HR.out⟩
          exact (((hx.setCell (p := ⟨w.heap.size, 0, none⟩) rfl _).setCell (p := ⟨w.heap.size, 1, none⟩) rfl _).setCell (p := ⟨w.heap.size, 2, none⟩) rfl _).setCell (p := ⟨w.heap.size, 3, none⟩) rfl _
        case measure => simp [intOf]; omega
      · obtain rfl : k = wl n := by omega
        have ek : n / 4 = wl n := by unfold wl; rw [if_pos h4]
        have hheap := row4 HR.out
        have hold := row4 (hx.rowIs S1.out (by omega))
        have hin2 := in4 hinS (ivs (mo s B (wl n)))
        have hone := one4 (mo s B (wl n))
        go_wp2_with (first | (refine wpList_load_row rfl 24 _ rfl w.heap.size rfl 24 _ (0, 0) _ hheap Try.underlying24 rfl hin2 ?_) | (refine wpList_store_row rfl 24 _ _ rfl (w.heap.size + 1) #[ivs (mo s B (wl n)) 0, ivs (mo s B (wl n)) 1, ivs (mo s B (wl n)) 2, ivs (mo s B (wl n)) 3] rfl rfl 24 _ hold hin2 rfl hone ?_))
        refine bodyPost_ret (results_cell2 rfl _ _ (w.heap.size + 1) 24 #[ivs (mo s B (wl n)) 0, ivs (mo s B (wl n)) 1, ivs (mo s B (wl n)) 2, ivs (mo s B (wl n)) 3] (0, 0) _ (.int .i64 0) rfl rfl (setRow_heap _ _ _ _ _ _ hold) Try.underlying24 rfl hin2) rfl ?_
        refine ⟨?_, (Wro.after X1.out hx (fun i hi => by omega)).grow ⟨rfl, rfl, rfl, by simp, fun k _ hk => setRow_other _ _ k _ (fun e => hk (by rw [e]))⟩ (fun k hk => by cases hk; show w.heap.size ≤ w.heap.size + 1; omega)⟩
        unfold moreV moreE
        simp only [if_pos h4, ek]
        rfl
  · have hd : decide (n % 4 = 0) = false := decide_eq_false h4
    rw [hd]
    have hold := row4 S1.out
    have hin2 := in4 hinS (ivs fun _ => 0)
    have hone := one4 (fun _ => 0)
    go_wp2_with (refine wpList_store_row rfl 24 _ _ rfl (w.heap.size + 1) #[ivs (fun _ => 0) 0, ivs (fun _ => 0) 1, ivs (fun _ => 0) 2, ivs (fun _ => 0) 3] rfl rfl 24 _ hold hin2 rfl hone ?_)
    refine bodyPost_ret (results_cell2 rfl _ _ (w.heap.size + 1) 24 #[ivs (fun _ => 0) 0, ivs (fun _ => 0) 1, ivs (fun _ => 0) 2, ivs (fun _ => 0) 3] (0, 0) _ (.int .i64 4) rfl rfl (setRow_heap _ _ _ _ _ _ hold) Try.underlying24 rfl hin2) rfl ?_
    refine ⟨?_, X1.out.grow ⟨rfl, rfl, rfl, by simp, fun k _ hk => setRow_other _ _ k _ (fun e => hk (by rw [e]))⟩ (fun k hk => by cases hk; show w.heap.size ≤ w.heap.size + 1; omega)⟩
    unfold moreV moreE
    simp only [if_neg h4]
    rfl
theorem st0_put (w : World) (g : Nat) (t : TypeId) (f : Nat → Int) (h : w.rowIs g t 4 (ivs f)) :
    (((w.setCell ⟨g, 1, none⟩ (.int .i64 (wrap64 (f 1 + f 0)))).setCell ⟨g, 2, none⟩ (.int .i64 (wrap64 (f 2 + wrap64 (f 1 + f 0))))).setCell ⟨g, 3, none⟩ (.int .i64 (wrap64 (f 3 + wrap64 (f 2 + wrap64 (f 1 + f 0)))))).rowIs g t 4 (ivs (st0 f)) := by
  refine (((h.set 1 _).set 2 _).set 3 _).congr fun i hi => ?_
  match i, hi with
  | 0, _ => rfl
  | 1, _ => rfl
  | 2, _ => rfl
  | 3, _ => rfl
end Go.Proofs.Ytemndnpbbkjmhab
