/-
  flet.More, flet.Of: the sums of words, at every four numbers and every list of bytes; the world only grows.
-/
import Derived.Test.YthgbfakmkdifbaaFletBase
import Derived.Test.YthgbfakmkdifbaaByb
namespace Go.Proofs.Ythgbfakmkdifbaa
open Go.RowKit Go.Deep E
theorem size8 : Try.prog.cellsOf 5 = 1 := by kernel_rfl
theorem results_cell2 {P : Program} {fn : Func} {p q : Tmp} {ty : TypeId} (h : fn.results = #[.cell p ty, .tmp q]) (tmps : Array Value) (w : World) (g : Nat) (t : TypeId) (cs : Array Value) (fr : Nat × Nat) (d : TypeDesc) (v : Value)
    (hp : tmps.getD p undef = .pointer (some ⟨g, 0, none⟩)) (hq : tmps.getD q undef = v) (hg : w.heap[g]? = some (.cells cs t fr))
    (hu : P.underlying ty = some d) (hd : (match d with | .struct _ | .array _ _ => true | _ => false) = true) (hi : (P.info? ty).map (·.size) = some cs.size) :
    (results fn tmps).run P w = .ok (.tuple #[.agg cs, v]) w := by
  have hp' : tmps[p]?.getD undef = .pointer (some ⟨g, 0, none⟩) := by simpa using hp
  have hq' : tmps[q]?.getD undef = v := by simpa using hq
  simp [results, h, hp', hq', asAddr, run_loadVar_row w g t ty cs fr d hg hu hd hi]
/-- the sums behind k words of bytes -/
def mo (s : Nat → Int) (B : Nat → E) : Nat → Nat → Int
  | 0 => s
  | k + 1 => stp (mo s B k) (wd (B (4 * k)) (B (4 * k + 1)) (B (4 * k + 2)) (B (4 * k + 3)))
def moreV (n : Nat) (s : Nat → Int) (B : Nat → E) (i : Nat) : Int := if n % 4 = 0 then mo s B (n / 4) i else 0
def moreE (n : Nat) : Int := if n % 4 = 0 then 0 else 4
set_option maxRecDepth 100000 in
set_option maxHeartbeats 800000 in
theorem More_any (s : Nat → Int) (a : Option Addr) (n c : Nat) (B : Nat → E) (w : World) (hn : n ≤ c) (hc : c ≤ 9223372036854775807) (h : Byts w a n B) :
    Calls Try.prog 36 #[.agg #[.int .i64 (s 0), .int .i64 (s 1), .int .i64 (s 2), .int .i64 (s 3)], .slice a n c] w fun e w' =>
      e = .returned (.tuple #[.agg #[.int .i64 (moreV n s B 0), .int .i64 (moreV n s B 1), .int .i64 (moreV n s B 2), .int .i64 (moreV n s B 3)], .int .i64 (moreE n)]) ∧ Ext w w' := by
  have HB : Hid (Byts w a n B) := h
  clear h
  go_enter Try.func36, Try.ntmps36
  by_cases h4 : n % 4 = 0
  · have hm : ((n : Int) % 4 != 0) = false := by simp; omega
    go_wp2_with fail
    refine (apart_any (s 0) (s 1) (s 2) (s 3) _).mono ?_
    rintro e w1 ⟨rfl, hx1⟩
    have X1 : Hid (Ext w w1) := (((Ext.refl _).alloc _ _).alloc _ _).trans hx1
    have S1 : Hid (w1.rowIs (w.heap.size + 1) 37 4 (ivs fun _ => 0)) := by
      have := row4_alloc (w.alloc (.cells #[.int .i64 (s 0), .int .i64 (s 1), .int .i64 (s 2), .int .i64 (s 3)] 37)) 37 (ivs fun _ => 0)
      simp only [World.size_alloc] at this
      exact hx1.rowIs this
    clear hx1
    go_wp2_with fail
    have X2 : Hid (Ext w (w1.alloc (.cells #[.int .i64 (s 0), .int .i64 (s 1), .int .i64 (s 2), .int .i64 (s 3)] 84))) := X1.out.alloc _ _
    have S2 : Hid ((w1.alloc (.cells #[.int .i64 (s 0), .int .i64 (s 1), .int .i64 (s 2), .int .i64 (s 3)] 84)).rowIs (w.heap.size + 1) 37 4 (ivs fun _ => 0)) := S1.out.alloc _
    have R2 : Hid ((w1.alloc (.cells #[.int .i64 (s 0), .int .i64 (s 1), .int .i64 (s 2), .int .i64 (s 3)] 84)).rowIs w1.heap.size 84 4 (ivs s)) := row4_alloc w1 84 (ivs s)
    have hz : w.heap.size + 1 < w1.heap.size := S1.out.lt
    generalize (w1.alloc (.cells #[.int .i64 (s 0), .int .i64 (s 1), .int .i64 (s 2), .int .i64 (s 3)] 84)) = w2 at *
    generalize w1.heap.size = g at *
    clear X1 S1
    go_loopw [7] (fun i wr => ∃ k : Nat, 4 * k ≤ n ∧ i = .int .i64 ((4 * k : Nat) : Int) ∧ Ext w wr ∧ wr.rowIs (w.heap.size + 1) 37 4 (ivs fun _ => 0) ∧ wr.rowIs g 84 4 (ivs (mo s B k))) (fun i _ => n - (intOf i).toNat)
    case atStart => exact ⟨0, by omega, rfl, X2.out, S2.out, R2.out⟩
    case round =>
      obtain ⟨k, hk, rfl, hx, hs, hr⟩ := hrel
      have HR : Hid (wr.rowIs g 84 4 (ivs (mo s B k))) := hr
      have HS : Hid (wr.rowIs (w.heap.size + 1) 37 4 (ivs fun _ => 0)) := hs
      clear hr hs X2 S2 R2
      by_cases hlt : 4 * k < n
      · obtain ⟨b, o, rfl, hcell⟩ := HB.out.at (by omega)
        have HC : Hid (∀ i, i < n → w.cell? ⟨b, o + i, none⟩ = some (.int .u8 (ev (B i)))) := hcell
        clear hcell
        obtain ⟨q, hq⟩ : ∃ q : Nat, q = 4 * k := ⟨_, rfl⟩
        have hsl := sub_lh (P := Try.prog) Try.underlying22 size8 (some ⟨b, o, none⟩) n c q 4 (by omega) (q : Int) ((q : Int) + 4) rfl (by omega)
        rw [subA_some (by omega)] at hsl
        rw [← hq] at hlt hk ⊢
        have HQ : Hid (q = 4 * k) := hq
        have hq4 : q + 4 ≤ n := by omega
        clear HB hq
        go_wp2_with fail
        have c0 := hx.keeps (HC.out q (by omega))
        have c1 := hx.keeps (HC.out (q + 1) (by omega))
        have c2 := hx.keeps (HC.out (q + 2) (by omega))
        have c3 := hx.keeps (HC.out (q + 3) (by omega))
        rw [← Nat.add_assoc] at c1 c2 c3
        refine (word_any b (o + q) (c - q) (B q) (B (q + 1)) (B (q + 2)) (B (q + 3)) wr c0 c1 c2 c3).mono ?_
        clear c0 c1 c2 c3
        rintro e w3 ⟨rfl, hx3⟩
        go_wp2_with fail
        refine (add_any g (mo s B k) (wd (B q) (B (q + 1)) (B (q + 2)) (B (q + 3))) w3 (hx3.rowIs HR.out)).mono ?_
        rintro e w4 ⟨rfl, hx4, hr4⟩
        have HR4 : Hid (w4.rowIs g 84 4 (ivs (mo s B (k + 1)))) := by
          have := HQ.out
          subst this
          exact hr4
        clear hr4 hsl
        go_wp2_with fail
        go_roundw
        case rel =>
          have hq := HQ.out
          exact ⟨k + 1, by omega, by rw [hq]; go_num, Wro.after (hx.trans hx3) hx4 (fun i hi => by omega), hx4.rowIs (hx3.rowIs HS.out) (by show ¬ _ = g; omega), HR4.out⟩
        case measure => simp [intOf]; omega
      · have e4 : 4 * k = n := by omega
        have ek : n / 4 = k := by omega
        have hheap := row4 HR.out
        have hin : (Try.prog.info? 84).map (·.size) = some 4 := by kernel_rfl
        have hin1 := in4 hin (ivs (mo s B k))
        go_wp2_with (refine wpList_load_row rfl 84 _ rfl g rfl 84 _ (0, 0) _ hheap Try.underlying84 rfl hin1 ?_)
        refine (together_any (mo s B k 0) (mo s B k 1) (mo s B k 2) (mo s B k 3) _).mono ?_
        rintro e w5 ⟨rfl, hx5⟩
        have hold := row4 (hx5.rowIs HS.out)
        have hinS : (Try.prog.info? 37).map (·.size) = some 4 := by kernel_rfl
        have hin2 := in4 hinS (ivs (mo s B k))
        have hone := one4 (mo s B k)
        go_wp2_with (refine wpList_store_row rfl 37 _ _ rfl (w.heap.size + 1) #[ivs (mo s B k) 0, ivs (mo s B k) 1, ivs (mo s B k) 2, ivs (mo s B k) 3] rfl rfl 37 _ hold hin2 rfl hone ?_)
        refine bodyPost_ret (results_cell2 rfl _ _ (w.heap.size + 1) 37 #[ivs (mo s B k) 0, ivs (mo s B k) 1, ivs (mo s B k) 2, ivs (mo s B k) 3] (0, 0) _ (.int .i64 0) rfl rfl (setRow_heap _ _ _ _ _ _ hold) Try.underlying37 rfl hin2) rfl ?_
        refine ⟨?_, (hx.trans hx5).grow ⟨rfl, rfl, rfl, by simp, fun k _ hk => setRow_other _ _ k _ (fun e => hk (by rw [e]))⟩ (fun k hk => by cases hk; show w.heap.size ≤ w.heap.size + 1; omega)⟩
        unfold moreV moreE
        simp only [if_pos h4, ek]
        rfl
  · have hm : ((n : Int) % 4 != 0) = true := by simp; omega
    go_wp2_with fail
    refine bodyPost_ret (v := .tuple #[.agg #[.int .i64 0, .int .i64 0, .int .i64 0, .int .i64 0], .int .i64 4]) (by simp [results, Try.results36, go_sem]) rfl ⟨?_, ?_⟩
    · unfold moreV moreE
      simp only [if_neg h4]
    · exact ((Ext.refl _).alloc _ _).alloc _ _
set_option maxRecDepth 100000 in
set_option maxHeartbeats 400000 in
theorem Of_any (a : Option Addr) (n c : Nat) (B : Nat → E) (w : World) (hn : n ≤ c) (hc : c ≤ 9223372036854775807) (h : Byts w a n B) :
    Calls Try.prog 19 #[.slice a n c] w fun e w' =>
      e = .returned (.tuple #[.agg #[.int .i64 (moreV n (fun _ => 0) B 0), .int .i64 (moreV n (fun _ => 0) B 1), .int .i64 (moreV n (fun _ => 0) B 2), .int .i64 (moreV n (fun _ => 0) B 3)], .int .i64 (moreE n)]) ∧ Ext w w' := by
  have HB : Hid (Byts w a n B) := h
  clear h
  go_enter Try.func19, Try.ntmps19
  go_wp2_with fail
  refine (More_any (fun _ => 0) a n c B _ hn hc (HB.out.ext ((Ext.refl _).alloc _ _))).mono ?_
  rintro e w1 ⟨rfl, hx1⟩
  have hold := row4 (hx1.rowIs (row4_alloc w 37 (ivs fun _ => 0)))
  have hinS : (Try.prog.info? 37).map (·.size) = some 4 := by kernel_rfl
  have hin2 := in4 hinS (ivs (moreV n (fun _ => 0) B))
  have hone := one4 (moreV n (fun _ => 0) B)
  go_wp2_with (refine wpList_store_row rfl 37 _ _ rfl w.heap.size #[ivs (moreV n (fun _ => 0) B) 0, ivs (moreV n (fun _ => 0) B) 1, ivs (moreV n (fun _ => 0) B) 2, ivs (moreV n (fun _ => 0) B) 3] rfl rfl 37 _ hold hin2 rfl hone ?_)
  refine bodyPost_ret (results_cell2 rfl _ _ w.heap.size 37 #[ivs (moreV n (fun _ => 0) B) 0, ivs (moreV n (fun _ => 0) B) 1, ivs (moreV n (fun _ => 0) B) 2, ivs (moreV n (fun _ => 0) B) 3] (0, 0) _ (.int .i64 (moreE n)) rfl rfl (setRow_heap _ _ _ _ _ _ hold) Try.underlying37 rfl hin2) rfl ?_
  exact ⟨rfl, (((Ext.refl _).alloc _ _).trans hx1).grow ⟨rfl, rfl, rfl, by simp, fun k _ hk => setRow_other _ _ k _ (fun e => hk (by rw [e]))⟩ (fun k hk => by cases hk; exact Nat.le_refl _)⟩
end Go.Proofs.Ythgbfakmkdifbaa
