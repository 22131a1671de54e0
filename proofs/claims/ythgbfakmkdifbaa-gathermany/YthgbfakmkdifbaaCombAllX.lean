/-
  comb.All's inner walk.
-/
import Derived.Test.YthgbfakmkdifbaaChecked
import Derived.WalkKit
import Derived.Test.YthgbfakmkdifbaaMk
import Derived.Test.YthgbfakmkdifbaaCombAllW
namespace Go.Proofs.Ythgbfakmkdifbaa
open Go.RowKit Go.Deep E
set_option maxRecDepth 100000 in
set_option maxHeartbeats 1600000 in
theorem leaf_any (w0 : World) (B bk bp bq bn bw Q K N : Nat) (l : Lay w0 B bk bp bq bn bw Q) (hK : K ≤ 12) (least : Nat) (w : World) (g : Nat → Nat) (v : Value) (vs : List Value) (L : List (List Nat)) (hL : L.length ≤ 924) (h : AllSt w0 B bk bp bq bn bw Q K N w g v vs L) :
    Calls Try.prog 66 #[.int .i64 K, .int .i64 least, .pointer (some ⟨bk, 0, none⟩), .pointer (some ⟨bp, 0, none⟩), .pointer (some ⟨bq, 0, none⟩), .pointer (some ⟨bn, 0, none⟩), .pointer (some ⟨bw, 0, none⟩)] w fun e w' => e = .returned (.tuple #[]) ∧ WalkRes w0 B bk bp bq bn bw Q K N g K (L ++ [(List.range K).map g]) w' := by
  have HS : Hid (AllSt w0 B bk bp bq bn bw Q K N w g v vs L) := h
  have HLy : Hid (Lay w0 B bk bp bq bn bw Q) := l
  clear h l
  have ck := cell_of_one HS.out.ck
  have cq := cell_of_one HS.out.cq
  have HKP : Hid (∀ w', Ext w w' → w'.cell? ⟨bp, 0, none⟩ = some v) := fun w' x => x.keeps (cell_of_one HS.out.cp)
  have cp := HKP.out w (Ext.refl w)
  have cpd := HKP.out w.drew (Ext.refl w).drew
  have HC : Hid (∀ w', Ext w w' → Calls Try.prog 67 #[.slice (some ⟨Q, 0, none⟩) K K] w' fun e w'' => ∃ u, e = .returned u ∧ CloneRes w' K (fun i => (g i : Int)) u w'') := fun w' x => Clone_ints ⟨Q, 0, none⟩ K K _ w' (by omega) (row_ints (HS.out.grow x).crow)
  have HFN : Hid ((Try.f67.name == "runtime.NumGoroutine") = false ∧ Try.f67.body.isNone = false) := ⟨by kernel_rfl, by kernel_rfl⟩
  obtain ⟨i0, hi0, hz0, hz1, hz2⟩ := info_parts infoIs
  have HI0 : Hid (Try.prog.info? 30 = some i0 ∧ i0.zero = some (.slice none 0 0) ∧ i0.size = 1 ∧ i0.bytes = 24) := ⟨hi0, hz0, hz1, hz2⟩
  clear hi0 hz0 hz1 hz2
  have hqb : L.length + 1 ≤ maxLen := by unfold maxLen; omega
  have HOW : Hid (∀ w' u, Ext w w' → (w'.alloc (.cells #[u] 30)).ownsRow w0.heap.size 30 1 v L.length vs) := fun w' u x => own_ext HS.out.ctop (x.alloc _ _)
  have HNW : Hid (∀ (w' : World) u j' y, [u][j']? = some y → (w'.alloc (.cells #[u] 30)).cell? ((⟨w'.heap.size, 0, none⟩ : Addr).add j') = some y) := by
    intro w' u j' y hj'
    match j', hj' with
    | 0, hj' => cases hj'; simp [Addr.add]
  have HONE : Hid (∀ (a : Option Addr) (n c : Nat), ∀ y ∈ [Value.slice a n c], y.oneCell' = true) := by
    intro a n c y hy; simp at hy; subst hy; rfl
  have HSZ : Hid (∀ w' u, Ext w w' → w0.heap.size ≤ (w'.alloc (.cells #[u] 30)).heap.size) := fun w' u x => by
    have h1 := HS.out.cext.size
    have h2 := x.size
    simp; omega
  have HNX : Hid (∀ w2 w5 (a : Option Addr) (c gg cap : Nat), Ext w w2 → w2.ownsRow w.heap.size 3 1 (.slice a K c) K ((List.range K).map (iV fun i => (g i : Int))) → w5.ownsRow w0.heap.size 30 1 (.slice (some ⟨gg, 0, none⟩) (L.length + 1) cap) (L.length + 1) (vs ++ [.slice a K c]) → (w2.alloc (.cells #[.slice a K c] 30)).grownBy w5 v.ownBlock → (v.ownBlock = some gg ∨ gg = w2.heap.size + 1) →
      WalkRes w0 B bk bp bq bn bw Q K N g K (L ++ [(List.range K).map g]) (w5.setCell ⟨bp, 0, none⟩ (.slice (some ⟨gg, 0, none⟩) (L.length + 1) cap)) ∧ w5.cell? ⟨bp, 0, none⟩ = some v ∧ w5.frozen? ⟨bp, 0, none⟩ = false) := fun w2 w5 a c gg cap x ho hown hg hat => by
    have h2 := HS.out.grow x
    have hu := own_mono ho HS.out.csize
    rw [range_gV] at hu
    have hadd := h2.add HLy.out (u := .slice a K c) (pk := (List.range K).map g) (v' := .slice (some ⟨gg, 0, none⟩) (L.length + 1) cap) (by simpa using hu) hown hg (by
      rcases hat with e | e
      · exact Or.inl e.symm
      · exact Or.inr fun b hb => by cases hb; show w2.heap.size ≤ gg; omega)
    exact ⟨⟨g, _, _, fun _ _ => rfl, hadd.1⟩, cell_of_one hadd.2, free_of_one hadd.2⟩
  go_enter Try.func66, Try.ntmps66
  go_wp2_with fail
  go_region_law (first
    | (refine step_callx (by rfl) 67 Try.func67 HFN.out.1 HFN.out.2 _ _ (by rfl) [.slice (some ⟨Q, 0, none⟩) K K] (by simp [Act.eval]) (fun u w'' => CloneRes w.drew K (fun i => (g i : Int)) u w'') (HC.out w.drew (Ext.refl w).drew) ?_; intro u w2 hR; obtain ⟨hou, hx2⟩ := hR; obtain ⟨au, cu, hue, _⟩ := own_slice hou; subst hue; have hx3 : Ext w w2 := (Ext.refl w).drew.trans hx2; have hc2 := HKP.out w2 hx3; have hc3 := HKP.out (w2.alloc (.cells #[.slice au K cu] 30)) (hx3.alloc _ _))
    | (refine step_append_lies _ (by rfl) (.tmp 13) (.tmp 16) 79 (by rfl) w0.heap.size 30 i0 (.slice none 0 0) 1 24 Try.underlying79 HI0.out.1 HI0.out.2.1 HI0.out.2.2.1 HI0.out.2.2.2 (by rfl) (by omega) v L.length vs (by simp [Act.eval]) (HOW.out w2 _ hx3) ⟨w2.heap.size, 0, none⟩ 1 1 [.slice au K cu] (by simp [Act.eval]) (by rfl) (HNW.out w2 _) (HONE.out _ _ _) (by omega) hqb (by omega) (HSZ.out w2 _ hx3) (w2.heap.size + 1) (by simp) ?_; intro gg cap w5 hown5 hgrow5 hat5 hlt5; have hnx := HNX.out w2 w5 au cu gg cap hx3 hou hown5 hgrow5 hat5; obtain ⟨hn1, hn2, hn3⟩ := hnx))
  all_goals
    have HN1 : Hid (WalkRes w0 B bk bp bq bn bw Q K N g K (L ++ [(List.range K).map g]) (w5.setCell ⟨bp, 0, none⟩ (.slice (some ⟨gg, 0, none⟩) (L.length + 1) cap))) := hn1
    clear hown5 hgrow5 hat5 hlt5 hn1 hn2 hn3
    go_wp2_with fail
    refine bodyPost_ret (results_none rfl _ _ _) rfl ?_
    exact ⟨rfl, HN1.out⟩
/-- what begins with the numbers laid -/
def pre (g : Nat → Nat) (place : Nat) (l : List (List Nat)) : List (List Nat) := l.map ((List.range place).map g ++ ·)
theorem pre_congr {g g' : Nat → Nat} {place : Nat} (h : ∀ x, x < place → g' x = g x) (l : List (List Nat)) : pre g' place l = pre g place l := by
  unfold pre
  rw [List.map_congr_left (l := List.range place) (f := g') (g := g) fun x hx => h x (List.mem_range.1 hx)]
theorem pre_step {g : Nat → Nat} {place a m d : Nat} : pre g place (pk (m + 1) (d + 1) a) = pre (fun x => if x = place then a else g x) (place + 1) (pk m d (a + 1)) ++ pre g place (pk m (d + 1) (a + 1)) := by
  show pre g place ((pk m d (a + 1)).map (a :: ·) ++ pk m (d + 1) (a + 1)) = _
  unfold pre
  rw [List.map_append, List.map_map]
  congr 1
  apply List.map_congr_left
  intro p _
  show (List.range place).map g ++ a :: p = _
  rw [List.range_succ, List.map_append]
  simp only [List.map_cons, List.map_nil, List.append_assoc, List.cons_append, List.nil_append, if_true]
  congr 1
  apply List.map_congr_left
  intro x hx
  have := List.mem_range.1 hx
  rw [if_neg (by omega)]
theorem pre_nil (g : Nat → Nat) (l : List (List Nat)) : pre g 0 l = l := by simp [pre]
theorem pre_len (g : Nat → Nat) (place : Nat) (l : List (List Nat)) : (pre g place l).length = l.length := by simp [pre]
set_option maxRecDepth 100000 in
set_option maxHeartbeats 1600000 in
theorem walk_any (w0 : World) (B bk bp bq bn bw Q K N : Nat) (l : Lay w0 B bk bp bq bn bw Q) (hN : N ≤ 12) (hKN : K ≤ N) : ∀ (d place least : Nat) (w : World) (g : Nat → Nat) (v : Value) (vs : List Value) (L : List (List Nat)), place + d = K → least ≤ N → L.length + cho (N - least) d ≤ 924 + 1 → AllSt w0 B bk bp bq bn bw Q K N w g v vs L →
    Calls Try.prog 66 #[.int .i64 place, .int .i64 least, .pointer (some ⟨bk, 0, none⟩), .pointer (some ⟨bp, 0, none⟩), .pointer (some ⟨bq, 0, none⟩), .pointer (some ⟨bn, 0, none⟩), .pointer (some ⟨bw, 0, none⟩)] w fun e w' => e = .returned (.tuple #[]) ∧ WalkRes w0 B bk bp bq bn bw Q K N g place (L ++ pre g place (pk (N - least) d least)) w' := by
  intro d
  induction d with
  | zero =>
    intro place least w g v vs L hp hl hlen h
    obtain rfl : K = place := by omega
    rw [cho_zero] at hlen
    have := leaf_any w0 B bk bp bq bn bw Q K N l (by omega) least w g v vs L (by omega) h
    rw [pk_zero]
    simpa [pre] using this
  | succ d ih =>
    intro place least w g v vs L hp hl hlen h
    have HIH : Hid (∀ (place least : Nat) (w : World) (g : Nat → Nat) (v : Value) (vs : List Value) (L : List (List Nat)), place + d = K → least ≤ N → L.length + cho (N - least) d ≤ 924 + 1 → AllSt w0 B bk bp bq bn bw Q K N w g v vs L →
      Calls Try.prog 66 #[.int .i64 place, .int .i64 least, .pointer (some ⟨bk, 0, none⟩), .pointer (some ⟨bp, 0, none⟩), .pointer (some ⟨bq, 0, none⟩), .pointer (some ⟨bn, 0, none⟩), .pointer (some ⟨bw, 0, none⟩)] w fun e w' => e = .returned (.tuple #[]) ∧ WalkRes w0 B bk bp bq bn bw Q K N g place (L ++ pre g place (pk (N - least) d least)) w') := ih
    have HS : Hid (AllSt w0 B bk bp bq bn bw Q K N w g v vs L) := h
    have HLy : Hid (Lay w0 B bk bp bq bn bw Q) := l
    have HLN : Hid (L.length + cho (N - least) (d + 1) ≤ 924 + 1) := hlen
    clear h l ih hlen
    have ck := cell_of_one HS.out.ck
    have hpk : place < K := by omega
    have hne : ((place : Int) == (K : Int)) = false := by rw [beq_eq_false_iff_ne]; omega
    go_enter Try.func66, Try.ntmps66
    go_wp2_with fail
    go_loopw [9] (fun a wr => ∃ ai : Nat, ai ≤ N ∧ a = .int .i64 ai ∧ ∃ g1 v1 vs1 L1, Hid (∀ x, x < place → g1 x = g x) ∧ AllSt w0 B bk bp bq bn bw Q K N wr g1 v1 vs1 L1 ∧ Hid (L1 ++ pre g place (pk (N - ai) (d + 1) ai) = L ++ pre g place (pk (N - least) (d + 1) least))) (fun a _ => N + 1 - (intOf a).toNat)
    case atStart => exact ⟨least, hl, rfl, g, v, vs, L, fun _ _ => rfl, HS.out, rfl⟩
    case round =>
      clear ck
      obtain ⟨ai, hai, rfl, g1, v1, vs1, L1, HG, hst, HT⟩ := hrel
      have HS1 : Hid (AllSt w0 B bk bp bq bn bw Q K N wr g1 v1 vs1 L1) := hst
      clear hst
      have ck := cell_of_one HS1.out.ck
      have cn := cell_of_one HS1.out.cn
      have cq := cell_of_one HS1.out.cq
      have hlen1 : L1.length + cho (N - ai) (d + 1) ≤ 924 + 1 := by
        have h1 := congrArg List.length HT.out
        rw [List.length_append, List.length_append, pre_len, pre_len, pk_len, pk_len] at h1
        have := HLN.out
        omega
      by_cases hlt : ai + (d + 1) ≤ N
      · have hrow := HS1.out.crow
        have hcell := hrow.cell hpk
        have hfr := hrow.frozen place
        have cw1 := cell_of_one (HS1.out.lay HLy.out place ai).cw
        unfold capt at cw1
        have HS2 : Hid (AllSt w0 B bk bp bq bn bw Q K N (wr.setCell ⟨Q, place, none⟩ (nV ai)) (fun x => if x = place then ai else g1 x) v1 vs1 L1) := HS1.out.lay HLy.out place ai
        obtain ⟨m, hm⟩ : ∃ m, N - ai = m + 1 := ⟨N - ai - 1, by omega⟩
        have hle2 : L1.length + cho (N - (ai + 1)) d ≤ 924 + 1 := by
          rw [hm] at hlen1
          unfold cho at hlen1
          rw [show N - (ai + 1) = m by omega]
          omega
        have HL2 : Hid (L1.length + cho (N - (ai + 1)) d ≤ 924 + 1) := hle2
        have HM : Hid (N - ai = m + 1) := hm
        clear hrow hlen1 hle2 hm
        unfold nV at cw1
        go_wp2_with (first | (go_at_call 66; refine (HIH.out (place + 1) (ai + 1) _ _ v1 vs1 L1 (by omega) (by omega) HL2.out HS2.out).mono ?_; rintro e w2 ⟨rfl, hres⟩; have HRES : Hid (WalkRes w0 B bk bp bq bn bw Q K N (fun x => if x = place then ai else g1 x) (place + 1) (L1 ++ pre (fun x => if x = place then ai else g1 x) (place + 1) (pk (N - (ai + 1)) d (ai + 1))) w2) := hres; clear hres))
        obtain ⟨g2, v2, vs2, hg2, hst2⟩ := HRES.out
        go_roundw
        case rel =>
          refine ⟨ai + 1, by omega, by go_num, g2, v2, vs2, _, fun x hx => ?_, hst2, ?_⟩
          · rw [hg2 x (by omega)]
            show (if x = place then ai else g1 x) = g x
            rw [if_neg (by omega), HG.out x hx]
          · show L1 ++ pre (fun x => if x = place then ai else g1 x) (place + 1) (pk (N - (ai + 1)) d (ai + 1)) ++ pre g place (pk (N - (ai + 1)) (d + 1) (ai + 1)) = _
            rw [← HT.out, HM.out, pre_step, show N - (ai + 1) = m by have := HM.out; omega, List.append_assoc]
            congr 2
            refine pre_congr (fun x hx => ?_) _
            by_cases e : x = place
            · rw [if_pos e, if_pos e]
            · rw [if_neg e, if_neg e, HG.out x (by omega)]
        case measure => simp [intOf]; omega
      · have HE : Hid (L1 = L ++ pre g place (pk (N - least) (d + 1) least)) := by
          have h1 := HT.out
          rw [pk_few (N - ai) (d + 1) ai (by omega)] at h1
          rw [show pre g place [] = [] from rfl, List.append_nil] at h1
          exact h1
        clear hlen1
        go_wp2_with fail
        go_end0
        refine ⟨rfl, g1, v1, vs1, HG.out, ?_⟩
        rw [← HE.out]
        exact HS1.out
theorem made_gV (w : World) (K : Nat) : (w.alloc (.cells (madeCells #[.int .i64 0] K) 3)).rowIs w.heap.size 3 K (gV fun _ => 0) := World.rowIs_made w (.int .i64 0) K 3
theorem room_rows (n : Nat) (hb : n ≤ 1073741824) (w : World) : (Instr.makeSlice 79 (.int .i64 0) (.int .i64 (n : Int))).run Try.prog w = .ok (.slice (some ⟨w.heap.size, 0, none⟩) 0 n) (w.alloc (.cells (madeCells #[.slice none 0 0] n) 30)) := by
  obtain ⟨i, hi, hz, hs, hbb⟩ := info_parts infoIs
  have hr := run_make (P := Try.prog) w 79 30 i (.slice none 0 0) Try.underlying79 hi hz .i64 .i64 0 n (Int.le_refl _) (by omega) (by rw [hbb]; omega) (by omega)
  simp only [Int.toNat_natCast, hs, Nat.mul_one, Int.toNat_zero] at hr
  exact hr
theorem new_at (w : World) (o : Obj) (k : Nat) (hk : w.heap.size = k) : (w.alloc o).heap[k]? = some o := by subst hk; exact heap_alloc_new w o
theorem ext_block {w w' : World} (x : Ext w w') {k : Nat} {o : Obj} (h : w.heap[k]? = some o) : w'.heap[k]? = some o := (x.below.block k (lt_of_block h)).trans h
theorem all_start (w : World) (N K c : Nat) (hc : c ≤ 924) :
    AllSt w (w.heap.size + 1 + 1 + 1 + 1 + 1 + 1 + 1) (w.heap.size + 1) (w.heap.size + 1 + 1 + 1) (w.heap.size + 1 + 1 + 1 + 1 + 1) w.heap.size (w.heap.size + 1 + 1 + 1 + 1 + 1 + 1) (w.heap.size + 1 + 1 + 1 + 1) K N
      (((((((w.alloc (.cells #[.int .i64 N] 3)).alloc (.cells #[.int .i64 K] 3)).alloc (.cells (madeCells #[.slice none 0 0] c) 30)).alloc (.cells #[.slice (some ⟨w.heap.size + 1 + 1, 0, none⟩) 0 c] 79)).alloc (.cells (madeCells #[.int .i64 0] K) 3)).alloc (.cells #[.slice (some ⟨w.heap.size + 1 + 1 + 1 + 1, 0, none⟩) K K] 30)).alloc (.cells #[.func (.func 66) #[] (capt (w.heap.size + 1) (w.heap.size + 1 + 1 + 1) (w.heap.size + 1 + 1 + 1 + 1 + 1) w.heap.size (w.heap.size + 1 + 1 + 1 + 1 + 1 + 1))] 93))
      (fun _ => 0) (.slice (some ⟨w.heap.size + 1 + 1, 0, none⟩) 0 c) [] [] := by
  have x (v : World) (cs : Array Value) (t : TypeId) : Ext v (v.alloc (.cells cs t)) := (Ext.refl v).alloc _ _
  have e1 : (w.alloc (.cells #[.int .i64 N] 3)).heap.size = w.heap.size + 1 := by simp
  generalize hw1 : w.alloc (.cells #[.int .i64 N] 3) = w1 at *
  have b1 : w1.heap[w.heap.size]? = some (.cells #[.int .i64 N] 3 (0, 0)) := by rw [← hw1]; exact heap_alloc_new w _
  have x1 : Ext w w1 := by rw [← hw1]; exact x w _ _
  clear hw1
  have e2 : (w1.alloc (.cells #[.int .i64 K] 3)).heap.size = w.heap.size + 1 + 1 := by simp [e1]
  have b2 := new_at w1 (.cells #[.int .i64 K] 3 (0, 0)) _ e1
  have x2 := x w1 #[.int .i64 K] 3
  generalize w1.alloc (.cells #[.int .i64 K] 3) = w2 at *
  have e3 : (w2.alloc (.cells (madeCells #[.slice none 0 0] c) 30)).heap.size = w.heap.size + 1 + 1 + 1 := by simp [e2]
  have x3 := x w2 (madeCells #[.slice none 0 0] c) 30
  have o3 : (w2.alloc (.cells (madeCells #[.slice none 0 0] c) 30)).ownsRow w.heap.size 30 1 (.slice (some ⟨w.heap.size + 1 + 1, 0, none⟩) 0 c) 0 [] := by
    rw [← e2]
    exact World.ownsRow_made w2 _ c (by omega) (by unfold maxLen; omega) (by simp [size_madeCells])
  generalize w2.alloc (.cells (madeCells #[.slice none 0 0] c) 30) = w3 at *
  have e4 : (w3.alloc (.cells #[.slice (some ⟨w.heap.size + 1 + 1, 0, none⟩) 0 c] 79)).heap.size = w.heap.size + 1 + 1 + 1 + 1 := by simp [e3]
  have b4 := new_at w3 (.cells #[.slice (some ⟨w.heap.size + 1 + 1, 0, none⟩) 0 c] 79 (0, 0)) _ e3
  have x4 := x w3 #[.slice (some ⟨w.heap.size + 1 + 1, 0, none⟩) 0 c] 79
  generalize w3.alloc (.cells #[.slice (some ⟨w.heap.size + 1 + 1, 0, none⟩) 0 c] 79) = w4 at *
  have e5 : (w4.alloc (.cells (madeCells #[.int .i64 0] K) 3)).heap.size = w.heap.size + 1 + 1 + 1 + 1 + 1 := by simp [e4]
  have r5 := made_gV w4 K
  rw [e4] at r5
  have x5 := x w4 (madeCells #[.int .i64 0] K) 3
  generalize w4.alloc (.cells (madeCells #[.int .i64 0] K) 3) = w5 at *
  have e6 : (w5.alloc (.cells #[.slice (some ⟨w.heap.size + 1 + 1 + 1 + 1, 0, none⟩) K K] 30)).heap.size = w.heap.size + 1 + 1 + 1 + 1 + 1 + 1 := by simp [e5]
  have b6 := new_at w5 (.cells #[.slice (some ⟨w.heap.size + 1 + 1 + 1 + 1, 0, none⟩) K K] 30 (0, 0)) _ e5
  have x6 := x w5 #[.slice (some ⟨w.heap.size + 1 + 1 + 1 + 1, 0, none⟩) K K] 30
  generalize w5.alloc (.cells #[.slice (some ⟨w.heap.size + 1 + 1 + 1 + 1, 0, none⟩) K K] 30) = w6 at *
  generalize hf : Value.func (.func 66) #[] (capt (w.heap.size + 1) (w.heap.size + 1 + 1 + 1) (w.heap.size + 1 + 1 + 1 + 1 + 1) w.heap.size (w.heap.size + 1 + 1 + 1 + 1 + 1 + 1)) = fv
  have e7 : (w6.alloc (.cells #[fv] 93)).heap.size = w.heap.size + 1 + 1 + 1 + 1 + 1 + 1 + 1 := by simp [e6]
  have b7 := new_at w6 (.cells #[fv] 93 (0, 0)) _ e6
  have x7 := x w6 #[fv] 93
  generalize w6.alloc (.cells #[fv] 93) = w7 at *
  subst hf
  refine ⟨((((((x1.trans x2).trans x3).trans x4).trans x5).trans x6).trans x7), by omega, ?_, ?_, ext_block x7 b6, b7, (x6.trans x7).rowIs r5, ext_block ((x5.trans x6).trans x7) b4, own_ext o3 (((x4.trans x5).trans x6).trans x7), ?_, rowsOk.nil _ _⟩
  · exact ext_block ((((x3.trans x4).trans x5).trans x6).trans x7) b2
  · exact ext_block (((((x2.trans x3).trans x4).trans x5).trans x6).trans x7) b1
  · intro e
    simp [Value.ownBlock] at e
theorem all_lay (w : World) : Lay w (w.heap.size + 1 + 1 + 1 + 1 + 1 + 1 + 1) (w.heap.size + 1) (w.heap.size + 1 + 1 + 1) (w.heap.size + 1 + 1 + 1 + 1 + 1) w.heap.size (w.heap.size + 1 + 1 + 1 + 1 + 1 + 1) (w.heap.size + 1 + 1 + 1 + 1) :=
  ⟨by omega, by omega, by omega, by omega, by omega, by omega, by omega, by omega⟩
def AllRes (w : World) (L : List (List Nat)) (e : Ending) (w' : World) : Prop := ∃ v vs, e = .returned (.tuple #[v, .int .i64 0]) ∧ Pks w w' v vs L
set_option maxRecDepth 100000 in
set_option maxHeartbeats 1600000 in
theorem All_ok (N K : Nat) (w : World) (hN : N ≤ 12) (hK : K ≤ N) :
    Calls Try.prog 49 #[.int .i64 N, .int .i64 K] w fun e w' => AllRes w (pk N K 0) e w' := by
  obtain ⟨c, hc⟩ : ∃ c, cho N K = c := ⟨_, rfl⟩
  have hcl := cho_le N (by omega) K (by omega)
  rw [hc] at hcl
  have HC : Hid (cho N K = c) := hc
  clear hc
  have hmk := make_ints K (by omega)
  have hmr := room_rows c (by omega)
  have hmf : ∀ (fn : Fn) (first cap : Array Value) (w : World), (Instr.makeFunc fn first cap).run Try.prog w = .ok (.func fn first cap) w := fun _ _ _ _ => rfl
  have hsf : ∀ (fn : Fn) (f c : Array Value) (a : Addr) (m : Mode) (w : World), (store a (.func fn f c) m).run Try.prog w = stored Try.prog w a (.func fn f c) m := fun fn f c a m w => run_store Try.prog w a (.func fn f c) m rfl
  go_enter Try.func49, Try.ntmps49
  go_wp2_with (first | (go_at_call 65; refine (Count_is N K c HC.out _ hN hK).mono ?_; rintro e w1 ⟨rfl, hw1⟩; have hw2 := hw1.symm; clear hw1; subst hw2))
  have HST : Hid (AllSt w _ _ _ _ _ _ _ K N _ _ _ _ _) := all_start w N K c hcl
  unfold capt at HST
  refine (walk_any w _ _ _ _ _ _ _ K N (all_lay w) hN hK K 0 0 _ _ _ _ _ (by omega) (by omega) (by rw [Nat.sub_zero, HC.out]; simp; omega) HST.out).mono ?_
  rintro e w2 ⟨rfl, hres⟩
  obtain ⟨g2, v2, vs2, _, hst⟩ := hres
  rw [pre_nil, List.nil_append, Nat.sub_zero] at hst
  obtain ⟨a2, c2, rfl, _⟩ := own_slice hst.ctop
  have hcp := cell_of_one hst.cp
  have HP : Hid (Pks w w2 (.slice a2 (pk N K 0).length c2) vs2 (pk N K 0)) := ⟨hst.cext, hst.ctop, hst.crows.mono (by omega)⟩
  clear hst HST
  go_wp2_with fail
  go_ret2
  exact ⟨_, _, rfl, HP.out⟩
set_option maxRecDepth 100000 in
theorem All_no (n k : Int) (w : World) (h : ¬ maysP n k) :
    Calls Try.prog 49 #[.int .i64 n, .int .i64 k] w fun e w' => e = .returned (.tuple #[.slice none 0 0, .int .i64 2]) ∧ Ext w w' := by
  have H : Hid (¬ maysP n k) := h
  clear h
  go_enter Try.func49, Try.ntmps49
  go_wp2_with (first | (go_at_call 65; refine (Count_not _ _ _ H.out).mono ?_; rintro e w1 ⟨rfl, hw1⟩; have hw2 := hw1.symm; clear hw1; subst hw2))
  go_ret2
  exact ⟨rfl, ((Ext.refl _).alloc _ _).alloc _ _⟩
end Go.Proofs.Ythgbfakmkdifbaa
