/-
  mat.matrix with a closure of which it is known what it tells: a matrix in new memory, each row in a block of its own; the world only grows.
-/
import Derived.Test.YthgbfakmkdifbaaChecked
import Derived.WalkKit
import Derived.BigQuiet
import Derived.Test.YthgbfakmkdifbaaMatRow
import Derived.Test.YthgbfakmkdifbaaMk
import Derived.Test.YthgbfakmkdifbaaMm
namespace Go.Proofs.Ythgbfakmkdifbaa
open Go.RowKit Go.Deep E
/-- a matrix in memory of its own: block B has the rows, row r lies in block G r -/
structure OwnM (w : World) (B n m : Nat) (G : Nat → Nat) (M : Nat → Nat → E) : Prop where
  top : w.rowIs B 30 n (fun r => .slice (some ⟨G r, 0, none⟩) m m)
  row : ∀ r, r < n → w.rowIs (G r) 3 m (evs (M r))
  apart : ∀ r, r < n → G r ≠ B
  inj : ∀ r s, r < n → s < n → G r = G s → r = s
theorem OwnM.ext {w w' : World} {B n m : Nat} {G : Nat → Nat} {M : Nat → Nat → E} (h : OwnM w B n m G M) (e : Ext w w') : OwnM w' B n m G M :=
  ⟨e.rowIs h.top, fun r hr => e.rowIs (h.row r hr), h.apart, h.inj⟩
theorem OwnM.mat {w : World} {B n m : Nat} {G : Nat → Nat} {M : Nat → Nat → E} (h : OwnM w B n m G M) : Mat w (some ⟨B, 0, none⟩) n (fun r => some ⟨G r, 0, none⟩) (fun _ => m) (fun _ => m) (fun r i => ev (M r i)) := fun r hr =>
  ⟨⟨B, 0, rfl, by rw [Nat.zero_add]; exact h.top.cell hr⟩, Ints.mk fun i hi => by rw [Nat.zero_add]; exact (h.row r hr).cell hi⟩
theorem OwnM.congr {w : World} {B n m : Nat} {G : Nat → Nat} {M M' : Nat → Nat → E} (h : OwnM w B n m G M) (e : ∀ r, r < n → ∀ i, i < m → M r i = M' r i) : OwnM w B n m G M' :=
  ⟨h.top, fun r hr => (h.row r hr).congr fun i hi => by unfold evs; rw [e r hr i hi], h.apart, h.inj⟩
/-- a matrix of which the first k rows are made -/
structure Bld (w0 wr : World) (B n m k : Nat) (Z : Nat → Nat → E) (G : Nat → Nat) : Prop where
  ext : Ext w0 wr
  top : wr.rowIs B 30 n (fun r => if r < k then .slice (some ⟨G r, 0, none⟩) m m else .slice none 0 0)
  row : ∀ r, r < k → wr.rowIs (G r) 3 m (evs (Z r))
  old : ∀ r, r < k → w0.heap.size ≤ G r ∧ G r ≠ B
  inj : ∀ r s, r < k → s < k → G r = G s → r = s
/-- .. and the next one has R -/
structure Inn (w0 wi : World) (B n m k : Nat) (R : Nat → E) (Z : Nat → Nat → E) (G : Nat → Nat) (g : Nat) : Prop where
  ext : Ext w0 wi
  top : wi.rowIs B 30 n (fun r => if r < k then .slice (some ⟨G r, 0, none⟩) m m else if r = k then .slice (some ⟨g, 0, none⟩) m m else .slice none 0 0)
  row : ∀ r, r < k → wi.rowIs (G r) 3 m (evs (Z r))
  cur : wi.rowIs g 3 m (evs R)
  old : ∀ r, r < k → w0.heap.size ≤ G r ∧ G r ≠ B ∧ G r ≠ g
  new : w0.heap.size ≤ g ∧ g ≠ B
  inj : ∀ r s, r < k → s < k → G r = G s → r = s
theorem Bld.start (w : World) (n m : Nat) (Z : Nat → Nat → E) (G : Nat → Nat) : Bld w (w.alloc (.cells (madeCells #[.slice none 0 0] n) 30)) w.heap.size n m 0 Z G :=
  ⟨(Ext.refl w).alloc _ _, (World.rowIs_made w (.slice none 0 0) n 30).congr fun i _ => by rw [if_neg (by omega)], fun r hr => by omega, fun r hr => by omega, fun r s hr => by omega⟩
theorem Bld.next {w0 wr : World} {B n m k : Nat} {Z : Nat → Nat → E} {G : Nat → Nat} (h : Bld w0 wr B n m k Z G) (hB : w0.heap.size ≤ B) :
    Inn w0 ((wr.setCell ⟨B, k, none⟩ (.slice (some ⟨wr.heap.size, 0, none⟩) m m)).alloc (.cells (madeCells #[.int .i64 0] m) 3)) B n m k (fun _ => ze) Z G wr.heap.size := by
  have hBlt := h.top.lt
  have hsz := nblk_setCell wr ⟨B, k, none⟩ (.slice (some ⟨wr.heap.size, 0, none⟩) m m)
  refine ⟨(h.ext.setCell hB _).alloc _ _, ?_, fun r hr => ((h.row r hr).setOther (h.old r hr).2 _).alloc _, ?_, fun r hr => ⟨(h.old r hr).1, (h.old r hr).2, ?_⟩, ⟨h.ext.size, by omega⟩, h.inj⟩
  · refine (((h.top.set k (.slice (some ⟨wr.heap.size, 0, none⟩) m m)).alloc _).congr fun i _ => ?_)
    by_cases e : i = k
    · subst e; rw [if_pos rfl, if_neg (by omega), if_pos rfl]
    · rw [if_neg e]
      by_cases l : i < k
      · rw [if_pos l, if_pos l]
      · rw [if_neg l, if_neg l, if_neg e]
  · have h1 := World.rowIs_made (wr.setCell ⟨B, k, none⟩ (.slice (some ⟨wr.heap.size, 0, none⟩) m m)) (.int .i64 0) m 3
    rw [hsz] at h1
    exact h1
  · have := (h.row r hr).lt; omega
theorem Inn.grow {w0 wi w' : World} {B n m k : Nat} {R : Nat → E} {Z : Nat → Nat → E} {G : Nat → Nat} {g : Nat} (h : Inn w0 wi B n m k R Z G g) (e : Ext wi w') : Inn w0 w' B n m k R Z G g :=
  ⟨h.ext.trans e, e.rowIs h.top, fun r hr => e.rowIs (h.row r hr), e.rowIs h.cur, h.old, h.new, h.inj⟩
theorem Inn.congr {w0 wi : World} {B n m k : Nat} {R R' : Nat → E} {Z : Nat → Nat → E} {G : Nat → Nat} {g : Nat} (h : Inn w0 wi B n m k R Z G g) (e : ∀ i, i < m → R i = R' i) : Inn w0 wi B n m k R' Z G g :=
  ⟨h.ext, h.top, h.row, h.cur.congr fun i hi => by unfold evs; rw [e i hi], h.old, h.new, h.inj⟩
theorem Inn.put {w0 wi : World} {B n m k : Nat} {R : Nat → E} {Z : Nat → Nat → E} {G : Nat → Nat} {g : Nat} (h : Inn w0 wi B n m k R Z G g) (j : Nat) (x : E) : Inn w0 (wi.setCell ⟨g, j, none⟩ (.int .i64 (ev x))) B n m k (fun i => if i = j then x else R i) Z G g := by
  refine ⟨h.ext.setCell h.new.1 _, h.top.setOther (a := ⟨g, j, none⟩) (fun e => h.new.2 e.symm) _, fun r hr => (h.row r hr).setOther (a := ⟨g, j, none⟩) (h.old r hr).2.2 _, ?_, h.old, h.new, h.inj⟩
  refine (h.cur.set j (.int .i64 (ev x))).congr fun i _ => ?_
  show (if i = j then Value.int .i64 (ev x) else .int .i64 (ev (R i))) = .int .i64 (ev (if i = j then x else R i))
  by_cases e : i = j
  · rw [if_pos e, if_pos e]
  · rw [if_neg e, if_neg e]
theorem upto_put (j : Nat) (f g : Nat → E) : (fun i => if i = j then g j else upto j f g i) = upto (j + 1) f g := by
  funext i
  unfold upto
  by_cases e : i = j
  · subst e; rw [if_pos rfl, if_pos (by omega)]
  · rw [if_neg e]
    by_cases l : i < j
    · rw [if_pos l, if_pos (by omega)]
    · rw [if_neg l, if_neg (by omega)]
theorem Inn.done {w0 wi : World} {B n m k : Nat} {Z : Nat → Nat → E} {G : Nat → Nat} {g : Nat} (h : Inn w0 wi B n m k (Z k) Z G g) : Bld w0 wi B n m (k + 1) Z (fun r => if r = k then g else G r) := by
  refine ⟨h.ext, h.top.congr fun i _ => ?_, fun r hr => ?_, fun r hr => ?_, fun r s hr hs e => ?_⟩
  · by_cases e : i = k
    · subst e; rw [if_neg (by omega), if_pos rfl, if_pos (by omega), if_pos rfl]
    · by_cases l : i < k
      · rw [if_pos l, if_pos (by omega), if_neg e]
      · rw [if_neg l, if_neg e, if_neg (by omega)]
  · by_cases e : r = k
    · subst e; rw [if_pos rfl]; exact h.cur
    · rw [if_neg e]; exact h.row r (by omega)
  · by_cases e : r = k
    · subst e; rw [if_pos rfl]; exact h.new
    · rw [if_neg e]; exact ⟨(h.old r (by omega)).1, (h.old r (by omega)).2.1⟩
  · by_cases er : r = k
    · by_cases es : s = k
      · omega
      · rw [if_pos er, if_neg es] at e; exact absurd e.symm (h.old s (by omega)).2.2
    · by_cases es : s = k
      · rw [if_neg er, if_pos es] at e; exact absurd e (h.old r (by omega)).2.2
      · rw [if_neg er, if_neg es] at e; exact h.inj r s (by omega) (by omega) e
theorem Bld.own {w0 wr : World} {B n m : Nat} {Z : Nat → Nat → E} {G : Nat → Nat} (h : Bld w0 wr B n m n Z G) : OwnM wr B n m G Z :=
  ⟨h.top.congr fun _ hi => if_pos hi, h.row, fun r hr => (h.old r hr).2, h.inj⟩
set_option maxRecDepth 100000 in
set_option maxHeartbeats 800000 in
theorem matrix_invert (cp cq : Value) (n m : Nat) (Z : Nat → Nat → E) (w : World) (hn : n ≤ 1073741824) (hm : m ≤ 1073741824)
    (hat : ∀ r, r < n → ∀ c, c < m → ∀ w', Ext w w' → Calls Try.prog 96 #[.int .i64 r, .int .i64 c, cp, cq] w' fun e w'' => e = .returned (.int .i64 (ev (Z r c))) ∧ Ext w' w'') :
    Calls Try.prog 95 #[.int .i64 n, .int .i64 m, .func (.func 96) #[] #[cp, cq]] w fun e w' => e = .returned (.slice (some ⟨w.heap.size, 0, none⟩) n n) ∧ ∃ G, Bld w w' w.heap.size n m n Z G := by
  have HA : Hid (∀ r, r < n → ∀ c, c < m → ∀ w', Ext w w' → Calls Try.prog 96 #[.int .i64 r, .int .i64 c, cp, cq] w' fun e w'' => e = .returned (.int .i64 (ev (Z r c))) ∧ Ext w' w'') := hat
  clear hat
  have hmk := make_rows n (by omega)
  have hmk' := make_ints m (by omega)
  go_enter Try.func95, Try.ntmps95
  go_wp2_with fail
  have h0 : Bld w (w.alloc (.cells (madeCells #[.slice none 0 0] n) 30)) w.heap.size n m 0 Z (fun _ => 0) := Bld.start w n m Z _
  generalize w.alloc (.cells (madeCells #[.slice none 0 0] n) 30) = w1 at *
  go_loopw [14] (fun i wr => ∃ k : Nat, k ≤ n ∧ i = .int .i64 k ∧ ∃ G, Bld w wr w.heap.size n m k Z G) (fun i _ => n - (intOf i).toNat)
  case atStart => exact ⟨0, Nat.zero_le _, rfl, _, h0⟩
  case round =>
    clear h0
    obtain ⟨k, hk, rfl, G, hb⟩ := hrel
    by_cases hlt : k < n
    · have hck := hb.top.cell hlt
      rw [if_neg (by omega)] at hck
      have hfk := hb.top.frozen k
      have hi := hb.next (Nat.le_refl _)
      have hlt2 := hb.top.lt
      have HI : Hid (Inn w ((wr.setCell ⟨w.heap.size, k, none⟩ (.slice (some ⟨wr.heap.size, 0, none⟩) m m)).alloc (.cells (madeCells #[.int .i64 0] m) 3)) w.heap.size n m k (fun _ => ze) Z G wr.heap.size) := hi
      clear hb hi
      go_wp2_with fail
      clear hmk hmk' hck hfk
      generalize (wr.setCell ⟨w.heap.size, k, none⟩ (.slice (some ⟨wr.heap.size, 0, none⟩) m m)).alloc (.cells (madeCells #[.int .i64 0] m) 3) = w2 at *
      generalize wr.heap.size = g at *
      go_loopw [27] (fun i wi => ∃ j : Nat, j ≤ m ∧ i = .int .i64 j ∧ Inn w wi w.heap.size n m k (upto j (fun _ => ze) (Z k)) Z G g) (fun i _ => m - (intOf i).toNat)
      case atStart => exact ⟨0, Nat.zero_le _, rfl, HI.out.congr fun i hi => (if_neg (by omega)).symm⟩
      case round =>
        obtain ⟨j, hj, rfl, hi⟩ := hrel
        by_cases hjt : j < m
        · have hck := hi.top.cell hlt
          rw [if_neg (by omega), if_pos rfl] at hck
          have hgx := fun x : Gr wr => x.ext.keeps hck
          have HI2 : Hid (Inn w wr w.heap.size n m k (upto j (fun _ => ze) (Z k)) Z G g) := hi
          clear hi hck HI
          go_wp2_with fail
          refine wp_region_grows 10 (by kernel_rfl) (by kernel_rfl) (fun hne => ?_)
          simp only [List.take_succ_cons, List.take_zero, List.drop_succ_cons, List.drop_zero]
          repeat (go_big_quiet_step (first | (go_at_call 96; exact Calls.grown (HA.out k hlt j hjt _ (HI2.out.ext.trans (Gr.ext _))))))
          refine wpQuiet_nil ?_
          intro w4 hw4
          obtain ⟨x, rfl⟩ := hw4
          have hi3 := HI2.out.grow x.ext
          have hcx := hi3.cur.cell hjt
          have hfx := hi3.cur.frozen j
          have hev : evs (upto j (fun _ => ze) (Z k)) j = .int .i64 0 := by unfold evs; rw [upto_at]; rfl
          rw [hev] at hcx
          have HI3 : Hid (Inn w x.w' w.heap.size n m k (upto j (fun _ => ze) (Z k)) Z G g) := hi3
          clear hi3 hgx hev
          go_wp2_with fail
          go_roundw
          case rel =>
            have h6 := HI3.out.put j (Z k j)
            rw [upto_put] at h6
            exact ⟨j + 1, by omega, by go_num, h6⟩
          case measure => simp [intOf]; omega
        · obtain rfl : j = m := by omega
          go_wp2_with fail
          go_roundw
          case rel => exact ⟨k + 1, by omega, by go_num, _, (hi.congr fun i hi => if_pos hi).done⟩
          case measure => simp [intOf]; omega
    · obtain rfl : k = n := by omega
      go_wp2_with fail
      go_ret
      exact ⟨rfl, G, hb⟩
end Go.Proofs.Ythgbfakmkdifbaa
