/-
  mat.scale and mat.addTimes on rows of elements in memory: what the row is then; nothing else is written.
-/
import Derived.Test.YthgbfakmkdifbaaChecked
import Derived.WalkKit
import Derived.BigQuiet
import Derived.Test.YthgbfakmkdifbaaMatOps
import Derived.Test.YthgbfakmkdifbaaQuiets
import Derived.Test.YthgbfakmkdifbaaMm
namespace Go.Proofs.Ythgbfakmkdifbaa
open Go.RowKit Go.Deep E
/-- a row of n elements of which the first k have turned -/
def upto (k : Nat) (f g : Nat → E) (i : Nat) : E := if i < k then g i else f i
theorem upto_set (k : Nat) (f g : Nat → E) : (fun j => if j = k then Value.int .i64 (ev (g k)) else Value.int .i64 (ev (upto k f g j))) = fun j => Value.int .i64 (ev (upto (k + 1) f g j)) := by
  funext j
  unfold upto
  by_cases e : j = k
  · subst e; rw [if_pos rfl, if_pos (by omega)]
  · rw [if_neg e]
    by_cases l : j < k
    · rw [if_pos l, if_pos (by omega)]
    · rw [if_neg l, if_neg (by omega)]
theorem upto_at (k : Nat) (f g : Nat → E) : upto k f g k = f k := if_neg (by omega)
def evs (f : Nat → E) (i : Nat) : Value := .int .i64 (ev (f i))
set_option maxRecDepth 100000 in
set_option maxHeartbeats 800000 in
theorem addTimes_any (g h n c c' : Nat) (f : E) (R O : Nat → E) (w : World) (hn : n ≤ 9223372036854775807) (hgh : g ≠ h) (hr : w.rowIs g 3 n (evs R)) (ho : w.rowIs h 3 n (evs O)) :
    Calls Try.prog 106 #[.slice (some ⟨g, 0, none⟩) n c, .slice (some ⟨h, 0, none⟩) n c', .int .i64 (ev f)] w fun e w' => e = .returned (.tuple #[]) ∧ w'.rowIs g 3 n (evs fun i => ad (R i) (mu (O i) f)) ∧ Wro (· = g) w w' := by
  have HR : Hid (w.rowIs g 3 n (evs R)) := hr
  have HO : Hid (w.rowIs h 3 n (evs O)) := ho
  have HG : Hid (g ≠ h) := hgh
  clear hr ho hgh
  go_enter Try.func106, Try.ntmps106
  go_wp2_with fail
  go_loopw [10] (fun i wr => ∃ k : Nat, k ≤ n ∧ i = .int .i64 k ∧ wr.rowIs g 3 n (evs (upto k R fun i => ad (R i) (mu (O i) f))) ∧ Wro (· = g) w wr) (fun i _ => n - (intOf i).toNat)
  case atStart =>
    refine ⟨0, Nat.zero_le _, rfl, HR.out.congr fun i hi => ?_, Wro.refl _ _⟩
    unfold evs upto
    rw [if_neg (by omega)]
  case round =>
    obtain ⟨k, hk, rfl, hr, hx⟩ := hrel
    by_cases hlt : k < n
    · have hck : wr.cell? ⟨h, k, none⟩ = some (.int .i64 (ev (O k))) := hx.cell (HO.out.cell hlt) (fun e => HG.out e.symm)
      have hcr : wr.cell? ⟨g, k, none⟩ = some (.int .i64 (ev (R k))) := by rw [hr.cell hlt]; unfold evs; rw [upto_at]
      have hgx : ∀ x : Gr wr, x.w'.cell? ⟨g, k, none⟩ = some (.int .i64 (ev (R k))) := fun x => x.ext.keeps hcr
      have HR2 : Hid (wr.rowIs g 3 n (evs (upto k R fun i => ad (R i) (mu (O i) f)))) := hr
      clear hr hcr
      go_wp2_with fail
      refine wp_region_grows 11 (by kernel_rfl) (by kernel_rfl) (fun hne => ?_)
      simp only [List.take_succ_cons, List.take_zero, List.drop_succ_cons, List.drop_zero]
      repeat (go_big_quiet_step (first | (go_at_call 109; exact Calls.grown (times_any (O k) f _)) | (go_at_call 111; exact Calls.grown (plus_any (R k) (mu (O k) f) _))))
      refine wpQuiet_nil ?_
      intro w4 hw4
      obtain ⟨x, rfl⟩ := hw4
      have hcx := hgx x
      have hr3 := x.ext.rowIs HR2.out
      have hfx := hr3.frozen k
      have HR3 : Hid (x.w'.rowIs g 3 n (evs (upto k R fun i => ad (R i) (mu (O i) f)))) := hr3
      clear hr3 hgx
      go_wp2_with fail
      go_roundw
      case rel =>
        refine ⟨k + 1, by omega, by go_num, ?_, (hx.then_ext x.ext).setCell (p := ⟨g, k, none⟩) rfl _⟩
        have h6 := HR3.out.set k (.int .i64 (ev (ad (R k) (mu (O k) f))))
        have h7 := upto_set k R fun i => ad (R i) (mu (O i) f)
        unfold evs at h6
        rw [h7] at h6
        exact h6
      case measure => simp [intOf]; omega
    · obtain rfl : k = n := by omega
      go_wp2_with fail
      go_end0
      refine ⟨rfl, hr.congr fun i hi => ?_, hx⟩
      unfold evs upto
      rw [if_pos hi]
set_option maxRecDepth 100000 in
set_option maxHeartbeats 800000 in
theorem scale_any (g n c : Nat) (f : E) (R : Nat → E) (w : World) (hn : n ≤ 9223372036854775807) (hr : w.rowIs g 3 n (evs R)) :
    Calls Try.prog 104 #[.slice (some ⟨g, 0, none⟩) n c, .int .i64 (ev f)] w fun e w' => e = .returned (.tuple #[]) ∧ w'.rowIs g 3 n (evs fun i => mu (R i) f) ∧ Wro (· = g) w w' := by
  have HR : Hid (w.rowIs g 3 n (evs R)) := hr
  clear hr
  go_enter Try.func104, Try.ntmps104
  go_wp2_with fail
  go_loopw [8] (fun i wr => ∃ k : Nat, k ≤ n ∧ i = .int .i64 k ∧ wr.rowIs g 3 n (evs (upto k R fun i => mu (R i) f)) ∧ Wro (· = g) w wr) (fun i _ => n - (intOf i).toNat)
  case atStart =>
    refine ⟨0, Nat.zero_le _, rfl, HR.out.congr fun i hi => ?_, Wro.refl _ _⟩
    unfold evs upto
    rw [if_neg (by omega)]
  case round =>
    obtain ⟨k, hk, rfl, hr, hx⟩ := hrel
    by_cases hlt : k < n
    · have hcr : wr.cell? ⟨g, k, none⟩ = some (.int .i64 (ev (R k))) := by rw [hr.cell hlt]; unfold evs; rw [upto_at]
      have HR2 : Hid (wr.rowIs g 3 n (evs (upto k R fun i => mu (R i) f))) := hr
      clear hr
      go_wp2_with fail
      refine (times_any (R k) f _).mono ?_
      rintro e w4 ⟨rfl, hx4⟩
      have hcx := hx4.keeps hcr
      have hr3 := hx4.rowIs HR2.out
      have hfx := hr3.frozen k
      have HR3 : Hid (w4.rowIs g 3 n (evs (upto k R fun i => mu (R i) f))) := hr3
      clear hr3
      go_wp2_with fail
      go_roundw
      case rel =>
        refine ⟨k + 1, by omega, by go_num, ?_, (hx.then_ext hx4).setCell (p := ⟨g, k, none⟩) rfl _⟩
        have h6 := HR3.out.set k (.int .i64 (ev (mu (R k) f)))
        have h7 := upto_set k R fun i => mu (R i) f
        unfold evs at h6
        rw [h7] at h6
        exact h6
      case measure => simp [intOf]; omega
    · obtain rfl : k = n := by omega
      go_wp2_with fail
      go_end0
      refine ⟨rfl, hr.congr fun i hi => ?_, hx⟩
      unfold evs upto
      rw [if_pos hi]
end Go.Proofs.Ythgbfakmkdifbaa
