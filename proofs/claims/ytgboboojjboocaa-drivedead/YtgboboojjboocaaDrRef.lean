/-
  drive: which jobs are refused, and why.
-/
import Derived.Test.YtgboboojjboocaaChecked
import Derived.WalkKit
import Derived.BigQuiet
import Derived.Deep.QuietTactic
import Derived.Test.YtgboboojjboocaaDrMem
namespace Go.Proofs.Ytgboboojjboocaa
open Go.RowKit Go.Deep E
def namB (k : Int) : Bool := k == 1 || k == 2 || k == 5 || k == 6
def briB (k : Int) : Bool := k == 1 || k == 6
/-- why a job is refused, or 0 -/
def refC (n : Nat) (dead : Bool) (k at' : Int) (l : Nat) : Int :=
  if k < 1 ∨ 8 < k then 3 else if dead = true ∧ k ≠ 8 then 13 else if namB k = true ∧ (at' < 0 ∨ (n : Int) ≤ at') then 2 else if briB k = true ∧ l ≠ 128 then 1 else 0
set_option maxRecDepth 100000 in
set_option maxHeartbeats 400000 in
theorem names_any (k : Int) (w : World) : Calls Try.prog 26 #[.int .i64 k] w fun e w' => e = .returned (.bool (namB k)) ∧ w' = w := by
  unfold namB
  by_cases h1 : k = 1
  · subst h1
    go_enter Try.func26, Try.ntmps26
    go_wp2_with fail
    go_ret
    exact ⟨rfl, rfl⟩
  · have b1 : (k == 1) = false := by rw [beq_eq_false_iff_ne]; exact h1
    by_cases h2 : k = 2
    · subst h2
      clear h1 b1
      go_enter Try.func26, Try.ntmps26
      go_wp2_with fail
      go_ret
      exact ⟨rfl, rfl⟩
    · have b2 : (k == 2) = false := by rw [beq_eq_false_iff_ne]; exact h2
      by_cases h5 : k = 5
      · subst h5
        clear h1 b1 h2 b2
        go_enter Try.func26, Try.ntmps26
        go_wp2_with fail
        go_ret
        exact ⟨rfl, rfl⟩
      · have b5 : (k == 5) = false := by rw [beq_eq_false_iff_ne]; exact h5
        clear h1 h2 h5
        go_enter Try.func26, Try.ntmps26
        go_wp2_with fail
        go_ret
        exact ⟨by rw [b1, b2, b5]; simp, rfl⟩
set_option maxRecDepth 100000 in
set_option maxHeartbeats 400000 in
theorem brings_any (k : Int) (w : World) : Calls Try.prog 27 #[.int .i64 k] w fun e w' => e = .returned (.bool (briB k)) ∧ w' = w := by
  unfold briB
  by_cases h1 : k = 1
  · subst h1
    go_enter Try.func27, Try.ntmps27
    go_wp2_with fail
    go_ret
    exact ⟨rfl, rfl⟩
  · have b1 : (k == 1) = false := by rw [beq_eq_false_iff_ne]; exact h1
    clear h1
    go_enter Try.func27, Try.ntmps27
    go_wp2_with fail
    go_ret
    exact ⟨by rw [b1]; simp, rfl⟩
set_option maxRecDepth 100000 in
set_option maxHeartbeats 1600000 in
theorem refuses_any (base gd gp n : Nat) (PL : List ((Nat → E) × Bool)) (W : List (Nat × (Nat → E))) (wv : Value) (dead : Bool) (k at' kp : Int) (ad : Option Addr) (l c : Nat) (w : World) (_hn : n ≤ 512) (_hl : l ≤ 9223372036854775807) (h : DSt w base gd gp n PL W wv dead) :
    Calls Try.prog 20 #[.pointer (some ⟨gd, 0, none⟩), .agg #[.int .i64 k, .int .i64 at', .int .i64 kp, .slice ad l c]] w fun e w' => e = .returned (.int .i64 (refC n dead k at' l)) ∧ Ext w w' := by
  obtain ⟨b0, _, b2, _⟩ := cells_drive h.box
  have f0 := alloc_keeps b0 (.cells #[.int .i64 k, .int .i64 at', .int .i64 kp, .slice ad l c] 34)
  have f2 := alloc_keeps b2 (.cells #[.int .i64 k, .int .i64 at', .int .i64 kp, .slice ad l c] 34)
  clear b0 b2 h
  by_cases k1 : k < 1
  · have HR : Hid (refC n dead k at' l = 3) := by show _ = _; unfold refC; rw [if_pos (Or.inl k1)]
    go_enter Try.func20, Try.ntmps20
    go_wp2_with fail
    go_ret
    exact ⟨by rw [HR.out]; rfl, (Ext.refl w).alloc _ _⟩
  · by_cases k8 : 8 < k
    · have HR : Hid (refC n dead k at' l = 3) := by show _ = _; unfold refC; rw [if_pos (Or.inr k8)]
      go_enter Try.func20, Try.ntmps20
      go_wp2_with fail
      go_ret
      exact ⟨by rw [HR.out]; rfl, (Ext.refl w).alloc _ _⟩
    · have hkr : ¬ (k < 1 ∨ 8 < k) := by omega
      by_cases hd : dead = true ∧ k ≠ 8
      · obtain ⟨rfl, h8⟩ := hd
        have h8b : (k != 8) = true := by rw [bne_iff_ne]; exact h8
        have HR : Hid (refC n true k at' l = 13) := by show _ = _; unfold refC; rw [if_neg hkr, if_pos ⟨rfl, h8⟩]
        clear hkr h8
        go_enter Try.func20, Try.ntmps20
        go_wp2_with fail
        go_ret
        exact ⟨by rw [HR.out]; rfl, (Ext.refl w).alloc _ _⟩
      · have HR : Hid (refC n dead k at' l = if namB k = true ∧ (at' < 0 ∨ (n : Int) ≤ at') then 2 else if briB k = true ∧ l ≠ 128 then 1 else 0) := by show _ = _; unfold refC; rw [if_neg hkr, if_neg hd]
        clear hkr
        cases hnm : namB k with
        | true =>
          have h8 : k ≠ 8 := fun q => by rw [q] at hnm; exact absurd hnm (by decide)
          obtain rfl : dead = false := by
            cases dead with
            | false => rfl
            | true => exact absurd ⟨rfl, h8⟩ hd
          have HN : Hid (∀ w, Calls Try.prog 26 #[.int .i64 k] w fun e w' => e = .returned (.bool true) ∧ w' = w) := fun w => by
            have h := names_any k w
            rw [hnm] at h
            exact h
          rw [hnm] at HR
          clear hnm h8 hd
          by_cases a0 : at' < 0
          · have g1 : decide (at' < 0) = true := decide_eq_true a0
            have HR2 : Hid (refC n false k at' l = 2) := by show _ = _; rw [HR.out, if_pos ⟨rfl, Or.inl a0⟩]
            go_enter Try.func20, Try.ntmps20
            go_wp2_with fail
            go_quiet (first | (go_at_call 26; exact Calls.quiet_of_same (HN.out _)))
            go_wp2_with fail
            go_ret
            exact ⟨by rw [HR2.out]; rfl, extDrewN ((Ext.refl w).alloc _ _) _⟩
          · have g1 : decide (at' < 0) = false := decide_eq_false a0
            by_cases a1 : (n : Int) ≤ at'
            · have g2 : decide ((n : Int) ≤ at') = true := decide_eq_true a1
              have HR2 : Hid (refC n false k at' l = 2) := by show _ = _; rw [HR.out, if_pos ⟨rfl, Or.inr a1⟩]
              go_enter Try.func20, Try.ntmps20
              go_wp2_with fail
              go_quiet (first | (go_at_call 26; exact Calls.quiet_of_same (HN.out _)))
              go_wp2_with fail
              go_ret
              exact ⟨by rw [HR2.out]; rfl, extDrewN ((Ext.refl w).alloc _ _) _⟩
            · have g2 : decide ((n : Int) ≤ at') = false := decide_eq_false a1
              have HR2 : Hid (refC n false k at' l = if briB k = true ∧ l ≠ 128 then 1 else 0) := by show _ = _; rw [HR.out, if_neg (fun q => q.2.elim a0 a1)]
              clear HR
              cases hbr : briB k with
              | true =>
                have HB : Hid (∀ w, Calls Try.prog 27 #[.int .i64 k] w fun e w' => e = .returned (.bool true) ∧ w' = w) := fun w => by
                  have h := brings_any k w
                  rw [hbr] at h
                  exact h
                rw [hbr] at HR2
                clear hbr
                by_cases hl128 : l = 128
                · have HR3 : Hid (refC n false k at' l = 0) := by show _ = _; rw [HR2.out, if_neg (fun q => q.2 hl128)]
                  subst hl128
                  go_enter Try.func20, Try.ntmps20
                  go_wp2_with fail
                  go_quiet (first | (go_at_call 26; exact Calls.quiet_of_same (HN.out _)))
                  go_wp2_with fail
                  refine (HB.out _).mono ?_
                  rintro e w2 ⟨rfl, rfl⟩
                  go_wp2_with fail
                  go_ret
                  exact ⟨by rw [HR3.out]; rfl, extDrewN ((Ext.refl w).alloc _ _) _⟩
                · have HR3 : Hid (refC n false k at' l = 1) := by show _ = _; rw [HR2.out, if_pos ⟨rfl, hl128⟩]
                  have hlb : ((l : Int) != 128) = true := by rw [bne_iff_ne]; omega
                  clear hl128
                  go_enter Try.func20, Try.ntmps20
                  go_wp2_with fail
                  go_quiet (first | (go_at_call 26; exact Calls.quiet_of_same (HN.out _)))
                  go_wp2_with fail
                  refine (HB.out _).mono ?_
                  rintro e w2 ⟨rfl, rfl⟩
                  go_wp2_with fail
                  go_ret
                  exact ⟨by rw [HR3.out]; rfl, extDrewN ((Ext.refl w).alloc _ _) _⟩
              | false =>
                have HB : Hid (∀ w, Calls Try.prog 27 #[.int .i64 k] w fun e w' => e = .returned (.bool false) ∧ w' = w) := fun w => by
                  have h := brings_any k w
                  rw [hbr] at h
                  exact h
                have HR3 : Hid (refC n false k at' l = 0) := by show _ = _; rw [HR2.out, hbr, if_neg (fun q => by cases q.1)]
                clear hbr
                go_enter Try.func20, Try.ntmps20
                go_wp2_with fail
                go_quiet (first | (go_at_call 26; exact Calls.quiet_of_same (HN.out _)))
                go_wp2_with fail
                refine (HB.out _).mono ?_
                rintro e w2 ⟨rfl, rfl⟩
                go_wp2_with fail
                go_ret
                exact ⟨by rw [HR3.out]; rfl, extDrewN ((Ext.refl w).alloc _ _) _⟩
        | false =>
          have HN : Hid (∀ w, Calls Try.prog 26 #[.int .i64 k] w fun e w' => e = .returned (.bool false) ∧ w' = w) := fun w => by
            have h := names_any k w
            rw [hnm] at h
            exact h
          have hbr : briB k = false := by
            unfold namB at hnm
            unfold briB
            simp only [Bool.or_eq_false_iff] at hnm
            rw [hnm.1.1.1, hnm.2]
            rfl
          have HB : Hid (∀ w, Calls Try.prog 27 #[.int .i64 k] w fun e w' => e = .returned (.bool false) ∧ w' = w) := fun w => by
            have h := brings_any k w
            rw [hbr] at h
            exact h
          have HR3 : Hid (refC n dead k at' l = 0) := by show _ = _; rw [HR.out, hnm, hbr, if_neg (fun q => by cases q.1), if_neg (fun q => by cases q.1)]
          clear hnm hbr HR
          cases dead with
          | false =>
            clear hd
            go_enter Try.func20, Try.ntmps20
            go_wp2_with fail
            go_quiet (first | (go_at_call 26; exact Calls.quiet_of_same (HN.out _)))
            go_wp2_with fail
            refine (HB.out _).mono ?_
            rintro e w2 ⟨rfl, rfl⟩
            go_wp2_with fail
            go_ret
            exact ⟨by rw [HR3.out]; rfl, extDrewN ((Ext.refl w).alloc _ _) _⟩
          | true =>
            have h8 : k = 8 := Classical.byContradiction fun q => hd ⟨rfl, q⟩
            have h8b : (k != 8) = false := by rw [bne_eq_false_iff_eq]; exact h8
            clear hd h8
            go_enter Try.func20, Try.ntmps20
            go_wp2_with fail
            go_quiet (first | (go_at_call 26; exact Calls.quiet_of_same (HN.out _)))
            go_wp2_with fail
            refine (HB.out _).mono ?_
            rintro e w2 ⟨rfl, rfl⟩
            go_wp2_with fail
            go_ret
            exact ⟨by rw [HR3.out]; rfl, extDrewN ((Ext.refl w).alloc _ _) _⟩
end Go.Proofs.Ytgboboojjboocaa
