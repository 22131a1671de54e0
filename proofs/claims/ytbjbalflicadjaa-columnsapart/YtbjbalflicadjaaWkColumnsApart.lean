/-
  No two columns are on one drive; the first ones are parity, and no column is longer than these; the others have just the data; no condition.
-/
import Derived.Test.YtbjbalflicadjaaRows
import Derived.WalkKit
import Derived.ProofKit
import Derived.OpenShut
import Derived.ChangeOld
import Derived.Below
import Derived.BigQuiet
import Derived.Deep.CutRange
import Derived.Deep.QuietTactic
import Derived.Deep.RegionLaw
import Derived.Test.YtbjbalflicadjaaOpn
import Derived.Test.YtbjbalflicadjaaChecked
import Derived.Test.YtbjbalflicadjaaGeoFn
import Derived.Test.YtbjbalflicadjaaGeoShp
import Derived.Test.YtbjbalflicadjaaGeoKeep
import Derived.Test.YtbjbalflicadjaaRegFix4
namespace Go.Proofs.Ytbjbalflicadjaa.columnsApart
open Go.ChangeShapes Go.WideShapes Go.ChangeAt Go.RowKit Go.Deep E
set_option linter.unusedVariables false
def apT (b o n cp k D P Dk Ck C0 : Nat) : Nat → Value
  | 0 => .slice (some ⟨b, o, none⟩) n cp
  | 1 => .int .i64 (k : Int)
  | 2 => .pointer (some ⟨b, o + k * 4, none⟩)
  | 3 => .pointer (some ⟨b, o + k * 4, none⟩)
  | 4 => .int .i64 (Dk : Int)
  | 5 => .bool false
  | 6 => .bool false
  | 7 => .slice (some ⟨b, o, none⟩) n cp
  | 8 => .int .i64 (k : Int)
  | 9 => .pointer (some ⟨b, o + k * 4, none⟩)
  | 10 => .pointer (some ⟨b, o + k * 4, none⟩)
  | 11 => .int .i64 (Dk : Int)
  | 12 => .int .i64 (D : Int)
  | 13 => .bool false
  | 14 => .bool false
  | 15 => .bool false
  | 16 => .slice (some ⟨b, o, none⟩) n cp
  | 17 => .int .i64 (k : Int)
  | 18 => .pointer (some ⟨b, o + k * 4, none⟩)
  | 19 => .pointer (some ⟨b, o + k * 4 + 3, none⟩)
  | 20 => .bool true
  | 21 => .int .i64 (k : Int)
  | 22 => .int .i64 (P : Int)
  | 23 => .bool true
  | 24 => .bool false
  | 25 => .bool false
  | 26 => .bool false
  | 27 => .slice (some ⟨b, o, none⟩) n cp
  | 28 => .int .i64 (k : Int)
  | 29 => .pointer (some ⟨b, o + k * 4, none⟩)
  | 30 => .pointer (some ⟨b, o + k * 4 + 2, none⟩)
  | 31 => .int .i64 (Ck : Int)
  | 32 => .bool false
  | 33 => .bool false
  | 34 => .bool false
  | 35 => .slice (some ⟨b, o, none⟩) n cp
  | 36 => .int .i64 (k : Int)
  | 37 => .pointer (some ⟨b, o + k * 4, none⟩)
  | 38 => .pointer (some ⟨b, o + k * 4 + 2, none⟩)
  | 39 => .int .i64 (Ck : Int)
  | 40 => .slice (some ⟨b, o, none⟩) n cp
  | 41 => .pointer (some ⟨b, o, none⟩)
  | 42 => .pointer (some ⟨b, o + 2, none⟩)
  | 43 => .int .i64 (C0 : Int)
  | 44 => .bool false
  | 45 => .bool false
  | 46 => .bool false
  | 47 => .slice (some ⟨b, o, none⟩) n cp
  | 48 => .int .i64 (k : Int)
  | 49 => .pointer (some ⟨b, o + k * 4, none⟩)
  | 50 => .pointer (some ⟨b, o + k * 4 + 3, none⟩)
  | 51 => .bool true
  | 52 => .bool true
  | 53 => .slice (some ⟨b, o, none⟩) n cp
  | 54 => .int .i64 (k : Int)
  | 55 => .pointer (some ⟨b, o + k * 4, none⟩)
  | 56 => .pointer (some ⟨b, o + k * 4 + 2, none⟩)
  | 57 => .int .i64 (Ck : Int)
  | 58 => .slice (some ⟨b, o, none⟩) n cp
  | 59 => .pointer (some ⟨b, o, none⟩)
  | 60 => .pointer (some ⟨b, o + 2, none⟩)
  | 61 => .int .i64 (C0 : Int)
  | 62 => .bool false
  | 63 => .bool false
  | 64 => .bool false
  | 65 => .bool false
  | 66 => .slice (some ⟨b, o, none⟩) n cp
  | 67 => .pointer (some ⟨b, o, none⟩)
  | 68 => .pointer (some ⟨b, o + 2, none⟩)
  | 69 => .int .i64 (C0 : Int)
  | 70 => .slice (some ⟨b, o, none⟩) n cp
  | 71 => .int .i64 (k : Int)
  | 72 => .pointer (some ⟨b, o + k * 4, none⟩)
  | 73 => .pointer (some ⟨b, o + k * 4 + 2, none⟩)
  | 74 => .int .i64 (Ck : Int)
  | 75 => .int .i64 ((C0 : Int) - (Ck : Int))
  | 76 => .bool false
  | _ => undef
def apF (b o n cp k D P Dk Ck C0 : Nat) : Nat → Value
  | 0 => .slice (some ⟨b, o, none⟩) n cp
  | 1 => .int .i64 (k : Int)
  | 2 => .pointer (some ⟨b, o + k * 4, none⟩)
  | 3 => .pointer (some ⟨b, o + k * 4, none⟩)
  | 4 => .int .i64 (Dk : Int)
  | 5 => .bool false
  | 6 => .bool false
  | 7 => .slice (some ⟨b, o, none⟩) n cp
  | 8 => .int .i64 (k : Int)
  | 9 => .pointer (some ⟨b, o + k * 4, none⟩)
  | 10 => .pointer (some ⟨b, o + k * 4, none⟩)
  | 11 => .int .i64 (Dk : Int)
  | 12 => .int .i64 (D : Int)
  | 13 => .bool false
  | 14 => .bool false
  | 15 => .bool false
  | 16 => .slice (some ⟨b, o, none⟩) n cp
  | 17 => .int .i64 (k : Int)
  | 18 => .pointer (some ⟨b, o + k * 4, none⟩)
  | 19 => .pointer (some ⟨b, o + k * 4 + 3, none⟩)
  | 20 => .bool false
  | 21 => .int .i64 (k : Int)
  | 22 => .int .i64 (P : Int)
  | 23 => .bool false
  | 24 => .bool false
  | 25 => .bool false
  | 26 => .bool false
  | 27 => .slice (some ⟨b, o, none⟩) n cp
  | 28 => .int .i64 (k : Int)
  | 29 => .pointer (some ⟨b, o + k * 4, none⟩)
  | 30 => .pointer (some ⟨b, o + k * 4 + 2, none⟩)
  | 31 => .int .i64 (Ck : Int)
  | 32 => .bool false
  | 33 => .bool false
  | 34 => .bool false
  | 35 => .slice (some ⟨b, o, none⟩) n cp
  | 36 => .int .i64 (k : Int)
  | 37 => .pointer (some ⟨b, o + k * 4, none⟩)
  | 38 => .pointer (some ⟨b, o + k * 4 + 2, none⟩)
  | 39 => .int .i64 (Ck : Int)
  | 40 => .slice (some ⟨b, o, none⟩) n cp
  | 41 => .pointer (some ⟨b, o, none⟩)
  | 42 => .pointer (some ⟨b, o + 2, none⟩)
  | 43 => .int .i64 (C0 : Int)
  | 44 => .bool false
  | 45 => .bool false
  | 46 => .bool false
  | 47 => .slice (some ⟨b, o, none⟩) n cp
  | 48 => .int .i64 (k : Int)
  | 49 => .pointer (some ⟨b, o + k * 4, none⟩)
  | 50 => .pointer (some ⟨b, o + k * 4 + 3, none⟩)
  | 51 => .bool false
  | 52 => .bool false
  | 53 => undef
  | 54 => undef
  | 55 => undef
  | 56 => undef
  | 57 => undef
  | 58 => undef
  | 59 => undef
  | 60 => undef
  | 61 => undef
  | 62 => undef
  | 63 => .bool false
  | 64 => .bool false
  | 65 => .bool false
  | 66 => .slice (some ⟨b, o, none⟩) n cp
  | 67 => .pointer (some ⟨b, o, none⟩)
  | 68 => .pointer (some ⟨b, o + 2, none⟩)
  | 69 => .int .i64 (C0 : Int)
  | 70 => .slice (some ⟨b, o, none⟩) n cp
  | 71 => .int .i64 (k : Int)
  | 72 => .pointer (some ⟨b, o + k * 4, none⟩)
  | 73 => .pointer (some ⟨b, o + k * 4 + 2, none⟩)
  | 74 => .int .i64 (Ck : Int)
  | 75 => .int .i64 ((C0 : Int) - (Ck : Int))
  | 76 => .bool false
  | _ => undef
theorem sizeColG : (Try.prog.info? 38).map (·.size) = some 4 := by kernel_rfl
theorem sizeOf_ofG {t : TypeId} {n : Nat} (h : (Try.prog.info? t).map (·.size) = some n) (w : World) : (sizeOf t).run Try.prog w = .ok n w := by
  cases hq : Try.prog.info? t with
  | none => simp [hq] at h
  | some i =>
    simp [hq] at h
    simp [sizeOf, typeInfo, hq, h]
theorem idx_col {b o m c q : Nat} (w : World) (h : q < m) : (Instr.indexAt 29 (.slice (some ⟨b, o, none⟩) m c) (.int .i64 (q : Int))).run Try.prog w = .ok (.pointer (some ⟨b, o + q * 4, none⟩)) w := by
  have h1 : (q : Int) < (m : Int) := by omega
  have h2 : (0 : Int) ≤ (q : Int) := by omega
  rw [run_indexAt_slice (h := Try.underlying29)]
  rw [if_pos ⟨h2, h1⟩]
  rw [show Try.prog.elem 29 = 38 from rfl, sizeOf_ofG sizeColG]
  simp [Go.WideShapes.add_plain]
theorem idx_col0 {b o m c : Nat} (w : World) (h : 0 < m) : (Instr.indexAt 29 (.slice (some ⟨b, o, none⟩) m c) (.int .i64 0)).run Try.prog w = .ok (.pointer (some ⟨b, o, none⟩)) w := by
  have := idx_col (b := b) (o := o) (c := c) w h
  rw [Nat.zero_mul, Nat.add_zero] at this
  exact this
theorem field_col0 (b o : Nat) (w : World) : (Instr.fieldAt 38 (.pointer (some ⟨b, o, none⟩)) 0).run Try.prog w = .ok (.pointer (some ⟨b, o, none⟩)) w := by
  simp [Instr.fieldAt, run_underlying Try.underlying38, go_sem]
theorem field_col2 (b o : Nat) (w : World) : (Instr.fieldAt 38 (.pointer (some ⟨b, o, none⟩)) 2).run Try.prog w = .ok (.pointer (some ⟨b, o + 2, none⟩)) w := by
  simp [Instr.fieldAt, run_underlying Try.underlying38, go_sem]
theorem field_col3 (b o : Nat) (w : World) : (Instr.fieldAt 38 (.pointer (some ⟨b, o, none⟩)) 3).run Try.prog w = .ok (.pointer (some ⟨b, o + 3, none⟩)) w := by
  simp [Instr.fieldAt, run_underlying Try.underlying38, go_sem]
theorem load_oneG {w : World} {ty : TypeId} {d : TypeDesc} (hu : Try.prog.underlying ty = some d) (hd : d.isRow = false) {ad : Addr} {v : Value} (h : w.cell? ad = some v) : (Instr.loadAt ty (.pointer (some ad))).run Try.prog w = .ok v w := by
  have hagg : (isAgg ty).run Try.prog w = .ok false w := by
    unfold isAgg
    rw [Sem.run_bind, run_underlying hu w]
    cases d <;> simp_all
  simp [Instr.loadAt, Instr.sureAddr, loadVar, Sem.run_bind, hagg, h]
set_option maxRecDepth 100000 in
set_option maxHeartbeats 40000000 in
theorem walk (a0 : Int) (a1 : Int) (a2 : Int) (a3 : Int) (w : World) (w0 : -9223372036854775808 ≤ a0 ∧ a0 ≤ 9223372036854775807) (w1 : -9223372036854775808 ≤ a1 ∧ a1 ≤ 9223372036854775807) (w2 : -9223372036854775808 ≤ a2 ∧ a2 ≤ 9223372036854775807) (w3 : -9223372036854775808 ≤ a3 ∧ a3 ≤ 9223372036854775807) :
    Calls Try.prog 6 #[.int .i64 a0, .int .i64 a1, .int .i64 a2, .int .i64 a3] w fun e w' => e = .returned (.bool true) ∧ Ext w w' := by
  obtain ⟨D, P, hD1, hD2, hP1, hP2, hP3, HS⟩ := Shape_nat a0 a1 (by omega) (by omega)
  obtain ⟨A, hA, hA1⟩ := picked_is a2 65537 (by omega)
  obtain ⟨C, hC, hC1⟩ := picked_is a3 32 (by omega)
  have HA : Hid (∀ w, Calls Try.prog 17 #[.int .i64 a2, .int .i64 65537] w fun e w' => e = .returned (.int .i64 A) ∧ w' = w) := fun w => Picked_bd a2 65537 A w (by omega) (by omega) (by omega) hA
  have HC : Hid (∀ w, Calls Try.prog 17 #[.int .i64 a3, .int .i64 32] w fun e w' => e = .returned (.int .i64 C) ∧ w' = w) := fun w => Picked_bd a3 32 C w (by omega) (by omega) (by omega) hC
  have HK : Hid (∀ w, Calls Try.prog 13 #[.int .i64 D, .int .i64 P, .int .i64 A, .int .i64 (1 + (C : Int))] w fun e w' => (∃ b k, e = .returned (.tuple #[.slice b (colN D P (1 + C)) k, .int .i64 0]) ∧ Els w' b 4 (colsL D P A (1 + C))) ∧ Ext w w') := fun w => by
    have := cols_nat D P A (1 + C) hD1 hD2 hP1 hP2 hP3 (by omega) (by omega) (by omega) w
    rw [show ((1 + C : Nat) : Int) = 1 + (C : Int) by omega] at this
    exact this
  have HAp : Hid (∀ i, i < colN D P (1 + C) → 1 ≤ cntC D P (1 + C) i ∧ cntC D P (1 + C) i ≤ cntC D P (1 + C) 0 ∧ cntC D P (1 + C) 0 ≤ cntC D P (1 + C) i + 1 ∧ (i < P → cntC D P (1 + C) i = cntC D P (1 + C) 0) ∧ cntC D P (1 + C) 0 ≤ 32) := fun i hi => ap_is D P (1 + C) i hD1 hD2 hP1 hP2 hP3 (by omega) (by omega) hi
  have HD : Hid (datS D P (1 + C) (colN D P (1 + C)) = 1 + C) := (keep_is D P (1 + C) hD1 hD2 hP1 hP2 hP3 (by omega) (by omega)).1
  obtain ⟨n, hn⟩ : ∃ n : Nat, n = colN D P (1 + C) := ⟨_, rfl⟩
  have hnb := colN_bd D P (1 + C) hP3 (by omega)
  have HG : Hid (∀ i, i < n → (colsL D P A (1 + C))[i]? = some [.int .i64 ((A + i) % D : Nat), .int .i64 ((A + i) / D : Nat), .int .i64 (cntC D P (1 + C) i : Nat), .bool (decide (i < P))]) := fun i hi => colsL_get D P A (1 + C) (by rw [← hn]; exact hi)
  rw [← hn] at HK HAp HD hnb
  clear hA hC hn
  go_enter Try.func6, Try.ntmps6
  go_wp2_with fail
  refine (HS w).mono ?_
  rintro e w1 ⟨rfl, rfl⟩
  clear HS
  go_wp2_with fail
  refine (HA.out _).mono ?_
  rintro e w1 ⟨rfl, rfl⟩
  go_wp2_with fail
  refine (HC.out _).mono ?_
  rintro e w1 ⟨rfl, rfl⟩
  go_wp2_with fail
  refine (HK.out _).mono ?_
  rintro e w2 ⟨⟨ad, cp, rfl, hE⟩, hx2⟩
  have HE : Hid (Els w2 ad 4 (colsL D P A (1 + C))) := hE
  clear hE HA HC HK
  have hnb1 : ¬ (n : Int) ≤ (P : Int) := by omega
  have hnb2 : ¬ (D : Int) < (n : Int) := by omega
  set_option maxRecDepth 1000000 in
  go_wp2_with fail
  go_loopw [15, 16] (fun s i wr => ∃ (k S : Nat), k ≤ n ∧ i = .int .i64 k ∧ s = .int .i64 (S : Nat) ∧ Hid (S = datS D P (1 + C) k) ∧ S ≤ 32 * k ∧ Ext w2 wr) (fun _ i _ => n - (intOf i).toNat)
  case atStart => exact ⟨0, 0, Nat.zero_le _, rfl, rfl, (rfl : 0 = datS D P (1 + C) 0), by omega, Ext.refl _⟩
  case round =>
    obtain ⟨k, S, hk, rfl, rfl, HSm, hS, hx⟩ := hrel
    by_cases hlt : k < n
    · obtain ⟨p1, p2, p3, p4, p5⟩ := HAp.out k hlt
      have hg0 := HG.out 0 (by omega)
      have hgk := HG.out k hlt
      have h0m : (A + k) % D < D := Nat.mod_lt _ (by omega)
      obtain ⟨Dk, hDk⟩ : ∃ Dk : Nat, Dk = (A + k) % D := ⟨_, rfl⟩
      have HDk : Hid (Dk = (A + k) % D) := hDk
      obtain ⟨Ck, hCk⟩ : ∃ Ck : Nat, Ck = cntC D P (1 + C) k := ⟨_, rfl⟩
      have HCk : Hid (Ck = cntC D P (1 + C) k) := hCk
      obtain ⟨C0, hC0⟩ : ∃ C0 : Nat, C0 = cntC D P (1 + C) 0 := ⟨_, rfl⟩
      rw [← hDk] at h0m hgk
      rw [← hCk] at p1 p2 p3 p4 hgk
      rw [← hC0] at p2 p3 p4 p5 hg0
      obtain ⟨b, o, rfl, hk0, hk1, hk2, hk3⟩ := col_at (HE.out.ext hx) hgk
      obtain ⟨b', o', hbo, h00, h01, h02, h03⟩ := col_at (HE.out.ext hx) hg0
      cases hbo
      rw [Nat.zero_mul, Nat.add_zero] at h00 h01 h02 h03
      have HGk : Hid ((colsL D P A (1 + C))[k]? = some [.int .i64 Dk, .int .i64 ((A + k) / D : Nat), .int .i64 Ck, .bool (decide (k < P))]) := hgk
      clear hDk hCk hC0 hg0 hgk h00 h01 h03 hk1
      have i1 : (k : Int) < (n : Int) := by omega
      have i0 : 0 < n := by omega
      have q1 : Hid (decide ((Dk : Int) < 0) = false) := decide_eq_false (by omega)
      have q2 : Hid (decide ((D : Int) ≤ (Dk : Int)) = false) := decide_eq_false (by omega)
      have q3 : Hid (decide ((Ck : Int) < 1) = false) := decide_eq_false (by omega)
      have q4 : Hid (decide ((C0 : Int) < (Ck : Int)) = false) := decide_eq_false (by omega)
      have q5 : Hid (decide (1 < (C0 : Int) - (Ck : Int)) = false) := decide_eq_false (by omega)
      have GkD : Hid (wr.cell? ⟨b, o + k * 4, none⟩ = some (.int .i64 (Dk : Int))) := hk0
      have GkC : Hid (wr.cell? ⟨b, o + k * 4 + 2, none⟩ = some (.int .i64 (Ck : Int))) := hk2
      have G0C : Hid (wr.cell? ⟨b, o + 2, none⟩ = some (.int .i64 (C0 : Int))) := h02
      clear hk0 hk2 h02
      by_cases hkP : k < P
      · have e0 : Ck = C0 := p4 hkP
        have q6 : Hid (((Ck : Int) != (C0 : Int)) = false) := by show _ = _; rw [e0]; simp
        rw [decide_eq_true hkP] at hk3
        have GkB : Hid (wr.cell? ⟨b, o + k * 4 + 3, none⟩ = some (.bool true)) := hk3
        have q8 : Hid (decide ((k : Int) < (P : Int)) = true) := decide_eq_true (by omega)
        have HS2 : Hid (S = datS D P (1 + C) (k + 1)) := by
          show S = datS D P (1 + C) k + if k < P then 0 else cntC D P (1 + C) k
          rw [if_pos hkP]
          have h1 := HSm.out
          have h2 := HCk.out
          omega
        clear p4 hk3 e0
        set_option maxRecDepth 1000000 in
        go_wp2_with fail
        refine wp_region_reads (P := Try.prog) 77 (by kernel_rfl) (by kernel_rfl) (fun i => 57 + i) (apT b o n cp k D P Dk Ck C0) (fun _ => false) (fun i => i == 52 && true) [6, 15, 26, 34, 46, 52, 65] (by kernel_rfl) (by kernel_rfl) (fun g hg => by
          simp only [List.mem_cons, List.not_mem_nil, or_false] at hg
          rcases hg with rfl | rfl | rfl | rfl | rfl | rfl | rfl <;> rfl) (fun i h => by cases h) (fun i j _ _ h => by have h : 57 + i = 57 + j := h; omega) (fun i hi => by show 57 + i < 167; omega) ?_ ?_
        · intro L i a' w' hi77 _ hsi hde hA hx'
          match i, hi77, hsi, hde with
          | 0, _, hsi, hde =>
            have e13 : a'.eval (.tmp 13) = .slice (some ⟨b, o, none⟩) n cp := hA.eval 13 (fun j _ => by show 57 + j ≠ 13; omega)
            exact ⟨_, rfl, gx_move (.tmp 13) rfl e13⟩
          | 1, _, hsi, hde =>
            have e16 : a'.eval (.tmp 16) = .int .i64 (k : Int) := hA.eval 16 (fun j _ => by show 57 + j ≠ 16; omega)
            exact ⟨_, rfl, gx_move (.tmp 16) rfl e16⟩
          | 2, _, hsi, hde =>
            have e57 : a'.eval (.tmp 57) = .slice (some ⟨b, o, none⟩) n cp := hA.at 0 (by omega) (hde 0 (by kernel_rfl))
            have e58 : a'.eval (.tmp 58) = .int .i64 (k : Int) := hA.at 1 (by omega) (hde 1 (by kernel_rfl))
            exact ⟨_, rfl, gx_index _ (.tmp 57) (.tmp 58) rfl e57 e58 (idx_col _ hlt)⟩
          | 3, _, hsi, hde =>
            have e59 : a'.eval (.tmp 59) = .pointer (some ⟨b, o + k * 4, none⟩) := hA.at 2 (by omega) (hde 2 (by kernel_rfl))
            exact ⟨_, rfl, gx_field _ (.tmp 59) 0 rfl e59 (field_col0 _ _ _)⟩
          | 4, _, hsi, hde =>
            have e60 : a'.eval (.tmp 60) = .pointer (some ⟨b, o + k * 4, none⟩) := hA.at 3 (by omega) (hde 3 (by kernel_rfl))
            exact ⟨_, rfl, gx_load _ (.tmp 60) rfl e60 (load_oneG Try.underlying3 rfl (hx'.keeps GkD.out))⟩
          | 5, _, hsi, hde =>
            have e61 : a'.eval (.tmp 61) = .int .i64 (Dk : Int) := hA.at 4 (by omega) (hde 4 (by kernel_rfl))
            exact ⟨_, rfl, gx_bin .lss _ _ (.tmp 61) (.const (.int .i64 0)) rfl e61 rfl (eqg_int _ _ _ _ _ _ _ _) (bin_lss _ q1.out)⟩
          | 6, _, hsi, hde =>
            have e62 : a'.eval (.tmp 62) = .bool false := hA.at 5 (by omega) (hde 5 (by kernel_rfl))
            exact ⟨_, rfl, gx_move (.tmp 62) rfl e62⟩
          | 7, _, hsi, hde =>
            have e13 : a'.eval (.tmp 13) = .slice (some ⟨b, o, none⟩) n cp := hA.eval 13 (fun j _ => by show 57 + j ≠ 13; omega)
            exact ⟨_, rfl, gx_move (.tmp 13) rfl e13⟩
          | 8, _, hsi, hde =>
            have e16 : a'.eval (.tmp 16) = .int .i64 (k : Int) := hA.eval 16 (fun j _ => by show 57 + j ≠ 16; omega)
            exact ⟨_, rfl, gx_move (.tmp 16) rfl e16⟩
          | 9, _, hsi, hde =>
            have e64 : a'.eval (.tmp 64) = .slice (some ⟨b, o, none⟩) n cp := hA.at 7 (by omega) (hde 7 (by kernel_rfl))
            have e65 : a'.eval (.tmp 65) = .int .i64 (k : Int) := hA.at 8 (by omega) (hde 8 (by kernel_rfl))
            exact ⟨_, rfl, gx_index _ (.tmp 64) (.tmp 65) rfl e64 e65 (idx_col _ hlt)⟩
          | 10, _, hsi, hde =>
            have e66 : a'.eval (.tmp 66) = .pointer (some ⟨b, o + k * 4, none⟩) := hA.at 9 (by omega) (hde 9 (by kernel_rfl))
            exact ⟨_, rfl, gx_field _ (.tmp 66) 0 rfl e66 (field_col0 _ _ _)⟩
          | 11, _, hsi, hde =>
            have e67 : a'.eval (.tmp 67) = .pointer (some ⟨b, o + k * 4, none⟩) := hA.at 10 (by omega) (hde 10 (by kernel_rfl))
            exact ⟨_, rfl, gx_load _ (.tmp 67) rfl e67 (load_oneG Try.underlying3 rfl (hx'.keeps GkD.out))⟩
          | 12, _, hsi, hde =>
            have e9 : a'.eval (.tmp 9) = .int .i64 (D : Int) := hA.eval 9 (fun j _ => by show 57 + j ≠ 9; omega)
            exact ⟨_, rfl, gx_move (.tmp 9) rfl e9⟩
          | 13, _, hsi, hde =>
            have e68 : a'.eval (.tmp 68) = .int .i64 (Dk : Int) := hA.at 11 (by omega) (hde 11 (by kernel_rfl))
            have e69 : a'.eval (.tmp 69) = .int .i64 (D : Int) := hA.at 12 (by omega) (hde 12 (by kernel_rfl))
            exact ⟨_, rfl, gx_bin .geq _ _ (.tmp 68) (.tmp 69) rfl e68 e69 (eqg_int _ _ _ _ _ _ _ _) (bin_geq _ q2.out)⟩
          | 14, _, hsi, hde =>
            have e63 : a'.eval (.tmp 63) = .bool false := hA.at 6 (by omega) (hde 6 (by kernel_rfl))
            have e70 : a'.eval (.tmp 70) = .bool false := hA.at 13 (by omega) (hde 13 (by kernel_rfl))
            exact ⟨_, rfl, gx_pickf (.tmp 63) _ (.tmp 70) rfl e63 e70⟩
          | 15, _, hsi, hde =>
            have e71 : a'.eval (.tmp 71) = .bool false := hA.at 14 (by omega) (hde 14 (by kernel_rfl))
            exact ⟨_, rfl, gx_move (.tmp 71) rfl e71⟩
          | 16, _, hsi, hde =>
            have e13 : a'.eval (.tmp 13) = .slice (some ⟨b, o, none⟩) n cp := hA.eval 13 (fun j _ => by show 57 + j ≠ 13; omega)
            exact ⟨_, rfl, gx_move (.tmp 13) rfl e13⟩
          | 17, _, hsi, hde =>
            have e16 : a'.eval (.tmp 16) = .int .i64 (k : Int) := hA.eval 16 (fun j _ => by show 57 + j ≠ 16; omega)
            exact ⟨_, rfl, gx_move (.tmp 16) rfl e16⟩
          | 18, _, hsi, hde =>
            have e73 : a'.eval (.tmp 73) = .slice (some ⟨b, o, none⟩) n cp := hA.at 16 (by omega) (hde 16 (by kernel_rfl))
            have e74 : a'.eval (.tmp 74) = .int .i64 (k : Int) := hA.at 17 (by omega) (hde 17 (by kernel_rfl))
            exact ⟨_, rfl, gx_index _ (.tmp 73) (.tmp 74) rfl e73 e74 (idx_col _ hlt)⟩
          | 19, _, hsi, hde =>
            have e75 : a'.eval (.tmp 75) = .pointer (some ⟨b, o + k * 4, none⟩) := hA.at 18 (by omega) (hde 18 (by kernel_rfl))
            exact ⟨_, rfl, gx_field _ (.tmp 75) 3 rfl e75 (field_col3 _ _ _)⟩
          | 20, _, hsi, hde =>
            have e76 : a'.eval (.tmp 76) = .pointer (some ⟨b, o + k * 4 + 3, none⟩) := hA.at 19 (by omega) (hde 19 (by kernel_rfl))
            exact ⟨_, rfl, gx_load _ (.tmp 76) rfl e76 (load_oneG Try.underlying4 rfl (hx'.keeps GkB.out))⟩
          | 21, _, hsi, hde =>
            have e16 : a'.eval (.tmp 16) = .int .i64 (k : Int) := hA.eval 16 (fun j _ => by show 57 + j ≠ 16; omega)
            exact ⟨_, rfl, gx_move (.tmp 16) rfl e16⟩
          | 22, _, hsi, hde =>
            have e10 : a'.eval (.tmp 10) = .int .i64 (P : Int) := hA.eval 10 (fun j _ => by show 57 + j ≠ 10; omega)
            exact ⟨_, rfl, gx_move (.tmp 10) rfl e10⟩
          | 23, _, hsi, hde =>
            have e78 : a'.eval (.tmp 78) = .int .i64 (k : Int) := hA.at 21 (by omega) (hde 21 (by kernel_rfl))
            have e79 : a'.eval (.tmp 79) = .int .i64 (P : Int) := hA.at 22 (by omega) (hde 22 (by kernel_rfl))
            exact ⟨_, rfl, gx_bin .lss _ _ (.tmp 78) (.tmp 79) rfl e78 e79 (eqg_int _ _ _ _ _ _ _ _) (bin_lss _ q8.out)⟩
          | 24, _, hsi, hde =>
            have e77 : a'.eval (.tmp 77) = .bool true := hA.at 20 (by omega) (hde 20 (by kernel_rfl))
            have e80 : a'.eval (.tmp 80) = .bool true := hA.at 23 (by omega) (hde 23 (by kernel_rfl))
            exact ⟨_, rfl, gx_bin .neq _ _ (.tmp 77) (.tmp 80) rfl e77 e80 (eqg_bool _ _ _ _ _ _) (bin_neqB _ Try.underlying4 _)⟩
          | 25, _, hsi, hde =>
            have e72 : a'.eval (.tmp 72) = .bool false := hA.at 15 (by omega) (hde 15 (by kernel_rfl))
            have e81 : a'.eval (.tmp 81) = .bool false := hA.at 24 (by omega) (hde 24 (by kernel_rfl))
            exact ⟨_, rfl, gx_pickf (.tmp 72) _ (.tmp 81) rfl e72 e81⟩
          | 26, _, hsi, hde =>
            have e82 : a'.eval (.tmp 82) = .bool false := hA.at 25 (by omega) (hde 25 (by kernel_rfl))
            exact ⟨_, rfl, gx_move (.tmp 82) rfl e82⟩
          | 27, _, hsi, hde =>
            have e13 : a'.eval (.tmp 13) = .slice (some ⟨b, o, none⟩) n cp := hA.eval 13 (fun j _ => by show 57 + j ≠ 13; omega)
            exact ⟨_, rfl, gx_move (.tmp 13) rfl e13⟩
          | 28, _, hsi, hde =>
            have e16 : a'.eval (.tmp 16) = .int .i64 (k : Int) := hA.eval 16 (fun j _ => by show 57 + j ≠ 16; omega)
            exact ⟨_, rfl, gx_move (.tmp 16) rfl e16⟩
          | 29, _, hsi, hde =>
            have e84 : a'.eval (.tmp 84) = .slice (some ⟨b, o, none⟩) n cp := hA.at 27 (by omega) (hde 27 (by kernel_rfl))
            have e85 : a'.eval (.tmp 85) = .int .i64 (k : Int) := hA.at 28 (by omega) (hde 28 (by kernel_rfl))
            exact ⟨_, rfl, gx_index _ (.tmp 84) (.tmp 85) rfl e84 e85 (idx_col _ hlt)⟩
          | 30, _, hsi, hde =>
            have e86 : a'.eval (.tmp 86) = .pointer (some ⟨b, o + k * 4, none⟩) := hA.at 29 (by omega) (hde 29 (by kernel_rfl))
            exact ⟨_, rfl, gx_field _ (.tmp 86) 2 rfl e86 (field_col2 _ _ _)⟩
          | 31, _, hsi, hde =>
            have e87 : a'.eval (.tmp 87) = .pointer (some ⟨b, o + k * 4 + 2, none⟩) := hA.at 30 (by omega) (hde 30 (by kernel_rfl))
            exact ⟨_, rfl, gx_load _ (.tmp 87) rfl e87 (load_oneG Try.underlying3 rfl (hx'.keeps GkC.out))⟩
          | 32, _, hsi, hde =>
            have e88 : a'.eval (.tmp 88) = .int .i64 (Ck : Int) := hA.at 31 (by omega) (hde 31 (by kernel_rfl))
            exact ⟨_, rfl, gx_bin .lss _ _ (.tmp 88) (.const (.int .i64 1)) rfl e88 rfl (eqg_int _ _ _ _ _ _ _ _) (bin_lss _ q3.out)⟩
          | 33, _, hsi, hde =>
            have e83 : a'.eval (.tmp 83) = .bool false := hA.at 26 (by omega) (hde 26 (by kernel_rfl))
            have e89 : a'.eval (.tmp 89) = .bool false := hA.at 32 (by omega) (hde 32 (by kernel_rfl))
            exact ⟨_, rfl, gx_pickf (.tmp 83) _ (.tmp 89) rfl e83 e89⟩
          | 34, _, hsi, hde =>
            have e90 : a'.eval (.tmp 90) = .bool false := hA.at 33 (by omega) (hde 33 (by kernel_rfl))
            exact ⟨_, rfl, gx_move (.tmp 90) rfl e90⟩
          | 35, _, hsi, hde =>
            have e13 : a'.eval (.tmp 13) = .slice (some ⟨b, o, none⟩) n cp := hA.eval 13 (fun j _ => by show 57 + j ≠ 13; omega)
            exact ⟨_, rfl, gx_move (.tmp 13) rfl e13⟩
          | 36, _, hsi, hde =>
            have e16 : a'.eval (.tmp 16) = .int .i64 (k : Int) := hA.eval 16 (fun j _ => by show 57 + j ≠ 16; omega)
            exact ⟨_, rfl, gx_move (.tmp 16) rfl e16⟩
          | 37, _, hsi, hde =>
            have e92 : a'.eval (.tmp 92) = .slice (some ⟨b, o, none⟩) n cp := hA.at 35 (by omega) (hde 35 (by kernel_rfl))
            have e93 : a'.eval (.tmp 93) = .int .i64 (k : Int) := hA.at 36 (by omega) (hde 36 (by kernel_rfl))
            exact ⟨_, rfl, gx_index _ (.tmp 92) (.tmp 93) rfl e92 e93 (idx_col _ hlt)⟩
          | 38, _, hsi, hde =>
            have e94 : a'.eval (.tmp 94) = .pointer (some ⟨b, o + k * 4, none⟩) := hA.at 37 (by omega) (hde 37 (by kernel_rfl))
            exact ⟨_, rfl, gx_field _ (.tmp 94) 2 rfl e94 (field_col2 _ _ _)⟩
          | 39, _, hsi, hde =>
            have e95 : a'.eval (.tmp 95) = .pointer (some ⟨b, o + k * 4 + 2, none⟩) := hA.at 38 (by omega) (hde 38 (by kernel_rfl))
            exact ⟨_, rfl, gx_load _ (.tmp 95) rfl e95 (load_oneG Try.underlying3 rfl (hx'.keeps GkC.out))⟩
          | 40, _, hsi, hde =>
            have e13 : a'.eval (.tmp 13) = .slice (some ⟨b, o, none⟩) n cp := hA.eval 13 (fun j _ => by show 57 + j ≠ 13; omega)
            exact ⟨_, rfl, gx_move (.tmp 13) rfl e13⟩
          | 41, _, hsi, hde =>
            have e97 : a'.eval (.tmp 97) = .slice (some ⟨b, o, none⟩) n cp := hA.at 40 (by omega) (hde 40 (by kernel_rfl))
            exact ⟨_, rfl, gx_index _ (.tmp 97) (.const (.int .i64 0)) rfl e97 rfl (idx_col0 _ (by omega))⟩
          | 42, _, hsi, hde =>
            have e98 : a'.eval (.tmp 98) = .pointer (some ⟨b, o, none⟩) := hA.at 41 (by omega) (hde 41 (by kernel_rfl))
            exact ⟨_, rfl, gx_field _ (.tmp 98) 2 rfl e98 (field_col2 _ _ _)⟩
          | 43, _, hsi, hde =>
            have e99 : a'.eval (.tmp 99) = .pointer (some ⟨b, o + 2, none⟩) := hA.at 42 (by omega) (hde 42 (by kernel_rfl))
            exact ⟨_, rfl, gx_load _ (.tmp 99) rfl e99 (load_oneG Try.underlying3 rfl (hx'.keeps G0C.out))⟩
          | 44, _, hsi, hde =>
            have e96 : a'.eval (.tmp 96) = .int .i64 (Ck : Int) := hA.at 39 (by omega) (hde 39 (by kernel_rfl))
            have e100 : a'.eval (.tmp 100) = .int .i64 (C0 : Int) := hA.at 43 (by omega) (hde 43 (by kernel_rfl))
            exact ⟨_, rfl, gx_bin .gtr _ _ (.tmp 96) (.tmp 100) rfl e96 e100 (eqg_int _ _ _ _ _ _ _ _) (bin_gtr _ q4.out)⟩
          | 45, _, hsi, hde =>
            have e91 : a'.eval (.tmp 91) = .bool false := hA.at 34 (by omega) (hde 34 (by kernel_rfl))
            have e101 : a'.eval (.tmp 101) = .bool false := hA.at 44 (by omega) (hde 44 (by kernel_rfl))
            exact ⟨_, rfl, gx_pickf (.tmp 91) _ (.tmp 101) rfl e91 e101⟩
          | 46, _, hsi, hde =>
            have e102 : a'.eval (.tmp 102) = .bool false := hA.at 45 (by omega) (hde 45 (by kernel_rfl))
            exact ⟨_, rfl, gx_move (.tmp 102) rfl e102⟩
          | 47, _, hsi, hde =>
            have e13 : a'.eval (.tmp 13) = .slice (some ⟨b, o, none⟩) n cp := hA.eval 13 (fun j _ => by show 57 + j ≠ 13; omega)
            exact ⟨_, rfl, gx_move (.tmp 13) rfl e13⟩
          | 48, _, hsi, hde =>
            have e16 : a'.eval (.tmp 16) = .int .i64 (k : Int) := hA.eval 16 (fun j _ => by show 57 + j ≠ 16; omega)
            exact ⟨_, rfl, gx_move (.tmp 16) rfl e16⟩
          | 49, _, hsi, hde =>
            have e104 : a'.eval (.tmp 104) = .slice (some ⟨b, o, none⟩) n cp := hA.at 47 (by omega) (hde 47 (by kernel_rfl))
            have e105 : a'.eval (.tmp 105) = .int .i64 (k : Int) := hA.at 48 (by omega) (hde 48 (by kernel_rfl))
            exact ⟨_, rfl, gx_index _ (.tmp 104) (.tmp 105) rfl e104 e105 (idx_col _ hlt)⟩
          | 50, _, hsi, hde =>
            have e106 : a'.eval (.tmp 106) = .pointer (some ⟨b, o + k * 4, none⟩) := hA.at 49 (by omega) (hde 49 (by kernel_rfl))
            exact ⟨_, rfl, gx_field _ (.tmp 106) 3 rfl e106 (field_col3 _ _ _)⟩
          | 51, _, hsi, hde =>
            have e107 : a'.eval (.tmp 107) = .pointer (some ⟨b, o + k * 4 + 3, none⟩) := hA.at 50 (by omega) (hde 50 (by kernel_rfl))
            exact ⟨_, rfl, gx_load _ (.tmp 107) rfl e107 (load_oneG Try.underlying4 rfl (hx'.keeps GkB.out))⟩
          | 52, _, hsi, hde =>
            have e108 : a'.eval (.tmp 108) = .bool true := hA.at 51 (by omega) (hde 51 (by kernel_rfl))
            exact ⟨_, rfl, gx_move (.tmp 108) rfl e108⟩
          | 53, _, hsi, hde =>
            have e13 : a'.eval (.tmp 13) = .slice (some ⟨b, o, none⟩) n cp := hA.eval 13 (fun j _ => by show 57 + j ≠ 13; omega)
            exact ⟨_, rfl, gx_move (.tmp 13) rfl e13⟩
          | 54, _, hsi, hde =>
            have e16 : a'.eval (.tmp 16) = .int .i64 (k : Int) := hA.eval 16 (fun j _ => by show 57 + j ≠ 16; omega)
            exact ⟨_, rfl, gx_move (.tmp 16) rfl e16⟩
          | 55, _, hsi, hde =>
            have e110 : a'.eval (.tmp 110) = .slice (some ⟨b, o, none⟩) n cp := hA.at 53 (by omega) (hde 53 (by kernel_rfl))
            have e111 : a'.eval (.tmp 111) = .int .i64 (k : Int) := hA.at 54 (by omega) (hde 54 (by kernel_rfl))
            exact ⟨_, rfl, gx_index _ (.tmp 110) (.tmp 111) rfl e110 e111 (idx_col _ hlt)⟩
          | 56, _, hsi, hde =>
            have e112 : a'.eval (.tmp 112) = .pointer (some ⟨b, o + k * 4, none⟩) := hA.at 55 (by omega) (hde 55 (by kernel_rfl))
            exact ⟨_, rfl, gx_field _ (.tmp 112) 2 rfl e112 (field_col2 _ _ _)⟩
          | 57, _, hsi, hde =>
            have e113 : a'.eval (.tmp 113) = .pointer (some ⟨b, o + k * 4 + 2, none⟩) := hA.at 56 (by omega) (hde 56 (by kernel_rfl))
            exact ⟨_, rfl, gx_load _ (.tmp 113) rfl e113 (load_oneG Try.underlying3 rfl (hx'.keeps GkC.out))⟩
          | 58, _, hsi, hde =>
            have e13 : a'.eval (.tmp 13) = .slice (some ⟨b, o, none⟩) n cp := hA.eval 13 (fun j _ => by show 57 + j ≠ 13; omega)
            exact ⟨_, rfl, gx_move (.tmp 13) rfl e13⟩
          | 59, _, hsi, hde =>
            have e115 : a'.eval (.tmp 115) = .slice (some ⟨b, o, none⟩) n cp := hA.at 58 (by omega) (hde 58 (by kernel_rfl))
            exact ⟨_, rfl, gx_index _ (.tmp 115) (.const (.int .i64 0)) rfl e115 rfl (idx_col0 _ (by omega))⟩
          | 60, _, hsi, hde =>
            have e116 : a'.eval (.tmp 116) = .pointer (some ⟨b, o, none⟩) := hA.at 59 (by omega) (hde 59 (by kernel_rfl))
            exact ⟨_, rfl, gx_field _ (.tmp 116) 2 rfl e116 (field_col2 _ _ _)⟩
          | 61, _, hsi, hde =>
            have e117 : a'.eval (.tmp 117) = .pointer (some ⟨b, o + 2, none⟩) := hA.at 60 (by omega) (hde 60 (by kernel_rfl))
            exact ⟨_, rfl, gx_load _ (.tmp 117) rfl e117 (load_oneG Try.underlying3 rfl (hx'.keeps G0C.out))⟩
          | 62, _, hsi, hde =>
            have e114 : a'.eval (.tmp 114) = .int .i64 (Ck : Int) := hA.at 57 (by omega) (hde 57 (by kernel_rfl))
            have e118 : a'.eval (.tmp 118) = .int .i64 (C0 : Int) := hA.at 61 (by omega) (hde 61 (by kernel_rfl))
            exact ⟨_, rfl, gx_bin .neq _ _ (.tmp 114) (.tmp 118) rfl e114 e118 (eqg_int _ _ _ _ _ _ _ _) (bin_neq _ q6.out)⟩
          | 63, _, hsi, hde =>
            have e109 : a'.eval (.tmp 109) = .bool true := hA.at 52 (by omega) (hde 52 (by kernel_rfl))
            have e119 : a'.eval (.tmp 119) = .bool false := hA.at 62 (by omega) (hde 62 (by kernel_rfl))
            exact ⟨_, rfl, gx_pickt (.tmp 109) (.tmp 119) _ rfl e109 e119⟩
          | 64, _, hsi, hde =>
            have e103 : a'.eval (.tmp 103) = .bool false := hA.at 46 (by omega) (hde 46 (by kernel_rfl))
            have e120 : a'.eval (.tmp 120) = .bool false := hA.at 63 (by omega) (hde 63 (by kernel_rfl))
            exact ⟨_, rfl, gx_pickf (.tmp 103) _ (.tmp 120) rfl e103 e120⟩
          | 65, _, hsi, hde =>
            have e121 : a'.eval (.tmp 121) = .bool false := hA.at 64 (by omega) (hde 64 (by kernel_rfl))
            exact ⟨_, rfl, gx_move (.tmp 121) rfl e121⟩
          | 66, _, hsi, hde =>
            have e13 : a'.eval (.tmp 13) = .slice (some ⟨b, o, none⟩) n cp := hA.eval 13 (fun j _ => by show 57 + j ≠ 13; omega)
            exact ⟨_, rfl, gx_move (.tmp 13) rfl e13⟩
          | 67, _, hsi, hde =>
            have e123 : a'.eval (.tmp 123) = .slice (some ⟨b, o, none⟩) n cp := hA.at 66 (by omega) (hde 66 (by kernel_rfl))
            exact ⟨_, rfl, gx_index _ (.tmp 123) (.const (.int .i64 0)) rfl e123 rfl (idx_col0 _ (by omega))⟩
          | 68, _, hsi, hde =>
            have e124 : a'.eval (.tmp 124) = .pointer (some ⟨b, o, none⟩) := hA.at 67 (by omega) (hde 67 (by kernel_rfl))
            exact ⟨_, rfl, gx_field _ (.tmp 124) 2 rfl e124 (field_col2 _ _ _)⟩
          | 69, _, hsi, hde =>
            have e125 : a'.eval (.tmp 125) = .pointer (some ⟨b, o + 2, none⟩) := hA.at 68 (by omega) (hde 68 (by kernel_rfl))
            exact ⟨_, rfl, gx_load _ (.tmp 125) rfl e125 (load_oneG Try.underlying3 rfl (hx'.keeps G0C.out))⟩
          | 70, _, hsi, hde =>
            have e13 : a'.eval (.tmp 13) = .slice (some ⟨b, o, none⟩) n cp := hA.eval 13 (fun j _ => by show 57 + j ≠ 13; omega)
            exact ⟨_, rfl, gx_move (.tmp 13) rfl e13⟩
          | 71, _, hsi, hde =>
            have e16 : a'.eval (.tmp 16) = .int .i64 (k : Int) := hA.eval 16 (fun j _ => by show 57 + j ≠ 16; omega)
            exact ⟨_, rfl, gx_move (.tmp 16) rfl e16⟩
          | 72, _, hsi, hde =>
            have e127 : a'.eval (.tmp 127) = .slice (some ⟨b, o, none⟩) n cp := hA.at 70 (by omega) (hde 70 (by kernel_rfl))
            have e128 : a'.eval (.tmp 128) = .int .i64 (k : Int) := hA.at 71 (by omega) (hde 71 (by kernel_rfl))
            exact ⟨_, rfl, gx_index _ (.tmp 127) (.tmp 128) rfl e127 e128 (idx_col _ hlt)⟩
          | 73, _, hsi, hde =>
            have e129 : a'.eval (.tmp 129) = .pointer (some ⟨b, o + k * 4, none⟩) := hA.at 72 (by omega) (hde 72 (by kernel_rfl))
            exact ⟨_, rfl, gx_field _ (.tmp 129) 2 rfl e129 (field_col2 _ _ _)⟩
          | 74, _, hsi, hde =>
            have e130 : a'.eval (.tmp 130) = .pointer (some ⟨b, o + k * 4 + 2, none⟩) := hA.at 73 (by omega) (hde 73 (by kernel_rfl))
            exact ⟨_, rfl, gx_load _ (.tmp 130) rfl e130 (load_oneG Try.underlying3 rfl (hx'.keeps GkC.out))⟩
          | 75, _, hsi, hde =>
            have e126 : a'.eval (.tmp 126) = .int .i64 (C0 : Int) := hA.at 69 (by omega) (hde 69 (by kernel_rfl))
            have e131 : a'.eval (.tmp 131) = .int .i64 (Ck : Int) := hA.at 74 (by omega) (hde 74 (by kernel_rfl))
            exact ⟨_, rfl, gx_bin .sub _ _ (.tmp 126) (.tmp 131) rfl e126 e131 (eqg_int _ _ _ _ _ _ _ _) (bin_sub _ (by omega))⟩
          | 76, _, hsi, hde =>
            have e132 : a'.eval (.tmp 132) = .int .i64 ((C0 : Int) - (Ck : Int)) := hA.at 75 (by omega) (hde 75 (by kernel_rfl))
            exact ⟨_, rfl, gx_bin .gtr _ _ (.tmp 132) (.const (.int .i64 1)) rfl e132 rfl (eqg_int _ _ _ _ _ _ _ _) (bin_gtr _ q5.out)⟩
          | x + 77, h, _, _ => exact absurd h (by omega)
        intro wz hxz
        have HXZ : Hid (Ext w2 wz) := hx.trans hxz
        clear hxz
        show wpList Try.prog _ _ [_] _ _
        have hput : ∀ a0 : Act, putAll (fun i => 57 + i) (apT b o n cp k D P Dk Ck C0) a0 77 = (((((((((((((((((((((((((((((((((((((((((((((((((((((((((((((((((((((((((((((a0.put (some 57) (.slice (some ⟨b, o, none⟩) n cp)).put (some 58) (.int .i64 (k : Int))).put (some 59) (.pointer (some ⟨b, o + k * 4, none⟩))).put (some 60) (.pointer (some ⟨b, o + k * 4, none⟩))).put (some 61) (.int .i64 (Dk : Int))).put (some 62) (.bool false)).put (some 63) (.bool false)).put (some 64) (.slice (some ⟨b, o, none⟩) n cp)).put (some 65) (.int .i64 (k : Int))).put (some 66) (.pointer (some ⟨b, o + k * 4, none⟩))).put (some 67) (.pointer (some ⟨b, o + k * 4, none⟩))).put (some 68) (.int .i64 (Dk : Int))).put (some 69) (.int .i64 (D : Int))).put (some 70) (.bool false)).put (some 71) (.bool false)).put (some 72) (.bool false)).put (some 73) (.slice (some ⟨b, o, none⟩) n cp)).put (some 74) (.int .i64 (k : Int))).put (some 75) (.pointer (some ⟨b, o + k * 4, none⟩))).put (some 76) (.pointer (some ⟨b, o + k * 4 + 3, none⟩))).put (some 77) (.bool true)).put (some 78) (.int .i64 (k : Int))).put (some 79) (.int .i64 (P : Int))).put (some 80) (.bool true)).put (some 81) (.bool false)).put (some 82) (.bool false)).put (some 83) (.bool false)).put (some 84) (.slice (some ⟨b, o, none⟩) n cp)).put (some 85) (.int .i64 (k : Int))).put (some 86) (.pointer (some ⟨b, o + k * 4, none⟩))).put (some 87) (.pointer (some ⟨b, o + k * 4 + 2, none⟩))).put (some 88) (.int .i64 (Ck : Int))).put (some 89) (.bool false)).put (some 90) (.bool false)).put (some 91) (.bool false)).put (some 92) (.slice (some ⟨b, o, none⟩) n cp)).put (some 93) (.int .i64 (k : Int))).put (some 94) (.pointer (some ⟨b, o + k * 4, none⟩))).put (some 95) (.pointer (some ⟨b, o + k * 4 + 2, none⟩))).put (some 96) (.int .i64 (Ck : Int))).put (some 97) (.slice (some ⟨b, o, none⟩) n cp)).put (some 98) (.pointer (some ⟨b, o, none⟩))).put (some 99) (.pointer (some ⟨b, o + 2, none⟩))).put (some 100) (.int .i64 (C0 : Int))).put (some 101) (.bool false)).put (some 102) (.bool false)).put (some 103) (.bool false)).put (some 104) (.slice (some ⟨b, o, none⟩) n cp)).put (some 105) (.int .i64 (k : Int))).put (some 106) (.pointer (some ⟨b, o + k * 4, none⟩))).put (some 107) (.pointer (some ⟨b, o + k * 4 + 3, none⟩))).put (some 108) (.bool true)).put (some 109) (.bool true)).put (some 110) (.slice (some ⟨b, o, none⟩) n cp)).put (some 111) (.int .i64 (k : Int))).put (some 112) (.pointer (some ⟨b, o + k * 4, none⟩))).put (some 113) (.pointer (some ⟨b, o + k * 4 + 2, none⟩))).put (some 114) (.int .i64 (Ck : Int))).put (some 115) (.slice (some ⟨b, o, none⟩) n cp)).put (some 116) (.pointer (some ⟨b, o, none⟩))).put (some 117) (.pointer (some ⟨b, o + 2, none⟩))).put (some 118) (.int .i64 (C0 : Int))).put (some 119) (.bool false)).put (some 120) (.bool false)).put (some 121) (.bool false)).put (some 122) (.bool false)).put (some 123) (.slice (some ⟨b, o, none⟩) n cp)).put (some 124) (.pointer (some ⟨b, o, none⟩))).put (some 125) (.pointer (some ⟨b, o + 2, none⟩))).put (some 126) (.int .i64 (C0 : Int))).put (some 127) (.slice (some ⟨b, o, none⟩) n cp)).put (some 128) (.int .i64 (k : Int))).put (some 129) (.pointer (some ⟨b, o + k * 4, none⟩))).put (some 130) (.pointer (some ⟨b, o + k * 4 + 2, none⟩))).put (some 131) (.int .i64 (Ck : Int))).put (some 132) (.int .i64 ((C0 : Int) - (Ck : Int)))).put (some 133) (.bool false)) := fun _ => rfl
        rw [hput]
        simp only [Act.put, List.setIfInBounds_toArray, List.set_cons_succ, List.set_cons_zero]
        clear hput
        set_option maxRecDepth 1000000 in
        go_wp2_with fail
        clear q1 q2 q3 q4 q5 q8 GkD GkC G0C GkB hx q6
        go_loopw [17] (fun j wq => ∃ l : Nat, l ≤ k ∧ j = .int .i64 l ∧ Ext w2 wq) (fun j _ => k - (intOf j).toNat)
        case atStart => exact ⟨0, Nat.zero_le _, rfl, HXZ.out⟩
        case round =>
          obtain ⟨l, hl, rfl, hxq⟩ := hrel
          by_cases hlk : l < k
          · have hgl := HG.out l (by omega)
            obtain ⟨Dl, hDl⟩ : ∃ Dl : Nat, Dl = (A + l) % D := ⟨_, rfl⟩
            have hne : Dl ≠ Dk := by
              rw [hDl, HDk.out]
              exact mod_apart A D k l (by omega) hlk
            rw [← hDl] at hgl
            obtain ⟨b5, o5, hbo, hl0, _, _, _⟩ := col_at (HE.out.ext hxq) hgl
            cases hbo
            obtain ⟨b6, o6, hbo, hm0, _, _, _⟩ := col_at (HE.out.ext hxq) (HGk.out)
            cases hbo
            have hneq : ((Dl : Int) == (Dk : Int)) = false := by rw [beq_eq_false_iff_ne]; omega
            have i3 : (l : Int) < (n : Int) := by omega
            clear hgl hDl hne
            set_option maxRecDepth 1000000 in
            go_wp2_with fail
            set_option maxRecDepth 1000000 in
            go_quiet (fail)
            set_option maxRecDepth 1000000 in
            go_wp2_with fail
            go_roundw
            case rel => exact ⟨l + 1, by omega, by go_num, hxq.drewG _⟩
            case measure => simp [intOf]; omega
          · obtain rfl : l = k := by omega
            obtain ⟨b6, o6, hbo, hm0, _, hm2, hm3⟩ := col_at (HE.out.ext hxq) (HGk.out)
            cases hbo
            rw [decide_eq_true hkP] at hm3
            clear hlk hl
            set_option maxRecDepth 1000000 in
            go_wp2_with fail
            go_roundw
            case rel => exact ⟨l + 1, S, by omega, by go_num, by go_num, HS2.out, by omega, hxq⟩
            case measure => simp [intOf]; omega
      · rw [decide_eq_false hkP] at hk3
        have GkB : Hid (wr.cell? ⟨b, o + k * 4 + 3, none⟩ = some (.bool false)) := hk3
        have q8 : Hid (decide ((k : Int) < (P : Int)) = false) := decide_eq_false (by omega)
        have HS2 : Hid (S + Ck = datS D P (1 + C) (k + 1)) := by
          show S + Ck = datS D P (1 + C) k + if k < P then 0 else cntC D P (1 + C) k
          rw [if_neg hkP]
          have h1 := HSm.out
          have h2 := HCk.out
          omega
        clear p4 hk3
        set_option maxRecDepth 1000000 in
        go_wp2_with fail
        refine wp_region_reads (P := Try.prog) 77 (by kernel_rfl) (by kernel_rfl) (fun i => 57 + i) (apF b o n cp k D P Dk Ck C0) (fun i => decide (53 ≤ i) && decide (i < 63)) (fun i => i == 52 && false) [6, 15, 26, 34, 46, 52, 65] (by kernel_rfl) (by kernel_rfl) (fun g hg => by
          simp only [List.mem_cons, List.not_mem_nil, or_false] at hg
          rcases hg with rfl | rfl | rfl | rfl | rfl | rfl | rfl <;> rfl) (fun i h => by
            have h : (decide (53 ≤ i) && decide (i < 63)) = true := h
            simp only [Bool.and_eq_true, decide_eq_true_eq] at h
            obtain ⟨j, rfl⟩ : ∃ j, i = 53 + j := ⟨i - 53, by omega⟩
            match j, (by omega : j < 10) with
            | 0, _ => rfl
            | 1, _ => rfl
            | 2, _ => rfl
            | 3, _ => rfl
            | 4, _ => rfl
            | 5, _ => rfl
            | 6, _ => rfl
            | 7, _ => rfl
            | 8, _ => rfl
            | 9, _ => rfl
            ) (fun i j _ _ h => by have h : 57 + i = 57 + j := h; omega) (fun i hi => by show 57 + i < 167; omega) ?_ ?_
        · intro L i a' w' hi77 _ hsi hde hA hx'
          match i, hi77, hsi, hde with
          | 0, _, hsi, hde =>
            have e13 : a'.eval (.tmp 13) = .slice (some ⟨b, o, none⟩) n cp := hA.eval 13 (fun j _ => by show 57 + j ≠ 13; omega)
            exact ⟨_, rfl, gx_move (.tmp 13) rfl e13⟩
          | 1, _, hsi, hde =>
            have e16 : a'.eval (.tmp 16) = .int .i64 (k : Int) := hA.eval 16 (fun j _ => by show 57 + j ≠ 16; omega)
            exact ⟨_, rfl, gx_move (.tmp 16) rfl e16⟩
          | 2, _, hsi, hde =>
            have e57 : a'.eval (.tmp 57) = .slice (some ⟨b, o, none⟩) n cp := hA.at 0 (by omega) (hde 0 (by kernel_rfl))
            have e58 : a'.eval (.tmp 58) = .int .i64 (k : Int) := hA.at 1 (by omega) (hde 1 (by kernel_rfl))
            exact ⟨_, rfl, gx_index _ (.tmp 57) (.tmp 58) rfl e57 e58 (idx_col _ hlt)⟩
          | 3, _, hsi, hde =>
            have e59 : a'.eval (.tmp 59) = .pointer (some ⟨b, o + k * 4, none⟩) := hA.at 2 (by omega) (hde 2 (by kernel_rfl))
            exact ⟨_, rfl, gx_field _ (.tmp 59) 0 rfl e59 (field_col0 _ _ _)⟩
          | 4, _, hsi, hde =>
            have e60 : a'.eval (.tmp 60) = .pointer (some ⟨b, o + k * 4, none⟩) := hA.at 3 (by omega) (hde 3 (by kernel_rfl))
            exact ⟨_, rfl, gx_load _ (.tmp 60) rfl e60 (load_oneG Try.underlying3 rfl (hx'.keeps GkD.out))⟩
          | 5, _, hsi, hde =>
            have e61 : a'.eval (.tmp 61) = .int .i64 (Dk : Int) := hA.at 4 (by omega) (hde 4 (by kernel_rfl))
            exact ⟨_, rfl, gx_bin .lss _ _ (.tmp 61) (.const (.int .i64 0)) rfl e61 rfl (eqg_int _ _ _ _ _ _ _ _) (bin_lss _ q1.out)⟩
          | 6, _, hsi, hde =>
            have e62 : a'.eval (.tmp 62) = .bool false := hA.at 5 (by omega) (hde 5 (by kernel_rfl))
            exact ⟨_, rfl, gx_move (.tmp 62) rfl e62⟩
          | 7, _, hsi, hde =>
            have e13 : a'.eval (.tmp 13) = .slice (some ⟨b, o, none⟩) n cp := hA.eval 13 (fun j _ => by show 57 + j ≠ 13; omega)
            exact ⟨_, rfl, gx_move (.tmp 13) rfl e13⟩
          | 8, _, hsi, hde =>
            have e16 : a'.eval (.tmp 16) = .int .i64 (k : Int) := hA.eval 16 (fun j _ => by show 57 + j ≠ 16; omega)
            exact ⟨_, rfl, gx_move (.tmp 16) rfl e16⟩
          | 9, _, hsi, hde =>
            have e64 : a'.eval (.tmp 64) = .slice (some ⟨b, o, none⟩) n cp := hA.at 7 (by omega) (hde 7 (by kernel_rfl))
            have e65 : a'.eval (.tmp 65) = .int .i64 (k : Int) := hA.at 8 (by omega) (hde 8 (by kernel_rfl))
            exact ⟨_, rfl, gx_index _ (.tmp 64) (.tmp 65) rfl e64 e65 (idx_col _ hlt)⟩
          | 10, _, hsi, hde =>
            have e66 : a'.eval (.tmp 66) = .pointer (some ⟨b, o + k * 4, none⟩) := hA.at 9 (by omega) (hde 9 (by kernel_rfl))
            exact ⟨_, rfl, gx_field _ (.tmp 66) 0 rfl e66 (field_col0 _ _ _)⟩
          | 11, _, hsi, hde =>
            have e67 : a'.eval (.tmp 67) = .pointer (some ⟨b, o + k * 4, none⟩) := hA.at 10 (by omega) (hde 10 (by kernel_rfl))
            exact ⟨_, rfl, gx_load _ (.tmp 67) rfl e67 (load_oneG Try.underlying3 rfl (hx'.keeps GkD.out))⟩
          | 12, _, hsi, hde =>
            have e9 : a'.eval (.tmp 9) = .int .i64 (D : Int) := hA.eval 9 (fun j _ => by show 57 + j ≠ 9; omega)
            exact ⟨_, rfl, gx_move (.tmp 9) rfl e9⟩
          | 13, _, hsi, hde =>
            have e68 : a'.eval (.tmp 68) = .int .i64 (Dk : Int) := hA.at 11 (by omega) (hde 11 (by kernel_rfl))
            have e69 : a'.eval (.tmp 69) = .int .i64 (D : Int) := hA.at 12 (by omega) (hde 12 (by kernel_rfl))
            exact ⟨_, rfl, gx_bin .geq _ _ (.tmp 68) (.tmp 69) rfl e68 e69 (eqg_int _ _ _ _ _ _ _ _) (bin_geq _ q2.out)⟩
          | 14, _, hsi, hde =>
            have e63 : a'.eval (.tmp 63) = .bool false := hA.at 6 (by omega) (hde 6 (by kernel_rfl))
            have e70 : a'.eval (.tmp 70) = .bool false := hA.at 13 (by omega) (hde 13 (by kernel_rfl))
            exact ⟨_, rfl, gx_pickf (.tmp 63) _ (.tmp 70) rfl e63 e70⟩
          | 15, _, hsi, hde =>
            have e71 : a'.eval (.tmp 71) = .bool false := hA.at 14 (by omega) (hde 14 (by kernel_rfl))
            exact ⟨_, rfl, gx_move (.tmp 71) rfl e71⟩
          | 16, _, hsi, hde =>
            have e13 : a'.eval (.tmp 13) = .slice (some ⟨b, o, none⟩) n cp := hA.eval 13 (fun j _ => by show 57 + j ≠ 13; omega)
            exact ⟨_, rfl, gx_move (.tmp 13) rfl e13⟩
          | 17, _, hsi, hde =>
            have e16 : a'.eval (.tmp 16) = .int .i64 (k : Int) := hA.eval 16 (fun j _ => by show 57 + j ≠ 16; omega)
            exact ⟨_, rfl, gx_move (.tmp 16) rfl e16⟩
          | 18, _, hsi, hde =>
            have e73 : a'.eval (.tmp 73) = .slice (some ⟨b, o, none⟩) n cp := hA.at 16 (by omega) (hde 16 (by kernel_rfl))
            have e74 : a'.eval (.tmp 74) = .int .i64 (k : Int) := hA.at 17 (by omega) (hde 17 (by kernel_rfl))
            exact ⟨_, rfl, gx_index _ (.tmp 73) (.tmp 74) rfl e73 e74 (idx_col _ hlt)⟩
          | 19, _, hsi, hde =>
            have e75 : a'.eval (.tmp 75) = .pointer (some ⟨b, o + k * 4, none⟩) := hA.at 18 (by omega) (hde 18 (by kernel_rfl))
            exact ⟨_, rfl, gx_field _ (.tmp 75) 3 rfl e75 (field_col3 _ _ _)⟩
          | 20, _, hsi, hde =>
            have e76 : a'.eval (.tmp 76) = .pointer (some ⟨b, o + k * 4 + 3, none⟩) := hA.at 19 (by omega) (hde 19 (by kernel_rfl))
            exact ⟨_, rfl, gx_load _ (.tmp 76) rfl e76 (load_oneG Try.underlying4 rfl (hx'.keeps GkB.out))⟩
          | 21, _, hsi, hde =>
            have e16 : a'.eval (.tmp 16) = .int .i64 (k : Int) := hA.eval 16 (fun j _ => by show 57 + j ≠ 16; omega)
            exact ⟨_, rfl, gx_move (.tmp 16) rfl e16⟩
          | 22, _, hsi, hde =>
            have e10 : a'.eval (.tmp 10) = .int .i64 (P : Int) := hA.eval 10 (fun j _ => by show 57 + j ≠ 10; omega)
            exact ⟨_, rfl, gx_move (.tmp 10) rfl e10⟩
          | 23, _, hsi, hde =>
            have e78 : a'.eval (.tmp 78) = .int .i64 (k : Int) := hA.at 21 (by omega) (hde 21 (by kernel_rfl))
            have e79 : a'.eval (.tmp 79) = .int .i64 (P : Int) := hA.at 22 (by omega) (hde 22 (by kernel_rfl))
            exact ⟨_, rfl, gx_bin .lss _ _ (.tmp 78) (.tmp 79) rfl e78 e79 (eqg_int _ _ _ _ _ _ _ _) (bin_lss _ q8.out)⟩
          | 24, _, hsi, hde =>
            have e77 : a'.eval (.tmp 77) = .bool false := hA.at 20 (by omega) (hde 20 (by kernel_rfl))
            have e80 : a'.eval (.tmp 80) = .bool false := hA.at 23 (by omega) (hde 23 (by kernel_rfl))
            exact ⟨_, rfl, gx_bin .neq _ _ (.tmp 77) (.tmp 80) rfl e77 e80 (eqg_bool _ _ _ _ _ _) (bin_neqB _ Try.underlying4 _)⟩
          | 25, _, hsi, hde =>
            have e72 : a'.eval (.tmp 72) = .bool false := hA.at 15 (by omega) (hde 15 (by kernel_rfl))
            have e81 : a'.eval (.tmp 81) = .bool false := hA.at 24 (by omega) (hde 24 (by kernel_rfl))
            exact ⟨_, rfl, gx_pickf (.tmp 72) _ (.tmp 81) rfl e72 e81⟩
          | 26, _, hsi, hde =>
            have e82 : a'.eval (.tmp 82) = .bool false := hA.at 25 (by omega) (hde 25 (by kernel_rfl))
            exact ⟨_, rfl, gx_move (.tmp 82) rfl e82⟩
          | 27, _, hsi, hde =>
            have e13 : a'.eval (.tmp 13) = .slice (some ⟨b, o, none⟩) n cp := hA.eval 13 (fun j _ => by show 57 + j ≠ 13; omega)
            exact ⟨_, rfl, gx_move (.tmp 13) rfl e13⟩
          | 28, _, hsi, hde =>
            have e16 : a'.eval (.tmp 16) = .int .i64 (k : Int) := hA.eval 16 (fun j _ => by show 57 + j ≠ 16; omega)
            exact ⟨_, rfl, gx_move (.tmp 16) rfl e16⟩
          | 29, _, hsi, hde =>
            have e84 : a'.eval (.tmp 84) = .slice (some ⟨b, o, none⟩) n cp := hA.at 27 (by omega) (hde 27 (by kernel_rfl))
            have e85 : a'.eval (.tmp 85) = .int .i64 (k : Int) := hA.at 28 (by omega) (hde 28 (by kernel_rfl))
            exact ⟨_, rfl, gx_index _ (.tmp 84) (.tmp 85) rfl e84 e85 (idx_col _ hlt)⟩
          | 30, _, hsi, hde =>
            have e86 : a'.eval (.tmp 86) = .pointer (some ⟨b, o + k * 4, none⟩) := hA.at 29 (by omega) (hde 29 (by kernel_rfl))
            exact ⟨_, rfl, gx_field _ (.tmp 86) 2 rfl e86 (field_col2 _ _ _)⟩
          | 31, _, hsi, hde =>
            have e87 : a'.eval (.tmp 87) = .pointer (some ⟨b, o + k * 4 + 2, none⟩) := hA.at 30 (by omega) (hde 30 (by kernel_rfl))
            exact ⟨_, rfl, gx_load _ (.tmp 87) rfl e87 (load_oneG Try.underlying3 rfl (hx'.keeps GkC.out))⟩
          | 32, _, hsi, hde =>
            have e88 : a'.eval (.tmp 88) = .int .i64 (Ck : Int) := hA.at 31 (by omega) (hde 31 (by kernel_rfl))
            exact ⟨_, rfl, gx_bin .lss _ _ (.tmp 88) (.const (.int .i64 1)) rfl e88 rfl (eqg_int _ _ _ _ _ _ _ _) (bin_lss _ q3.out)⟩
          | 33, _, hsi, hde =>
            have e83 : a'.eval (.tmp 83) = .bool false := hA.at 26 (by omega) (hde 26 (by kernel_rfl))
            have e89 : a'.eval (.tmp 89) = .bool false := hA.at 32 (by omega) (hde 32 (by kernel_rfl))
            exact ⟨_, rfl, gx_pickf (.tmp 83) _ (.tmp 89) rfl e83 e89⟩
          | 34, _, hsi, hde =>
            have e90 : a'.eval (.tmp 90) = .bool false := hA.at 33 (by omega) (hde 33 (by kernel_rfl))
            exact ⟨_, rfl, gx_move (.tmp 90) rfl e90⟩
          | 35, _, hsi, hde =>
            have e13 : a'.eval (.tmp 13) = .slice (some ⟨b, o, none⟩) n cp := hA.eval 13 (fun j _ => by show 57 + j ≠ 13; omega)
            exact ⟨_, rfl, gx_move (.tmp 13) rfl e13⟩
          | 36, _, hsi, hde =>
            have e16 : a'.eval (.tmp 16) = .int .i64 (k : Int) := hA.eval 16 (fun j _ => by show 57 + j ≠ 16; omega)
            exact ⟨_, rfl, gx_move (.tmp 16) rfl e16⟩
          | 37, _, hsi, hde =>
            have e92 : a'.eval (.tmp 92) = .slice (some ⟨b, o, none⟩) n cp := hA.at 35 (by omega) (hde 35 (by kernel_rfl))
            have e93 : a'.eval (.tmp 93) = .int .i64 (k : Int) := hA.at 36 (by omega) (hde 36 (by kernel_rfl))
            exact ⟨_, rfl, gx_index _ (.tmp 92) (.tmp 93) rfl e92 e93 (idx_col _ hlt)⟩
          | 38, _, hsi, hde =>
            have e94 : a'.eval (.tmp 94) = .pointer (some ⟨b, o + k * 4, none⟩) := hA.at 37 (by omega) (hde 37 (by kernel_rfl))
            exact ⟨_, rfl, gx_field _ (.tmp 94) 2 rfl e94 (field_col2 _ _ _)⟩
          | 39, _, hsi, hde =>
            have e95 : a'.eval (.tmp 95) = .pointer (some ⟨b, o + k * 4 + 2, none⟩) := hA.at 38 (by omega) (hde 38 (by kernel_rfl))
            exact ⟨_, rfl, gx_load _ (.tmp 95) rfl e95 (load_oneG Try.underlying3 rfl (hx'.keeps GkC.out))⟩
          | 40, _, hsi, hde =>
            have e13 : a'.eval (.tmp 13) = .slice (some ⟨b, o, none⟩) n cp := hA.eval 13 (fun j _ => by show 57 + j ≠ 13; omega)
            exact ⟨_, rfl, gx_move (.tmp 13) rfl e13⟩
          | 41, _, hsi, hde =>
            have e97 : a'.eval (.tmp 97) = .slice (some ⟨b, o, none⟩) n cp := hA.at 40 (by omega) (hde 40 (by kernel_rfl))
            exact ⟨_, rfl, gx_index _ (.tmp 97) (.const (.int .i64 0)) rfl e97 rfl (idx_col0 _ (by omega))⟩
          | 42, _, hsi, hde =>
            have e98 : a'.eval (.tmp 98) = .pointer (some ⟨b, o, none⟩) := hA.at 41 (by omega) (hde 41 (by kernel_rfl))
            exact ⟨_, rfl, gx_field _ (.tmp 98) 2 rfl e98 (field_col2 _ _ _)⟩
          | 43, _, hsi, hde =>
            have e99 : a'.eval (.tmp 99) = .pointer (some ⟨b, o + 2, none⟩) := hA.at 42 (by omega) (hde 42 (by kernel_rfl))
            exact ⟨_, rfl, gx_load _ (.tmp 99) rfl e99 (load_oneG Try.underlying3 rfl (hx'.keeps G0C.out))⟩
          | 44, _, hsi, hde =>
            have e96 : a'.eval (.tmp 96) = .int .i64 (Ck : Int) := hA.at 39 (by omega) (hde 39 (by kernel_rfl))
            have e100 : a'.eval (.tmp 100) = .int .i64 (C0 : Int) := hA.at 43 (by omega) (hde 43 (by kernel_rfl))
            exact ⟨_, rfl, gx_bin .gtr _ _ (.tmp 96) (.tmp 100) rfl e96 e100 (eqg_int _ _ _ _ _ _ _ _) (bin_gtr _ q4.out)⟩
          | 45, _, hsi, hde =>
            have e91 : a'.eval (.tmp 91) = .bool false := hA.at 34 (by omega) (hde 34 (by kernel_rfl))
            have e101 : a'.eval (.tmp 101) = .bool false := hA.at 44 (by omega) (hde 44 (by kernel_rfl))
            exact ⟨_, rfl, gx_pickf (.tmp 91) _ (.tmp 101) rfl e91 e101⟩
          | 46, _, hsi, hde =>
            have e102 : a'.eval (.tmp 102) = .bool false := hA.at 45 (by omega) (hde 45 (by kernel_rfl))
            exact ⟨_, rfl, gx_move (.tmp 102) rfl e102⟩
          | 47, _, hsi, hde =>
            have e13 : a'.eval (.tmp 13) = .slice (some ⟨b, o, none⟩) n cp := hA.eval 13 (fun j _ => by show 57 + j ≠ 13; omega)
            exact ⟨_, rfl, gx_move (.tmp 13) rfl e13⟩
          | 48, _, hsi, hde =>
            have e16 : a'.eval (.tmp 16) = .int .i64 (k : Int) := hA.eval 16 (fun j _ => by show 57 + j ≠ 16; omega)
            exact ⟨_, rfl, gx_move (.tmp 16) rfl e16⟩
          | 49, _, hsi, hde =>
            have e104 : a'.eval (.tmp 104) = .slice (some ⟨b, o, none⟩) n cp := hA.at 47 (by omega) (hde 47 (by kernel_rfl))
            have e105 : a'.eval (.tmp 105) = .int .i64 (k : Int) := hA.at 48 (by omega) (hde 48 (by kernel_rfl))
            exact ⟨_, rfl, gx_index _ (.tmp 104) (.tmp 105) rfl e104 e105 (idx_col _ hlt)⟩
          | 50, _, hsi, hde =>
            have e106 : a'.eval (.tmp 106) = .pointer (some ⟨b, o + k * 4, none⟩) := hA.at 49 (by omega) (hde 49 (by kernel_rfl))
            exact ⟨_, rfl, gx_field _ (.tmp 106) 3 rfl e106 (field_col3 _ _ _)⟩
          | 51, _, hsi, hde =>
            have e107 : a'.eval (.tmp 107) = .pointer (some ⟨b, o + k * 4 + 3, none⟩) := hA.at 50 (by omega) (hde 50 (by kernel_rfl))
            exact ⟨_, rfl, gx_load _ (.tmp 107) rfl e107 (load_oneG Try.underlying4 rfl (hx'.keeps GkB.out))⟩
          | 52, _, hsi, hde =>
            have e108 : a'.eval (.tmp 108) = .bool false := hA.at 51 (by omega) (hde 51 (by kernel_rfl))
            exact ⟨_, rfl, gx_move (.tmp 108) rfl e108⟩
          | 53, _, hsi, hde => cases hsi
          | 54, _, hsi, hde => cases hsi
          | 55, _, hsi, hde => cases hsi
          | 56, _, hsi, hde => cases hsi
          | 57, _, hsi, hde => cases hsi
          | 58, _, hsi, hde => cases hsi
          | 59, _, hsi, hde => cases hsi
          | 60, _, hsi, hde => cases hsi
          | 61, _, hsi, hde => cases hsi
          | 62, _, hsi, hde => cases hsi
          | 63, _, hsi, hde =>
            have e109 : a'.eval (.tmp 109) = .bool false := hA.at 52 (by omega) (hde 52 (by kernel_rfl))
            exact ⟨_, rfl, gx_pickf (.tmp 109) _ (.const (.bool false)) rfl e109 rfl⟩
          | 64, _, hsi, hde =>
            have e103 : a'.eval (.tmp 103) = .bool false := hA.at 46 (by omega) (hde 46 (by kernel_rfl))
            have e120 : a'.eval (.tmp 120) = .bool false := hA.at 63 (by omega) (hde 63 (by kernel_rfl))
            exact ⟨_, rfl, gx_pickf (.tmp 103) _ (.tmp 120) rfl e103 e120⟩
          | 65, _, hsi, hde =>
            have e121 : a'.eval (.tmp 121) = .bool false := hA.at 64 (by omega) (hde 64 (by kernel_rfl))
            exact ⟨_, rfl, gx_move (.tmp 121) rfl e121⟩
          | 66, _, hsi, hde =>
            have e13 : a'.eval (.tmp 13) = .slice (some ⟨b, o, none⟩) n cp := hA.eval 13 (fun j _ => by show 57 + j ≠ 13; omega)
            exact ⟨_, rfl, gx_move (.tmp 13) rfl e13⟩
          | 67, _, hsi, hde =>
            have e123 : a'.eval (.tmp 123) = .slice (some ⟨b, o, none⟩) n cp := hA.at 66 (by omega) (hde 66 (by kernel_rfl))
            exact ⟨_, rfl, gx_index _ (.tmp 123) (.const (.int .i64 0)) rfl e123 rfl (idx_col0 _ (by omega))⟩
          | 68, _, hsi, hde =>
            have e124 : a'.eval (.tmp 124) = .pointer (some ⟨b, o, none⟩) := hA.at 67 (by omega) (hde 67 (by kernel_rfl))
            exact ⟨_, rfl, gx_field _ (.tmp 124) 2 rfl e124 (field_col2 _ _ _)⟩
          | 69, _, hsi, hde =>
            have e125 : a'.eval (.tmp 125) = .pointer (some ⟨b, o + 2, none⟩) := hA.at 68 (by omega) (hde 68 (by kernel_rfl))
            exact ⟨_, rfl, gx_load _ (.tmp 125) rfl e125 (load_oneG Try.underlying3 rfl (hx'.keeps G0C.out))⟩
          | 70, _, hsi, hde =>
            have e13 : a'.eval (.tmp 13) = .slice (some ⟨b, o, none⟩) n cp := hA.eval 13 (fun j _ => by show 57 + j ≠ 13; omega)
            exact ⟨_, rfl, gx_move (.tmp 13) rfl e13⟩
          | 71, _, hsi, hde =>
            have e16 : a'.eval (.tmp 16) = .int .i64 (k : Int) := hA.eval 16 (fun j _ => by show 57 + j ≠ 16; omega)
            exact ⟨_, rfl, gx_move (.tmp 16) rfl e16⟩
          | 72, _, hsi, hde =>
            have e127 : a'.eval (.tmp 127) = .slice (some ⟨b, o, none⟩) n cp := hA.at 70 (by omega) (hde 70 (by kernel_rfl))
            have e128 : a'.eval (.tmp 128) = .int .i64 (k : Int) := hA.at 71 (by omega) (hde 71 (by kernel_rfl))
            exact ⟨_, rfl, gx_index _ (.tmp 127) (.tmp 128) rfl e127 e128 (idx_col _ hlt)⟩
          | 73, _, hsi, hde =>
            have e129 : a'.eval (.tmp 129) = .pointer (some ⟨b, o + k * 4, none⟩) := hA.at 72 (by omega) (hde 72 (by kernel_rfl))
            exact ⟨_, rfl, gx_field _ (.tmp 129) 2 rfl e129 (field_col2 _ _ _)⟩
          | 74, _, hsi, hde =>
            have e130 : a'.eval (.tmp 130) = .pointer (some ⟨b, o + k * 4 + 2, none⟩) := hA.at 73 (by omega) (hde 73 (by kernel_rfl))
            exact ⟨_, rfl, gx_load _ (.tmp 130) rfl e130 (load_oneG Try.underlying3 rfl (hx'.keeps GkC.out))⟩
          | 75, _, hsi, hde =>
            have e126 : a'.eval (.tmp 126) = .int .i64 (C0 : Int) := hA.at 69 (by omega) (hde 69 (by kernel_rfl))
            have e131 : a'.eval (.tmp 131) = .int .i64 (Ck : Int) := hA.at 74 (by omega) (hde 74 (by kernel_rfl))
            exact ⟨_, rfl, gx_bin .sub _ _ (.tmp 126) (.tmp 131) rfl e126 e131 (eqg_int _ _ _ _ _ _ _ _) (bin_sub _ (by omega))⟩
          | 76, _, hsi, hde =>
            have e132 : a'.eval (.tmp 132) = .int .i64 ((C0 : Int) - (Ck : Int)) := hA.at 75 (by omega) (hde 75 (by kernel_rfl))
            exact ⟨_, rfl, gx_bin .gtr _ _ (.tmp 132) (.const (.int .i64 1)) rfl e132 rfl (eqg_int _ _ _ _ _ _ _ _) (bin_gtr _ q5.out)⟩
          | x + 77, h, _, _ => exact absurd h (by omega)
        intro wz hxz
        have HXZ : Hid (Ext w2 wz) := hx.trans hxz
        clear hxz
        show wpList Try.prog _ _ [_] _ _
        have hput : ∀ a0 : Act, putAll (fun i => 57 + i) (apF b o n cp k D P Dk Ck C0) a0 77 = (((((((((((((((((((((((((((((((((((((((((((((((((((((((((((((((((((((((((((((a0.put (some 57) (.slice (some ⟨b, o, none⟩) n cp)).put (some 58) (.int .i64 (k : Int))).put (some 59) (.pointer (some ⟨b, o + k * 4, none⟩))).put (some 60) (.pointer (some ⟨b, o + k * 4, none⟩))).put (some 61) (.int .i64 (Dk : Int))).put (some 62) (.bool false)).put (some 63) (.bool false)).put (some 64) (.slice (some ⟨b, o, none⟩) n cp)).put (some 65) (.int .i64 (k : Int))).put (some 66) (.pointer (some ⟨b, o + k * 4, none⟩))).put (some 67) (.pointer (some ⟨b, o + k * 4, none⟩))).put (some 68) (.int .i64 (Dk : Int))).put (some 69) (.int .i64 (D : Int))).put (some 70) (.bool false)).put (some 71) (.bool false)).put (some 72) (.bool false)).put (some 73) (.slice (some ⟨b, o, none⟩) n cp)).put (some 74) (.int .i64 (k : Int))).put (some 75) (.pointer (some ⟨b, o + k * 4, none⟩))).put (some 76) (.pointer (some ⟨b, o + k * 4 + 3, none⟩))).put (some 77) (.bool false)).put (some 78) (.int .i64 (k : Int))).put (some 79) (.int .i64 (P : Int))).put (some 80) (.bool false)).put (some 81) (.bool false)).put (some 82) (.bool false)).put (some 83) (.bool false)).put (some 84) (.slice (some ⟨b, o, none⟩) n cp)).put (some 85) (.int .i64 (k : Int))).put (some 86) (.pointer (some ⟨b, o + k * 4, none⟩))).put (some 87) (.pointer (some ⟨b, o + k * 4 + 2, none⟩))).put (some 88) (.int .i64 (Ck : Int))).put (some 89) (.bool false)).put (some 90) (.bool false)).put (some 91) (.bool false)).put (some 92) (.slice (some ⟨b, o, none⟩) n cp)).put (some 93) (.int .i64 (k : Int))).put (some 94) (.pointer (some ⟨b, o + k * 4, none⟩))).put (some 95) (.pointer (some ⟨b, o + k * 4 + 2, none⟩))).put (some 96) (.int .i64 (Ck : Int))).put (some 97) (.slice (some ⟨b, o, none⟩) n cp)).put (some 98) (.pointer (some ⟨b, o, none⟩))).put (some 99) (.pointer (some ⟨b, o + 2, none⟩))).put (some 100) (.int .i64 (C0 : Int))).put (some 101) (.bool false)).put (some 102) (.bool false)).put (some 103) (.bool false)).put (some 104) (.slice (some ⟨b, o, none⟩) n cp)).put (some 105) (.int .i64 (k : Int))).put (some 106) (.pointer (some ⟨b, o + k * 4, none⟩))).put (some 107) (.pointer (some ⟨b, o + k * 4 + 3, none⟩))).put (some 108) (.bool false)).put (some 109) (.bool false)).put (some 110) (undef)).put (some 111) (undef)).put (some 112) (undef)).put (some 113) (undef)).put (some 114) (undef)).put (some 115) (undef)).put (some 116) (undef)).put (some 117) (undef)).put (some 118) (undef)).put (some 119) (undef)).put (some 120) (.bool false)).put (some 121) (.bool false)).put (some 122) (.bool false)).put (some 123) (.slice (some ⟨b, o, none⟩) n cp)).put (some 124) (.pointer (some ⟨b, o, none⟩))).put (some 125) (.pointer (some ⟨b, o + 2, none⟩))).put (some 126) (.int .i64 (C0 : Int))).put (some 127) (.slice (some ⟨b, o, none⟩) n cp)).put (some 128) (.int .i64 (k : Int))).put (some 129) (.pointer (some ⟨b, o + k * 4, none⟩))).put (some 130) (.pointer (some ⟨b, o + k * 4 + 2, none⟩))).put (some 131) (.int .i64 (Ck : Int))).put (some 132) (.int .i64 ((C0 : Int) - (Ck : Int)))).put (some 133) (.bool false)) := fun _ => rfl
        rw [hput]
        simp only [Act.put, List.setIfInBounds_toArray, List.set_cons_succ, List.set_cons_zero]
        clear hput
        set_option maxRecDepth 1000000 in
        go_wp2_with fail
        clear q1 q2 q3 q4 q5 q8 GkD GkC G0C GkB hx
        go_loopw [17] (fun j wq => ∃ l : Nat, l ≤ k ∧ j = .int .i64 l ∧ Ext w2 wq) (fun j _ => k - (intOf j).toNat)
        case atStart => exact ⟨0, Nat.zero_le _, rfl, HXZ.out⟩
        case round =>
          obtain ⟨l, hl, rfl, hxq⟩ := hrel
          by_cases hlk : l < k
          · have hgl := HG.out l (by omega)
            obtain ⟨Dl, hDl⟩ : ∃ Dl : Nat, Dl = (A + l) % D := ⟨_, rfl⟩
            have hne : Dl ≠ Dk := by
              rw [hDl, HDk.out]
              exact mod_apart A D k l (by omega) hlk
            rw [← hDl] at hgl
            obtain ⟨b5, o5, hbo, hl0, _, _, _⟩ := col_at (HE.out.ext hxq) hgl
            cases hbo
            obtain ⟨b6, o6, hbo, hm0, _, _, _⟩ := col_at (HE.out.ext hxq) (HGk.out)
            cases hbo
            have hneq : ((Dl : Int) == (Dk : Int)) = false := by rw [beq_eq_false_iff_ne]; omega
            have i3 : (l : Int) < (n : Int) := by omega
            clear hgl hDl hne
            set_option maxRecDepth 1000000 in
            go_wp2_with fail
            set_option maxRecDepth 1000000 in
            go_quiet (fail)
            set_option maxRecDepth 1000000 in
            go_wp2_with fail
            go_roundw
            case rel => exact ⟨l + 1, by omega, by go_num, hxq.drewG _⟩
            case measure => simp [intOf]; omega
          · obtain rfl : l = k := by omega
            obtain ⟨b6, o6, hbo, hm0, _, hm2, hm3⟩ := col_at (HE.out.ext hxq) (HGk.out)
            cases hbo
            rw [decide_eq_false hkP] at hm3
            clear hlk hl
            set_option maxRecDepth 1000000 in
            go_wp2_with fail
            go_roundw
            case rel => exact ⟨l + 1, S + Ck, by omega, by go_num, by go_num, HS2.out, by omega, hxq⟩
            case measure => simp [intOf]; omega
    · obtain rfl : k = n := by omega
      have hSC : S = 1 + C := by rw [HSm.out, HD.out]
      have hfin : ((S : Int) == 1 + (C : Int)) = true := by rw [beq_iff_eq]; omega
      go_wp2_with fail
      go_ret
      exact ⟨rfl, hx2.trans hx⟩
end Go.Proofs.Ytbjbalflicadjaa.columnsApart
