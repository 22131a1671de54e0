/-
  quicksetkeep.Acts: jobs of a drive of eight sectors, made of numbers.
-/
import Derived.Test.YtgboboojjboocaaChecked
import Derived.WalkKit
import Derived.BigQuiet
import Derived.Test.YtgboboojjboocaaKeepPick
import Derived.Test.YtgboboojjboocaaRegFix2
import Derived.Test.YtgboboojjboocaaDrSec
import Derived.Test.YtgboboojjboocaaDrMath
namespace Go.Proofs.Ytgboboojjboocaa
open Go.RowKit Go.Deep E
def I64b (z : Int) : Prop := -9223372036854775808 ≤ z ∧ z ≤ 9223372036854775807
abbrev Act4 := Int × Int × Int × Int
def actC (x : Act4) : List Value := [.int .i64 x.1, .int .i64 x.2.1, .int .i64 x.2.2.1, .int .i64 x.2.2.2]
theorem actC_len (x : Act4) : (actC x).length = 4 := rfl
/-- the job of an act -/
def ActJ (g : Nat → Int) (nk : Nat) (x : Act4) (J : Jb) : Prop :=
  J.k = g (x.1 % nk).toNat ∧ J.at' = x.2.1 % 8 ∧ if J.k = 1 ∨ J.k = 6 then J.l = 128 ∧ J.f = secB x.2.2.1 ∧ J.kp = 0 else J.l = 0 ∧ J.kp = if J.k = 4 then x.2.2.2 else 0
/-- its data: a row of its own -/
def JOk (w : World) (J : Jb) : Prop := (J.ad = none ∧ J.l = 0 ∧ J.c = 0) ∨ ∃ g, J.ad = some ⟨g, 0, none⟩ ∧ J.l = 128 ∧ J.c = 128 ∧ w.rowIs g 5 128 (bvs J.f)
theorem JOk.ext {w w' : World} {J : Jb} (h : JOk w J) (x : Ext w w') : JOk w' J := by
  rcases h with h | ⟨g, h1, h2, h3, h4⟩
  · exact Or.inl h
  · exact Or.inr ⟨g, h1, h2, h3, x.rowIs h4⟩
theorem JOk.grown {w w' : World} {J : Jb} (h : JOk w J) {b sz m : Nat} {v : Value} {xs : List Value} (ho : w.ownsRow b 34 sz v m xs) (hg : w.grownBy w' v.ownBlock) : JOk w' J := by
  rcases h with h | ⟨g, h1, h2, h3, c, h4, h5, h6⟩
  · exact Or.inl h
  · refine Or.inr ⟨g, h1, h2, h3, c, ?_, h5, h6⟩
    rw [hg.block g (by obtain ⟨q, _⟩ := Array.getElem?_eq_some_iff.1 h4; exact q) fun q => own_type ho h4 (by decide) q.symm]
    exact h4
theorem JOk.byts {w : World} {J : Jb} (h : JOk w J) : Byts w J.ad J.l J.f ∧ J.l ≤ 128 := by
  rcases h with ⟨h1, h2, _⟩ | ⟨g, h1, h2, _, h4⟩
  · rw [h2]
    exact ⟨fun i hi => by omega, by omega⟩
  · rw [h1, h2]
    exact ⟨Byts.row h4 (Nat.le_refl _), Nat.le_refl _⟩
structure AcI (w : World) (L : List Act4) (g : Nat → Int) (nk q : Nat) (D : List Jb) (v : Value) (wr : World) : Prop where
  ext : Ext w wr
  own : wr.ownsRow w.heap.size 34 4 v q (D.map jbC).flatten
  len : D.length = q
  ok : ∀ J, J ∈ D → JOk wr J
  each : ∀ (i : Nat) (J : Jb) (x : Act4), D[i]? = some J → L[i]? = some x → ActJ g nk x J
theorem AcI.snoc {w : World} {L : List Act4} {g : Nat → Int} {nk q : Nat} {D : List Jb} {v : Value} {wr : World} (h : AcI w L g nk q D v wr) {x : Act4} (hx : L[q]? = some x) {J : Jb} {w3 w5 : World} {v5 : Value} (k3 : Ext wr w3) (hJ : ActJ g nk x J) (hok : JOk w3 J)
    (hown : w5.ownsRow w.heap.size 34 4 v5 (q + 1) ((D.map jbC).flatten ++ jbC J)) (hg : w3.grownBy w5 v.ownBlock) : AcI w L g nk (q + 1) (D ++ [J]) v5 w5 := by
  have ho := own_ext h.own k3
  refine ⟨(h.ext.trans k3).grow hg fun k hk => own_geD ho hk, ?_, by rw [List.length_append, h.len]; rfl, fun K hK => ?_, fun i K y hi hy => ?_⟩
  · rw [List.map_append, List.flatten_append]
    simpa using hown
  · rcases List.mem_append.1 hK with hK | hK
    · exact ((h.ok K hK).ext k3).grown ho hg
    · rw [List.mem_singleton.1 hK]
      exact hok.grown ho hg
  · rcases Nat.lt_or_ge i q with hq | hq
    · rw [List.getElem?_append_left (by rw [h.len]; exact hq)] at hi
      exact h.each i K y hi hy
    · rw [List.getElem?_append_right (by rw [h.len]; exact hq), h.len] at hi
      have e : i - q = 0 := by
        have := lt_of_get hi
        simp at this
        omega
      rw [e] at hi
      obtain rfl : i = q := by omega
      cases hi
      rw [hx] at hy
      cases hy
      exact hJ
theorem acts_at {w : World} {a : Option Addr} {L : List Act4} (h : Els w a 4 (L.map actC)) {q : Nat} {x : Act4} (hq : L[q]? = some x) : ∃ b o, a = some ⟨b, o, none⟩ ∧ w.cell? ⟨b, o + q * 4, none⟩ = some (.int .i64 x.1) ∧ w.cell? ⟨b, o + q * 4 + 1, none⟩ = some (.int .i64 x.2.1) ∧ w.cell? ⟨b, o + q * 4 + 2, none⟩ = some (.int .i64 x.2.2.1) ∧ w.cell? ⟨b, o + q * 4 + 3, none⟩ = some (.int .i64 x.2.2.2) := by
  obtain ⟨b, o, h1, h2⟩ := h q (actC x) (by rw [List.getElem?_map, hq]; rfl)
  exact ⟨b, o, h1, h2 0 _ rfl, h2 1 _ rfl, h2 2 _ rfl, h2 3 _ rfl⟩
theorem infoJob : (Try.prog.info? 34).map (fun i => (i.zero, i.size, i.bytes)) = some (some (.agg #[.int .i64 0, .int .i64 0, .int .i64 0, .slice none 0 0]), 4, 48) := by kernel_rfl
theorem exec_index {P : Program} {o : Oper} {a : Act} {w : World} {v : Value} (t : TypeId) (x ix : Operand) {p q : Value} (ho : o.op = .indexAddr t x ix) (hx : a.eval x = p) (hi : a.eval ix = q) (hrun : (Instr.indexAt t p q).run P w = .ok v w) : (execOp a.eval o).run P w = .ok (.value v) w := by
  unfold execOp
  simp only [ho, hx, hi, Sem.run_bind, hrun, Result.andThen_ok, Sem.run_pure]
theorem exec_len {P : Program} {o : Oper} {a : Act} {w : World} (x : Operand) (t : TypeId) (ho : o.op = .call { callee := .builtin .len, args := #[x], argTypes := #[t] }) {vx v : Value} (hx : a.eval x = vx) (hrun : (Builtin.len_ #[t] o.type #[vx]).run P w = .ok v w) : (execOp a.eval o).run P w = .ok (.value v) w := by
  simp [execOp, ho, resolve, invoke, builtin, hx, hrun, Result.andThen]
theorem len_ints {ao : Option Addr} {m c : Nat} (ty : TypeId) (w : World) : (Builtin.len_ #[31] ty #[.slice ao m c]).run Try.prog w = .ok (.int .i64 m) w := by
  rw [run_len_slice (h := Try.underlying31)]
  rfl
theorem sizeAct : (Try.prog.info? 57).map (·.size) = some 4 := by kernel_rfl
theorem idx_act {b o m c q : Nat} (w : World) (h : q < m) : (Instr.indexAt 29 (.slice (some ⟨b, o, none⟩) m c) (.int .i64 (q : Int))).run Try.prog w = .ok (.pointer (some ⟨b, o + q * 4, none⟩)) w := by
  have h1 : (q : Int) < (m : Int) := by omega
  have h2 : (0 : Int) ≤ (q : Int) := by omega
  rw [run_indexAt_slice (h := Try.underlying29)]
  rw [if_pos ⟨h2, h1⟩]
  rw [show Try.prog.elem 29 = 57 from rfl, sizeOf_of sizeAct]
  simp [Go.WideShapes.add_plain]
theorem idx_int {b o m c q : Nat} (w : World) (h : q < m) : (Instr.indexAt 31 (.slice (some ⟨b, o, none⟩) m c) (.int .i64 (q : Int))).run Try.prog w = .ok (.pointer (some ⟨b, o + q, none⟩)) w := by
  have h1 : (q : Int) < (m : Int) := by omega
  have h2 : (0 : Int) ≤ (q : Int) := by omega
  simp [run_indexAt_slice, Try.underlying31, go_sem, h1, h2]
theorem field_act (b o : Nat) (w : World) : (Instr.fieldAt 57 (.pointer (some ⟨b, o, none⟩)) 0).run Try.prog w = .ok (.pointer (some ⟨b, o, none⟩)) w := by
  simp [Instr.fieldAt, run_underlying Try.underlying57, go_sem]
theorem field_act1 (b o : Nat) (w : World) : (Instr.fieldAt 57 (.pointer (some ⟨b, o, none⟩)) 1).run Try.prog w = .ok (.pointer (some ⟨b, o + 1, none⟩)) w := by
  simp [Instr.fieldAt, run_underlying Try.underlying57, go_sem]
theorem build_job (k at' : Int) (w : World) : (Instr.build 34 #[(0, .int .i64 k), (1, .int .i64 at')]).run Try.prog w = .ok (.agg #[.int .i64 k, .int .i64 at', .int .i64 0, .slice none 0 0]) w := by
  simp [Instr.build, run_underlying Try.underlying34, go_sem]
theorem zeroJob : (Try.prog.info? 34).map (fun i => (i.zero, i.size)) = some (some (.agg #[.int .i64 0, .int .i64 0, .int .i64 0, .slice none 0 0]), 4) := by kernel_rfl
theorem zero_job (w : World) : (zeroValue 34).run Try.prog w = .ok (.agg #[.int .i64 0, .int .i64 0, .int .i64 0, .slice none 0 0]) w := (zero_of_info zeroJob).1 w
def ActsRes (g : Nat → Int) (nk : Nat) (L : List Act4) (K : Nat) (e : Ending) (w w' : World) : Prop :=
  ∃ (D : List Jb) (v : Value), e = .returned v ∧ D.length = min L.length K ∧ AcI w L g nk (min L.length K) D v w'
set_option maxRecDepth 100000 in
set_option maxHeartbeats 1600000 in
theorem Acts_any (a : Option Addr) (m c : Nat) (L : List Act4) (K : Nat) (ak : Option Addr) (nk ck : Nat) (g : Nat → Int) (w : World) (hl : L.length = m) (hm : m ≤ 9223372036854775807) (h : Els w a 4 (L.map actC)) (hb : ∀ x, x ∈ L → I64b x.1 ∧ I64b x.2.1 ∧ I64b x.2.2.1 ∧ I64b x.2.2.2) (hK : K ≤ 60) (hk : 0 < nk ∧ nk ≤ 16) (hg : Ints w ak nk g) :
    Calls Try.prog 11 #[.slice a m c, .int .i64 K, .slice ak nk ck] w fun e w' => ActsRes g nk L K e w w' := by
  have HL : Hid (L.length = m) := hl
  have HR : Hid (Els w a 4 (L.map actC)) := h
  have HB : Hid (∀ x, x ∈ L → I64b x.1 ∧ I64b x.2.1 ∧ I64b x.2.2.1 ∧ I64b x.2.2.2) := hb
  have HG : Hid (Ints w ak nk g) := hg
  clear h hb hl hg
  go_enter Try.func11, Try.ntmps11
  go_wp2_with fail
  go_loopw [7, 8] (fun v i wr => ∃ (q : Nat) (D : List Jb), q ≤ m ∧ q ≤ K ∧ i = .int .i64 q ∧ AcI w L g nk q D v wr) (fun _ i _ => m - (intOf i).toNat)
  case atStart => exact ⟨0, [], Nat.zero_le _, Nat.zero_le _, rfl, Ext.refl _, World.ownsRow_nil _ _ _ _, rfl, fun _ h => by simp at h, fun _ _ _ h => by simp at h⟩
  case round =>
    obtain ⟨q, D, hq, hqK, rfl, hd⟩ := hrel
    have HD : Hid (AcI w L g nk q D u7 wr) := hd
    clear hd
    by_cases hlt : q < m
    · by_cases hltK : q < K
      · obtain ⟨⟨x1, x2, x3, x4⟩, h1, h2, h3⟩ := drop_at (L := L) (k := q) (by rw [HL.out]; exact hlt)
        have hbd := HB.out _ h3
        unfold I64b at hbd
        simp only at hbd
        obtain ⟨b, o, rfl, hc0, hc1, hc2, hc3⟩ := acts_at (HR.out.ext HD.out.ext) h1
        obtain ⟨C, hC, hC1⟩ := picked_is x1 nk (by omega)
        obtain ⟨A, hA, hA1⟩ := picked_is x2 8 (by omega)
        obtain ⟨bk, ok, rfl, hck⟩ := HG.out C (by omega)
        have HX : Hid (L[q]? = some (x1, x2, x3, x4)) := h1
        have hqi : (q : Int) < (m : Int) := by omega
        have hqKi : (q : Int) < (K : Int) := by omega
        clear h1 h2 h3
        go_wp2_with fail
        have HCC : Hid (x1 % nk = (C : Int)) := hC
        have HAA : Hid (x2 % 8 = (A : Int)) := hA
        have hC2 : C < nk := by omega
        obtain ⟨Wd, hWd⟩ : ∃ Wd : (Nat → Bool) → World, Wd = fun L => if L 18 = true then wr.drew.alloc (.cells #[.int .i64 0, .int .i64 0, .int .i64 0, .slice none 0 0] 34) else wr.drew := ⟨_, rfl⟩
        have hW0 : Hid (∀ L : Nat → Bool, L 18 = false → Wd L = wr.drew) := fun L h1 => by rw [hWd]; simp [h1]
        have hW1 : Hid (∀ L : Nat → Bool, L 18 = true → Wd L = wr.drew.alloc (.cells #[.int .i64 0, .int .i64 0, .int .i64 0, .slice none 0 0] 34)) := fun L h1 => by rw [hWd]; simp [h1]
        have hWu : Hid (∀ (L : Nat → Bool) (i : Nat), i ≠ 18 → Wd (updB L i) = Wd L) := fun L i h1 => by
          rw [hWd]
          simp only [updB, if_neg (Ne.symm h1)]
        have hWx : Hid (∀ L : Nat → Bool, Ext wr (Wd L)) := fun L => by
          cases h18 : L 18 with
          | false => rw [hW0.out L h18]; exact (Ext.refl wr).drew
          | true => rw [hW1.out L h18]; exact (Ext.refl wr).drew.alloc _ _
        have HC0 : Hid (wr.cell? ⟨b, o + q * 4, none⟩ = some (.int .i64 x1)) := hc0
        have HC1 : Hid (wr.cell? ⟨b, o + q * 4 + 1, none⟩ = some (.int .i64 x2)) := hc1
        have HCK : Hid (wr.cell? ⟨bk, ok + C, none⟩ = some (.int .i64 (g C))) := HD.out.ext.keeps hck
        have HF1 : Hid ((Try.f15.name == "runtime.NumGoroutine") = false ∧ Try.f15.body.isNone = false) := ⟨by kernel_rfl, by kernel_rfl⟩
        clear hWd
        refine wp_region_fixed2 (P := Try.prog) 19 (by kernel_rfl) (by kernel_rfl) (fun i => if i = 18 then 9 else 21 + i) (fun i => match i with
          | 0 => .slice (some ⟨bk, ok, none⟩) nk ck
          | 1 => .slice (some ⟨b, o, none⟩) m c
          | 2 => .int .i64 (q : Int)
          | 3 => .pointer (some ⟨b, o + q * 4, none⟩)
          | 4 => .pointer (some ⟨b, o + q * 4, none⟩)
          | 5 => .int .i64 x1
          | 6 => .slice (some ⟨bk, ok, none⟩) nk ck
          | 7 => .int .i64 nk
          | 8 => .int .i64 (C : Int)
          | 9 => .pointer (some ⟨bk, ok + C, none⟩)
          | 10 => .int .i64 (g C)
          | 11 => .slice (some ⟨b, o, none⟩) m c
          | 12 => .int .i64 (q : Int)
          | 13 => .pointer (some ⟨b, o + q * 4, none⟩)
          | 14 => .pointer (some ⟨b, o + q * 4 + 1, none⟩)
          | 15 => .int .i64 x2
          | 16 => .int .i64 (A : Int)
          | 17 => .agg #[.int .i64 (g C), .int .i64 (A : Int), .int .i64 0, .slice none 0 0]
          | 18 => .pointer (some ⟨wr.heap.size, 0, none⟩)
          | _ => undef) Wd (by kernel_rfl) (fun i j hi hj h => by have h : (if i = 18 then 9 else 21 + i) = (if j = 18 then 9 else 21 + j) := h; split at h <;> split at h <;> omega) (fun i hi => by show (if i = 18 then 9 else 21 + i) < 64; split <;> omega) (hW0.out _ rfl) ?_ ?_
        · intro L' i a' hi19 hLi hde hcl hA
          match i, hi19, hLi, hde with
          | 0, _, hLi, hde =>
            have e2 : a'.eval (.tmp 2) = .slice (some ⟨bk, ok, none⟩) nk ck := hA.eval 2 (fun j _ => by show (if j = 18 then 9 else 21 + j) ≠ 2; split <;> omega)
            exact ⟨_, rfl, fun K hk => wp_runs (by rw [hWu.out L' 0 (by omega)]; exact exec_move (.tmp 2) rfl e2) hk⟩
          | 1, _, hLi, hde =>
            have e0 : a'.eval (.tmp 0) = .slice (some ⟨b, o, none⟩) m c := hA.eval 0 (fun j _ => by show (if j = 18 then 9 else 21 + j) ≠ 0; split <;> omega)
            exact ⟨_, rfl, fun K hk => wp_runs (by rw [hWu.out L' 1 (by omega)]; exact exec_move (.tmp 0) rfl e0) hk⟩
          | 2, _, hLi, hde =>
            have e8 : a'.eval (.tmp 8) = .int .i64 (q : Int) := hA.eval 8 (fun j _ => by show (if j = 18 then 9 else 21 + j) ≠ 8; split <;> omega)
            exact ⟨_, rfl, fun K hk => wp_runs (by rw [hWu.out L' 2 (by omega)]; exact exec_move (.tmp 8) rfl e8) hk⟩
          | 3, _, hLi, hde =>
            have e22 : a'.eval (.tmp 22) = .slice (some ⟨b, o, none⟩) m c := hA.at 1 (by omega) (hde 1 (by kernel_rfl))
            have e23 : a'.eval (.tmp 23) = .int .i64 (q : Int) := hA.at 2 (by omega) (hde 2 (by kernel_rfl))
            exact ⟨_, rfl, fun K hk => wp_runs (by rw [hWu.out L' 3 (by omega)]; exact exec_index _ (.tmp 22) (.tmp 23) rfl e22 e23 (idx_act _ hlt)) hk⟩
          | 4, _, hLi, hde =>
            have e24 : a'.eval (.tmp 24) = .pointer (some ⟨b, o + q * 4, none⟩) := hA.at 3 (by omega) (hde 3 (by kernel_rfl))
            exact ⟨_, rfl, fun K hk => wp_runs (by rw [hWu.out L' 4 (by omega)]; exact exec_field _ (.tmp 24) 0 rfl e24 (field_act _ _ _)) hk⟩
          | 5, _, hLi, hde =>
            have e25 : a'.eval (.tmp 25) = .pointer (some ⟨b, o + q * 4, none⟩) := hA.at 4 (by omega) (hde 4 (by kernel_rfl))
            exact ⟨_, rfl, fun K hk => wp_runs (by rw [hWu.out L' 5 (by omega)]; exact exec_load _ (.tmp 25) rfl e25 (load_one Try.underlying3 rfl ((hWx.out L').keeps HC0.out))) hk⟩
          | 6, _, hLi, hde =>
            have e2 : a'.eval (.tmp 2) = .slice (some ⟨bk, ok, none⟩) nk ck := hA.eval 2 (fun j _ => by show (if j = 18 then 9 else 21 + j) ≠ 2; split <;> omega)
            exact ⟨_, rfl, fun K hk => wp_runs (by rw [hWu.out L' 6 (by omega)]; exact exec_move (.tmp 2) rfl e2) hk⟩
          | 7, _, hLi, hde =>
            have e27 : a'.eval (.tmp 27) = .slice (some ⟨bk, ok, none⟩) nk ck := hA.at 6 (by omega) (hde 6 (by kernel_rfl))
            exact ⟨_, rfl, fun K hk => wp_runs (by rw [hWu.out L' 7 (by omega)]; exact exec_len (.tmp 27) _ rfl e27 (len_ints _ _)) hk⟩
          | 8, _, hLi, hde =>
            have e26 : a'.eval (.tmp 26) = .int .i64 x1 := hA.at 5 (by omega) (hde 5 (by kernel_rfl))
            have e28 : a'.eval (.tmp 28) = .int .i64 nk := hA.at 7 (by omega) (hde 7 (by kernel_rfl))
            refine ⟨_, rfl, fun K hk => wp_calls rfl 15 Try.func15 HF1.out.1 HF1.out.2 [.tmp 26, .tmp 28] _ rfl [.int .i64 x1, .int .i64 nk] (by simp only [List.map_cons, List.map_nil, e26, e28]) (.int .i64 (C : Int)) (fun w' => w' = Wd L') (Picked_bd x1 nk C (Wd L') (by omega) (by omega) hbd.1 HCC.out) fun w' hw' => ?_⟩
            rw [hw', ← hWu.out L' 8 (by omega)]
            exact hk
          | 9, _, hLi, hde =>
            have e21 : a'.eval (.tmp 21) = .slice (some ⟨bk, ok, none⟩) nk ck := hA.at 0 (by omega) (hde 0 (by kernel_rfl))
            have e29 : a'.eval (.tmp 29) = .int .i64 (C : Int) := hA.at 8 (by omega) (hde 8 (by kernel_rfl))
            exact ⟨_, rfl, fun K hk => wp_runs (by rw [hWu.out L' 9 (by omega)]; exact exec_index _ (.tmp 21) (.tmp 29) rfl e21 e29 (idx_int _ hC2)) hk⟩
          | 10, _, hLi, hde =>
            have e30 : a'.eval (.tmp 30) = .pointer (some ⟨bk, ok + C, none⟩) := hA.at 9 (by omega) (hde 9 (by kernel_rfl))
            exact ⟨_, rfl, fun K hk => wp_runs (by rw [hWu.out L' 10 (by omega)]; exact exec_load _ (.tmp 30) rfl e30 (load_one Try.underlying3 rfl ((hWx.out L').keeps HCK.out))) hk⟩
          | 11, _, hLi, hde =>
            have e0 : a'.eval (.tmp 0) = .slice (some ⟨b, o, none⟩) m c := hA.eval 0 (fun j _ => by show (if j = 18 then 9 else 21 + j) ≠ 0; split <;> omega)
            exact ⟨_, rfl, fun K hk => wp_runs (by rw [hWu.out L' 11 (by omega)]; exact exec_move (.tmp 0) rfl e0) hk⟩
          | 12, _, hLi, hde =>
            have e8 : a'.eval (.tmp 8) = .int .i64 (q : Int) := hA.eval 8 (fun j _ => by show (if j = 18 then 9 else 21 + j) ≠ 8; split <;> omega)
            exact ⟨_, rfl, fun K hk => wp_runs (by rw [hWu.out L' 12 (by omega)]; exact exec_move (.tmp 8) rfl e8) hk⟩
          | 13, _, hLi, hde =>
            have e32 : a'.eval (.tmp 32) = .slice (some ⟨b, o, none⟩) m c := hA.at 11 (by omega) (hde 11 (by kernel_rfl))
            have e33 : a'.eval (.tmp 33) = .int .i64 (q : Int) := hA.at 12 (by omega) (hde 12 (by kernel_rfl))
            exact ⟨_, rfl, fun K hk => wp_runs (by rw [hWu.out L' 13 (by omega)]; exact exec_index _ (.tmp 32) (.tmp 33) rfl e32 e33 (idx_act _ hlt)) hk⟩
          | 14, _, hLi, hde =>
            have e34 : a'.eval (.tmp 34) = .pointer (some ⟨b, o + q * 4, none⟩) := hA.at 13 (by omega) (hde 13 (by kernel_rfl))
            exact ⟨_, rfl, fun K hk => wp_runs (by rw [hWu.out L' 14 (by omega)]; exact exec_field _ (.tmp 34) 1 rfl e34 (field_act1 _ _ _)) hk⟩
          | 15, _, hLi, hde =>
            have e35 : a'.eval (.tmp 35) = .pointer (some ⟨b, o + q * 4 + 1, none⟩) := hA.at 14 (by omega) (hde 14 (by kernel_rfl))
            exact ⟨_, rfl, fun K hk => wp_runs (by rw [hWu.out L' 15 (by omega)]; exact exec_load _ (.tmp 35) rfl e35 (load_one Try.underlying3 rfl ((hWx.out L').keeps HC1.out))) hk⟩
          | 16, _, hLi, hde =>
            have e36 : a'.eval (.tmp 36) = .int .i64 x2 := hA.at 15 (by omega) (hde 15 (by kernel_rfl))
            refine ⟨_, rfl, fun K hk => wp_calls rfl 15 Try.func15 HF1.out.1 HF1.out.2 [.tmp 36, .const (.int .i64 8)] _ rfl [.int .i64 x2, .int .i64 8] (by show [a'.eval (.tmp 36), .int .i64 8] = _; rw [e36]) (.int .i64 (A : Int)) (fun w' => w' = Wd L') (Picked_bd x2 8 A (Wd L') (by omega) (by omega) hbd.2.1 HAA.out) fun w' hw' => ?_⟩
            rw [hw', ← hWu.out L' 16 (by omega)]
            exact hk
          | 17, _, hLi, hde =>
            have e31 : a'.eval (.tmp 31) = .int .i64 (g C) := hA.at 10 (by omega) (hde 10 (by kernel_rfl))
            have e37 : a'.eval (.tmp 37) = .int .i64 (A : Int) := hA.at 16 (by omega) (hde 16 (by kernel_rfl))
            exact ⟨_, rfl, fun K hk => wp_runs (by rw [hWu.out L' 17 (by omega)]; exact exec_build _ _ rfl (vs := #[(0, .int .i64 (g C)), (1, .int .i64 (A : Int))]) (by simp [e31, e37]) (build_job _ _ _)) hk⟩
          | 18, _, hLi, hde =>
            refine ⟨_, rfl, fun K hk => wp_allocs 34 rfl #[.int .i64 0, .int .i64 0, .int .i64 0, .slice none 0 0] (fun w => zero_job w) ?_⟩
            rw [hW0.out L' hLi]
            rw [hW1.out (updB L' 18) rfl] at hk
            exact hk
          | q + 19, h, _, _ => exact absurd h (by omega)
        · intro L' hL
          rw [hW1.out L' (hL 18 (by omega))]
          clear hW0 hW1 hWu hWx
          simp only [List.drop_succ_cons, List.drop_zero]
          have hput : ∀ a0 : Act, putAll (fun i => if i = 18 then 9 else 21 + i) (fun i => match i with
            | 0 => .slice (some ⟨bk, ok, none⟩) nk ck
            | 1 => .slice (some ⟨b, o, none⟩) m c
            | 2 => .int .i64 (q : Int)
            | 3 => .pointer (some ⟨b, o + q * 4, none⟩)
            | 4 => .pointer (some ⟨b, o + q * 4, none⟩)
            | 5 => .int .i64 x1
            | 6 => .slice (some ⟨bk, ok, none⟩) nk ck
            | 7 => .int .i64 nk
            | 8 => .int .i64 (C : Int)
            | 9 => .pointer (some ⟨bk, ok + C, none⟩)
            | 10 => .int .i64 (g C)
            | 11 => .slice (some ⟨b, o, none⟩) m c
            | 12 => .int .i64 (q : Int)
            | 13 => .pointer (some ⟨b, o + q * 4, none⟩)
            | 14 => .pointer (some ⟨b, o + q * 4 + 1, none⟩)
            | 15 => .int .i64 x2
            | 16 => .int .i64 (A : Int)
            | 17 => .agg #[.int .i64 (g C), .int .i64 (A : Int), .int .i64 0, .slice none 0 0]
            | 18 => .pointer (some ⟨wr.heap.size, 0, none⟩)
            | _ => undef) a0 19 = (((((((((((((((((((a0.put (some 21) (.slice (some ⟨bk, ok, none⟩) nk ck)).put (some 22) (.slice (some ⟨b, o, none⟩) m c)).put (some 23) (.int .i64 (q : Int))).put (some 24) (.pointer (some ⟨b, o + q * 4, none⟩))).put (some 25) (.pointer (some ⟨b, o + q * 4, none⟩))).put (some 26) (.int .i64 x1)).put (some 27) (.slice (some ⟨bk, ok, none⟩) nk ck)).put (some 28) (.int .i64 nk)).put (some 29) (.int .i64 (C : Int))).put (some 30) (.pointer (some ⟨bk, ok + C, none⟩))).put (some 31) (.int .i64 (g C))).put (some 32) (.slice (some ⟨b, o, none⟩) m c)).put (some 33) (.int .i64 (q : Int))).put (some 34) (.pointer (some ⟨b, o + q * 4, none⟩))).put (some 35) (.pointer (some ⟨b, o + q * 4 + 1, none⟩))).put (some 36) (.int .i64 x2)).put (some 37) (.int .i64 (A : Int))).put (some 38) (.agg #[.int .i64 (g C), .int .i64 (A : Int), .int .i64 0, .slice none 0 0])).put (some 9) (.pointer (some ⟨wr.heap.size, 0, none⟩))) := fun _ => rfl
          rw [hput]
          simp only [Act.put, List.setIfInBounds_toArray, List.set_cons_succ, List.set_cons_zero]
          clear hput hc0 hc1 hck
          have x1' : Ext wr (wr.drew.alloc (.cells #[.int .i64 0, .int .i64 0, .int .i64 0, .slice none 0 0] 34)) := (Ext.refl wr).drew.alloc _ _
          have hc2' := x1'.keeps hc2
          have hc3' := x1'.keeps hc3
          have hlb := World.block_lt_of_cell? _ _ hc2
          simp only at hlb
          by_cases hn1 : g C = 1
          · go_wp2_with fail
            refine (SectorOf_any x3 _).mono ?_
            rintro e w4 ⟨⟨rfl, hrow⟩, hx4⟩
            have hbx := extBlk hx4 (heap_alloc_new wr (.cells #[.int .i64 1, .int .i64 (A : Int), .int .i64 0, .slice none 0 0] 34))
            have q0 : w4.cell? ⟨wr.heap.size, 0, none⟩ = some (.int .i64 1) := by rw [cell_of_row w4 _ 0 _ _ (0, 0) hbx]; rfl
            have q1 : w4.cell? ⟨wr.heap.size, 1, none⟩ = some (.int .i64 (A : Int)) := by rw [cell_of_row w4 _ 1 _ _ (0, 0) hbx]; rfl
            have q2 : w4.cell? ⟨wr.heap.size, 2, none⟩ = some (.int .i64 0) := by rw [cell_of_row w4 _ 2 _ _ (0, 0) hbx]; rfl
            have q3 : w4.cell? ⟨wr.heap.size, 3, none⟩ = some (.slice none 0 0) := by rw [cell_of_row w4 _ 3 _ _ (0, 0) hbx]; rfl
            have qf : w4.frozen? ⟨wr.heap.size, 3, none⟩ = false := frozen_of_row w4 _ 3 _ _ hbx
            have HX4 : Hid (Ext wr w4) := ((Ext.refl wr).alloc _ _).drew.trans hx4
            have hs4 := hx4.size
            have e0 : (wr.alloc (.cells #[.int .i64 1, .int .i64 (A : Int), .int .i64 0, .slice none 0 0] 34)).drew.heap.size = wr.heap.size + 1 := World.size_alloc _ _
            rw [e0] at hs4 hrow
            clear e0
            have HRW : Hid (∀ u, (w4.setCell ⟨wr.heap.size, 3, none⟩ u).rowIs (wr.heap.size + 1) 5 128 (bvs (secB x3))) := fun u => by
              obtain ⟨cc, r1, r2, r3⟩ := hrow
              exact ⟨cc, wroBlk ((Wro.refl (· = wr.heap.size) w4).setCell (p := ⟨wr.heap.size, 3, none⟩) rfl u) r1 (by show ¬ wr.heap.size + 1 = wr.heap.size; omega), r2, r3⟩
            clear hbx hrow hx4 x1' hc2' hc3' hc2 hc3
            go_wp2_with (first | (at_builtin; refine append_els _ rfl (.tmp 59) (.tmp 61) 22 rfl 4 (by omega) w.heap.size 34 (.agg #[.int .i64 0, .int .i64 0, .int .i64 0, .slice none 0 0]) 48 Try.underlying22 infoJob rfl u7 q (D.map jbC) rfl ?_ (some ⟨w4.heap.size, 0, none⟩) 1 1 [[.int .i64 1, .int .i64 (A : Int), .int .i64 0, .slice (some ⟨wr.heap.size + 1, 0, none⟩) 128 128]] rfl rfl ?_ (Szd.one rfl) ?_ ?_ ?_ ?_ ?_ ?_) | go_in)
            · exact own_ext HD.out.own ((HX4.out.setCell (p := ⟨wr.heap.size, 3, none⟩) (Nat.le_refl _) _).alloc _ _)
            · exact els_new _ _ (by simp [World.setCell]) _ _ _
            · intro cs hcs v hv
              rw [List.mem_singleton.1 hcs] at hv
              simp only [List.mem_cons, List.not_mem_nil, or_false] at hv
              rcases hv with rfl | rfl | rfl | rfl <;> rfl
            · omega
            · omega
            · omega
            · exact ((HD.out.ext.trans (HX4.out.setCell (p := ⟨wr.heap.size, 3, none⟩) (Nat.le_refl _) _)).alloc _ _).size
            intro v5 w5 hown5 hgrow5
            have HDn : Hid (AcI w L g nk (q + 1) (D ++ [⟨1, (A : Int), 0, some ⟨wr.heap.size + 1, 0, none⟩, 128, 128, secB x3⟩]) v5 w5) := HD.out.snoc HX.out ((HX4.out.setCell (p := ⟨wr.heap.size, 3, none⟩) (Nat.le_refl _) _).alloc _ _) (by
              refine ⟨?_, ?_, ?_⟩
              · show 1 = g (x1 % nk).toNat
                rw [HCC.out, Int.toNat_natCast, hn1]
              · exact HAA.out.symm
              · exact ⟨rfl, rfl, rfl⟩) (Or.inr ⟨_, rfl, rfl, rfl, (Ext.refl _ |>.alloc _ _).rowIs (HRW.out _)⟩) (by simpa [jbC] using hown5) hgrow5
            clear hown5 hgrow5
            go_wp2_with fail
            go_roundw
            case rel => exact ⟨q + 1, _, by omega, by omega, by go_num, HDn.out⟩
            case measure => simp [intOf]; omega
          by_cases hn6 : g C = 6
          · go_wp2_with fail
            refine (SectorOf_any x3 _).mono ?_
            rintro e w4 ⟨⟨rfl, hrow⟩, hx4⟩
            have hbx := extBlk hx4 (heap_alloc_new wr (.cells #[.int .i64 6, .int .i64 (A : Int), .int .i64 0, .slice none 0 0] 34))
            have q0 : w4.cell? ⟨wr.heap.size, 0, none⟩ = some (.int .i64 6) := by rw [cell_of_row w4 _ 0 _ _ (0, 0) hbx]; rfl
            have q1 : w4.cell? ⟨wr.heap.size, 1, none⟩ = some (.int .i64 (A : Int)) := by rw [cell_of_row w4 _ 1 _ _ (0, 0) hbx]; rfl
            have q2 : w4.cell? ⟨wr.heap.size, 2, none⟩ = some (.int .i64 0) := by rw [cell_of_row w4 _ 2 _ _ (0, 0) hbx]; rfl
            have q3 : w4.cell? ⟨wr.heap.size, 3, none⟩ = some (.slice none 0 0) := by rw [cell_of_row w4 _ 3 _ _ (0, 0) hbx]; rfl
            have qf : w4.frozen? ⟨wr.heap.size, 3, none⟩ = false := frozen_of_row w4 _ 3 _ _ hbx
            have HX4 : Hid (Ext wr w4) := ((Ext.refl wr).alloc _ _).drew.trans hx4
            have hs4 := hx4.size
            have e0 : (wr.alloc (.cells #[.int .i64 6, .int .i64 (A : Int), .int .i64 0, .slice none 0 0] 34)).drew.heap.size = wr.heap.size + 1 := World.size_alloc _ _
            rw [e0] at hs4 hrow
            clear e0
            have HRW : Hid (∀ u, (w4.setCell ⟨wr.heap.size, 3, none⟩ u).rowIs (wr.heap.size + 1) 5 128 (bvs (secB x3))) := fun u => by
              obtain ⟨cc, r1, r2, r3⟩ := hrow
              exact ⟨cc, wroBlk ((Wro.refl (· = wr.heap.size) w4).setCell (p := ⟨wr.heap.size, 3, none⟩) rfl u) r1 (by show ¬ wr.heap.size + 1 = wr.heap.size; omega), r2, r3⟩
            clear hbx hrow hx4 x1' hc2' hc3' hc2 hc3
            go_wp2_with (first | (at_builtin; refine append_els _ rfl (.tmp 59) (.tmp 61) 22 rfl 4 (by omega) w.heap.size 34 (.agg #[.int .i64 0, .int .i64 0, .int .i64 0, .slice none 0 0]) 48 Try.underlying22 infoJob rfl u7 q (D.map jbC) rfl ?_ (some ⟨w4.heap.size, 0, none⟩) 1 1 [[.int .i64 6, .int .i64 (A : Int), .int .i64 0, .slice (some ⟨wr.heap.size + 1, 0, none⟩) 128 128]] rfl rfl ?_ (Szd.one rfl) ?_ ?_ ?_ ?_ ?_ ?_) | go_in)
            · exact own_ext HD.out.own ((HX4.out.setCell (p := ⟨wr.heap.size, 3, none⟩) (Nat.le_refl _) _).alloc _ _)
            · exact els_new _ _ (by simp [World.setCell]) _ _ _
            · intro cs hcs v hv
              rw [List.mem_singleton.1 hcs] at hv
              simp only [List.mem_cons, List.not_mem_nil, or_false] at hv
              rcases hv with rfl | rfl | rfl | rfl <;> rfl
            · omega
            · omega
            · omega
            · exact ((HD.out.ext.trans (HX4.out.setCell (p := ⟨wr.heap.size, 3, none⟩) (Nat.le_refl _) _)).alloc _ _).size
            intro v5 w5 hown5 hgrow5
            have HDn : Hid (AcI w L g nk (q + 1) (D ++ [⟨6, (A : Int), 0, some ⟨wr.heap.size + 1, 0, none⟩, 128, 128, secB x3⟩]) v5 w5) := HD.out.snoc HX.out ((HX4.out.setCell (p := ⟨wr.heap.size, 3, none⟩) (Nat.le_refl _) _).alloc _ _) (by
              refine ⟨?_, ?_, ?_⟩
              · show 6 = g (x1 % nk).toNat
                rw [HCC.out, Int.toNat_natCast, hn6]
              · exact HAA.out.symm
              · exact ⟨rfl, rfl, rfl⟩) (Or.inr ⟨_, rfl, rfl, rfl, (Ext.refl _ |>.alloc _ _).rowIs (HRW.out _)⟩) (by simpa [jbC] using hown5) hgrow5
            clear hown5 hgrow5
            go_wp2_with fail
            go_roundw
            case rel => exact ⟨q + 1, _, by omega, by omega, by go_num, HDn.out⟩
            case measure => simp [intOf]; omega
          by_cases hn4 : g C = 4
          · go_wp2_with (first | (at_builtin; refine append_els _ rfl (.tmp 59) (.tmp 61) 22 rfl 4 (by omega) w.heap.size 34 (.agg #[.int .i64 0, .int .i64 0, .int .i64 0, .slice none 0 0]) 48 Try.underlying22 infoJob rfl u7 q (D.map jbC) rfl ?_ (some ⟨wr.heap.size + 1, 0, none⟩) 1 1 [[.int .i64 4, .int .i64 (A : Int), .int .i64 x4, .slice none 0 0]] rfl rfl ?_ (Szd.one rfl) ?_ ?_ ?_ ?_ ?_ ?_) | go_in)
            · exact own_ext HD.out.own (((Ext.refl wr).alloc _ _).alloc _ _).drew
            · exact els_new _ _ (by rw [World.size_alloc]) _ _ _
            · intro cs hcs v hv
              rw [List.mem_singleton.1 hcs] at hv
              simp only [List.mem_cons, List.not_mem_nil, or_false] at hv
              rcases hv with rfl | rfl | rfl | rfl <;> rfl
            · omega
            · omega
            · omega
            · exact ((HD.out.ext.alloc _ _).alloc _ _).drew.size
            intro v5 w5 hown5 hgrow5
            have HDn : Hid (AcI w L g nk (q + 1) (D ++ [⟨4, (A : Int), x4, none, 0, 0, fun _ => ze⟩]) v5 w5) := HD.out.snoc HX.out (((Ext.refl wr).alloc _ _).alloc _ _).drew (by
              refine ⟨?_, ?_, ?_⟩
              · show 4 = g (x1 % nk).toNat
                rw [HCC.out, Int.toNat_natCast, hn4]
              · exact HAA.out.symm
              · exact ⟨rfl, rfl⟩) (Or.inl ⟨rfl, rfl, rfl⟩) (by simpa [jbC] using hown5) hgrow5
            clear hown5 hgrow5
            go_wp2_with fail
            go_roundw
            case rel => exact ⟨q + 1, _, by omega, by omega, by go_num, HDn.out⟩
            case measure => simp [intOf]; omega
          · go_wp2_with (first | (at_builtin; refine append_els _ rfl (.tmp 59) (.tmp 61) 22 rfl 4 (by omega) w.heap.size 34 (.agg #[.int .i64 0, .int .i64 0, .int .i64 0, .slice none 0 0]) 48 Try.underlying22 infoJob rfl u7 q (D.map jbC) rfl ?_ (some ⟨wr.heap.size + 1, 0, none⟩) 1 1 [[.int .i64 (g C), .int .i64 (A : Int), .int .i64 0, .slice none 0 0]] rfl rfl ?_ (Szd.one rfl) ?_ ?_ ?_ ?_ ?_ ?_) | go_in)
            · exact own_ext HD.out.own (((Ext.refl wr).alloc _ _).alloc _ _).drew
            · exact els_new _ _ (by rw [World.size_alloc]) _ _ _
            · intro cs hcs v hv
              rw [List.mem_singleton.1 hcs] at hv
              simp only [List.mem_cons, List.not_mem_nil, or_false] at hv
              rcases hv with rfl | rfl | rfl | rfl <;> rfl
            · omega
            · omega
            · omega
            · exact ((HD.out.ext.alloc _ _).alloc _ _).drew.size
            intro v5 w5 hown5 hgrow5
            have HDn : Hid (AcI w L g nk (q + 1) (D ++ [⟨g C, (A : Int), 0, none, 0, 0, fun _ => ze⟩]) v5 w5) := HD.out.snoc HX.out (((Ext.refl wr).alloc _ _).alloc _ _).drew (by
              refine ⟨?_, ?_, ?_⟩
              · show (g C) = g (x1 % nk).toNat
                rw [HCC.out, Int.toNat_natCast]
              · exact HAA.out.symm
              · show if (g C) = 1 ∨ (g C) = 6 then _ else _
                simp [hn1, hn6, hn4]) (Or.inl ⟨rfl, rfl, rfl⟩) (by simpa [jbC] using hown5) hgrow5
            clear hown5 hgrow5
            go_wp2_with fail
            go_roundw
            case rel => exact ⟨q + 1, _, by omega, by omega, by go_num, HDn.out⟩
            case measure => simp [intOf]; omega
      · obtain rfl : q = K := by omega
        have hmin : min L.length q = q := by rw [HL.out]; omega
        have hlen := HD.out.len
        go_wp2_with fail
        go_ret
        exact ⟨D, _, rfl, by rw [hmin]; exact hlen, by rw [hmin]; exact HD.out⟩
    · obtain rfl : q = m := by omega
      have hmin : min L.length K = q := by rw [HL.out]; omega
      have hlen := HD.out.len
      go_wp2_with fail
      go_ret
      exact ⟨D, _, rfl, by rw [hmin]; exact hlen, by rw [hmin]; exact HD.out⟩
end Go.Proofs.Ytgboboojjboocaa
