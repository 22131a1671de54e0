/-
  What deeds leave, told by the log: facts that the four statements on single spaces share.
-/
import Derived.Test.YtfpbiimjcdbaoaaSpDeeds
import Derived.Test.YtfpbiimjcdbaoaaSpaceP
import Derived.Test.YtfpbiimjcdbaoaaSpaceOpen
import Derived.Test.YtfpbiimjcdbaoaaSameR
import Derived.Test.YtfpbiimjcdbaoaaSpanSz
import Derived.Test.YtfpbiimjcdbaoaaSpanFst
namespace Go.Proofs.Ytfpbiimjcdbaoaa
open Go.RowKit Go.Deep
/-- the units behind deeds of a new space -/
abbrev endS (n : Nat) (D : List (Int × Int × Int)) : Nat → Int := playE n (fun _ => 0) D
theorem in4_0 (n : Nat) : In4 n (fun _ => 0) := fun _ _ => ⟨Int.le_refl _, (by decide : (0 : Int) ≤ 3)⟩
theorem endS_in (n : Nat) (D : List (Int × Int × Int)) : In4 n (endS n D) := playE_in n (in4_0 n) D
theorem recs_few2 (n : Nat) (hn : n ≤ 100) (S : Nat → Int) (d : Int × Int × Int) : (doS n S d).recs.length ≤ 50 := by
  unfold doS
  split
  · unfold takeR
    split
    · split <;> simp
    · simp
  · split
    · unfold giveR
      split
      · split <;> simp
      · simp
    · split
      · have := runs_len (isS S 3) n
        simp only [commitR, List.length_map]
        omega
      · simp
theorem playL_recs (n : Nat) (hn : n ≤ 100) : ∀ (D : List (Int × Int × Int)) (S : Nat → Int), (playL n S D).2.length ≤ 50 * D.length
  | [], _ => Nat.le_refl _
  | d :: l, S => by
    have h1 := recs_few2 n hn S d
    have h2 := playL_recs n hn l (doS n S d).st
    show ((doS n S d).recs ++ (playL n (doS n S d).st l).2).length ≤ 50 * (l.length + 1)
    rw [List.length_append]
    omega
theorem shut_0 : shut (fun _ => 0) = fun _ => 0 := rfl
theorem rep_bdd (n : Nat) (hn : n ≤ 4096) : ∀ (L : List (Bool × Int × Int)) (S S' : Nat → Int), replayS n S L = some S' → BddR L
  | [], _, _, _ => fun r hr => by simp at hr
  | (f, x, y) :: l, S, S', h => by
    cases hs : stepR n S (f, x, y) with
    | none => rw [rep_none hs] at h; cases h
    | some S1 =>
      rw [rep_some hs] at h
      have ih := rep_bdd n hn l S1 S' h
      intro r hr
      rcases List.mem_cons.1 hr with e | hr
      · subst e
        have hc : rmB x y = true := by
          cases hc : rmB x y with
          | true => rfl
          | false => rw [step_form hc] at hs; cases hs
        obtain ⟨X, Y, h1, h2, h3, h4⟩ := rmB_nat hc
        simp only
        omega
      · exact ih r hr
theorem beh_some {n : Nat} (hn : 1 ≤ n ∧ n ≤ 4096) {L : List (Bool × Int × Int)} {S : Nat → Int} (hl : L.length ≤ 4096) (h : replayS n (fun _ => 0) L = some S) : behS (n : Int) L = .inr S := by
  have hz : szB (n : Int) = true := by unfold szB; simp; omega
  unfold behS
  rw [hz, if_pos rfl, if_pos hl, Int.toNat_natCast, h]
/-- the log of deeds -/
theorem log_told (n : Nat) (hn : 1 ≤ n ∧ n ≤ 100) (D : List (Int × Int × Int)) (hD : D.length ≤ 60) :
    behS (n : Int) (playL n (fun _ => 0) D).2 = .inr (shut (endS n D)) ∧ BddR (playL n (fun _ => 0) D).2 ∧ (playL n (fun _ => 0) D).2.length ≤ 4096 ∧ ∀ i, n ≤ i → endS n D i = 0 := by
  obtain ⟨h1, h2⟩ := log_all n (by omega) D (fun _ => 0) (in4_0 n) fun _ _ => rfl
  rw [shut_0] at h1
  have h3 := playL_recs n hn.2 D (fun _ => 0)
  exact ⟨beh_some (by omega) (by omega) h1, rep_bdd n (by omega) _ _ _ h1, by omega, h2⟩
/-- what is free -/
abbrev freeL (n : Nat) (S : Nat → Int) : List (Int × Int) := runs (isS S 0) n
/-- what is taken, as records -/
abbrev takeL (n : Nat) (S : Nat → Int) : List (Bool × Int × Int) := (runs (isS (shut S) 1) n).map fun r => (false, r.1, r.2)
theorem rest_told {n : Nat} (hn : 1 ≤ n ∧ n ≤ 100) {S : Nat → Int} {v : Value} {er : Int} {w' : World} (h : RepRes (n : Int) (.inr (shut S)) v er w') : er = 0 ∧ ∃ a c, v = .slice a (freeL n S).length c ∧ Rngs w' a (freeL n S) := by
  unfold RepRes at h
  simp only [Int.toNat_natCast, isS_shut] at h
  have := runs_len (isS S 0) n
  rw [if_pos (by omega)] at h
  exact h
theorem few_told {n : Nat} (hn : 1 ≤ n ∧ n ≤ 100) {S : Nat → Int} (h0 : ∀ i, n ≤ i → S i = 0) {v : Value} {er : Int} {w' : World} (h : ConRes (n : Int) (.inr (shut S)) v er w') :
    er = 0 ∧ (∃ a c, v = .slice a (takeL n S).length c ∧ Tri w' a (recV (takeL n S))) ∧ 2 * (takeL n S).length ≤ n + 1 ∧ behS (n : Int) (takeL n S) = .inr (shut S) ∧ BddR (takeL n S) := by
  obtain ⟨h1, a, c, h2, h3⟩ := h
  rw [Int.toNat_natCast] at h2 h3
  have hl := runs_len (isS (shut S) 1) n
  have hb := cond_back n (by omega) S h0
  have e : recV (takeL n S) = recL false (runs (isS (shut S) 1) n) := by
    unfold recV recL
    rw [List.map_map]
    rfl
  have e2 : (takeL n S).length = (runs (isS (shut S) 1) n).length := List.length_map ..
  exact ⟨h1, ⟨a, c, by rw [e2]; exact h2, by rw [e]; exact h3⟩, by rw [e2]; exact hl, beh_some (by omega) (by rw [e2]; omega) hb, rep_bdd n (by omega) _ _ _ hb⟩
theorem free_may {n : Nat} (hn : 1 ≤ n ∧ n ≤ 100) (S : Nat → Int) : mayB (freeL n S) = true ∧ sizeV (freeL n S) = cntS S 0 n ∧ Bdd (freeL n S) ∧ (freeL n S).length ≤ 50 := by
  have hs := runs_spec (isS S 0) n
  have hl : 2 * (freeL n S).length ≤ n + 1 := runs_len (isS S 0) n
  have hm : mayB (freeL n S) = true := (mayB_iff _).2 ⟨by omega, hs.nrm, fun r hr => by have := hs.bd r hr; have := hs.nrm.lt r hr; omega⟩
  refine ⟨hm, ?_, fun r hr => by have := hs.bd r hr; have := hs.nrm.lt r hr; omega, by omega⟩
  unfold sizeV
  rw [hm, if_pos rfl, szL_runs]
/-- what the last deed left -/
theorem last_left (n : Nat) (D : List (Int × Int × Int)) (hD : D ≠ []) : ∃ x y, (playL n (fun _ => 0) D).1[D.length - 1]? = some (x, y, cntS (endS n D) 0 n) := by
  rcases List.eq_nil_or_concat D with h | ⟨L, d, h⟩
  · exact absurd h hD
  · rw [List.concat_eq_append] at h
    subst h
    have h1 := playL_last n (fun _ => 0) L d
    refine ⟨(doS n (endS n L) d).code, (doS n (endS n L) d).place, ?_⟩
    rw [show endS n (L ++ [d]) = (doS n (endS n L) d).st from playE_snoc n _ L d, List.length_append]
    exact h1
/-- what is told of the deed at q -/
theorem told_at (n : Nat) (D : List (Int × Int × Int)) (q : Nat) {d : Int × Int × Int} (hd : D[q]? = some d) :
    (playL n (fun _ => 0) D).1[q]? = some ((doS n (endS n (D.take q)) d).code, (doS n (endS n (D.take q)) d).place, cntS (doS n (endS n (D.take q)) d).st 0 n) ∧ endS n (D.take (q + 1)) = (doS n (endS n (D.take q)) d).st := by
  obtain ⟨hq, e⟩ := List.getElem?_eq_some_iff.1 hd
  have h1 := playL_at n (fun _ => 0) D q hq
  have h2 := playE_take n (fun _ => 0) D q hq
  rw [e] at h1 h2
  exact ⟨by rw [← h1]; exact List.getElem?_eq_getElem _, h2⟩
theorem infoI8 : (Try.prog.info? 3).map (fun i => (i.zero, i.size, i.bytes)) = some (some (.int .i64 0), 1, 8) := by kernel_rfl
/-- what rests, as the statement counts it -/
abbrev sn (S : Nat → Int) : Nat → Int := fun i => sinceV (S i)
theorem sn_set {wr : World} {g n : Nat} {t : TypeId} {S : Nat → Int} {X k : Nat} {v : Int} (h : Uns wr g t n (sn (putS S X (X + k) v))) {p : Nat} (hp : X + k = p) {x : Int} (hx : sinceV v = x) : Uns (wr.setCell ⟨g, p, none⟩ (.int .i64 x)) g t n (sn (putS S X (X + (k + 1)) v)) := by
  refine (World.rowIs.set h p (.int .i64 x)).congr fun i hi => ?_
  by_cases c : i = p
  · rw [if_pos c]
    unfold sn putS
    rw [if_pos (by omega), hx]
    rfl
  · rw [if_neg c]
    unfold sn putS
    by_cases c2 : X ≤ i ∧ i < X + k
    · rw [if_pos c2, if_pos (by omega)]
    · rw [if_neg c2, if_neg (by omega)]
theorem sinceV_bd (s : Int) : -1 ≤ sinceV s ∧ sinceV s ≤ 2 := by
  unfold sinceV
  split
  · omega
  · split
    · omega
    · split <;> omega
def comK (S : Nat → Int) (k : Nat) : Nat → Int := fun i => if i < k then sinceV (comS S i) else sinceV (S i)
theorem comK_set {wr : World} {g n : Nat} {t : TypeId} {S : Nat → Int} {k : Nat} (h : Uns wr g t n (comK S k)) {x : Int} (hx : sinceV (comS S k) = x) : Uns (wr.setCell ⟨g, k, none⟩ (.int .i64 x)) g t n (comK S (k + 1)) := by
  refine (World.rowIs.set h k (.int .i64 x)).congr fun i hi => ?_
  by_cases c : i = k
  · rw [if_pos c]
    unfold comK
    rw [if_pos (by omega), c, hx]
    rfl
  · rw [if_neg c]
    unfold comK
    by_cases c2 : i < k
    · rw [if_pos c2, if_pos (by omega)]
    · rw [if_neg c2, if_neg (by omega)]
theorem comK_skip {wr : World} {g n : Nat} {t : TypeId} {S : Nat → Int} {k : Nat} (h : Uns wr g t n (comK S k)) (hx : sinceV (comS S k) = sinceV (S k)) : Uns wr g t n (comK S (k + 1)) := by
  refine World.rowIs.congr h fun i hi => ?_
  unfold comK
  by_cases c : i = k
  · rw [if_neg (by omega), if_pos (by omega), c, hx]
  · by_cases c2 : i < k
    · rw [if_pos c2, if_pos (by omega)]
    · rw [if_neg c2, if_neg (by omega)]
theorem make_ints (n : Nat) (hb : n ≤ 4096) (w : World) : (Instr.makeSlice 29 (.int .i64 (n : Int)) (.int .i64 (n : Int))).run Try.prog w = .ok (.slice (some ⟨w.heap.size, 0, none⟩) n n) (w.alloc (.cells (madeCells #[.int .i64 0] n) 3)) :=
  run_make_row' (P := Try.prog) 29 3 (.int .i64 0) 8 Try.underlying29 infoI8 rfl .i64 .i64 n (by omega) (by omega) w
theorem infoRec3 : (Try.prog.info? 69).map (fun i => (i.zero, i.size, i.bytes)) = some (some (.agg #[.bool false, .int .i64 0, .int .i64 0]), 3, 24) := by kernel_rfl
theorem rec_one3 (L : List (Bool × Int × Int)) : one3 (recV L) := fun r hr => by
  obtain ⟨s, _, rfl⟩ := List.mem_map.1 hr
  exact ⟨rfl, rfl, rfl⟩
end Go.Proofs.Ytfpbiimjcdbaoaa
