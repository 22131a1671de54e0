/-
  One job of a drive that is good: what it tells, what it leaves.
-/
import Derived.Test.YtgboboojjboocaaDrMath
namespace Go.Proofs.Ytgboboojjboocaa
open Go.RowKit Go.Deep E
theorem good_ref {n : Nat} {s : DState} (h : Good n s) {k a : Int} {l : Nat} (hk : 1 ≤ k ∧ k ≤ 8) (ha : 0 ≤ a ∧ a < (n : Int)) (hl : k = 1 ∨ k = 6 → l = 128) : refC n s.2.2 k a l = 0 := by
  unfold refC
  rw [if_neg (by omega), if_neg (by rw [h.2.1]; simp), if_neg (by omega), if_neg ?_]
  rintro ⟨h1, h2⟩
  refine h2 (hl ?_)
  unfold briB at h1
  simpa using h1
theorem job_put {n : Nat} {s : DState} {J : Jb} (h : Good n s) (hk : J.k = 1) (ha : 0 ≤ J.at' ∧ J.at' < (n : Int)) (hl : J.l = 128) : jobR n s J = ((0, none), (s.1, s.2.1 ++ [(J.at'.toNat, J.f)], s.2.2)) := by
  unfold jobR doR
  rw [good_ref h (by omega) ha (fun _ => hl), if_neg (by omega), if_pos hk]
theorem job_get {n : Nat} {s : DState} {J : Jb} (h : Good n s) (hk : J.k = 2) (ha : 0 ≤ J.at' ∧ J.at' < (n : Int)) : jobR n s J = ((0, some (has s J.at'.toNat)), s) := by
  unfold jobR doR
  rw [good_ref h (by omega) ha (fun q => by omega), if_neg (by omega), if_neg (by omega), if_pos hk, getV_good h (by omega)]
theorem job_flush {n : Nat} {s : DState} {J : Jb} (h : Good n s) (hk : J.k = 3) (ha : 0 ≤ J.at' ∧ J.at' < (n : Int)) : jobR n s J = ((0, none), (setK (fun _ => true) 0 s.2.1 s.1, [], s.2.2)) := by
  unfold jobR doR
  rw [good_ref h (by omega) ha (fun q => by omega), if_neg (by omega), if_neg (by omega), if_neg (by omega), if_pos hk]
theorem job_crash {n : Nat} {s : DState} {J : Jb} (h : Good n s) (hk : J.k = 4) (ha : 0 ≤ J.at' ∧ J.at' < (n : Int)) : jobR n s J = ((0, none), (setK (keepB J.kp) 0 s.2.1 s.1, [], s.2.2)) := by
  unfold jobR doR
  rw [good_ref h (by omega) ha (fun q => by omega), if_neg (by omega), if_neg (by omega), if_neg (by omega), if_neg (by omega), if_pos hk]
theorem put_good {n : Nat} {s : DState} (h : Good n s) (x : Nat × (Nat → E)) : Good n (s.1, s.2.1 ++ [x], s.2.2) := h
theorem put_has (s : DState) (x : Nat × (Nat → E)) (i : Nat) : has (s.1, s.2.1 ++ [x], s.2.2) i = if x.1 = i then x.2 else has s i := by
  unfold has
  show (match lastW (s.2.1 ++ [x]) i with | some c => c | none => _) = _
  rw [lastW_snoc]
  by_cases hx : x.1 = i
  · rw [if_pos hx, if_pos hx]
  · rw [if_neg hx, if_neg hx]
    rfl
/-- a job of an ordinary kind, of a sector that is there -/
def Plain (n : Nat) (J : Jb) : Prop := (J.k = 1 ∧ J.l = 128 ∨ J.k = 2 ∨ J.k = 3 ∨ J.k = 4) ∧ 0 ≤ J.at' ∧ J.at' < (n : Int)
theorem job_good {n : Nat} {s : DState} {J : Jb} (h : Good n s) (hp : Plain n J) : Good n (jobR n s J).2 := by
  obtain ⟨hk, ha⟩ := hp
  rcases hk with ⟨hk, hl⟩ | hk | hk | hk
  · rw [job_put h hk ha hl]; exact put_good h _
  · rw [job_get h hk ha]; exact h
  · rw [job_flush h hk ha]; exact set_good h _
  · rw [job_crash h hk ha]; exact set_good h _
theorem dend_good {n : Nat} : ∀ {L : List Jb} {s : DState}, Good n s → (∀ J, J ∈ L → Plain n J) → Good n (dend n s L)
  | [], _, h, _ => h
  | J :: l, _, h, hp => dend_good (L := l) (job_good h (hp J (List.mem_cons.2 (Or.inl rfl)))) fun K hK => hp K (List.mem_cons.2 (Or.inr hK))
end Go.Proofs.Ytgboboojjboocaa
