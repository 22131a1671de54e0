/-
  A drive that is broken in a sector, written anew, dead, and new: what it tells.
-/
import Derived.Test.YtgboboojjboocaaChecked
import Derived.WalkKit
import Derived.BigQuiet
import Derived.Test.YtgboboojjboocaaDrKeep2
namespace Go.Proofs.Ytgboboojjboocaa
open Go.RowKit Go.Deep E
def putJ (k : Nat) (ad : Option Addr) (c : Nat) (f : Nat → E) : Jb := ⟨1, k, 0, ad, 128, c, f⟩
def deadJs (k : Nat) (ad : Option Addr) (c : Nat) (f : Nat → E) : List Jb :=
  [bareJ 3 0 0, bareJ 5 k 0, bareJ 2 k 0, putJ k ad c f, bareJ 3 0 0, bareJ 2 k 0, bareJ 7 0 0, bareJ 2 k 0, bareJ 3 0 0, bareJ 8 0 0, bareJ 2 k 0]
theorem ref_ok {k a : Int} {l : Nat} (hk : 1 ≤ k ∧ k ≤ 8) (ha : 0 ≤ a ∧ a < 8) (hl : k = 1 ∨ k = 6 → l = 128) : refC 8 false k a l = 0 := by
  unfold refC
  rw [if_neg (by omega), if_neg (by simp), if_neg (by omega), if_neg ?_]
  rintro ⟨h1, h2⟩
  refine h2 (hl ?_)
  unfold briB at h1
  simpa using h1
theorem ref_dead {k a : Int} {l : Nat} (hk : 1 ≤ k ∧ k ≤ 7) : refC 8 true k a l = 13 := by
  unfold refC
  rw [if_neg (by omega), if_pos ⟨rfl, by omega⟩]
theorem ref_new {a : Int} {l : Nat} : refC 8 true 8 a l = 0 := by
  unfold refC
  rw [if_neg (by omega), if_neg (by simp), if_neg (by unfold namB; simp), if_neg (by unfold briB; simp)]
theorem jr_flush (PL : List ((Nat → E) × Bool)) (W : List (Nat × (Nat → E))) : jobR 8 (PL, W, false) (bareJ 3 0 0) = ((0, none), (setK (fun _ => true) 0 W PL, [], false)) := by
  unfold jobR doR bareJ
  simp only
  rw [ref_ok (by omega) (by omega) (by omega), if_neg (by omega), if_neg (by omega), if_neg (by omega), if_pos trivial]
theorem jr_break (PL : List ((Nat → E) × Bool)) (W : List (Nat × (Nat → E))) {k : Nat} (hk : k < 8) : jobR 8 (PL, W, false) (bareJ 5 k 0) = ((0, none), (PL.set k ((PL.getD k (fun _ => ze, false)).1, true), W, false)) := by
  unfold jobR doR bareJ
  simp only
  rw [ref_ok (by omega) (by omega) (by omega), if_neg (by omega), if_neg (by omega), if_neg (by omega), if_neg (by omega), if_neg (by omega), if_pos trivial, Int.toNat_natCast]
theorem jr_get (PL : List ((Nat → E) × Bool)) (W : List (Nat × (Nat → E))) {k : Nat} (hk : k < 8) : jobR 8 (PL, W, false) (bareJ 2 k 0) = (getV PL W k, (PL, W, false)) := by
  unfold jobR doR bareJ
  simp only
  rw [ref_ok (by omega) (by omega) (by omega), if_neg (by omega), if_neg (by omega), if_pos trivial, Int.toNat_natCast]
theorem jr_put (PL : List ((Nat → E) × Bool)) (W : List (Nat × (Nat → E))) {k : Nat} (hk : k < 8) (ad : Option Addr) (c : Nat) (f : Nat → E) : jobR 8 (PL, W, false) (putJ k ad c f) = ((0, none), (PL, W ++ [(k, f)], false)) := by
  unfold jobR doR putJ
  simp only
  rw [ref_ok (by omega) (by omega) (by omega), if_neg (by omega), if_pos trivial, Int.toNat_natCast]
theorem jr_fail (PL : List ((Nat → E) × Bool)) (W : List (Nat × (Nat → E))) : jobR 8 (PL, W, false) (bareJ 7 0 0) = ((0, none), (PL, W, true)) := by
  unfold jobR doR bareJ
  simp only
  rw [ref_ok (by omega) (by omega) (by omega), if_neg (by omega), if_neg (by omega), if_neg (by omega), if_neg (by omega), if_neg (by omega), if_neg (by omega), if_neg (by omega), if_pos trivial]
theorem jr_dead (PL : List ((Nat → E) × Bool)) (W : List (Nat × (Nat → E))) {k : Int} (hk : 1 ≤ k ∧ k ≤ 7) (a : Int) : jobR 8 (PL, W, true) (bareJ k a 0) = ((13, none), (PL, W, true)) := by
  unfold jobR doR bareJ
  simp only
  rw [ref_dead hk, if_pos (by omega)]
theorem jr_new (PL : List ((Nat → E) × Bool)) (W : List (Nat × (Nat → E))) : jobR 8 (PL, W, true) (bareJ 8 0 0) = ((0, none), newS 8) := by
  unfold jobR doR bareJ
  simp only
  rw [ref_new, if_neg (by omega), if_neg (by omega), if_neg (by omega), if_neg (by omega), if_neg (by omega), if_neg (by omega), if_neg (by omega), if_neg (by omega)]
  rfl
theorem getV_at {PL : List ((Nat → E) × Bool)} {k : Nat} {s : (Nat → E) × Bool} (h : PL[k]? = some s) : getV PL [] k = if s.2 then (12, none) else (0, some s.1) := by
  unfold getV
  show (match PL[k]? with | some s => if s.2 then ((12 : Int), none) else (0, some s.1) | none => (0, none)) = _
  rw [h]
theorem dead_play {s : DState} (h : Good 8 s) {k : Nat} (hk : k < 8) (ad : Option Addr) (c : Nat) (f : Nat → E) :
    dplay 8 s (deadJs k ad c f) = [(0, none), (0, none), (12, none), (0, none), (0, none), (0, some f), (0, none), (13, none), (13, none), (0, none), (0, some fun _ => ze)] := by
  obtain ⟨PL, W, d⟩ := s
  obtain ⟨h1, h2, _⟩ := h
  simp only at h1 h2
  subst h2
  have hl := setK_len (fun _ => true) W 0 PL
  obtain ⟨P1, hP1⟩ : ∃ P1, P1 = setK (fun _ => true) 0 W PL := ⟨_, rfl⟩
  rw [← hP1, h1] at hl
  obtain ⟨P2, hP2⟩ : ∃ P2, P2 = P1.set k ((P1.getD k (fun _ => ze, false)).1, true) := ⟨_, rfl⟩
  have g2 : P2[k]? = some ((P1.getD k (fun _ => ze, false)).1, true) := by rw [hP2, List.getElem?_set_self (by omega)]
  have hl2 : P2.length = 8 := by rw [hP2, List.length_set, hl]
  obtain ⟨P3, hP3⟩ : ∃ P3, P3 = P2.set k (f, false) := ⟨_, rfl⟩
  have g3 : P3[k]? = some (f, false) := by rw [hP3, List.getElem?_set_self (by omega)]
  have g4 : (newP 8)[k]? = some ((fun _ => ze), false) := by
    unfold newP
    rw [List.getElem?_replicate, if_pos hk]
  unfold deadJs
  simp only [dplay, jr_flush, ← hP1, jr_break _ _ hk, ← hP2, jr_get _ _ hk, jr_put _ _ hk, List.nil_append, setK, if_true, ← hP3, jr_fail, jr_dead _ _ (show (1 : Int) ≤ 2 ∧ (2 : Int) ≤ 7 by omega), jr_dead _ _ (show (1 : Int) ≤ 3 ∧ (3 : Int) ≤ 7 by omega), jr_new, newS, getV_at g2, getV_at g3, getV_at g4]
  rfl
theorem job_rot {n : Nat} {s : DState} {J : Jb} (h : Good n s) (hk : J.k = 6) (ha : 0 ≤ J.at' ∧ J.at' < (n : Int)) (hl : J.l = 128) : Good n (jobR n s J).2 := by
  unfold jobR doR
  rw [good_ref h (by omega) ha (fun _ => hl), if_neg (by omega), if_neg (by omega), if_neg (by omega), if_neg (by omega), if_neg (by omega), if_neg (by omega), if_pos hk]
  refine ⟨by show (s.1.set _ _).length = n; rw [List.length_set]; exact h.1, h.2.1, fun i x hx => ?_⟩
  have hx : (s.1.set J.at'.toNat (J.f, false))[i]? = some x := hx
  rw [List.getElem?_set] at hx
  split at hx
  · split at hx
    · cases hx; rfl
    · cases hx
  · exact h.2.2 i x hx
theorem dend_good6 : ∀ {L : List Jb} {s : DState}, Good 8 s → (∀ J, J ∈ L → Plain 8 J ∨ (J.k = 6 ∧ J.l = 128 ∧ 0 ≤ J.at' ∧ J.at' < 8)) → Good 8 (dend 8 s L)
  | [], _, h, _ => h
  | J :: l, s, h, hp => by
    have h2 : Good 8 (jobR 8 s J).2 := by
      rcases hp J (List.mem_cons.2 (Or.inl rfl)) with hj | ⟨h1, h2, h3⟩
      · exact job_good h hj
      · exact job_rot h h1 h3 h2
    exact dend_good6 (L := l) h2 fun K hK => hp K (List.mem_cons.2 (Or.inr hK))
/-- eleven jobs of forty-four cells laid at once -/
theorem els_flat (W : World) (g : Nat) (hg : g = W.heap.size) (L : List (List Value)) (t : TypeId) (sz : Nat) (hs : Szd sz L) (cs : Array Value) (hc : cs = L.flatten.toArray) : Els (W.alloc (.cells cs t)) (some ⟨g, 0, none⟩) sz L := by
  subst hg
  subst hc
  intro i ds hi
  refine ⟨_, 0, rfl, fun j v hv => ?_⟩
  have hj : j < sz := by
    have := hs ds (List.mem_of_getElem? hi)
    have := lt_of_get hv
    omega
  rw [Nat.zero_add, new_cell]
  have := flat_get hs hi j hj
  rw [hv] at this
  simpa using this
end Go.Proofs.Ytgboboojjboocaa
