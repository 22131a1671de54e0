/-
  What all gave back: the deeds, their log, what they leave.
-/
import Derived.Test.YtfpbiimjcdbaoaaKeepSpace
namespace Go.Proofs.Ytfpbiimjcdbaoaa
open Go.RowKit Go.Deep
theorem recs_give (n : Nat) (S : Nat → Int) (d : Int × Int × Int) (h : d.1 = 2) : (doS n S d).recs = [] := by
  unfold doS
  rw [if_neg (by omega), if_pos h]
  unfold giveR
  split
  · split <;> rfl
  · rfl
theorem playL_recs2 (n : Nat) (hn : n ≤ 100) : ∀ (D : List (Int × Int × Int)) (S : Nat → Int), (playL n S D).2.length ≤ 50 * D.countP (fun d => d.1 != 2)
  | [], _ => Nat.le_refl _
  | d :: l, S => by
    have h2 := playL_recs2 n hn l (doS n S d).st
    show ((doS n S d).recs ++ (playL n (doS n S d).st l).2).length ≤ _
    rw [List.length_append, List.countP_cons]
    by_cases h : d.1 = 2
    · rw [recs_give n S d h]
      simp [h]
      exact h2
    · have h1 := recs_few2 n hn S d
      simp [h]
      omega
theorem givL_mem (S : Nat → Int) (m : Nat) : ∀ d, d ∈ givL S m → d.1 = 2 ∧ 0 ≤ d.2.1 ∧ d.2.1 ≤ (m : Int) ∧ d.2.2 = 1 := by
  induction m with
  | zero => intro d hd; simp [givL] at hd
  | succ m ih =>
    intro d hd
    unfold givL at hd
    rcases List.mem_append.1 hd with h | h
    · have := ih d h
      omega
    · split at h
      · obtain rfl := List.mem_singleton.1 h
        exact ⟨rfl, by simp only; omega, by simp only; omega, rfl⟩
      · simp at h
theorem givL_cnt (S : Nat → Int) (m : Nat) : (givL S m).countP (fun d => d.1 != 2) = 0 := by
  rw [List.countP_eq_zero]
  intro d hd
  have := (givL_mem S m d hd).1
  simp [this]
/-- all deeds: those, what is taken given back, two commits -/
abbrev backD (n : Nat) (D : List (Int × Int × Int)) : List (Int × Int × Int) := D ++ (givL (endS n D) n ++ [(3, 0, 0), (3, 0, 0)])
theorem back_end (n : Nat) (hn : 1 ≤ n ∧ n ≤ 100) (D : List (Int × Int × Int)) : endS n (backD n D) = fun _ => 0 := by
  show playE n _ (D ++ _) = _
  rw [playE_append]
  exact all_back n (endS n D) (endS_in n D) (log_all n (by omega) D (fun _ => 0) (in4_0 n) fun _ _ => rfl).2
theorem back_told (n : Nat) (hn : 1 ≤ n ∧ n ≤ 100) (D : List (Int × Int × Int)) (hD : D.length ≤ 40) :
    behS (n : Int) (playL n (fun _ => 0) (backD n D)).2 = .inr (shut (fun _ => 0)) ∧ BddR (playL n (fun _ => 0) (backD n D)).2 ∧ (playL n (fun _ => 0) (backD n D)).2.length ≤ 4096 ∧ (backD n D).length = D.length + (givL (endS n D) n).length + 2 ∧ (givL (endS n D) n).length ≤ n := by
  obtain ⟨h1, h2⟩ := log_all n (by omega) (backD n D) (fun _ => 0) (in4_0 n) fun _ _ => rfl
  rw [shut_0, show playE n (fun _ => 0) (backD n D) = fun _ => 0 from back_end n hn D] at h1
  have h3 := playL_recs2 n hn.2 (backD n D) (fun _ => 0)
  have h4 : (backD n D).countP (fun d => d.1 != 2) ≤ 42 := by
    show (D ++ (givL (endS n D) n ++ [(3, 0, 0), (3, 0, 0)])).countP _ ≤ 42
    rw [List.countP_append, List.countP_append, givL_cnt]
    have h5 : D.countP (fun d => d.1 != 2) ≤ D.length := List.countP_le_length
    have h6 : List.countP (fun d : Int × Int × Int => d.1 != 2) [(3, 0, 0), (3, 0, 0)] = 2 := rfl
    rw [h6]
    omega
  refine ⟨beh_some (by omega) (by omega) h1, rep_bdd n (by omega) _ _ _ h1, by omega, ?_, givL_len _ _⟩
  show (D ++ (givL (endS n D) n ++ [(3, 0, 0), (3, 0, 0)])).length = _
  rw [List.length_append, List.length_append]
  simp
  omega
theorem back_bdd (n : Nat) (hn : n ≤ 100) (D : List (Int × Int × Int)) (hok : ∀ d, d ∈ D → DeedOk n d) : BddD (backD n D) := fun d hd => by
  rcases List.mem_append.1 hd with h | h
  · have := (hok d h).bd hn
    omega
  · rcases List.mem_append.1 h with h | h
    · have := givL_mem _ _ d h
      omega
    · simp only [List.mem_cons, List.not_mem_nil, or_false, or_self] at h
      subst h
      exact ⟨⟨(by decide : (-9223372036854775808 : Int) ≤ 0), (by decide : (0 : Int) ≤ 9223372036854775807)⟩, (by decide : (-9223372036854775808 : Int) ≤ 0), (by decide : (0 : Int) ≤ 9223372036854775807)⟩
theorem none_told {n : Nat} {v : Value} {er : Int} {w' : World} (h : ConRes (n : Int) (.inr (shut (fun _ => 0))) v er w') : er = 0 ∧ ∃ a c, v = .slice a 0 c := by
  obtain ⟨h1, a, c, h2, _⟩ := h
  have e : runs (isS (shut fun _ => 0) 1) ((n : Int)).toNat = [] := runs_none _ (fun i => rfl) _
  rw [e] at h2
  exact ⟨h1, a, c, h2⟩
theorem infoBl : (Try.prog.info? 4).map (fun i => (i.zero, i.size, i.bytes)) = some (some (.bool false), 1, 1) := by kernel_rfl
theorem make_boolK (n : Nat) (hb : n ≤ 1073741824) (w : World) : (Instr.makeSlice 49 (.int .i64 (n : Int)) (.int .i64 (n : Int))).run Try.prog w = .ok (.slice (some ⟨w.heap.size, 0, none⟩) n n) (w.alloc (.cells (madeCells #[.bool false] n) 4)) :=
  run_make_row' (P := Try.prog) 49 4 (.bool false) 1 Try.underlying49 infoBl rfl .i64 .i64 n (by omega) (by omega) w
abbrev bt (S : Nat → Int) : Nat → Value := fun i => .bool (tkn S i)
theorem bt_set {wr : World} {g n : Nat} {t : TypeId} {S : Nat → Int} {X k : Nat} {v : Int} (h : wr.rowIs g t n (bt (putS S X (X + k) v))) {p : Nat} (hp : X + k = p) {x : Bool} (hx : (v == 1) = x) : (wr.setCell ⟨g, p, none⟩ (.bool x)).rowIs g t n (bt (putS S X (X + (k + 1)) v)) := by
  refine (World.rowIs.set h p (.bool x)).congr fun i hi => ?_
  unfold bt
  rw [tkn_put, tkn_put]
  by_cases c : i = p
  · rw [if_pos c]
    simp only
    rw [if_pos (by omega), hx]
  · rw [if_neg c]
    simp only
    by_cases c2 : X ≤ i ∧ i < X + k
    · rw [if_pos c2, if_pos (by omega)]
    · rw [if_neg c2, if_neg (by omega)]
/-- two elements, laid in a block of their own -/
theorem tri_new2 (W : World) (g : Nat) (hg : g = W.heap.size) (x y z x' y' z' : Value) (t : TypeId) : Tri (W.alloc (.cells #[x, y, z, x', y', z'] t)) (some ⟨g, 0, none⟩) [(x, y, z), (x', y', z')] := by
  subst hg
  intro i a b c hi
  have hl := lt_of_get hi
  have hl2 : i < 2 := hl
  rcases (show i = 0 ∨ i = 1 by omega) with rfl | rfl
  · simp at hi
    obtain ⟨rfl, rfl, rfl⟩ := hi
    exact ⟨_, 0, rfl, by rw [new_cell]; rfl, by rw [new_cell]; rfl, by rw [new_cell]; rfl⟩
  · simp at hi
    obtain ⟨rfl, rfl, rfl⟩ := hi
    exact ⟨_, 0, rfl, by rw [new_cell]; rfl, by rw [new_cell]; rfl, by rw [new_cell]; rfl⟩
theorem fndV_append (L M : List (Int × Int × Int)) : fndV (L ++ M) = fndV L ++ fndV M := List.map_append ..
theorem givL_yes {S : Nat → Int} {k : Nat} (h : S k = 1) : givL S (k + 1) = givL S k ++ [(2, (k : Int), 1)] := by
  show givL S k ++ _ = _
  rw [if_pos h]
theorem givL_no {S : Nat → Int} {k : Nat} (h : S k ≠ 1) : givL S (k + 1) = givL S k := by
  show givL S k ++ _ = _
  rw [if_neg h, List.append_nil]
theorem row_ne {w : World} {g : Nat} {t : TypeId} {n : Nat} {f : Nat → Value} (h : w.rowIs g t n f) {b : Nat} {e : TypeId} {s : Nat} {v : Value} {m : Nat} {xs : List Value} (h2 : w.ownsRow b e s v m xs) (hne : t ≠ e) : some g ≠ v.ownBlock := fun q => by
  obtain ⟨cur, hc⟩ := own_block h2 q.symm
  obtain ⟨c, hb, _⟩ := h
  rw [hb] at hc
  cases hc
  exact hne rfl
theorem row_keep {w w' : World} {g : Nat} {t : TypeId} {n : Nat} {f : Nat → Value} (h : w.rowIs g t n f) {b : Nat} {e : TypeId} {s : Nat} {v : Value} {m : Nat} {xs : List Value} (h2 : w.ownsRow b e s v m xs) (hg : w.grownBy w' v.ownBlock) (hne : t ≠ e) : w'.rowIs g t n f :=
  World.rowIs.of_block h (hg.block g (World.rowIs.lt h) (row_ne h h2 hne))
theorem own_row {w w' : World} {g : Nat} {t : TypeId} {n : Nat} {f : Nat → Value} (h : w.rowIs g t n f) {b : Nat} {e : TypeId} {s : Nat} {v : Value} {m : Nat} {xs : List Value} (h2 : w.ownsRow b e s v m xs) (hw : Wro (· = g) w w') (hne : t ≠ e) : w'.ownsRow b e s v m xs :=
  own_wroS h2 hw fun _ hk q => row_ne h h2 hne (by rw [hk, q])
end Go.Proofs.Ytfpbiimjcdbaoaa
