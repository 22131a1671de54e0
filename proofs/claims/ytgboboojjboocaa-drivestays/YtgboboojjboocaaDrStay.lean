/-
  What a loss of power leaves of sectors where something was put since the last flush, and where nothing was.
-/
import Derived.Test.YtgboboojjboocaaChecked
import Derived.WalkKit
import Derived.BigQuiet
import Derived.Test.YtgboboojjboocaaDrKeep2
namespace Go.Proofs.Ytgboboojjboocaa
open Go.RowKit Go.Deep E
/-- J puts into sector i -/
def PutAt (J : Jb) (i : Nat) : Prop := J.k = 1 ∧ J.at' = (i : Int)
structure DrSince (s1 : DState) (L : List Jb) (s : DState) : Prop where
  good : Good 8 s
  plt : ∀ i, plat s i = plat s1 i
  wait : ∀ (x : Nat × (Nat → E)), x ∈ s.2.1 → ∃ J, J ∈ L ∧ PutAt J x.1 ∧ J.f = x.2
theorem since_end {s1 : DState} (h1 : Good 8 s1) (hw : s1.2.1 = []) : ∀ {L : List Jb}, (∀ J, J ∈ L → Plain 8 J ∧ J.k ≠ 3 ∧ J.k ≠ 4) → DrSince s1 L (dend 8 s1 L) := fun {L} => by
  have key : ∀ (M L : List Jb) (s : DState), DrSince s1 L s → (∀ J, J ∈ M → Plain 8 J ∧ J.k ≠ 3 ∧ J.k ≠ 4) → DrSince s1 (L ++ M) (dend 8 s M) := fun M => by
    induction M with
    | nil => intro L s h _; rw [List.append_nil]; exact h
    | cons J M ih =>
      intro L s h hp
      have hJ := hp J (List.mem_cons.2 (Or.inl rfl))
      have h2 : DrSince s1 (L ++ [J]) (jobR 8 s J).2 := by
        refine ⟨job_good h.good hJ.1, fun i => by rw [job_plat h.good hJ.1 hJ.2.2 hJ.2.1]; exact h.plt i, fun x hx => ?_⟩
        obtain ⟨hj, ha⟩ := hJ.1
        rcases hj with ⟨hj, hl⟩ | hj | hj | hj
        · rw [job_put h.good hj ha hl] at hx
          rcases List.mem_append.1 hx with h3 | h3
          · obtain ⟨K, h4, h5⟩ := h.wait x h3
            exact ⟨K, List.mem_append.2 (Or.inl h4), h5⟩
          · rw [List.mem_singleton.1 h3]
            exact ⟨J, List.mem_append.2 (Or.inr (List.mem_singleton.2 rfl)), ⟨hj, by show J.at' = ((J.at'.toNat : Nat) : Int); omega⟩, rfl⟩
        · rw [job_get h.good hj ha] at hx
          obtain ⟨K, h4, h5⟩ := h.wait x hx
          exact ⟨K, List.mem_append.2 (Or.inl h4), h5⟩
        · exact absurd hj hJ.2.1
        · exact absurd hj hJ.2.2
      have := ih (L ++ [J]) _ h2 fun K hK => hp K (List.mem_cons.2 (Or.inr hK))
      rw [List.append_assoc] at this
      exact this
  intro hp
  have := key L [] s1 ⟨h1, fun _ => rfl, fun x hx => by rw [hw] at hx; simp at hx⟩ hp
  exact this
theorem stays {s1 : DState} (h1 : Good 8 s1) (hw : s1.2.1 = []) {L : List Jb} (hp : ∀ J, J ∈ L → Plain 8 J ∧ J.k ≠ 3 ∧ J.k ≠ 4) (keep : Int) {i : Nat} (hi : i < 8) :
    has (jobR 8 (dend 8 s1 L) (bareJ 4 0 keep)).2 i = has s1 i ∨ ∃ J, J ∈ L ∧ PutAt J i ∧ has (jobR 8 (dend 8 s1 L) (bareJ 4 0 keep)).2 i = J.f := by
  have hs := since_end h1 hw hp
  rw [job_crash hs.good rfl ⟨by show (0 : Int) ≤ 0; omega, by show (0 : Int) < 8; omega⟩]
  rw [has_set, set_plat hs.good _ hi]
  have he : has s1 i = plat s1 i := by
    unfold has plat
    rw [hw]
    rfl
  show (match lastK (keepB keep) 0 (dend 8 s1 L).2.1 i with | some c => c | none => plat (dend 8 s1 L) i) = _ ∨ ∃ J, J ∈ L ∧ PutAt J i ∧ (match lastK (keepB keep) 0 (dend 8 s1 L).2.1 i with | some c => c | none => plat (dend 8 s1 L) i) = J.f
  cases h : lastK (keepB keep) 0 (dend 8 s1 L).2.1 i with
  | none => exact Or.inl (by rw [he]; exact hs.plt i)
  | some c =>
    obtain ⟨J, h3, h4, h5⟩ := hs.wait _ (lastK_in h)
    exact Or.inr ⟨J, h3, h4, h5.symm⟩
theorem flush_good {s : DState} (h : Good 8 s) : Good 8 (jobR 8 s (bareJ 3 0 0)).2 ∧ (jobR 8 s (bareJ 3 0 0)).2.2.1 = [] := by
  rw [job_flush h rfl ⟨by show (0 : Int) ≤ 0; omega, by show (0 : Int) < 8; omega⟩]
  exact ⟨set_good h _, rfl⟩
set_option maxRecDepth 100000 in
set_option maxHeartbeats 400000 in
theorem sameBytesD_no (a a' : Option Addr) (n c c' : Nat) (f g : Nat → E) (w : World) (hn : n ≤ 9223372036854775807) (h : Byts w a n f) (h' : Byts w a' n g) (he : ¬ ∀ i, i < n → f i = g i) :
    Calls Try.prog 13 #[.slice a n c, .slice a' n c'] w fun e w' => e = .returned (.bool false) ∧ Ext w w' := by
  have HH : Hid (Byts w a n f) := h
  have HI : Hid (Byts w a' n g) := h'
  have HE : Hid (¬ ∀ i, i < n → f i = g i) := he
  clear h h' he
  have hB : ((n : Int) != (n : Int)) = false := by simp
  go_enter Try.func13, Try.ntmps13
  go_wp2_with fail
  go_loopw [5] (fun i wr => ∃ k : Nat, k ≤ n ∧ i = .int .i64 k ∧ Ext w wr ∧ Hid (∀ i, i < k → f i = g i)) (fun i _ => n - (intOf i).toNat)
  case atStart => exact ⟨0, Nat.zero_le _, rfl, Ext.refl _, fun i hi => by omega⟩
  case round =>
    obtain ⟨k, hk, rfl, hx, HK⟩ := hrel
    by_cases hlt : k < n
    · obtain ⟨b, o, rfl, hck⟩ := (HH.out.ext hx) k hlt
      obtain ⟨b', o', rfl, hck'⟩ := (HI.out.ext hx) k hlt
      by_cases e : f k = g k
      · have HK2 : Hid (∀ i, i < k + 1 → f i = g i) := fun i hi => by
          by_cases q : i = k
          · rw [q]; exact e
          · exact HK.out i (by omega)
        rw [← e] at hck'
        have hC : (ev (f k) != ev (f k)) = false := by simp
        clear e
        go_wp2_with fail
        go_region
        go_wp2_with fail
        go_roundw
        case rel => exact ⟨k + 1, by omega, by go_num, hx.drew, HK2⟩
        case measure => simp [intOf]; omega
      · have hC : (ev (f k) != ev (g k)) = true := by
          rw [bne_iff_ne]
          intro q
          exact e (by rw [← of_ev (f k), q, of_ev])
        clear e
        go_wp2_with fail
        go_region
        go_wp2_with fail
        go_ret
        exact ⟨rfl, hx.drew⟩
    · exfalso
      exact HE.out fun i hi => HK.out i (by omega)
/-- 128 bytes are the same -/
noncomputable def sameD (f g : Nat → E) : Bool := @decide (∀ i, i < 128 → f i = g i) (Classical.propDecidable _)
theorem sameD_true {f g : Nat → E} (h : ∀ i, i < 128 → f i = g i) : sameD f g = true := @decide_eq_true _ (Classical.propDecidable _) h
theorem sameD_false {f g : Nat → E} (h : ¬ ∀ i, i < 128 → f i = g i) : sameD f g = false := @decide_eq_false _ (Classical.propDecidable _) h
theorem sameD_self (f : Nat → E) : sameD f f = true := sameD_true fun _ _ => rfl
theorem sameD_any (a a' : Option Addr) (c c' : Nat) (f g : Nat → E) (w : World) (h : Byts w a 128 f) (h' : Byts w a' 128 g) :
    Calls Try.prog 13 #[.slice a 128 c, .slice a' 128 c'] w fun e w' => e = .returned (.bool (sameD f g)) ∧ Ext w w' := by
  by_cases e : ∀ i, i < 128 → f i = g i
  · rw [sameD_true e]
    exact sameBytesK_any a a' 128 c c' f g w (by omega) h h' e
  · rw [sameD_false e]
    exact sameBytesD_no a a' 128 c c' f g w (by omega) h h' e
end Go.Proofs.Ytgboboojjboocaa
