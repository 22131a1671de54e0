/-
  stripe.picks: the iterator's word.
-/
import Derived.Test.YthgbfakmkdifbaaChecked
import Derived.Test.YthgbfakmkdifbaaRgOwn
import Derived.Test.YthgbfakmkdifbaaCombAllX
import Derived.Test.YthgbfakmkdifbaaPksMat
namespace Go.Proofs.Ythgbfakmkdifbaa
open Go.RowKit Go.Shelf Go.Deep E
attribute [local go_sem] Oper.semAt_some
/-- all picks of fewer than m of N things, the smaller ones first -/
def allPk (N : Nat) : Nat → List (List Nat)
  | 0 => []
  | k + 1 => allPk N k ++ pk N k 0
theorem allPk_at {N m k i : Nat} (hk : k < m) (hi : i < (pk N k 0).length) : (allPk N m)[(allPk N k).length + i]? = (pk N k 0)[i]? := by
  induction m with
  | zero => omega
  | succ m ih =>
    by_cases e : k = m
    · subst e
      show (allPk N k ++ pk N k 0)[(allPk N k).length + i]? = _
      rw [List.getElem?_append_right (by omega), Nat.add_sub_cancel_left]
    · have h := ih (by omega)
      show (allPk N m ++ pk N m 0)[(allPk N k).length + i]? = _
      have hlt : (allPk N k).length + i < (allPk N m).length := by
        rw [List.getElem?_eq_getElem hi] at h
        exact (List.getElem?_eq_some_iff.1 h).1
      rw [List.getElem?_append_left hlt, h]
/-- the slice that a round is handed is pick number s -/
def PkAt (All : List (List Nat)) (s s' : Nat) (v : Value) (W : World) : Prop := s' = s + 1 ∧ ∃ (p : List Nat) (a : Option Addr) (c : Nat), All[s]? = some p ∧ v = .slice a p.length c ∧ Ints W a p.length (pkF p)
theorem PkAt.kc {All : List (List Nat)} {s s' : Nat} {v : Value} {A B : World} (h : PkAt All s s' v A) (k : Kc A B) : PkAt All s s' v B := by
  obtain ⟨h1, p, a, c, h2, h3, h4⟩ := h
  exact ⟨h1, p, a, c, h2, h3, k.ints h4⟩
theorem Kc.mat {W W' : World} (h : Kc W W') {a : Option Addr} {n : Nat} {A : Nat → Option Addr} {L C : Nat → Nat} {F : Nat → Nat → Int} (hm : Mat W a n A L C F) : Mat W' a n A L C F := fun r hr => by
  obtain ⟨⟨b, o, h1, h2⟩, h3⟩ := hm r hr
  exact ⟨⟨b, o, h1, h.keeps h2⟩, h.ints h3⟩
set_option maxRecDepth 100000 in
set_option maxHeartbeats 4000000 in
theorem picks1_in (n : Nat) (hn : 1 ≤ n) (l bm bn N q : Nat) (hN : N ≤ 12) (hq : q ≤ N) (J : Nat → World → Prop) (Jx : World → Prop)
    (hJ : ∀ s A B, J s A → Ext A B → J s B)
    (hY : ∀ s s' v W1, J s W1 → PkAt (allPk N (q + 1)) s s' v W1 → YieldAt Fence.wide (n - 1) Try.prog l #[v] W1 fun e W' => (e = .returned (.bool true) ∧ J s' W' ∧ Kc W1 W') ∨ (e = .returned (.bool false) ∧ Jx W'))
    (W : World) (hm : W.cell? ⟨bm, 0, none⟩ = some (.int .i64 q)) (hb : W.cell? ⟨bn, 0, none⟩ = some (.int .i64 N)) (h0 : J 0 W) :
    CallsIn Fence.wide n Try.prog 48 #[.func (.yield l) #[] #[], .pointer (some ⟨bm, 0, none⟩), .pointer (some ⟨bn, 0, none⟩)] W fun e W' => (∃ v, e = .returned v) ∧ (J (allPk N (q + 1)).length W' ∨ Jx W') := by
  have HB : Hid (W.cell? ⟨bn, 0, none⟩ = some (.int .i64 N)) := hb
  have HJ : Hid (∀ s A B, J s A → Ext A B → J s B) := hJ
  have HY : Hid (∀ s s' v W1, J s W1 → PkAt (allPk N (q + 1)) s s' v W1 → YieldAt Fence.wide (n - 1) Try.prog l #[v] W1 fun e W' => (e = .returned (.bool true) ∧ J s' W' ∧ Kc W1 W') ∨ (e = .returned (.bool false) ∧ Jx W')) := hY
  clear hb hJ hY
  refine callsIn_of_wp Try.func48 rfl trivial ?_ rfl
  simp only [Try.ntmps48, List.size_toArray, List.length_cons, List.length_nil, Nat.reduceAdd, Nat.reduceSub, Array.replicate_succ, Array.replicate_zero, List.push_toArray, List.append_toArray, List.nil_append, List.cons_append]
  gi_wp2
  gi_loopw [11] (fun i wr => ∃ k : Nat, k ≤ q + 1 ∧ i = .int .i64 k ∧ J (allPk N k).length wr ∧ Kc W wr) (fun i _ => q + 1 - (intOf i).toNat)
  case atStart => exact ⟨0, Nat.zero_le _, rfl, h0, Kc.refl _⟩
  case round =>
    obtain ⟨k, hk, rfl, hJk, hkc⟩ := hrel
    by_cases hlt : k < q + 1
    · have hcn := hkc.keeps HB.out
      have hki : (k : Int) < (q : Int) + 1 := by omega
      have HA := All_ok N k wr hN (by omega)
      gi_wp2_with (first | (refine ⟨trivial, ?_⟩; gi_at_call 49; refine (callsIn_wide.2 HA).mono ?_) | fail)
      rintro e w2 ⟨v, vs, rfl, hP⟩
      obtain ⟨al, cl, hv, _⟩ := own_slice hP.top
      subst hv
      obtain ⟨A, C, hMat⟩ := hP.mat
      have hx2 := hP.ext
      obtain ⟨m, hm2⟩ : ∃ m, (pk N k 0).length = m := ⟨_, rfl⟩
      have HML : Hid ((pk N k 0).length = m) := hm2
      have hmb : m ≤ 9223372036854775807 := by
        have := cho_le N (by omega) k (by omega)
        rw [← hm2, pk_len]
        omega
      rw [hm2] at hMat
      rw [hm2]
      have HMT : Hid (Mat w2 al m A (pkL (pk N k 0)) C (pkM (pk N k 0))) := hMat
      have HJ2 : Hid (J (allPk N k).length w2) := HJ.out _ _ _ hJk hx2
      have HK2 : Hid (Kc W w2) := hkc.trans (Kc.ext hx2)
      clear hP hMat hm2 hJk
      gi_wp2_with fail
      gi_loopw [22] (fun i wr => ∃ j : Nat, j ≤ m ∧ i = .int .i64 j ∧ J ((allPk N k).length + j) wr ∧ Kc w2 wr) (fun i _ => m - (intOf i).toNat)
      case atStart => exact ⟨0, Nat.zero_le _, rfl, HJ2.out, Kc.refl _⟩
      case round =>
        obtain ⟨j, hj, rfl, hJj, hkj⟩ := hrel
        by_cases hjl : j < m
        · obtain ⟨⟨b, o, hal, hc⟩, hI⟩ := (hkj.mat HMT.out) j hjl
          subst hal
          obtain ⟨p, hp⟩ : ∃ p, (pk N k 0)[j]? = some p := ⟨_, List.getElem?_eq_getElem (by rw [HML.out]; exact hjl)⟩
          have hpl : pkL (pk N k 0) j = p.length := by unfold pkL; rw [hp]; rfl
          have hpm : pkM (pk N k 0) j = pkF p := by unfold pkM; rw [hp]; rfl
          rw [hpl] at hc hI
          rw [hpm] at hI
          have hPx : PkAt (allPk N (q + 1)) ((allPk N k).length + j) ((allPk N k).length + j + 1) (.slice (A j) p.length (C j)) wr := ⟨rfl, p, A j, C j, by rw [allPk_at hlt (by rw [HML.out]; exact hjl)]; exact hp, rfl, hI⟩
          obtain ⟨fn, tmps, assign, body, hy, hR⟩ := HY.out _ _ _ wr hJj hPx
          have hji : (j : Int) < (m : Int) := by omega
          clear hPx hI hp hpl hpm
          gi_wp2_with fail
          refine hR.mono ?_
          rintro e W3 (⟨rfl, hJ3, hk3⟩ | ⟨rfl, hJx3⟩)
          · gi_wp2_with fail
            go_roundw
            case rel => exact ⟨j + 1, by omega, by go_num, hJ3, hkj.trans hk3⟩
            case measure => simp [intOf]; omega
          · gi_wp2_with fail
            refine bodyPost_ret (results_none rfl _ _ _) rfl ?_
            exact ⟨⟨_, rfl⟩, .inr hJx3⟩
        · obtain rfl : j = m := by omega
          gi_wp2_with fail
          go_roundw
          case rel => exact ⟨k + 1, by omega, by go_num, by
            show J (allPk N k ++ pk N k 0).length wr
            rw [List.length_append, HML.out]
            exact hJj, HK2.out.trans hkj⟩
          case measure => simp [intOf]; omega
    · obtain rfl : k = q + 1 := by omega
      gi_wp2
      go_end0
      exact ⟨⟨_, rfl⟩, .inl hJk⟩
end Go.Proofs.Ythgbfakmkdifbaa
