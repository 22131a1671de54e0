/-
  comb.picked, Number: whether a list is a pick, and which one; the memory stays as it was.
-/
import Derived.Test.YtfdgacpmdlmjnabChecked
import Derived.WalkKit
import Derived.Test.YtfdgacpmdlmjnabCombBase
namespace Go.Proofs.Ytfdgacpmdlmjnab
open Go.RowKit Go.Deep
/-- the r numbers from place j on ascend from s on, below n -/
def okF (n : Int) (f : Nat → Int) : Nat → Nat → Int → Bool
  | 0, _, _ => true
  | r + 1, j, s => if f j < s ∨ n ≤ f j then false else okF n f r (j + 1) (f j + 1)
def nat (f : Nat → Int) (i : Nat) : Nat := (f i).toNat
theorem okF_asc (N : Nat) (f : Nat → Int) : ∀ (r j s : Nat), okF N f r j s = true → asc s N (lst (nat f) j r) ∧ ∀ i, j ≤ i → i < j + r → f i = (nat f i : Int)
  | 0, j, s, _ => ⟨trivial, fun i h1 h2 => by omega⟩
  | r + 1, j, s, h => by
    unfold okF at h
    split at h
    · cases h
    · rename_i hc
      have e : f j = (nat f j : Int) := by unfold nat; omega
      rw [show f j + 1 = ((nat f j + 1 : Nat) : Int) by omega] at h
      obtain ⟨h1, h2⟩ := okF_asc N f r (j + 1) (nat f j + 1) h
      rw [lst_succ]
      refine ⟨⟨by omega, by omega, h1⟩, fun i hi1 hi2 => ?_⟩
      by_cases hij : i = j
      · rw [hij]; exact e
      · exact h2 i (by omega) (by omega)
theorem asc_okF (N : Nat) (f : Nat → Int) : ∀ (r j s : Nat) (p : List Nat), p.length = r → (∀ i, i < r → f (j + i) = (p.getD i 0 : Nat)) → asc s N p → okF N f r j s = true
  | 0, j, s, p, _, _, _ => rfl
  | r + 1, j, s, [], hl, _, _ => by cases hl
  | r + 1, j, s, a :: p, hl, hf, h => by
    have e : f j = (a : Int) := hf 0 (by omega)
    unfold okF
    rw [if_neg (by have := h.1; have := h.2.1; omega), e]
    refine asc_okF N f r (j + 1) (a + 1) p (by simpa using hl) (fun i hi => ?_) h.2.2
    have := hf (i + 1) (by omega)
    rw [show j + (i + 1) = j + 1 + i by omega] at this
    simpa using this
theorem asc_len : ∀ (p : List Nat) (s e : Nat), asc s e p → p.length ≤ e - s
  | [], _, _, _ => by simp
  | a :: p, s, e, h => by
    have := asc_len p (a + 1) e h.2.2
    have := h.1
    have := h.2.1
    simp only [List.length_cons]
    omega
set_option maxRecDepth 100000 in
set_option maxHeartbeats 400000 in
theorem picked_any (n : Int) (a : Option Addr) (l c : Nat) (f : Nat → Int) (w : World) (hn : n ≤ 12) (hl : l ≤ 9223372036854775807) (h : Ints w a l f) :
    Calls Try.prog 17 #[.int .i64 n, .slice a l c] w fun e w' => e = .returned (.bool (okF n f l 0 0)) ∧ w' = w := by
  have HH : Hid (Ints w a l f) := h
  clear h
  go_enter Try.func17, Try.ntmps17
  go_wp2_with fail
  go_loop [5, 10] (fun v i => ∃ (k : Nat) (s : Int), k ≤ l ∧ i = .int .i64 k ∧ v = .int .i64 s ∧ s ≤ 12 ∧ 0 ≤ s ∧ Hid (okF n f (l - k) k s = okF n f l 0 0)) (fun _ i => l - (intOf i).toNat)
  case atStart => exact ⟨0, 0, Nat.zero_le _, rfl, rfl, by omega, by omega, rfl⟩
  case round =>
    obtain ⟨k, s, hk, rfl, rfl, hs, hs0, HE⟩ := hrel
    by_cases hlt : k < l
    · obtain ⟨b, o, rfl, hck⟩ := HH.out k hlt
      have hstep : okF n f (l - k) k s = if f k < s ∨ n ≤ f k then false else okF n f (l - (k + 1)) (k + 1) (f k + 1) := by
        rw [show l - k = l - (k + 1) + 1 by omega]
        rfl
      have HST : Hid (okF n f (l - k) k s = if f k < s ∨ n ≤ f k then false else okF n f (l - (k + 1)) (k + 1) (f k + 1)) := hstep
      clear hstep
      by_cases h1 : f k < s
      · go_wp2_with fail
        go_ret
        exact ⟨by rw [← HE.out, HST.out, if_pos (Or.inl h1)]; rfl, rfl⟩
      · by_cases h2 : n ≤ f k
        · go_wp2_with fail
          go_ret
          exact ⟨by rw [← HE.out, HST.out, if_pos (Or.inr h2)]; rfl, rfl⟩
        · go_wp2_with fail
          go_round
          case rel => exact ⟨k + 1, f k + 1, by omega, by go_num, rfl, by omega, by omega, show okF n f (l - (k + 1)) (k + 1) (f k + 1) = okF n f l 0 0 by rw [← HE.out, HST.out, if_neg (by omega)]⟩
          case measure => simp [intOf]; omega
    · have e : k = l := by omega
      subst e
      go_wp2_with fail
      go_ret
      refine ⟨?_, rfl⟩
      rw [← HE.out, Nat.sub_self]
      rfl
def numE (n : Int) (l : Nat) (f : Nat → Int) : Int := if 0 ≤ n ∧ n ≤ 12 then (if okF n f l 0 0 = true then 0 else 4) else 2
def numV (n : Int) (l : Nat) (f : Nat → Int) : Int := if 0 ≤ n ∧ n ≤ 12 then (if okF n f l 0 0 = true then (nm n.toNat 0 (lst (nat f) 0 l) : Int) else 0) else 0
theorem nm_here (N a : Nat) (p : List Nat) (h : a < N) : nm (N - a) a (a :: p) = nm (N - (a + 1)) (a + 1) p := by
  rw [show N - a = N - (a + 1) + 1 by omega]
  show (if a = a then nm (N - (a + 1)) (a + 1) p else _) = _
  rw [if_pos rfl]
theorem nm_past (N x a : Nat) (p : List Nat) (h : x < a) (ha : a < N) : nm (N - x) x (a :: p) = cho (N - x - 1) p.length + nm (N - (x + 1)) (x + 1) (a :: p) := by
  rw [show N - x = N - (x + 1) + 1 by omega]
  show (if a = x then _ else cho (N - (x + 1)) p.length + nm (N - (x + 1)) (x + 1) (a :: p)) = _
  rw [if_neg (by omega)]
  rfl
set_option maxRecDepth 100000 in
set_option maxHeartbeats 800000 in
theorem Number_any (n : Int) (a : Option Addr) (l c : Nat) (f : Nat → Int) (w : World) (hl : l ≤ 9223372036854775807) (h : Ints w a l f) :
    Calls Try.prog 9 #[.int .i64 n, .slice a l c] w fun e w' => e = .returned (.tuple #[.int .i64 (numV n l f), .int .i64 (numE n l f)]) ∧ w' = w := by
  by_cases hs : 0 ≤ n ∧ n ≤ 12
  · have hd : decide (0 ≤ n ∧ n ≤ 12) = true := decide_eq_true hs
    obtain ⟨hs0, hs1⟩ := hs
    by_cases hok : okF n f l 0 0 = true
    · have hv : numV n l f = (nm n.toNat 0 (lst (nat f) 0 l) : Int) := by unfold numV; rw [if_pos ⟨hs0, hs1⟩, if_pos hok]
      have he : numE n l f = 0 := by unfold numE; rw [if_pos ⟨hs0, hs1⟩, if_pos hok]
      rw [hv, he]
      clear hv he
      obtain ⟨N, rfl⟩ := Int.eq_ofNat_of_zero_le hs0
      obtain ⟨hasc, hnat⟩ := okF_asc N f l 0 0 hok
      have hlen := asc_len _ _ _ hasc
      rw [lst_len] at hlen
      have hT := nm_lt N 0 _ (by rw [Nat.zero_add]; exact hasc)
      rw [lst_len] at hT
      have hT2 := cho_le N (by omega) l (by omega)
      obtain ⟨T, hTe⟩ : ∃ T, nm N 0 (lst (nat f) 0 l) = T := ⟨_, rfl⟩
      rw [hTe] at hT
      show Calls _ _ _ _ fun e w' => e = .returned (.tuple #[.int .i64 ((nm N 0 (lst (nat f) 0 l) : Nat) : Int), _]) ∧ _
      rw [hTe]
      have hTl : T ≤ 924 := by omega
      have HA : Hid (asc 0 N (lst (nat f) 0 l)) := hasc
      have HN : Hid (∀ i, 0 ≤ i → i < 0 + l → f i = (nat f i : Int)) := hnat
      have HT : Hid (nm N 0 (lst (nat f) 0 l) = T) := hTe
      have HH : Hid (Ints w a l f) := h
      have HOK : Hid (okF N f l 0 0 = true) := hok
      clear hasc hnat hTe h hT hT2 hok
      go_enter Try.func9, Try.ntmps9
      go_wp2_with (first | (go_at_call 15; refine (set_any _ _).mono ?_; rw [hd]; rintro e w1 ⟨rfl, hw1⟩; have hw2 := hw1.symm; clear hw1; subst hw2) | (go_at_call 17; refine (picked_any N a l c f _ (by omega) hl HH.out).mono ?_; rw [HOK.out]; rintro e w1 ⟨rfl, hw1⟩; have hw2 := hw1.symm; clear hw1; subst hw2))
      go_loop [6, 7, 20] (fun v s i => ∃ k x A : Nat, k ≤ l ∧ x ≤ N ∧ A ≤ T ∧ v = .int .i64 A ∧ s = .int .i64 x ∧ i = .int .i64 k ∧ Hid (asc x N (lst (nat f) k (l - k)) ∧ A + nm (N - x) x (lst (nat f) k (l - k)) = T)) (fun _ _ i => l - (intOf i).toNat)
      case atStart => exact ⟨0, 0, 0, Nat.zero_le _, Nat.zero_le _, Nat.zero_le _, rfl, rfl, rfl, HA.out, by rw [Nat.zero_add]; exact HT.out⟩
      case round =>
        obtain ⟨k, x, A, hk, hxN, hAT, rfl, rfl, rfl, HI⟩ := hrel
        by_cases hlt : k < l
        · obtain ⟨b, o, rfl, hck⟩ := HH.out k hlt
          rw [HN.out k (by omega) (by omega)] at hck
          obtain ⟨y, hy⟩ : ∃ y, nat f k = y := ⟨_, rfl⟩
          have hI := HI.out
          rw [show l - k = l - (k + 1) + 1 by omega, lst_succ, hy] at hI
          rw [hy] at hck
          obtain ⟨⟨hxy, hyN, hasc⟩, hnum⟩ := hI
          have HAS : Hid (asc (y + 1) N (lst (nat f) (k + 1) (l - (k + 1)))) := hasc
          have HNU : Hid (A + nm (N - x) x (y :: lst (nat f) (k + 1) (l - (k + 1))) = T) := hnum
          clear hasc hnum HI hy
          go_wp2_with fail
          go_loop [6, 10] (fun v i => ∃ z B : Nat, z ≤ y ∧ B ≤ T ∧ v = .int .i64 B ∧ i = .int .i64 z ∧ Hid (B + nm (N - z) z (y :: lst (nat f) (k + 1) (l - (k + 1))) = T)) (fun _ i => y - (intOf i).toNat)
          case atStart => exact ⟨x, A, hxy, hAT, rfl, rfl, HNU.out⟩
          case round =>
            obtain ⟨z, B, hz, hB, rfl, rfl, HZ⟩ := hrel
            by_cases hzy : z < y
            · have hp := nm_past N z y (lst (nat f) (k + 1) (l - (k + 1))) hzy hyN
              rw [lst_len] at hp
              have hZ := HZ.out
              rw [hp, ← Nat.add_assoc] at hZ
              obtain ⟨C, hC⟩ : ∃ C, cho (N - z - 1) (l - (k + 1)) = C := ⟨_, rfl⟩
              rw [hC] at hZ
              have hBC : B + C ≤ T := by omega
              have HZ' : Hid (B + C + nm (N - (z + 1)) (z + 1) (y :: lst (nat f) (k + 1) (l - (k + 1))) = T) := hZ
              have HC : Hid (cho (N - z - 1) (l - (k + 1)) = C) := hC
              clear hp hZ hC HZ
              have e1 : (l : Int) - (k : Int) = ((l - k : Nat) : Int) := by omega
              go_wp2_with (first | (go_at_call 18; refine (with_any N (l - k) z _ (by omega) (by omega) (by omega)).mono ?_; rw [show l - k - 1 = l - (k + 1) by omega, HC.out]; rintro e w1 ⟨rfl, hw1⟩; have hw2 := hw1.symm; clear hw1; subst hw2))
              go_round
              case rel => exact ⟨z + 1, B + C, by omega, hBC, by go_num, by go_num, HZ'.out⟩
              case measure => simp [intOf]; omega
            · have e : z = y := by omega
              subst e
              have hZ := HZ.out
              rw [nm_here N z _ hyN] at hZ
              have HZ' : Hid (B + nm (N - (z + 1)) (z + 1) (lst (nat f) (k + 1) (l - (k + 1))) = T) := hZ
              clear hZ HZ
              go_wp2_with fail
              go_round
              case rel => exact ⟨k + 1, z + 1, B, by omega, by omega, hB, rfl, by go_num, by go_num, HAS.out, HZ'.out⟩
              case measure => simp [intOf]; omega
        · have e : k = l := by omega
          subst e
          have hI := HI.out.2
          rw [Nat.sub_self, lst_zero, nm_nil, Nat.add_zero] at hI
          subst hI
          go_wp2_with fail
          go_ret2
          exact ⟨rfl, rfl⟩
    · have hv : numV n l f = 0 := by unfold numV; rw [if_pos ⟨hs0, hs1⟩, if_neg hok]
      have he : numE n l f = 4 := by unfold numE; rw [if_pos ⟨hs0, hs1⟩, if_neg hok]
      rw [hv, he]
      have hok' : okF n f l 0 0 = false := by simpa using hok
      have HH : Hid (Ints w a l f) := h
      clear h hv he hok
      go_enter Try.func9, Try.ntmps9
      go_wp2_with (first | (go_at_call 15; refine (set_any _ _).mono ?_; rw [hd]; rintro e w1 ⟨rfl, hw1⟩; have hw2 := hw1.symm; clear hw1; subst hw2) | (go_at_call 17; refine (picked_any n a l c f _ (by omega) hl HH.out).mono ?_; rw [hok']; rintro e w1 ⟨rfl, hw1⟩; have hw2 := hw1.symm; clear hw1; subst hw2))
      go_ret2
      exact ⟨rfl, rfl⟩
  · have hv : numV n l f = 0 := by unfold numV; rw [if_neg hs]
    have he : numE n l f = 2 := by unfold numE; rw [if_neg hs]
    have hd : decide (0 ≤ n ∧ n ≤ 12) = false := decide_eq_false hs
    rw [hv, he]
    clear hv he hs
    go_enter Try.func9, Try.ntmps9
    go_wp2_with (first | (go_at_call 15; refine (set_any _ _).mono ?_; rw [hd]; rintro e w1 ⟨rfl, hw1⟩; have hw2 := hw1.symm; clear hw1; subst hw2))
    go_ret2
    exact ⟨rfl, rfl⟩
end Go.Proofs.Ytfdgacpmdlmjnab
