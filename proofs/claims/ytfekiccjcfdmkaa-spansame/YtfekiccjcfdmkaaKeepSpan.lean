/-
  quicksetkeep.RangeOf, SetOf: a range of raw numbers; ranges that are added one by one are a set, whatever they are.
-/
import Derived.Test.YtfekiccjcfdmkaaChecked
import Derived.WalkKit
import Derived.BigQuiet
import Derived.Laws.ResultCell
import Derived.Test.YtfekiccjcfdmkaaKeepPick
import Derived.Test.YtfekiccjcfdmkaaSpanCut
import Derived.Test.YtfekiccjcfdmkaaQuiets
import Derived.Test.YtfekiccjcfdmkaaStepCall
namespace Go.Proofs.Ytfekiccjcfdmkaa
open Go.RowKit Go.Deep
def rF (a : Int) : Int := a % 300
def rT (a b : Int) : Int := a % 300 + 1 + b % 60
theorem rF_bd (a b : Int) : 0 ≤ rF a ∧ rF a < rT a b ∧ rT a b ≤ 359 ∧ rF a ≤ 299 := by
  unfold rF rT
  omega
set_option maxRecDepth 100000 in
set_option maxHeartbeats 400000 in
theorem RangeOf_any (a b : Int) (w : World) (ha : -9223372036854775808 ≤ a ∧ a ≤ 9223372036854775807) (hb : -9223372036854775808 ≤ b ∧ b ≤ 9223372036854775807) :
    Calls Try.prog 19 #[.int .i64 a, .int .i64 b] w fun e w' => e = .returned (.agg #[.int .i64 (rF a), .int .i64 (rT a b)]) ∧ Ext w w' := by
  have H1 := Picked_any a 300 (w.alloc (.cells #[.int .i64 0, .int .i64 0] 24)) (by omega) (by omega) ha.1 ha.2
  have H2 := Picked_any b 60 (w.alloc (.cells #[.int .i64 0, .int .i64 0] 24)) (by omega) (by omega) hb.1 hb.2
  have h1 : 0 ≤ a % 300 ∧ a % 300 < 300 := by omega
  have h2 : 0 ≤ b % 60 ∧ b % 60 < 60 := by omega
  obtain ⟨x, hx⟩ : ∃ x, a % 300 = x := ⟨_, rfl⟩
  obtain ⟨y, hy⟩ : ∃ y, b % 60 = y := ⟨_, rfl⟩
  unfold rF rT
  rw [hx] at H1 h1 ⊢
  rw [hy] at H2 h2 ⊢
  clear hx hy
  go_enter Try.func19, Try.ntmps19
  go_wp2_with fail
  refine H1.mono ?_
  rintro e w1 ⟨rfl, rfl⟩
  go_wp2_with fail
  refine H2.mono ?_
  rintro e w2 ⟨rfl, rfl⟩
  go_wp2_with fail
  refine bodyPost_ret (results_cell_row rfl _ _ w.heap.size 24 #[.int .i64 x, .int .i64 (x + 1 + y)] (0, 0) _ rfl (heap_alloc_new _ _) Try.underlying24 rfl (by kernel_rfl)) rfl ?_
  exact ⟨rfl, (Ext.refl _).alloc _ _⟩
theorem wrap_i64_id (z : Int) (h1 : -9223372036854775808 ≤ z) (h2 : z ≤ 9223372036854775807) : IntKind.i64.wrap z = z := by
  rw [IntKind.wrap_i64]
  omega
/-- a set within bounds has few ranges -/
theorem nrm_few (B : Int) : ∀ (L : List (Int × Int)) (m : Int), Nrm L → m ≤ B + 1 → (∀ r, r ∈ L → m ≤ r.1 ∧ r.2 ≤ B) → 2 * (L.length : Int) ≤ B - m + 1
  | [], m, _, hm, _ => by
    simp only [List.length_nil]
    omega
  | r :: l, m, h, hm, hb => by
    have h1 := hb r (List.mem_cons.2 (Or.inl rfl))
    have h2 := h.1
    have := nrm_few B l (r.2 + 1) h.2.2 (by omega) fun s hs => ⟨by have := h.2.1 s hs; omega, (hb s (List.mem_cons.2 (Or.inr hs))).2⟩
    simp only [List.length_cons]
    omega
/-- the numbers of the first m ranges -/
def SetP (f : Nat → Int) (m : Nat) (k : Int) : Prop := ∃ i, i < m ∧ rF (f (2 * i)) ≤ k ∧ k < rT (f (2 * i)) (f (2 * i + 1))
theorem SetP_bd {f : Nat → Int} {m : Nat} {k : Int} (h : SetP f m k) : 0 ≤ k ∧ k < 359 := by
  obtain ⟨i, _, h1, h2⟩ := h
  have := rF_bd (f (2 * i)) (f (2 * i + 1))
  omega
theorem SetP_succ (f : Nat → Int) (m : Nat) (k : Int) : SetP f (m + 1) k ↔ SetP f m k ∨ memL k [(rF (f (2 * m)), rT (f (2 * m)) (f (2 * m + 1)))] := by
  unfold SetP
  rw [memL_one]
  constructor
  · rintro ⟨i, hi, h⟩
    rcases Nat.lt_or_ge i m with c | c
    · exact Or.inl ⟨i, c, h⟩
    · obtain rfl : i = m := by omega
      exact Or.inr h
  · rintro (⟨i, hi, h⟩ | h)
    · exact ⟨i, by omega, h⟩
    · exact ⟨m, by omega, h⟩
/-- a list of a set that lies below 359 -/
theorem nrm_may {L : List (Int × Int)} (h : Nrm L) (hb : ∀ k, memL k L → 0 ≤ k ∧ k < 359) : mayB L = true ∧ L.length ≤ 180 ∧ ∀ r, r ∈ L → 0 ≤ r.1 ∧ r.1 < r.2 ∧ r.2 ≤ 359 := by
  have h1 : ∀ r, r ∈ L → 0 ≤ r.1 ∧ r.1 < r.2 ∧ r.2 ≤ 359 := fun r hr => by
    have h2 := h.lt r hr
    have h3 := hb r.1 ⟨r, hr, Int.le_refl _, h2⟩
    have h4 := hb (r.2 - 1) ⟨r, hr, by omega, by omega⟩
    omega
  have h5 := nrm_few 359 L 0 h (by omega) fun r hr => by have := h1 r hr; omega
  have h6 : L.length ≤ 180 := by omega
  exact ⟨(mayB_iff L).2 ⟨by omega, h, fun r hr => by have := h1 r hr; omega⟩, h6, h1⟩
theorem may_rng (a b : Int) : mayB [(rF a, rT a b)] = true := (mayB_iff _).2 ⟨by simp, ⟨(rF_bd a b).2.1, fun s hs => by simp at hs, trivial⟩, fun r hr => by
  rw [List.mem_singleton] at hr
  subst hr
  have := rF_bd a b
  simp only
  omega⟩
/-- an answer of Add, Cut or Both below 359 is a list -/
theorem SetRes.listT {ok : Bool} {P : Int → Prop} {v : Value} {er : Int} {w : World} (h : SetRes ok P v er w) (hok : ok = true) (hb : ∀ k, P k → 0 ≤ k ∧ k < 359) :
    er = 0 ∧ ∃ L a c, v = .slice a L.length c ∧ Nrm L ∧ (∀ k, memL k L ↔ P k) ∧ Rngs w a L ∧ mayB L = true ∧ L.length ≤ 180 ∧ RTag w a := by
  rcases h with ⟨h1, _⟩ | ⟨_, L, h2, h3, _, h4⟩
  · rw [hok] at h1; cases h1
  · have hm := nrm_may h2 fun k hk => hb k ((h3 k).1 hk)
    rcases h4 with ⟨h5, _⟩ | ⟨h5, rfl, a, c, rfl, h6⟩
    · have := hm.2.1; omega
    · exact ⟨rfl, L, a, c, rfl, h2, h3, h6.1, hm.1, hm.2.1, h6.2⟩
theorem SetRes.list {ok : Bool} {P : Int → Prop} {v : Value} {er : Int} {w : World} (h : SetRes ok P v er w) (hok : ok = true) (hb : ∀ k, P k → 0 ≤ k ∧ k < 359) :
    er = 0 ∧ ∃ L a c, v = .slice a L.length c ∧ Nrm L ∧ (∀ k, memL k L ↔ P k) ∧ Rngs w a L ∧ mayB L = true ∧ L.length ≤ 180 := by
  obtain ⟨h0, L, a, c, h1, h2, h3, h4, h5, h6, _⟩ := h.listT hok hb
  exact ⟨h0, L, a, c, h1, h2, h3, h4, h5, h6⟩
/-- what SetOf tells -/
def SetOfRes (w : World) (f : Nat → Int) (m : Nat) (v : Value) (w' : World) : Prop := ∃ L a c, v = .slice a L.length c ∧ Nrm L ∧ (∀ k, memL k L ↔ SetP f m k) ∧ Rngs w' a L ∧ mayB L = true ∧ L.length ≤ 180 ∧ Ext w w'
def SetOfT (w : World) (f : Nat → Int) (m : Nat) (v : Value) (w' : World) : Prop := ∃ L a c, v = .slice a L.length c ∧ Nrm L ∧ (∀ k, memL k L ↔ SetP f m k) ∧ Rngs w' a L ∧ mayB L = true ∧ L.length ≤ 180 ∧ Ext w w' ∧ RTag w' a
set_option maxRecDepth 100000 in
set_option maxHeartbeats 800000 in
theorem SetOf_tag (a : Option Addr) (n c : Nat) (f : Nat → Int) (K m : Nat) (w : World) (hK : K ≤ 24) (hn : n ≤ 9223372036854775807) (h : Ints w a n f) (hb : ∀ i, i < n → -9223372036854775808 ≤ f i ∧ f i ≤ 9223372036854775807) (hm : m = min (n / 2) K) :
    Calls Try.prog 17 #[.slice a n c, .int .i64 K] w fun e w' => ∃ v, e = .returned (.tuple #[v, .bool true]) ∧ SetOfT w f m v w' := by
  have HI : Hid (Ints w a n f) := h
  have HB : Hid (∀ i, i < n → -9223372036854775808 ≤ f i ∧ f i ≤ 9223372036854775807) := hb
  have HM : Hid (m = min (n / 2) K) := hm
  clear h hb hm
  go_enter Try.func17, Try.ntmps17
  go_wp2_with fail
  go_loopw [6, 7] (fun v i wr => ∃ q : Nat, q ≤ m ∧ i = .int .i64 ((2 * q : Nat) : Int) ∧ SetOfT w f q v wr) (fun _ i _ => 2 * m - (intOf i).toNat)
  case atStart => exact ⟨0, Nat.zero_le _, rfl, [], none, 0, rfl, trivial, fun k => ⟨fun q => absurd q (memL_nil k), fun ⟨i, hi, _⟩ => by omega⟩, Rngs.nil, rfl, by simp, Ext.refl _, fun _ _ _ h => by cases h⟩
  case round =>
    obtain ⟨q, hq, rfl, L, aL, cL, rfl, hnrm, hmem, hr, hmay, hl, hx, htag⟩ := hrel
    have HR : Hid (Nrm L ∧ (∀ k, memL k L ↔ SetP f q k) ∧ Rngs wr aL L ∧ mayB L = true) := ⟨hnrm, hmem, hr, hmay⟩
    have HTg : Hid (RTag wr aL) := htag
    clear hnrm hmem hr hmay htag
    have hmb : m ≤ n / 2 ∧ m ≤ K := by rw [HM.out]; omega
    obtain ⟨q2, hq2⟩ : ∃ q2, 2 * q = q2 := ⟨_, rfl⟩
    have HQ2 : Hid (2 * q = q2) := hq2
    rw [hq2]
    by_cases hlt : q < m
    · have hq2n : q2 + 1 < n := by omega
      have hq2K : (q2 : Int) < 2 * (K : Int) := by omega
      obtain ⟨b, o, rfl, hcs⟩ := HI.out.at (by omega)
      have c1 := hx.keeps (hcs q2 (by omega))
      have c2 := hx.keeps (hcs (q2 + 1) (by omega))
      have hf1 := HB.out q2 (by omega)
      have hf2 := HB.out (q2 + 1) (by omega)
      obtain ⟨x, hx1⟩ : ∃ x, f q2 = x := ⟨_, rfl⟩
      obtain ⟨y, hy1⟩ : ∃ y, f (q2 + 1) = y := ⟨_, rfl⟩
      rw [hx1] at c1 hf1
      rw [hy1] at c2 hf2
      have HF : Hid (f (2 * q) = x ∧ f (2 * q + 1) = y) := by rw [hq2]; exact ⟨hx1, hy1⟩
      have HA : Hid (∀ w1, Ext wr w1 → Calls Try.prog 9 #[.slice aL L.length cL, .agg #[.int .i64 (rF x), .int .i64 (rT x y)]] w1 fun e w' => ∃ v, e = .returned v ∧ ∃ L' a' c', v = .tuple #[.slice a' L'.length c', .int .i64 0] ∧ Nrm L' ∧ (∀ k, memL k L' ↔ SetP f (q + 1) k) ∧ Rngs w' a' L' ∧ mayB L' = true ∧ L'.length ≤ 180 ∧ Ext w1 w' ∧ RTag w' a') := fun w1 x1 => by
        refine (SpAdd_any aL L.length cL L (rF x) (rT x y) w1 rfl (by omega) (HR.out.2.2.1.ext x1) (may_bdd HR.out.2.2.2) (by have := rF_bd x y; omega)).mono ?_
        rintro e w2 ⟨v, er, rfl, hs, hx2⟩
        have hP : ∀ k, (memL k L ∨ memL k [(rF x, rT x y)]) ↔ SetP f (q + 1) k := fun k => by
          rw [HR.out.2.1, SetP_succ, HF.out.1, HF.out.2]
        obtain ⟨rfl, L', a', c', rfl, h1, h2, h3, h4, h5, h6⟩ := (hs.congr rfl (fun _ k => hP k)).listT (by rw [HR.out.2.2.2, may_rng]; rfl) (fun k hk => SetP_bd hk)
        exact ⟨_, rfl, L', a', c', rfl, h1, h2, h3, h4, h5, hx2, h6⟩
      have HRo : Hid (∀ w1, Calls Try.prog 19 #[.int .i64 x, .int .i64 y] w1 fun e w' => e = .returned (.agg #[.int .i64 (rF x), .int .i64 (rT x y)]) ∧ Ext w1 w') := fun w1 => RangeOf_any x y w1 hf1 hf2
      have i1 : (q2 : Int) + 1 < (n : Int) := by omega
      clear hcs hx1 hy1 hf1 hf2 hq2
      go_wp2_with fail
      have k1 : IntKind.i64.wrap ((q2 : Int) + 1) = (q2 : Int) + 1 := wrap_i64_id _ (by omega) (by omega)
      have k2 : ((q2 : Int) + 1).toNat = q2 + 1 := by omega
      have k3 : (0 : Int) ≤ (q2 : Int) + 1 := by omega
      have k4 : q2 < n := by omega
      have HF1 : Hid ((Try.f19.name == "runtime.NumGoroutine") = false ∧ Try.f19.body.isNone = false) := ⟨by kernel_rfl, by kernel_rfl⟩
      have HF2 : Hid ((Try.f9.name == "runtime.NumGoroutine") = false ∧ Try.f9.body.isNone = false) := ⟨by kernel_rfl, by kernel_rfl⟩
      go_region_law (first
        | (refine step_call (by rfl) 19 Try.func19 HF1.out.1 HF1.out.2 [.tmp 28, .tmp 33] _ (by rfl) [.int .i64 x, .int .i64 y] (by simp [Act.eval]) (.agg #[.int .i64 (rF x), .int .i64 (rT x y)]) (fun w'' => Ext wr.drew w'') (HRo.out wr.drew) ?_; intro w4 hx4)
        | (refine step_callx (by rfl) 9 Try.func9 HF2.out.1 HF2.out.2 [.tmp 24, .tmp 34] _ (by rfl) [.slice aL L.length cL, .agg #[.int .i64 (rF x), .int .i64 (rT x y)]] (by simp [Act.eval]) (fun v w' => ∃ L' a' c', v = .tuple #[.slice a' L'.length c', .int .i64 0] ∧ Nrm L' ∧ (∀ k, memL k L' ↔ SetP f (q + 1) k) ∧ Rngs w' a' L' ∧ mayB L' = true ∧ L'.length ≤ 180 ∧ Ext w4 w' ∧ RTag w' a') (HA.out w4 ((Ext.refl wr).drew.trans hx4)) ?_; intro v5 w5 hR5; obtain ⟨L', a', c', rfl, e1, e2, e3, e4, e5, e6, e7⟩ := hR5))
      all_goals
        have HE : Hid (Nrm L' ∧ (∀ k, memL k L' ↔ SetP f (q + 1) k) ∧ Rngs w5 a' L' ∧ mayB L' = true ∧ L'.length ≤ 180 ∧ Ext w w5 ∧ RTag w5 a') := ⟨e1, e2, e3, e4, e5, ((hx.trans (Ext.refl wr).drew).trans hx4).trans e6, e7⟩
        clear e1 e2 e3 e4 e6 e7 hx4
        go_wp2_with fail
        go_roundw
        case rel => exact ⟨q + 1, by omega, by rw [← HQ2.out]; go_num, L', a', c', rfl, HE.out.1, HE.out.2.1, HE.out.2.2.1, HE.out.2.2.2.1, HE.out.2.2.2.2.1, HE.out.2.2.2.2.2.1, HE.out.2.2.2.2.2.2⟩
        case measure => simp [intOf]; have := HQ2.out; omega
    · obtain rfl : q = m := by omega
      have hM2 := HM.out
      have hq2b : q2 ≤ 48 := by omega
      have HMy := SpMay_any aL L.length cL L wr rfl (by omega) HR.out.2.2.1 (may_bdd HR.out.2.2.2)
      rw [HR.out.2.2.2] at HMy
      by_cases h1 : q2 + 1 < n
      · have i1 : (q2 : Int) + 1 < (n : Int) := by omega
        have i2 : decide ((q2 : Int) < 2 * (K : Int)) = false := decide_eq_false (by omega)
        have i3 : decide (q2 < 2 * K) = false := decide_eq_false (by omega)
        clear hM2 hq2
        go_wp2_with fail
        refine HMy.mono ?_
        rintro e w4 ⟨rfl, hx4⟩
        go_wp2_with fail
        go_ret2
        exact ⟨_, rfl, L, aL, cL, rfl, HR.out.1, HR.out.2.1, HR.out.2.2.1.ext hx4, HR.out.2.2.2, hl, hx.trans hx4, HTg.out.ext hx4⟩
      · have i1 : ¬ (q2 : Int) + 1 < (n : Int) := by omega
        clear hM2 hq2
        go_wp2_with fail
        refine HMy.mono ?_
        rintro e w4 ⟨rfl, hx4⟩
        go_wp2_with fail
        go_ret2
        exact ⟨_, rfl, L, aL, cL, rfl, HR.out.1, HR.out.2.1, HR.out.2.2.1.ext hx4, HR.out.2.2.2, hl, hx.trans hx4, HTg.out.ext hx4⟩
theorem SetOf_any (a : Option Addr) (n c : Nat) (f : Nat → Int) (K m : Nat) (w : World) (hK : K ≤ 24) (hn : n ≤ 9223372036854775807) (h : Ints w a n f) (hb : ∀ i, i < n → -9223372036854775808 ≤ f i ∧ f i ≤ 9223372036854775807) (hm : m = min (n / 2) K) :
    Calls Try.prog 17 #[.slice a n c, .int .i64 K] w fun e w' => ∃ v, e = .returned (.tuple #[v, .bool true]) ∧ SetOfRes w f m v w' :=
  (SetOf_tag a n c f K m w hK hn h hb hm).mono fun _ _ ⟨v, h1, L, a', c', h2, h3, h4, h5, h6, h7, h8, _⟩ => ⟨v, h1, L, a', c', h2, h3, h4, h5, h6, h7, h8⟩
end Go.Proofs.Ytfekiccjcfdmkaa
