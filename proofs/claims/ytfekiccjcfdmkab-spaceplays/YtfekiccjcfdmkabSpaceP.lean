/-
  space.Replay, Condense and the document's own: what is free behind records, and the fewest records; in new memory.
-/
import Derived.Test.YtfekiccjcfdmkabChecked
import Derived.WalkKit
import Derived.BigQuiet
import Derived.Test.YtfekiccjcfdmkabRefAgain
namespace Go.Proofs.Ytfekiccjcfdmkab
open Go.RowKit Go.Deep
def RepRes (sz : Int) (q : Int ⊕ (Nat → Int)) (v : Value) (er : Int) (w' : World) : Prop :=
  match q with
  | .inl k => v = .slice none 0 0 ∧ er = k
  | .inr S => if (runs (isS S 0) sz.toNat).length ≤ 200 then er = 0 ∧ ∃ a c, v = .slice a (runs (isS S 0) sz.toNat).length c ∧ Rngs w' a (runs (isS S 0) sz.toNat) else v = .slice none 0 0 ∧ er = 8
def ConRes (sz : Int) (q : Int ⊕ (Nat → Int)) (v : Value) (er : Int) (w' : World) : Prop :=
  match q with
  | .inl k => v = .slice none 0 0 ∧ er = k
  | .inr S => er = 0 ∧ ∃ a c, v = .slice a (runs (isS S 1) sz.toNat).length c ∧ Tri w' a (recL false (runs (isS S 1) sz.toNat))
set_option maxRecDepth 100000 in
set_option maxHeartbeats 400000 in
theorem Replay_any (sz : Int) (a : Option Addr) (m c : Nat) (L : List (Bool × Int × Int)) (w : World) (hl : L.length = m) (hm : m ≤ 9223372036854775807) (h : Tri w a (recV L)) (hb : BddR L) :
    Calls Try.prog 17 #[.int .i64 sz, .slice a m c] w fun e w' => ∃ v er, e = .returned (.tuple #[v, .int .i64 er]) ∧ RepRes sz (behS sz L) v er w' ∧ Ext w w' := by
  have HB := behind_any sz a m c L w hl hm h hb
  clear hl h hb
  cases hq : behS sz L with
  | inl k =>
    rw [hq] at HB
    clear hq
    go_enter Try.func17, Try.ntmps17
    go_wp2_with fail
    refine HB.mono ?_
    rintro e w1 ⟨v, er, rfl, ⟨rfl, rfl, hk⟩, hx1⟩
    have hk2 : (er != 0) = true := by simp [hk]
    go_wp2_with fail
    go_ret2
    exact ⟨_, _, rfl, ⟨rfl, rfl⟩, hx1⟩
  | inr S =>
    rw [hq] at HB
    clear hq
    go_enter Try.func17, Try.ntmps17
    go_wp2_with fail
    refine HB.mono ?_
    rintro e w1 ⟨v, er, rfl, ⟨rfl, hz, g, rfl, hg, hu⟩, hx1⟩
    obtain ⟨n, rfl⟩ : ∃ n : Nat, sz = n := ⟨sz.toNat, by omega⟩
    rw [Int.toNat_natCast] at hu
    have HT := that_any g n S 0 w1 (by omega) hu
    clear HB hu
    have e0 : ((n : Int)).toNat = n := Int.toNat_natCast n
    rw [e0]
    go_wp2_with fail
    refine HT.mono ?_
    rintro e w2 ⟨r, rfl, ho, hx2⟩
    obtain ⟨_, aR, cR, rfl, hr⟩ := own_rngs ho
    have HR : Hid (Rngs w2 aR (runs (isS S 0) n)) := hr
    have hlen := runs_len (isS S 0) n
    clear ho hr HT
    by_cases h2 : (runs (isS S 0) n).length ≤ 200
    · have HP : Hid (RepRes (n : Int) (.inr S) (.slice aR (runs (isS S 0) n).length cR) 0 w2) := by
        show (if _ then _ else _)
        rw [e0, if_pos h2]
        exact ⟨rfl, aR, cR, rfl, HR.out⟩
      generalize (runs (isS S 0) n).length = k at *
      go_wp2_with fail
      go_ret2
      exact ⟨_, _, rfl, HP.out, hx1.trans hx2⟩
    · have HP : Hid (RepRes (n : Int) (.inr S) (.slice none 0 0) 8 w2) := by
        show (if _ then _ else _)
        rw [e0, if_neg h2]
        exact ⟨rfl, rfl⟩
      generalize (runs (isS S 0) n).length = k at *
      go_wp2_with fail
      go_ret2
      exact ⟨_, _, rfl, HP.out, hx1.trans hx2⟩
set_option maxRecDepth 100000 in
set_option maxHeartbeats 400000 in
theorem RReplay_any (sz : Int) (a : Option Addr) (m c : Nat) (L : List (Bool × Int × Int)) (w : World) (hl : L.length = m) (hm : m ≤ 9223372036854775807) (h : Tri w a (recV L)) :
    Calls Try.prog 18 #[.int .i64 sz, .slice a m c] w fun e w' => ∃ v er, e = .returned (.tuple #[v, .int .i64 er]) ∧ RepRes sz (behS sz L) v er w' ∧ Ext w w' := by
  have HB := again_any sz a m c L w hl hm h
  clear hl h
  cases hq : behS sz L with
  | inl k =>
    rw [hq] at HB
    clear hq
    go_enter Try.func18, Try.ntmps18
    go_wp2_with fail
    refine HB.mono ?_
    rintro e w1 ⟨v, er, rfl, ⟨rfl, rfl, hk⟩, hx1⟩
    have hk2 : (er != 0) = true := by simp [hk]
    go_wp2_with fail
    go_ret2
    exact ⟨_, _, rfl, ⟨rfl, rfl⟩, hx1⟩
  | inr S =>
    rw [hq] at HB
    clear hq
    go_enter Try.func18, Try.ntmps18
    go_wp2_with fail
    refine HB.mono ?_
    rintro e w1 ⟨v, er, rfl, ⟨rfl, hz, g, rfl, hg, hu⟩, hx1⟩
    obtain ⟨n, rfl⟩ : ∃ n : Nat, sz = n := ⟨sz.toNat, by omega⟩
    rw [Int.toNat_natCast] at hu
    have HT := stretches_any g n S 0 w1 (by omega) hu
    clear HB hu
    have e0 : ((n : Int)).toNat = n := Int.toNat_natCast n
    rw [e0]
    go_wp2_with fail
    refine HT.mono ?_
    rintro e w2 ⟨r, rfl, ho, hx2⟩
    obtain ⟨_, aR, cR, rfl, hr⟩ := own_rngs ho
    have HR : Hid (Rngs w2 aR (runs (isS S 0) n)) := hr
    have hlen := runs_len (isS S 0) n
    clear ho hr HT
    by_cases h2 : (runs (isS S 0) n).length ≤ 200
    · have HP : Hid (RepRes (n : Int) (.inr S) (.slice aR (runs (isS S 0) n).length cR) 0 w2) := by
        show (if _ then _ else _)
        rw [e0, if_pos h2]
        exact ⟨rfl, aR, cR, rfl, HR.out⟩
      generalize (runs (isS S 0) n).length = k at *
      go_wp2_with fail
      go_ret2
      exact ⟨_, _, rfl, HP.out, hx1.trans hx2⟩
    · have HP : Hid (RepRes (n : Int) (.inr S) (.slice none 0 0) 8 w2) := by
        show (if _ then _ else _)
        rw [e0, if_neg h2]
        exact ⟨rfl, rfl⟩
      generalize (runs (isS S 0) n).length = k at *
      go_wp2_with fail
      go_ret2
      exact ⟨_, _, rfl, HP.out, hx1.trans hx2⟩
set_option maxRecDepth 100000 in
set_option maxHeartbeats 400000 in
theorem Condense_any (sz : Int) (a : Option Addr) (m c : Nat) (L : List (Bool × Int × Int)) (w : World) (hl : L.length = m) (hm : m ≤ 9223372036854775807) (h : Tri w a (recV L)) (hb : BddR L) :
    Calls Try.prog 20 #[.int .i64 sz, .slice a m c] w fun e w' => ∃ v er, e = .returned (.tuple #[v, .int .i64 er]) ∧ ConRes sz (behS sz L) v er w' ∧ Ext w w' := by
  have HB := behind_any sz a m c L w hl hm h hb
  clear hl h hb
  cases hq : behS sz L with
  | inl k =>
    rw [hq] at HB
    clear hq
    go_enter Try.func20, Try.ntmps20
    go_wp2_with fail
    refine HB.mono ?_
    rintro e w1 ⟨v, er, rfl, ⟨rfl, rfl, hk⟩, hx1⟩
    have hk2 : (er != 0) = true := by simp [hk]
    go_wp2_with fail
    go_ret2
    exact ⟨_, _, rfl, ⟨rfl, rfl⟩, hx1⟩
  | inr S =>
    rw [hq] at HB
    clear hq
    go_enter Try.func20, Try.ntmps20
    go_wp2_with fail
    refine HB.mono ?_
    rintro e w1 ⟨v, er, rfl, ⟨rfl, hz, g, rfl, hg, hu⟩, hx1⟩
    obtain ⟨n, rfl⟩ : ∃ n : Nat, sz = n := ⟨sz.toNat, by omega⟩
    rw [Int.toNat_natCast] at hu
    have HT := that_any g n S 1 w1 (by omega) hu
    clear HB hu
    have e0 : ((n : Int)).toNat = n := Int.toNat_natCast n
    rw [e0]
    go_wp2_with fail
    refine HT.mono ?_
    rintro e w2 ⟨r, rfl, ho, hx2⟩
    obtain ⟨_, aR, cR, rfl, hr⟩ := own_rngs ho
    have hlen := runs_len (isS S 1) n
    have HRc := records_any false aR (runs (isS S 1) n).length cR (runs (isS S 1) n) w2 rfl (by omega) hr
    clear ho hr HT
    go_wp2_with fail
    refine HRc.mono ?_
    rintro e w3 ⟨v3, rfl, ho3, hx3⟩
    obtain ⟨_, a3, c3, rfl, ht3⟩ := own_tri ho3
    have HP : Hid (ConRes (n : Int) (.inr S) (.slice a3 (runs (isS S 1) n).length c3) 0 w3) := ⟨rfl, a3, c3, by rw [e0], by rw [e0]; exact ht3⟩
    clear ho3 ht3 HRc
    generalize (runs (isS S 1) n).length = k at *
    go_wp2_with fail
    go_ret2
    exact ⟨_, _, rfl, HP.out, (hx1.trans hx2).trans hx3⟩
set_option maxRecDepth 100000 in
set_option maxHeartbeats 800000 in
theorem RCondense_any (sz : Int) (a : Option Addr) (m c : Nat) (L : List (Bool × Int × Int)) (w : World) (hl : L.length = m) (hm : m ≤ 9223372036854775807) (h : Tri w a (recV L)) :
    Calls Try.prog 21 #[.int .i64 sz, .slice a m c] w fun e w' => ∃ v er, e = .returned (.tuple #[v, .int .i64 er]) ∧ ConRes sz (behS sz L) v er w' ∧ Ext w w' := by
  have HB := again_any sz a m c L w hl hm h
  clear hl h
  cases hq : behS sz L with
  | inl k =>
    rw [hq] at HB
    clear hq
    go_enter Try.func21, Try.ntmps21
    go_wp2_with fail
    refine HB.mono ?_
    rintro e w1 ⟨v, er, rfl, ⟨rfl, rfl, hk⟩, hx1⟩
    have hk2 : (er != 0) = true := by simp [hk]
    go_wp2_with fail
    go_ret2
    exact ⟨_, _, rfl, ⟨rfl, rfl⟩, hx1⟩
  | inr S =>
    rw [hq] at HB
    clear hq
    go_enter Try.func21, Try.ntmps21
    go_wp2_with fail
    refine HB.mono ?_
    rintro e w1 ⟨v, er, rfl, ⟨rfl, hz, g, rfl, hg, hu⟩, hx1⟩
    obtain ⟨n, rfl⟩ : ∃ n : Nat, sz = n := ⟨sz.toNat, by omega⟩
    rw [Int.toNat_natCast] at hu
    have HT := stretches_any g n S 1 w1 (by omega) hu
    clear HB hu
    have e0 : ((n : Int)).toNat = n := Int.toNat_natCast n
    rw [e0]
    go_wp2_with fail
    refine HT.mono ?_
    rintro e w2 ⟨r, rfl, ho, hx2⟩
    obtain ⟨_, aR, cR, rfl, hr⟩ := own_rngs ho
    have hlen := runs_len (isS S 1) n
    obtain ⟨R, hR⟩ : ∃ R, runs (isS S 1) n = R := ⟨_, rfl⟩
    rw [hR] at hr hlen ⊢
    have HRR : Hid (runs (isS S 1) n = R) := hR
    have HR : Hid (Rngs w2 aR R) := hr
    obtain ⟨k, hk⟩ : ∃ k, R.length = k := ⟨_, rfl⟩
    rw [hk] at hlen ⊢
    have HK : Hid (R.length = k) := hk
    have HX2 : Hid (Ext w w2) := hx1.trans hx2
    clear ho hr HT hR hk hx1 hx2
    go_wp2_with fail
    go_loopw [8, 23] (fun v i wr => ∃ q : Nat, q ≤ k ∧ i = .int .i64 q ∧ Ext w2 wr ∧ wr.ownsRow w2.heap.size 72 3 v q (fl3 (recL false (R.take q)))) (fun _ i _ => k - (intOf i).toNat)
    case atStart => exact ⟨0, Nat.zero_le _, rfl, Ext.refl _, World.ownsRow_nil _ _ _ _⟩
    case round =>
      obtain ⟨q, hq, rfl, hx, hown⟩ := hrel
      have HO : Hid (wr.ownsRow w2.heap.size 72 3 u8 q (fl3 (recL false (R.take q)))) := hown
      clear hown
      by_cases hlt : q < k
      · obtain ⟨⟨x, y⟩, h1, _, _⟩ := drop_at (L := R) (k := q) (by rw [HK.out]; exact hlt)
        obtain ⟨b, o, rfl, hc1, hc2⟩ := (HR.out.ext hx) q x y h1
        have HE : Hid (recL false (R.take (q + 1)) = recL false (R.take q) ++ [(.bool false, IV x, IV y)]) := by
          show _ = _
          rw [take_at h1, recL_snoc]
        clear h1
        go_wp2_with (first | (at_builtin; refine append_tri _ rfl _ _ 34 rfl w2.heap.size 72 (.agg #[.bool false, .int .i64 0, .int .i64 0]) 24 Try.underlying34 infoRec rfl u8 q (recL false (R.take q)) rfl (own_ext HO.out (((Ext.refl wr).alloc _ _).alloc _ _)) (some ⟨wr.heap.size + 1, 0, none⟩) 1 1 [(.bool false, IV x, IV y)] rfl rfl ?_ (recL_one false x y) (by omega) (by omega) (by omega) ?_ ?_) | go_in)
        · exact tri_new _ _ (by rw [World.size_alloc]) _ _ _ _
        · exact ((hx.alloc _ _).alloc _ _).size
        intro v' w5 hown' hgrow'
        have hx5 : Ext w2 w5 := ((hx.alloc _ _).alloc _ _).grow hgrow' fun k hk => own_geS HO.out hk
        have HO5 : Hid (w5.ownsRow w2.heap.size 72 3 v' (q + 1) (fl3 (recL false (R.take (q + 1))))) := by
          show World.ownsRow _ _ _ _ _ _ _
          rw [HE.out]
          exact hown'
        clear hown' hgrow'
        go_wp2_with fail
        go_roundw
        case rel => exact ⟨q + 1, by omega, by go_num, hx5, HO5.out⟩
        case measure => simp [intOf]; omega
      · obtain rfl : q = k := by omega
        have ho := HO.out
        rw [List.take_of_length_le (by rw [HK.out]; omega)] at ho
        obtain ⟨_, a3, c3, rfl, ht3⟩ := own_tri ho
        have HP : Hid (ConRes (n : Int) (.inr S) (.slice a3 q c3) 0 wr) := ⟨rfl, a3, c3, by rw [e0, HRR.out, HK.out], by rw [e0, HRR.out]; exact ht3⟩
        clear ho ht3 HO
        go_wp2_with fail
        go_ret2
        exact ⟨_, _, rfl, HP.out, HX2.out.trans hx⟩
set_option maxRecDepth 100000 in
set_option maxHeartbeats 400000 in
theorem lawSameRec_any (a b : Option Addr) (n c d : Nat) (L : List (Bool × Int × Int)) (w : World) (hl : L.length = n) (hn : n ≤ 9223372036854775807) (h : Tri w a (recV L)) (h' : Tri w b (recV L)) :
    Calls Try.prog 16 #[.slice a n c, .slice b n d] w fun e w' => e = .returned (.bool true) ∧ Ext w w' := by
  have HL : Hid (L.length = n) := hl
  have HA : Hid (Tri w a (recV L)) := h
  have HB : Hid (Tri w b (recV L)) := h'
  clear hl h h'
  go_enter Try.func16, Try.ntmps16
  go_wp2_with fail
  go_loopw [5] (fun i wr => ∃ q : Nat, q ≤ n ∧ i = .int .i64 q ∧ Ext w wr) (fun i _ => n - (intOf i).toNat)
  case atStart => exact ⟨0, Nat.zero_le _, rfl, Ext.refl _⟩
  case round =>
    obtain ⟨q, hq, rfl, hx⟩ := hrel
    by_cases hlt : q < n
    · obtain ⟨⟨f, x, y⟩, h1, _, _⟩ := drop_at (L := L) (k := q) (by rw [HL.out]; exact hlt)
      obtain ⟨b1, o1, rfl, hc0, hc1, hc2⟩ := rec_at (HA.out.ext hx) h1
      obtain ⟨b2, o2, rfl, hd0, hd1, hd2⟩ := rec_at (HB.out.ext hx) h1
      clear h1
      have i1 : (q : Int) < (n : Int) := by omega
      go_wp2_with fail
      go_quiet (fail)
      go_wp2_with fail
      go_roundw
      case rel => exact ⟨q + 1, by omega, by go_num, hx.drewN _⟩
      case measure => simp [intOf]; omega
    · go_wp2_with fail
      go_ret
      exact ⟨rfl, hx⟩
end Go.Proofs.Ytfekiccjcfdmkab
