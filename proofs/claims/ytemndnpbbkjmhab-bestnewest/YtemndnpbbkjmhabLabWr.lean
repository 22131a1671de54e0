/-
  label.write: a number's bytes, the lowest first, into a row of bytes; only this row is written.
-/
import Derived.Test.YtemndnpbbkjmhabChecked
import Derived.WalkKit
import Derived.BigQuiet
import Derived.StillTailTactics
import Derived.Deep.WholeRow
import Derived.Deep.OwnRows
import Derived.Laws.BitsAllLaws
import Derived.Test.YtemndnpbbkjmhabLabMath
import Derived.Test.YtemndnpbbkjmhabQuiets
namespace Go.Proofs.Ytemndnpbbkjmhab
open Go.RowKit Go.Deep E
/-- a row of n cells, whole -/
theorem rowN {w : World} {g : Nat} {t : TypeId} {n : Nat} {f : Nat → Value} (c : Array Value) (h : w.rowIs g t n f) (hs : c.size = n) (hc : ∀ i, i < n → c[i]? = some (f i)) : w.heap[g]? = some (.cells c t (0, 0)) := by
  obtain ⟨c', h1, h2, h3⟩ := h
  have e : c' = c := by
    apply Array.ext_getElem?
    intro i
    by_cases hi : i < n
    · rw [h3 i hi, hc i hi]
    · rw [Array.getElem?_eq_none (by omega), Array.getElem?_eq_none (by omega)]
  rw [h1, e]
theorem dv_pow (n : Int) : ∀ k, dv n k = n / 2 ^ (8 * k)
  | 0 => by show n = n / 1; omega
  | k + 1 => by
    show dv n k / 256 = _
    have hp : (0 : Int) < 2 ^ (8 * k) := Int.pow_pos (by decide)
    rw [dv_pow n k, Int.ediv_ediv, if_neg (by omega), show 8 * (k + 1) = 8 * k + 8 by omega, Int.pow_add, Int.sub_zero]
    rfl
/-- k bytes of n stand from o on -/
def putB (f : Nat → E) (o : Nat) (n : Int) (k i : Nat) : E := if o ≤ i ∧ i < o + k then byt n (i - o) else f i
theorem putB_put (f : Nat → E) (o : Nat) (n : Int) (k : Nat) (v : Int) (hv : v = ev (byt n k)) (i : Nat) : (if i = o + k then Value.int .u8 v else bvs (putB f o n k) i) = bvs (putB f o n (k + 1)) i := by
  unfold bvs putB
  by_cases e : i = o + k
  · subst e
    rw [if_pos rfl, if_pos (by omega), hv, show o + k - o = k by omega]
  · rw [if_neg e]
    by_cases l : o ≤ i ∧ i < o + k
    · rw [if_pos l, if_pos (by omega)]
    · rw [if_neg l, if_neg (by omega)]
set_option maxRecDepth 100000 in
set_option maxHeartbeats 1600000 in
theorem write_any (g o m c N : Nat) (f : Nat → E) (n : Int) (hm : m ≤ 8) (ho : o + m ≤ N) (w : World) (h : w.rowIs g 5 N (bvs f)) :
    Calls Try.prog 32 #[.slice (some ⟨g, o, none⟩) m c, .int .i64 n] w fun e w' => e = .returned (.tuple #[]) ∧ Wro (· = g) w w' ∧ w'.rowIs g 5 N (bvs (putB f o n m)) := by
  have HG : Hid (w.rowIs g 5 N (bvs f)) := h
  clear h
  go_enter Try.func32, Try.ntmps32
  go_wp2_with fail
  go_loopw [7] (fun i wr => ∃ k : Nat, k ≤ m ∧ i = .int .i64 k ∧ Wro (· = g) w wr ∧ wr.rowIs g 5 N (bvs (putB f o n k))) (fun i _ => m - (intOf i).toNat)
  case atStart => exact ⟨0, Nat.zero_le _, rfl, Wro.refl _ _, HG.out.congr fun i _ => by unfold bvs putB; rw [if_neg (by omega)]⟩
  case round =>
    obtain ⟨k, hk, rfl, hx, hr⟩ := hrel
    have HR : Hid (wr.rowIs g 5 N (bvs (putB f o n k))) := hr
    by_cases hlt : k < m
    · have hck := hr.cell (i := o + k) (by omega)
      have hfk := hr.frozen (o + k)
      clear hr
      unfold bvs at hck
      go_wp2_with fail
      go_roundw
      case rel =>
        refine ⟨k + 1, by omega, by go_num, hx.setCell (p := ⟨g, o + k, none⟩) rfl _, (HR.out.set (o + k) _).congr fun i _ => putB_put f o n k _ ?_ i⟩
        rw [ev_byt]
        rw [dv_pow]
      case measure => simp [intOf]; omega
    · obtain rfl : k = m := by omega
      go_wp2_with fail
      go_end0
      exact ⟨rfl, hx, hr⟩
theorem p256_pow : ∀ k, p256 k = ((2 ^ (8 * k) : Nat) : Int)
  | 0 => rfl
  | k + 1 => by
    show p256 k * 256 = _
    rw [p256_pow k, show 8 * (k + 1) = 8 * k + 8 by omega, Nat.pow_add, Int.natCast_mul]
    rfl
theorem ofInt_wrap (z : Int) : BitVec.ofInt 64 (wrap64 z) = BitVec.ofInt 64 z := by
  apply BitVec.eq_of_toNat_eq
  rw [BitVec.toNat_ofInt, BitVec.toNat_ofInt]
  unfold wrap64
  omega
theorem or_rd (B : Nat → E) (k : Nat) (hk : k < 8) : bits .or .i64 (wrap64 (rdN B k)) (wrap64 (ev (B k) * 2 ^ (8 * k))) = wrap64 (rdN B (k + 1)) := by
  have hb := rdN_bd B k
  have hb1 := rdN_bd B (k + 1)
  obtain ⟨A, hA⟩ : ∃ A : Nat, rdN B k = A := ⟨(rdN B k).toNat, by omega⟩
  have hle : (2 : Nat) ^ (8 * (k + 1)) ≤ 2 ^ 64 := Nat.pow_le_pow_right (by decide) (by omega)
  have hle0 : (2 : Nat) ^ (8 * k) ≤ 2 ^ 64 := Nat.pow_le_pow_right (by decide) (by omega)
  have e1 : rdN B (k + 1) = ((A + 2 ^ (8 * k) * (B k).val : Nat) : Int) := by
    show rdN B k + ev (B k) * p256 k = _
    rw [hA, p256_pow, Int.natCast_add, Int.natCast_mul, Int.mul_comm]
    rfl
  rw [p256_pow, hA] at hb
  rw [p256_pow, e1] at hb1
  have e2 : ev (B k) * 2 ^ (8 * k) = ((2 ^ (8 * k) * (B k).val : Nat) : Int) := by
    rw [Int.natCast_mul, Int.mul_comm]
    rfl
  have hs : A + 2 ^ (8 * k) * (B k).val < 2 ^ 64 := by omega
  show IntKind.i64.wrap ((BitVec.ofInt 64 (wrap64 (rdN B k)) ||| BitVec.ofInt 64 (wrap64 (ev (B k) * 2 ^ (8 * k)))).toNat : Int) = _
  rw [ofInt_wrap, ofInt_wrap, BitVec.toNat_or, hA, e2, ofInt_u64 A (by omega), ofInt_u64 _ (by omega), or_put A _ (8 * k) (by omega), ← e1, IntKind.wrap_i64]
  unfold wrap64
  omega
set_option maxRecDepth 100000 in
set_option maxHeartbeats 1600000 in
theorem read_any (b o m c : Nat) (B : Nat → E) (w : World) (hm : m ≤ 8) (h : ∀ i, i < m → w.cell? ⟨b, o + i, none⟩ = some (.int .u8 (ev (B i)))) :
    Calls Try.prog 22 #[.slice (some ⟨b, o, none⟩) m c] w fun e w' => e = .returned (.int .i64 (wrap64 (rdN B m))) ∧ Ext w w' := by
  have HC : Hid (∀ i, i < m → w.cell? ⟨b, o + i, none⟩ = some (.int .u8 (ev (B i)))) := h
  clear h
  go_enter Try.func22, Try.ntmps22
  go_wp2_with fail
  go_loopw [3, 8] (fun v i wr => ∃ k : Nat, k ≤ m ∧ i = .int .i64 k ∧ v = .int .i64 (wrap64 (rdN B k)) ∧ Ext w wr) (fun _ i _ => m - (intOf i).toNat)
  case atStart => exact ⟨0, Nat.zero_le _, rfl, congrArg (Value.int .i64) (show (0 : Int) = wrap64 0 by unfold wrap64; omega), Ext.refl _⟩
  case round =>
    obtain ⟨k, hk, rfl, rfl, hx⟩ := hrel
    by_cases hlt : k < m
    · have hck := hx.keeps (HC.out k hlt)
      have hb := ev_bd (B k)
      go_wp2_with fail
      go_roundw
      case rel =>
        refine ⟨k + 1, by omega, by go_num, ?_, hx⟩
        exact congrArg (Value.int .i64) (or_rd B k (by omega))
      case measure => simp [intOf]; omega
    · obtain rfl : k = m := by omega
      go_wp2_with fail
      go_ret
      exact ⟨rfl, hx⟩
end Go.Proofs.Ytemndnpbbkjmhab
