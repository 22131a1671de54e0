/-
  Structs of ints, nested or not, that came in: by value, and in slices: as functions of their place.
-/
import Derived.WalkKit
import Derived.ProofKit
import Derived.OpenShut
import Derived.ChangeOld
import Derived.ChangeArms
import Derived.Below
import Derived.Deep.Slices
import Derived.Test.YtgboboojjboocaaOpn
namespace Go.Proofs.Ytgboboojjboocaa
open Go.ChangeShapes Go.WideShapes Go.ChangeAt Go.RowKit Go.Deep
/-- a type of n ints and nothing else, structs in structs at most d deep -/
def intsT (P : Program) : Nat → TypeId → Nat → Prop
  | 0, _, _ => False
  | d + 1, t, n => (P.underlying t = some (.int .i64) ∧ P.cellsOf t = 1 ∧ n = 1) ∨
      ∃ fs, P.underlying t = some (.struct fs) ∧ P.cellsOf t = n ∧ ∀ k, k < n → ∃ (i : Nat) (f : Field), fs[i]? = some f ∧ f.offset ≤ k ∧ k < f.offset + P.cellsOf f.type ∧ intsT P d f.type (P.cellsOf f.type)
def I64 (z : Int) : Prop := -9223372036854775808 ≤ z ∧ z ≤ 9223372036854775807
section
variable {H : Type} {enc : TypeId × Value → H} {P : Program} {w : World} {base : Nat} {spare : Nat → Bool} {held : Bool}
theorem cells_of_intsT : ∀ (d : Nat) (t : TypeId) (n fuel : Nat) (cs : List Value) (x : DataW H × List MemPlace), intsT P d t n → DataW.trod enc P w base spare held fuel t cs = some x → cs.length = n ∧ ∀ k, k < n → ∃ z, cs[k]? = some (.int .i64 z) ∧ I64 z
  | 0, _, _, _, _, _, h, _ => h.elim
  | d + 1, t, n, fuel, cs, x, h, hx => by
    rcases h with ⟨h1, h2, rfl⟩ | ⟨fs, h1, h2, h3⟩
    · obtain ⟨z, rfl, _, hw⟩ := DataW.trod_int h1 hx
      refine ⟨rfl, fun k hk => ?_⟩
      obtain rfl : k = 0 := by omega
      exact ⟨z, rfl, bounds_i64 hw⟩
    · obtain ⟨xs, m, _, _, hl, hxl, hf⟩ := DataW.trod_struct h1 hx
      refine ⟨by rw [hl, h2], fun k hk => ?_⟩
      obtain ⟨i, f, hi, hlo, hhi, hr⟩ := h3 k hk
      have hff := hf i f hi
      have hlt : i < xs.length := by rw [hxl]; exact (Array.getElem?_eq_some_iff.1 hi).1
      rw [List.getElem?_eq_getElem hlt] at hff
      obtain ⟨hlen, hc⟩ := cells_of_intsT d f.type _ m _ _ hr hff
      obtain ⟨z, hz, hb⟩ := hc (k - f.offset) (by omega)
      refine ⟨z, ?_, hb⟩
      rw [List.getElem?_take_of_lt (by omega), List.getElem?_drop, show f.offset + (k - f.offset) = k by omega] at hz
      exact hz
theorem flat_of_trod {d : Nat} {t : TypeId} {n : Nat} {cs : Array Value} {dt : DataW H} {p : List MemPlace} (hT : intsT P d t n) (h : DataW.Trod enc P w base spare held t (.agg cs) dt p) :
    ∃ s : Nat → Int, cs.toList = (List.range n).map (fun i => .int .i64 (s i)) ∧ ∀ i, i < n → I64 (s i) := by
  obtain ⟨fuel, hf⟩ := h
  have hf' : DataW.trod enc P w base spare held fuel t cs.toList = some (dt, p) := by simpa [Value.cells] using hf
  obtain ⟨hl, hc⟩ := cells_of_intsT d t n fuel _ _ hT hf'
  obtain ⟨s, hs⟩ := choose_lt hc
  refine ⟨s, ?_, fun i hi => (hs i hi).2⟩
  apply List.ext_getElem?
  intro i
  by_cases hi : i < n
  · rw [(hs i hi).1]
    simp [hi]
  · rw [List.getElem?_eq_none (by omega), List.getElem?_eq_none (by simp; omega)]
/-- a slice of len structs of n ints each lies at a: number k of struct r is F r k -/
def Flt (w : World) (a : Option Addr) (len n : Nat) (F : Nat → Nat → Int) : Prop :=
  ∀ r k, r < len → k < n → ∃ b o, a = some ⟨b, o, none⟩ ∧ w.cell? ⟨b, o + r * n + k, none⟩ = some (.int .i64 (F r k))
theorem Flt.ext {w w' : World} {a : Option Addr} {len n : Nat} {F : Nat → Nat → Int} (h : Flt w a len n F) (x : Ext w w') : Flt w' a len n F := fun r k hr hk => by
  obtain ⟨b, o, h1, h2⟩ := h r k hr hk
  exact ⟨b, o, h1, x.keeps h2⟩
theorem Flt.row {w : World} {b o len n : Nat} {F : Nat → Nat → Int} (h : Flt w (some ⟨b, o, none⟩) len n F) {r k : Nat} (hr : r < len) (hk : k < n) : w.cell? ⟨b, o + r * n + k, none⟩ = some (.int .i64 (F r k)) := by
  obtain ⟨b', o', h1, h2⟩ := h r k hr hk
  cases h1
  exact h2
/-- a slice of n bools lies at a -/
def Bools (w : World) (a : Option Addr) (n : Nat) (f : Nat → Bool) : Prop := ∀ i, i < n → ∃ b o, a = some ⟨b, o, none⟩ ∧ w.cell? ⟨b, o + i, none⟩ = some (.bool (f i))
theorem Bools.ext {w w' : World} {a : Option Addr} {n : Nat} {f : Nat → Bool} (h : Bools w a n f) (x : Ext w w') : Bools w' a n f := fun i hi => by
  obtain ⟨b, o, h1, h2⟩ := h i hi
  exact ⟨b, o, h1, x.keeps h2⟩
theorem bools_of_trod {t e : TypeId} (ht : P.underlying t = some (.slice e)) (he : P.underlying e = some .bool) (ce : P.cellsOf e = 1) {a : Option Addr} {len cap : Nat} {dt : DataW H} {p : List MemPlace}
    (h : DataW.Trod enc P w base (fun _ => true) held t (.slice a len cap) dt p) : ∃ f : Nat → Bool, Bools w a len f ∧ len ≤ cap ∧ cap ≤ 9223372036854775807 := by
  obtain ⟨fuel, hf⟩ := h
  rcases open_slice ht hf with ⟨hcs, _⟩ | ⟨x, l, c, m, q, D, Pl, hcs, _, hl, hm, hmm, _, hrows⟩
  · simp [Value.cells] at hcs
    obtain ⟨rfl, rfl, rfl⟩ := hcs
    exact ⟨fun _ => false, fun r hr => by omega, by omega, by omega⟩
  · simp [Value.cells] at hcs
    obtain ⟨rfl, rfl, rfl⟩ := hcs
    simp only [if_true] at hmm
    subst hmm
    have hm' : m ≤ 9223372036854775807 := hm
    have all : ∀ i, i < len → ∃ z : Bool, w.cell? (x.add i) = some (.bool z) := by
      intro i hi
      obtain ⟨cs', h1, h2⟩ := hrows i (by omega)
      rw [ce] at h1
      obtain ⟨_, hlen, hcell⟩ := World.cells?_some h1
      obtain ⟨z, hz, _⟩ := DataW.trod_bool he h2
      have e0 := hcell 0 (by omega)
      rw [add_add, hz] at e0
      exact ⟨z, by simpa using e0⟩
    obtain ⟨f, hF⟩ := choose_lt all
    refine ⟨f, fun i hi => ?_, hl, hm'⟩
    obtain ⟨b, o, s⟩ := x
    have hs : s = none := by simpa [Addr.add] using World.cell?_spot (hF 0 (by omega))
    subst hs
    have hc := hF i hi
    rw [add_plain] at hc
    exact ⟨b, o, rfl, hc⟩
theorem flats_of_trod {d : Nat} {t e : TypeId} {n : Nat} (h0 : 0 < n) (ht : P.underlying t = some (.slice e)) (ce : P.cellsOf e = n) (hT : intsT P d e n) {a : Option Addr} {len cap : Nat} {dt : DataW H} {p : List MemPlace}
    (h : DataW.Trod enc P w base (fun _ => true) held t (.slice a len cap) dt p) :
    ∃ F : Nat → Nat → Int, Flt w a len n F ∧ (∀ r k, r < len → k < n → I64 (F r k)) ∧ len ≤ cap ∧ cap ≤ 9223372036854775807 := by
  obtain ⟨fuel, hf⟩ := h
  rcases open_slice ht hf with ⟨hcs, _⟩ | ⟨x, l, c, m, q, D, Pl, hcs, _, hl, hm, hmm, _, hrows⟩
  · simp [Value.cells] at hcs
    obtain ⟨rfl, rfl, rfl⟩ := hcs
    exact ⟨fun _ _ => 0, fun r k hr => by omega, fun r k hr => by omega, by omega, by omega⟩
  · simp [Value.cells] at hcs
    obtain ⟨rfl, rfl, rfl⟩ := hcs
    simp only [if_true] at hmm
    subst hmm
    have hm' : m ≤ 9223372036854775807 := hm
    have all : ∀ i, i < len → ∃ s : Nat → Int, ∀ k, k < n → w.cell? (x.add (i * n + k)) = some (.int .i64 (s k)) ∧ I64 (s k) := by
      intro i hi
      obtain ⟨cs', h1, h2⟩ := hrows i (by omega)
      rw [ce] at h1
      obtain ⟨_, hlen, hcell⟩ := World.cells?_some h1
      obtain ⟨hcl, hc⟩ := cells_of_intsT d e n q _ _ hT h2
      obtain ⟨s, hs⟩ := choose_lt hc
      refine ⟨s, fun k hk => ⟨?_, (hs k hk).2⟩⟩
      have e0 := hcell k (by omega)
      rw [add_add] at e0
      rw [e0]
      have := (hs k hk).1
      exact this
    obtain ⟨F, hF⟩ := choose_lt all
    refine ⟨F, fun r k hr hk => ?_, fun r k hr hk => (hF r hr k hk).2, hl, hm'⟩
    obtain ⟨b, o, s⟩ := x
    have hc := (hF r hr k hk).1
    have hs : s = none := by simpa [Addr.add] using World.cell?_spot (hF 0 (by omega) 0 h0).1
    subst hs
    rw [add_plain, ← Nat.add_assoc] at hc
    exact ⟨b, o, rfl, hc⟩
end
end Go.Proofs.Ytgboboojjboocaa
