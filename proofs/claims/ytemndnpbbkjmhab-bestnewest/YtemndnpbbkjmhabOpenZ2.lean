/-
  Slices of slices of bytes that came in, each row's room bounded by the form's own reach.
-/
import Derived.SizedLaws
import Derived.Test.YtemndnpbbkjmhabOpn
namespace Go.Proofs.Ytemndnpbbkjmhab
open Go.ChangeShapes Go.WideShapes Go.ChangeAt Go.RowKit Go.Deep E
section
variable {H : Type} {enc : TypeId × Value → H} {P : Program} {w : World} {base : Nat} {held : Bool}
theorem weightsAll_in {e : TypeId} : ∀ {l : List (DataW H)} {d : DataW H}, d ∈ l → ∀ n ∈ d.weights P e, n ∈ DataW.weightsAll P e l
  | d' :: r, d, hd, n, hn => by
    simp only [DataW.weightsAll, List.mem_append]
    rcases List.mem_cons.1 hd with rfl | h
    · exact Or.inl hn
    · exact Or.inr (weightsAll_in h n hn)
theorem inner_sized {ts : List TypeId} {ds : List (DataW H)} (h : (DataW.weightsEach P ts ds).all (· ≤ reachBytes) = true) {j : Nat} {t e q : TypeId} {elems spare e' sp' : List (DataW H)}
    (ht : ts[j]? = some t) (hd : ds[j]? = some (.slice elems spare)) (hu : P.underlying t = some (.slice e)) (hu2 : P.underlying e = some (.slice q)) (hx : DataW.slice e' sp' ∈ elems) : (e'.length + sp'.length) * P.bytesOf q ≤ reachBytes := by
  refine of_decide_eq_true (List.all_eq_true.1 h _ (DataW.weights_mem_each ht hd _ ?_))
  simp only [DataW.weights, hu, List.mem_cons, List.mem_append]
  exact Or.inr (Or.inl (weightsAll_in hx _ (by simp [DataW.weights, hu2])))
theorem cols_sized {t e q : TypeId} (ht : P.underlying t = some (.slice e)) (he : P.underlying e = some (.slice q)) (hq : P.underlying q = some (.int .u8)) (ce : P.cellsOf e = 1) (cq : P.cellsOf q = 1) (hb : P.bytesOf q = 1)
    {ts : List TypeId} {ds : List (DataW H)} {j : Nat} (hsz : (DataW.weightsEach P ts ds).all (· ≤ reachBytes) = true) {a : Option Addr} {len cap : Nat} {d : DataW H} {p : List MemPlace} (htj : ts[j]? = some t) (hdj : ds[j]? = some d)
    (h : DataW.Trod enc P w base (fun _ => true) held t (.slice a len cap) d p) :
    ∃ (A : Nat → Option Addr) (L C : Nat → Nat) (F : Nat → Nat → E), Cols w a len A L C F ∧ len ≤ cap ∧ cap ≤ 9223372036854775807 ∧ ∀ r, r < len → L r ≤ C r ∧ C r ≤ 140737488351232 := by
  obtain ⟨fuel, hf⟩ := h
  rcases open_slice ht hf with ⟨hcs, _⟩ | ⟨x, l, c, m, n, D, Pl, hcs, _, hl, hm, hmm, hx, hrows⟩
  · simp [Value.cells] at hcs
    obtain ⟨rfl, rfl, rfl⟩ := hcs
    exact ⟨fun _ => none, fun _ => 0, fun _ => 0, fun _ _ => ze, fun r hr => by omega, by omega, by omega, fun r hr => by omega⟩
  · simp [Value.cells] at hcs
    obtain ⟨rfl, rfl, rfl⟩ := hcs
    simp only [if_true] at hmm
    subst hmm
    have hm' : m ≤ 9223372036854775807 := hm
    simp only [Prod.mk.injEq] at hx
    rw [hx.1] at hdj
    have all : ∀ i, i < len → ∃ y : (Option Addr × Nat) × Nat × (Nat → Nat), w.cell? (x.add i) = some (.slice y.1.1 y.1.2 y.2.1) ∧ Byts w y.1.1 y.1.2 (fun k => of (y.2.2 k)) ∧ y.1.2 ≤ y.2.1 ∧ y.2.1 ≤ 140737488351232 := by
      intro i hi
      obtain ⟨cs', h1, h2⟩ := hrows i (by omega)
      rw [ce] at h1
      obtain ⟨_, hlen, hcell⟩ := World.cells?_some h1
      have e0 : w.cell? (x.add i) = cs'[0]? := by
        have := hcell 0 (by omega)
        rw [add_add] at this
        simpa [ce] using this
      rcases open_ints he hq cq h2 with ⟨hcs, _⟩ | ⟨x', l', c', zs, hcs, _, hl', hm2, hz, hd, hcell', hwz⟩
      · refine ⟨((none, 0), 0, fun _ => 0), ?_, fun i hi => by simp at hi, by simp, by simp⟩
        rw [e0, hcs]
        rfl
      · simp only [if_true] at hz
        simp only [Prod.mk.injEq] at hd
        have hin : DataW.slice (lits .u8 (zs.take l')) (lits .u8 (zs.drop l')) ∈ (List.range len).map D := List.mem_map.2 ⟨i, List.mem_range.2 hi, hd.1⟩
        have hs := inner_sized hsz htj hdj ht he hin
        rw [hb] at hs
        have hlen2 : (lits (H := H) .u8 (zs.take l')).length + (lits (H := H) .u8 (zs.drop l')).length = zs.length := by
          simp [lits]
          omega
        rw [hlen2, hz] at hs
        have hs' : c' * 1 ≤ 140737488351232 := hs
        refine ⟨((some x', l'), c', fun k => (zs.getD k 0).toNat), ?_, ?_, hl', by simpa using hs'⟩
        · rw [e0, hcs]
          rfl
        · refine row_byts fun k hk => ?_
          have hk' : k < l' := hk
          have hg := getD_u8 hwz (i := k) (by omega)
          rw [hcell' k (by omega)]
          have : (of ((((zs.getD k 0).toNat : Nat)) : Int) : E) = of (zs.getD k 0) := by
            have hb2 := wf_u8 (hwz (zs.getD k 0) (by rw [List.getD_eq_getElem?_getD, List.getElem?_eq_getElem (show k < zs.length by omega)]; exact List.getElem_mem _))
            rw [Int.toNat_of_nonneg hb2.1]
          rw [this, hg]
    obtain ⟨y, hy⟩ := choose_lt all
    refine ⟨fun r => (y r).1.1, fun r => (y r).2.1 |> fun _ => (y r).1.2, fun r => (y r).2.1, fun r k => of ((y r).2.2 k), fun r hr => ⟨?_, (hy r hr).2.1⟩, hl, hm', fun r hr => (hy r hr).2.2⟩
    obtain ⟨b, o, s⟩ := x
    have hs : s = none := by simpa [Addr.add] using World.cell?_spot (hy 0 (by omega)).1
    subst hs
    exact ⟨b, o, rfl, by rw [← add_plain]; exact (hy r hr).1⟩
end
end Go.Proofs.Ytemndnpbbkjmhab
