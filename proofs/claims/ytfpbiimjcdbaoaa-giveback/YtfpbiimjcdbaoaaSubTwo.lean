/-
  Slices of slices of pairs; append of whatever pairs were found, onto a slice of the call's own: a nil source, an empty one, any other.
-/
import Derived.WalkKit
import Derived.Test.YtfpbiimjcdbaoaaByb
import Derived.Test.YtfpbiimjcdbaoaaSpanOwn
namespace Go.Proofs.Ytfpbiimjcdbaoaa
open Go.RowKit Go.Deep
/-- where a slice of a slice of pairs begins -/
def subP (a : Option Addr) (c lo : Nat) : Option Addr := if c = lo then a else a.map (·.add (lo * 2))
theorem subP_some {c lo b o : Nat} (h : lo < c) : subP (some ⟨b, o, none⟩) c lo = some ⟨b, o + lo * 2, none⟩ := by
  unfold subP
  rw [if_neg (by omega)]
  simp [Addr.add]
theorem size_two {P : Program} {t : TypeId} (hs : P.cellsOf t = 2) (w : World) : (sizeOf t).run P w = .ok 2 w := by
  unfold Program.cellsOf at hs
  cases hq : P.info? t with
  | none => simp [hq] at hs
  | some i =>
    simp [hq] at hs
    simp [sizeOf, typeInfo, hq, hs]
theorem subP_h {P : Program} {T t : TypeId} (hT : P.underlying T = some (.slice t)) (hs : P.cellsOf t = 2) (a : Option Addr) (l c m : Nat) (h : m ≤ c) (y : Int) (hy : y = (m : Int)) (w : World) :
    (Instr.slice T (.slice a l c) none (some (.int .i64 y)) none).run P w = .ok (.slice (subP a c 0) m c) w := by
  have hT' : P.underlying T = some (.slice (P.elem T)) := by simp [Program.elem, hT]
  have he : P.elem T = t := by simp [Program.elem, hT]
  rw [run_slice_h (P := P) w T a l c hT' .i64 y (by omega) (by omega), he]
  have h2 : y.toNat = m := by omega
  rw [size_two hs, h2]
  simp [Result.andThen, sliced, subP]
theorem subP_l {P : Program} {T t : TypeId} (hT : P.underlying T = some (.slice t)) (hs : P.cellsOf t = 2) (a : Option Addr) (l c lo : Nat) (h : lo ≤ l) (x : Int) (hx : x = (lo : Int)) (w : World) :
    (Instr.slice T (.slice a l c) (some (.int .i64 x)) none none).run P w = .ok (.slice (subP a c lo) (l - lo) (c - lo)) w := by
  have hT' : P.underlying T = some (.slice (P.elem T)) := by simp [Program.elem, hT]
  have he : P.elem T = t := by simp [Program.elem, hT]
  rw [run_slice_l (P := P) w T a l c hT' .i64 x (by omega) (by omega), he]
  have h2 : x.toNat = lo := by omega
  rw [size_two hs, h2]
  simp [Result.andThen, sliced, subP]
/-- some of the pairs of a slice -/
theorem Rngs.sub {w : World} {a : Option Addr} {L : List (Int × Int)} (h : Rngs w a L) (lo m : Nat) {a' : Option Addr} (ha : ∀ b o, a = some ⟨b, o, none⟩ → lo < L.length → a' = some ⟨b, o + lo * 2, none⟩) : Rngs w a' ((L.drop lo).take m) := fun i x y hi => by
  rw [List.getElem?_take] at hi
  split at hi
  · rw [List.getElem?_drop] at hi
    obtain ⟨b, o, h1, h2, h3⟩ := h (lo + i) x y hi
    have := lt_of_get hi
    exact ⟨b, o + lo * 2, ha b o h1 (by omega), by rw [show o + lo * 2 + i * 2 = o + (lo + i) * 2 by omega]; exact h2, by rw [show o + lo * 2 + i * 2 + 1 = o + (lo + i) * 2 + 1 by omega]; exact h3⟩
  · cases hi
theorem fl_one (E : List (Int × Int)) : ∀ u ∈ fl E, u.oneCell' = true := by
  induction E with
  | nil => intro u hu; simp [fl] at hu
  | cons r l ih =>
    intro u hu
    simp only [fl, List.mem_cons] at hu
    rcases hu with rfl | rfl | hu
    · rfl
    · rfl
    · exact ih u hu
theorem Rngs.cellsAt {w : World} {a : Option Addr} {E : List (Int × Int)} (h : Rngs w a E) {ad : Addr} (ha : a = some ad) : ∀ j u, (fl E)[j]? = some u → w.cell? (ad.add j) = some u := by
  intro j u hj
  have hl := (List.getElem?_eq_some_iff.1 hj).1
  rw [fl_length] at hl
  obtain ⟨⟨x, y⟩, hi⟩ : ∃ r, E[j / 2]? = some r := ⟨_, List.getElem?_eq_getElem (by omega)⟩
  obtain ⟨b, o, h0, h1, h2⟩ := h _ x y hi
  rw [ha] at h0
  cases h0
  obtain ⟨g1, g2⟩ := fl_get hi
  rw [Go.WideShapes.add_plain]
  rcases (show j = j / 2 * 2 ∨ j = j / 2 * 2 + 1 by omega) with e | e
  · rw [e, g1] at hj
    cases hj
    rw [e]; exact h1
  · rw [e, g2] at hj
    cases hj
    rw [e, ← Nat.add_assoc]; exact h2
/-- some pairs more, by append: whatever source, nil too -/
theorem append_pairs {P : Program} (w : World) {ops : Array Oper} {rest : List Oper} {o : Oper} {a : Act} {Q : Exit → Act → World → Prop} (hgd : o.guard = none) (s x : Operand) (t : TypeId)
    (ho : o.op = .call { callee := .builtin .append, args := #[s, x], argTypes := #[t, t] }) (base : Nat) (e : TypeId) (z : Value) (bytes : Nat) (ht : P.underlying t = some (.slice e))
    (hinfo : (P.info? e).map (fun i => (i.zero, i.size, i.bytes)) = some (some z, 2, bytes)) (hzs : z.cells.size = 2) (v : Value) (n : Nat) (D : List (Int × Int)) (hs : a.eval s = v) (hown : w.ownsRow base e 2 v n (fl D))
    (ao : Option Addr) (m c : Nat) (E : List (Int × Int)) (hm : E.length = m) (hx : a.eval x = .slice ao m c) (hE : Rngs w ao E) (hb : bytes ≤ 64) (hn : n ≤ 1099511627776) (hm2 : m ≤ 1048576) (hbase : base ≤ w.heap.size)
    (h : ∀ v' w', w'.ownsRow base e 2 v' (n + m) (fl (D ++ E)) → w.grownBy w' v.ownBlock → wpList P ops Q rest (a.put o.dst v') w') : wpList P ops Q (o :: rest) a w := by
  obtain ⟨i0, hi, hz0, hz1, hz2⟩ := info_parts hinfo
  cases ao with
  | none =>
    have hE0 : E = [] := by
      cases E with
      | nil => rfl
      | cons r l =>
        obtain ⟨b, o, h0, _⟩ := hE 0 r.1 r.2 rfl
        cases h0
    subst hE0
    simp at hm
    subst hm
    refine append_none w hgd s x t ho base e i0 ht hi v n (fl D) hs hown c hx ?_
    refine h v w ?_ ⟨rfl, rfl, rfl, Nat.le_refl _, fun _ _ _ => rfl⟩
    rw [List.append_nil]
    exact hown
  | some ad =>
    refine wpList_append_own w hgd s x t ho base e i0 z 2 bytes ht hi hz0 hz1 hz2 hzs (by decide) v n (fl D) hs hown ad m c (fl E) hx (by rw [fl_length, hm]) (hE.cellsAt rfl) (fl_one E) ?_ ?_ hbase ?_
    · unfold maxLen; omega
    · have : (n + m) * bytes ≤ (n + m) * 64 := Nat.mul_le_mul_left _ hb
      omega
    · exact fun v' w' h1 h2 _ => h v' w' (by rw [fl_append]; exact h1) h2
end Go.Proofs.Ytfpbiimjcdbaoaa
