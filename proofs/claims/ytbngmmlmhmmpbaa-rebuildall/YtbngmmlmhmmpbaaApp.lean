/-
  append of whatever was found, onto a slice of the call's own: a nil source, an empty one, any other.
-/
import Derived.WalkKit
import Derived.Test.YtbngmmlmhmmpbaaOwnB
namespace Go.Proofs.Ytbngmmlmhmmpbaa
open Go.RowKit Go.Deep E
section
variable {P : Program}
theorem run_append_none (w : World) {base : Nat} (t ty e : TypeId) (i : TypeInfo) (ht : P.underlying t = some (.slice e)) (hi : P.info? e = some i) (v : Value) (n : Nat) (xs : List Value) {size : Nat} (hown : w.ownsRow base e size v n xs) (c : Nat) :
    (Builtin.append_ #[t, t] ty #[v, .slice none 0 c]).run P w = .ok v w := by
  obtain ⟨_, h⟩ := hown
  rcases h with ⟨rfl, rfl⟩ | ⟨g, cap, cur, rfl, _, _, hn, _⟩
  · simp [Builtin.append_, run_underlying ht, sizeOf, typeInfo, hi, Builtin.lenOf, Builtin.firstCells]
  · simp [Builtin.append_, run_underlying ht, sizeOf, typeInfo, hi, Builtin.lenOf, Builtin.firstCells, hn, storeCells]
theorem append_none (w : World) {ops : Array Oper} {rest : List Oper} {o : Oper} {a : Act} {Q : Exit → Act → World → Prop} (hgd : o.guard = none) (s x : Operand) (t : TypeId)
    (ho : o.op = .call { callee := .builtin .append, args := #[s, x], argTypes := #[t, t] }) (base : Nat) (e : TypeId) (i : TypeInfo) {size : Nat} (ht : P.underlying t = some (.slice e)) (hi : P.info? e = some i)
    (v : Value) (n : Nat) (xs : List Value) (hs : a.eval s = v) (hown : w.ownsRow base e size v n xs) (c : Nat) (hx : a.eval x = .slice none 0 c)
    (h : wpList P ops Q rest (a.put o.dst v) w) : wpList P ops Q (o :: rest) a w := by
  refine wpList_plain hgd fun K hK => ?_
  have hrun := run_append_none (P := P) w t o.type e i ht hi v n xs hown c
  unfold Oper.wp
  simp [execOp, ho, resolve, invoke, builtin, hs, hx, hrun, Result.andThen]
  exact hK _ _ h
theorem append_vals (w : World) {ops : Array Oper} {rest : List Oper} {o : Oper} {a : Act} {Q : Exit → Act → World → Prop} (hgd : o.guard = none) (s x : Operand) (T : TypeId)
    (ho : o.op = .call { callee := .builtin .append, args := #[s, x], argTypes := #[T, T] }) (base : Nat) (t : TypeId) (z : Value) (bytes : Nat) (ht : P.underlying T = some (.slice t))
    (hinfo : (P.info? t).map (fun i => (i.zero, i.size, i.bytes)) = some (some z, 1, bytes)) (hzs : z.cells.size = 1) (v : Value) (n : Nat) (xs : List Value) (hs : a.eval s = v) (hown : w.ownsRow base t 1 v n xs)
    (ao : Option Addr) (l c : Nat) (F : Nat → Value) (hx : a.eval x = .slice ao l c) (hF : ∀ i, i < l → ∃ b o, ao = some ⟨b, o, none⟩ ∧ w.cell? ⟨b, o + i, none⟩ = some (F i)) (hone : ∀ i, i < l → (F i).oneCell' = true)
    (hm : n + l ≤ 9223372036854775807) (hb : (n + l) * bytes ≤ 140737488355328) (hbase : base ≤ w.heap.size)
    (h : ∀ v' w', w'.ownsRow base t 1 v' (n + l) (xs ++ (List.range l).map F) → w.grownBy w' v.ownBlock → wpList P ops Q rest (a.put o.dst v') w') : wpList P ops Q (o :: rest) a w := by
  obtain ⟨i0, hi, hz0, hz1, hz2⟩ := info_parts hinfo
  cases ao with
  | none =>
    have hl : l = 0 := by
      rcases Nat.eq_zero_or_pos l with e | e
      · exact e
      · obtain ⟨b, o, h1, _⟩ := hF 0 e; cases h1
    subst hl
    refine append_none w hgd s x T ho base t i0 ht hi v n xs hs hown c hx ?_
    refine h v w ?_ ⟨rfl, rfl, rfl, Nat.le_refl _, fun _ _ _ => rfl⟩
    simpa using hown
  | some ad =>
    refine wpList_append_own w hgd s x T ho base t i0 z 1 bytes ht hi hz0 hz1 hz2 hzs (by decide) v n xs hs hown ad l c ((List.range l).map F) hx (by simp) ?_ ?_ ?_ hb hbase ?_
    · intro j y hj
      have e : j < l := by
        rcases Nat.lt_or_ge j l with e | e
        · exact e
        · rw [List.getElem?_eq_none (by simp; omega)] at hj; cases hj
      rw [List.getElem?_map, List.getElem?_range e] at hj
      cases hj
      obtain ⟨b, o, h1, h2⟩ := hF j e
      cases h1
      rw [Go.WideShapes.add_plain]
      exact h2
    · intro y hy
      obtain ⟨i, hi, rfl⟩ := List.mem_map.1 hy
      exact hone i (List.mem_range.1 hi)
    · unfold maxLen; omega
    · exact fun v' w' h1 h2 _ => h v' w' h1 h2
end
/-- where a slice of a slice begins -/
def subA (a : Option Addr) (c lo : Nat) : Option Addr := if c = lo then a else a.map (·.add lo)
theorem subA_some {c lo b o : Nat} (h : lo < c) : subA (some ⟨b, o, none⟩) c lo = some ⟨b, o + lo, none⟩ := by
  unfold subA
  rw [if_neg (by omega)]
  simp [Addr.add]
theorem sub_lh {P : Program} {T t : TypeId} (hT : P.underlying T = some (.slice t)) (hs : P.cellsOf t = 1) (a : Option Addr) (l c lo m : Nat) (h : lo + m ≤ c) (x y : Int) (hx : x = (lo : Int)) (hy : y = ((lo + m : Nat) : Int)) (w : World) :
    (Instr.slice T (.slice a l c) (some (.int .i64 x)) (some (.int .i64 y)) none).run P w = .ok (.slice (subA a c lo) m (c - lo)) w := by
  have hT' : P.underlying T = some (.slice (P.elem T)) := by simp [Program.elem, hT]
  have he : P.elem T = t := by simp [Program.elem, hT]
  rw [run_slice_lh (P := P) w T a l c hT' .i64 .i64 x y (by omega) (by omega) (by omega), he]
  have h1 : x.toNat = lo := by omega
  have h2 : y.toNat = lo + m := by omega
  have h3 : (sizeOf t).run P w = .ok 1 w := by
    unfold Program.cellsOf at hs
    cases hq : P.info? t with
    | none => simp [hq] at hs
    | some i =>
      simp [hq] at hs
      simp [sizeOf, typeInfo, hq, hs]
  rw [h3, h1, h2]
  simp [Result.andThen, sliced, subA]
theorem sub_h {P : Program} {T t : TypeId} (hT : P.underlying T = some (.slice t)) (hs : P.cellsOf t = 1) (a : Option Addr) (l c m : Nat) (h : m ≤ c) (y : Int) (hy : y = (m : Int)) (w : World) :
    (Instr.slice T (.slice a l c) none (some (.int .i64 y)) none).run P w = .ok (.slice (subA a c 0) m c) w := by
  have hT' : P.underlying T = some (.slice (P.elem T)) := by simp [Program.elem, hT]
  have he : P.elem T = t := by simp [Program.elem, hT]
  rw [run_slice_h (P := P) w T a l c hT' .i64 y (by omega) (by omega), he]
  have h2 : y.toNat = m := by omega
  have h3 : (sizeOf t).run P w = .ok 1 w := by
    unfold Program.cellsOf at hs
    cases hq : P.info? t with
    | none => simp [hq] at hs
    | some i =>
      simp [hq] at hs
      simp [sizeOf, typeInfo, hq, hs]
  rw [h3, h2]
  simp [Result.andThen, sliced, subA]
theorem sub_l {P : Program} {T t : TypeId} (hT : P.underlying T = some (.slice t)) (hs : P.cellsOf t = 1) (a : Option Addr) (l c lo : Nat) (h : lo ≤ l) (x : Int) (hx : x = (lo : Int)) (w : World) :
    (Instr.slice T (.slice a l c) (some (.int .i64 x)) none none).run P w = .ok (.slice (subA a c lo) (l - lo) (c - lo)) w := by
  have hT' : P.underlying T = some (.slice (P.elem T)) := by simp [Program.elem, hT]
  have he : P.elem T = t := by simp [Program.elem, hT]
  rw [run_slice_l (P := P) w T a l c hT' .i64 x (by omega) (by omega), he]
  have h2 : x.toNat = lo := by omega
  have h3 : (sizeOf t).run P w = .ok 1 w := by
    unfold Program.cellsOf at hs
    cases hq : P.info? t with
    | none => simp [hq] at hs
    | some i =>
      simp [hq] at hs
      simp [sizeOf, typeInfo, hq, hs]
  rw [h3, h2]
  simp [Result.andThen, sliced, subA]
/-- some of the bytes of a slice -/
theorem Byts.sub {w : World} {a : Option Addr} {n : Nat} {f : Nat → E} (h : Byts w a n f) (lo m : Nat) (hm : lo + m ≤ n) {a' : Option Addr} (ha : 0 < m → ∀ b o, a = some ⟨b, o, none⟩ → a' = some ⟨b, o + lo, none⟩) : Byts w a' m fun i => f (lo + i) := fun i hi => by
  obtain ⟨b, o, h1, h2⟩ := h (lo + i) (by omega)
  exact ⟨b, o + lo, ha (by omega) b o h1, by rw [Nat.add_assoc]; exact h2⟩
end Go.Proofs.Ytbngmmlmhmmpbaa
