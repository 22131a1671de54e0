/-
  quicksetkeep.One: the matrix with 1 where row and column have the same place; the world only grows.
-/
import Derived.Test.YtfnocamooapajabChecked
import Derived.WalkKit
import Derived.Test.YtfnocamooapajabKeepMat
import Derived.Test.YtfnocamooapajabMatRow
namespace Go.Proofs.Ytfnocamooapajab
open Go.RowKit Go.Deep E
theorem own_of_row {w : World} {base g : Nat} {t : TypeId} {n : Nat} {f : Nat → Value} (h : w.rowIs g t n f) (hb : base ≤ g) (hn : n ≤ maxLen) : w.ownsRow base t 1 (.slice (some ⟨g, 0, none⟩) n n) n ((List.range n).map f) := by
  obtain ⟨c, hc, hs, hi⟩ := h
  refine ⟨by simp, Or.inr ⟨g, n, c, rfl, hb, hc, Nat.le_refl _, hn, by omega, ?_⟩⟩
  apply List.ext_getElem?
  intro i
  by_cases e : i < n
  · rw [List.getElem?_take_of_lt (by omega), List.getElem?_map, List.getElem?_range e]
    have := hi i e
    simpa using this
  · rw [List.getElem?_eq_none (by simp; omega), List.getElem?_eq_none (by simp; omega)]
theorem one_row (w : World) (n i : Nat) : (w.alloc (.cells ((madeCells #[.int .i64 0] n).setIfInBounds i (.int .i64 1)) 3)).rowIs w.heap.size 3 n (evs (dl i)) := by
  have h := (World.rowIs_made w (.int .i64 0) n 3).set i (.int .i64 1)
  rw [World.setCell_alloc_at _ _ _ _ _ rfl] at h
  refine h.congr fun j _ => ?_
  unfold evs dl
  by_cases e : j = i
  · rw [if_pos e, if_pos e.symm]; rfl
  · rw [if_neg e, if_neg (fun q => e q.symm)]; rfl
theorem append_one_at {P : Program} (w1 : World) (g : Nat) (hg : w1.heap.size = g) {ops : Array Oper} {rest : List Oper} {o : Oper} {a : Act} {Q : Exit → Act → World → Prop} (hgd : o.guard = none) (s x : Operand) (t : TypeId)
    (ho : o.op = .call { callee := .builtin .append, args := #[s, x], argTypes := #[t, t] }) (base : Nat) (e : TypeId) (z : Value) (bytes : Nat) (ht : P.underlying t = some (.slice e))
    (hinfo : (P.info? e).map (fun i => (i.zero, i.size, i.bytes)) = some (some z, 1, bytes)) (hzs : z.cells.size = 1) (v : Value) (n : Nat) (xs : List Value) (hs : a.eval s = v) (hown : w1.ownsRow base e 1 v n xs)
    (u : Value) (c : Nat) (hx : a.eval x = .slice (some ⟨g, 0, none⟩) 1 c) (hu : u.oneCell' = true) (hb : bytes ≤ 64) (hn : n ≤ 1099511627776) (hbase : base ≤ w1.heap.size)
    (h : ∀ v' w', w'.ownsRow base e 1 v' (n + 1) (xs ++ [u]) → (w1.alloc (.cells #[u] e)).grownBy w' v.ownBlock → wpList P ops Q rest (a.put o.dst v') w') : wpList P ops Q (o :: rest) a (w1.alloc (.cells #[u] e)) := by
  subst hg
  exact append_one w1 hgd s x t ho base e z bytes ht hinfo hzs v n xs hs hown u c hx hu hb hn hbase h
set_option maxRecDepth 100000 in
set_option maxHeartbeats 800000 in
theorem One_any (n : Nat) (w : World) (hn : n ≤ 8) :
    Calls Try.prog 12 #[.int .i64 n] w fun e w' => MatVal w' e n n dl ∧ Ext w w' := by
  have hmk := make_ints n (by omega)
  go_enter Try.func12, Try.ntmps12
  go_wp2_with fail
  go_loopw [3, 4] (fun v i wr => ∃ k : Nat, k ≤ n ∧ i = .int .i64 k ∧ ∃ V, MOf w wr v k n V dl) (fun _ i _ => n - (intOf i).toNat)
  case atStart => exact ⟨0, Nat.zero_le _, rfl, fun _ => .int .i64 0, Ext.refl _, World.ownsRow_nil _ _ _ _, fun s hs => by omega⟩
  case round =>
    obtain ⟨i, hi, rfl, V, hmo⟩ := hrel
    have hx := hmo.ext
    by_cases hlt : i < n
    · have hrow := one_row wr n i
      have hx2 : Ext wr (wr.alloc (.cells ((madeCells #[.int .i64 0] n).setIfInBounds i (.int .i64 1)) 3)) := (Ext.refl wr).alloc _ _
      have HM2 : Hid (MOf w (wr.alloc (.cells ((madeCells #[.int .i64 0] n).setIfInBounds i (.int .i64 1)) 3)) u3 i n V dl) := hmo.ext' hx2
      have HRO : Hid ((wr.alloc (.cells ((madeCells #[.int .i64 0] n).setIfInBounds i (.int .i64 1)) 3)).ownsRow w.heap.size 3 1 (.slice (some ⟨wr.heap.size, 0, none⟩) n n) n ((List.range n).map fun x => .int .i64 (ev (dl i x)))) := own_of_row hrow hx.size (by unfold maxLen; omega)
      clear hmo hrow hx2
      have hsz := hx.size
      have hmc : (madeCells #[Value.int .i64 0] n)[i]? = some (.int .i64 0) := by simp [madeCells, hlt, Nat.mod_one]
      go_wp2_with (first | (at_builtin; refine append_one_at (wr.alloc (.cells ((madeCells #[.int .i64 0] n).setIfInBounds i (.int .i64 1)) 3)) (wr.heap.size + 1) (nblk_alloc _ _) rfl _ _ 23 rfl w.heap.size 22 (.slice none 0 0) 24 Try.underlying23 infoInts rfl u3 i _ rfl HM2.out.top (.slice (some ⟨wr.heap.size, 0, none⟩) n n) 1 rfl rfl (by omega) (by omega) (by simp; omega) ?_) | go_in)
      intro v' w5 hown' hgrow
      have R1 : Hid (∃ V, MOf w w5 v' (i + 1) n V dl) := by
        obtain ⟨V1, h1⟩ := HM2.out.next HRO.out hown' hgrow
        refine ⟨V1, h1.congr fun s hs => ?_⟩
        by_cases e : s < i
        · rw [if_pos e]
        · rw [if_neg e, show s = i by omega]
      clear hown' hgrow
      go_wp2_with fail
      go_roundw
      case rel => exact ⟨i + 1, by omega, by go_num, R1.out⟩
      case measure => simp [intOf]; omega
    · obtain rfl : i = n := by omega
      obtain ⟨a9, c9, A9, C9, rfl, hm9⟩ := hmo.mat
      have H9 : Hid (Mat wr a9 i A9 (fun _ => i) C9 fun r i => ev (dl r i)) := hm9
      clear hm9 hmo
      go_wp2_with fail
      go_ret
      exact ⟨⟨a9, c9, A9, C9, rfl, H9.out⟩, hx⟩
end Go.Proofs.Ytfnocamooapajab
