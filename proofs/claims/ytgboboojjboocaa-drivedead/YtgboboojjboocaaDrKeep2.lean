/-
  Lists of jobs of a call's own, by append; what a loss of power leaves of a good drive.
-/
import Derived.Test.YtgboboojjboocaaChecked
import Derived.WalkKit
import Derived.BigQuiet
import Derived.Test.YtgboboojjboocaaDrKeep
namespace Go.Proofs.Ytgboboojjboocaa
open Go.RowKit Go.Deep E
theorem own_base {w : World} {b b2 : Nat} {e : TypeId} {sz : Nat} {v : Value} {n : Nat} {xs : List Value} (h : w.ownsRow b e sz v n xs) (hb : b2 ≤ b) : w.ownsRow b2 e sz v n xs := by
  obtain ⟨h1, h2⟩ := h
  refine ⟨h1, ?_⟩
  rcases h2 with h2 | ⟨g, cap, cur, hv, hg, r⟩
  · exact Or.inl h2
  · exact Or.inr ⟨g, cap, cur, hv, Nat.le_trans hb hg, r⟩
/-- jobs in a row of a call's own -/
structure OwnJ (w0 : World) (v : Value) (D : List Jb) (w : World) : Prop where
  own : w.ownsRow w0.heap.size 34 4 v D.length (D.map jbC).flatten
  ext : Ext w0 w
theorem OwnJ.grown {w0 w w' : World} {v : Value} {D : List Jb} (h : OwnJ w0 v D w) (x : Ext w w') : OwnJ w0 v D w' := ⟨own_ext h.own x, h.ext.trans x⟩
theorem OwnJ.back {w0 w1 w : World} {v : Value} {D : List Jb} (h : OwnJ w1 v D w) (x : Ext w0 w1) : OwnJ w0 v D w := ⟨own_base h.own x.size, x.trans h.ext⟩
theorem OwnJ.jobs {w0 w : World} {v : Value} {D : List Jb} (h : OwnJ w0 v D w) (hB : ∀ J, J ∈ D → Byts w J.ad J.l J.f ∧ J.l ≤ 9223372036854775807) : ∃ ad c, v = .slice ad D.length c ∧ Jobs w ad D := by
  obtain ⟨_, ad, c, hv, _, _, hE⟩ := own_els h.own (jobs_szd D) (by omega)
  exact ⟨ad, c, hv, hE, hB⟩
theorem append_copyJ (w : World) {ops : Array Oper} {rest : List Oper} {o : Oper} {a : Act} {Q : Exit → Act → World → Prop} (hgd : o.guard = none) (x : Operand)
    (ho : o.op = .call { callee := .builtin .append, args := #[.const (.slice none 0 0), x], argTypes := #[22, 22] }) (D : List Jb) (ad : Option Addr) (m c : Nat) (hx : a.eval x = .slice ad m c) (hl : D.length = m) (hm : m ≤ 1000) (hJ : Els w ad 4 (D.map jbC))
    (h : ∀ v' w', OwnJ w v' D w' → wpList Try.prog ops Q rest (a.put o.dst v') w') : wpList Try.prog ops Q (o :: rest) a w := by
  refine append_els w hgd (.const (.slice none 0 0)) x 22 ho 4 (by omega) w.heap.size 34 (.agg #[.int .i64 0, .int .i64 0, .int .i64 0, .slice none 0 0]) 48 Try.underlying22 infoJob rfl (.slice none 0 0) 0 [] rfl (World.ownsRow_nil _ _ _ _) ad m c (D.map jbC) (by rw [List.length_map]; exact hl) hx hJ (jobs_szd D) (jobs_one D) (by omega) (by omega) (by omega) (Nat.le_refl _) ?_
  intro v' w' h1 h2
  refine h v' w' ⟨?_, (Ext.refl w).grow h2 fun k hk => by cases hk⟩
  rw [hl]
  simpa using h1
theorem append_moreJ (w0 w : World) {ops : Array Oper} {rest : List Oper} {o : Oper} {a : Act} {Q : Exit → Act → World → Prop} (hgd : o.guard = none) (s x : Operand)
    (ho : o.op = .call { callee := .builtin .append, args := #[s, x], argTypes := #[22, 22] }) (D M : List Jb) (v : Value) (hs : a.eval s = v) (hO : OwnJ w0 v D w) (hD : D.length ≤ 1000) (ad : Option Addr) (m c : Nat) (hx : a.eval x = .slice ad m c) (hl : M.length = m) (hm : m ≤ 1000) (hE : Els w ad 4 (M.map jbC))
    (h : ∀ v' w', OwnJ w0 v' (D ++ M) w' → wpList Try.prog ops Q rest (a.put o.dst v') w') : wpList Try.prog ops Q (o :: rest) a w := by
  refine append_els w hgd s x 22 ho 4 (by omega) w0.heap.size 34 (.agg #[.int .i64 0, .int .i64 0, .int .i64 0, .slice none 0 0]) 48 Try.underlying22 infoJob rfl v D.length (D.map jbC) hs hO.own ad m c (M.map jbC) (by rw [List.length_map]; exact hl) hx hE (jobs_szd M) (jobs_one M) (by omega) (by omega) (by omega) hO.ext.size ?_
  intro v' w' h1 h2
  refine h v' w' ⟨?_, hO.ext.grow h2 fun k hk => own_geD hO.own hk⟩
  rw [List.length_append, List.map_append, hl]
  exact h1
theorem append_moreG (w0 w : World) {ops : Array Oper} {rest : List Oper} {o : Oper} {a : Act} {Q : Exit → Act → World → Prop} (hgd : o.guard = none) (s x : Operand)
    (ho : o.op = .call { callee := .builtin .append, args := #[s, x], argTypes := #[22, 22] }) (D M : List Jb) (v : Value) (hs : a.eval s = v) (hO : OwnJ w0 v D w) (hD : D.length ≤ 1000) (ad : Option Addr) (m c : Nat) (hx : a.eval x = .slice ad m c) (hl : M.length = m) (hm : m ≤ 1000) (hE : Els w ad 4 (M.map jbC))
    (h : ∀ v' w', OwnJ w0 v' (D ++ M) w' → (∀ J, JOk w J → JOk w' J) → wpList Try.prog ops Q rest (a.put o.dst v') w') : wpList Try.prog ops Q (o :: rest) a w := by
  refine append_els w hgd s x 22 ho 4 (by omega) w0.heap.size 34 (.agg #[.int .i64 0, .int .i64 0, .int .i64 0, .slice none 0 0]) 48 Try.underlying22 infoJob rfl v D.length (D.map jbC) hs hO.own ad m c (M.map jbC) (by rw [List.length_map]; exact hl) hx hE (jobs_szd M) (jobs_one M) (by omega) (by omega) (by omega) hO.ext.size ?_
  intro v' w' h1 h2
  refine h v' w' ⟨?_, hO.ext.grow h2 fun k hk => own_geD hO.own hk⟩ (fun J hJ => hJ.grown hO.own h2)
  rw [List.length_append, List.map_append, hl]
  exact h1
/-- a job without data -/
def bareJ (k at' kp : Int) : Jb := ⟨k, at', kp, none, 0, 0, fun _ => ze⟩
theorem bare_els (W : World) (g : Nat) (hg : g = W.heap.size) (k at' kp : Int) (t : TypeId) : Els (W.alloc (.cells #[.int .i64 k, .int .i64 at', .int .i64 kp, .slice none 0 0] t)) (some ⟨g, 0, none⟩) 4 ([bareJ k at' kp].map jbC) := els_new W g hg _ t 4
theorem bare_plain {k at' kp : Int} (hk : k = 2 ∨ k = 3 ∨ k = 4) (ha : 0 ≤ at' ∧ at' < 8) : Plain 8 (bareJ k at' kp) := ⟨Or.inr hk, ha⟩
theorem bare_byts (w : World) (k at' kp : Int) : Byts w (bareJ k at' kp).ad (bareJ k at' kp).l (bareJ k at' kp).f ∧ (bareJ k at' kp).l ≤ 9223372036854775807 := ⟨fun i hi => absurd hi (Nat.not_lt_zero i), by show (0 : Nat) ≤ _; omega⟩
theorem crash_all {s : DState} (h : Good 8 s) {i : Nat} (hi : i < 8) : has (jobR 8 s (bareJ 4 0 (-1))).2 i = has s i := by
  rw [job_crash h rfl ⟨by show (0 : Int) ≤ 0; omega, by show (0 : Int) < 8; omega⟩]
  rw [has_set, set_plat h _ hi]
  show (match lastK (keepB (-1)) 0 s.2.1 i with | some c => c | none => plat s i) = _
  rw [lastK_all i s.2.1 0 (fun j _ _ => keepB_all j)]
  rfl
theorem crash_none {s : DState} (h : Good 8 s) {i : Nat} (hi : i < 8) : has (jobR 8 s (bareJ 4 0 0)).2 i = plat s i := by
  rw [job_crash h rfl ⟨by show (0 : Int) ≤ 0; omega, by show (0 : Int) < 8; omega⟩]
  rw [has_set, set_plat h _ hi]
  show (match lastK (keepB 0) 0 s.2.1 i with | some c => c | none => plat s i) = _
  rw [lastK_none i s.2.1 0 (fun j _ _ => keepB_none j)]
theorem flush_same {s : DState} (h : Good 8 s) {i : Nat} (hi : i < 8) : has (jobR 8 s (bareJ 3 0 0)).2 i = has s i := by
  rw [job_flush h rfl ⟨by show (0 : Int) ≤ 0; omega, by show (0 : Int) < 8; omega⟩]
  exact flush_has h hi
theorem job_plat {s : DState} {J : Jb} (h : Good 8 s) (hp : Plain 8 J) (hk : J.k ≠ 4) (hk3 : J.k ≠ 3) (i : Nat) : plat (jobR 8 s J).2 i = plat s i := by
  obtain ⟨hj, ha⟩ := hp
  rcases hj with ⟨hj, hl⟩ | hj | hj | hj
  · rw [job_put h hj ha hl]
    rfl
  · rw [job_get h hj ha]
  · exact absurd hj hk3
  · exact absurd hj hk
theorem job_flat {s : DState} {J : Jb} (h : Good 8 s) (hp : Plain 8 J) (hk : J.k = 3) (i : Nat) : plat (jobR 8 s J).2 i = has (jobR 8 s J).2 i := by
  rw [job_flush h hk hp.2]
  rfl
theorem gets_own {w0 w : World} {v : Value} {D : List Jb} (hO : OwnJ w0 v D w) (hB : ∀ J, J ∈ D → Byts w J.ad J.l J.f ∧ J.l ≤ 9223372036854775807) (hp : ∀ J, J ∈ D → Plain 8 J) (hl : D.length ≤ 200) :
    Calls Try.prog 12 #[v] w fun e w' => (∃ v, e = .returned (.tuple #[v, .bool true]) ∧ Rows8 w' v (fun i => has (dend 8 (newS 8) D) i)) ∧ Ext w w' := by
  obtain ⟨ad, c, rfl, hJ⟩ := hO.jobs hB
  exact gets_any ad D.length c D w rfl hl hJ hp
theorem gets_more {w0 w : World} {v : Value} {D : List Jb} {M : Jb} (hO : OwnJ w0 v (D ++ [M]) w) (hB : ∀ J, J ∈ D → Byts w J.ad J.l J.f ∧ J.l ≤ 9223372036854775807) (hM : Byts w M.ad M.l M.f ∧ M.l ≤ 9223372036854775807) (hp : ∀ J, J ∈ D → Plain 8 J) (hpM : Plain 8 M) (hl : D.length ≤ 150) :
    Calls Try.prog 12 #[v] w fun e w' => (∃ v, e = .returned (.tuple #[v, .bool true]) ∧ Rows8 w' v (fun i => has (jobR 8 (dend 8 (newS 8) D) M).2 i)) ∧ Ext w w' := by
  have h := gets_own hO (fun J hJ => by
    rcases List.mem_append.1 hJ with h1 | h1
    · exact hB J h1
    · rw [List.mem_singleton.1 h1]; exact hM) (fun J hJ => by
    rcases List.mem_append.1 hJ with h1 | h1
    · exact hp J h1
    · rw [List.mem_singleton.1 h1]; exact hpM) (by rw [List.length_append]; show D.length + 1 ≤ 200; omega)
  rw [dend_snoc] at h
  exact h
theorem Els.take {w : World} {a : Option Addr} {sz : Nat} {L : List (List Value)} (h : Els w a sz L) (n : Nat) : Els w a sz (L.take n) := fun i cs hi => h i cs (by
  have hl := lt_of_get hi
  rw [List.length_take] at hl
  rw [List.getElem?_take_of_lt (by omega)] at hi
  exact hi)
theorem Jobs.take {w : World} {a : Option Addr} {L : List Jb} (h : Jobs w a L) (n : Nat) : Jobs w a (L.take n) := ⟨by rw [List.map_take]; exact h.1.take n, fun J hJ => h.2 J (List.mem_of_mem_take hJ)⟩
theorem AcI.ownJ {w wr : World} {L : List Act4} {g : Nat → Int} {nk q : Nat} {D : List Jb} {v : Value} (h : AcI w L g nk q D v wr) : OwnJ w v D wr := ⟨by rw [h.len]; exact h.own, h.ext⟩
theorem JOk.fine {w : World} {J : Jb} (h : JOk w J) : Byts w J.ad J.l J.f ∧ J.l ≤ 9223372036854775807 := ⟨h.byts.1, by have := h.byts.2; omega⟩
end Go.Proofs.Ytgboboojjboocaa
