/-
  What the bound of the second form gives: how much room a slice that came in may have.
-/
import Derived.Test.YtlmnkakjmhgiaaaRows
import Derived.ProofKit
namespace Go.Proofs.Ytlmnkakjmhgiaaa
theorem bulk_pos {H : Type} : ∀ d : DataW H, 0 < Rows.uptoBulk d
  | .lit l => by cases l <;> simp [Rows.uptoBulk]
  | .nil => by simp [Rows.uptoBulk]
  | .ptr _ => by simp [Rows.uptoBulk]
  | .slice _ _ => by simp [Rows.uptoBulk]
  | .agg _ => by simp [Rows.uptoBulk]
  | .iface _ _ => by simp [Rows.uptoBulk]
  | .map _ => by simp [Rows.uptoBulk]
  | .held _ => by simp [Rows.uptoBulk]
theorem bulk_many {H : Type} : ∀ l : List (DataW H), l.length ≤ Rows.uptoBulkAll l
  | [] => Nat.zero_le _
  | d :: r => by
    have h1 := bulk_pos d
    have h2 := bulk_many r
    simp only [List.length_cons, Rows.uptoBulkAll]
    omega
theorem bulk_mem {H : Type} {d : DataW H} : ∀ {l : List (DataW H)}, d ∈ l → Rows.uptoBulk d ≤ Rows.uptoBulkAll l
  | x :: r, h => by
    simp only [Rows.uptoBulkAll]
    rcases List.mem_cons.1 h with e | e
    · subst e; omega
    · have := bulk_mem e; omega
/-- a slice's room, its spare places too -/
theorem bulk_room {H : Type} {el sp : List (DataW H)} {l : List (DataW H)} (h : Rows.uptoSmall H l = true) (hm : DataW.slice el sp ∈ l) : el.length + sp.length ≤ 1048576 := by
  have h0 : Rows.uptoBulkAll l ≤ 1048576 := of_decide_eq_true h
  have h1 := bulk_mem hm
  have h2 := bulk_many el
  have h3 := bulk_many sp
  simp only [Rows.uptoBulk] at h1
  omega
end Go.Proofs.Ytlmnkakjmhgiaaa
