/-
  quicksetlaw.octets: a copy of bytes, in new memory.
-/
import Derived.Test.YthgbfakmkdifbaaChecked
import Derived.WalkKit
import Derived.BigQuiet
import Derived.Test.YthgbfakmkdifbaaKeepFlet
namespace Go.Proofs.Ythgbfakmkdifbaa
open Go.RowKit Go.Deep E
set_option maxRecDepth 100000 in
set_option maxHeartbeats 800000 in
theorem octets_any (a : Option Addr) (n c : Nat) (f : Nat → E) (w : World) (hn : n ≤ 140737488351232) (h : Byts w a n f) :
    Calls Try.prog 9 #[.slice a n c] w fun e w' => (∃ ax cx, e = .returned (.slice ax n cx) ∧ Byts w' ax n f ∧ n ≤ cx ∧ cx ≤ 9223372036854775807) ∧ Ext w w' := by
  have HB : Hid (Byts w a n f) := h
  clear h
  go_enter Try.func9, Try.ntmps9
  go_wp2_with (first | (at_builtin; refine append_vals w rfl (.const (.slice none 0 0)) (.tmp 3) 22 rfl w.heap.size 5 (.int .u8 0) 1 Try.underlying22 infoByte rfl (.slice none 0 0) 0 [] rfl (World.ownsRow_nil _ _ _ _) a n c (bvs f) rfl HB.out (fun _ _ => rfl) (by omega) (by omega) (Nat.le_refl _) ?_) | go_in)
  intro v' w1 hown hgrow
  have hown' : w1.ownsRow w.heap.size 5 1 v' n ((List.range n).map (bvs f)) := by simpa using hown
  obtain ⟨ax, cx, rfl, hbx, hcx⟩ := own_room hown'
  have X1 : Hid (Ext w w1) := (Ext.refl w).grow hgrow fun _ hk => by cases hk
  have HX : Hid (Byts w1 ax n f ∧ n ≤ cx ∧ cx ≤ 9223372036854775807) := ⟨hbx, hcx⟩
  clear hown hown' hgrow hbx hcx
  go_wp2_with fail
  go_ret
  exact ⟨⟨ax, cx, rfl, HX.out⟩, X1.out⟩
end Go.Proofs.Ythgbfakmkdifbaa
