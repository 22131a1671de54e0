/-
  label.Decode at a list of bytes that has not the size of a sector; the world only grows.
-/
import Derived.Test.YtemndnpbbkjmhabLabEnc
namespace Go.Proofs.Ytemndnpbbkjmhab
open Go.RowKit Go.Deep E
set_option maxRecDepth 100000 in
set_option maxHeartbeats 1600000 in
theorem Decode_size (a : Option Addr) (n c : Nat) (B : Nat → E) (w : World) (hn : n ≠ 128) :
    Calls Try.prog 9 #[.slice a n c] w fun e w' => e = .returned (.tuple #[.agg #[.int .i64 (decV n B 0), .int .i64 (decV n B 1), .int .i64 (decV n B 2), .int .i64 (decV n B 3), .int .i64 (decV n B 4), .int .i64 (decV n B 5), .int .i64 (decV n B 6), .int .i64 (decV n B 7), .int .i64 (decV n B 8), .int .i64 (decV n B 9), .int .i64 (decV n B 10), .int .i64 (decV n B 11), .int .i64 (decV n B 12)], .int .i64 (decE n B)]) ∧ Ext w w' := by
  have hE : decE n B = 1 := by unfold decE; rw [if_neg hn]
  have hV : ∀ k, decV n B k = 0 := fun k => by unfold decV; rw [hE, if_neg (by decide)]
  have hm : ((n : Int) != 128) = true := by rw [bne_iff_ne]; omega
  simp only [hE, hV]
  clear hE hV hn
  go_enter Try.func9, Try.ntmps9
  go_wp2_with fail
  refine bodyPost_ret (v := .tuple #[.agg #[.int .i64 ((fun _ => (0 : Int)) 0), .int .i64 ((fun _ => (0 : Int)) 1), .int .i64 ((fun _ => (0 : Int)) 2), .int .i64 ((fun _ => (0 : Int)) 3), .int .i64 ((fun _ => (0 : Int)) 4), .int .i64 ((fun _ => (0 : Int)) 5), .int .i64 ((fun _ => (0 : Int)) 6), .int .i64 ((fun _ => (0 : Int)) 7), .int .i64 ((fun _ => (0 : Int)) 8), .int .i64 ((fun _ => (0 : Int)) 9), .int .i64 ((fun _ => (0 : Int)) 10), .int .i64 ((fun _ => (0 : Int)) 11), .int .i64 ((fun _ => (0 : Int)) 12)], .int .i64 1]) (by simp [results, Try.results9, go_sem]) rfl ⟨rfl, ?_⟩
  exact (Ext.refl _).alloc _ _
end Go.Proofs.Ytemndnpbbkjmhab
