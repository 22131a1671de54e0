/-
  A word of a sector that is changed is seen. No program in sight.
-/
import Derived.Test.YtemndnpbbkjmhabLabMath
namespace Go.Proofs.Ytemndnpbbkjmhab
open Go.RowKit Go.Deep E
theorem same_word {W G : Nat → E} {q : Nat} (h : wrdOf W q = wrdOf G q) (r : Nat) (hr : r < 4) : W (4 * q + r) = G (4 * q + r) := wrd_eq h r hr
theorem touched {W G : Nat → E} {p : Nat} (hp : p < 32) (ho : ∀ q, q ≠ p → wrdOf G q = wrdOf W q) (hne : wrdOf W p ≠ wrdOf G p) (hW : sealB W = true) : sealB G = false := by
  rw [← Bool.not_eq_true]
  intro hG
  have hGi := (sealB_iff G).1 hG
  have hWi := (sealB_iff W).1 hW
  have hbytes : ∀ i, i / 4 ≠ p → G i = W i := fun i hi => by
    have := wrd_eq (ho (i / 4) hi) (i % 4) (by omega)
    rw [show 4 * (i / 4) + i % 4 = i by omega] at this
    exact this
  by_cases h24 : p < 24
  · have hs := seen_A (W := wrdOf W) (W' := wrdOf G) (k := 24) h24 ho (wrd_bd _ _) (wrd_bd _ _) hne
    apply hs
    have e1 := hGi 0 (by omega)
    have e2 := hWi 0 (by omega)
    have e3 : rds G 0 = rds W 0 := by
      unfold rds
      rw [rdN_congr 8 fun i hi => hbytes (96 + 8 * 0 + i) (by omega)]
    show sealV W 0 = sealV G 0
    rw [← e2, ← e1, e3]
  · apply hne
    have hsl : ∀ k, sealV G k = sealV W k := fun k => sealV_congr (fun i hi => hbytes i (by omega)) k
    have hk : (p - 24) / 2 < 4 := by omega
    have e : ∀ j, j < 8 → W (96 + 8 * ((p - 24) / 2) + j) = G (96 + 8 * ((p - 24) / 2) + j) := fun j hj => by
      rw [seal_bytes hW _ hk j hj, seal_bytes hG _ hk j hj, hsl]
    have hw : ∀ r, r < 4 → W (4 * p + r) = G (4 * p + r) := fun r hr => by
      have := e (4 * p + r - (96 + 8 * ((p - 24) / 2))) (by omega)
      rw [show 96 + 8 * ((p - 24) / 2) + (4 * p + r - (96 + 8 * ((p - 24) / 2))) = 4 * p + r by omega] at this
      exact this
    unfold wrdOf
    rw [← hw 1 (by omega), ← hw 2 (by omega), ← hw 3 (by omega)]
    have := hw 0 (by omega)
    rw [Nat.add_zero] at this
    rw [this]
theorem sealB_sec {x : Nat → Int} : sealB (sec x) = true := sealB_of fun k hk j hj => by
  rw [sec_seal x k j hj, sealV_congr fun i hi => sec_hd x i hi]
theorem dec_touched {W G : Nat → E} {p : Nat} (hp : p < 32) (ho : ∀ q, q ≠ p → wrdOf G q = wrdOf W q) (hne : wrdOf W p ≠ wrdOf G p) (hW : sealB W = true) : decE 128 G = 11 ∧ ∀ k, decV 128 G k = 0 := by
  have hs := touched hp ho hne hW
  have hE : decE 128 G = 11 := by unfold decE; rw [if_pos rfl, if_neg (by rw [hs]; decide)]
  exact ⟨hE, fun k => by unfold decV; rw [hE, if_neg (by decide)]⟩
end Go.Proofs.Ytemndnpbbkjmhab
