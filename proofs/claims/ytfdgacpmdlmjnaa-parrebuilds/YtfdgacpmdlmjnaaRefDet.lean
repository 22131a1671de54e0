/-
  quicksetref.det of a square matrix of elements: its determinant; the world only grows.
-/
import Derived.Test.YtfdgacpmdlmjnaaChecked
import Derived.WalkKit
import Derived.BigQuiet
import Derived.Deep.Slices
import Derived.Test.YtfdgacpmdlmjnaaRefSwept
import Derived.Test.YtfdgacpmdlmjnaaAlg2
namespace Go.Proofs.Ytfdgacpmdlmjnaa
open Go.RowKit Go.Deep E
/-- so many rows of the minor without row i are there behind k rows -/
def cnt (i k : Nat) : Nat := if k ≤ i then k else k - 1
theorem detE_part (n : Nat) (M : Nat → Nat → E) : detE (n + 1) M = sm (n + 1) fun i => mu (M i 0) (detE n fun r c => M (skp i r) (c + 1)) := rfl
theorem hdr_next {w0 w4 w5 : World} {v v' : Value} {k : Nat} {H : Nat → Value} {t : TypeId} {o : Obj} (hx : Ext w0 w4) (h : w4.ownsRow w0.heap.size t 1 v k ((List.range k).map H))
    (h' : w5.ownsRow w0.heap.size t 1 v' (k + 1) (((List.range k).map H) ++ [H k])) (hg : (w4.alloc o).grownBy w5 v.ownBlock) : Ext w0 w5 ∧ w5.ownsRow w0.heap.size t 1 v' (k + 1) ((List.range (k + 1)).map H) := by
  refine ⟨⟨(hx.below.alloc hx.below.size o).grown hg (by have := hx.size; simp; omega) (fun k hk => (h.lt k hk).1)⟩, ?_⟩
  rw [List.range_succ, List.map_append]
  simpa using h'
set_option maxRecDepth 100000 in
set_option maxHeartbeats 3200000 in
theorem det_any : ∀ (n : Nat), 1 ≤ n → n ≤ 8 → ∀ (a : Option Addr) (c : Nat) (A : Nat → Option Addr) (C : Nat → Nat) (M : Nat → Nat → E) (w : World), Mat w a n A (fun _ => n) C (fun r i => ev (M r i)) → (∀ r, r < n → n ≤ C r) →
    Calls Try.prog 57 #[.slice a n c] w fun e w' => e = .returned (.int .i64 (ev (detE n M))) ∧ Ext w w' := by
  intro n
  induction n with
  | zero => intro h; omega
  | succ n ih =>
    intro hn1 hn8 a c A C M w h hC
    have HIH : Hid (1 ≤ n → n ≤ 8 → ∀ (a : Option Addr) (c : Nat) (A : Nat → Option Addr) (C : Nat → Nat) (M : Nat → Nat → E) (w : World), Mat w a n A (fun _ => n) C (fun r i => ev (M r i)) → (∀ r, r < n → n ≤ C r) →
      Calls Try.prog 57 #[.slice a n c] w fun e w' => e = .returned (.int .i64 (ev (detE n M))) ∧ Ext w w') := ih
    clear ih
    obtain ⟨b, o, rfl, hc⟩ := h.at (by omega)
    have hr : ∀ r, r < n + 1 → ∃ y : Nat × Nat, A r = some ⟨y.1, y.2, none⟩ ∧ ∀ i, i < n + 1 → w.cell? ⟨y.1, y.2 + i, none⟩ = some (.int .i64 (ev (M r i))) := fun r hr => by
      obtain ⟨b, o, h1, h2⟩ := (h.row hr).at (by omega)
      exact ⟨(b, o), h1, h2⟩
    obtain ⟨y, hy⟩ := choose_lt hr
    have HC : Hid (∀ r, r < n + 1 → w.cell? ⟨b, o + r, none⟩ = some (.slice (some ⟨(y r).1, (y r).2, none⟩) (n + 1) (C r))) := fun r hr => by rw [hc r hr, (hy r hr).1]
    have HY : Hid (∀ r, r < n + 1 → ∀ i, i < n + 1 → w.cell? ⟨(y r).1, (y r).2 + i, none⟩ = some (.int .i64 (ev (M r i)))) := fun r hr => (hy r hr).2
    have HCC : Hid (∀ r, r < n + 1 → n + 1 ≤ C r) := hC
    clear h hc hr hy hC
    by_cases h1 : n = 0
    · subst h1
      have hc0 := HC.out 0 (by omega)
      have hc1 := HY.out 0 (by omega) 0 (by omega)
      rw [Nat.add_zero] at hc0 hc1
      have k0 : (((0 + 1 : Nat) : Int) == 1) = true := by decide
      have hd1 : detE (0 + 1) M = M 0 0 := by
        rw [detE_part]
        show ad ze (mu (M 0 0) on) = M 0 0
        rw [ze_ad, mu_on]
      have HD1 : Hid (detE (0 + 1) M = M 0 0) := hd1
      clear hd1
      go_enter Try.func57, Try.ntmps57
      go_wp2_with fail
      go_ret
      exact ⟨ret_int (by rw [HD1.out]), Ext.refl _⟩
    · have k0 : (((n + 1 : Nat) : Int) == 1) = false := by rw [beq_eq_false_iff_ne]; omega
      generalize hN : n + 1 = N at *
      have hnN : n = N - 1 := by omega
      have HPART : Hid (detE N M = sm N fun i => mu (M i 0) (detE n fun r c => M (skp i r) (c + 1))) := by show _ = _; rw [← hN]; rfl
      have hN2 : 2 ≤ N := by omega
      have HN : Hid (n + 1 = N) := hN
      clear hN h1 hnN
      go_enter Try.func57, Try.ntmps57
      go_wp2_with fail
      go_loopw [3, 17] (fun s i wr => ∃ k : Nat, k ≤ N ∧ i = .int .i64 k ∧ s = .int .i64 (ev (sm k fun i => mu (M i 0) (detE n fun r c => M (skp i r) (c + 1)))) ∧ Ext w wr) (fun _ i _ => N - (intOf i).toNat)
      case atStart => exact ⟨0, Nat.zero_le _, rfl, rfl, Ext.refl _⟩
      case round =>
        obtain ⟨i, hi, rfl, rfl, hx⟩ := hrel
        by_cases hlt : i < N
        · have hci := hx.keeps (HC.out i hlt)
          have hcv := hx.keeps (HY.out i hlt 0 (by omega))
          rw [Nat.add_zero] at hcv
          cases hz : isZe (M i 0)
          · have hzb : (ev (M i 0) == 0) = false := by rw [ev_isZe]; exact hz
            generalize hw0 : wr = wr0 at *
            clear hw0
            go_wp2_with fail
            go_loopw [5, 29] (fun v kk wi => ∃ k : Nat, k ≤ N ∧ kk = .int .i64 k ∧ Ext wr0 wi ∧ wi.ownsRow wr0.heap.size 23 1 v (cnt i k) ((List.range (cnt i k)).map fun r => .slice (some ⟨(y (skp i r)).1, (y (skp i r)).2 + 1, none⟩) (N - 1) (C (skp i r) - 1))) (fun _ kk _ => N - (intOf kk).toNat)
            case atStart => exact ⟨0, Nat.zero_le _, rfl, Ext.refl _, World.ownsRow_nil _ _ _ _⟩
            case round =>
              obtain ⟨k, hk, rfl, hxk, hown⟩ := hrel
              have HO : Hid (wr.ownsRow wr0.heap.size 23 1 u5 (cnt i k) ((List.range (cnt i k)).map fun r => .slice (some ⟨(y (skp i r)).1, (y (skp i r)).2 + 1, none⟩) (N - 1) (C (skp i r) - 1))) := hown
              clear hown
              by_cases hkt : k < N
              · by_cases hki : k = i
                · have hne : ((k : Int) != (i : Int)) = false := by rw [hki]; simp
                  have HKI : Hid (k = i) := hki
                  clear hki
                  go_wp2_with fail
                  go_roundw
                  case rel =>
                    have e : cnt i (k + 1) = cnt i k := by have := HKI.out; unfold cnt; rw [if_neg (by omega), if_pos (by omega)]; omega
                    exact ⟨k + 1, by omega, by go_num, hxk, by rw [e]; exact HO.out⟩
                  case measure => simp [intOf]; omega
                · have hne : ((k : Int) != (i : Int)) = true := by rw [bne_iff_ne]; omega
                  have HKI : Hid (¬ k = i) := hki
                  clear hki
                  have hck := (hx.trans hxk).keeps (HC.out k hkt)
                  have hcap := HCC.out k hkt
                  have HCN : Hid (cnt i k ≤ k) := by show _ ≤ _; unfold cnt; split <;> omega
                  go_wp2_with (first | (at_builtin; refine append_one wr rfl _ _ 32 rfl wr0.heap.size 23 (.slice none 0 0) 24 Try.underlying32 infoInts rfl u5 (cnt i k) _ rfl HO.out (.slice (some ⟨(y k).1, (y k).2 + 1, none⟩) (N - 1) (C k - 1)) 1 rfl rfl (by omega) (by have := HCN.out; omega) hxk.size ?_) | go_in)
                  intro v' w5 hown' hgrow
                  have R1 : Hid (Ext wr0 w5 ∧ w5.ownsRow wr0.heap.size 23 1 v' (cnt i (k + 1)) ((List.range (cnt i (k + 1))).map fun r => .slice (some ⟨(y (skp i r)).1, (y (skp i r)).2 + 1, none⟩) (N - 1) (C (skp i r) - 1))) := by
                    have hki := HKI.out
                    have e1 : cnt i (k + 1) = cnt i k + 1 := by
                      unfold cnt
                      by_cases e : k ≤ i
                      · rw [if_pos e, if_pos (by omega)]
                      · rw [if_neg e, if_neg (by omega)]; omega
                    have e2 : skp i (cnt i k) = k := by
                      unfold cnt skp
                      by_cases e : k ≤ i
                      · rw [if_pos e, if_pos (by omega)]
                      · rw [if_neg e, if_neg (by omega)]; omega
                    show _ ∧ _
                    rw [e1]
                    refine hdr_next hxk HO.out ?_ hgrow
                    rw [e2]
                    exact hown'
                  clear hown' hgrow
                  go_wp2_with fail
                  go_roundw
                  case rel => exact ⟨k + 1, by omega, by go_num, R1.out.1, R1.out.2⟩
                  case measure => simp [intOf]; omega
              · obtain rfl : k = N := by omega
                have hcn : cnt i k = k - 1 := if_neg (by omega)
                have HMIN : Hid (∃ a9 c9 A9, u5 = .slice a9 n c9 ∧ Mat wr a9 n A9 (fun _ => n) (fun r => C (skp i r) - 1) fun r x => ev (M (skp i r) (x + 1))) := by
                  have hnk := HN.out
                  have h9 := HO.out
                  rw [hcn] at h9
                  obtain ⟨a9, c9, h1, h2⟩ := own_slice h9
                  refine ⟨a9, c9, fun r => some ⟨(y (skp i r)).1, (y (skp i r)).2 + 1, none⟩, by rw [h1, ← hnk]; rfl, fun r hr => ?_⟩
                  obtain ⟨b9, o9, h3, h4⟩ := h2 r (by omega)
                  have hs : skp i r < k := by have := skp_lt (p := i) hr; omega
                  refine ⟨⟨b9, o9, h3, ?_⟩, Ints.mk fun x hx9 => ?_⟩
                  · rw [h4, List.getElem?_map, List.getElem?_range (by omega)]
                    simp [← hnk]
                  · have := (hx.trans hxk).keeps (HY.out (skp i r) hs (x + 1) (by have hx8 : x < n := hx9; omega))
                    rw [← this, Nat.add_assoc, Nat.add_comm 1 x]
                obtain ⟨a9, c9, A9, rfl, hmn⟩ := HMIN.out
                have HMN : Hid (Mat wr a9 n A9 (fun _ => n) (fun r => C (skp i r) - 1) fun r x => ev (M (skp i r) (x + 1))) := hmn
                have HDT : Hid (∀ x : Gr wr, Calls Try.prog 57 #[.slice a9 n c9] x.w' fun e w' => e = .returned (.int .i64 (ev (detE n fun r c => M (skp i r) (c + 1)))) ∧ Ext x.w' w') := fun x => by
                  have hnk := HN.out
                  refine HIH.out (by omega) (by omega) a9 c9 A9 _ (fun r c => M (skp i r) (c + 1)) x.w' (HMN.out.ext x.ext) (fun r hr => ?_)
                  have := HCC.out (skp i r) (by have := skp_lt (p := i) hr; omega)
                  omega
                clear hmn HMIN HMN HO hcn
                have gA := fun x : Gr wr => x.ext.keeps ((hx.trans hxk).keeps (HC.out i hlt))
                have gB := fun x : Gr wr => x.ext.keeps (hxk.keeps hcv)
                clear hci hcv
                go_wp2_with fail
                refine wp_region_grows 11 (by kernel_rfl) (by kernel_rfl) (fun hne => ?_)
                simp only [List.take_succ_cons, List.take_zero, List.drop_succ_cons, List.drop_zero]
                repeat (go_big_quiet_step (first | (go_at_call 57; exact Calls.grown (HDT.out _)) | (go_at_call 35; exact Calls.grown (mulOf_g (M i 0) (detE n fun r c => M (skp i r) (c + 1)) _))))
                refine wpQuiet_nil ?_
                intro w4 hw4
                obtain ⟨x, rfl⟩ := hw4
                clear gA gB
                go_wp2_with fail
                go_roundw
                case rel => exact ⟨i + 1, by omega, by go_num, by rw [xor_ev]; rfl, (hx.trans hxk).trans x.ext⟩
                case measure => simp [intOf]; omega
          · have hzb : (ev (M i 0) == 0) = true := by rw [ev_isZe]; exact hz
            have HZ : Hid (M i 0 = ze) := (isZe_iff _).1 hz
            clear hz
            go_wp2_with fail
            go_roundw
            case rel => exact ⟨i + 1, by omega, by go_num, int_eq (congrArg ev (by show _ = ad _ (mu (M i 0) _); rw [HZ.out, ze_mu, ad_ze])), hx⟩
            case measure => simp [intOf]; omega
        · obtain rfl : i = N := by omega
          go_wp2_with fail
          go_ret
          exact ⟨ret_int (by rw [HPART.out]), hx⟩
end Go.Proofs.Ytfdgacpmdlmjnaa
