/-
  Lists of sectors that a call gathers by append, and the best of them.
-/
import Derived.Test.YtemndnpbbkjmhabLabBest
import Derived.Test.YtemndnpbbkjmhabLabTch
import Derived.Test.YtemndnpbbkjmhabLabOf
import Derived.Test.YtemndnpbbkjmhabByb
namespace Go.Proofs.Ytemndnpbbkjmhab
open Go.RowKit Go.Deep E
/-- bytes in a block of bytes that is new since base -/
structure Sect (w : World) (base : Nat) (A : Option Addr) (L C : Nat) (G : Nat → E) : Prop where
  byts : Byts w A L G
  room : L ≤ C ∧ C ≤ 9223372036854775807
  typ : ∀ p, A = some p → base ≤ p.block ∧ ∃ c fr, w.heap[p.block]? = some (.cells c 5 fr)
theorem Sect.of_block {w w' : World} {base : Nat} {A : Option Addr} {L C : Nat} {G : Nat → E} (h : Sect w base A L C G) (hb : ∀ p, A = some p → w'.heap[p.block]? = w.heap[p.block]?) : Sect w' base A L C G :=
  ⟨fun i hi => by
    obtain ⟨b, o, h1, h2⟩ := h.byts i hi
    exact ⟨b, o, h1, (World.cell?_of_block (show w'.heap[(⟨b, o + i, none⟩ : Addr).block]? = w.heap[(⟨b, o + i, none⟩ : Addr).block]? from hb ⟨b, o, none⟩ h1)).trans h2⟩, h.room, fun p hp => by
    obtain ⟨h1, c, fr, h2⟩ := h.typ p hp
    exact ⟨h1, c, fr, (hb p hp).trans h2⟩⟩
theorem Sect.lt {w : World} {base : Nat} {A : Option Addr} {L C : Nat} {G : Nat → E} (h : Sect w base A L C G) {p : Addr} (hp : A = some p) : p.block < w.heap.size := by
  obtain ⟨_, c, fr, h2⟩ := h.typ p hp
  rcases Nat.lt_or_ge p.block w.heap.size with q | q
  · exact q
  · rw [Array.getElem?_eq_none q] at h2; cases h2
theorem Sect.ext {w w' : World} {base : Nat} {A : Option Addr} {L C : Nat} {G : Nat → E} (h : Sect w base A L C G) (x : Ext w w') : Sect w' base A L C G :=
  h.of_block fun p hp => x.below.block p.block (h.lt hp)
theorem Sect.grown {w w' : World} {base : Nat} {A : Option Addr} {L C : Nat} {G : Nat → E} {row : Option Nat} (h : Sect w base A L C G) (g : w.grownBy w' row) (hne : ∀ k, row = some k → ∃ c t fr, w.heap[k]? = some (.cells c t fr) ∧ t ≠ 5) : Sect w' base A L C G := by
  obtain ⟨_, _, _, _, h5⟩ := g
  refine h.of_block fun p hp => h5 p.block (h.lt hp) fun e => ?_
  obtain ⟨c, t, fr, h1, h2⟩ := hne p.block e.symm
  obtain ⟨_, c', fr', h3⟩ := h.typ p hp
  rw [h1] at h3
  cases h3
  exact h2 rfl
def upd {α : Type} (f : Nat → α) (m : Nat) (x : α) (r : Nat) : α := if r = m then x else f r
theorem upd_at {α : Type} (f : Nat → α) (m : Nat) (x : α) : upd f m x m = x := if_pos rfl
theorem upd_lt {α : Type} (f : Nat → α) {m r : Nat} (x : α) (h : r < m) : upd f m x r = f r := if_neg (by omega)
/-- m lists of bytes gathered -/
structure BSt (w0 wr : World) (v : Value) (m : Nat) (A : Nat → Option Addr) (L C : Nat → Nat) (G : Nat → Nat → E) : Prop where
  ext : Ext w0 wr
  own : wr.ownsRow w0.heap.size 22 1 v m ((List.range m).map fun r => Value.slice (A r) (L r) (C r))
  row : ∀ r, r < m → Sect wr w0.heap.size (A r) (L r) (C r) (G r)
theorem BSt.start (w : World) (A : Nat → Option Addr) (L C : Nat → Nat) (G : Nat → Nat → E) : BSt w w (.slice none 0 0) 0 A L C G :=
  ⟨Ext.refl _, World.ownsRow_nil _ _ _ _, fun r hr => by omega⟩
theorem BSt.grow {w0 wr w' : World} {v : Value} {m : Nat} {A : Nat → Option Addr} {L C : Nat → Nat} {G : Nat → Nat → E} (h : BSt w0 wr v m A L C G) (x : Ext wr w') : BSt w0 w' v m A L C G :=
  ⟨h.ext.trans x, own_ext h.own x, fun r hr => (h.row r hr).ext x⟩
theorem BSt.add {w0 w1 w' : World} {v v' : Value} {m : Nat} {A : Nat → Option Addr} {L C : Nat → Nat} {G : Nat → Nat → E} (h : BSt w0 w1 v m A L C G) {a : Option Addr} {l c : Nat} {g : Nat → E} {o : Obj} (hs : Sect w1 w0.heap.size a l c g)
    (hown : w'.ownsRow w0.heap.size 22 1 v' (m + 1) (((List.range m).map fun r => Value.slice (A r) (L r) (C r)) ++ [.slice a l c])) (hg : (w1.alloc o).grownBy w' v.ownBlock) :
    BSt w0 w' v' (m + 1) (upd A m a) (upd L m l) (upd C m c) (upd G m g) := by
  have hrow : ∀ k, v.ownBlock = some k → ∃ c t fr, (w1.alloc o).heap[k]? = some (.cells c t fr) ∧ t ≠ 5 := fun k hk => by
    obtain ⟨cur, h1⟩ := own_block (h.own.alloc o) hk
    exact ⟨_, _, _, h1, by decide⟩
  have he : Ext w1 (w1.alloc o) := ⟨(Below.refl _ _).alloc (Nat.le_refl _) _⟩
  refine ⟨(h.ext.trans he).grow hg fun k hk => (own_ge h.own hk).1, ?_, fun r hr => ?_⟩
  · have e : (List.range (m + 1)).map (fun r => Value.slice (upd A m a r) (upd L m l r) (upd C m c r)) = ((List.range m).map fun r => Value.slice (A r) (L r) (C r)) ++ [.slice a l c] := by
      rw [List.range_succ, List.map_append]
      congr 1
      · refine List.map_congr_left fun i hi => ?_
        have := List.mem_range.1 hi
        rw [upd_lt A a this, upd_lt L l this, upd_lt C c this]
      · show [Value.slice (upd A m a m) (upd L m l m) (upd C m c m)] = _
        rw [upd_at, upd_at, upd_at]
    rw [e]
    exact hown
  · by_cases q : r = m
    · subst q
      rw [upd_at, upd_at, upd_at, upd_at]
      exact (hs.ext he).grown hg hrow
    · have hlt : r < m := by omega
      rw [upd_lt A a hlt, upd_lt L l hlt, upd_lt C c hlt, upd_lt G g hlt]
      exact ((h.row r hlt).ext he).grown hg hrow
theorem BSt.cols {w0 wr : World} {v : Value} {m : Nat} {A : Nat → Option Addr} {L C : Nat → Nat} {G : Nat → Nat → E} (h : BSt w0 wr v m A L C G) : ∃ a c, v = .slice a m c ∧ Cols wr a m A L C G ∧ ∀ r, r < m → L r ≤ C r ∧ C r ≤ 9223372036854775807 := by
  obtain ⟨a, c, hv, hc⟩ := own_slice h.own
  refine ⟨a, c, hv, fun r hr => ⟨?_, (h.row r hr).byts⟩, fun r hr => (h.row r hr).room⟩
  obtain ⟨b, o, h1, h2⟩ := hc r hr
  exact ⟨b, o, h1, by rw [h2]; simp [hr]⟩
theorem bestP_cong {L L' : Nat → Nat} {F F' : Nat → Nat → E} : ∀ k, (∀ r, r < k → L r = L' r ∧ F r = F' r) → bestP L F k = bestP L' F' k
  | 0, _ => rfl
  | k + 1, h => by
    have ih := bestP_cong k fun r hr => h r (by omega)
    have hl := bestP_le L' F' k
    unfold bestP
    rw [ih, (h k (by omega)).1, (h k (by omega)).2]
    by_cases h0 : bestP L' F' k = 0
    · simp only [h0]
      simp
    · rw [(h (bestP L' F' k - 1) (by omega)).2]
/-- the place of the best, and its time (-1: there is none) -/
def atI (L : Nat → Nat) (F : Nat → Nat → E) (m : Nat) : Int := (bestP L F m : Int) - 1
def tmI (L : Nat → Nat) (F : Nat → Nat → E) (m : Nat) : Int := if bestP L F m = 0 then -1 else bestV L F m 4
theorem bestV_upd {L : Nat → Nat} {F : Nat → Nat → E} {m l : Nat} {g : Nat → E} (j : Nat) : bestP (upd L m l) (upd F m g) m = bestP L F m ∧ bestV (upd L m l) (upd F m g) m j = bestV L F m j := by
  have e := bestP_cong (L := upd L m l) (F := upd F m g) (L' := L) (F' := F) m fun r hr => ⟨upd_lt L l hr, upd_lt F g hr⟩
  refine ⟨e, ?_⟩
  have hl := bestP_le L F m
  unfold bestV
  rw [e]
  by_cases h0 : bestP L F m = 0
  · rw [if_pos h0, if_pos h0]
  · rw [if_neg h0, if_neg h0, upd_lt F g (by omega)]
theorem new_take {L : Nat → Nat} {F : Nat → Nat → E} {m l : Nat} {g : Nat → E} (h : decE l g = 0) (ht : tmI L F m < prs g 4) : atI (upd L m l) (upd F m g) (m + 1) = m ∧ tmI (upd L m l) (upd F m g) (m + 1) = prs g 4 := by
  have hu := bestV_upd (L := L) (F := F) (m := m) (l := l) (g := g) 4
  have hb : bestP (upd L m l) (upd F m g) (m + 1) = m + 1 := best_take ⟨by rw [upd_at, upd_at]; exact h, by
    rw [upd_at, hu.1, hu.2]
    by_cases h0 : bestP L F m = 0
    · exact Or.inl h0
    · unfold tmI at ht
      rw [if_neg h0] at ht
      exact Or.inr ht⟩
  have ht' := took hb
  unfold atI tmI
  rw [hb, if_neg (by omega), ht'.1, upd_at]
  exact ⟨by omega, rfl⟩
theorem new_leave {L : Nat → Nat} {F : Nat → Nat → E} {m l : Nat} {g : Nat → E} (h : decE l g = 0 → ¬ tmI L F m < prs g 4 ∧ 0 ≤ prs g 4) : atI (upd L m l) (upd F m g) (m + 1) = atI L F m ∧ tmI (upd L m l) (upd F m g) (m + 1) = tmI L F m := by
  have hu := bestV_upd (L := L) (F := F) (m := m) (l := l) (g := g) 4
  have hb : bestP (upd L m l) (upd F m g) (m + 1) = bestP (upd L m l) (upd F m g) m := best_leave fun hz => by
    rw [upd_at, upd_at] at hz
    obtain ⟨h1, h2⟩ := h hz
    rw [upd_at, hu.1, hu.2]
    unfold tmI at h1
    by_cases h0 : bestP L F m = 0
    · rw [if_pos h0] at h1; omega
    · rw [if_neg h0] at h1; exact ⟨h0, h1⟩
  have hl := left_as hb
  unfold atI tmI
  rw [hl.1, hb, hu.1, hu.2]
  exact ⟨rfl, rfl⟩
theorem prs_time {V : Nat → Int} (hm : mayL V = true) (hs : ∀ k, 9 ≤ k → k < 13 → -9223372036854775808 ≤ V k ∧ V k ≤ 9223372036854775807) : decE 128 (sec V) = 0 ∧ prs (sec V) 4 = V 4 := by
  have h := decE_sec (B := sec V) (fun _ _ => rfl) hm hs
  refine ⟨h.1, ?_⟩
  have h4 := h.2 4 (by omega)
  unfold decV at h4
  rw [if_pos h.1] at h4
  exact h4
/-- a sector of which one byte ahead of the seal is another one -/
def flip (W : Nat → E) (p i : Nat) : E := if i = p then ad (W p) on else W i
theorem flip_dec {W : Nat → E} {p : Nat} (hp : p < 96) (hW : sealB W = true) : decE 128 (flip W p) = 11 := by
  refine (dec_touched (p := p / 4) (W := W) (by omega) (fun q hq => ?_) (fun he => ?_) hW).1
  · exact wrd_shift fun r hr => by unfold flip; rw [if_neg (by omega)]
  · have := wrd_eq he (p % 4) (by omega)
    rw [show 4 * (p / 4) + p % 4 = p by omega] at this
    unfold flip at this
    rw [if_pos rfl] at this
    have h1 : ad (W p) (W p) = ad (W p) (ad (W p) on) := by rw [← this]
    rw [ad_self, ad_ad] at h1
    exact on_ne h1.symm
theorem flip_row {W : Nat → E} {p : Nat} (i : Nat) : (if i = p then Value.int .u8 (ev (ad (W p) on)) else bvs W i) = bvs (flip W p) i := by
  unfold bvs flip
  split <;> rfl
theorem sect_row {w : World} {base g n : Nat} {W : Nat → E} (h : w.rowIs g 5 n (bvs W)) (hb : base ≤ g) (hn : n ≤ 9223372036854775807) : Sect w base (some ⟨g, 0, none⟩) n n W := by
  refine ⟨Byts.row h (Nat.le_refl _), ⟨Nat.le_refl _, hn⟩, fun p hp => ?_⟩
  cases hp
  obtain ⟨c, h1, _⟩ := h
  exact ⟨hb, c, _, h1⟩
theorem sect_own {w : World} {base base' : Nat} {v : Value} {n : Nat} {W : Nat → E} (h : w.ownsRow base 5 1 v n ((List.range n).map (bvs W))) (hb : base' ≤ base) : ∃ a c, v = .slice a n c ∧ Sect w base' a n c W := by
  obtain ⟨a, c, hv, hB, hr⟩ := own_room h
  refine ⟨a, c, hv, hB, hr, fun p hp => ?_⟩
  have hob : v.ownBlock = some p.block := by rw [hv, hp]; rfl
  obtain ⟨cur, h1⟩ := own_block h hob
  exact ⟨Nat.le_trans hb (own_ge h hob).1, cur, _, h1⟩
end Go.Proofs.Ytemndnpbbkjmhab
