/- To which states one goes; the fair sets. What holds whatever lies in other blocks. -/
import Derived.Deep.Onto
import Derived.Test.YthpbgfodejoecaaBym
import Derived.Test.YthpbgfodejoecaaGameEnJ
namespace Go.Proofs.Ythpbgfodejoecaa
open Go.RowKit

/-- A graph in memory; a list that lies nowhere is nil. -/
def Gc (w : World) (ga : Option Addr) (G : Nat) (L : Nat → Nat) (Z : Nat → Nat → Int) : Prop :=
  ∃ gb go, (0 < G → ga = some ⟨gb, go, none⟩) ∧ ∀ r, r < G → ∃ a c, w.cell? ⟨gb, go + r, none⟩ = some (.slice a (L r) c) ∧ Row w a (L r) (Z r) ∧ (a = none → L r = 0 ∧ c = 0)

theorem Gc.below {w w' : World} {ga : Option Addr} {G : Nat} {L : Nat → Nat} {Z : Nat → Nat → Int} (h : Gc w ga G L Z) (hb : Below w.heap.size w w') : Gc w' ga G L Z := by
  obtain ⟨b, o, ha, hc⟩ := h
  refine ⟨b, o, ha, fun r hr => ?_⟩
  obtain ⟨a, c, h1, h2, h3⟩ := hc r hr
  exact ⟨a, c, below_c hb h1, h2.below hb, h3⟩
theorem Gc.gr {w : World} {ga : Option Addr} {G : Nat} {L : Nat → Nat} {Z : Nat → Nat → Int} (h : Gc w ga G L Z) : Gr w ga G L Z := by
  obtain ⟨b, o, ha, hc⟩ := h
  refine ⟨b, o, ha, fun r hr => ?_⟩
  obtain ⟨a, c, h1, h2, h3⟩ := hc r hr
  exact ⟨a, c, h1, h2⟩

theorem owns_rown {w : World} {base : Nat} {v : Value} {l : List Int} (h : w.ownsRow base 3 1 v l.length (vals l)) :
    ∃ a c, v = .slice a l.length c ∧ Row w a l.length (fun i => l.getD i 0) ∧ (a = none → l.length = 0 ∧ c = 0) := by
  obtain ⟨a, c, rfl, hr⟩ := owns_row h
  refine ⟨a, c, rfl, hr, fun e => ?_⟩
  subst e
  rcases h.2 with ⟨h1, h0⟩ | ⟨g, cap, cur, h1, _⟩
  · exact ⟨h0, by injection h1⟩
  · cases h1

theorem Fam.gc {w wr : World} {G : Nat} {T : Nat → List Int} {V : Nat → Value} (h : Fam w wr G T V) : Gc wr (some ⟨w.heap.size, 0, none⟩) G (fun j => (T j).length) (fun j i => (T j).getD i 0) := by
  refine ⟨w.heap.size, 0, fun _ => rfl, fun r hr => ?_⟩
  obtain ⟨a, c, hv, hrow, hn⟩ := owns_rown (h.own r hr)
  exact ⟨a, c, by rw [Nat.zero_add, h.top.cell hr, hv], hrow, hn⟩

/-- The rows that are written so far. -/
structure Gng (w wr : World) (n k : Nat) (L : Nat → Nat) (Z : Nat → Nat → Int) (T : Nat → St3) (V : Nat → Value) : Prop where
  below : Below w.heap.size w wr
  top : wr.rowIs w.heap.size 26 n V
  own : ∀ j, j < k → wr.ownsRow (w.heap.size + 1) 3 1 (V j) (L (T j).2.2.toNat) (vals (lst (L (T j).2.2.toNat) (Z (T j).2.2.toNat)))

theorem Gng.next {w wr w2 : World} {n k : Nat} {L : Nat → Nat} {Z : Nat → Nat → Int} {T : Nat → St3} {V : Nat → Value} {v : Value} (h : Gng w wr n k L Z T V) (hb : Below wr.heap.size wr w2) (hv : w2.ownsRow wr.heap.size 3 1 v (L (T k).2.2.toNat) (vals (lst (L (T k).2.2.toNat) (Z (T k).2.2.toNat)))) :
    Gng w (w2.setCell ⟨w.heap.size, k, none⟩ v) n (k + 1) L Z T (fun j => if j = k then v else V j) := by
  have hsz : w.heap.size + 1 ≤ wr.heap.size := h.top.lt
  refine ⟨(h.below.trans (hb.mono h.below.size)).setCell (Nat.le_refl _) _, (h.top.of_block (hb.block _ h.top.lt)).set k v, fun j hj => ?_⟩
  by_cases e : j = k
  · subst e
    rw [if_pos rfl]
    exact ownsRow_setCell_below (World.ownsRow.mono hv hsz) (by show w.heap.size < _; omega) _
  · rw [if_neg e]
    exact ownsRow_setCell_below (below_ownsRow (h.own j (by omega)) hb) (by show w.heap.size < _; omega) _

end Go.Proofs.Ythpbgfodejoecaa

namespace Go.Proofs.Ythpbgfodejoecaa
open Go.RowKit

/-- P holds by blocks from lo on alone, none of them named by q. -/
def Lie (lo : Nat) (q : Nat → Prop) (P : World → Prop) (w : World) : Prop :=
  ∃ p : Nat → Prop, (∀ g, p g → lo ≤ g ∧ g < w.heap.size ∧ ¬ q g) ∧ ∀ z : World, (∀ g, p g → z.heap[g]? = w.heap[g]?) → P z

def noB (_ : Nat) : Prop := False
def isB (b g : Nat) : Prop := g = b

theorem Lie.here {lo : Nat} {q : Nat → Prop} {P : World → Prop} {w : World} (h : Lie lo q P w) : P w := by
  obtain ⟨p, _, h2⟩ := h
  exact h2 w (fun _ _ => rfl)
theorem Lie.keep {lo : Nat} {q q' : Nat → Prop} {P : World → Prop} {w z : World} (h : Lie lo q P w) (hs : w.heap.size ≤ z.heap.size) (hz : ∀ g, lo ≤ g → g < w.heap.size → ¬ q g → z.heap[g]? = w.heap[g]? ∧ ¬ q' g) : Lie lo q' P z := by
  obtain ⟨p, h1, h2⟩ := h
  exact ⟨p, fun g hg => ⟨(h1 g hg).1, Nat.lt_of_lt_of_le (h1 g hg).2.1 hs, (hz g (h1 g hg).1 (h1 g hg).2.1 (h1 g hg).2.2).2⟩, fun y hy => h2 y (fun g hg => (hy g hg).trans (hz g (h1 g hg).1 (h1 g hg).2.1 (h1 g hg).2.2).1)⟩
theorem Lie.below {lo : Nat} {q : Nat → Prop} {P : World → Prop} {w z : World} (h : Lie lo q P w) (hb : Below w.heap.size w z) : Lie lo q P z :=
  h.keep hb.size (fun g _ hg hq => ⟨hb.block g hg, hq⟩)
theorem Lie.mono {lo lo' : Nat} {q : Nat → Prop} {P : World → Prop} {w : World} (h : Lie lo q P w) (hl : lo' ≤ lo) : Lie lo' q P w := by
  obtain ⟨p, h1, h2⟩ := h
  exact ⟨p, fun g hg => ⟨Nat.le_trans hl (h1 g hg).1, (h1 g hg).2⟩, h2⟩
/-- A new block is none of them. -/
theorem Lie.fresh {lo : Nat} {P : World → Prop} {w : World} (h : Lie lo noB P w) (o : Obj) : Lie lo (isB w.heap.size) P (w.alloc o) :=
  h.keep (box_below w o).size (fun g _ hg _ => ⟨(box_below w o).block g hg, fun e => by unfold isB at e; omega⟩)
/-- What lies in new blocks does not lie in an old one. -/
theorem Lie.old {lo b : Nat} {P : World → Prop} {w : World} (h : Lie lo noB P w) (hb : b < lo) : Lie lo (isB b) P w := by
  obtain ⟨p, h1, h2⟩ := h
  exact ⟨p, fun g hg => ⟨(h1 g hg).1, (h1 g hg).2.1, fun e => by have := (h1 g hg).1; unfold isB at e; omega⟩, h2⟩
theorem Lie.but {lo b : Nat} {P : World → Prop} {w z : World} (h : Lie lo (isB b) P w) (hs : w.heap.size ≤ z.heap.size) (hz : ∀ g, g ≠ b → z.heap[g]? = w.heap[g]?) : Lie lo noB P z :=
  h.keep hs (fun g _ _ hq => ⟨hz g hq, id⟩)
theorem own_on {w w' : World} {base s n : Nat} {t : TypeId} {v : Value} {xs : List Value} (h : w.ownsRow base t s v n xs) (hs : ∀ b, v.ownBlock = some b → w'.heap[b]? = w.heap[b]?) : w'.ownsRow base t s v n xs := by
  obtain ⟨h1, h2⟩ := h
  refine ⟨h1, ?_⟩
  rcases h2 with h2 | ⟨g, cap, cur, rfl, hb, hg, h3⟩
  · exact Or.inl h2
  · exact Or.inr ⟨g, cap, cur, rfl, hb, (hs g rfl).trans hg, h3⟩

theorem ly_row {w : World} {b n lo : Nat} {t : TypeId} {f : Nat → Value} (h : w.rowIs b t n f) (hl : lo ≤ b) : Lie lo noB (fun z => z.rowIs b t n f) w :=
  ⟨fun g => g = b, fun g hg => by subst hg; exact ⟨hl, h.lt, id⟩, fun z hz => h.of_block (hz b rfl)⟩

theorem Fam.ly {w wr : World} {G : Nat} {T : Nat → List Int} {V : Nat → Value} (h : Fam w wr G T V) : Lie w.heap.size noB (fun z => Gc z (some ⟨w.heap.size, 0, none⟩) G (fun j => (T j).length) (fun j i => (T j).getD i 0)) wr := by
  refine ⟨fun g => g = w.heap.size ∨ ∃ j, j < G ∧ (V j).ownBlock = some g, fun g hg => ?_, fun z hz => ?_⟩
  · rcases hg with rfl | ⟨j, hj, hg⟩
    · exact ⟨Nat.le_refl _, h.top.lt, id⟩
    · have := (h.own j hj).lt g hg
      exact ⟨by omega, this.2, id⟩
  · have ht := h.top.of_block (hz _ (Or.inl rfl))
    refine ⟨w.heap.size, 0, fun _ => rfl, fun r hr => ?_⟩
    obtain ⟨a, c, hv, hrow, hn⟩ := owns_rown (own_on (h.own r hr) (fun b hb => hz b (Or.inr ⟨r, hr, hb⟩)))
    exact ⟨a, c, by rw [Nat.zero_add, ht.cell hr, hv], hrow, hn⟩

theorem Gng.ly {w wr : World} {n : Nat} {L : Nat → Nat} {Z : Nat → Nat → Int} {T : Nat → St3} {V : Nat → Value} (h : Gng w wr n n L Z T V) : Lie w.heap.size noB (fun z => Gc z (some ⟨w.heap.size, 0, none⟩) n (fun i => L (T i).2.2.toNat) (fun i => Z (T i).2.2.toNat)) wr := by
  refine ⟨fun g => g = w.heap.size ∨ ∃ j, j < n ∧ (V j).ownBlock = some g, fun g hg => ?_, fun z hz => ?_⟩
  · rcases hg with rfl | ⟨j, hj, hg⟩
    · exact ⟨Nat.le_refl _, h.top.lt, id⟩
    · have := (h.own j hj).lt g hg
      exact ⟨by omega, this.2, id⟩
  · have ht := h.top.of_block (hz _ (Or.inl rfl))
    refine ⟨w.heap.size, 0, fun _ => rfl, fun r hr => ?_⟩
    have h1 := own_on (h.own r hr) (fun b hb => hz b (Or.inr ⟨r, hr, hb⟩))
    have hl := lst_len (L (T r).2.2.toNat) (Z (T r).2.2.toNat)
    obtain ⟨a, c, hv, hrow, hn⟩ := owns_rown (l := lst (L (T r).2.2.toNat) (Z (T r).2.2.toNat)) (by rw [hl]; exact h1)
    rw [hl] at hv hn hrow
    refine ⟨a, c, by rw [Nat.zero_add, ht.cell hr, hv], ?_, hn⟩
    obtain ⟨b', o', h2, h3⟩ := hrow
    exact ⟨b', o', h2, fun i hi => by rw [h3 i hi]; show some (Value.int .i64 ((lst _ _).getD i 0)) = _; rw [lst_getD _ _ _ hi]⟩

end Go.Proofs.Ythpbgfodejoecaa
