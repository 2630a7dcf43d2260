/- Graphs in memory; Graph, Check, Goes, EqualFunc, lists, each by its contract. -/
import Derived.Test.YtdncjikmknkkpaaLeaf
namespace Go.Proofs.Ytdncjikmknkkpaa
open Go.RowKit

/-- In w the slice at ga, of G cells, holds G rows: row r the numbers Z r, L r of them. -/
def Gr (w : World) (ga : Option Addr) (G : Nat) (L : Nat → Nat) (Z : Nat → Nat → Int) : Prop :=
  ∃ gb go, (0 < G → ga = some ⟨gb, go, none⟩) ∧ ∀ r, r < G → ∃ a c, w.cell? ⟨gb, go + r, none⟩ = some (.slice a (L r) c) ∧ Row w a (L r) (Z r)

theorem Row.below {w w' : World} {a : Option Addr} {n : Nat} {Z : Nat → Int} (h : Row w a n Z) (hb : Below w.heap.size w w') : Row w' a n Z := by
  obtain ⟨b, o, ha, hc⟩ := h
  refine ⟨b, o, ha, fun i hi => ?_⟩
  rw [hb.cell (p := ⟨b, o + i, none⟩) (World.block_lt_of_cell? _ _ (hc i hi))]
  exact hc i hi

theorem Gr.below {w w' : World} {ga : Option Addr} {G : Nat} {L : Nat → Nat} {Z : Nat → Nat → Int} (h : Gr w ga G L Z) (hb : Below w.heap.size w w') : Gr w' ga G L Z := by
  obtain ⟨b, o, ha, hc⟩ := h
  refine ⟨b, o, ha, fun r hr => ?_⟩
  obtain ⟨a, c, h1, h2⟩ := hc r hr
  refine ⟨a, c, ?_, h2.below hb⟩
  rw [hb.cell (p := ⟨b, o + r, none⟩) (World.block_lt_of_cell? _ _ h1)]
  exact h1

end Go.Proofs.Ytdncjikmknkkpaa

