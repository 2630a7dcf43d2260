/- Small things: literals in memory, slices.Equal at bools, slices.Clone, an append of nothing. -/
import Derived.Test.YtgahdclbaifcbaaScDistJ
import Derived.Test.YtgahdclbaifcbaaFamJ
namespace Go.Proofs.Ytgahdclbaifcbaa
open Go.RowKit

theorem Row.congr {w : World} {a : Option Addr} {n : Nat} {Y Z : Nat → Int} (h : Row w a n Y) (e : ∀ i, i < n → Y i = Z i) : Row w a n Z := by
  obtain ⟨b, o, ha, hc⟩ := h
  exact ⟨b, o, ha, fun i hi => by rw [← e i hi]; exact hc i hi⟩

/-- In w the slice at a, of n cells, holds the bools B. -/
def Rowb (w : World) (a : Option Addr) (n : Nat) (B : Nat → Bool) : Prop :=
  ∃ b o, (0 < n → a = some ⟨b, o, none⟩) ∧ ∀ i, i < n → w.cell? ⟨b, o + i, none⟩ = some (.bool (B i))

theorem Rowb.below {w w' : World} {a : Option Addr} {n : Nat} {B : Nat → Bool} (h : Rowb w a n B) (hb : Below w.heap.size w w') : Rowb w' a n B := by
  obtain ⟨b, o, ha, hc⟩ := h
  refine ⟨b, o, ha, fun i hi => ?_⟩
  rw [hb.cell (p := ⟨b, o + i, none⟩) (World.block_lt_of_cell? _ _ (hc i hi))]
  exact hc i hi

/-- The numbers as a list. -/
def lst (n : Nat) (Z : Nat → Int) : List Int := (List.range n).map Z
end Go.Proofs.Ytgahdclbaifcbaa

