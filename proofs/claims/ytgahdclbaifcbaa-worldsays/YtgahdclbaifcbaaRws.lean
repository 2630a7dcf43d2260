/- Rows of letters and of bools in memory; a word; what Check says of one. -/
import Derived.Deep.OwnRows
import Derived.Test.YtgahdclbaifcbaaLst
namespace Go.Proofs.Ytgahdclbaifcbaa
open Go.RowKit

/-- In w the slice at a, of n cells, holds the letters Z. -/
def RowU (w : World) (a : Option Addr) (n : Nat) (Z : Nat → Int) : Prop :=
  ∃ b o, (0 < n → a = some ⟨b, o, none⟩) ∧ ∀ i, i < n → w.cell? ⟨b, o + i, none⟩ = some (.int .u64 (Z i))

/-- .. the bools F. -/
def RowB (w : World) (a : Option Addr) (n : Nat) (F : Nat → Bool) : Prop :=
  ∃ b o, (0 < n → a = some ⟨b, o, none⟩) ∧ ∀ i, i < n → w.cell? ⟨b, o + i, none⟩ = some (.bool (F i))

theorem RowU.below {w w' : World} {a : Option Addr} {n : Nat} {Z : Nat → Int} (h : RowU w a n Z) (hb : Below w.heap.size w w') : RowU w' a n Z := by
  obtain ⟨b, o, h1, h2⟩ := h
  exact ⟨b, o, h1, fun i hi => below_cell hb (Nat.le_refl _) (h2 i hi)⟩
theorem RowB.below {w w' : World} {a : Option Addr} {n : Nat} {F : Nat → Bool} (h : RowB w a n F) (hb : Below w.heap.size w w') : RowB w' a n F := by
  obtain ⟨b, o, h1, h2⟩ := h
  exact ⟨b, o, h1, fun i hi => below_cell hb (Nat.le_refl _) (h2 i hi)⟩
/-- A word in memory. -/
structure Wd (w : World) (sa : Option Addr) (s : Nat) (la : Option Addr) (m : Nat) (S L : Nat → Int) : Prop where
  stem : RowU w sa s S
  loop : RowU w la m L
  s47 : s ≤ 140737488355328
  m47 : m ≤ 140737488355328
  su : ∀ i, i < s → 0 ≤ S i ∧ S i < 18446744073709551616
  lu : ∀ i, i < m → 0 ≤ L i ∧ L i < 18446744073709551616

/-- What Check says of a word. -/
def wchk (s m : Nat) : Int := if 60 < s + m then 2 else if m = 0 then 1 else 0

end Go.Proofs.Ytgahdclbaifcbaa

