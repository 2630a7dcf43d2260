/- The automata of pairs and of one fair set, as they are numbered: pure. -/
import Derived.Test.YtdncjikmknkkpabNmb
import Derived.Test.YtdncjikmknkkpabAut
namespace Go.Proofs.Ytdncjikmknkkpab
open Go.RowKit

/-- The thing of a number. -/
def nAt (L : List (Nat × Nat)) (i : Nat) : Nat × Nat := L.getD i (0, 0)
theorem nAt_mem {L : List (Nat × Nat)} {i : Nat} (h : i < L.length) : nAt L i ∈ L := by
  unfold nAt
  rw [List.getD_eq_getElem?_getD, List.getElem?_eq_getElem h]
  exact List.getElem_mem h
/-- The number of the set that is waited for behind a state. -/
def sNo (K : Nat) (fr : Nat → Nat → Bool) (p : Nat × Nat) : Nat := if 0 < K ∧ fr p.2 p.1 = true then (if p.2 + 1 = K then 0 else p.2 + 1) else p.2
/-- What a state with such a number leads to. -/
def sNx (K : Nat) (fr : Nat → Nat → Bool) (aN : Nat → List Nat) (p : Nat × Nat) : List (Nat × Nat) := (aN p.1).map fun x => (x, sNo K fr p)

end Go.Proofs.Ytdncjikmknkkpab

