/- The automata of pairs and of one fair set, as they are numbered: pure. -/
import Derived.Test.YtdncjikmknkkpaaNmb
import Derived.Test.YtdncjikmknkkpaaAut
namespace Go.Proofs.Ytdncjikmknkkpaa
open Go.RowKit

/-- The thing of a number. -/
def nAt (L : List (Nat × Nat)) (i : Nat) : Nat × Nat := L.getD i (0, 0)
theorem nAt_ix {L : List (Nat × Nat)} {x : Nat × Nat} (h : x ∈ L) : nAt L (ix x L) = x := by
  unfold nAt
  rw [List.getD_eq_getElem?_getD, ix_at h]
  rfl
theorem nAt_mem {L : List (Nat × Nat)} {i : Nat} (h : i < L.length) : nAt L i ∈ L := by
  unfold nAt
  rw [List.getD_eq_getElem?_getD, List.getElem?_eq_getElem h]
  exact List.getElem_mem h
/-- A list's numbers are those of its things. -/
theorem nums_at {L xs : List (Nat × Nat)} (h : ∀ x ∈ xs, x ∈ L) {i : Nat} : i ∈ nNums L xs → i < L.length ∧ nAt L i ∈ xs := by
  intro hi
  obtain ⟨x, hx, rfl⟩ := mem_nNums.1 hi
  exact ⟨ix_lt (h x hx), by rw [nAt_ix (h x hx)]; exact hx⟩

/-- The number of the set that is waited for behind a state. -/
def sNo (K : Nat) (fr : Nat → Nat → Bool) (p : Nat × Nat) : Nat := if 0 < K ∧ fr p.2 p.1 = true then (if p.2 + 1 = K then 0 else p.2 + 1) else p.2
/-- What a state with such a number leads to. -/
def sNx (K : Nat) (fr : Nat → Nat → Bool) (aN : Nat → List Nat) (p : Nat × Nat) : List (Nat × Nat) := (aN p.1).map fun x => (x, sNo K fr p)

end Go.Proofs.Ytdncjikmknkkpaa

