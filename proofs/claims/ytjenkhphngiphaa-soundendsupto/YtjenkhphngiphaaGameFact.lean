/- Small functions, by their contracts. -/
import Derived.Test.YtjenkhphngiphaaSteps
namespace Go.Proofs.Ytjenkhphngiphaa
open Go.RowKit

theorem getD3_lt {l : List St3} {i : Nat} (h : i < l.length) : l.getD i (0, 0, 0) = l[i] := by simp [h]

theorem getD3_mem {l : List St3} {i : Nat} (h : i < l.length) : l.getD i (0, 0, 0) ∈ l := by rw [getD3_lt h]; exact List.getElem_mem h

theorem nodup_ne {l : List St3} (h : l.Nodup) {i j : Nat} (hi : i < j) (hj : j < l.length) : l.getD i (0, 0, 0) ≠ l.getD j (0, 0, 0) := by
  rw [getD3_lt (by omega), getD3_lt hj]
  exact List.pairwise_iff_getElem.1 (List.nodup_iff_pairwise_ne.1 h) i j (by omega) hj hi

theorem step_facts {K A B : Nat → Int} {F N : Nat} {t : St3} (h : t ∈ stAll K A B F N) : ∃ n : Nat, n < N ∧ t.1 = n ∧ (t.2.1 = -1 ∨ ∃ q : Nat, t.2.1 = q ∧ q < F ∧ B q = n) ∧ 0 ≤ t.2.2 ∧ t.2.2 < 2 ^ tally A n F := by
  obtain ⟨n, hn, h⟩ := mem_stAll.1 h
  refine ⟨n, hn, stK_node h, ?_, (stK_out h).1, (stK_out h).2⟩
  rcases stK_in h with h1 | h1
  · exact Or.inl h1
  · obtain ⟨q, h2, h3, h4⟩ := mem_fl h1
    exact Or.inr ⟨q, h2, h3, h4⟩

end Go.Proofs.Ytjenkhphngiphaa
