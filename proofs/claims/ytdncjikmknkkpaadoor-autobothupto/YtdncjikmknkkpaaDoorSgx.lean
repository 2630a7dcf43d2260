/- The closures of Single; where. -/
import Derived.Test.YtdncjikmknkkpaaDoorSgP
namespace Go.Proofs.YtdncjikmknkkpaaDoor
open Go.RowKit Go.Shelf Go.Maps

theorem box2 (w : World) (x y : Value) (t : TypeId) : ∃ W, w.alloc (.cells #[x, y] t) = W ∧ Below w.heap.size w W ∧ W.heap.size = w.heap.size + 1 ∧ W.cell? ⟨w.heap.size, 0, none⟩ = some x ∧ W.cell? ⟨w.heap.size, 1, none⟩ = some y :=
  ⟨_, rfl, box_below _ _, by simp, cell_of_alloc rfl, cell_of_alloc rfl⟩

theorem onN_le {Z : Nat → Int} {k G : Nat} (hG : G ≤ 2048) (h : ∀ i, i < k → 0 ≤ Z i ∧ Z i < G) : (onN Z k).length ≤ 2048 := onN_len (fun i hi => by have := h i hi; omega)
theorem aNx_len {A : Ax} (h : chkA A = 0) (q : Nat) : (aNx A q).length ≤ 2048 := by
  obtain ⟨hG, _, _, _, _, h1, _⟩ := chkA_ok h
  unfold aNx
  by_cases hq : q < A.G
  · rw [if_pos hq]; exact onN_le hG (h1 q hq)
  · rw [if_neg hq]; simp
theorem aSt_len {A : Ax} (h : chkA A = 0) : (aSt A).length ≤ 2048 := by
  obtain ⟨hG, _, _, _, h1, _⟩ := chkA_ok h
  exact onN_le hG h1

end Go.Proofs.YtdncjikmknkkpaaDoor

