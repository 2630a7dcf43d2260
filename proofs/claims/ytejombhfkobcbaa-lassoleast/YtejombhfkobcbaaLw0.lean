/- The document's least word: what its walk wants of memory. -/
import Derived.Test.YtejombhfkobcbaaSamB
import Derived.Test.YtejombhfkobcbaaLwP
namespace Go.Proofs.Ytejombhfkobcbaa
open Go.RowKit

theorem grown_cell {w w' : World} {k : Option Nat} (h : w.grownBy w' k) {p : Addr} {v : Value} (hv : w.cell? p = some v) (hk : k ≠ some p.block) : w'.cell? p = some v := by
  rw [World.cell?_of_block (h.block _ (World.block_lt_of_cell? _ _ hv) (fun e => hk e.symm))]
  exact hv

theorem one_set0 {w : World} {x : Nat} {u v : Value} {t : TypeId} (h : w.heap[x]? = some (.cells #[u, v] t (0, 0))) (a : Value) : (w.setCell ⟨x, 0, none⟩ a).heap[x]? = some (.cells #[a, v] t (0, 0)) := by
  simp [World.setCell, Array.getElem?_modify, h]
theorem one_set1 {w : World} {x : Nat} {u v : Value} {t : TypeId} (h : w.heap[x]? = some (.cells #[u, v] t (0, 0))) (a : Value) : (w.setCell ⟨x, 1, none⟩ a).heap[x]? = some (.cells #[u, a] t (0, 0)) := by
  simp [World.setCell, Array.getElem?_modify, h]

theorem row_one (w : World) (x : Int) : RowU (w.alloc (.cells #[.int .u64 x] 34)) (some ⟨w.heap.size, 0, none⟩) 1 (fun _ => x) :=
  ⟨w.heap.size, 0, fun _ => rfl, fun i hi => by
    obtain rfl : i = 0 := by omega
    exact cell_of_alloc rfl⟩

theorem lst_snoc (k : Nat) (Z : Nat → Int) : lstU k Z ++ lstU 1 (fun _ => Z k) = lstU (k + 1) Z := by
  unfold lstU
  rw [List.range_succ (n := k), List.map_append]
  rfl

/-- Behind an append to a list of the call's own, blocks below the list's lie as they lay. -/
theorem app_done {wr y2 y3 : World} {base b6 n k : Nat} {v v' va vb : Value} {l l' : List Value} {t : TypeId} (h6 : wr.heap[b6]? = some (.cells #[va, vb] t (0, 0))) (ho : wr.ownsRow base 34 1 v n l) (hb : b6 < base) (hB : Below wr.heap.size wr y2) (_hown : y3.ownsRow base 34 1 v' k l') (hg : y2.grownBy y3 v.ownBlock) :
    (∀ q, q < base → v.ownBlock ≠ some q) ∧ y3.heap[b6]? = some (.cells #[va, vb] t (0, 0)) ∧ y2.heap.size ≤ y3.heap.size ∧ (∀ q, q < base → q < wr.heap.size → y3.heap[q]? = wr.heap[q]?) ∧ (∀ q o, v.ownBlock = some q → y3.heap[q]? = o → base ≤ q) := by
  have h1 : ∀ q, q < base → v.ownBlock ≠ some q := fun q hq e => by have := (ho.lt q e).1; omega
  have h2 : ∀ q, q < base → q < wr.heap.size → y3.heap[q]? = wr.heap[q]? := fun q hq hs => (hg.block q (Nat.lt_of_lt_of_le hs hB.size) (fun e => h1 q hq e.symm)).trans (hB.block q hs)
  exact ⟨h1, (h2 b6 hb (Array.getElem?_eq_some_iff.1 h6).1).trans h6, hg.size, h2, fun q _ e _ => (ho.lt q e).1⟩

theorem RowU.frame {w w' : World} {a : Option Addr} {n : Nat} {Z : Nat → Int} (h : RowU w a n Z) (hf : ∀ y, a = some y → y.block < w.heap.size → w'.heap[y.block]? = w.heap[y.block]?) : RowU w' a n Z := by
  obtain ⟨b, o, h1, h2⟩ := h
  refine ⟨b, o, h1, fun i hi => ?_⟩
  have hv := h2 i hi
  have hs : b < w.heap.size := World.block_lt_of_cell? _ _ hv
  have he : w'.heap[b]? = w.heap[b]? := hf _ (h1 (by omega)) hs
  rw [World.cell?_of_block (w := w) he]
  exact hv

theorem owns_frame {w w' : World} {base n : Nat} {e : TypeId} {v : Value} {xs : List Value} (h : w.ownsRow base e 1 v n xs) (hb : ∀ q, v.ownBlock = some q → w'.heap[q]? = w.heap[q]?) : w'.ownsRow base e 1 v n xs := by
  refine ⟨h.1, ?_⟩
  rcases h.2 with h0 | ⟨g, cap, cur, h1, h2, h3, h4⟩
  · exact Or.inl h0
  · exact Or.inr ⟨g, cap, cur, h1, h2, (hb g (by rw [h1]; rfl)).trans h3, h4⟩

theorem set_other {w : World} {x q j : Nat} {v : Value} (h : q ≠ x) : (w.setCell ⟨x, j, none⟩ v).heap[q]? = w.heap[q]? := Go.Deep.blk_setCell_other _ _ _ _ h

/-- What holds while the letters are held against each other. -/
def Cmp (f g : Nat → Int) (M : Nat) (z : World) (s i : Value) (wr : World) : Prop :=
  ∃ (k : Nat) (sm : Bool), k ≤ M ∧ s = .bool sm ∧ i = .int .i64 k ∧ (sm = true → ∀ j, j < k → f j = g j) ∧ (sm = false → ∃ j, j < M ∧ f j ≠ g j) ∧ Below z.heap.size z wr

end Go.Proofs.Ytejombhfkobcbaa
