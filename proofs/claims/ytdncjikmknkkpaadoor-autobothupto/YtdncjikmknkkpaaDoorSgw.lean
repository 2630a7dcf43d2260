/- Single: what it has in memory. -/
import Derived.Deep.AppendLies
import Derived.Test.YtdncjikmknkkpaaDoorSgx
import Derived.Test.YtdncjikmknkkpaaDoorApp
namespace Go.Proofs.YtdncjikmknkkpaaDoor
open Go.RowKit Go.Shelf Go.Maps

/-- Words of 64 bits as cells. -/
def vu (M : Nat → Nat) (j : Nat) : List Value := (List.range j).map fun i => .int .u64 ((M i : Nat) : Int)
theorem vu_succ (M : Nat → Nat) (j : Nat) : vu M (j + 1) = vu M j ++ [.int .u64 ((M j : Nat) : Int)] := by simp [vu, List.range_succ]
theorem owns_rowU {w : World} {base : Nat} {v : Value} {M : Nat → Nat} {n : Nat} (h : w.ownsRow base 51 1 v n (vu M n)) : ∃ a c, v = .slice a n c ∧ RowU w a n (fun i => ((M i : Nat) : Int)) := by
  rcases h.2 with ⟨rfl, h0⟩ | ⟨g, cap, cur, rfl, hb, hg, _⟩
  · exact ⟨none, 0, by rw [h0], 0, 0, fun hh => by omega, fun i hi => by omega⟩
  · refine ⟨some ⟨g, 0, none⟩, cap, rfl, g, 0, fun _ => rfl, fun i hi => ?_⟩
    have := h.cells (g := g) rfl i (.int .u64 ((M i : Nat) : Int)) (by simp [vu, hi])
    rwa [Addr.add_mid] at this

theorem mem_ofL' {A : Ax} (h0 : chkA A = 0) {k x : Nat} (hk : k < A.K) : mem (ofL (A.FZ k) (A.FL k)) x = aFr A k x := by
  obtain ⟨hG, _, _, _, _, _, h1, _⟩ := chkA_ok h0
  exact mem_ofL x (fun i hi => by have := h1 k hk i hi; omega)

/-- A block that no list of words lies in. -/
def Oth (w0 W : World) (b : Nat) : Prop := b < w0.heap.size ∨ ∃ c t z, W.heap[b]? = some (.cells c t z) ∧ t ≠ 51

end Go.Proofs.YtdncjikmknkkpaaDoor

