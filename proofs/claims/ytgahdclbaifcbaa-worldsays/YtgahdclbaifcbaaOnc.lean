/- Lists without what comes again; all states. -/
import Derived.Test.YtgahdclbaifcbaaNmb
import Derived.Test.YtgahdclbaifcbaaFai
import Derived.Test.YtgahdclbaifcbaaLst
import Derived.Test.YtgahdclbaifcbaaAcf
namespace Go.Proofs.Ytgahdclbaifcbaa
open Go.RowKit

def cs (l : List Nat) : List Int := l.map (fun s : Nat => (s : Int))
theorem cs_len (l : List Nat) : (cs l).length = l.length := by simp [cs]
theorem cs_snoc (l : List Nat) (x : Nat) : cs (l ++ [x]) = cs l ++ [(x : Int)] := by simp [cs]
/-- Numbers, each once. -/
def onN (Z : Nat → Int) (k : Nat) : List Nat := nAdds [] ((List.range k).map fun i => (Z i).toNat)
theorem onN_succ (Z : Nat → Int) (k : Nat) : onN Z (k + 1) = nAdd (onN Z k) (Z k).toNat := by
  unfold onN
  rw [List.range_succ, List.map_append]
  exact nAdds_snoc _ _ _
theorem mem_onN {Z : Nat → Int} {k x : Nat} : x ∈ onN Z k ↔ ∃ i, i < k ∧ (Z i).toNat = x := by
  unfold onN
  rw [mem_nAdds, List.mem_map]
  simp
theorem onN_nodup (Z : Nat → Int) (k : Nat) : (onN Z k).Nodup := nAdds_nodup _ List.nodup_nil
theorem onN_lt {Z : Nat → Int} {k : Nat} (h : ∀ i, i < k → 0 ≤ Z i ∧ Z i < 2048) : ∀ x ∈ onN Z k, x < 2048 := by
  intro x hx
  obtain ⟨i, hi, rfl⟩ := mem_onN.1 hx
  have := h i hi
  omega
theorem onN_len {Z : Nat → Int} {k : Nat} (h : ∀ i, i < k → 0 ≤ Z i ∧ Z i < 2048) : (onN Z k).length ≤ 2048 := by
  have := nodup_le (U := List.range 2048) (onN_nodup Z k) (fun x hx => List.mem_range.2 (onN_lt h x hx))
  simpa using this

/-- An own list of numbers has grown by one. -/
theorem ints_grow {w wr w1 : World} {base : Nat} {v v' : Value} {l : List Int} {x : Int} {o : Obj} (hb : Below w.heap.size w wr) (hbase : w.heap.size ≤ base) (ho : wr.ownsRow base 3 1 v l.length (vals l))
    (hown : w1.ownsRow base 3 1 v' (l.length + 1) (vals l ++ [.int .i64 x])) (hgrow : (wr.alloc o).grownBy w1 v.ownBlock) :
    Below w.heap.size w w1 ∧ w1.ownsRow base 3 1 v' (l ++ [x]).length (vals (l ++ [x])) ∧ ∀ b, b < base → b < wr.heap.size → w1.heap[b]? = wr.heap[b]? := by
  have hg := (World.grownBy_alloc wr o v.ownBlock).trans hgrow
  refine ⟨hb.grown hg hb.size (fun k hk => Nat.le_trans hbase (ho.lt k hk).1), ?_, fun b h1 h2 => hg.block b h2 (fun e => by have := (ho.lt b e.symm).1; omega)⟩
  have : (l ++ [x]).length = l.length + 1 := by simp
  rw [this, ← vals_snoc]
  exact hown

theorem Bx.of_block {w w' : World} {b : Nat} {x : Nat → Nat} (h : Bx w b x) (e : w'.heap[b]? = w.heap[b]?) : Bx w' b x := ⟨by rw [e]; exact h.blk, h.small⟩

end Go.Proofs.Ytgahdclbaifcbaa

