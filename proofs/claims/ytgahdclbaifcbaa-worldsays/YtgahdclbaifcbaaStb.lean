/- Whole sets by value: loads, stores; meet. -/
import Derived.Deep.WholeRow
import Derived.Deep.MidRow
import Derived.Test.YtgahdclbaifcbaaSta
namespace Go.Proofs.Ytgahdclbaifcbaa
open Go.RowKit

def cellsS (x : Nat → Nat) : Array Value := ((List.range 32).map fun i => Value.int .u64 (x i : Nat)).toArray

theorem cellsS_at (x : Nat → Nat) (i : Nat) (h : i < 32) : (cellsS x)[i]? = some (.int .u64 (x i : Nat)) := by
  unfold cellsS
  rw [List.getElem?_toArray, List.getElem?_map, List.getElem?_range h]
  rfl
theorem cellsS_size (x : Nat → Nat) : (cellsS x).size = 32 := by simp [cellsS]

/-- A set in a block of its own. -/
structure Bx (w : World) (b : Nat) (x : Nat → Nat) : Prop where
  blk : w.heap[b]? = some (.cells (cellsS x) 53)
  small : ∀ i, i < 32 → x i < 18446744073709551616

theorem Bx.st {w : World} {b : Nat} {x : Nat → Nat} (h : Bx w b x) : St w b 0 x :=
  ⟨fun i hi => by rw [Nat.zero_add]; exact cell_of_cells h.blk (cellsS_at x i hi), fun i _ => by simp [World.frozen?, h.blk], h.small⟩

theorem cellsS_upd (x : Nat → Nat) (i v : Nat) (h : i < 32) : (cellsS x).setIfInBounds i (.int .u64 (v : Nat)) = cellsS (upd x i v) := by
  apply Array.ext_getElem?
  intro j
  rw [Array.getElem?_setIfInBounds]
  by_cases hj : j < 32
  · rw [cellsS_at _ j hj]
    by_cases e : i = j
    · subst e
      rw [if_pos rfl, if_pos (by rw [cellsS_size]; exact h), cellsS_at _ _ hj]
      simp [upd]
    · have e' : ¬ j = i := fun k => e k.symm
      rw [if_neg e, cellsS_at _ j hj]
      simp [upd, e']
  · have e : ¬ i = j := by omega
    rw [if_neg e, Array.getElem?_eq_none (by rw [cellsS_size]; omega), Array.getElem?_eq_none (by rw [cellsS_size]; omega)]

theorem blk_setCell {w : World} {b i : Nat} {c : Array Value} {t : TypeId} {z : Nat × Nat} {v : Value} (h : w.heap[b]? = some (.cells c t z)) : (w.setCell ⟨b, i, none⟩ v).heap[b]? = some (.cells (c.setIfInBounds i v) t z) := by
  simp [World.setCell, Array.getElem?_modify, h]

theorem upd_small {x : Nat → Nat} {i v : Nat} (h : ∀ i, i < 32 → x i < 18446744073709551616) (hv : v < 18446744073709551616) : ∀ j, j < 32 → upd x i v j < 18446744073709551616 := by
  intro j hj
  unfold upd
  split
  · exact hv
  · exact h j hj

theorem Bx.set {w : World} {b : Nat} {x : Nat → Nat} (h : Bx w b x) {i v : Nat} (hi : i < 32) (hv : v < 18446744073709551616) : Bx (w.setCell ⟨b, i, none⟩ (.int .u64 (v : Nat))) b (upd x i v) :=
  ⟨by rw [blk_setCell h.blk, cellsS_upd x i v hi], upd_small h.small hv⟩
theorem Bx.drew {w : World} {b : Nat} {x : Nat → Nat} (h : Bx w b x) : Bx w.drew b x := ⟨h.blk, h.small⟩
theorem Bx.congr {w : World} {b : Nat} {x y : Nat → Nat} (h : Bx w b x) (e : ∀ i, i < 32 → x i = y i) : Bx w b y := by
  have : cellsS x = cellsS y := by
    unfold cellsS
    congr 1
    exact List.map_congr_left (fun i hi => by rw [e i (List.mem_range.1 hi)])
  exact ⟨by rw [← this]; exact h.blk, fun i hi => by rw [← e i hi]; exact h.small i hi⟩
theorem bx_new (w : World) (x : Nat → Nat) (h : ∀ i, i < 32 → x i < 18446744073709551616) : Bx (w.alloc (.cells (cellsS x) 53)) w.heap.size x := ⟨Go.Deep.blk_alloc_new _ _, h⟩

theorem zeroS : (#[.int .u64 0, .int .u64 0, .int .u64 0, .int .u64 0, .int .u64 0, .int .u64 0, .int .u64 0, .int .u64 0, .int .u64 0, .int .u64 0, .int .u64 0, .int .u64 0, .int .u64 0, .int .u64 0, .int .u64 0, .int .u64 0, .int .u64 0, .int .u64 0, .int .u64 0, .int .u64 0, .int .u64 0, .int .u64 0, .int .u64 0, .int .u64 0, .int .u64 0, .int .u64 0, .int .u64 0, .int .u64 0, .int .u64 0, .int .u64 0, .int .u64 0, .int .u64 0] : Array Value) = cellsS (fun _ => 0) := rfl

theorem or_small {x y : Nat} (h : x < 18446744073709551616) (k : y < 18446744073709551616) : x ||| y < 18446744073709551616 := Nat.or_lt_two_pow (n := 64) h k

theorem sadd_small {x : Nat → Nat} {s : Nat} (h : ∀ i, i < 32 → x i < 18446744073709551616) (hs : s < 2048) : ∀ i, i < 32 → sadd x s i < 18446744073709551616 :=
  upd_small h (or_small (h _ (by omega)) (pow_lt_64 (Nat.mod_lt _ (by decide))))
theorem upd_self (x : Nat → Nat) (i v : Nat) : upd x i v i = v := by simp [upd]

theorem bx_lt {w : World} {b : Nat} {x : Nat → Nat} (h : Bx w b x) : b < w.heap.size := (Array.getElem?_eq_some_iff.1 h.blk).1

end Go.Proofs.Ytgahdclbaifcbaa

