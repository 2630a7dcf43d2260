/- A slice of one set is built; an append as one operation. -/
import Derived.Test.YtdncjikmknkkpaaDoorAcf
import Derived.Great.BuildSlice
namespace Go.Proofs.YtdncjikmknkkpaaDoor
open Go.RowKit

theorem fold_set : ∀ (l : List Value) (o : Nat) (cs : Array Value), o + l.length ≤ cs.size → ((l.zipIdx o).foldl (fun cs p => cs.setIfInBounds p.2 p.1) cs).size = cs.size ∧ ∀ j, ((l.zipIdx o).foldl (fun cs p => cs.setIfInBounds p.2 p.1) cs)[j]? = if o ≤ j ∧ j < o + l.length then l[j - o]? else cs[j]?
  | [], o, cs, _ => ⟨rfl, fun j => by simp; intro h1 h2; omega⟩
  | v :: l, o, cs, h => by
    simp only [List.length_cons] at h
    obtain ⟨h1, h2⟩ := fold_set l (o + 1) (cs.setIfInBounds o v) (by simp; omega)
    rw [List.zipIdx_cons, List.foldl_cons]
    refine ⟨by rw [h1]; simp, fun j => ?_⟩
    rw [h2 j]
    by_cases e : j = o
    · subst e
      rw [if_neg (by omega), if_pos (by simp), Array.getElem?_setIfInBounds, if_pos rfl, if_pos (by omega), Nat.sub_self]
      rfl
    · by_cases e2 : o + 1 ≤ j ∧ j < o + 1 + l.length
      · rw [if_pos e2, if_pos (by simp only [List.length_cons]; omega), show j - o = j - (o + 1) + 1 by omega]
        rfl
      · rw [if_neg e2, if_neg (by simp only [List.length_cons]; omega), Array.getElem?_setIfInBounds, if_neg (fun h => e h.symm)]

theorem foldS (x : Nat → Nat) (cs : Array Value) (hc : cs.size = 32) : Array.foldl (fun cs p => cs.setIfInBounds p.2 p.1) cs (cellsS x).zipIdx 0 (cellsS x).size = cellsS x := by
  have hs : (cellsS x).size = (cellsS x).zipIdx.size := by simp
  rw [hs, ← Array.foldl_toList, Array.toList_zipIdx]
  obtain ⟨h1, h2⟩ := fold_set (cellsS x).toList 0 cs (by simp [cellsS_size, hc])
  apply Array.ext_getElem?
  intro j
  rw [h2 j]
  by_cases hj : j < 32
  · rw [if_pos (by simp [cellsS_size]; exact hj)]
    simp
  · rw [if_neg (by simp [cellsS_size]; omega), Array.getElem?_eq_none (by rw [hc]; omega), Array.getElem?_eq_none (by rw [cellsS_size]; omega)]

theorem op_build {o : Oper} {a : Act} {w : World} {K : Act → World → Prop} {Q : Exit → Act → World → Prop} (x : Operand) (ho : o.op = .buildSlice 47 1 #[(0, x)]) (z : Nat → Nat) (hx : a.eval x = .agg (cellsS z))
    (h : K (a.put o.dst (.slice (some ⟨w.heap.size, 0, none⟩) 1 1)) (w.alloc (.cells (cellsS z) 53))) : o.wp Tryd.prog a w K Q := by
  obtain ⟨i0, hi, hz0, hz1, hz2⟩ := info_parts Tryd.infoS
  refine wp_buildSlice 47 53 1 #[(0, x)] ho (cellsS z) i0 (.agg (cellsS (fun _ => 0))) Tryd.underlying47 hi hz0 (by rw [hz1]; decide) (by rw [hz1]; decide) ?_ h
  simp only [List.map_toArray, List.map_cons, List.map_nil, hx, hz1]
  obtain ⟨cs, hcs, hc⟩ : ∃ cs : Array Value, Array.map (fun x => (Value.agg (cellsS fun _ => 0)).cells[x % (Value.agg (cellsS fun _ => 0)).cells.size]!) (Array.range (1 * 32)) = cs ∧ cs.size = 32 := ⟨_, rfl, by simp⟩
  rw [hcs]
  have e := foldS z cs hc
  have hv : (Value.agg (cellsS z)).cells = cellsS z := rfl
  simp only [Instr.fill, hv, cellsS_size, hc, Nat.zero_mul, Nat.zero_add]

  rw [if_neg (by simp)]
  simpa using e

end Go.Proofs.YtdncjikmknkkpaaDoor
