
import Derived.Great.BuildSlice
import Derived.RangeFuncNested
import Derived.RangeFuncBound
import Derived.RangeFuncCalls
import Derived.RangeFuncLeaves
import Derived.Shelf.Abstract
import Derived.Shelf.RegionOpen
import Derived.OwnWalkIn
import Derived.TacticsInMore
import Derived.LoopNIn
import Derived.LoopIn
import Derived.Lib.SliceRun
import Derived.WalkSmall
import Derived.Deep.AppendLies
import Derived.Deep.RegionHeld3
import Derived.Deep.WholeRow
import Derived.Deep.MidRow
import Derived.Laws.Bits64b
import Derived.Lib.TrailingZeros
import Derived.Deep.OwnRows
import Derived.Maps.AppendAt
import Derived.Test.YtmdpbaobihdgkaaGreatDoorRows
import Derived.WalkKit
import Derived.WalkSpells
import Derived.WalkLawsBesides
import Derived.Deep.QuietTactic
import Derived.BigQuiet
import Derived.Below
import Derived.Deep.Heap
import Derived.Deep.RegionHeld
import Derived.Test.YtmdpbaobihdgkaaGreatDoorRwsJ
import Derived.Test.YtmdpbaobihdgkaaGreatDoorBaseJ
import Derived.Test.YtmdpbaobihdgkaaGreatDoorPshJ
import Derived.Test.YtmdpbaobihdgkaaGreatDoorTeaJ
import Derived.Test.YtmdpbaobihdgkaaGreatDoorWk
import Derived.Test.YtmdpbaobihdgkaaGreatDoorMkfJ
import Derived.Test.YtmdpbaobihdgkaaGreatDoorAAcf
/- A slice of one set is built; an append as one operation. -/
namespace Go.Proofs.YtmdpbaobihdgkaaGreatDoor
open Go.RowKit

theorem fold_set : ∀ (l : List Value) (o : Nat) (cs : Array Value), o + l.length ≤ cs.size → ((l.zipIdx o).foldl (fun cs p => cs.setIfInBounds p.2 p.1) cs).size = cs.size ∧ ∀ j, ((l.zipIdx o).foldl (fun cs p => cs.setIfInBounds p.2 p.1) cs)[j]? = if o ≤ j ∧ j < o + l.length then l[j - o]? else cs[j]?
  | [], o, cs, _ => ⟨rfl, fun j => by simp; intro h1 h2; omega⟩
  | v :: l, o, cs, h => by
    simp only [List.length_cons] at h
    obtain ⟨h1, h2⟩ := fold_set l (o + 1) (cs.setIfInBounds o v) (by simp; omega)
    rw [List.zipIdx_cons, List.foldl_cons]
    refine ⟨by rw [h1]; simp, fun j => ?_⟩
    rw [h2 j]
    by_cases e : j = o
    · subst e
      rw [if_neg (by omega), if_pos (by simp), Array.getElem?_setIfInBounds, if_pos rfl, if_pos (by omega), Nat.sub_self]
      rfl
    · by_cases e2 : o + 1 ≤ j ∧ j < o + 1 + l.length
      · rw [if_pos e2, if_pos (by simp only [List.length_cons]; omega), show j - o = j - (o + 1) + 1 by omega]
        rfl
      · rw [if_neg e2, if_neg (by simp only [List.length_cons]; omega), Array.getElem?_setIfInBounds, if_neg (fun h => e h.symm)]

theorem foldS (x : Nat → Nat) (cs : Array Value) (hc : cs.size = 32) : Array.foldl (fun cs p => cs.setIfInBounds p.2 p.1) cs (cellsS x).zipIdx 0 (cellsS x).size = cellsS x := by
  have hs : (cellsS x).size = (cellsS x).zipIdx.size := by simp
  rw [hs, ← Array.foldl_toList, Array.toList_zipIdx]
  obtain ⟨h1, h2⟩ := fold_set (cellsS x).toList 0 cs (by simp [cellsS_size, hc])
  apply Array.ext_getElem?
  intro j
  rw [h2 j]
  by_cases hj : j < 32
  · rw [if_pos (by simp [cellsS_size]; exact hj)]
    simp
  · rw [if_neg (by simp [cellsS_size]; omega), Array.getElem?_eq_none (by rw [hc]; omega), Array.getElem?_eq_none (by rw [cellsS_size]; omega)]

theorem op_build {o : Oper} {a : Act} {w : World} {K : Act → World → Prop} {Q : Exit → Act → World → Prop} (x : Operand) (ho : o.op = .buildSlice 64 1 #[(0, x)]) (z : Nat → Nat) (hx : a.eval x = .agg (cellsS z))
    (h : K (a.put o.dst (.slice (some ⟨w.heap.size, 0, none⟩) 1 1)) (w.alloc (.cells (cellsS z) 69))) : o.wp Tryz.prog a w K Q := by
  obtain ⟨i0, hi, hz0, hz1, hz2⟩ := info_parts Tryz.infoS
  refine wp_buildSlice 64 69 1 #[(0, x)] ho (cellsS z) i0 (.agg (cellsS (fun _ => 0))) Tryz.underlying64 hi hz0 (by rw [hz1]; decide) (by rw [hz1]; decide) ?_ h
  simp only [List.map_toArray, List.map_cons, List.map_nil, hx, hz1]
  obtain ⟨cs, hcs, hc⟩ : ∃ cs : Array Value, Array.map (fun x => (Value.agg (cellsS fun _ => 0)).cells[x % (Value.agg (cellsS fun _ => 0)).cells.size]!) (Array.range (1 * 32)) = cs ∧ cs.size = 32 := ⟨_, rfl, by simp⟩
  rw [hcs]
  have e := foldS z cs hc
  have hv : (Value.agg (cellsS z)).cells = cellsS z := rfl
  simp only [Instr.fill, hv, cellsS_size, hc, Nat.zero_mul, Nat.zero_add]

  rw [if_neg (by simp)]
  simpa using e

end Go.Proofs.YtmdpbaobihdgkaaGreatDoor
