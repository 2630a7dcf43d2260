/-    Each state of a process's world begins a fair way. There is an answer. What came in, opened: a graph, a list of numbers, a list of bools. -/
import Derived.Deep.LoopGhost
import Derived.Deep.Cut
import Derived.Deep.OwnRows
import Derived.Maps.AppendAt
import Derived.WalkKit
import Derived.WalkSpells
import Derived.WalkLawsBesides
import Derived.Deep.QuietTactic
import Derived.BigQuiet
import Derived.Below
import Derived.Deep.Heap
import Derived.RegionTactic
import Derived.Deep.Quiet
import Derived.Test.YthpbgfodejoecaaBfs
import Derived.Test.YthpbgfodejoecaaTurnJ
import Derived.Test.YthpbgfodejoecaaDist2
import Derived.Test.YthpbgfodejoecaaLeafJ
import Derived.Test.YthpbgfodejoecaaLast
import Derived.Test.YthpbgfodejoecaaReachJ
import Derived.Test.YthpbgfodejoecaaProc
import Derived.Test.YthpbgfodejoecaaProc2
import Derived.Test.YthpbgfodejoecaaWaysJ
import Derived.Laws.AppendOwnNone
import Derived.Lib.AppendZeros
import Derived.Deep.DrawnRows
import Derived.Deep.RegionHeld3
import Derived.Deep.WholeRow
import Derived.Deep.MidRow
import Derived.Laws.Bits64b
import Derived.Lib.TrailingZeros
import Derived.Deep.AppendLies
import Derived.Deep.CutRange
import Derived.Great.BuildSlice
import Derived.Maps.OwnIn
import Derived.Maps.OwnSet
import Derived.Maps.OwnOps
import Derived.DeepKeys4
import Derived.RangeFuncNested
import Derived.RangeFuncBound
import Derived.RangeFuncCalls
import Derived.RangeFuncLeaves
import Derived.Shelf.Abstract
import Derived.Shelf.RegionOpen
import Derived.OwnWalkIn
import Derived.TacticsInMore
import Derived.LoopNIn
import Derived.LoopIn
import Derived.Lib.SliceRun
import Derived.WalkSmall
import Derived.Deep.RegionHeld
import Derived.Deep.DeepCutAuto
import Derived.Test.YthpbgfodejoecaaRof
import Derived.Test.YthpbgfodejoecaaExpl2
import Derived.ProofKit
import Derived.OpenShut
import Derived.ShutString
import Derived.ChangeOld
import Derived.SizedLaws
import Derived.Deep.Matrix
/- number, by its contract; which numbers the parts get. -/
/- Lists of letters: append, Grow, Concat, Clone. -/
/- world.goingOn: in which parts one can go on. -/
namespace Go.Proofs.Ythpbgfodejoecaa
open Go.RowKit

/-- How many of the first n are their parts' least nodes. -/
def cs (ml : Nat → Nat) : Nat → Nat
  | 0 => 0
  | n + 1 => cs ml n + if ml n = n then 1 else 0

end Go.Proofs.Ythpbgfodejoecaa

namespace Go.Proofs.Ythpbgfodejoecaa
open Go.RowKit

theorem info_parts {P : Program} {e : TypeId} {z : Option Value} {s b : Nat} (h : (P.info? e).map (fun i => (i.zero, i.size, i.bytes)) = some (z, s, b)) : ∃ i, P.info? e = some i ∧ i.zero = z ∧ i.size = s ∧ i.bytes = b := by
  obtain ⟨i, hi, he⟩ := Option.map_eq_some_iff.1 h
  simp only [Prod.mk.injEq] at he
  exact ⟨i, hi, he⟩

end Go.Proofs.Ythpbgfodejoecaa

namespace Go.Proofs.Ythpbgfodejoecaa
open Go.RowKit

/-- A part in which one can go on, as far as the rows to k and j places of row k tell. -/
def On (L : Nat → Nat) (Z : Nat → Nat → Int) (p : Nat → Nat) (k j q : Nat) : Prop :=
  (∃ s, s < k ∧ ∃ i, i < L s ∧ p (Z s i).toNat = p s ∧ p s = q) ∨ ∃ i, i < j ∧ p (Z k i).toNat = p k ∧ p k = q

end Go.Proofs.Ythpbgfodejoecaa

namespace Go.Proofs.Ythpbgfodejoecaa
open Go.RowKit

theorem dgL_at {nx : List (List (Int × Int))} {t : St3} {j : Nat} (h : t ∈ dgL j (nx.getD j [])) : ∀ {G}, j < G → ∃ i, i < (dgs nx G).length ∧ rnT nx G i = t
  | 0, hj => by omega
  | G + 1, hj => by
    by_cases e : j = G
    · subst e
      obtain ⟨k, hk, ek⟩ := List.mem_iff_getElem.1 h
      refine ⟨(dgs nx j).length + k, by simp only [dgs, List.length_append]; omega, ?_⟩
      unfold rnT
      simp only [dgs]
      rw [List.getD_eq_getElem?_getD, List.getElem?_append_right (by omega), Nat.add_sub_cancel_left, List.getElem?_eq_getElem hk]
      exact ek
    · obtain ⟨i, h1, h2⟩ := dgL_at h (G := G) (by omega)
      refine ⟨i, by simp only [dgs, List.length_append]; omega, ?_⟩
      unfold rnT at h2 ⊢
      simp only [dgs]
      rw [List.getD_eq_getElem?_getD, List.getElem?_append_left h1]
      rw [List.getD_eq_getElem?_getD] at h2
      exact h2

section
variable {N F : Nat} {l : List St3} {marks : List (List Int)} {nx : List (List (Int × Int))}

end

end Go.Proofs.Ythpbgfodejoecaa

namespace Go.Proofs.Ythpbgfodejoecaa
open Go.RowKit Go.Maps

theorem chk_ex (N F : Nat) (M : Nat → ByteArray) (K A B : Nat → Int) : ∃ e, ChkIs N F M K A B e := by
  unfold ChkIs
  by_cases h1 : 20 < N ∨ 30 < F
  · exact ⟨2, Or.inl ⟨h1, rfl⟩⟩
  · have h1' : N ≤ 20 ∧ F ≤ 30 := by omega
    by_cases h2 : nodesErr M K N = 0
    · by_cases h3 : endsOk N F A B = true ∧ tally K 1 N = 1 ∧ fitAll N F K A B = true
      · by_cases h4 : allCome N F K A B
        · exact ⟨0, Or.inr ⟨h1', Or.inr ⟨h2, Or.inr ⟨h3, Or.inr ⟨h4, rfl⟩⟩⟩⟩⟩
        · exact ⟨6, Or.inr ⟨h1', Or.inr ⟨h2, Or.inr ⟨h3, Or.inl ⟨h4, rfl⟩⟩⟩⟩⟩
      · exact ⟨1, Or.inr ⟨h1', Or.inr ⟨h2, Or.inl ⟨h3, rfl⟩⟩⟩⟩
    · exact ⟨_, Or.inr ⟨h1', Or.inl ⟨h2, rfl⟩⟩⟩

theorem xok_ex (K A B : Nat → Int) (F : Nat) (l : List St3) : ∃ X, XOk K A B F l X :=
  ⟨fun m i => @ite Int (enb K A B F (fnl m) (l.getD i (0, 0, 0))) (Classical.propDecidable _) 1 0, fun m i => by simp⟩

end Go.Proofs.Ythpbgfodejoecaa

namespace Go.Proofs.Ythpbgfodejoecaa
open Go.ChangeShapes Go.WideShapes Go.ChangeAt Go.RowKit Go.Deep

theorem Try.own : ownKnob Try.prog.godebug = none := by kernel_rfl
theorem Try.laidOut : laidOutB Try.prog = true := by kernel_rfl
theorem Try.cells3 : Try.prog.cellsOf 3 = 1 := by kernel_rfl
theorem reach_eq : reachBytes = 140737488351232 := rfl

theorem add_none (b o k : Nat) : (⟨b, o, none⟩ : Addr).add k = ⟨b, o + k, none⟩ := by
  unfold Addr.add
  split <;> simp_all

section
variable {H : Type} {enc : TypeId × Value → H} {W : World} {held : Bool}

end
theorem weights_le {H : Type} {P : Program} {ts : List TypeId} {ds : List (DataW H)} (h : (DataW.weightsEach P ts ds).all (· ≤ reachBytes) = true) {j : Nat} {t : TypeId} {d : DataW H}
    (ht : ts[j]? = some t) (hd : ds[j]? = some d) : ∀ n ∈ d.weights P t, n ≤ reachBytes :=
  fun _ hn => of_decide_eq_true (List.all_eq_true.1 h _ (DataW.weights_mem_each ht hd _ hn))

end Go.Proofs.Ythpbgfodejoecaa
