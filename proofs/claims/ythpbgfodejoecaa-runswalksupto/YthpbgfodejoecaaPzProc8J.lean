/-    -/
import Derived.Deep.AppendLies
import Derived.Deep.RegionLaw
import Derived.Deep.RegionHeld3
import Derived.RegionTactic
import Derived.Deep.OwnRows
import Derived.Maps.AppendAt
import Derived.WalkKit
import Derived.WalkSpells
import Derived.WalkLawsBesides
import Derived.Deep.QuietTactic
import Derived.BigQuiet
import Derived.Deep.Quiet
import Derived.Test.YthpbgfodejoecaaBfs
import Derived.Test.YthpbgfodejoecaaTurnJ
import Derived.Test.YthpbgfodejoecaaDist2
import Derived.Test.YthpbgfodejoecaaExpl
import Derived.Test.YthpbgfodejoecaaExpl2
import Derived.Test.YthpbgfodejoecaaLeafJ
import Derived.Test.YthpbgfodejoecaaGame
import Derived.Test.YthpbgfodejoecaaHeldJ
import Derived.Test.YthpbgfodejoecaaGameEnJ
import Derived.Test.YthpbgfodejoecaaGameFace
import Derived.Test.YthpbgfodejoecaaGameFire
import Derived.Test.YthpbgfodejoecaaGameLay
import Derived.Test.YthpbgfodejoecaaGameMay
import Derived.Test.YthpbgfodejoecaaGameStep
import Derived.Test.YthpbgfodejoecaaGameWalk
import Derived.Test.YthpbgfodejoecaaLast
import Derived.Test.YthpbgfodejoecaaReachJ
import Derived.Test.YthpbgfodejoecaaWScNumberJ
import Derived.Test.YthpbgfodejoecaaProc
import Derived.Test.YthpbgfodejoecaaProc2
import Derived.Test.YthpbgfodejoecaaProc3
import Derived.Test.YthpbgfodejoecaaProc4
import Derived.Test.YthpbgfodejoecaaProc5
import Derived.Test.YthpbgfodejoecaaSndLeafJ
import Derived.Test.YthpbgfodejoecaaProc7
import Derived.Test.YthpbgfodejoecaaSpExpl
import Derived.Test.YthpbgfodejoecaaSpFaceJ
import Derived.Test.YthpbgfodejoecaaSpKey
import Derived.Test.YthpbgfodejoecaaSpMem
import Derived.Test.YthpbgfodejoecaaSpRev
import Derived.Test.YthpbgfodejoecaaSpSpread
import Derived.Test.YthpbgfodejoecaaSteps
import Derived.Test.YthpbgfodejoecaaStepsLeaf
import Derived.Test.YthpbgfodejoecaaStepsOf
import Derived.Test.YthpbgfodejoecaaStepsOf2
import Derived.Laws.AppendOwnNone
import Derived.Laws.BitsLemmas
/- The law ProcFlows: its closures, the straight process, sums. -/
/- The board of a process; isMarking, begin. -/
/- fire. -/
namespace Go.Proofs.Ythpbgfodejoecaa
open Go.RowKit

def sMs (i : Nat) : ByteArray := if i = 0 then ⟨#[97]⟩ else if i = 1 then ⟨#[98]⟩ else ⟨#[99]⟩
def sKs (i : Nat) : Int := if i = 0 then 1 else if i = 1 then 4 else 2
def sAs (i : Nat) : Int := if i = 0 then 0 else 1
def sBs (i : Nat) : Int := if i = 0 then 1 else 2

theorem straight_nodes : nodesErr sMs sKs 3 = 0 := by
  have n0 : nameOk (sMs 0) = true := by simp [nameOk, sMs, ByteArray.toList_eq]; decide
  have n1 : nameOk (sMs 1) = true := by simp [nameOk, sMs, ByteArray.toList_eq]; decide
  have n2 : nameOk (sMs 2) = true := by simp [nameOk, sMs, ByteArray.toList_eq]; decide
  have f0 : fnd 0 sMs (sMs 0) = -1 := fnd_none (fun j hj => by omega)
  have f1 : fnd 1 sMs (sMs 1) = -1 := fnd_none (fun j hj => by
    obtain rfl : j = 0 := by omega
    simp [sMs, ByteArray.toList_eq])
  have f2 : fnd 2 sMs (sMs 2) = -1 := fnd_none (fun j hj => by
    match j, hj with
    | 0, _ => simp [sMs, ByteArray.toList_eq]
    | 1, _ => simp [sMs, ByteArray.toList_eq])
  have e1 : nodesErr sMs sKs 1 = 0 := by rw [nodesErr_next rfl, if_pos ⟨n0, by decide⟩, if_pos f0]
  have e2 : nodesErr sMs sKs 2 = 0 := by rw [nodesErr_next e1, if_pos ⟨n1, by decide⟩, if_pos f1]
  rw [nodesErr_next e2, if_pos ⟨n2, by decide⟩, if_pos f2]

theorem straight_come : allCome 3 2 sKs sAs sBs := by
  have w0 : Wk (fun s => s < 3 ∧ sKs s = 1) (fun x y => ∃ i, i < 2 ∧ sAs i = x ∧ sBs i = y) 0 0 := ⟨by omega, rfl⟩
  have w1 : Wk (fun s => s < 3 ∧ sKs s = 1) (fun x y => ∃ i, i < 2 ∧ sAs i = x ∧ sBs i = y) 1 1 := ⟨0, w0, 0, by omega, rfl, rfl⟩
  have w2 : Wk (fun s => s < 3 ∧ sKs s = 1) (fun x y => ∃ i, i < 2 ∧ sAs i = x ∧ sBs i = y) 2 2 := ⟨1, w1, 1, by omega, rfl, rfl⟩
  intro x hx
  match x, hx with
  | 0, _ => exact ⟨0, w0⟩
  | 1, _ => exact ⟨1, w1⟩
  | 2, _ => exact ⟨2, w2⟩

theorem straight_chk : ChkIs 3 2 sMs sKs sAs sBs 0 :=
  Or.inr ⟨⟨by omega, by omega⟩, Or.inr ⟨straight_nodes, Or.inr ⟨⟨by decide, by decide, by decide⟩, Or.inr ⟨straight_come, rfl⟩⟩⟩⟩

theorem straight_prc (w : World) (o : Obj) : Prc (((w.alloc o).alloc (.cells #[.string ⟨#[97]⟩, .int .i64 1, .string ⟨#[98]⟩, .int .i64 4, .string ⟨#[99]⟩, .int .i64 2] 84)).alloc (.cells #[.int .i64 0, .int .i64 1, .int .i64 1, .int .i64 2] 86))
    (some ⟨w.heap.size + 1, 0, none⟩) 3 3 (some ⟨w.heap.size + 1 + 1, 0, none⟩) 2 sMs sKs sAs sBs := by
  have e1 : (w.alloc o).heap.size = w.heap.size + 1 := by simp
  have hn : (((w.alloc o).alloc (.cells #[.string ⟨#[97]⟩, .int .i64 1, .string ⟨#[98]⟩, .int .i64 4, .string ⟨#[99]⟩, .int .i64 2] 84)).alloc (.cells #[.int .i64 0, .int .i64 1, .int .i64 1, .int .i64 2] 86)).heap[w.heap.size + 1]? = some (.cells #[.string ⟨#[97]⟩, .int .i64 1, .string ⟨#[98]⟩, .int .i64 4, .string ⟨#[99]⟩, .int .i64 2] 84) := by
    rw [Go.Deep.blk_alloc_lt _ _ _ (by simp), ← e1, Go.Deep.blk_alloc_new]
  have hf : (((w.alloc o).alloc (.cells #[.string ⟨#[97]⟩, .int .i64 1, .string ⟨#[98]⟩, .int .i64 4, .string ⟨#[99]⟩, .int .i64 2] 84)).alloc (.cells #[.int .i64 0, .int .i64 1, .int .i64 1, .int .i64 2] 86)).heap[w.heap.size + 1 + 1]? = some (.cells #[.int .i64 0, .int .i64 1, .int .i64 1, .int .i64 2] 86) := by
    have e2 : ((w.alloc o).alloc (.cells #[.string ⟨#[97]⟩, .int .i64 1, .string ⟨#[98]⟩, .int .i64 4, .string ⟨#[99]⟩, .int .i64 2] 84)).heap.size = w.heap.size + 1 + 1 := by simp
    rw [← e2, Go.Deep.blk_alloc_new]
  refine ⟨⟨_, 0, fun _ => rfl, fun i hi => ?_⟩, ⟨_, 0, fun _ => rfl, fun i hi => ?_⟩, by omega, by omega, by omega⟩
  · match i, hi with
    | 0, _ => exact ⟨cell_of_cells hn rfl, cell_of_cells hn rfl⟩
    | 1, _ => exact ⟨cell_of_cells hn rfl, cell_of_cells hn rfl⟩
    | 2, _ => exact ⟨cell_of_cells hn rfl, cell_of_cells hn rfl⟩
  · match i, hi with
    | 0, _ => exact ⟨cell_of_cells hf rfl, cell_of_cells hf rfl⟩
    | 1, _ => exact ⟨cell_of_cells hf rfl, cell_of_cells hf rfl⟩

theorem straight_any (w : World) : Calls Try.prog 11 #[] w fun e w' => (∃ na fa, e = .returned (.agg #[.slice na 3 3, .slice fa 2 2]) ∧ Prc w' na 3 3 fa 2 sMs sKs sAs sBs) ∧ Below w.heap.size w w' := by
  go_enter Try.func11, Try.ntmps11
  go_wp2
  (try simp only [Exit.inBlock, Exit.then])
  refine bodyPost_ret (results_cell_row rfl _ _ w.heap.size 25 #[.slice (some ⟨w.heap.size + 1, 0, none⟩) 3 3, .slice (some ⟨w.heap.size + 1 + 1, 0, none⟩) 2 2] (0, 0) _ rfl ?_ Try.underlying25 rfl (by kernel_rfl)) rfl ?_
  · rw [Go.Deep.blk_alloc_lt _ _ _ (by simp; omega), Go.Deep.blk_alloc_lt _ _ _ (by simp), Go.Deep.blk_alloc_new]
  · refine ⟨⟨_, _, rfl, straight_prc w _⟩, (((Below.refl _ _).alloc (Nat.le_refl _) _).alloc (by simp) _).alloc (by simp; omega) _⟩

end Go.Proofs.Ythpbgfodejoecaa

namespace Go.Proofs.Ythpbgfodejoecaa
open Go.RowKit

theorem mkOk_all {F n : Nat} {m : Nat → Int} (h : mkOk F n m = true) : n = F ∧ ∀ i, i < n → 0 ≤ m i ∧ m i ≤ 9 := by
  unfold mkOk at h
  rwa [decide_eq_true_eq] at h

end Go.Proofs.Ythpbgfodejoecaa

namespace Go.Proofs.Ythpbgfodejoecaa
open Go.RowKit

set_option maxHeartbeats 1000000 in
theorem fire_bad {na fa sa ia oa : Option Addr} {N nc F fc sc ic oc Sn In On : Nat} {w : World} {ma : Option Addr} {n mc : Nat} {m : Nat → Int} (hn : n ≤ 140737488355328) (hm : Row w ma n m) (hk : mkOk F n m = false) (step : Int) :
    Calls Try.prog 76 #[.agg #[.slice na N nc, .slice fa F fc, .slice sa Sn sc, .slice ia In ic, .slice oa On oc], .slice ma n mc, .int .i64 step] w fun e w' => Below w.heap.size w w' ∧ e = .returned (.tuple #[.slice none 0 0, .int .i64 1]) := by
  obtain ⟨W0, eW0⟩ : ∃ u, u = w.alloc (.cells #[.slice na N nc, .slice fa F fc, .slice sa Sn sc, .slice ia In ic, .slice oa On oc] 94) := ⟨_, rfl⟩
  have HW0 : Hid (Below w.heap.size w W0) := by subst eW0; exact box_below _ _
  have HEW0 : Hid (w.alloc (.cells #[.slice na N nc, .slice fa F fc, .slice sa Sn sc, .slice ia In ic, .slice oa On oc] 94) = W0) := eW0.symm
  have HOk : Hid (mkOk F n m = false) := hk
  have C0 : Hid (Calls Try.prog 74 #[.agg #[.slice na N nc, .slice fa F fc, .slice sa Sn sc, .slice ia In ic, .slice oa On oc], .slice ma n mc] W0 fun e w' => e = .returned (.bool (mkOk F n m)) ∧ Below W0.heap.size W0 w') := isMarking_any _ _ _ _ _ N nc F fc _ sc _ ic _ oc _ n mc m W0 hn (hm.below HW0.out)
  clear eW0 hm hk
  go_enter Try.func76, Try.ntmps76
  go_wp2_with fail
  rw [HEW0.out]
  refine C0.out.mono ?_
  rintro e w0 ⟨he, hb0⟩
  rw [HOk.out] at he
  subst he
  have HB0 : Hid (Below w.heap.size w w0) := HW0.out.trans (hb0.mono HW0.out.size)
  clear hb0 C0
  go_wp2
  go_ret2
  exact ⟨HB0.out, rfl⟩

end Go.Proofs.Ythpbgfodejoecaa
