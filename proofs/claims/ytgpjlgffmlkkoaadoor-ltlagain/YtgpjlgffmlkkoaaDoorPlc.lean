/- place. -/
import Derived.Test.YtgpjlgffmlkkoaaDoorErrAs2
import Derived.Test.YtgpjlgffmlkkoaaDoorErrIs
namespace Go.Proofs.YtgpjlgffmlkkoaaDoor
open Go.RowKit

theorem below_setRow {B : Nat} {w w' : World} {g : Nat} (h : Below B w w') (hg : B ≤ g) (cs : Array Value) : Below B w (w'.setRow g cs) :=
  ⟨h.os, h.tape, h.output, by simpa [World.setRow] using h.size, fun k hk => (setRow_other _ _ _ _ (by omega)).trans (h.block k hk)⟩

set_option maxHeartbeats 4000000 in
theorem place_any (a : Addr) (p : Int) (w : World) (hg6 : w.cell? ⟨6, 0, none⟩ = some (.iface 120 (.agg #[.pointer (some ⟨7, 52, none⟩)]))) :
    Calls Tryd.prog 24 #[.iface 72 (.agg #[.iface 139 (.pointer (some a)), .int .i64 p])] w fun e w' => e = .returned (.int .i64 p) ∧ Below w.heap.size w w' := by
  have h6 : 6 < w.heap.size := World.block_lt_of_cell? _ _ hg6
  obtain ⟨w1, hw1⟩ : ∃ y, y = w.alloc (.cells #[.nilIface, .int .i64 0] 72) := ⟨_, rfl⟩
  have hB1 : Below w.heap.size w w1 := by rw [hw1]; exact box_below _ _
  have hg1 : w1.heap[w.heap.size]? = some (.cells #[.nilIface, .int .i64 0] 72 (0, 0)) := by rw [hw1]; exact Go.Deep.blk_alloc_new _ _
  have hs1 : w.heap.size < w1.heap.size := by rw [hw1]; simp
  have C := hid (as_hit w.heap.size (.iface 139 (.pointer (some a))) (.int .i64 p) .nilIface (.int .i64 0) w1 (below_cell hB1 (Nat.le_refl _) hg6) hg1 rfl rfl)
  have HE := hid hw1
  have H1 : Hid (Below w.heap.size w w1 ∧ w1.heap[w.heap.size]? = some (.cells #[.nilIface, .int .i64 0] 72 (0, 0)) ∧ w.heap.size < w1.heap.size) := ⟨hB1, hg1, hs1⟩
  clear hw1 hB1 hg1 hs1 hg6 h6
  go_enter Tryd.func24, Tryd.ntmps24
  go_wp2_with fail
  rw [← HE.out]
  refine C.out.mono ?_
  rintro e w3 ⟨rfl, w2, hb2, hw3⟩
  have hg2 : w2.heap[w.heap.size]? = some (.cells #[.nilIface, .int .i64 0] 72 (0, 0)) := (hb2.block _ H1.out.2.2).trans H1.out.2.1
  have hc : w3.cell? ⟨w.heap.size, 1, none⟩ = some (.int .i64 p) := by
    rw [hw3, cell_setRow_same _ _ _ _ _ _ _ hg2]
    rfl
  have HB : Hid (Below w.heap.size w w3) := by
    rw [hw3]
    exact below_setRow (H1.out.1.trans (hb2.mono H1.out.1.size)) (Nat.le_refl _) _
  clear C hb2 hw3 hg2
  go_wp2
  go_ret
  exact ⟨rfl, HB.out⟩

end Go.Proofs.YtgpjlgffmlkkoaaDoor
