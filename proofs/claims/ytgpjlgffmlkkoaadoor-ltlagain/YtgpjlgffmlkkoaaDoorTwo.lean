/- atom, one, two: formulas that the laws make. -/
import Derived.Test.YtgpjlgffmlkkoaaDoorLev
import Derived.Deep.RegionHeld3
namespace Go.Proofs.YtgpjlgffmlkkoaaDoor
open Go.RowKit

/-- A formula is answered, and lies there. -/
def Mk (w : World) (t : Fml) (e : Ending) (w' : World) : Prop := ∃ (a : Option Addr) (cap : Nat), e = .returned (.agg #[.int .i64 t.kind, .int .i64 t.num, .slice a t.cnt cap]) ∧ Kds w' t a ∧ Below w.heap.size w w'

theorem kd_zero {w : World} {t : Fml} {a : Option Addr} (h : Kds w t a) : Kds (hi 0 w) t a := Kds.keep (fun _ _ hv => hi_in (Nat.zero_le _) hv) t a h

set_option maxHeartbeats 1000000 in
theorem atom_f (n : Int) (w : World) : Calls Tryd.prog 16 #[.int .i64 n] w fun e w' => Mk w (nd 3 n) e w' := by
  go_enter Tryd.func16, Tryd.ntmps16
  go_wp2
  refine bodyPost_ret (results_cell_row rfl _ _ w.heap.size 24 #[.int .i64 3, .int .i64 n, .slice none 0 0] (0, 0) _ rfl ?_ Tryd.underlying24 rfl (by kernel_rfl)) rfl ?_
  · exact tri_new _ _ _ _
  · exact ⟨none, 0, rfl, kd_out (B := 0) (kd_nd 3 n), box_below _ _⟩

set_option maxHeartbeats 1000000 in
theorem one_f (k : Int) (t : Fml) (a : Option Addr) (cap : Nat) (w : World) (h : Kds w t a) (hc : t.cnt ≤ 2) : Calls Tryd.prog 15 #[.int .i64 k, .agg #[.int .i64 t.kind, .int .i64 t.num, .slice a t.cnt cap]] w fun e w' => Mk w (on k t) e w' := by
  have HK := hid h
  clear h
  go_enter Tryd.func15, Tryd.ntmps15
  go_wp2
  obtain ⟨v1, hv1⟩ : ∃ y, y = w.alloc (.cells #[.int .i64 t.kind, .int .i64 t.num, .slice a t.cnt cap] 24) := ⟨_, rfl⟩
  have e1 : v1.heap.size = w.heap.size + 1 := by rw [hv1]; simp
  obtain ⟨v2, hv2⟩ : ∃ y, y = v1.alloc (.cells #[.int .i64 k, .int .i64 0, .slice (some ⟨w.heap.size + 1 + 1, 0, none⟩) 1 1] 24) := ⟨_, rfl⟩
  have e2 : v2.heap.size = w.heap.size + 1 + 1 := by rw [hv2, ← e1]; simp
  have b1 : Below w.heap.size w v1 := by rw [hv1]; exact box_below _ _
  have b2 : Below w.heap.size w v2 := by rw [hv2]; exact b1.alloc (by omega) _
  have x2 : Tri v2 (w.heap.size + 1) (.int .i64 k) (.int .i64 0) (.slice (some ⟨w.heap.size + 1 + 1, 0, none⟩) 1 1) := by rw [hv2, ← e1]; exact tri_new _ _ _ _
  rw [← hv1, ← hv2]
  refine bodyPost_ret (results_cell_row rfl _ _ (w.heap.size + 1) 24 #[.int .i64 k, .int .i64 0, .slice (some ⟨w.heap.size + 1 + 1, 0, none⟩) 1 1] (0, 0) _ rfl (x2.alloc _) Tryd.underlying24 rfl (by kernel_rfl)) rfl ?_
  refine ⟨some ⟨w.heap.size + 1 + 1, 0, none⟩, 1, rfl, ?_, b2.alloc (by omega) _⟩
  refine kd_out (kd_on (B := 0) (cap := cap) (Nat.zero_le _) ?_ (kd_zero (HK.out.below (b2.alloc (by omega) _))) hc)
  rw [← e2]
  exact tri_new _ _ _ _

set_option maxHeartbeats 1000000 in
theorem two_f (k : Int) (t : Fml) (a : Option Addr) (cap : Nat) (t2 : Fml) (a2 : Option Addr) (cap2 : Nat) (w : World) (h : Kds w t a) (hc : t.cnt ≤ 2) (h2 : Kds w t2 a2) (hc2 : t2.cnt ≤ 2) :
    Calls Tryd.prog 14 #[.int .i64 k, .agg #[.int .i64 t.kind, .int .i64 t.num, .slice a t.cnt cap], .agg #[.int .i64 t2.kind, .int .i64 t2.num, .slice a2 t2.cnt cap2]] w fun e w' => Mk w (tw k t t2) e w' := by
  have HK := hid h
  have HK2 := hid h2
  clear h h2
  go_enter Tryd.func14, Tryd.ntmps14
  go_wp2
  obtain ⟨v0, hv0⟩ : ∃ y, y = w.alloc (.cells #[.int .i64 t.kind, .int .i64 t.num, .slice a t.cnt cap] 24) := ⟨_, rfl⟩
  have e0 : v0.heap.size = w.heap.size + 1 := by rw [hv0]; simp
  obtain ⟨v1, hv1⟩ : ∃ y, y = v0.alloc (.cells #[.int .i64 t2.kind, .int .i64 t2.num, .slice a2 t2.cnt cap2] 24) := ⟨_, rfl⟩
  have e1 : v1.heap.size = w.heap.size + 1 + 1 := by rw [hv1, ← e0]; simp
  obtain ⟨v2, hv2⟩ : ∃ y, y = v1.alloc (.cells #[.int .i64 k, .int .i64 0, .slice (some ⟨w.heap.size + 1 + 1 + 1, 0, none⟩) 2 2] 24) := ⟨_, rfl⟩
  have e2 : v2.heap.size = w.heap.size + 1 + 1 + 1 := by rw [hv2, ← e1]; simp
  have b0 : Below w.heap.size w v0 := by rw [hv0]; exact box_below _ _
  have b1 : Below w.heap.size w v1 := by rw [hv1]; exact b0.alloc (by omega) _
  have b2 : Below w.heap.size w v2 := by rw [hv2]; exact b1.alloc (by omega) _
  have x2 : Tri v2 (w.heap.size + 1 + 1) (.int .i64 k) (.int .i64 0) (.slice (some ⟨w.heap.size + 1 + 1 + 1, 0, none⟩) 2 2) := by rw [hv2, ← e1]; exact tri_new _ _ _ _
  rw [← hv0, ← hv1, ← hv2]
  refine bodyPost_ret (results_cell_row rfl _ _ (w.heap.size + 1 + 1) 24 #[.int .i64 k, .int .i64 0, .slice (some ⟨w.heap.size + 1 + 1 + 1, 0, none⟩) 2 2] (0, 0) _ rfl (x2.alloc _) Tryd.underlying24 rfl (by kernel_rfl)) rfl ?_
  refine ⟨some ⟨w.heap.size + 1 + 1 + 1, 0, none⟩, 2, rfl, ?_, b2.alloc (by omega) _⟩
  refine kd_out (kd_tw (B := 0) (cap := cap) (cap' := cap2) (Nat.zero_le _) ?_ (kd_zero (HK.out.below (b2.alloc (by omega) _))) hc (kd_zero (HK2.out.below (b2.alloc (by omega) _))) hc2)
  rw [← e2]
  exact Go.Deep.blk_alloc_new _ _

end Go.Proofs.YtgpjlgffmlkkoaaDoor
