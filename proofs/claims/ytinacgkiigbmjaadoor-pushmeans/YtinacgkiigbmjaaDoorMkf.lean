/- Formulas that the laws make: atom, one, two; what they mean. -/
import Derived.Test.YtinacgkiigbmjaaDoorChk2
namespace Go.Proofs.YtinacgkiigbmjaaDoor
open Go.RowKit

def nd (k n : Int) : Fml := ⟨k, n, 0, fun i => i.elim0⟩
def on (k : Int) (t : Fml) : Fml := ⟨k, 0, 1, fun _ => t⟩
def tw (k : Int) (t t2 : Fml) : Fml := ⟨k, 0, 2, fun i => if i.val = 0 then t else t2⟩

theorem on_kid (k : Int) (t : Fml) : (on k t).kid 0 = t := dif_pos (show 0 < 1 by decide)
theorem tw_kid0 (k : Int) (t t2 : Fml) : (tw k t t2).kid 0 = t := by
  have : (tw k t t2).kid 0 = (tw k t t2).kids ⟨0, (show 0 < 2 by decide)⟩ := dif_pos (show 0 < 2 by decide)
  rw [this]
  rfl
theorem tw_kid1 (k : Int) (t t2 : Fml) : (tw k t t2).kid 1 = t2 := by
  have : (tw k t t2).kid 1 = (tw k t t2).kids ⟨1, (show 1 < 2 by decide)⟩ := dif_pos (show 1 < 2 by decide)
  rw [this]
  rfl

/-- A formula is answered, and lies there. -/
def Mk (w : World) (t : Fml) (e : Ending) (w' : World) : Prop := ∃ (a : Option Addr) (cap : Nat), e = .returned (.agg #[.int .i64 t.kind, .int .i64 t.num, .slice a t.cnt cap]) ∧ Kds w' t a ∧ Below w.heap.size w w'

theorem kds_nd (w : World) (k n : Int) (a : Option Addr) : Kds w (nd k n) a := Kds.mk ⟨0, 0, fun h => absurd h (Nat.lt_irrefl 0), fun i hi => absurd hi (Nat.not_lt_zero i)⟩

theorem kds_on {w : World} {k : Int} {t : Fml} {a : Option Addr} {cap b : Nat} (hb : w.heap[b]? = some (.cells #[.int .i64 t.kind, .int .i64 t.num, .slice a t.cnt cap] 24)) (hc : t.cnt ≤ 9223372036854775807) (h : Kds w t a) : Kds w (on k t) (some ⟨b, 0, none⟩) := by
  refine Kds.mk ⟨b, 0, fun _ => rfl, fun i hi => ?_⟩
  have hi1 : i < 1 := hi
  obtain rfl : i = 0 := by omega
  rw [on_kid]
  exact ⟨a, cap, cell_of_cells hb rfl, cell_of_cells hb rfl, cell_of_cells hb rfl, hc, h⟩

theorem kds_tw {w : World} {k : Int} {t t2 : Fml} {a a2 : Option Addr} {cap cap2 b : Nat} (hb : w.heap[b]? = some (.cells #[.int .i64 t.kind, .int .i64 t.num, .slice a t.cnt cap, .int .i64 t2.kind, .int .i64 t2.num, .slice a2 t2.cnt cap2] 24)) (hc : t.cnt ≤ 9223372036854775807) (h : Kds w t a) (hc2 : t2.cnt ≤ 9223372036854775807) (h2 : Kds w t2 a2) : Kds w (tw k t t2) (some ⟨b, 0, none⟩) := by
  refine Kds.mk ⟨b, 0, fun _ => rfl, fun i hi => ?_⟩
  have hi1 : i < 2 := hi
  rcases (by omega : i = 0 ∨ i = 1) with rfl | rfl
  · rw [tw_kid0]
    exact ⟨a, cap, cell_of_cells hb rfl, cell_of_cells hb rfl, cell_of_cells hb rfl, hc, h⟩
  · rw [tw_kid1]
    exact ⟨a2, cap2, cell_of_cells hb rfl, cell_of_cells hb rfl, cell_of_cells hb rfl, hc2, h2⟩

set_option maxHeartbeats 1000000 in
theorem atom_f (n : Int) (w : World) : Calls Tryd.prog 16 #[.int .i64 n] w fun e w' => Mk w (nd 3 n) e w' := by
  go_enter Tryd.func16, Tryd.ntmps16
  go_wp2
  refine bodyPost_ret (results_cell_row rfl _ _ w.heap.size 24 #[.int .i64 3, .int .i64 n, .slice none 0 0] (0, 0) _ rfl ?_ Tryd.underlying24 rfl (by kernel_rfl)) rfl ?_
  · exact Go.Deep.blk_alloc_new _ _
  · exact ⟨none, 0, rfl, kds_nd _ _ _ _, box_below _ _⟩

theorem alloc_last {w : World} {B : Nat} (o : Obj) (h : w.heap.size = B) : (w.alloc o).heap[B]? = some o := by rw [← h]; exact Go.Deep.blk_alloc_new _ _
theorem alloc_old {w : World} {B : Nat} {x : Obj} (o : Obj) (h : w.heap[B]? = some x) : (w.alloc o).heap[B]? = some x := (Go.Deep.blk_alloc_lt _ _ _ (Array.getElem?_eq_some_iff.1 h).1).trans h

set_option maxHeartbeats 1000000 in
theorem one_g (k : Int) (t : Fml) (a : Option Addr) (cap : Nat) (w : World) : Calls Tryd.prog 15 #[.int .i64 k, .agg #[.int .i64 t.kind, .int .i64 t.num, .slice a t.cnt cap]] w fun e w' => e = .returned (.agg #[.int .i64 k, .int .i64 0, .slice (some ⟨w.heap.size + 1 + 1, 0, none⟩) 1 1]) ∧ w'.heap[w.heap.size + 1 + 1]? = some (.cells #[.int .i64 t.kind, .int .i64 t.num, .slice a t.cnt cap] 24) ∧ Below w.heap.size w w' := by
  go_enter Tryd.func15, Tryd.ntmps15
  go_wp2
  obtain ⟨v1, hv1⟩ : ∃ y, y = w.alloc (.cells #[.int .i64 t.kind, .int .i64 t.num, .slice a t.cnt cap] 24) := ⟨_, rfl⟩
  have e1 : v1.heap.size = w.heap.size + 1 := by rw [hv1]; simp
  obtain ⟨v2, hv2⟩ : ∃ y, y = v1.alloc (.cells #[.int .i64 k, .int .i64 0, .slice (some ⟨w.heap.size + 1 + 1, 0, none⟩) 1 1] 24) := ⟨_, rfl⟩
  have e2 : v2.heap.size = w.heap.size + 1 + 1 := by rw [hv2, ← e1]; simp
  have b1 : Below w.heap.size w v1 := by rw [hv1]; exact box_below _ _
  have b2 : Below w.heap.size w v2 := by rw [hv2]; exact b1.alloc (by omega) _
  have x2 : v2.heap[w.heap.size + 1]? = some (.cells #[.int .i64 k, .int .i64 0, .slice (some ⟨w.heap.size + 1 + 1, 0, none⟩) 1 1] 24) := by rw [hv2]; exact alloc_last _ e1
  rw [← hv1, ← hv2]
  refine bodyPost_ret (results_cell_row rfl _ _ (w.heap.size + 1) 24 #[.int .i64 k, .int .i64 0, .slice (some ⟨w.heap.size + 1 + 1, 0, none⟩) 1 1] (0, 0) _ rfl (alloc_old _ x2) Tryd.underlying24 rfl (by kernel_rfl)) rfl ?_
  exact ⟨rfl, alloc_last _ e2, b2.alloc (by omega) _⟩

theorem one_f (k : Int) (t : Fml) (a : Option Addr) (cap : Nat) (w : World) (h : Kds w t a) (hc : t.cnt ≤ 9223372036854775807) : Calls Tryd.prog 15 #[.int .i64 k, .agg #[.int .i64 t.kind, .int .i64 t.num, .slice a t.cnt cap]] w fun e w' => Mk w (on k t) e w' :=
  (one_g k t a cap w).mono fun _ _ hh => ⟨some ⟨w.heap.size + 1 + 1, 0, none⟩, 1, hh.1, kds_on (cap := cap) hh.2.1 hc (h.below hh.2.2), hh.2.2⟩

set_option maxHeartbeats 1000000 in
theorem two_g (k : Int) (t : Fml) (a : Option Addr) (cap : Nat) (t2 : Fml) (a2 : Option Addr) (cap2 : Nat) (w : World) :
    Calls Tryd.prog 19 #[.int .i64 k, .agg #[.int .i64 t.kind, .int .i64 t.num, .slice a t.cnt cap], .agg #[.int .i64 t2.kind, .int .i64 t2.num, .slice a2 t2.cnt cap2]] w fun e w' => e = .returned (.agg #[.int .i64 k, .int .i64 0, .slice (some ⟨w.heap.size + 1 + 1 + 1, 0, none⟩) 2 2]) ∧ w'.heap[w.heap.size + 1 + 1 + 1]? = some (.cells #[.int .i64 t.kind, .int .i64 t.num, .slice a t.cnt cap, .int .i64 t2.kind, .int .i64 t2.num, .slice a2 t2.cnt cap2] 24) ∧ Below w.heap.size w w' := by
  go_enter Tryd.func19, Tryd.ntmps19
  go_wp2
  obtain ⟨v0, hv0⟩ : ∃ y, y = w.alloc (.cells #[.int .i64 t.kind, .int .i64 t.num, .slice a t.cnt cap] 24) := ⟨_, rfl⟩
  have e0 : v0.heap.size = w.heap.size + 1 := by rw [hv0]; simp
  obtain ⟨v1, hv1⟩ : ∃ y, y = v0.alloc (.cells #[.int .i64 t2.kind, .int .i64 t2.num, .slice a2 t2.cnt cap2] 24) := ⟨_, rfl⟩
  have e1 : v1.heap.size = w.heap.size + 1 + 1 := by rw [hv1, ← e0]; simp
  obtain ⟨v2, hv2⟩ : ∃ y, y = v1.alloc (.cells #[.int .i64 k, .int .i64 0, .slice (some ⟨w.heap.size + 1 + 1 + 1, 0, none⟩) 2 2] 24) := ⟨_, rfl⟩
  have e2 : v2.heap.size = w.heap.size + 1 + 1 + 1 := by rw [hv2, ← e1]; simp
  have b0 : Below w.heap.size w v0 := by rw [hv0]; exact box_below _ _
  have b1 : Below w.heap.size w v1 := by rw [hv1]; exact b0.alloc (by omega) _
  have b2 : Below w.heap.size w v2 := by rw [hv2]; exact b1.alloc (by omega) _
  have x2 : v2.heap[w.heap.size + 1 + 1]? = some (.cells #[.int .i64 k, .int .i64 0, .slice (some ⟨w.heap.size + 1 + 1 + 1, 0, none⟩) 2 2] 24) := by rw [hv2]; exact alloc_last _ e1
  rw [← hv0, ← hv1, ← hv2]
  refine bodyPost_ret (results_cell_row rfl _ _ (w.heap.size + 1 + 1) 24 #[.int .i64 k, .int .i64 0, .slice (some ⟨w.heap.size + 1 + 1 + 1, 0, none⟩) 2 2] (0, 0) _ rfl (alloc_old _ x2) Tryd.underlying24 rfl (by kernel_rfl)) rfl ?_
  exact ⟨rfl, alloc_last _ e2, b2.alloc (by omega) _⟩

theorem two_f (k : Int) (t : Fml) (a : Option Addr) (cap : Nat) (t2 : Fml) (a2 : Option Addr) (cap2 : Nat) (w : World) (h : Kds w t a) (hc : t.cnt ≤ 9223372036854775807) (h2 : Kds w t2 a2) (hc2 : t2.cnt ≤ 9223372036854775807) :
    Calls Tryd.prog 19 #[.int .i64 k, .agg #[.int .i64 t.kind, .int .i64 t.num, .slice a t.cnt cap], .agg #[.int .i64 t2.kind, .int .i64 t2.num, .slice a2 t2.cnt cap2]] w fun e w' => Mk w (tw k t t2) e w' :=
  (two_g k t a cap t2 a2 cap2 w).mono fun _ _ hh => ⟨some ⟨w.heap.size + 1 + 1 + 1, 0, none⟩, 2, hh.1, kds_tw (cap := cap) (cap2 := cap2) hh.2.1 hc (h.below hh.2.2) hc2 (h2.below hh.2.2), hh.2.2⟩

end Go.Proofs.YtinacgkiigbmjaaDoor
