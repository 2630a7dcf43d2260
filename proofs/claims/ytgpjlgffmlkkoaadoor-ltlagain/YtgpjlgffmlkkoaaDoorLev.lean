/- What the levels of the reader answer; within. -/
import Derived.Test.YtgpjlgffmlkkoaaDoorRdr2
import Derived.RegionTactic
namespace Go.Proofs.YtgpjlgffmlkkoaaDoor
open Go.RowKit

/-- The world without what lies below B. -/
def hi (B : Nat) (w : World) : World := { w with heap := w.heap.mapIdx (fun i o => if i < B then .cells #[] 0 (0, 0) else o) }

theorem hi_at {B : Nat} {w : World} {k : Nat} (h : B ≤ k) : (hi B w).heap[k]? = w.heap[k]? := by
  show (w.heap.mapIdx _)[k]? = _
  rw [Array.getElem?_mapIdx]
  cases hk : w.heap[k]? with
  | none => rfl
  | some o =>
    simp only [Option.map_some]
    rw [if_neg (by omega)]

theorem hi_out {B : Nat} {w : World} {p : Addr} {v : Value} (h : (hi B w).cell? p = some v) : B ≤ p.block ∧ w.cell? p = some v := by
  by_cases e : B ≤ p.block
  · refine ⟨e, ?_⟩
    rw [World.cell?_of_block (w := w) (hi_at e)] at h
    exact h
  · exfalso
    have hs : (hi B w).heap.size = w.heap.size := by
      show (w.heap.mapIdx _).size = _
      simp
    have hlt := World.block_lt_of_cell? _ _ h
    rw [hs] at hlt
    have : (hi B w).heap[p.block]? = some (.cells #[] 0 (0, 0)) := by
      show (w.heap.mapIdx _)[p.block]? = _
      rw [Array.getElem?_mapIdx, Array.getElem?_eq_getElem hlt]
      simp only [Option.map_some]
      rw [if_pos (by omega)]
    simp [World.cell?, this] at h

theorem hi_in {B : Nat} {w : World} {p : Addr} {v : Value} (hp : B ≤ p.block) (h : w.cell? p = some v) : (hi B w).cell? p = some v := by
  rw [World.cell?_of_block (w := w) (hi_at hp)]
  exact h

theorem kd_keep {B : Nat} {w w' : World} {t : Fml} {a : Option Addr} (h : Kds (hi B w) t a) (hb : ∀ k, B ≤ k → k < w.heap.size → w'.heap[k]? = w.heap[k]?) : Kds (hi B w') t a :=
  Kds.keep (fun p _ hv => by
    obtain ⟨h1, h2⟩ := hi_out hv
    refine hi_in h1 ?_
    rw [World.cell?_of_block (w := w) (hb p.block h1 (World.block_lt_of_cell? _ _ h2))]
    exact h2) t a h

theorem kd_mono {B B' : Nat} {w : World} {t : Fml} {a : Option Addr} (h : Kds (hi B w) t a) (hB : B' ≤ B) : Kds (hi B' w) t a :=
  Kds.keep (fun _ _ hv => hi_in (Nat.le_trans hB (hi_out hv).1) (hi_out hv).2) t a h

theorem kd_out {B : Nat} {w : World} {t : Fml} {a : Option Addr} (h : Kds (hi B w) t a) : Kds w t a := Kds.keep (fun _ _ hv => (hi_out hv).2) t a h

theorem kd_nd {B : Nat} {w : World} (k n : Int) : Kds (hi B w) (nd k n) none := Kds.mk ⟨0, 0, fun h => absurd h (Nat.lt_irrefl 0), fun i hi => absurd hi (Nat.not_lt_zero i)⟩

theorem on_kid (k : Int) (a : Fml) : (on k a).kid 0 = a := rfl
theorem tw_kid0 (k : Int) (a b : Fml) : (tw k a b).kid 0 = a := rfl
theorem tw_kid1 (k : Int) (a b : Fml) : (tw k a b).kid 1 = b := rfl

theorem kd_on {B x : Nat} {w : World} {k : Int} {t : Fml} {a : Option Addr} {cap : Nat} (hx : B ≤ x) (h : w.heap[x]? = some (.cells #[.int .i64 t.kind, .int .i64 t.num, .slice a t.cnt cap] 24 (0, 0))) (hk : Kds (hi B w) t a) (hc : t.cnt ≤ 2) : Kds (hi B w) (on k t) (some ⟨x, 0, none⟩) := by
  refine Kds.mk ⟨x, 0, fun _ => rfl, fun i hi => ?_⟩
  have hi' : i < 1 := hi
  obtain rfl : i = 0 := by omega
  rw [on_kid]
  exact ⟨a, cap, hi_in hx (cell_of_cells h rfl), hi_in hx (cell_of_cells h rfl), hi_in hx (cell_of_cells h rfl), by omega, hk⟩

theorem kd_tw {B x : Nat} {w : World} {k : Int} {t u : Fml} {a c : Option Addr} {cap cap' : Nat} (hx : B ≤ x)
    (h : w.heap[x]? = some (.cells #[.int .i64 t.kind, .int .i64 t.num, .slice a t.cnt cap, .int .i64 u.kind, .int .i64 u.num, .slice c u.cnt cap'] 24 (0, 0))) (hk : Kds (hi B w) t a) (hc : t.cnt ≤ 2) (hk' : Kds (hi B w) u c) (hc' : u.cnt ≤ 2) : Kds (hi B w) (tw k t u) (some ⟨x, 0, none⟩) := by
  refine Kds.mk ⟨x, 0, fun _ => rfl, fun i hi => ?_⟩
  have hi' : i < 2 := hi
  have : i = 0 ∨ i = 1 := by omega
  rcases this with rfl | rfl
  · rw [tw_kid0]
    exact ⟨a, cap, hi_in hx (cell_of_cells h rfl), hi_in hx (cell_of_cells h rfl), hi_in hx (cell_of_cells h rfl), by omega, hk⟩
  · rw [tw_kid1]
    exact ⟨c, cap', hi_in hx (cell_of_cells h rfl), hi_in hx (cell_of_cells h rfl), hi_in hx (cell_of_cells h rfl), by omega, hk'⟩

/-- All that stays while one reads. -/
structure Sp where
  w0 : World
  na : Option Addr
  N : Nat
  nc : Nat
  M : Nat → ByteArray
  S : ByteArray
  b : Nat
  V1 : Value
  V2 : Value
  V3 : Value
  V5 : Value

structure Sp.Ok (z : Sp) : Prop where
  sta : Sta z.w0 z.na z.N z.nc z.M
  ers : Ers z.w0 z.V1 z.V2 z.V3 z.V5
  size : z.S.size ≤ 1000
  new : z.w0.heap.size ≤ z.b

/-- The reader there, in that world. -/
def Sp.At (z : Sp) (w : World) (k o : Nat) : Prop := Rd w z.b z.S z.na z.N z.nc k o ∧ Below z.w0.heap.size z.w0 w ∧ k ≤ z.S.size

/-- What is read, as it is answered. -/
def Sp.Ans (z : Sp) (w : World) (o : Nat) (r : Rs) (e : Ending) (w' : World) : Prop := But z.b w w' ∧
  match r with
  | .ok (t, s) => ∃ (a : Option Addr) (cap k : Nat), e = .returned (.tuple #[.agg #[.int .i64 t.kind, .int .i64 t.num, .slice a t.cnt cap], .nilIface]) ∧ Kds (hi w.heap.size w') t a ∧ t.cnt ≤ 2 ∧ z.At w' k o ∧ s = lft z.S k
  | .error (c, m) => ∃ (x y : Int) (a : Option Addr) (n cap k : Nat), e = .returned (.tuple #[.agg #[.int .i64 x, .int .i64 y, .slice a n cap], erV z.V1 z.V2 z.V3 z.V5 c ((z.S.size - m : Nat) : Int)]) ∧ m ≤ z.S.size ∧ z.At w' k o ∧ (c = 3 ∨ c = 4 ∨ c = 5)

theorem Sp.At.but {z : Sp} (hz : z.Ok) {w w' : World} {k o k' o' : Nat} (h : z.At w k o) (hb : But z.b w w') (hr : Rd w' z.b z.S z.na z.N z.nc k' o') (hk : k' ≤ z.S.size) : z.At w' k' o' :=
  ⟨hr, h.2.1.trans (hb.below hz.new h.2.1.size), hk⟩

theorem Sp.Ans.from {z : Sp} {u w : World} {o : Nat} {r : Rs} {e : Ending} {w' : World} (h : z.Ans w o r e w') (hb : But z.b u w) : z.Ans u o r e w' := by
  refine ⟨hb.trans h.1, ?_⟩
  have h2 := h.2
  cases r with
  | ok p =>
    obtain ⟨a, cap, k, h3, h4, h5⟩ := h2
    exact ⟨a, cap, k, h3, kd_mono h4 hb.size, h5⟩
  | error p => exact h2

theorem but_tri {b : Nat} {w w' : World} {x : Nat} (h : But b w w') (hx : w.heap.size ≤ x) (u v z : Value) : But b w (((w'.setCell ⟨x, 0, none⟩ u).setCell ⟨x, 1, none⟩ v).setCell ⟨x, 2, none⟩ z) :=
  ⟨h.os, h.tape, h.output, by simpa [World.setCell] using h.size, fun k h1 h2 => by
    rw [Go.Deep.blk_setCell_other _ _ _ _ (by show k ≠ x; omega), Go.Deep.blk_setCell_other _ _ _ _ (by show k ≠ x; omega), Go.Deep.blk_setCell_other _ _ _ _ (by show k ≠ x; omega)]
    exact h.block k h1 h2⟩

theorem blk_tri {w : World} {x k : Nat} (hk : k ≠ x) (u v z : Value) : (((w.setCell ⟨x, 0, none⟩ u).setCell ⟨x, 1, none⟩ v).setCell ⟨x, 2, none⟩ z).heap[k]? = w.heap[k]? := by
  rw [Go.Deep.blk_setCell_other _ _ _ _ hk, Go.Deep.blk_setCell_other _ _ _ _ hk, Go.Deep.blk_setCell_other _ _ _ _ hk]

theorem Tri.setb {w : World} {x b i : Nat} {u v z : Value} (h : Tri w x u v z) (hx : x ≠ b) (y : Value) : Tri (w.setCell ⟨b, i, none⟩ y) x u v z := (Go.Deep.blk_setCell_other _ _ _ _ hx).trans h
theorem Tri.alloc {w : World} {x : Nat} {u v z : Value} (h : Tri w x u v z) (o : Obj) : Tri (w.alloc o) x u v z := (Go.Deep.blk_alloc_lt _ _ _ h.lt).trans h

end Go.Proofs.YtgpjlgffmlkkoaaDoor
