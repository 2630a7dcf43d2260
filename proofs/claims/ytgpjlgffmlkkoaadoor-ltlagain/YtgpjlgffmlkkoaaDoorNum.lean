/- number. -/
import Derived.Test.YtgpjlgffmlkkoaaDoorPlc
import Derived.Test.YtgpjlgffmlkkoaaDoorRdr2
namespace Go.Proofs.YtgpjlgffmlkkoaaDoor
open Go.RowKit

/-- The sentinels, told apart. -/
structure Er4 (w : World) (a1 a2 a3 a5 : Addr) : Prop where
  e1 : w.cell? ⟨1, 0, none⟩ = some (.iface 139 (.pointer (some a1)))
  e2 : w.cell? ⟨2, 0, none⟩ = some (.iface 139 (.pointer (some a2)))
  e3 : w.cell? ⟨3, 0, none⟩ = some (.iface 139 (.pointer (some a3)))
  e5 : w.cell? ⟨5, 0, none⟩ = some (.iface 139 (.pointer (some a5)))
  b1 : ∃ c t, w.heap[a1.block]? = some (.cells c t (0, 0))
  b2 : ∃ c t, w.heap[a2.block]? = some (.cells c t (0, 0))
  b3 : ∃ c t, w.heap[a3.block]? = some (.cells c t (0, 0))
  b5 : ∃ c t, w.heap[a5.block]? = some (.cells c t (0, 0))
  n12 : a1 ≠ a2
  n13 : a1 ≠ a3
  n15 : a1 ≠ a5
  n23 : a2 ≠ a3
  n25 : a2 ≠ a5
  n35 : a3 ≠ a5

theorem Er4.ers {w : World} {a1 a2 a3 a5 : Addr} (h : Er4 w a1 a2 a3 a5) : Ers w (.iface 139 (.pointer (some a1))) (.iface 139 (.pointer (some a2))) (.iface 139 (.pointer (some a3))) (.iface 139 (.pointer (some a5))) :=
  ⟨h.e1, h.e2, h.e3, h.e5, ⟨_, rfl⟩, ⟨_, rfl⟩, ⟨_, rfl⟩, ⟨_, rfl⟩⟩

theorem Er4.below {w w' : World} {a1 a2 a3 a5 : Addr} (h : Er4 w a1 a2 a3 a5) (hb : Below w.heap.size w w') : Er4 w' a1 a2 a3 a5 := by
  have k : ∀ a : Addr, (∃ c t, w.heap[a.block]? = some (.cells c t (0, 0))) → ∃ c t, w'.heap[a.block]? = some (.cells c t (0, 0)) := fun a ⟨c, t, hh⟩ => ⟨c, t, (hb.block _ (Array.getElem?_eq_some_iff.1 hh).1).trans hh⟩
  exact ⟨below_cell hb (Nat.le_refl _) h.e1, below_cell hb (Nat.le_refl _) h.e2, below_cell hb (Nat.le_refl _) h.e3, below_cell hb (Nat.le_refl _) h.e5, k _ h.b1, k _ h.b2, k _ h.b3, k _ h.b5, h.n12, h.n13, h.n15, h.n23, h.n25, h.n35⟩

theorem is_not {w : World} {a b : Addr} (ha : ∃ c t, w.heap[a.block]? = some (.cells c t (0, 0))) (hb : ∃ c t, w.heap[b.block]? = some (.cells c t (0, 0))) (hne : a ≠ b) (p : Int) :
    Calls Tryd.prog 38 #[.iface 72 (.agg #[.iface 139 (.pointer (some a)), .int .i64 p]), .iface 139 (.pointer (some b))] w fun e w' => e = .returned (.bool false) ∧ Below w.heap.size w w' := by
  obtain ⟨ca, ta, ha⟩ := ha
  obtain ⟨cb, tb, hb⟩ := hb
  exact is_other a b ca cb ta tb p w hne ha hb

set_option maxHeartbeats 4000000 in
theorem number_large {w : World} {a1 a2 a3 a5 : Addr} (h : Er4 w a1 a2 a3 a5) (p : Int) :
    Calls Tryd.prog 25 #[.iface 72 (.agg #[.iface 139 (.pointer (some a1)), .int .i64 p])] w fun e w' => e = .returned (.int .i64 2) ∧ Below w.heap.size w w' := by
  have HH := hid h
  clear h
  have HB0 := hid (Below.refl w.heap.size w)
  go_enter Tryd.func25, Tryd.ntmps25
  have g0 := (HH.out.below HB0.out).e1
  have C0 := hid (is_same a1 p w)
  go_wp2_with fail
  refine C0.out.mono ?_
  rintro e u0 ⟨rfl, hb0⟩
  have HB1 : Hid (Below w.heap.size w u0) := HB0.out.trans (hb0.mono HB0.out.size)
  clear C0 hb0 g0
  go_wp2
  go_ret
  exact ⟨rfl, HB1.out⟩

set_option maxHeartbeats 4000000 in
theorem number_deep {w : World} {a1 a2 a3 a5 : Addr} (h : Er4 w a1 a2 a3 a5) (p : Int) :
    Calls Tryd.prog 25 #[.iface 72 (.agg #[.iface 139 (.pointer (some a2)), .int .i64 p])] w fun e w' => e = .returned (.int .i64 5) ∧ Below w.heap.size w w' := by
  have HH := hid h
  clear h
  have HB0 := hid (Below.refl w.heap.size w)
  go_enter Tryd.func25, Tryd.ntmps25
  have g0 := (HH.out.below HB0.out).e1
  have C0 := hid (is_not (w := w) (HH.out.below HB0.out).b2 (HH.out.below HB0.out).b1 HH.out.n12.symm p)
  go_wp2_with fail
  refine C0.out.mono ?_
  rintro e u0 ⟨rfl, hb0⟩
  have HB1 : Hid (Below w.heap.size w u0) := HB0.out.trans (hb0.mono HB0.out.size)
  clear C0 hb0 g0
  have g1 := (HH.out.below HB1.out).e2
  have C1 := hid (is_same a2 p u0)
  go_wp2_with fail
  refine C1.out.mono ?_
  rintro e u1 ⟨rfl, hb1⟩
  have HB2 : Hid (Below w.heap.size w u1) := HB1.out.trans (hb1.mono HB1.out.size)
  clear C1 hb1 g1
  go_wp2
  go_ret
  exact ⟨rfl, HB2.out⟩

set_option maxHeartbeats 4000000 in
theorem number_name {w : World} {a1 a2 a3 a5 : Addr} (h : Er4 w a1 a2 a3 a5) (p : Int) :
    Calls Tryd.prog 25 #[.iface 72 (.agg #[.iface 139 (.pointer (some a3)), .int .i64 p])] w fun e w' => e = .returned (.int .i64 4) ∧ Below w.heap.size w w' := by
  have HH := hid h
  clear h
  have HB0 := hid (Below.refl w.heap.size w)
  go_enter Tryd.func25, Tryd.ntmps25
  have g0 := (HH.out.below HB0.out).e1
  have C0 := hid (is_not (w := w) (HH.out.below HB0.out).b3 (HH.out.below HB0.out).b1 HH.out.n13.symm p)
  go_wp2_with fail
  refine C0.out.mono ?_
  rintro e u0 ⟨rfl, hb0⟩
  have HB1 : Hid (Below w.heap.size w u0) := HB0.out.trans (hb0.mono HB0.out.size)
  clear C0 hb0 g0
  have g1 := (HH.out.below HB1.out).e2
  have C1 := hid (is_not (w := u0) (HH.out.below HB1.out).b3 (HH.out.below HB1.out).b2 HH.out.n23.symm p)
  go_wp2_with fail
  refine C1.out.mono ?_
  rintro e u1 ⟨rfl, hb1⟩
  have HB2 : Hid (Below w.heap.size w u1) := HB1.out.trans (hb1.mono HB1.out.size)
  clear C1 hb1 g1
  have g2 := (HH.out.below HB2.out).e3
  have C2 := hid (is_same a3 p u1)
  go_wp2_with fail
  refine C2.out.mono ?_
  rintro e u2 ⟨rfl, hb2⟩
  have HB3 : Hid (Below w.heap.size w u2) := HB2.out.trans (hb2.mono HB2.out.size)
  clear C2 hb2 g2
  go_wp2
  go_ret
  exact ⟨rfl, HB3.out⟩

set_option maxHeartbeats 4000000 in
theorem number_syntax {w : World} {a1 a2 a3 a5 : Addr} (h : Er4 w a1 a2 a3 a5) (p : Int) :
    Calls Tryd.prog 25 #[.iface 72 (.agg #[.iface 139 (.pointer (some a5)), .int .i64 p])] w fun e w' => e = .returned (.int .i64 3) ∧ Below w.heap.size w w' := by
  have HH := hid h
  clear h
  have HB0 := hid (Below.refl w.heap.size w)
  go_enter Tryd.func25, Tryd.ntmps25
  have g0 := (HH.out.below HB0.out).e1
  have C0 := hid (is_not (w := w) (HH.out.below HB0.out).b5 (HH.out.below HB0.out).b1 HH.out.n15.symm p)
  go_wp2_with fail
  refine C0.out.mono ?_
  rintro e u0 ⟨rfl, hb0⟩
  have HB1 : Hid (Below w.heap.size w u0) := HB0.out.trans (hb0.mono HB0.out.size)
  clear C0 hb0 g0
  have g1 := (HH.out.below HB1.out).e2
  have C1 := hid (is_not (w := u0) (HH.out.below HB1.out).b5 (HH.out.below HB1.out).b2 HH.out.n25.symm p)
  go_wp2_with fail
  refine C1.out.mono ?_
  rintro e u1 ⟨rfl, hb1⟩
  have HB2 : Hid (Below w.heap.size w u1) := HB1.out.trans (hb1.mono HB1.out.size)
  clear C1 hb1 g1
  have g2 := (HH.out.below HB2.out).e3
  have C2 := hid (is_not (w := u1) (HH.out.below HB2.out).b5 (HH.out.below HB2.out).b3 HH.out.n35.symm p)
  go_wp2_with fail
  refine C2.out.mono ?_
  rintro e u2 ⟨rfl, hb2⟩
  have HB3 : Hid (Below w.heap.size w u2) := HB2.out.trans (hb2.mono HB2.out.size)
  clear C2 hb2 g2
  go_wp2
  go_ret
  exact ⟨rfl, HB3.out⟩

end Go.Proofs.YtgpjlgffmlkkoaaDoor
