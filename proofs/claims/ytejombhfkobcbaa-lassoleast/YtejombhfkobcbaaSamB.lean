/- Same, where a word is not in order. -/
import Derived.Test.YtejombhfkobcbaaSam
namespace Go.Proofs.Ytejombhfkobcbaa
open Go.RowKit

set_option maxHeartbeats 4000000 in
theorem sameF_bad1 {w : World} {sa : Option Addr} {s sc : Nat} {la : Option Addr} {m lc : Nat} {sb : Option Addr} {t tc : Nat} {lb : Option Addr} {n nc : Nat} (hs : s ≤ 140737488355328) (hm : m ≤ 140737488355328) (hq : wchk s m ≠ 0) :
    Calls Try.prog 6 #[.agg #[.slice sa s sc, .slice la m lc], .agg #[.slice sb t tc, .slice lb n nc]] w fun e w' => e = .returned (.tuple #[.bool false, .int .i64 (wchk s m)]) ∧ Below w.heap.size w w' := by
  obtain ⟨u, hu⟩ : ∃ y, y = (w.alloc (.cells #[.slice sa s sc, .slice la m lc] 24)).alloc (.cells #[.slice sb t tc, .slice lb n nc] 24) := ⟨_, rfl⟩
  have hB : Below w.heap.size w u := by rw [hu]; exact below_alloc2 _ _ _
  have C1 := hid (wcheck_any sa s sc la m lc u hs hm)
  have HU := hid hu
  have HB := hid hB
  have hqb : (wchk s m != 0) = true := by simpa using hq
  generalize wchk s m = q at *
  clear hu hB
  go_enter Try.func6, Try.ntmps6
  go_wp2_with fail
  rw [← HU.out]
  refine C1.out.mono ?_
  rintro e z ⟨rfl, hb⟩
  have HB2 := hid (HB.out.trans (hb.mono HB.out.size))
  clear hb C1 HU HB
  go_wp2
  go_ret2
  exact ⟨rfl, HB2.out⟩

set_option maxHeartbeats 4000000 in
theorem sameF_bad2 {w : World} {sa : Option Addr} {s sc : Nat} {la : Option Addr} {m lc : Nat} {sb : Option Addr} {t tc : Nat} {lb : Option Addr} {n nc : Nat} (hs : s ≤ 140737488355328) (hm : m ≤ 140737488355328) (h0 : wchk s m = 0) (ht : t ≤ 140737488355328) (hn : n ≤ 140737488355328) (hq : wchk t n ≠ 0) :
    Calls Try.prog 6 #[.agg #[.slice sa s sc, .slice la m lc], .agg #[.slice sb t tc, .slice lb n nc]] w fun e w' => e = .returned (.tuple #[.bool false, .int .i64 (wchk t n)]) ∧ Below w.heap.size w w' := by
  obtain ⟨u, hu⟩ : ∃ y, y = (w.alloc (.cells #[.slice sa s sc, .slice la m lc] 24)).alloc (.cells #[.slice sb t tc, .slice lb n nc] 24) := ⟨_, rfl⟩
  have hB : Below w.heap.size w u := by rw [hu]; exact below_alloc2 _ _ _
  have e1 : (w.alloc (.cells #[.slice sa s sc, .slice la m lc] 24)).heap.size = w.heap.size + 1 := by simp
  have x2 : u.heap[w.heap.size + 1]? = some (.cells #[.slice sb t tc, .slice lb n nc] 24) := by rw [hu]; exact alloc_last _ e1
  have C1 := hid (wcheck_any sa s sc la m lc u hs hm)
  rw [h0] at C1
  have C2 : Hid (∀ y, Calls Try.prog 10 #[.agg #[.slice sb t tc, .slice lb n nc]] y fun e w' => e = .returned (.int .i64 (wchk t n)) ∧ Below y.heap.size y w') := fun y => wcheck_any sb t tc lb n nc y ht hn
  have HU := hid hu
  have HB := hid hB
  have HX2 := hid x2
  have hqb : (wchk t n != 0) = true := by simpa using hq
  generalize wchk t n = q at *
  clear hu hB e1 x2 h0
  go_enter Try.func6, Try.ntmps6
  go_wp2_with fail
  rw [← HU.out]
  refine C1.out.mono ?_
  rintro e z ⟨rfl, hb⟩
  have g0 : z.cell? ⟨w.heap.size + 1, 0, none⟩ = some (.slice sb t tc) := below_cell hb (Nat.le_refl _) (cell_of_cells HX2.out rfl)
  have g1 : z.cell? ⟨w.heap.size + 1, 1, none⟩ = some (.slice lb n nc) := below_cell hb (Nat.le_refl _) (cell_of_cells HX2.out rfl)
  have HB2 := hid (HB.out.trans (hb.mono HB.out.size))
  have D := hid (C2.out z)
  clear hb C1 C2 HU HB HX2
  go_wp2_with fail
  refine D.out.mono ?_
  rintro e z2 ⟨rfl, hb⟩
  have HB3 := hid (HB2.out.trans (hb.mono HB2.out.size))
  clear hb D g0 g1
  go_wp2
  go_ret2
  exact ⟨rfl, HB3.out⟩

end Go.Proofs.Ytejombhfkobcbaa
