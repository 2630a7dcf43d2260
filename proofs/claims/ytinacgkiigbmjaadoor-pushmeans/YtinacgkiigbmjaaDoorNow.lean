/- holdsNow: a formula that looks at no later place. -/
import Derived.Test.YtinacgkiigbmjaaDoorFbh
import Derived.Test.YtinacgkiigbmjaaDoorWfm
namespace Go.Proofs.YtinacgkiigbmjaaDoor
open Go.RowKit

/-- What holdsNow tells of a place. -/
def nowV (Z : Nat → Int) (k x : Int) (K : Nat → Nat → Bool) (p : Nat) : Bool := if k = 3 then decide (Z p / 2 ^ x.toNat % 2 = 1) else if k = 4 then !K 0 p else if k = 5 then K 0 p && K 1 p else if k = 6 then K 0 p || K 1 p else decide (k = 1)

set_option maxHeartbeats 1000000 in
theorem now_k3 {w : World} (la : Option Addr) (n lc again : Nat) (x : Int) (ka : Option Addr) (c kc : Nat) (ba : Option Addr) (bc : Nat) {Z : Nat → Int} {K : Nat → Nat → Bool} (hn : n ≤ 60) (hZ : RowU w la n Z) (hu64 : ∀ i, i < n → 0 ≤ Z i ∧ Z i < 18446744073709551616) (hx0 : 0 ≤ x) (hx1 : x ≤ 63) :
    Calls Tryd.prog 61 #[.agg #[.slice la n lc, .int .i64 again], .agg #[.int .i64 3, .int .i64 x, .slice ka c kc], .slice ba c bc] w fun e w' => NewB w n (nowV Z 3 x K) e w' := by
  obtain ⟨u, hu⟩ : ∃ y, y = ((w.alloc (.cells #[.slice la n lc, .int .i64 again] 63)).alloc (.cells #[.int .i64 3, .int .i64 x, .slice ka c kc] 24)).alloc (.cells #[.slice ba c bc] 70) := ⟨_, rfl⟩
  have hB : Below w.heap.size w u := by rw [hu]; exact below_alloc3 _ _ _ _
  obtain ⟨h1, h2, h3⟩ := three_boxes w #[.slice la n lc, .int .i64 again] #[.int .i64 3, .int .i64 x, .slice ka c kc] #[.slice ba c bc] 63 24 70
  rw [← hu] at h1 h2 h3
  have c1 : u.cell? ⟨w.heap.size, 0, none⟩ = some (.slice la n lc) := cell_of_cells h1 rfl
  have c2 : u.cell? ⟨w.heap.size + 1, 1, none⟩ = some (.int .i64 x) := cell_of_cells h2 rfl
  have C := hid (each61_any u la n lc again (nowV Z 3 x K) (.pointer (some ⟨w.heap.size, 0, none⟩)) (.pointer (some ⟨w.heap.size + 1, 0, none⟩)) hn (fun p z hp hz =>
    (atom1_any (below_cell hz (Nat.le_refl _) c1) (below_cell hz (Nat.le_refl _) c2) ((hZ.below hB).below hz) hu64 hx0 hx1 p hp).mono (fun e u' hh => ⟨hh.1, by obtain ⟨q, hq⟩ := hh.2; rw [hq]; exact below_drewN (Below.refl _ _) _⟩)))
  have HU := hid hu
  have HB := hid hB
  clear hu hB h1 h2 h3 c1 c2 hZ hu64
  go_enter Tryd.func61, Tryd.ntmps61
  go_wp2_with fail
  rw [← HU.out]
  refine C.out.mono ?_
  rintro e w2 ⟨b, rfl, h⟩
  have H := hid h
  clear C h
  go_wp2
  go_ret
  exact NewB.from ⟨b, rfl, H.out⟩ HB.out

set_option maxHeartbeats 1000000 in
theorem now_k4 {w : World} (la : Option Addr) (n lc again : Nat) (x : Int) (ka : Option Addr) (c kc : Nat) (ba : Option Addr) (bc : Nat) {Z : Nat → Int} {K : Nat → Nat → Bool} (hn : n ≤ 60) (hK : Kb w ba c n K) (hc : 0 < c) :
    Calls Tryd.prog 61 #[.agg #[.slice la n lc, .int .i64 again], .agg #[.int .i64 4, .int .i64 x, .slice ka c kc], .slice ba c bc] w fun e w' => NewB w n (nowV Z 4 x K) e w' := by
  obtain ⟨u, hu⟩ : ∃ y, y = ((w.alloc (.cells #[.slice la n lc, .int .i64 again] 63)).alloc (.cells #[.int .i64 4, .int .i64 x, .slice ka c kc] 24)).alloc (.cells #[.slice ba c bc] 70) := ⟨_, rfl⟩
  have hB : Below w.heap.size w u := by rw [hu]; exact below_alloc3 _ _ _ _
  obtain ⟨h1, h2, h3⟩ := three_boxes w #[.slice la n lc, .int .i64 again] #[.int .i64 4, .int .i64 x, .slice ka c kc] #[.slice ba c bc] 63 24 70
  rw [← hu] at h1 h2 h3
  have c3 : u.cell? ⟨w.heap.size + 1 + 1, 0, none⟩ = some (.slice ba c bc) := cell_of_cells h3 rfl
  have C := hid (each62_any u la n lc again (nowV Z 4 x K) (.pointer (some ⟨w.heap.size + 1 + 1, 0, none⟩)) hn (fun p z hp hz =>
    (now2_any (below_cell hz (Nat.le_refl _) c3) ((hK.below hB).below hz) hc hn p hp).mono (fun e u' hh => ⟨hh.1, by rw [hh.2]; exact Below.refl _ _⟩)))
  have HU := hid hu
  have HB := hid hB
  clear hu hB h1 h2 h3 c3 hK
  go_enter Tryd.func61, Tryd.ntmps61
  go_wp2_with fail
  rw [← HU.out]
  refine C.out.mono ?_
  rintro e w2 ⟨b, rfl, h⟩
  have H := hid h
  clear C h
  go_wp2
  go_ret
  exact NewB.from ⟨b, rfl, H.out⟩ HB.out

set_option maxHeartbeats 1000000 in
theorem now_k5 {w : World} (la : Option Addr) (n lc again : Nat) (x : Int) (ka : Option Addr) (c kc : Nat) (ba : Option Addr) (bc : Nat) {Z : Nat → Int} {K : Nat → Nat → Bool} (hn : n ≤ 60) (hK : Kb w ba c n K) (hc : 1 < c) :
    Calls Tryd.prog 61 #[.agg #[.slice la n lc, .int .i64 again], .agg #[.int .i64 5, .int .i64 x, .slice ka c kc], .slice ba c bc] w fun e w' => NewB w n (nowV Z 5 x K) e w' := by
  obtain ⟨u, hu⟩ : ∃ y, y = ((w.alloc (.cells #[.slice la n lc, .int .i64 again] 63)).alloc (.cells #[.int .i64 5, .int .i64 x, .slice ka c kc] 24)).alloc (.cells #[.slice ba c bc] 70) := ⟨_, rfl⟩
  have hB : Below w.heap.size w u := by rw [hu]; exact below_alloc3 _ _ _ _
  obtain ⟨h1, h2, h3⟩ := three_boxes w #[.slice la n lc, .int .i64 again] #[.int .i64 5, .int .i64 x, .slice ka c kc] #[.slice ba c bc] 63 24 70
  rw [← hu] at h1 h2 h3
  have c3 : u.cell? ⟨w.heap.size + 1 + 1, 0, none⟩ = some (.slice ba c bc) := cell_of_cells h3 rfl
  have C := hid (each63_any u la n lc again (nowV Z 5 x K) (.pointer (some ⟨w.heap.size + 1 + 1, 0, none⟩)) hn (fun p z hp hz =>
    (now3_any (below_cell hz (Nat.le_refl _) c3) ((hK.below hB).below hz) hc hn p hp).mono (fun e u' hh => ⟨hh.1, by rw [hh.2]; exact Below.refl _ _⟩)))
  have HU := hid hu
  have HB := hid hB
  clear hu hB h1 h2 h3 c3 hK
  go_enter Tryd.func61, Tryd.ntmps61
  go_wp2_with fail
  rw [← HU.out]
  refine C.out.mono ?_
  rintro e w2 ⟨b, rfl, h⟩
  have H := hid h
  clear C h
  go_wp2
  go_ret
  exact NewB.from ⟨b, rfl, H.out⟩ HB.out

set_option maxHeartbeats 1000000 in
theorem now_k6 {w : World} (la : Option Addr) (n lc again : Nat) (x : Int) (ka : Option Addr) (c kc : Nat) (ba : Option Addr) (bc : Nat) {Z : Nat → Int} {K : Nat → Nat → Bool} (hn : n ≤ 60) (hK : Kb w ba c n K) (hc : 1 < c) :
    Calls Tryd.prog 61 #[.agg #[.slice la n lc, .int .i64 again], .agg #[.int .i64 6, .int .i64 x, .slice ka c kc], .slice ba c bc] w fun e w' => NewB w n (nowV Z 6 x K) e w' := by
  obtain ⟨u, hu⟩ : ∃ y, y = ((w.alloc (.cells #[.slice la n lc, .int .i64 again] 63)).alloc (.cells #[.int .i64 6, .int .i64 x, .slice ka c kc] 24)).alloc (.cells #[.slice ba c bc] 70) := ⟨_, rfl⟩
  have hB : Below w.heap.size w u := by rw [hu]; exact below_alloc3 _ _ _ _
  obtain ⟨h1, h2, h3⟩ := three_boxes w #[.slice la n lc, .int .i64 again] #[.int .i64 6, .int .i64 x, .slice ka c kc] #[.slice ba c bc] 63 24 70
  rw [← hu] at h1 h2 h3
  have c3 : u.cell? ⟨w.heap.size + 1 + 1, 0, none⟩ = some (.slice ba c bc) := cell_of_cells h3 rfl
  have C := hid (each64_any u la n lc again (nowV Z 6 x K) (.pointer (some ⟨w.heap.size + 1 + 1, 0, none⟩)) hn (fun p z hp hz =>
    (now4_any (below_cell hz (Nat.le_refl _) c3) ((hK.below hB).below hz) hc hn p hp).mono (fun e u' hh => ⟨hh.1, by rw [hh.2]; exact Below.refl _ _⟩)))
  have HU := hid hu
  have HB := hid hB
  clear hu hB h1 h2 h3 c3 hK
  go_enter Tryd.func61, Tryd.ntmps61
  go_wp2_with fail
  rw [← HU.out]
  refine C.out.mono ?_
  rintro e w2 ⟨b, rfl, h⟩
  have H := hid h
  clear C h
  go_wp2
  go_ret
  exact NewB.from ⟨b, rfl, H.out⟩ HB.out

set_option maxHeartbeats 1000000 in
theorem now_k1 {w : World} (la : Option Addr) (n lc again : Nat) (x : Int) (ka : Option Addr) (c kc : Nat) (ba : Option Addr) (bc : Nat) {Z : Nat → Int} {K : Nat → Nat → Bool} (hn : n ≤ 60) :
    Calls Tryd.prog 61 #[.agg #[.slice la n lc, .int .i64 again], .agg #[.int .i64 1, .int .i64 x, .slice ka c kc], .slice ba c bc] w fun e w' => NewB w n (nowV Z 1 x K) e w' := by
  obtain ⟨u, hu⟩ : ∃ y, y = ((w.alloc (.cells #[.slice la n lc, .int .i64 again] 63)).alloc (.cells #[.int .i64 1, .int .i64 x, .slice ka c kc] 24)).alloc (.cells #[.slice ba c bc] 70) := ⟨_, rfl⟩
  have hB : Below w.heap.size w u := by rw [hu]; exact below_alloc3 _ _ _ _
  obtain ⟨h1, h2, h3⟩ := three_boxes w #[.slice la n lc, .int .i64 again] #[.int .i64 1, .int .i64 x, .slice ka c kc] #[.slice ba c bc] 63 24 70
  rw [← hu] at h1 h2 h3
  have C := hid (all_any (w := u) la n lc again true hn)
  have HU := hid hu
  have HB := hid hB
  clear hu hB h1 h2 h3
  go_enter Tryd.func61, Tryd.ntmps61
  go_wp2_with fail
  rw [← HU.out]
  refine C.out.mono ?_
  rintro e w2 ⟨b, rfl, h⟩
  have H := hid h
  clear C h
  go_wp2
  go_ret
  exact NewB.from ⟨b, rfl, H.out⟩ HB.out

set_option maxHeartbeats 1000000 in
theorem now_k2 {w : World} (la : Option Addr) (n lc again : Nat) (x : Int) (ka : Option Addr) (c kc : Nat) (ba : Option Addr) (bc : Nat) {Z : Nat → Int} {K : Nat → Nat → Bool} (hn : n ≤ 60) :
    Calls Tryd.prog 61 #[.agg #[.slice la n lc, .int .i64 again], .agg #[.int .i64 2, .int .i64 x, .slice ka c kc], .slice ba c bc] w fun e w' => NewB w n (nowV Z 2 x K) e w' := by
  obtain ⟨u, hu⟩ : ∃ y, y = ((w.alloc (.cells #[.slice la n lc, .int .i64 again] 63)).alloc (.cells #[.int .i64 2, .int .i64 x, .slice ka c kc] 24)).alloc (.cells #[.slice ba c bc] 70) := ⟨_, rfl⟩
  have hB : Below w.heap.size w u := by rw [hu]; exact below_alloc3 _ _ _ _
  obtain ⟨h1, h2, h3⟩ := three_boxes w #[.slice la n lc, .int .i64 again] #[.int .i64 2, .int .i64 x, .slice ka c kc] #[.slice ba c bc] 63 24 70
  rw [← hu] at h1 h2 h3
  have C := hid (all_any (w := u) la n lc again false hn)
  have HU := hid hu
  have HB := hid hB
  clear hu hB h1 h2 h3
  go_enter Tryd.func61, Tryd.ntmps61
  go_wp2_with fail
  rw [← HU.out]
  refine C.out.mono ?_
  rintro e w2 ⟨b, rfl, h⟩
  have H := hid h
  clear C h
  go_wp2
  go_ret
  exact NewB.from ⟨b, rfl, H.out⟩ HB.out

end Go.Proofs.YtinacgkiigbmjaaDoor
