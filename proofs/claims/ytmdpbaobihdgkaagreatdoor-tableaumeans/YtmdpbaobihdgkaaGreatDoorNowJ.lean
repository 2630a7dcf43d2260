/- holdsNow: a formula that looks at no later place. holds: where a formula holds, at each place of a row of letters.  -/
import Derived.Test.YtmdpbaobihdgkaaGreatDoorFbh
import Derived.Test.YtmdpbaobihdgkaaGreatDoorWfmJ
import Derived.Deep.CutRange
import Derived.Test.YtmdpbaobihdgkaaGreatDoorAFamJ
/- tableau: a list of lists of bools that grows by append (the variable kids of truths). -/
namespace Go.Proofs.YtmdpbaobihdgkaaGreatDoor
open Go.RowKit

/-- What holdsNow tells of a place. -/
def nowV (Z : Nat → Int) (k x : Int) (K : Nat → Nat → Bool) (p : Nat) : Bool := if k = 3 then decide (Z p / 2 ^ x.toNat % 2 = 1) else if k = 4 then !K 0 p else if k = 5 then K 0 p && K 1 p else if k = 6 then K 0 p || K 1 p else decide (k = 1)

set_option maxHeartbeats 1000000 in
theorem now_k3 {w : World} (la : Option Addr) (n lc again : Nat) (x : Int) (ka : Option Addr) (c kc : Nat) (ba : Option Addr) (bc : Nat) {Z : Nat → Int} {K : Nat → Nat → Bool} (hn : n ≤ 60) (hZ : RowU w la n Z) (hu64 : ∀ i, i < n → 0 ≤ Z i ∧ Z i < 18446744073709551616) (hx0 : 0 ≤ x) (hx1 : x ≤ 63) :
    Calls Tryz.prog 100 #[.agg #[.slice la n lc, .int .i64 again], .agg #[.int .i64 3, .int .i64 x, .slice ka c kc], .slice ba c bc] w fun e w' => NewB w n (nowV Z 3 x K) e w' := by
  obtain ⟨u, hu⟩ : ∃ y, y = ((w.alloc (.cells #[.slice la n lc, .int .i64 again] 106)).alloc (.cells #[.int .i64 3, .int .i64 x, .slice ka c kc] 24)).alloc (.cells #[.slice ba c bc] 100) := ⟨_, rfl⟩
  have hB : Below w.heap.size w u := by rw [hu]; exact below_alloc3 _ _ _ _
  obtain ⟨h1, h2, h3⟩ := three_boxes w #[.slice la n lc, .int .i64 again] #[.int .i64 3, .int .i64 x, .slice ka c kc] #[.slice ba c bc] 106 24 100
  rw [← hu] at h1 h2 h3
  have c1 : u.cell? ⟨w.heap.size, 0, none⟩ = some (.slice la n lc) := cell_of_cells h1 rfl
  have c2 : u.cell? ⟨w.heap.size + 1, 1, none⟩ = some (.int .i64 x) := cell_of_cells h2 rfl
  have C := hid (each61_any u la n lc again (nowV Z 3 x K) (.pointer (some ⟨w.heap.size, 0, none⟩)) (.pointer (some ⟨w.heap.size + 1, 0, none⟩)) hn (fun p z hp hz =>
    (atom1_any (below_cell hz (Nat.le_refl _) c1) (below_cell hz (Nat.le_refl _) c2) ((hZ.below hB).below hz) hu64 hx0 hx1 p hp).mono (fun e u' hh => ⟨hh.1, by obtain ⟨q, hq⟩ := hh.2; rw [hq]; exact below_drewN (Below.refl _ _) _⟩)))
  have HU := hid hu
  have HB := hid hB
  clear hu hB h1 h2 h3 c1 c2 hZ hu64
  go_enter Tryz.func100, Tryz.ntmps100
  go_wp2_with fail
  rw [← HU.out]
  refine C.out.mono ?_
  rintro e w2 ⟨b, rfl, h⟩
  have H := hid h
  clear C h
  go_wp2
  go_ret
  exact NewB.from ⟨b, rfl, H.out⟩ HB.out

set_option maxHeartbeats 1000000 in
theorem now_k4 {w : World} (la : Option Addr) (n lc again : Nat) (x : Int) (ka : Option Addr) (c kc : Nat) (ba : Option Addr) (bc : Nat) {Z : Nat → Int} {K : Nat → Nat → Bool} (hn : n ≤ 60) (hK : Kb w ba c n K) (hc : 0 < c) :
    Calls Tryz.prog 100 #[.agg #[.slice la n lc, .int .i64 again], .agg #[.int .i64 4, .int .i64 x, .slice ka c kc], .slice ba c bc] w fun e w' => NewB w n (nowV Z 4 x K) e w' := by
  obtain ⟨u, hu⟩ : ∃ y, y = ((w.alloc (.cells #[.slice la n lc, .int .i64 again] 106)).alloc (.cells #[.int .i64 4, .int .i64 x, .slice ka c kc] 24)).alloc (.cells #[.slice ba c bc] 100) := ⟨_, rfl⟩
  have hB : Below w.heap.size w u := by rw [hu]; exact below_alloc3 _ _ _ _
  obtain ⟨h1, h2, h3⟩ := three_boxes w #[.slice la n lc, .int .i64 again] #[.int .i64 4, .int .i64 x, .slice ka c kc] #[.slice ba c bc] 106 24 100
  rw [← hu] at h1 h2 h3
  have c3 : u.cell? ⟨w.heap.size + 1 + 1, 0, none⟩ = some (.slice ba c bc) := cell_of_cells h3 rfl
  have C := hid (each62_any u la n lc again (nowV Z 4 x K) (.pointer (some ⟨w.heap.size + 1 + 1, 0, none⟩)) hn (fun p z hp hz =>
    (now2_any (below_cell hz (Nat.le_refl _) c3) ((hK.below hB).below hz) hc hn p hp).mono (fun e u' hh => ⟨hh.1, by rw [hh.2]; exact Below.refl _ _⟩)))
  have HU := hid hu
  have HB := hid hB
  clear hu hB h1 h2 h3 c3 hK
  go_enter Tryz.func100, Tryz.ntmps100
  go_wp2_with fail
  rw [← HU.out]
  refine C.out.mono ?_
  rintro e w2 ⟨b, rfl, h⟩
  have H := hid h
  clear C h
  go_wp2
  go_ret
  exact NewB.from ⟨b, rfl, H.out⟩ HB.out

set_option maxHeartbeats 1000000 in
theorem now_k5 {w : World} (la : Option Addr) (n lc again : Nat) (x : Int) (ka : Option Addr) (c kc : Nat) (ba : Option Addr) (bc : Nat) {Z : Nat → Int} {K : Nat → Nat → Bool} (hn : n ≤ 60) (hK : Kb w ba c n K) (hc : 1 < c) :
    Calls Tryz.prog 100 #[.agg #[.slice la n lc, .int .i64 again], .agg #[.int .i64 5, .int .i64 x, .slice ka c kc], .slice ba c bc] w fun e w' => NewB w n (nowV Z 5 x K) e w' := by
  obtain ⟨u, hu⟩ : ∃ y, y = ((w.alloc (.cells #[.slice la n lc, .int .i64 again] 106)).alloc (.cells #[.int .i64 5, .int .i64 x, .slice ka c kc] 24)).alloc (.cells #[.slice ba c bc] 100) := ⟨_, rfl⟩
  have hB : Below w.heap.size w u := by rw [hu]; exact below_alloc3 _ _ _ _
  obtain ⟨h1, h2, h3⟩ := three_boxes w #[.slice la n lc, .int .i64 again] #[.int .i64 5, .int .i64 x, .slice ka c kc] #[.slice ba c bc] 106 24 100
  rw [← hu] at h1 h2 h3
  have c3 : u.cell? ⟨w.heap.size + 1 + 1, 0, none⟩ = some (.slice ba c bc) := cell_of_cells h3 rfl
  have C := hid (each63_any u la n lc again (nowV Z 5 x K) (.pointer (some ⟨w.heap.size + 1 + 1, 0, none⟩)) hn (fun p z hp hz =>
    (now3_any (below_cell hz (Nat.le_refl _) c3) ((hK.below hB).below hz) hc hn p hp).mono (fun e u' hh => ⟨hh.1, by rw [hh.2]; exact Below.refl _ _⟩)))
  have HU := hid hu
  have HB := hid hB
  clear hu hB h1 h2 h3 c3 hK
  go_enter Tryz.func100, Tryz.ntmps100
  go_wp2_with fail
  rw [← HU.out]
  refine C.out.mono ?_
  rintro e w2 ⟨b, rfl, h⟩
  have H := hid h
  clear C h
  go_wp2
  go_ret
  exact NewB.from ⟨b, rfl, H.out⟩ HB.out

set_option maxHeartbeats 1000000 in
theorem now_k6 {w : World} (la : Option Addr) (n lc again : Nat) (x : Int) (ka : Option Addr) (c kc : Nat) (ba : Option Addr) (bc : Nat) {Z : Nat → Int} {K : Nat → Nat → Bool} (hn : n ≤ 60) (hK : Kb w ba c n K) (hc : 1 < c) :
    Calls Tryz.prog 100 #[.agg #[.slice la n lc, .int .i64 again], .agg #[.int .i64 6, .int .i64 x, .slice ka c kc], .slice ba c bc] w fun e w' => NewB w n (nowV Z 6 x K) e w' := by
  obtain ⟨u, hu⟩ : ∃ y, y = ((w.alloc (.cells #[.slice la n lc, .int .i64 again] 106)).alloc (.cells #[.int .i64 6, .int .i64 x, .slice ka c kc] 24)).alloc (.cells #[.slice ba c bc] 100) := ⟨_, rfl⟩
  have hB : Below w.heap.size w u := by rw [hu]; exact below_alloc3 _ _ _ _
  obtain ⟨h1, h2, h3⟩ := three_boxes w #[.slice la n lc, .int .i64 again] #[.int .i64 6, .int .i64 x, .slice ka c kc] #[.slice ba c bc] 106 24 100
  rw [← hu] at h1 h2 h3
  have c3 : u.cell? ⟨w.heap.size + 1 + 1, 0, none⟩ = some (.slice ba c bc) := cell_of_cells h3 rfl
  have C := hid (each64_any u la n lc again (nowV Z 6 x K) (.pointer (some ⟨w.heap.size + 1 + 1, 0, none⟩)) hn (fun p z hp hz =>
    (now4_any (below_cell hz (Nat.le_refl _) c3) ((hK.below hB).below hz) hc hn p hp).mono (fun e u' hh => ⟨hh.1, by rw [hh.2]; exact Below.refl _ _⟩)))
  have HU := hid hu
  have HB := hid hB
  clear hu hB h1 h2 h3 c3 hK
  go_enter Tryz.func100, Tryz.ntmps100
  go_wp2_with fail
  rw [← HU.out]
  refine C.out.mono ?_
  rintro e w2 ⟨b, rfl, h⟩
  have H := hid h
  clear C h
  go_wp2
  go_ret
  exact NewB.from ⟨b, rfl, H.out⟩ HB.out

set_option maxHeartbeats 1000000 in
theorem now_k1 {w : World} (la : Option Addr) (n lc again : Nat) (x : Int) (ka : Option Addr) (c kc : Nat) (ba : Option Addr) (bc : Nat) {Z : Nat → Int} {K : Nat → Nat → Bool} (hn : n ≤ 60) :
    Calls Tryz.prog 100 #[.agg #[.slice la n lc, .int .i64 again], .agg #[.int .i64 1, .int .i64 x, .slice ka c kc], .slice ba c bc] w fun e w' => NewB w n (nowV Z 1 x K) e w' := by
  obtain ⟨u, hu⟩ : ∃ y, y = ((w.alloc (.cells #[.slice la n lc, .int .i64 again] 106)).alloc (.cells #[.int .i64 1, .int .i64 x, .slice ka c kc] 24)).alloc (.cells #[.slice ba c bc] 100) := ⟨_, rfl⟩
  have hB : Below w.heap.size w u := by rw [hu]; exact below_alloc3 _ _ _ _
  obtain ⟨h1, h2, h3⟩ := three_boxes w #[.slice la n lc, .int .i64 again] #[.int .i64 1, .int .i64 x, .slice ka c kc] #[.slice ba c bc] 106 24 100
  rw [← hu] at h1 h2 h3
  have C := hid (all_any (w := u) la n lc again true hn)
  have HU := hid hu
  have HB := hid hB
  clear hu hB h1 h2 h3
  go_enter Tryz.func100, Tryz.ntmps100
  go_wp2_with fail
  rw [← HU.out]
  refine C.out.mono ?_
  rintro e w2 ⟨b, rfl, h⟩
  have H := hid h
  clear C h
  go_wp2
  go_ret
  exact NewB.from ⟨b, rfl, H.out⟩ HB.out

set_option maxHeartbeats 1000000 in
theorem now_k2 {w : World} (la : Option Addr) (n lc again : Nat) (x : Int) (ka : Option Addr) (c kc : Nat) (ba : Option Addr) (bc : Nat) {Z : Nat → Int} {K : Nat → Nat → Bool} (hn : n ≤ 60) :
    Calls Tryz.prog 100 #[.agg #[.slice la n lc, .int .i64 again], .agg #[.int .i64 2, .int .i64 x, .slice ka c kc], .slice ba c bc] w fun e w' => NewB w n (nowV Z 2 x K) e w' := by
  obtain ⟨u, hu⟩ : ∃ y, y = ((w.alloc (.cells #[.slice la n lc, .int .i64 again] 106)).alloc (.cells #[.int .i64 2, .int .i64 x, .slice ka c kc] 24)).alloc (.cells #[.slice ba c bc] 100) := ⟨_, rfl⟩
  have hB : Below w.heap.size w u := by rw [hu]; exact below_alloc3 _ _ _ _
  obtain ⟨h1, h2, h3⟩ := three_boxes w #[.slice la n lc, .int .i64 again] #[.int .i64 2, .int .i64 x, .slice ka c kc] #[.slice ba c bc] 106 24 100
  rw [← hu] at h1 h2 h3
  have C := hid (all_any (w := u) la n lc again false hn)
  have HU := hid hu
  have HB := hid hB
  clear hu hB h1 h2 h3
  go_enter Tryz.func100, Tryz.ntmps100
  go_wp2_with fail
  rw [← HU.out]
  refine C.out.mono ?_
  rintro e w2 ⟨b, rfl, h⟩
  have H := hid h
  clear C h
  go_wp2
  go_ret
  exact NewB.from ⟨b, rfl, H.out⟩ HB.out

end Go.Proofs.YtmdpbaobihdgkaaGreatDoor

namespace Go.Proofs.YtmdpbaobihdgkaaGreatDoor
open Go.RowKit

theorem Tryz.info44 : (Tryz.prog.info? 44).map (fun i => (i.zero, i.size, i.bytes)) = some (some (.slice none 0 0), 1, 24) := by kernel_rfl

/-- The lists of the first k Kids lie in block b. -/
structure Kp (w : World) (b c k n : Nat) (K : Nat → Nat → Bool) : Prop where
  row : ∃ V : Nat → Nat, w.rowIs b 44 c (fun i => if i < k then .slice (some ⟨V i, 0, none⟩) n n else .slice none 0 0) ∧ ∀ i, i < k → w.rowIs (V i) 4 n (fun p => .bool (K i p))

theorem Kp.below {w w' : World} {b c k n : Nat} {K : Nat → Nat → Bool} (h : Kp w b c k n K) (hb : Below w.heap.size w w') : Kp w' b c k n K := by
  obtain ⟨V, h1, h2⟩ := h.row
  exact ⟨V, rowIs_below h1 hb, fun i hi => rowIs_below (h2 i hi) hb⟩

theorem Kp.kb {w : World} {b c n : Nat} {K : Nat → Nat → Bool} (h : Kp w b c c n K) : Kb w (some ⟨b, 0, none⟩) c n K := by
  obtain ⟨V, h1, h2⟩ := h.row
  refine ⟨b, 0, fun _ => rfl, fun i hi => ⟨some ⟨V i, 0, none⟩, n, ?_, rowIs_rowB (h2 i hi)⟩⟩
  have := h1.cell hi
  rw [if_pos hi] at this
  rw [Nat.zero_add]
  exact this

theorem rowIs_ne {w : World} {b b' n n' : Nat} {t t' : TypeId} {f f' : Nat → Value} (h : w.rowIs b t n f) (h' : w.rowIs b' t' n' f') (ht : t ≠ t') : b ≠ b' := by
  rintro rfl
  obtain ⟨c, e, _⟩ := h
  obtain ⟨c', e', _⟩ := h'
  rw [e] at e'
  injection e' with e'
  injection e' with _ e''
  exact ht e''

/-- One more list. -/
theorem Kp.put {w : World} {b c k n v : Nat} {K : Nat → Nat → Bool} (h : Kp w b c k n K) (hv : w.rowIs v 4 n (fun p => .bool (K k p))) : Kp (w.setCell ⟨b, k, none⟩ (.slice (some ⟨v, 0, none⟩) n n)) b c (k + 1) n K := by
  obtain ⟨V, h1, h2⟩ := h.row
  refine ⟨fun i => if i = k then v else V i, (h1.set k _).congr (fun i hi => ?_), fun i hi => ?_⟩
  · by_cases e : i = k
    · subst e; simp
    · rw [if_neg e]
      by_cases e2 : i < k
      · rw [if_pos e2, if_pos (by omega)]; simp only [if_neg e]
      · rw [if_neg e2, if_neg (by omega)]
  · by_cases e : i = k
    · subst e
      simp only [if_true]
      exact hv.setOther (rowIs_ne hv h1 (by decide)) _
    · simp only [if_neg e]
      have := h2 i (by omega)
      exact this.setOther (rowIs_ne this h1 (by decide)) _

/-- The boxes of holds: the row, the formula, the variable kids. -/
structure Hx (w : World) (B : Nat) (la : Option Addr) (n lc : Nat) (s : Int) (k x : Int) (ka : Option Addr) (c kc : Nat) : Prop where
  r0 : w.cell? ⟨B, 0, none⟩ = some (.slice la n lc)
  r1 : w.cell? ⟨B, 1, none⟩ = some (.int .i64 s)
  f0 : w.cell? ⟨B + 1, 0, none⟩ = some (.int .i64 k)
  f1 : w.cell? ⟨B + 1, 1, none⟩ = some (.int .i64 x)
  f2 : w.cell? ⟨B + 1, 2, none⟩ = some (.slice ka c kc)
  kv : w.cell? ⟨B + 1 + 1 + 1, 0, none⟩ = some (.slice (some ⟨B + 1 + 1, 0, none⟩) c c)

theorem Hx.below {w w' : World} {B : Nat} {la : Option Addr} {n lc : Nat} {s k x : Int} {ka : Option Addr} {c kc : Nat} (h : Hx w B la n lc s k x ka c kc) (hb : Below w.heap.size w w') : Hx w' B la n lc s k x ka c kc :=
  ⟨below_cell hb (Nat.le_refl _) h.r0, below_cell hb (Nat.le_refl _) h.r1, below_cell hb (Nat.le_refl _) h.f0, below_cell hb (Nat.le_refl _) h.f1, below_cell hb (Nat.le_refl _) h.f2, below_cell hb (Nat.le_refl _) h.kv⟩

theorem Hx.but {w w' : World} {B : Nat} {la : Option Addr} {n lc : Nat} {s k x : Int} {ka : Option Addr} {c kc : Nat} (h : Hx w B la n lc s k x ka c kc) (hb : But (B + 1 + 1) w w') : Hx w' B la n lc s k x ka c kc :=
  ⟨hb.cell (by show B ≠ B + 1 + 1; omega) h.r0, hb.cell (by show B ≠ B + 1 + 1; omega) h.r1, hb.cell (by show B + 1 ≠ B + 1 + 1; omega) h.f0, hb.cell (by show B + 1 ≠ B + 1 + 1; omega) h.f1, hb.cell (by show B + 1 ≠ B + 1 + 1; omega) h.f2, hb.cell (by show B + 1 + 1 + 1 ≠ B + 1 + 1; omega) h.kv⟩

theorem keep_set {w : World} {q j : Nat} {v x : Value} {a : Addr} (h : w.cell? a = some x) (hne : a.block ≠ q) : (w.setCell ⟨q, j, none⟩ v).cell? a = some x := ((But.refl q w).setCell j v).cell hne h

end Go.Proofs.YtmdpbaobihdgkaaGreatDoor

namespace Go.Proofs.YtmdpbaobihdgkaaGreatDoor
open Go.RowKit

/-- Slices of n bools each. -/
def vls (V : Nat → Nat) (n : Nat) : Nat → List Value
  | 0 => []
  | j + 1 => vls V n j ++ [.slice (some ⟨V j, 0, none⟩) n n]

theorem vls_len (V : Nat → Nat) (n : Nat) : ∀ j, (vls V n j).length = j
  | 0 => rfl
  | j + 1 => by rw [vls, List.length_append, vls_len V n j]; rfl
theorem vls_at (V : Nat → Nat) (n : Nat) (i : Nat) : ∀ j, i < j → (vls V n j)[i]? = some (.slice (some ⟨V i, 0, none⟩) n n)
  | 0, h => absurd h (Nat.not_lt_zero i)
  | j + 1, h => by
    rw [vls]
    by_cases e : i = j
    · subst e
      rw [List.getElem?_append_right (by rw [vls_len]; exact Nat.le_refl _), vls_len, Nat.sub_self]; rfl
    · rw [List.getElem?_append_left (by rw [vls_len]; omega)]
      exact vls_at V n i j (by omega)
theorem vls_congr {V V' : Nat → Nat} {n : Nat} : ∀ j, (∀ i, i < j → V i = V' i) → vls V n j = vls V' n j
  | 0, _ => rfl
  | j + 1, h => by rw [vls, vls, vls_congr j (fun i hi => h i (by omega)), h j (by omega)]

/-- The lists of the first j Kids. -/
structure Kt (w : World) (base j n : Nat) (K : Nat → Nat → Bool) (v : Value) : Prop where
  list : ∃ V : Nat → Nat, w.ownsRow base 44 1 v j (vls V n j) ∧ ∀ i, i < j → w.rowIs (V i) 4 n (fun p => .bool (K i p))

theorem Kt.start (w : World) (base n : Nat) (K : Nat → Nat → Bool) : Kt w base 0 n K (.slice none 0 0) :=
  ⟨fun _ => 0, ⟨by simp [vls], Or.inl ⟨rfl, rfl⟩⟩, fun i hi => absurd hi (Nat.not_lt_zero i)⟩

theorem owns_belowT {w w' : World} {base n s : Nat} {e : TypeId} {v : Value} {xs : List Value} (h : w.ownsRow base e s v n xs) (hb : Below w.heap.size w w') : w'.ownsRow base e s v n xs := owns3_below h hb

theorem Kt.below {w w' : World} {base j n : Nat} {K : Nat → Nat → Bool} {v : Value} (h : Kt w base j n K v) (hb : Below w.heap.size w w') : Kt w' base j n K v := by
  obtain ⟨V, h1, h2⟩ := h.list
  exact ⟨V, owns_belowT h1 hb, fun i hi => rowIs_below (h2 i hi) hb⟩

theorem Kt.own {w : World} {base j n : Nat} {K : Nat → Nat → Bool} {v : Value} (h : Kt w base j n K v) : ∀ g, v.ownBlock = some g → base ≤ g ∧ g < w.heap.size := by
  obtain ⟨V, h1, _⟩ := h.list
  exact h1.lt

/-- A row of bools is not the list's own block. -/
theorem owns_row44 {w : World} {base j b n : Nat} {v : Value} {xs : List Value} {f : Nat → Value} (h : w.ownsRow base 44 1 v j xs) (hr : w.rowIs b 4 n f) : v.ownBlock ≠ some b := by
  rcases h.2 with ⟨rfl, _⟩ | ⟨g, cap, cur, rfl, _, hg, _⟩
  · simp [Value.ownBlock]
  · intro e
    simp [Value.ownBlock] at e
    subst e
    obtain ⟨c, e, _⟩ := hr
    rw [hg] at e
    injection e with e
    injection e with _ e
    exact absurd e (by decide)

/-- One list more. -/
theorem Kt.step {U w2 : World} {base j n b : Nat} {K : Nat → Nat → Bool} {v v' : Value} {V : Nat → Nat} (h1 : U.ownsRow base 44 1 v j (vls V n j)) (hV : ∀ i, i < j → U.rowIs (V i) 4 n (fun p => .bool (K i p)))
    (hb : U.rowIs b 4 n (fun p => .bool (K j p))) (hg : U.grownBy w2 v.ownBlock) (ho : w2.ownsRow base 44 1 v' (j + 1) (vls V n j ++ [.slice (some ⟨b, 0, none⟩) n n])) : Kt w2 base (j + 1) n K v' := by
  have keep : ∀ {c : Nat} {f : Nat → Value}, U.rowIs c 4 n f → w2.rowIs c 4 n f := fun hr => hr.of_block (hg.block _ hr.lt (fun e => owns_row44 h1 hr e.symm))
  refine ⟨fun i => if i = j then b else V i, ?_, fun i hi => ?_⟩
  · rw [vls, if_pos rfl, vls_congr (V' := V) j (fun i hi => if_neg (by omega))]
    exact ho
  · by_cases e : i = j
    · subst e
      simp only [if_true]
      exact keep hb
    · simp only [if_neg e]
      exact keep (hV i (by omega))

/-- The variable is written. -/
theorem Kt.set {w : World} {base j n gb : Nat} {K : Nat → Nat → Bool} {v x : Value} (h : Kt w base j n K v) (hgb : gb < base) (hc : w.heap[gb]? = some (.cells #[x] 100 (0, 0))) (y : Value) : Kt (w.setCell ⟨gb, 0, none⟩ y) base j n K v := by
  obtain ⟨V, h1, h2⟩ := h.list
  have hb : ∀ k, k ≠ gb → (w.setCell ⟨gb, 0, none⟩ y).heap[k]? = w.heap[k]? := fun k hk => Go.Deep.blk_setCell_other _ _ _ _ hk
  refine ⟨V, ⟨h1.1, ?_⟩, fun i hi => (h2 i hi).of_block (hb _ (fun e => ?_))⟩
  · rcases h1.2 with h0 | ⟨g, cap, cur, e1, e2, e3, e4⟩
    · exact Or.inl h0
    · exact Or.inr ⟨g, cap, cur, e1, e2, (hb g (by omega)).trans e3, e4⟩
  · obtain ⟨c, e2, _⟩ := h2 i hi
    rw [e, hc] at e2
    injection e2 with e2
    injection e2 with _ e2
    exact absurd e2 (by decide)

/-- The list as truths' closures read it. -/
theorem Kt.kb {w : World} {base j n : Nat} {K : Nat → Nat → Bool} {v : Value} (h : Kt w base j n K v) : ∃ a c, v = .slice a j c ∧ Kb w a j n K := by
  obtain ⟨V, h1, h2⟩ := h.list
  rcases h1.2 with ⟨rfl, rfl⟩ | ⟨g, cap, cur, rfl, hg, hb, _⟩
  · exact ⟨none, 0, rfl, 0, 0, fun hh => absurd hh (Nat.lt_irrefl 0), fun i hi => absurd hi (Nat.not_lt_zero i)⟩
  · refine ⟨some ⟨g, 0, none⟩, cap, rfl, g, 0, fun _ => rfl, fun i hi => ⟨some ⟨V i, 0, none⟩, n, ?_, rowIs_rowB (h2 i hi)⟩⟩
    have c1 := h1.cells (g := g) rfl _ _ (vls_at V n i j hi)
    rw [addr_none] at c1
    exact c1
end Go.Proofs.YtmdpbaobihdgkaaGreatDoor
