/- fromBehind, over the closures of until and release; until and release themselves; all. -/
import Derived.Test.YtmdpbaobihdgkaaGreatDoorEach
import Derived.Test.YtmdpbaobihdgkaaGreatDoorAFamJ
namespace Go.Proofs.YtmdpbaobihdgkaaGreatDoor
open Go.RowKit

/-- What stands behind the last place in the rounds. -/
def lat (g : Nat → Bool → Bool) (n again : Nat) (l : Bool) : Nat → Bool
  | 0 => l
  | r + 1 => bk g n (lat g n again l r) again

/-- The list behind so many rounds. -/
def lst (g : Nat → Bool → Bool) (n again : Nat) (l : Bool) : Nat → Nat → Bool
  | 0, _ => false
  | r + 1, p => bk g n (lat g n again l r) p

theorem rowIs_below {w w' : World} {b n : Nat} {t : TypeId} {f : Nat → Value} (h : w.rowIs b t n f) (hb : Below w.heap.size w w') : w'.rowIs b t n f := h.of_block (hb.block _ h.lt)

set_option maxHeartbeats 4000000 in
theorem behind58_any (w0 : World) (la : Option Addr) (n lc again : Nat) (never : Bool) (g : Nat → Bool → Bool) (k1 k2 : Value) (hn : n ≤ 60) (ha : again < n)
    (hf : ∀ (p : Nat) (v : Bool) u, p < n → Below w0.heap.size w0 u → Calls Tryz.prog 126 #[.int .i64 p, .bool v, k1, k2] u fun e u' => e = .returned (.bool (g p v)) ∧ Below u.heap.size u u') :
    Calls Tryz.prog 125 #[.agg #[.slice la n lc, .int .i64 again], .bool never, .func (.func 126) #[] #[k1, k2]] w0 fun e w' => NewB w0 n (bk g n (bk g n never again)) e w' := by
  have hmk := run_make_row' (P := Tryz.prog) 44 4 (.bool false) 1 Tryz.underlying44 Tryz.info4 rfl .i64 .i64 n (by omega) (by omega)
  have HF := hid hf
  obtain ⟨u1, hu1⟩ : ∃ x, x = (w0.alloc (.cells #[.slice la n lc, .int .i64 again] 106)).alloc (.cells (madeCells #[.bool false] n) 4) := ⟨_, rfl⟩
  have HU1 := hid hu1
  have HS1 : Hid (Below w0.heap.size w0 u1 ∧ u1.rowIs (w0.heap.size + 1) 4 n (fun p => .bool (lst g n again never 0 p)) ∧ u1.cell? ⟨w0.heap.size, 1, none⟩ = some (.int .i64 again)) := by
    rw [hu1]
    refine ⟨(box_below _ _).alloc (by simp) _, ?_, ?_⟩
    · have := World.rowIs_made (w0.alloc (.cells #[.slice la n lc, .int .i64 again] 106)) (.bool false) n 4
      simpa [lst] using this
    · have h1 : (w0.alloc (.cells #[.slice la n lc, .int .i64 again] 106)).cell? ⟨w0.heap.size, 1, none⟩ = some (.int .i64 again) := cell_of_alloc rfl
      exact below_cell (box_below _ _) (Nat.le_refl _) h1
  clear hf hu1
  go_enter Tryz.func125, Tryz.ntmps125
  go_wp2
  clear hmk
  rw [← HU1.out]
  clear HU1
  go_loopw [15, 8, 9] (fun i l _ wr => ∃ r : Nat, r ≤ 2 ∧ i = .int .i64 r ∧ l = .bool (lat g n again never r) ∧ Hid (Below w0.heap.size w0 wr ∧ wr.rowIs (w0.heap.size + 1) 4 n (fun p => .bool (lst g n again never r p)) ∧ wr.cell? ⟨w0.heap.size, 1, none⟩ = some (.int .i64 again))) (fun i _ _ _ => 2 - (intOf i).toNat)
  case atStart => exact ⟨0, by omega, rfl, rfl, HS1⟩
  case round =>
    obtain ⟨r, hr, rfl, rfl, HW⟩ := hrel
    by_cases hlt : r < 2
    · obtain ⟨wo, hwo⟩ : ∃ x, x = wr := ⟨_, rfl⟩
      rw [← hwo] at HW ⊢
      clear hwo
      obtain ⟨l, hl⟩ : ∃ x, x = lat g n again never r := ⟨_, rfl⟩
      have HL := hid hl
      rw [← hl]
      clear hl
      have hr2 : (r : Int) < 2 := by omega
      go_wp2
      go_loopw [9, 8] (fun i v wr => ∃ q : Nat, q ≤ n ∧ i = .int .i64 ((q : Int) - 1) ∧ v = .bool (bk g n l q) ∧ Hid (Below w0.heap.size w0 wr ∧ wr.rowIs (w0.heap.size + 1) 4 n (fun p => .bool (if q ≤ p then bk g n l p else lst g n again never r p)) ∧ wr.cell? ⟨w0.heap.size, 1, none⟩ = some (.int .i64 again))) (fun i _ _ => (intOf i + 1).toNat)
      case atStart => exact ⟨n, Nat.le_refl _, rfl, by rw [bk_end], hid ⟨HW.out.1, HW.out.2.1.congr (fun i hi => by rw [if_neg (by omega)]), HW.out.2.2⟩⟩
      case round =>
        obtain ⟨q, hq, rfl, rfl, HQ⟩ := hrel
        by_cases hq0 : 0 < q
        · obtain ⟨p, rfl⟩ : ∃ p, q = p + 1 := ⟨q - 1, by omega⟩
          have ep : ((p + 1 : Nat) : Int) - 1 = (p : Int) := by omega
          rw [ep]
          have hpn : p < n := by omega
          have hp0 : (0 : Int) ≤ p := by omega
          have C := hid (HF.out p (bk g n l (p + 1)) wr hpn HQ.out.1)
          have HG : Hid (bk g n l p = g p (bk g n l (p + 1))) := bk_step g l hpn
          rw [← HG.out] at C
          go_wp2_with fail
          refine C.out.mono ?_
          rintro e w2 ⟨rfl, hb2⟩
          have hr3 := rowIs_below HQ.out.2.1 hb2
          have hB3 : Below w0.heap.size w0 w2 := HQ.out.1.trans (hb2.mono HQ.out.1.size)
          have hx3 := below_cell hb2 (Nat.le_refl _) HQ.out.2.2
          have H3 := hid (And.intro hB3 (And.intro hr3 hx3))
          have hc := hr3.cell hpn
          have hz := hr3.frozen p
          clear C hb2 hr3 hB3 hx3 HQ
          go_wp2
          go_roundw
          case rel =>
            refine ⟨p, by omega, by go_num, rfl, hid ⟨H3.out.1.setCell (by simp) _, (H3.out.2.1.set p _).congr (fun i hi => ?_), ?_⟩⟩
            · by_cases e : i = p
              · subst e; rw [if_pos rfl, if_pos (Nat.le_refl _)]
              · rw [if_neg e]
                by_cases e2 : p + 1 ≤ i
                · rw [if_pos e2, if_pos (by omega)]
                · rw [if_neg e2, if_neg (by omega)]
            · exact (But.refl (w0.heap.size + 1) w2).setCell p _ |>.cell (by show w0.heap.size ≠ w0.heap.size + 1; omega) H3.out.2.2
          case measure => simp [intOf]
        · obtain rfl : q = 0 := by omega
          have hc := HQ.out.2.1.cell ha
          have hx := HQ.out.2.2
          have hc2 : wr.cell? ⟨w0.heap.size + 1, again, none⟩ = some (.bool (lat g n again never (r + 1))) := by
            rw [hc, if_pos (Nat.zero_le _)]
            show some (Value.bool (bk g n l again)) = some (Value.bool (bk g n (lat g n again never r) again))
            rw [HL.out]
          clear hc
          have han : (again : Int) < n := by omega
          go_wp2
          go_roundw
          case rel =>
            refine ⟨r + 1, by omega, by go_num, rfl, hid ⟨HQ.out.1, HQ.out.2.1.congr (fun i hi => ?_), HQ.out.2.2⟩⟩
            rw [if_pos (Nat.zero_le _), HL.out]
            rfl
          case measure => simp [intOf]; omega
    · obtain rfl : r = 2 := by omega
      go_wp2
      go_ret
      exact ⟨w0.heap.size + 1, rfl, by omega, HW.out.2.1, HW.out.1⟩

set_option maxHeartbeats 4000000 in
theorem behind59_any (w0 : World) (la : Option Addr) (n lc again : Nat) (never : Bool) (g : Nat → Bool → Bool) (k1 k2 : Value) (hn : n ≤ 60) (ha : again < n)
    (hf : ∀ (p : Nat) (v : Bool) u, p < n → Below w0.heap.size w0 u → Calls Tryz.prog 127 #[.int .i64 p, .bool v, k1, k2] u fun e u' => e = .returned (.bool (g p v)) ∧ Below u.heap.size u u') :
    Calls Tryz.prog 125 #[.agg #[.slice la n lc, .int .i64 again], .bool never, .func (.func 127) #[] #[k1, k2]] w0 fun e w' => NewB w0 n (bk g n (bk g n never again)) e w' := by
  have hmk := run_make_row' (P := Tryz.prog) 44 4 (.bool false) 1 Tryz.underlying44 Tryz.info4 rfl .i64 .i64 n (by omega) (by omega)
  have HF := hid hf
  obtain ⟨u1, hu1⟩ : ∃ x, x = (w0.alloc (.cells #[.slice la n lc, .int .i64 again] 106)).alloc (.cells (madeCells #[.bool false] n) 4) := ⟨_, rfl⟩
  have HU1 := hid hu1
  have HS1 : Hid (Below w0.heap.size w0 u1 ∧ u1.rowIs (w0.heap.size + 1) 4 n (fun p => .bool (lst g n again never 0 p)) ∧ u1.cell? ⟨w0.heap.size, 1, none⟩ = some (.int .i64 again)) := by
    rw [hu1]
    refine ⟨(box_below _ _).alloc (by simp) _, ?_, ?_⟩
    · have := World.rowIs_made (w0.alloc (.cells #[.slice la n lc, .int .i64 again] 106)) (.bool false) n 4
      simpa [lst] using this
    · have h1 : (w0.alloc (.cells #[.slice la n lc, .int .i64 again] 106)).cell? ⟨w0.heap.size, 1, none⟩ = some (.int .i64 again) := cell_of_alloc rfl
      exact below_cell (box_below _ _) (Nat.le_refl _) h1
  clear hf hu1
  go_enter Tryz.func125, Tryz.ntmps125
  go_wp2
  clear hmk
  rw [← HU1.out]
  clear HU1
  go_loopw [15, 8, 9] (fun i l _ wr => ∃ r : Nat, r ≤ 2 ∧ i = .int .i64 r ∧ l = .bool (lat g n again never r) ∧ Hid (Below w0.heap.size w0 wr ∧ wr.rowIs (w0.heap.size + 1) 4 n (fun p => .bool (lst g n again never r p)) ∧ wr.cell? ⟨w0.heap.size, 1, none⟩ = some (.int .i64 again))) (fun i _ _ _ => 2 - (intOf i).toNat)
  case atStart => exact ⟨0, by omega, rfl, rfl, HS1⟩
  case round =>
    obtain ⟨r, hr, rfl, rfl, HW⟩ := hrel
    by_cases hlt : r < 2
    · obtain ⟨wo, hwo⟩ : ∃ x, x = wr := ⟨_, rfl⟩
      rw [← hwo] at HW ⊢
      clear hwo
      obtain ⟨l, hl⟩ : ∃ x, x = lat g n again never r := ⟨_, rfl⟩
      have HL := hid hl
      rw [← hl]
      clear hl
      have hr2 : (r : Int) < 2 := by omega
      go_wp2
      go_loopw [9, 8] (fun i v wr => ∃ q : Nat, q ≤ n ∧ i = .int .i64 ((q : Int) - 1) ∧ v = .bool (bk g n l q) ∧ Hid (Below w0.heap.size w0 wr ∧ wr.rowIs (w0.heap.size + 1) 4 n (fun p => .bool (if q ≤ p then bk g n l p else lst g n again never r p)) ∧ wr.cell? ⟨w0.heap.size, 1, none⟩ = some (.int .i64 again))) (fun i _ _ => (intOf i + 1).toNat)
      case atStart => exact ⟨n, Nat.le_refl _, rfl, by rw [bk_end], hid ⟨HW.out.1, HW.out.2.1.congr (fun i hi => by rw [if_neg (by omega)]), HW.out.2.2⟩⟩
      case round =>
        obtain ⟨q, hq, rfl, rfl, HQ⟩ := hrel
        by_cases hq0 : 0 < q
        · obtain ⟨p, rfl⟩ : ∃ p, q = p + 1 := ⟨q - 1, by omega⟩
          have ep : ((p + 1 : Nat) : Int) - 1 = (p : Int) := by omega
          rw [ep]
          have hpn : p < n := by omega
          have hp0 : (0 : Int) ≤ p := by omega
          have C := hid (HF.out p (bk g n l (p + 1)) wr hpn HQ.out.1)
          have HG : Hid (bk g n l p = g p (bk g n l (p + 1))) := bk_step g l hpn
          rw [← HG.out] at C
          go_wp2_with fail
          refine C.out.mono ?_
          rintro e w2 ⟨rfl, hb2⟩
          have hr3 := rowIs_below HQ.out.2.1 hb2
          have hB3 : Below w0.heap.size w0 w2 := HQ.out.1.trans (hb2.mono HQ.out.1.size)
          have hx3 := below_cell hb2 (Nat.le_refl _) HQ.out.2.2
          have H3 := hid (And.intro hB3 (And.intro hr3 hx3))
          have hc := hr3.cell hpn
          have hz := hr3.frozen p
          clear C hb2 hr3 hB3 hx3 HQ
          go_wp2
          go_roundw
          case rel =>
            refine ⟨p, by omega, by go_num, rfl, hid ⟨H3.out.1.setCell (by simp) _, (H3.out.2.1.set p _).congr (fun i hi => ?_), ?_⟩⟩
            · by_cases e : i = p
              · subst e; rw [if_pos rfl, if_pos (Nat.le_refl _)]
              · rw [if_neg e]
                by_cases e2 : p + 1 ≤ i
                · rw [if_pos e2, if_pos (by omega)]
                · rw [if_neg e2, if_neg (by omega)]
            · exact (But.refl (w0.heap.size + 1) w2).setCell p _ |>.cell (by show w0.heap.size ≠ w0.heap.size + 1; omega) H3.out.2.2
          case measure => simp [intOf]
        · obtain rfl : q = 0 := by omega
          have hc := HQ.out.2.1.cell ha
          have hx := HQ.out.2.2
          have hc2 : wr.cell? ⟨w0.heap.size + 1, again, none⟩ = some (.bool (lat g n again never (r + 1))) := by
            rw [hc, if_pos (Nat.zero_le _)]
            show some (Value.bool (bk g n l again)) = some (Value.bool (bk g n (lat g n again never r) again))
            rw [HL.out]
          clear hc
          have han : (again : Int) < n := by omega
          go_wp2
          go_roundw
          case rel =>
            refine ⟨r + 1, by omega, by go_num, rfl, hid ⟨HQ.out.1, HQ.out.2.1.congr (fun i hi => ?_), HQ.out.2.2⟩⟩
            rw [if_pos (Nat.zero_le _), HL.out]
            rfl
          case measure => simp [intOf]; omega
    · obtain rfl : r = 2 := by omega
      go_wp2
      go_ret
      exact ⟨w0.heap.size + 1, rfl, by omega, HW.out.2.1, HW.out.1⟩

theorem below_alloc3 (w : World) (o1 o2 o3 : Obj) : Below w.heap.size w (((w.alloc o1).alloc o2).alloc o3) := ((box_below w o1).alloc (by simp) _).alloc (by simp; omega) _
theorem below_alloc2 (w : World) (o1 o2 : Obj) : Below w.heap.size w ((w.alloc o1).alloc o2) := (box_below w o1).alloc (by simp) _

/-- Three boxes, one behind the other. -/
theorem three_boxes (w : World) (c1 c2 c3 : Array Value) (t1 t2 t3 : TypeId) :
    (((w.alloc (.cells c1 t1)).alloc (.cells c2 t2)).alloc (.cells c3 t3)).heap[w.heap.size]? = some (.cells c1 t1) ∧ (((w.alloc (.cells c1 t1)).alloc (.cells c2 t2)).alloc (.cells c3 t3)).heap[w.heap.size + 1]? = some (.cells c2 t2) ∧ (((w.alloc (.cells c1 t1)).alloc (.cells c2 t2)).alloc (.cells c3 t3)).heap[w.heap.size + 1 + 1]? = some (.cells c3 t3) := by
  have e1 : (w.alloc (.cells c1 t1)).heap.size = w.heap.size + 1 := by simp
  have e2 : ((w.alloc (.cells c1 t1)).alloc (.cells c2 t2)).heap.size = w.heap.size + 1 + 1 := by simp
  refine ⟨?_, ?_, ?_⟩
  · rw [Go.Deep.blk_alloc_lt _ _ _ (by omega), Go.Deep.blk_alloc_lt _ _ _ (by omega)]
    exact Go.Deep.blk_alloc_new _ _
  · rw [Go.Deep.blk_alloc_lt _ _ _ (by omega), ← e1]
    exact Go.Deep.blk_alloc_new _ _
  · rw [← e2]
    exact Go.Deep.blk_alloc_new _ _

set_option maxHeartbeats 1000000 in
theorem until_any {w : World} (la : Option Addr) (n lc again : Nat) {fa ga : Option Addr} {fc gc : Nat} {F G : Nat → Bool} (hn : n ≤ 60) (ha : again < n) (hF : RowB w fa n F) (hG : RowB w ga n G) :
    Calls Tryz.prog 97 #[.agg #[.slice la n lc, .int .i64 again], .slice fa n fc, .slice ga n gc] w fun e w' => NewB w n (bk (gU F G) n (bk (gU F G) n false again)) e w' := by
  obtain ⟨u, hu⟩ : ∃ x, x = ((w.alloc (.cells #[.slice la n lc, .int .i64 again] 106)).alloc (.cells #[.slice fa n fc] 44)).alloc (.cells #[.slice ga n gc] 44) := ⟨_, rfl⟩
  have hB : Below w.heap.size w u := by rw [hu]; exact below_alloc3 _ _ _ _
  obtain ⟨_, h2, h3⟩ := three_boxes w #[.slice la n lc, .int .i64 again] #[.slice fa n fc] #[.slice ga n gc] 106 44 44
  rw [← hu] at h2 h3
  have c2 : u.cell? ⟨w.heap.size + 1, 0, none⟩ = some (.slice fa n fc) := cell_of_cells h2 rfl
  have c3 : u.cell? ⟨w.heap.size + 1 + 1, 0, none⟩ = some (.slice ga n gc) := cell_of_cells h3 rfl
  have C := hid (behind58_any u la n lc again false (gU F G) (.pointer (some ⟨w.heap.size + 1 + 1, 0, none⟩)) (.pointer (some ⟨w.heap.size + 1, 0, none⟩)) hn ha (fun p v z hp hz =>
    (until1_any (fc := fc) (gc := gc) (below_cell hz (Nat.le_refl _) c2) (below_cell hz (Nat.le_refl _) c3) ((hF.below hB).below hz) ((hG.below hB).below hz) p hp v).mono (fun e u' hh => ⟨hh.1, by rw [hh.2]; exact Below.refl _ _⟩)))
  have HU := hid hu
  have HB := hid hB
  clear hu hB h2 h3 c2 c3 hF hG
  go_enter Tryz.func97, Tryz.ntmps97
  go_wp2_with fail
  rw [← HU.out]
  refine C.out.mono ?_
  rintro e w2 ⟨b, rfl, h⟩
  have H := hid h
  clear C h
  go_wp2
  go_ret
  exact NewB.from ⟨b, rfl, H.out⟩ HB.out

set_option maxHeartbeats 1000000 in
theorem release_any {w : World} (la : Option Addr) (n lc again : Nat) {fa ga : Option Addr} {fc gc : Nat} {F G : Nat → Bool} (hn : n ≤ 60) (ha : again < n) (hF : RowB w fa n F) (hG : RowB w ga n G) :
    Calls Tryz.prog 98 #[.agg #[.slice la n lc, .int .i64 again], .slice fa n fc, .slice ga n gc] w fun e w' => NewB w n (bk (gR F G) n (bk (gR F G) n true again)) e w' := by
  obtain ⟨u, hu⟩ : ∃ x, x = ((w.alloc (.cells #[.slice la n lc, .int .i64 again] 106)).alloc (.cells #[.slice fa n fc] 44)).alloc (.cells #[.slice ga n gc] 44) := ⟨_, rfl⟩
  have hB : Below w.heap.size w u := by rw [hu]; exact below_alloc3 _ _ _ _
  obtain ⟨_, h2, h3⟩ := three_boxes w #[.slice la n lc, .int .i64 again] #[.slice fa n fc] #[.slice ga n gc] 106 44 44
  rw [← hu] at h2 h3
  have c2 : u.cell? ⟨w.heap.size + 1, 0, none⟩ = some (.slice fa n fc) := cell_of_cells h2 rfl
  have c3 : u.cell? ⟨w.heap.size + 1 + 1, 0, none⟩ = some (.slice ga n gc) := cell_of_cells h3 rfl
  have C := hid (behind59_any u la n lc again true (gR F G) (.pointer (some ⟨w.heap.size + 1 + 1, 0, none⟩)) (.pointer (some ⟨w.heap.size + 1, 0, none⟩)) hn ha (fun p v z hp hz =>
    (release1_any (fc := fc) (gc := gc) (below_cell hz (Nat.le_refl _) c2) (below_cell hz (Nat.le_refl _) c3) ((hF.below hB).below hz) ((hG.below hB).below hz) p hp v).mono (fun e u' hh => ⟨hh.1, by rw [hh.2]; exact Below.refl _ _⟩)))
  have HU := hid hu
  have HB := hid hB
  clear hu hB h2 h3 c2 c3 hF hG
  go_enter Tryz.func98, Tryz.ntmps98
  go_wp2_with fail
  rw [← HU.out]
  refine C.out.mono ?_
  rintro e w2 ⟨b, rfl, h⟩
  have H := hid h
  clear C h
  go_wp2
  go_ret
  exact NewB.from ⟨b, rfl, H.out⟩ HB.out

set_option maxHeartbeats 1000000 in
theorem all_any {w : World} (la : Option Addr) (n lc again : Nat) (v : Bool) (hn : n ≤ 60) :
    Calls Tryz.prog 99 #[.agg #[.slice la n lc, .int .i64 again], .bool v] w fun e w' => NewB w n (fun _ => v) e w' := by
  obtain ⟨u, hu⟩ : ∃ x, x = (w.alloc (.cells #[.slice la n lc, .int .i64 again] 106)).alloc (.cells #[.bool v] 4) := ⟨_, rfl⟩
  have hB : Below w.heap.size w u := by rw [hu]; exact below_alloc2 _ _ _
  have c2 : u.cell? ⟨w.heap.size + 1, 0, none⟩ = some (.bool v) := by
    have := cell_of_alloc (w := w.alloc (.cells #[.slice la n lc, .int .i64 again] 106)) (c := #[.bool v]) (t := 4) (i := 0) rfl
    rw [show (w.alloc (.cells #[.slice la n lc, .int .i64 again] 106)).heap.size = w.heap.size + 1 by simp] at this
    rw [hu]
    exact this
  have C := hid (each60_any u la n lc again (fun _ => v) (.pointer (some ⟨w.heap.size + 1, 0, none⟩)) hn (fun p z _ hz =>
    (all1_any (w.heap.size + 1) v p z (below_cell hz (Nat.le_refl _) c2)).mono (fun e u' hh => ⟨hh.1, by rw [hh.2]; exact Below.refl _ _⟩)))
  have HU := hid hu
  have HB := hid hB
  clear hu hB c2
  go_enter Tryz.func99, Tryz.ntmps99
  go_wp2_with fail
  rw [← HU.out]
  refine C.out.mono ?_
  rintro e w2 ⟨b, rfl, h⟩
  have H := hid h
  clear C h
  go_wp2
  go_ret
  exact NewB.from ⟨b, rfl, H.out⟩ HB.out

end Go.Proofs.YtmdpbaobihdgkaaGreatDoor
