/- each, over each of the closures that it is handed. -/
import Derived.Deep.Heap
import Derived.Test.YtmdpbaobihdgkaaGreatDoorRwsJ
namespace Go.Proofs.YtmdpbaobihdgkaaGreatDoor
open Go.RowKit

theorem Tryz.info4 : (Tryz.prog.info? 4).map (fun i => (i.zero, i.size, i.bytes)) = some (some (.bool false), 1, 1) := by kernel_rfl

/-- A new list of n bools. -/
def NewB (w0 : World) (n : Nat) (F : Nat → Bool) (e : Ending) (w : World) : Prop :=
  ∃ b, e = .returned (.slice (some ⟨b, 0, none⟩) n n) ∧ w0.heap.size ≤ b ∧ w.rowIs b 4 n (fun i => .bool (F i)) ∧ Below w0.heap.size w0 w

theorem rowIs_rowB {w : World} {b n : Nat} {F : Nat → Bool} (h : w.rowIs b 4 n (fun i => .bool (F i))) : RowB w (some ⟨b, 0, none⟩) n F :=
  ⟨b, 0, fun _ => rfl, fun i hi => by rw [Nat.zero_add]; exact h.cell hi⟩

theorem NewB.congr {w0 : World} {n : Nat} {F G : Nat → Bool} {e : Ending} {w : World} (h : NewB w0 n F e w) (hc : ∀ i, i < n → F i = G i) : NewB w0 n G e w := by
  obtain ⟨b, h1, h2, h3, h4⟩ := h
  exact ⟨b, h1, h2, h3.congr (fun i hi => by rw [hc i hi]), h4⟩

theorem NewB.from {w0 w1 : World} {n : Nat} {F : Nat → Bool} {e : Ending} {w : World} (h : NewB w1 n F e w) (hb : Below w0.heap.size w0 w1) : NewB w0 n F e w := by
  obtain ⟨b, h1, h2, h3, h4⟩ := h
  exact ⟨b, h1, Nat.le_trans hb.size h2, h3, hb.trans (h4.mono hb.size)⟩

set_option maxHeartbeats 1000000 in
theorem each47_any (w0 : World) (la : Option Addr) (n lc : Nat) (again : Int) (F : Nat → Bool) (k1 k2 : Value) (hn : n ≤ 60)
    (hf : ∀ (p : Nat) u, p < n → Below w0.heap.size w0 u → Calls Tryz.prog 95 #[.int .i64 p, k1, k2] u fun e u' => e = .returned (.bool (F p)) ∧ Below u.heap.size u u') :
    Calls Tryz.prog 94 #[.agg #[.slice la n lc, .int .i64 again], .func (.func 95) #[] #[k1, k2]] w0 fun e w' => NewB w0 n F e w' := by
  have hmk := run_make_row' (P := Tryz.prog) 44 4 (.bool false) 1 Tryz.underlying44 Tryz.info4 rfl .i64 .i64 n (by omega) (by omega)
  have HF := hid hf
  obtain ⟨w1, hw1⟩ : ∃ x, x = w0.alloc (.cells #[.slice la n lc, .int .i64 again] 106) := ⟨_, rfl⟩
  have HB1 : Hid (Below w0.heap.size w0 w1) := by rw [hw1]; exact hid (box_below _ _)
  have HS1 : Hid (Below w0.heap.size w0 ((w0.alloc (.cells #[.slice la n lc, .int .i64 again] 106)).alloc (.cells (madeCells #[.bool false] n) 4)) ∧ ((w0.alloc (.cells #[.slice la n lc, .int .i64 again] 106)).alloc (.cells (madeCells #[.bool false] n) 4)).rowIs (w0.heap.size + 1) 4 n (fun _ => .bool false)) := by
    refine ⟨(box_below _ _).alloc (by simp) _, ?_⟩
    have := World.rowIs_made (w0.alloc (.cells #[.slice la n lc, .int .i64 again] 106)) (.bool false) n 4
    simpa using this
  clear hf hw1 HB1 w1
  go_enter Tryz.func94, Tryz.ntmps94
  go_wp2
  clear hmk
  go_loopw [13] (fun i wr => ∃ k : Nat, k ≤ n ∧ i = .int .i64 k ∧ Hid (Below w0.heap.size w0 wr ∧ wr.rowIs (w0.heap.size + 1) 4 n (fun x => .bool (if x < k then F x else false)))) (fun i _ => n - (intOf i).toNat)
  case atStart => exact ⟨0, Nat.zero_le _, rfl, hid ⟨HS1.out.1, HS1.out.2.congr (fun i _ => by rw [if_neg (by omega)])⟩⟩
  case round =>
    obtain ⟨k, hk, rfl, HW⟩ := hrel
    by_cases hlt : k < n
    · have C := hid (HF.out k wr hlt HW.out.1)
      go_wp2_with fail
      refine C.out.mono ?_
      rintro e w2 ⟨rfl, hb2⟩
      have hr2 : w2.rowIs (w0.heap.size + 1) 4 n (fun x => .bool (if x < k then F x else false)) := HW.out.2.of_block (hb2.block _ HW.out.2.lt)
      have hB2 : Below w0.heap.size w0 w2 := HW.out.1.trans (hb2.mono HW.out.1.size)
      have H2 := hid (And.intro hB2 hr2)
      have hc := hr2.cell hlt
      have hz := hr2.frozen k
      clear C hb2 hr2 hB2
      go_wp2
      go_roundw
      case rel =>
        refine ⟨k + 1, by omega, by go_num, hid ⟨H2.out.1.setCell (by simp) _, (H2.out.2.set k _).congr (fun i hi => ?_)⟩⟩
        by_cases e : i = k
        · subst e; simp
        · rw [if_neg e]
          by_cases e2 : i < k
          · rw [if_pos e2, if_pos (by omega)]
          · rw [if_neg e2, if_neg (by omega)]
      case measure => simp [intOf]; omega
    · go_wp2
      go_ret
      exact ⟨w0.heap.size + 1, rfl, by omega, HW.out.2.congr (fun i hi => by rw [if_pos (by omega)]), HW.out.1⟩

set_option maxHeartbeats 1000000 in
theorem each60_any (w0 : World) (la : Option Addr) (n lc : Nat) (again : Int) (F : Nat → Bool) (k1 : Value) (hn : n ≤ 60)
    (hf : ∀ (p : Nat) u, p < n → Below w0.heap.size w0 u → Calls Tryz.prog 128 #[.int .i64 p, k1] u fun e u' => e = .returned (.bool (F p)) ∧ Below u.heap.size u u') :
    Calls Tryz.prog 94 #[.agg #[.slice la n lc, .int .i64 again], .func (.func 128) #[] #[k1]] w0 fun e w' => NewB w0 n F e w' := by
  have hmk := run_make_row' (P := Tryz.prog) 44 4 (.bool false) 1 Tryz.underlying44 Tryz.info4 rfl .i64 .i64 n (by omega) (by omega)
  have HF := hid hf
  obtain ⟨w1, hw1⟩ : ∃ x, x = w0.alloc (.cells #[.slice la n lc, .int .i64 again] 106) := ⟨_, rfl⟩
  have HB1 : Hid (Below w0.heap.size w0 w1) := by rw [hw1]; exact hid (box_below _ _)
  have HS1 : Hid (Below w0.heap.size w0 ((w0.alloc (.cells #[.slice la n lc, .int .i64 again] 106)).alloc (.cells (madeCells #[.bool false] n) 4)) ∧ ((w0.alloc (.cells #[.slice la n lc, .int .i64 again] 106)).alloc (.cells (madeCells #[.bool false] n) 4)).rowIs (w0.heap.size + 1) 4 n (fun _ => .bool false)) := by
    refine ⟨(box_below _ _).alloc (by simp) _, ?_⟩
    have := World.rowIs_made (w0.alloc (.cells #[.slice la n lc, .int .i64 again] 106)) (.bool false) n 4
    simpa using this
  clear hf hw1 HB1 w1
  go_enter Tryz.func94, Tryz.ntmps94
  go_wp2
  clear hmk
  go_loopw [13] (fun i wr => ∃ k : Nat, k ≤ n ∧ i = .int .i64 k ∧ Hid (Below w0.heap.size w0 wr ∧ wr.rowIs (w0.heap.size + 1) 4 n (fun x => .bool (if x < k then F x else false)))) (fun i _ => n - (intOf i).toNat)
  case atStart => exact ⟨0, Nat.zero_le _, rfl, hid ⟨HS1.out.1, HS1.out.2.congr (fun i _ => by rw [if_neg (by omega)])⟩⟩
  case round =>
    obtain ⟨k, hk, rfl, HW⟩ := hrel
    by_cases hlt : k < n
    · have C := hid (HF.out k wr hlt HW.out.1)
      go_wp2_with fail
      refine C.out.mono ?_
      rintro e w2 ⟨rfl, hb2⟩
      have hr2 : w2.rowIs (w0.heap.size + 1) 4 n (fun x => .bool (if x < k then F x else false)) := HW.out.2.of_block (hb2.block _ HW.out.2.lt)
      have hB2 : Below w0.heap.size w0 w2 := HW.out.1.trans (hb2.mono HW.out.1.size)
      have H2 := hid (And.intro hB2 hr2)
      have hc := hr2.cell hlt
      have hz := hr2.frozen k
      clear C hb2 hr2 hB2
      go_wp2
      go_roundw
      case rel =>
        refine ⟨k + 1, by omega, by go_num, hid ⟨H2.out.1.setCell (by simp) _, (H2.out.2.set k _).congr (fun i hi => ?_)⟩⟩
        by_cases e : i = k
        · subst e; simp
        · rw [if_neg e]
          by_cases e2 : i < k
          · rw [if_pos e2, if_pos (by omega)]
          · rw [if_neg e2, if_neg (by omega)]
      case measure => simp [intOf]; omega
    · go_wp2
      go_ret
      exact ⟨w0.heap.size + 1, rfl, by omega, HW.out.2.congr (fun i hi => by rw [if_pos (by omega)]), HW.out.1⟩

set_option maxHeartbeats 1000000 in
theorem each61_any (w0 : World) (la : Option Addr) (n lc : Nat) (again : Int) (F : Nat → Bool) (k1 k2 : Value) (hn : n ≤ 60)
    (hf : ∀ (p : Nat) u, p < n → Below w0.heap.size w0 u → Calls Tryz.prog 129 #[.int .i64 p, k1, k2] u fun e u' => e = .returned (.bool (F p)) ∧ Below u.heap.size u u') :
    Calls Tryz.prog 94 #[.agg #[.slice la n lc, .int .i64 again], .func (.func 129) #[] #[k1, k2]] w0 fun e w' => NewB w0 n F e w' := by
  have hmk := run_make_row' (P := Tryz.prog) 44 4 (.bool false) 1 Tryz.underlying44 Tryz.info4 rfl .i64 .i64 n (by omega) (by omega)
  have HF := hid hf
  obtain ⟨w1, hw1⟩ : ∃ x, x = w0.alloc (.cells #[.slice la n lc, .int .i64 again] 106) := ⟨_, rfl⟩
  have HB1 : Hid (Below w0.heap.size w0 w1) := by rw [hw1]; exact hid (box_below _ _)
  have HS1 : Hid (Below w0.heap.size w0 ((w0.alloc (.cells #[.slice la n lc, .int .i64 again] 106)).alloc (.cells (madeCells #[.bool false] n) 4)) ∧ ((w0.alloc (.cells #[.slice la n lc, .int .i64 again] 106)).alloc (.cells (madeCells #[.bool false] n) 4)).rowIs (w0.heap.size + 1) 4 n (fun _ => .bool false)) := by
    refine ⟨(box_below _ _).alloc (by simp) _, ?_⟩
    have := World.rowIs_made (w0.alloc (.cells #[.slice la n lc, .int .i64 again] 106)) (.bool false) n 4
    simpa using this
  clear hf hw1 HB1 w1
  go_enter Tryz.func94, Tryz.ntmps94
  go_wp2
  clear hmk
  go_loopw [13] (fun i wr => ∃ k : Nat, k ≤ n ∧ i = .int .i64 k ∧ Hid (Below w0.heap.size w0 wr ∧ wr.rowIs (w0.heap.size + 1) 4 n (fun x => .bool (if x < k then F x else false)))) (fun i _ => n - (intOf i).toNat)
  case atStart => exact ⟨0, Nat.zero_le _, rfl, hid ⟨HS1.out.1, HS1.out.2.congr (fun i _ => by rw [if_neg (by omega)])⟩⟩
  case round =>
    obtain ⟨k, hk, rfl, HW⟩ := hrel
    by_cases hlt : k < n
    · have C := hid (HF.out k wr hlt HW.out.1)
      go_wp2_with fail
      refine C.out.mono ?_
      rintro e w2 ⟨rfl, hb2⟩
      have hr2 : w2.rowIs (w0.heap.size + 1) 4 n (fun x => .bool (if x < k then F x else false)) := HW.out.2.of_block (hb2.block _ HW.out.2.lt)
      have hB2 : Below w0.heap.size w0 w2 := HW.out.1.trans (hb2.mono HW.out.1.size)
      have H2 := hid (And.intro hB2 hr2)
      have hc := hr2.cell hlt
      have hz := hr2.frozen k
      clear C hb2 hr2 hB2
      go_wp2
      go_roundw
      case rel =>
        refine ⟨k + 1, by omega, by go_num, hid ⟨H2.out.1.setCell (by simp) _, (H2.out.2.set k _).congr (fun i hi => ?_)⟩⟩
        by_cases e : i = k
        · subst e; simp
        · rw [if_neg e]
          by_cases e2 : i < k
          · rw [if_pos e2, if_pos (by omega)]
          · rw [if_neg e2, if_neg (by omega)]
      case measure => simp [intOf]; omega
    · go_wp2
      go_ret
      exact ⟨w0.heap.size + 1, rfl, by omega, HW.out.2.congr (fun i hi => by rw [if_pos (by omega)]), HW.out.1⟩

set_option maxHeartbeats 1000000 in
theorem each62_any (w0 : World) (la : Option Addr) (n lc : Nat) (again : Int) (F : Nat → Bool) (k1 : Value) (hn : n ≤ 60)
    (hf : ∀ (p : Nat) u, p < n → Below w0.heap.size w0 u → Calls Tryz.prog 130 #[.int .i64 p, k1] u fun e u' => e = .returned (.bool (F p)) ∧ Below u.heap.size u u') :
    Calls Tryz.prog 94 #[.agg #[.slice la n lc, .int .i64 again], .func (.func 130) #[] #[k1]] w0 fun e w' => NewB w0 n F e w' := by
  have hmk := run_make_row' (P := Tryz.prog) 44 4 (.bool false) 1 Tryz.underlying44 Tryz.info4 rfl .i64 .i64 n (by omega) (by omega)
  have HF := hid hf
  obtain ⟨w1, hw1⟩ : ∃ x, x = w0.alloc (.cells #[.slice la n lc, .int .i64 again] 106) := ⟨_, rfl⟩
  have HB1 : Hid (Below w0.heap.size w0 w1) := by rw [hw1]; exact hid (box_below _ _)
  have HS1 : Hid (Below w0.heap.size w0 ((w0.alloc (.cells #[.slice la n lc, .int .i64 again] 106)).alloc (.cells (madeCells #[.bool false] n) 4)) ∧ ((w0.alloc (.cells #[.slice la n lc, .int .i64 again] 106)).alloc (.cells (madeCells #[.bool false] n) 4)).rowIs (w0.heap.size + 1) 4 n (fun _ => .bool false)) := by
    refine ⟨(box_below _ _).alloc (by simp) _, ?_⟩
    have := World.rowIs_made (w0.alloc (.cells #[.slice la n lc, .int .i64 again] 106)) (.bool false) n 4
    simpa using this
  clear hf hw1 HB1 w1
  go_enter Tryz.func94, Tryz.ntmps94
  go_wp2
  clear hmk
  go_loopw [13] (fun i wr => ∃ k : Nat, k ≤ n ∧ i = .int .i64 k ∧ Hid (Below w0.heap.size w0 wr ∧ wr.rowIs (w0.heap.size + 1) 4 n (fun x => .bool (if x < k then F x else false)))) (fun i _ => n - (intOf i).toNat)
  case atStart => exact ⟨0, Nat.zero_le _, rfl, hid ⟨HS1.out.1, HS1.out.2.congr (fun i _ => by rw [if_neg (by omega)])⟩⟩
  case round =>
    obtain ⟨k, hk, rfl, HW⟩ := hrel
    by_cases hlt : k < n
    · have C := hid (HF.out k wr hlt HW.out.1)
      go_wp2_with fail
      refine C.out.mono ?_
      rintro e w2 ⟨rfl, hb2⟩
      have hr2 : w2.rowIs (w0.heap.size + 1) 4 n (fun x => .bool (if x < k then F x else false)) := HW.out.2.of_block (hb2.block _ HW.out.2.lt)
      have hB2 : Below w0.heap.size w0 w2 := HW.out.1.trans (hb2.mono HW.out.1.size)
      have H2 := hid (And.intro hB2 hr2)
      have hc := hr2.cell hlt
      have hz := hr2.frozen k
      clear C hb2 hr2 hB2
      go_wp2
      go_roundw
      case rel =>
        refine ⟨k + 1, by omega, by go_num, hid ⟨H2.out.1.setCell (by simp) _, (H2.out.2.set k _).congr (fun i hi => ?_)⟩⟩
        by_cases e : i = k
        · subst e; simp
        · rw [if_neg e]
          by_cases e2 : i < k
          · rw [if_pos e2, if_pos (by omega)]
          · rw [if_neg e2, if_neg (by omega)]
      case measure => simp [intOf]; omega
    · go_wp2
      go_ret
      exact ⟨w0.heap.size + 1, rfl, by omega, HW.out.2.congr (fun i hi => by rw [if_pos (by omega)]), HW.out.1⟩

set_option maxHeartbeats 1000000 in
theorem each63_any (w0 : World) (la : Option Addr) (n lc : Nat) (again : Int) (F : Nat → Bool) (k1 : Value) (hn : n ≤ 60)
    (hf : ∀ (p : Nat) u, p < n → Below w0.heap.size w0 u → Calls Tryz.prog 131 #[.int .i64 p, k1] u fun e u' => e = .returned (.bool (F p)) ∧ Below u.heap.size u u') :
    Calls Tryz.prog 94 #[.agg #[.slice la n lc, .int .i64 again], .func (.func 131) #[] #[k1]] w0 fun e w' => NewB w0 n F e w' := by
  have hmk := run_make_row' (P := Tryz.prog) 44 4 (.bool false) 1 Tryz.underlying44 Tryz.info4 rfl .i64 .i64 n (by omega) (by omega)
  have HF := hid hf
  obtain ⟨w1, hw1⟩ : ∃ x, x = w0.alloc (.cells #[.slice la n lc, .int .i64 again] 106) := ⟨_, rfl⟩
  have HB1 : Hid (Below w0.heap.size w0 w1) := by rw [hw1]; exact hid (box_below _ _)
  have HS1 : Hid (Below w0.heap.size w0 ((w0.alloc (.cells #[.slice la n lc, .int .i64 again] 106)).alloc (.cells (madeCells #[.bool false] n) 4)) ∧ ((w0.alloc (.cells #[.slice la n lc, .int .i64 again] 106)).alloc (.cells (madeCells #[.bool false] n) 4)).rowIs (w0.heap.size + 1) 4 n (fun _ => .bool false)) := by
    refine ⟨(box_below _ _).alloc (by simp) _, ?_⟩
    have := World.rowIs_made (w0.alloc (.cells #[.slice la n lc, .int .i64 again] 106)) (.bool false) n 4
    simpa using this
  clear hf hw1 HB1 w1
  go_enter Tryz.func94, Tryz.ntmps94
  go_wp2
  clear hmk
  go_loopw [13] (fun i wr => ∃ k : Nat, k ≤ n ∧ i = .int .i64 k ∧ Hid (Below w0.heap.size w0 wr ∧ wr.rowIs (w0.heap.size + 1) 4 n (fun x => .bool (if x < k then F x else false)))) (fun i _ => n - (intOf i).toNat)
  case atStart => exact ⟨0, Nat.zero_le _, rfl, hid ⟨HS1.out.1, HS1.out.2.congr (fun i _ => by rw [if_neg (by omega)])⟩⟩
  case round =>
    obtain ⟨k, hk, rfl, HW⟩ := hrel
    by_cases hlt : k < n
    · have C := hid (HF.out k wr hlt HW.out.1)
      go_wp2_with fail
      refine C.out.mono ?_
      rintro e w2 ⟨rfl, hb2⟩
      have hr2 : w2.rowIs (w0.heap.size + 1) 4 n (fun x => .bool (if x < k then F x else false)) := HW.out.2.of_block (hb2.block _ HW.out.2.lt)
      have hB2 : Below w0.heap.size w0 w2 := HW.out.1.trans (hb2.mono HW.out.1.size)
      have H2 := hid (And.intro hB2 hr2)
      have hc := hr2.cell hlt
      have hz := hr2.frozen k
      clear C hb2 hr2 hB2
      go_wp2
      go_roundw
      case rel =>
        refine ⟨k + 1, by omega, by go_num, hid ⟨H2.out.1.setCell (by simp) _, (H2.out.2.set k _).congr (fun i hi => ?_)⟩⟩
        by_cases e : i = k
        · subst e; simp
        · rw [if_neg e]
          by_cases e2 : i < k
          · rw [if_pos e2, if_pos (by omega)]
          · rw [if_neg e2, if_neg (by omega)]
      case measure => simp [intOf]; omega
    · go_wp2
      go_ret
      exact ⟨w0.heap.size + 1, rfl, by omega, HW.out.2.congr (fun i hi => by rw [if_pos (by omega)]), HW.out.1⟩

set_option maxHeartbeats 1000000 in
theorem each64_any (w0 : World) (la : Option Addr) (n lc : Nat) (again : Int) (F : Nat → Bool) (k1 : Value) (hn : n ≤ 60)
    (hf : ∀ (p : Nat) u, p < n → Below w0.heap.size w0 u → Calls Tryz.prog 132 #[.int .i64 p, k1] u fun e u' => e = .returned (.bool (F p)) ∧ Below u.heap.size u u') :
    Calls Tryz.prog 94 #[.agg #[.slice la n lc, .int .i64 again], .func (.func 132) #[] #[k1]] w0 fun e w' => NewB w0 n F e w' := by
  have hmk := run_make_row' (P := Tryz.prog) 44 4 (.bool false) 1 Tryz.underlying44 Tryz.info4 rfl .i64 .i64 n (by omega) (by omega)
  have HF := hid hf
  obtain ⟨w1, hw1⟩ : ∃ x, x = w0.alloc (.cells #[.slice la n lc, .int .i64 again] 106) := ⟨_, rfl⟩
  have HB1 : Hid (Below w0.heap.size w0 w1) := by rw [hw1]; exact hid (box_below _ _)
  have HS1 : Hid (Below w0.heap.size w0 ((w0.alloc (.cells #[.slice la n lc, .int .i64 again] 106)).alloc (.cells (madeCells #[.bool false] n) 4)) ∧ ((w0.alloc (.cells #[.slice la n lc, .int .i64 again] 106)).alloc (.cells (madeCells #[.bool false] n) 4)).rowIs (w0.heap.size + 1) 4 n (fun _ => .bool false)) := by
    refine ⟨(box_below _ _).alloc (by simp) _, ?_⟩
    have := World.rowIs_made (w0.alloc (.cells #[.slice la n lc, .int .i64 again] 106)) (.bool false) n 4
    simpa using this
  clear hf hw1 HB1 w1
  go_enter Tryz.func94, Tryz.ntmps94
  go_wp2
  clear hmk
  go_loopw [13] (fun i wr => ∃ k : Nat, k ≤ n ∧ i = .int .i64 k ∧ Hid (Below w0.heap.size w0 wr ∧ wr.rowIs (w0.heap.size + 1) 4 n (fun x => .bool (if x < k then F x else false)))) (fun i _ => n - (intOf i).toNat)
  case atStart => exact ⟨0, Nat.zero_le _, rfl, hid ⟨HS1.out.1, HS1.out.2.congr (fun i _ => by rw [if_neg (by omega)])⟩⟩
  case round =>
    obtain ⟨k, hk, rfl, HW⟩ := hrel
    by_cases hlt : k < n
    · have C := hid (HF.out k wr hlt HW.out.1)
      go_wp2_with fail
      refine C.out.mono ?_
      rintro e w2 ⟨rfl, hb2⟩
      have hr2 : w2.rowIs (w0.heap.size + 1) 4 n (fun x => .bool (if x < k then F x else false)) := HW.out.2.of_block (hb2.block _ HW.out.2.lt)
      have hB2 : Below w0.heap.size w0 w2 := HW.out.1.trans (hb2.mono HW.out.1.size)
      have H2 := hid (And.intro hB2 hr2)
      have hc := hr2.cell hlt
      have hz := hr2.frozen k
      clear C hb2 hr2 hB2
      go_wp2
      go_roundw
      case rel =>
        refine ⟨k + 1, by omega, by go_num, hid ⟨H2.out.1.setCell (by simp) _, (H2.out.2.set k _).congr (fun i hi => ?_)⟩⟩
        by_cases e : i = k
        · subst e; simp
        · rw [if_neg e]
          by_cases e2 : i < k
          · rw [if_pos e2, if_pos (by omega)]
          · rw [if_neg e2, if_neg (by omega)]
      case measure => simp [intOf]; omega
    · go_wp2
      go_ret
      exact ⟨w0.heap.size + 1, rfl, by omega, HW.out.2.congr (fun i hi => by rw [if_pos (by omega)]), HW.out.1⟩

end Go.Proofs.YtmdpbaobihdgkaaGreatDoor
