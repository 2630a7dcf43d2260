/- ones, ever. -/
import Derived.Test.YtdncjikmknkkpaaDoorAcc
namespace Go.Proofs.YtdncjikmknkkpaaDoor
open Go.RowKit

/-- The automaton of a letter that comes again and again. -/
def onA (b1 b4 b5 b6 b8 : Nat) : Ax := ⟨some ⟨b1, 0, none⟩, 2, 2, some ⟨b4, 0, none⟩, 2, 2, some ⟨b5, 0, none⟩, 2, 2, some ⟨b6, 0, none⟩, 2, 2, some ⟨b8, 0, none⟩, 1, 1, fun i => (i : Int), fun _ => 2, fun _ i => (i : Int), fun i => 1 - i, fun i => i, fun _ => 1, fun _ i => (i : Int)⟩

theorem lt2 {i : Nat} (h : i < 2) : i = 0 ∨ i = 1 := by omega

theorem blk_next {w : World} {o o2 : Obj} {k : Nat} (h : w.heap[k]? = some o) : (w.alloc o2).heap[k]? = some o := (Go.Deep.blk_alloc_lt _ _ _ (Array.getElem?_eq_some_iff.1 h).1).trans h

theorem row_of_blk2 {w : World} {b : Nat} {x y : Int} {t : TypeId} {Z : Nat → Int} (h : w.heap[b]? = some (.cells #[.int .i64 x, .int .i64 y] t)) (h0 : Z 0 = x) (h1 : Z 1 = y) : Row w (some ⟨b, 0, none⟩) 2 Z :=
  ⟨b, 0, fun _ => rfl, fun i hi => by rcases lt2 hi with rfl | rfl; · rw [h0]; exact cell_of_cells h rfl
                                      · rw [h1]; exact cell_of_cells h rfl⟩
theorem rowU_of_blk2 {w : World} {b : Nat} {x y : Int} {t : TypeId} {Z : Nat → Int} (h : w.heap[b]? = some (.cells #[.int .u64 x, .int .u64 y] t)) (h0 : Z 0 = x) (h1 : Z 1 = y) : RowU w (some ⟨b, 0, none⟩) 2 Z :=
  ⟨b, 0, fun _ => rfl, fun i hi => by rcases lt2 hi with rfl | rfl; · rw [h0]; exact cell_of_cells h rfl
                                      · rw [h1]; exact cell_of_cells h rfl⟩

set_option maxHeartbeats 2000000 in
theorem ones_any (w : World) : Calls Tryd.prog 55 #[] w fun e w' => (∃ b1 b4 b5 b6 b8, e = .returned (onA b1 b4 b5 b6 b8).val ∧ Aw w' (onA b1 b4 b5 b6 b8)) ∧ Below w.heap.size w w' := by
  go_enter Tryd.func55, Tryd.ntmps55
  go_wp2
  obtain ⟨z, hz⟩ : ∃ z, z = w.heap.size := ⟨_, rfl⟩
  rw [← hz]
  obtain ⟨w1, hw1⟩ : ∃ q, q = w.alloc (.cells #[.slice (some ⟨z + 1, 0, none⟩) 2 2, .slice (some ⟨z + 1 + 1 + 1 + 1, 0, none⟩) 2 2, .slice (some ⟨z + 1 + 1 + 1 + 1 + 1, 0, none⟩) 2 2, .slice (some ⟨z + 1 + 1 + 1 + 1 + 1 + 1, 0, none⟩) 2 2, .slice (some ⟨z + 1 + 1 + 1 + 1 + 1 + 1 + 1 + 1, 0, none⟩) 1 1] 26) := ⟨_, rfl⟩
  rw [← hw1]
  have s1 : w1.heap.size = z + 1 := by rw [hw1, hz]; simp
  have x0 : w1.heap[z]? = some (.cells #[.slice (some ⟨z + 1, 0, none⟩) 2 2, .slice (some ⟨z + 1 + 1 + 1 + 1, 0, none⟩) 2 2, .slice (some ⟨z + 1 + 1 + 1 + 1 + 1, 0, none⟩) 2 2, .slice (some ⟨z + 1 + 1 + 1 + 1 + 1 + 1, 0, none⟩) 2 2, .slice (some ⟨z + 1 + 1 + 1 + 1 + 1 + 1 + 1 + 1, 0, none⟩) 1 1] 26) := by rw [hw1, hz]; exact Go.Deep.blk_alloc_new _ _
  have b1 : Below z w w1 := by rw [hw1, hz]; exact box_below _ _
  clear hw1
  obtain ⟨w2, hw2⟩ : ∃ q, q = w1.alloc (.cells #[.int .i64 0, .int .i64 1] 3) := ⟨_, rfl⟩
  rw [← hw2]
  have s2 : w2.heap.size = z + 1 + 1 := by rw [hw2]; simp [s1]
  have x1 : w2.heap[z + 1]? = some (.cells #[.int .i64 0, .int .i64 1] 3) := by rw [hw2, ← s1]; exact Go.Deep.blk_alloc_new _ _
  replace x0 := blk_next (o2 := (.cells #[.int .i64 0, .int .i64 1] 3)) x0
  rw [← hw2] at x0
  have b2 : Below z w w2 := by rw [hw2]; exact b1.alloc (by omega) _
  clear hw2
  obtain ⟨w3, hw3⟩ : ∃ q, q = w2.alloc (.cells #[.int .i64 0, .int .i64 1] 3) := ⟨_, rfl⟩
  rw [← hw3]
  have s3 : w3.heap.size = z + 1 + 1 + 1 := by rw [hw3]; simp [s2]
  have x2 : w3.heap[z + 1 + 1]? = some (.cells #[.int .i64 0, .int .i64 1] 3) := by rw [hw3, ← s2]; exact Go.Deep.blk_alloc_new _ _
  replace x0 := blk_next (o2 := (.cells #[.int .i64 0, .int .i64 1] 3)) x0
  rw [← hw3] at x0
  replace x1 := blk_next (o2 := (.cells #[.int .i64 0, .int .i64 1] 3)) x1
  rw [← hw3] at x1
  have b3 : Below z w w3 := by rw [hw3]; exact b2.alloc (by omega) _
  clear hw3
  obtain ⟨w4, hw4⟩ : ∃ q, q = w3.alloc (.cells #[.int .i64 0, .int .i64 1] 3) := ⟨_, rfl⟩
  rw [← hw4]
  have s4 : w4.heap.size = z + 1 + 1 + 1 + 1 := by rw [hw4]; simp [s3]
  have x3 : w4.heap[z + 1 + 1 + 1]? = some (.cells #[.int .i64 0, .int .i64 1] 3) := by rw [hw4, ← s3]; exact Go.Deep.blk_alloc_new _ _
  replace x0 := blk_next (o2 := (.cells #[.int .i64 0, .int .i64 1] 3)) x0
  rw [← hw4] at x0
  replace x1 := blk_next (o2 := (.cells #[.int .i64 0, .int .i64 1] 3)) x1
  rw [← hw4] at x1
  replace x2 := blk_next (o2 := (.cells #[.int .i64 0, .int .i64 1] 3)) x2
  rw [← hw4] at x2
  have b4 : Below z w w4 := by rw [hw4]; exact b3.alloc (by omega) _
  clear hw4
  obtain ⟨w5, hw5⟩ : ∃ q, q = w4.alloc (.cells #[.slice (some ⟨z + 1 + 1, 0, none⟩) 2 2, .slice (some ⟨z + 1 + 1 + 1, 0, none⟩) 2 2] 22) := ⟨_, rfl⟩
  rw [← hw5]
  have s5 : w5.heap.size = z + 1 + 1 + 1 + 1 + 1 := by rw [hw5]; simp [s4]
  have x4 : w5.heap[z + 1 + 1 + 1 + 1]? = some (.cells #[.slice (some ⟨z + 1 + 1, 0, none⟩) 2 2, .slice (some ⟨z + 1 + 1 + 1, 0, none⟩) 2 2] 22) := by rw [hw5, ← s4]; exact Go.Deep.blk_alloc_new _ _
  replace x0 := blk_next (o2 := (.cells #[.slice (some ⟨z + 1 + 1, 0, none⟩) 2 2, .slice (some ⟨z + 1 + 1 + 1, 0, none⟩) 2 2] 22)) x0
  rw [← hw5] at x0
  replace x1 := blk_next (o2 := (.cells #[.slice (some ⟨z + 1 + 1, 0, none⟩) 2 2, .slice (some ⟨z + 1 + 1 + 1, 0, none⟩) 2 2] 22)) x1
  rw [← hw5] at x1
  replace x2 := blk_next (o2 := (.cells #[.slice (some ⟨z + 1 + 1, 0, none⟩) 2 2, .slice (some ⟨z + 1 + 1 + 1, 0, none⟩) 2 2] 22)) x2
  rw [← hw5] at x2
  replace x3 := blk_next (o2 := (.cells #[.slice (some ⟨z + 1 + 1, 0, none⟩) 2 2, .slice (some ⟨z + 1 + 1 + 1, 0, none⟩) 2 2] 22)) x3
  rw [← hw5] at x3
  have b5 : Below z w w5 := by rw [hw5]; exact b4.alloc (by omega) _
  clear hw5
  obtain ⟨w6, hw6⟩ : ∃ q, q = w5.alloc (.cells #[.int .u64 1, .int .u64 0] 51) := ⟨_, rfl⟩
  rw [← hw6]
  have s6 : w6.heap.size = z + 1 + 1 + 1 + 1 + 1 + 1 := by rw [hw6]; simp [s5]
  have x5 : w6.heap[z + 1 + 1 + 1 + 1 + 1]? = some (.cells #[.int .u64 1, .int .u64 0] 51) := by rw [hw6, ← s5]; exact Go.Deep.blk_alloc_new _ _
  replace x0 := blk_next (o2 := (.cells #[.int .u64 1, .int .u64 0] 51)) x0
  rw [← hw6] at x0
  replace x1 := blk_next (o2 := (.cells #[.int .u64 1, .int .u64 0] 51)) x1
  rw [← hw6] at x1
  replace x2 := blk_next (o2 := (.cells #[.int .u64 1, .int .u64 0] 51)) x2
  rw [← hw6] at x2
  replace x3 := blk_next (o2 := (.cells #[.int .u64 1, .int .u64 0] 51)) x3
  rw [← hw6] at x3
  replace x4 := blk_next (o2 := (.cells #[.int .u64 1, .int .u64 0] 51)) x4
  rw [← hw6] at x4
  have b6 : Below z w w6 := by rw [hw6]; exact b5.alloc (by omega) _
  clear hw6
  obtain ⟨w7, hw7⟩ : ∃ q, q = w6.alloc (.cells #[.int .u64 0, .int .u64 1] 51) := ⟨_, rfl⟩
  rw [← hw7]
  have s7 : w7.heap.size = z + 1 + 1 + 1 + 1 + 1 + 1 + 1 := by rw [hw7]; simp [s6]
  have x6 : w7.heap[z + 1 + 1 + 1 + 1 + 1 + 1]? = some (.cells #[.int .u64 0, .int .u64 1] 51) := by rw [hw7, ← s6]; exact Go.Deep.blk_alloc_new _ _
  replace x0 := blk_next (o2 := (.cells #[.int .u64 0, .int .u64 1] 51)) x0
  rw [← hw7] at x0
  replace x1 := blk_next (o2 := (.cells #[.int .u64 0, .int .u64 1] 51)) x1
  rw [← hw7] at x1
  replace x2 := blk_next (o2 := (.cells #[.int .u64 0, .int .u64 1] 51)) x2
  rw [← hw7] at x2
  replace x3 := blk_next (o2 := (.cells #[.int .u64 0, .int .u64 1] 51)) x3
  rw [← hw7] at x3
  replace x4 := blk_next (o2 := (.cells #[.int .u64 0, .int .u64 1] 51)) x4
  rw [← hw7] at x4
  replace x5 := blk_next (o2 := (.cells #[.int .u64 0, .int .u64 1] 51)) x5
  rw [← hw7] at x5
  have b7 : Below z w w7 := by rw [hw7]; exact b6.alloc (by omega) _
  clear hw7
  obtain ⟨w8, hw8⟩ : ∃ q, q = w7.alloc (.cells #[.int .i64 0] 3) := ⟨_, rfl⟩
  rw [← hw8]
  have s8 : w8.heap.size = z + 1 + 1 + 1 + 1 + 1 + 1 + 1 + 1 := by rw [hw8]; simp [s7]
  have x7 : w8.heap[z + 1 + 1 + 1 + 1 + 1 + 1 + 1]? = some (.cells #[.int .i64 0] 3) := by rw [hw8, ← s7]; exact Go.Deep.blk_alloc_new _ _
  replace x0 := blk_next (o2 := (.cells #[.int .i64 0] 3)) x0
  rw [← hw8] at x0
  replace x1 := blk_next (o2 := (.cells #[.int .i64 0] 3)) x1
  rw [← hw8] at x1
  replace x2 := blk_next (o2 := (.cells #[.int .i64 0] 3)) x2
  rw [← hw8] at x2
  replace x3 := blk_next (o2 := (.cells #[.int .i64 0] 3)) x3
  rw [← hw8] at x3
  replace x4 := blk_next (o2 := (.cells #[.int .i64 0] 3)) x4
  rw [← hw8] at x4
  replace x5 := blk_next (o2 := (.cells #[.int .i64 0] 3)) x5
  rw [← hw8] at x5
  replace x6 := blk_next (o2 := (.cells #[.int .i64 0] 3)) x6
  rw [← hw8] at x6
  have b8 : Below z w w8 := by rw [hw8]; exact b7.alloc (by omega) _
  clear hw8
  obtain ⟨w9, hw9⟩ : ∃ q, q = w8.alloc (.cells #[.slice (some ⟨z + 1 + 1 + 1 + 1 + 1 + 1 + 1, 0, none⟩) 1 1] 22) := ⟨_, rfl⟩
  rw [← hw9]
  have s9 : w9.heap.size = z + 1 + 1 + 1 + 1 + 1 + 1 + 1 + 1 + 1 := by rw [hw9]; simp [s8]
  have x8 : w9.heap[z + 1 + 1 + 1 + 1 + 1 + 1 + 1 + 1]? = some (.cells #[.slice (some ⟨z + 1 + 1 + 1 + 1 + 1 + 1 + 1, 0, none⟩) 1 1] 22) := by rw [hw9, ← s8]; exact Go.Deep.blk_alloc_new _ _
  replace x0 := blk_next (o2 := (.cells #[.slice (some ⟨z + 1 + 1 + 1 + 1 + 1 + 1 + 1, 0, none⟩) 1 1] 22)) x0
  rw [← hw9] at x0
  replace x1 := blk_next (o2 := (.cells #[.slice (some ⟨z + 1 + 1 + 1 + 1 + 1 + 1 + 1, 0, none⟩) 1 1] 22)) x1
  rw [← hw9] at x1
  replace x2 := blk_next (o2 := (.cells #[.slice (some ⟨z + 1 + 1 + 1 + 1 + 1 + 1 + 1, 0, none⟩) 1 1] 22)) x2
  rw [← hw9] at x2
  replace x3 := blk_next (o2 := (.cells #[.slice (some ⟨z + 1 + 1 + 1 + 1 + 1 + 1 + 1, 0, none⟩) 1 1] 22)) x3
  rw [← hw9] at x3
  replace x4 := blk_next (o2 := (.cells #[.slice (some ⟨z + 1 + 1 + 1 + 1 + 1 + 1 + 1, 0, none⟩) 1 1] 22)) x4
  rw [← hw9] at x4
  replace x5 := blk_next (o2 := (.cells #[.slice (some ⟨z + 1 + 1 + 1 + 1 + 1 + 1 + 1, 0, none⟩) 1 1] 22)) x5
  rw [← hw9] at x5
  replace x6 := blk_next (o2 := (.cells #[.slice (some ⟨z + 1 + 1 + 1 + 1 + 1 + 1 + 1, 0, none⟩) 1 1] 22)) x6
  rw [← hw9] at x6
  replace x7 := blk_next (o2 := (.cells #[.slice (some ⟨z + 1 + 1 + 1 + 1 + 1 + 1 + 1, 0, none⟩) 1 1] 22)) x7
  rw [← hw9] at x7
  have b9 : Below z w w9 := by rw [hw9]; exact b8.alloc (by omega) _
  clear hw9
  refine bodyPost_ret (v := (onA (z + 1) (z + 1 + 1 + 1 + 1) (z + 1 + 1 + 1 + 1 + 1) (z + 1 + 1 + 1 + 1 + 1 + 1) (z + 1 + 1 + 1 + 1 + 1 + 1 + 1 + 1)).val) ?_ rfl ⟨⟨_, _, _, _, _, rfl, ?_⟩, b9⟩
  · have c0 := cell_of_cells (i := 0) x0 rfl
    have c1 := cell_of_cells (i := 1) x0 rfl
    have c2 := cell_of_cells (i := 2) x0 rfl
    have c3 := cell_of_cells (i := 3) x0 rfl
    have c4 := cell_of_cells (i := 4) x0 rfl
    simp [results, Tryd.f55, go_sem, c0, c1, c2, c3, c4, onA, Ax.val]
  · refine ⟨row_of_blk2 x1 rfl rfl, ⟨z + 1 + 1 + 1 + 1, 0, fun _ => rfl, fun r hr => ?_⟩, rowU_of_blk2 x5 rfl rfl, rowU_of_blk2 x6 rfl rfl, ⟨z + 1 + 1 + 1 + 1 + 1 + 1 + 1 + 1, 0, fun _ => rfl, fun r hr => ?_⟩, (by show 2 ≤ 140737488355328; omega), (by show 2 ≤ 140737488355328; omega), (fun _ _ => by show 2 ≤ 140737488355328; omega), (by show 2 ≤ 140737488355328; omega), (by show 2 ≤ 140737488355328; omega), (by show 1 ≤ 140737488355328; omega), (fun _ _ => by show 1 ≤ 140737488355328; omega), fun i hi => ?_, fun i hi => ?_⟩
    · rcases lt2 hr with rfl | rfl
      · exact ⟨_, _, cell_of_cells x4 rfl, row_of_blk2 x2 rfl rfl⟩
      · exact ⟨_, _, cell_of_cells x4 rfl, row_of_blk2 x3 rfl rfl⟩
    · obtain rfl : r = 0 := by have : r < 1 := hr; omega
      exact ⟨_, _, cell_of_cells x8 rfl, ⟨_, 0, fun _ => rfl, fun i hi => by
        obtain rfl : i = 0 := by have : i < 1 := hi; omega
        exact cell_of_cells x7 rfl⟩⟩
    · show 1 - i < 18446744073709551616; omega
    · have : i < 2 := hi
      show i < 18446744073709551616; omega

theorem onA_chk (b1 b4 b5 b6 b8 : Nat) : chkA (onA b1 b4 b5 b6 b8) = 0 := by
  have h1 : allIn 2 (fun i => (i : Int)) ((2 : Nat) : Int) = true := allIn_yes (fun i hi => by omega)
  have h2 : okL 2 (fun _ => 2) (fun _ i => (i : Int)) 2 = true := okL_yes (fun r _ => h1)
  have h3 : okL 1 (fun _ => 1) (fun _ i => (i : Int)) 2 = true := okL_yes (fun r _ => allIn_yes (fun i hi => by omega))
  unfold chkA onA
  dsimp only
  rw [if_neg (by omega), if_neg (by omega), if_pos ⟨h1, h2, h3⟩]

/-- It accepts what has the letter again and again. -/
theorem onA_acc (b1 b4 b5 b6 b8 : Nat) (o : Nat → Int) (ho : ∀ j, o j = 0 ∨ o j = 1) : (autA (onA b1 b4 b5 b6 b8)).Acc o ↔ ∀ j, ∃ l, j ≤ l ∧ o l = 1 := by
  have hlt : ∀ q l, (l = 0 ∨ l = 1) → ((autA (onA b1 b4 b5 b6 b8)).lt q l ↔ (q = 0 ∧ l = 1) ∨ (q = 1 ∧ l = 0)) := by
    intro q l hl
    have e : (autA (onA b1 b4 b5 b6 b8)).lt q l ↔ (q < 2 ∧ fts l.toNat (1 - q) q = true) := Iff.rfl
    rw [e]
    constructor
    · rintro ⟨h1, h2⟩
      rcases lt2 h1 with rfl | rfl <;> rcases hl with rfl | rfl <;> revert h2 <;> decide
    · rintro (⟨rfl, rfl⟩ | ⟨rfl, rfl⟩) <;> exact ⟨by omega, by decide⟩
  have hfr : ∀ q, (autA (onA b1 b4 b5 b6 b8)).fr 0 q ↔ q = 0 := by
    intro q
    have e : (autA (onA b1 b4 b5 b6 b8)).fr 0 q ↔ has 1 (fun i => (i : Int)) q = true := Iff.rfl
    rw [e]
    unfold has
    rw [decide_eq_true_eq]
    constructor
    · rintro ⟨i, h1, h2⟩; dsimp only at h2; omega
    · rintro rfl; exact ⟨0, by omega, rfl⟩
  have hh : ∀ q : Nat, q < 2 → has 2 (fun i => (i : Int)) q = true := by
    intro q hq
    unfold has
    rw [decide_eq_true_eq]
    exact ⟨q, hq, rfl⟩
  constructor
  · rintro ⟨r, hr⟩ j
    obtain ⟨l, h1, h2⟩ := hr.fr 0 (by show 0 < 1; omega) j
    have h3 := (hfr _).1 h2
    rcases (hlt _ _ (ho l)).1 (hr.lt l) with ⟨_, h4⟩ | ⟨h4, _⟩
    · exact ⟨l, h1, h4⟩
    · omega
  · intro h
    have hr : ∀ j, (if o j = 1 then (0 : Nat) else 1) < 2 := fun j => by split <;> omega
    refine ⟨fun j => if o j = 1 then 0 else 1, hh _ (hr 0), fun j => ⟨hr j, hh _ (hr (j + 1))⟩, fun j => ?_, fun k hk j => ?_⟩
    · rw [hlt _ _ (ho j)]
      rcases ho j with e | e
      · right; simp [e]
      · left; simp [e]
    · have hk0 : k = 0 := by have : k < 1 := hk; omega
      subst hk0
      obtain ⟨l, h1, h2⟩ := h j
      exact ⟨l, h1, (hfr _).2 (by simp [h2])⟩

theorem below_two (w : World) (o1 o2 : Obj) : Below w.heap.size w ((w.alloc o1).alloc o2) := (box_below w o1).alloc (by simp) _

set_option maxHeartbeats 4000000 in
theorem ever_any (w : World) (hT : Tb w) : Calls Tryd.prog 16 #[] w fun e w' => e = .returned (.bool true) ∧ Below w.heap.size w w' := by
  go_enter Tryd.func16, Tryd.ntmps16
  go_wp2_with fail
  refine (ones_any w).mono ?_
  rintro e w1 ⟨⟨b1, b4, b5, b6, b8, rfl, hA⟩, hb1⟩
  have HA := hid hA
  have HB1 := hid hb1
  have HT1 := hid (fun (z : World) (hz : Below w.heap.size w z) (j : Nat) (hj : j < 64) => below_cell hz (Nat.le_refl _) (hT j hj))
  clear hA hb1 hT
  dsimp only [onA, Ax.val]
  go_wp2_with fail
  have hB2 := below_two w1 (.cells #[.int .u64 0] 51) (.cells #[.int .u64 1, .int .u64 0] 51)
  have hD2 : Wd ((w1.alloc (.cells #[.int .u64 0] 51)).alloc (.cells #[.int .u64 1, .int .u64 0] 51)) (some ⟨w1.heap.size, 0, none⟩) 1 (some ⟨w1.heap.size + 1, 0, none⟩) 2 (fun _ => 0) (fun i => 1 - (i : Int)) := by
    refine ⟨⟨_, 0, fun _ => rfl, fun i hi => ?_⟩, ⟨_, 0, fun _ => rfl, fun i hi => ?_⟩, by omega, by omega, fun i _ => by omega, fun i hi => by omega⟩
    · obtain rfl : i = 0 := by omega
      exact cell_alloc1 _ (cell_of_alloc rfl)
    · have := cell_of_alloc (w := w1.alloc (.cells #[.int .u64 0] 51)) (c := #[.int .u64 1, .int .u64 0]) (t := 51) (i := i) (v := .int .u64 (1 - (i : Int))) (by rcases lt2 hi with rfl | rfl <;> rfl)
      rw [World.size_alloc] at this
      rw [Nat.zero_add]
      exact this
  have C1 := accepts_any (onA b1 b4 b5 b6 b8) (some ⟨w1.heap.size, 0, none⟩) 1 1 (some ⟨w1.heap.size + 1, 0, none⟩) 2 2 (fun _ => 0) (fun i => 1 - (i : Int)) _ (HA.out.below hB2) hD2 (HT1.out _ (HB1.out.trans (hB2.mono HB1.out.size)))
  refine C1.mono ?_
  rintro e w2 ⟨⟨b, rfl, _, hb⟩, hb2⟩
  have he1 : erA (onA b1 b4 b5 b6 b8) 1 2 = 0 := (if_pos (onA_chk _ _ _ _ _)).trans (wchk_zero (by omega) (by omega))
  have ho1 : ∀ j, ltr 1 2 (fun _ => 0) (fun i => 1 - (i : Int)) j = 0 ∨ ltr 1 2 (fun _ => 0) (fun i => 1 - (i : Int)) j = 1 := by
    intro j
    by_cases h : j < 1
    · rw [ltr_stem h]; exact Or.inl rfl
    · rw [ltr_far (by omega)]
      have := Nat.mod_lt (j - 1) (show 0 < 2 by omega)
      omega
  have hbt : b = true := (hb he1).2 ((onA_acc _ _ _ _ _ _ ho1).2 (fun j => ⟨2 * j + 1, by omega, by rw [ltr_far (by omega), show 2 * j + 1 - 1 = 2 * j by omega, Nat.mul_mod_right]; rfl⟩))
  subst hbt
  rw [he1]
  have HB2 := hid ((HB1.out.trans (hB2.mono HB1.out.size)).trans (hb2.mono (Nat.le_trans HB1.out.size hB2.size)))
  clear hb hb2 hB2 hD2 C1 he1 HA
  go_wp2_with fail
  refine (ones_any w2).mono ?_
  rintro e w3 ⟨⟨d1, d4, d5, d6, d8, rfl, hA⟩, hb3⟩
  have HA := hid hA
  have HB3 := hid (HB2.out.trans (hb3.mono HB2.out.size))
  clear hA hb3
  dsimp only [onA, Ax.val]
  go_wp2_with fail
  have hB4 := below_two w3 (.cells #[.int .u64 1] 51) (.cells #[.int .u64 0] 51)
  have hD4 : Wd ((w3.alloc (.cells #[.int .u64 1] 51)).alloc (.cells #[.int .u64 0] 51)) (some ⟨w3.heap.size, 0, none⟩) 1 (some ⟨w3.heap.size + 1, 0, none⟩) 1 (fun _ => 1) (fun _ => 0) := by
    refine ⟨⟨_, 0, fun _ => rfl, fun i hi => ?_⟩, ⟨_, 0, fun _ => rfl, fun i hi => ?_⟩, by omega, by omega, fun i _ => by omega, fun i hi => by omega⟩
    · obtain rfl : i = 0 := by omega
      exact cell_alloc1 _ (cell_of_alloc rfl)
    · obtain rfl : i = 0 := by omega
      have := cell_of_alloc (w := w3.alloc (.cells #[.int .u64 1] 51)) (c := #[.int .u64 0]) (t := 51) (i := 0) (v := .int .u64 0) rfl
      rw [World.size_alloc] at this
      rw [Nat.zero_add]
      exact this
  have C2 := accepts_any (onA d1 d4 d5 d6 d8) (some ⟨w3.heap.size, 0, none⟩) 1 1 (some ⟨w3.heap.size + 1, 0, none⟩) 1 1 (fun _ => 1) (fun _ => 0) _ (HA.out.below hB4) hD4 (HT1.out _ (HB3.out.trans (hB4.mono HB3.out.size)))
  refine C2.mono ?_
  rintro e w4 ⟨⟨b, rfl, _, hb⟩, hb4⟩
  have he2 : erA (onA d1 d4 d5 d6 d8) 1 1 = 0 := (if_pos (onA_chk _ _ _ _ _)).trans (wchk_zero (by omega) (by omega))
  have ho2 : ∀ j, ltr 1 1 (fun _ => 1) (fun _ => 0) j = 0 ∨ ltr 1 1 (fun _ => 1) (fun _ => 0) j = 1 := by
    intro j
    by_cases h : j < 1
    · rw [ltr_stem h]; exact Or.inr rfl
    · rw [ltr_far (by omega)]; exact Or.inl rfl
  have hbf : b = false := by
    cases b
    · rfl
    · exfalso
      obtain ⟨l, h1, h2⟩ := (onA_acc _ _ _ _ _ _ ho2).1 ((hb he2).1 rfl) 1
      rw [ltr_far h1] at h2
      cases h2
  subst hbf
  rw [he2]
  have HB4 := hid ((HB3.out.trans (hB4.mono HB3.out.size)).trans (hb4.mono (Nat.le_trans HB3.out.size hB4.size)))
  clear hb hb4 hB4 hD4 C2 he2 HA
  go_wp2
  go_ret
  exact ⟨rfl, HB4.out⟩

end Go.Proofs.YtdncjikmknkkpaaDoor
