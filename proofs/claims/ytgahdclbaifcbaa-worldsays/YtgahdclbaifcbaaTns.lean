/- The small world of turns; Clone of numbers. -/
import Derived.Test.YtgahdclbaifcbaaTnp
import Derived.Test.YtgahdclbaifcbaaLea
namespace Go.Proofs.Ytgahdclbaifcbaa
open Go.RowKit

/-- The world of two states that take turns. -/
def tnA (z : Nat) : Wx := ⟨some ⟨z + 1, 0, none⟩, 1, 1, some ⟨z + 1 + 1 + 1 + 1, 0, none⟩, 2, 2, some ⟨z + 1 + 1 + 1 + 1 + 1, 0, none⟩, 2, 2, some ⟨z + 1 + 1 + 1 + 1 + 1 + 1 + 1 + 1, 0, none⟩, 2, 2, fun _ => 0, fun _ => 2, fun r i => if r = i then 1 else 0, fun i => i + 1, fun _ => 1, fun r _ => (r : Int)⟩

theorem lt2 {i : Nat} (h : i < 2) : i = 0 ∨ i = 1 := by omega
theorem blk_next {w : World} {o o2 : Obj} {k : Nat} (h : w.heap[k]? = some o) : (w.alloc o2).heap[k]? = some o := (Go.Deep.blk_alloc_lt _ _ _ (Array.getElem?_eq_some_iff.1 h).1).trans h

set_option maxHeartbeats 2000000 in
theorem turns_any (w : World) : Calls Try.prog 20 #[] w fun e w' => (∃ z, e = .returned (tnA z).val ∧ Ww w' (tnA z)) ∧ Below w.heap.size w w' := by
  go_enter Try.func20, Try.ntmps20
  go_wp2
  obtain ⟨z, hz⟩ : ∃ z, z = w.heap.size := ⟨_, rfl⟩
  rw [← hz]
  obtain ⟨w1, hw1⟩ : ∃ q, q = w.alloc (.cells #[.slice (some ⟨z + 1, 0, none⟩) 1 1, .slice (some ⟨z + 1 + 1 + 1 + 1, 0, none⟩) 2 2, .slice (some ⟨z + 1 + 1 + 1 + 1 + 1, 0, none⟩) 2 2, .slice (some ⟨z + 1 + 1 + 1 + 1 + 1 + 1 + 1 + 1, 0, none⟩) 2 2] 26) := ⟨_, rfl⟩
  rw [← hw1]
  have s1 : w1.heap.size = z + 1 := by rw [hw1, hz]; simp
  have x0 : w1.heap[z]? = some (.cells #[.slice (some ⟨z + 1, 0, none⟩) 1 1, .slice (some ⟨z + 1 + 1 + 1 + 1, 0, none⟩) 2 2, .slice (some ⟨z + 1 + 1 + 1 + 1 + 1, 0, none⟩) 2 2, .slice (some ⟨z + 1 + 1 + 1 + 1 + 1 + 1 + 1 + 1, 0, none⟩) 2 2] 26) := by rw [hw1, hz]; exact Go.Deep.blk_alloc_new _ _
  have b1 : Below z w w1 := by rw [hw1, hz]; exact box_below _ _
  clear hw1
  obtain ⟨w2, hw2⟩ : ∃ q, q = w1.alloc (.cells #[.int .i64 0] 3) := ⟨_, rfl⟩
  rw [← hw2]
  have s2 : w2.heap.size = z + 1 + 1 := by rw [hw2]; simp [s1]
  have x1 : w2.heap[z + 1]? = some (.cells #[.int .i64 0] 3) := by rw [hw2, ← s1]; exact Go.Deep.blk_alloc_new _ _
  replace x0 := blk_next (o2 := (.cells #[.int .i64 0] 3)) x0
  rw [← hw2] at x0
  have b2 : Below z w w2 := by rw [hw2]; exact b1.alloc (by omega) _
  clear hw2
  obtain ⟨w3, hw3⟩ : ∃ q, q = w2.alloc (.cells #[.int .i64 1, .int .i64 0] 3) := ⟨_, rfl⟩
  rw [← hw3]
  have s3 : w3.heap.size = z + 1 + 1 + 1 := by rw [hw3]; simp [s2]
  have x2 : w3.heap[z + 1 + 1]? = some (.cells #[.int .i64 1, .int .i64 0] 3) := by rw [hw3, ← s2]; exact Go.Deep.blk_alloc_new _ _
  replace x0 := blk_next (o2 := (.cells #[.int .i64 1, .int .i64 0] 3)) x0
  rw [← hw3] at x0
  replace x1 := blk_next (o2 := (.cells #[.int .i64 1, .int .i64 0] 3)) x1
  rw [← hw3] at x1
  have b3 : Below z w w3 := by rw [hw3]; exact b2.alloc (by omega) _
  clear hw3
  obtain ⟨w4, hw4⟩ : ∃ q, q = w3.alloc (.cells #[.int .i64 0, .int .i64 1] 3) := ⟨_, rfl⟩
  rw [← hw4]
  have s4 : w4.heap.size = z + 1 + 1 + 1 + 1 := by rw [hw4]; simp [s3]
  have x3 : w4.heap[z + 1 + 1 + 1]? = some (.cells #[.int .i64 0, .int .i64 1] 3) := by rw [hw4, ← s3]; exact Go.Deep.blk_alloc_new _ _
  replace x0 := blk_next (o2 := (.cells #[.int .i64 0, .int .i64 1] 3)) x0
  rw [← hw4] at x0
  replace x1 := blk_next (o2 := (.cells #[.int .i64 0, .int .i64 1] 3)) x1
  rw [← hw4] at x1
  replace x2 := blk_next (o2 := (.cells #[.int .i64 0, .int .i64 1] 3)) x2
  rw [← hw4] at x2
  have b4 : Below z w w4 := by rw [hw4]; exact b3.alloc (by omega) _
  clear hw4
  obtain ⟨w5, hw5⟩ : ∃ q, q = w4.alloc (.cells #[.slice (some ⟨z + 1 + 1, 0, none⟩) 2 2, .slice (some ⟨z + 1 + 1 + 1, 0, none⟩) 2 2] 22) := ⟨_, rfl⟩
  rw [← hw5]
  have s5 : w5.heap.size = z + 1 + 1 + 1 + 1 + 1 := by rw [hw5]; simp [s4]
  have x4 : w5.heap[z + 1 + 1 + 1 + 1]? = some (.cells #[.slice (some ⟨z + 1 + 1, 0, none⟩) 2 2, .slice (some ⟨z + 1 + 1 + 1, 0, none⟩) 2 2] 22) := by rw [hw5, ← s4]; exact Go.Deep.blk_alloc_new _ _
  replace x0 := blk_next (o2 := (.cells #[.slice (some ⟨z + 1 + 1, 0, none⟩) 2 2, .slice (some ⟨z + 1 + 1 + 1, 0, none⟩) 2 2] 22)) x0
  rw [← hw5] at x0
  replace x1 := blk_next (o2 := (.cells #[.slice (some ⟨z + 1 + 1, 0, none⟩) 2 2, .slice (some ⟨z + 1 + 1 + 1, 0, none⟩) 2 2] 22)) x1
  rw [← hw5] at x1
  replace x2 := blk_next (o2 := (.cells #[.slice (some ⟨z + 1 + 1, 0, none⟩) 2 2, .slice (some ⟨z + 1 + 1 + 1, 0, none⟩) 2 2] 22)) x2
  rw [← hw5] at x2
  replace x3 := blk_next (o2 := (.cells #[.slice (some ⟨z + 1 + 1, 0, none⟩) 2 2, .slice (some ⟨z + 1 + 1 + 1, 0, none⟩) 2 2] 22)) x3
  rw [← hw5] at x3
  have b5 : Below z w w5 := by rw [hw5]; exact b4.alloc (by omega) _
  clear hw5
  obtain ⟨w6, hw6⟩ : ∃ q, q = w5.alloc (.cells #[.int .u64 1, .int .u64 2] 70) := ⟨_, rfl⟩
  rw [← hw6]
  have s6 : w6.heap.size = z + 1 + 1 + 1 + 1 + 1 + 1 := by rw [hw6]; simp [s5]
  have x5 : w6.heap[z + 1 + 1 + 1 + 1 + 1]? = some (.cells #[.int .u64 1, .int .u64 2] 70) := by rw [hw6, ← s5]; exact Go.Deep.blk_alloc_new _ _
  replace x0 := blk_next (o2 := (.cells #[.int .u64 1, .int .u64 2] 70)) x0
  rw [← hw6] at x0
  replace x1 := blk_next (o2 := (.cells #[.int .u64 1, .int .u64 2] 70)) x1
  rw [← hw6] at x1
  replace x2 := blk_next (o2 := (.cells #[.int .u64 1, .int .u64 2] 70)) x2
  rw [← hw6] at x2
  replace x3 := blk_next (o2 := (.cells #[.int .u64 1, .int .u64 2] 70)) x3
  rw [← hw6] at x3
  replace x4 := blk_next (o2 := (.cells #[.int .u64 1, .int .u64 2] 70)) x4
  rw [← hw6] at x4
  have b6 : Below z w w6 := by rw [hw6]; exact b5.alloc (by omega) _
  clear hw6
  obtain ⟨w7, hw7⟩ : ∃ q, q = w6.alloc (.cells #[.int .i64 0] 3) := ⟨_, rfl⟩
  rw [← hw7]
  have s7 : w7.heap.size = z + 1 + 1 + 1 + 1 + 1 + 1 + 1 := by rw [hw7]; simp [s6]
  have x6 : w7.heap[z + 1 + 1 + 1 + 1 + 1 + 1]? = some (.cells #[.int .i64 0] 3) := by rw [hw7, ← s6]; exact Go.Deep.blk_alloc_new _ _
  replace x0 := blk_next (o2 := (.cells #[.int .i64 0] 3)) x0
  rw [← hw7] at x0
  replace x1 := blk_next (o2 := (.cells #[.int .i64 0] 3)) x1
  rw [← hw7] at x1
  replace x2 := blk_next (o2 := (.cells #[.int .i64 0] 3)) x2
  rw [← hw7] at x2
  replace x3 := blk_next (o2 := (.cells #[.int .i64 0] 3)) x3
  rw [← hw7] at x3
  replace x4 := blk_next (o2 := (.cells #[.int .i64 0] 3)) x4
  rw [← hw7] at x4
  replace x5 := blk_next (o2 := (.cells #[.int .i64 0] 3)) x5
  rw [← hw7] at x5
  have b7 : Below z w w7 := by rw [hw7]; exact b6.alloc (by omega) _
  clear hw7
  obtain ⟨w8, hw8⟩ : ∃ q, q = w7.alloc (.cells #[.int .i64 1] 3) := ⟨_, rfl⟩
  rw [← hw8]
  have s8 : w8.heap.size = z + 1 + 1 + 1 + 1 + 1 + 1 + 1 + 1 := by rw [hw8]; simp [s7]
  have x7 : w8.heap[z + 1 + 1 + 1 + 1 + 1 + 1 + 1]? = some (.cells #[.int .i64 1] 3) := by rw [hw8, ← s7]; exact Go.Deep.blk_alloc_new _ _
  replace x0 := blk_next (o2 := (.cells #[.int .i64 1] 3)) x0
  rw [← hw8] at x0
  replace x1 := blk_next (o2 := (.cells #[.int .i64 1] 3)) x1
  rw [← hw8] at x1
  replace x2 := blk_next (o2 := (.cells #[.int .i64 1] 3)) x2
  rw [← hw8] at x2
  replace x3 := blk_next (o2 := (.cells #[.int .i64 1] 3)) x3
  rw [← hw8] at x3
  replace x4 := blk_next (o2 := (.cells #[.int .i64 1] 3)) x4
  rw [← hw8] at x4
  replace x5 := blk_next (o2 := (.cells #[.int .i64 1] 3)) x5
  rw [← hw8] at x5
  replace x6 := blk_next (o2 := (.cells #[.int .i64 1] 3)) x6
  rw [← hw8] at x6
  have b8 : Below z w w8 := by rw [hw8]; exact b7.alloc (by omega) _
  clear hw8
  obtain ⟨w9, hw9⟩ : ∃ q, q = w8.alloc (.cells #[.slice (some ⟨z + 1 + 1 + 1 + 1 + 1 + 1, 0, none⟩) 1 1, .slice (some ⟨z + 1 + 1 + 1 + 1 + 1 + 1 + 1, 0, none⟩) 1 1] 22) := ⟨_, rfl⟩
  rw [← hw9]
  have s9 : w9.heap.size = z + 1 + 1 + 1 + 1 + 1 + 1 + 1 + 1 + 1 := by rw [hw9]; simp [s8]
  have x8 : w9.heap[z + 1 + 1 + 1 + 1 + 1 + 1 + 1 + 1]? = some (.cells #[.slice (some ⟨z + 1 + 1 + 1 + 1 + 1 + 1, 0, none⟩) 1 1, .slice (some ⟨z + 1 + 1 + 1 + 1 + 1 + 1 + 1, 0, none⟩) 1 1] 22) := by rw [hw9, ← s8]; exact Go.Deep.blk_alloc_new _ _
  replace x0 := blk_next (o2 := (.cells #[.slice (some ⟨z + 1 + 1 + 1 + 1 + 1 + 1, 0, none⟩) 1 1, .slice (some ⟨z + 1 + 1 + 1 + 1 + 1 + 1 + 1, 0, none⟩) 1 1] 22)) x0
  rw [← hw9] at x0
  replace x1 := blk_next (o2 := (.cells #[.slice (some ⟨z + 1 + 1 + 1 + 1 + 1 + 1, 0, none⟩) 1 1, .slice (some ⟨z + 1 + 1 + 1 + 1 + 1 + 1 + 1, 0, none⟩) 1 1] 22)) x1
  rw [← hw9] at x1
  replace x2 := blk_next (o2 := (.cells #[.slice (some ⟨z + 1 + 1 + 1 + 1 + 1 + 1, 0, none⟩) 1 1, .slice (some ⟨z + 1 + 1 + 1 + 1 + 1 + 1 + 1, 0, none⟩) 1 1] 22)) x2
  rw [← hw9] at x2
  replace x3 := blk_next (o2 := (.cells #[.slice (some ⟨z + 1 + 1 + 1 + 1 + 1 + 1, 0, none⟩) 1 1, .slice (some ⟨z + 1 + 1 + 1 + 1 + 1 + 1 + 1, 0, none⟩) 1 1] 22)) x3
  rw [← hw9] at x3
  replace x4 := blk_next (o2 := (.cells #[.slice (some ⟨z + 1 + 1 + 1 + 1 + 1 + 1, 0, none⟩) 1 1, .slice (some ⟨z + 1 + 1 + 1 + 1 + 1 + 1 + 1, 0, none⟩) 1 1] 22)) x4
  rw [← hw9] at x4
  replace x5 := blk_next (o2 := (.cells #[.slice (some ⟨z + 1 + 1 + 1 + 1 + 1 + 1, 0, none⟩) 1 1, .slice (some ⟨z + 1 + 1 + 1 + 1 + 1 + 1 + 1, 0, none⟩) 1 1] 22)) x5
  rw [← hw9] at x5
  replace x6 := blk_next (o2 := (.cells #[.slice (some ⟨z + 1 + 1 + 1 + 1 + 1 + 1, 0, none⟩) 1 1, .slice (some ⟨z + 1 + 1 + 1 + 1 + 1 + 1 + 1, 0, none⟩) 1 1] 22)) x6
  rw [← hw9] at x6
  replace x7 := blk_next (o2 := (.cells #[.slice (some ⟨z + 1 + 1 + 1 + 1 + 1 + 1, 0, none⟩) 1 1, .slice (some ⟨z + 1 + 1 + 1 + 1 + 1 + 1 + 1, 0, none⟩) 1 1] 22)) x7
  rw [← hw9] at x7
  have b9 : Below z w w9 := by rw [hw9]; exact b8.alloc (by omega) _
  clear hw9
  have k0 : w9.cell? ⟨z, 0, none⟩ = some (.slice (some ⟨z + 1, 0, none⟩) 1 1) := cell_of_cells x0 rfl
  have k1 : w9.cell? ⟨z, 1, none⟩ = some (.slice (some ⟨z + 1 + 1 + 1 + 1, 0, none⟩) 2 2) := cell_of_cells x0 rfl
  have k2 : w9.cell? ⟨z, 2, none⟩ = some (.slice (some ⟨z + 1 + 1 + 1 + 1 + 1, 0, none⟩) 2 2) := cell_of_cells x0 rfl
  have k3 : w9.cell? ⟨z, 3, none⟩ = some (.slice (some ⟨z + 1 + 1 + 1 + 1 + 1 + 1 + 1 + 1, 0, none⟩) 2 2) := cell_of_cells x0 rfl
  have HF : Hid (Ww w9 (tnA z) ∧ Below z w w9) := by
    refine hid ⟨⟨⟨z + 1, 0, fun _ => rfl, fun i hi => ?_⟩, ⟨z + 1 + 1 + 1 + 1, 0, fun _ => rfl, fun r hr => ?_⟩, ⟨z + 1 + 1 + 1 + 1 + 1, 0, fun _ => rfl, fun i hi => ?_⟩, ⟨z + 1 + 1 + 1 + 1 + 1 + 1 + 1 + 1, 0, fun _ => rfl, fun r hr => ?_⟩, show 1 ≤ 140737488355328 by decide, show 2 ≤ 140737488355328 by decide, fun _ _ => (show 2 ≤ 140737488355328 by decide), show 2 ≤ 140737488355328 by decide, show 2 ≤ 140737488355328 by decide, fun _ _ => (show 1 ≤ 140737488355328 by decide), fun i hi => ?_⟩, b9⟩
    · obtain rfl : i = 0 := by
        have h2 : i < 1 := hi
        omega
      exact cell_of_cells x1 rfl
    · rcases lt2 hr with rfl | rfl
      · refine ⟨some ⟨z + 1 + 1, 0, none⟩, 2, cell_of_cells x4 rfl, z + 1 + 1, 0, fun _ => rfl, fun i hi => ?_⟩
        rcases lt2 hi with rfl | rfl
        · exact cell_of_cells x2 rfl
        · exact cell_of_cells x2 rfl
      · refine ⟨some ⟨z + 1 + 1 + 1, 0, none⟩, 2, cell_of_cells x4 rfl, z + 1 + 1 + 1, 0, fun _ => rfl, fun i hi => ?_⟩
        rcases lt2 hi with rfl | rfl
        · exact cell_of_cells x3 rfl
        · exact cell_of_cells x3 rfl
    · rcases lt2 hi with rfl | rfl
      · exact cell_of_cells x5 rfl
      · exact cell_of_cells x5 rfl
    · rcases lt2 hr with rfl | rfl
      · refine ⟨some ⟨z + 1 + 1 + 1 + 1 + 1 + 1, 0, none⟩, 1, cell_of_cells x8 rfl, z + 1 + 1 + 1 + 1 + 1 + 1, 0, fun _ => rfl, fun i hi => ?_⟩
        obtain rfl : i = 0 := by
          have h2 : i < 1 := hi
          omega
        exact cell_of_cells x6 rfl
      · refine ⟨some ⟨z + 1 + 1 + 1 + 1 + 1 + 1 + 1, 0, none⟩, 1, cell_of_cells x8 rfl, z + 1 + 1 + 1 + 1 + 1 + 1 + 1, 0, fun _ => rfl, fun i hi => ?_⟩
        obtain rfl : i = 0 := by
          have h2 : i < 1 := hi
          omega
        exact cell_of_cells x7 rfl
    · show i + 1 < _
      have : i < 2 := hi
      omega
  refine bodyPost_ret (v := (tnA z).val) (by simp [results, Try.f20, go_sem, k0, k1, k2, k3, Wx.val, tnA]) rfl ?_
  exact ⟨⟨z, rfl, HF.out.1⟩, HF.out.2⟩
theorem tn_chk (z : Nat) : chkW (tnA z) = 0 := by
  unfold chkW
  rw [if_neg (by simp [tnA]), if_neg (by simp [tnA]), if_pos]
  refine ⟨allIn_yes (fun i hi => by simp [tnA]), onL_yes (fun r hr => by simp [tnA]), okL_yes (fun r hr => allIn_yes (fun i hi => ?_)), okL_yes (fun r hr => allIn_yes (fun i hi => ?_))⟩
  · simp only [tnA]; split <;> decide
  · simp only [tnA] at hr ⊢; omega

theorem tn_good (z : Nat) : gdB (tnA z) 0 2 (fun _ => 0) (fun i => (i : Int)) = true := by
  rw [gd_of (N := 0) (by omega) (Nat.le_refl _)]
  have hl : ∀ i, ltr 0 2 (fun _ => (0 : Int)) (fun i => (i : Int)) i = ((i % 2 : Nat) : Int) := fun i => by unfold ltr; rw [if_neg (Nat.not_lt_zero _)]; rfl
  simp only [hl]
  refine ⟨fun i => ?_, has_iff.2 ⟨0, by simp [tnA], by simp [tnA]⟩, fun i => ?_, fun k hk => ⟨0, by simp [tnA], k, Nat.zero_le _, ?_⟩⟩
  · simp only [tnA]; have := Nat.mod_lt i (show 0 < 2 by omega); omega
  · rcases lt2 (Nat.mod_lt i (show 0 < 2 by omega)) with e | e
    · have e2 : (i + 1) % 2 = 1 := by omega
      rw [e, e2]
      exact has_iff.2 ⟨0, by simp [tnA], by simp [tnA]⟩
    · have e2 : (i + 1) % 2 = 0 := by omega
      rw [e, e2]
      exact has_iff.2 ⟨0, by simp [tnA], by simp [tnA]⟩
  · simp only [tnA] at hk ⊢
    rw [Nat.mod_eq_of_lt hk]
theorem cloneI_post {w w1 : World} {v' : Value} {n : Nat} {l : List Value} (hown : w1.ownsRow w.heap.size 3 1 v' (0 + n) ([] ++ l)) (hgrow : (w.alloc (.cells #[] 3)).grownBy w1 (Value.ownBlock (.slice (some ⟨w.heap.size, 0, none⟩) 0 0))) :
    Hid (w1.ownsRow w.heap.size 3 1 v' n l ∧ Below w.heap.size w w1) := by
  refine ⟨by rwa [Nat.zero_add, List.nil_append] at hown, ((Below.refl _ _).alloc (Nat.le_refl _) _).grown hgrow (by simp) (fun k hk => ?_)⟩
  simp only [Value.ownBlock, Option.some.injEq] at hk
  omega

set_option maxHeartbeats 400000 in
theorem cloneI_any (a : Option Addr) (n c : Nat) (Z : Nat → Int) (w : World) (hn : n ≤ 1000) (h : Row w a n Z) (hnil : a = none → n = 0 ∧ c = 0) :
    Calls Try.prog 25 #[.slice a n c] w fun e w' => ∃ v, e = .returned v ∧ w'.ownsRow w.heap.size 3 1 v n (valsI (lstI n Z)) ∧ Below w.heap.size w w' := by
  cases a with
  | none =>
    obtain ⟨rfl, rfl⟩ := hnil rfl
    have hq := fun w' => Go.Lib.run_eql_slice_nil (P := Try.prog) w' 22 3 none 0 0 0 0 Try.underlying22
    go_enter Try.func25, Try.ntmps25
    go_wp2
    go_ret
    exact ⟨_, rfl, World.ownsRow_nil _ _ _ _, Below.refl _ _⟩
  | some x =>
    obtain ⟨i0, hi, hz0, hz1, hz2⟩ := info_parts Try.info3i
    have HI : Hid (Try.prog.info? 3 = some i0 ∧ i0.zero = some (.int .i64 0) ∧ i0.size = 1 ∧ i0.bytes = 8) := ⟨hi, hz0, hz1, hz2⟩
    have HR : Hid (Row w (some x) n Z) := h
    clear hi hz0 hz1 hz2 h hnil
    have HO : Hid ((w.alloc (.cells #[] 3)).ownsRow w.heap.size 3 1 (.slice (some ⟨w.heap.size, 0, none⟩) 0 0) 0 []) := World.ownsRow_made w #[] 0 (Nat.le_refl _) (Nat.zero_le _) rfl
    have HN : Hid (∀ j u, (valsI (lstI n Z))[j]? = some u → (w.alloc (.cells #[] 3)).cell? (x.add j) = some u) := news_of_rowI (HR.out.below ((Below.refl _ _).alloc (Nat.le_refl _) _))
    have hq := fun w' => Go.Lib.run_eql_slice_nil (P := Try.prog) w' 22 3 (some x) n c 0 0 Try.underlying22
    go_enter Try.func25, Try.ntmps25
    go_wp2_with (at_builtin; refine wpList_append_own _ rfl _ _ 22 rfl w.heap.size 3 i0 (.int .i64 0) 1 8 Try.underlying22 HI.out.1 HI.out.2.1 HI.out.2.2.1 HI.out.2.2.2 rfl (by decide) _ _ _ rfl HO.out x n c (valsI (lstI n Z)) rfl (by rw [valsI_len, lstI_len, Nat.mul_one]) HN.out (valsI_one _) (by unfold maxLen; omega) (by omega) (by simp) ?_; intro v' w1 hown' hgrow _; have HX := cloneI_post hown' hgrow; clear hown' hgrow)
    go_ret
    refine ⟨_, rfl, ?_, HX.out.2⟩
    exact HX.out.1
end Go.Proofs.Ytgahdclbaifcbaa
