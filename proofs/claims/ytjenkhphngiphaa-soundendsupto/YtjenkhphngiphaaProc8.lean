/- The law ProcFlows: its closures, the straight process, sums. -/
import Derived.Test.YtjenkhphngiphaaProc7
namespace Go.Proofs.Ytjenkhphngiphaa
open Go.RowKit

def sMs (i : Nat) : ByteArray := if i = 0 then ⟨#[97]⟩ else if i = 1 then ⟨#[98]⟩ else ⟨#[99]⟩
def sKs (i : Nat) : Int := if i = 0 then 1 else if i = 1 then 4 else 2
def sAs (i : Nat) : Int := if i = 0 then 0 else 1
def sBs (i : Nat) : Int := if i = 0 then 1 else 2

theorem straight_nodes : nodesErr sMs sKs 3 = 0 := by
  have n0 : nameOk (sMs 0) = true := by simp [nameOk, sMs, ByteArray.toList_eq]; decide
  have n1 : nameOk (sMs 1) = true := by simp [nameOk, sMs, ByteArray.toList_eq]; decide
  have n2 : nameOk (sMs 2) = true := by simp [nameOk, sMs, ByteArray.toList_eq]; decide
  have f0 : fnd 0 sMs (sMs 0) = -1 := fnd_none (fun j hj => by omega)
  have f1 : fnd 1 sMs (sMs 1) = -1 := fnd_none (fun j hj => by
    obtain rfl : j = 0 := by omega
    simp [sMs, ByteArray.toList_eq])
  have f2 : fnd 2 sMs (sMs 2) = -1 := fnd_none (fun j hj => by
    match j, hj with
    | 0, _ => simp [sMs, ByteArray.toList_eq]
    | 1, _ => simp [sMs, ByteArray.toList_eq])
  have e1 : nodesErr sMs sKs 1 = 0 := by rw [nodesErr_next rfl, if_pos ⟨n0, by decide⟩, if_pos f0]
  have e2 : nodesErr sMs sKs 2 = 0 := by rw [nodesErr_next e1, if_pos ⟨n1, by decide⟩, if_pos f1]
  rw [nodesErr_next e2, if_pos ⟨n2, by decide⟩, if_pos f2]

theorem straight_come : allCome 3 2 sKs sAs sBs := by
  have w0 : Wk (fun s => s < 3 ∧ sKs s = 1) (fun x y => ∃ i, i < 2 ∧ sAs i = x ∧ sBs i = y) 0 0 := ⟨by omega, rfl⟩
  have w1 : Wk (fun s => s < 3 ∧ sKs s = 1) (fun x y => ∃ i, i < 2 ∧ sAs i = x ∧ sBs i = y) 1 1 := ⟨0, w0, 0, by omega, rfl, rfl⟩
  have w2 : Wk (fun s => s < 3 ∧ sKs s = 1) (fun x y => ∃ i, i < 2 ∧ sAs i = x ∧ sBs i = y) 2 2 := ⟨1, w1, 1, by omega, rfl, rfl⟩
  intro x hx
  match x, hx with
  | 0, _ => exact ⟨0, w0⟩
  | 1, _ => exact ⟨1, w1⟩
  | 2, _ => exact ⟨2, w2⟩

theorem straight_chk : ChkIs 3 2 sMs sKs sAs sBs 0 :=
  Or.inr ⟨⟨by omega, by omega⟩, Or.inr ⟨straight_nodes, Or.inr ⟨⟨by decide, by decide, by decide⟩, Or.inr ⟨straight_come, rfl⟩⟩⟩⟩

theorem straight_prc (w : World) (o : Obj) : Prc (((w.alloc o).alloc (.cells #[.string ⟨#[97]⟩, .int .i64 1, .string ⟨#[98]⟩, .int .i64 4, .string ⟨#[99]⟩, .int .i64 2] 77)).alloc (.cells #[.int .i64 0, .int .i64 1, .int .i64 1, .int .i64 2] 83))
    (some ⟨w.heap.size + 1, 0, none⟩) 3 3 (some ⟨w.heap.size + 1 + 1, 0, none⟩) 2 sMs sKs sAs sBs := by
  have e1 : (w.alloc o).heap.size = w.heap.size + 1 := by simp
  have hn : (((w.alloc o).alloc (.cells #[.string ⟨#[97]⟩, .int .i64 1, .string ⟨#[98]⟩, .int .i64 4, .string ⟨#[99]⟩, .int .i64 2] 77)).alloc (.cells #[.int .i64 0, .int .i64 1, .int .i64 1, .int .i64 2] 83)).heap[w.heap.size + 1]? = some (.cells #[.string ⟨#[97]⟩, .int .i64 1, .string ⟨#[98]⟩, .int .i64 4, .string ⟨#[99]⟩, .int .i64 2] 77) := by
    rw [Go.Deep.blk_alloc_lt _ _ _ (by simp), ← e1, Go.Deep.blk_alloc_new]
  have hf : (((w.alloc o).alloc (.cells #[.string ⟨#[97]⟩, .int .i64 1, .string ⟨#[98]⟩, .int .i64 4, .string ⟨#[99]⟩, .int .i64 2] 77)).alloc (.cells #[.int .i64 0, .int .i64 1, .int .i64 1, .int .i64 2] 83)).heap[w.heap.size + 1 + 1]? = some (.cells #[.int .i64 0, .int .i64 1, .int .i64 1, .int .i64 2] 83) := by
    have e2 : ((w.alloc o).alloc (.cells #[.string ⟨#[97]⟩, .int .i64 1, .string ⟨#[98]⟩, .int .i64 4, .string ⟨#[99]⟩, .int .i64 2] 77)).heap.size = w.heap.size + 1 + 1 := by simp
    rw [← e2, Go.Deep.blk_alloc_new]
  refine ⟨⟨_, 0, fun _ => rfl, fun i hi => ?_⟩, ⟨_, 0, fun _ => rfl, fun i hi => ?_⟩, by omega, by omega, by omega⟩
  · match i, hi with
    | 0, _ => exact ⟨cell_of_cells hn rfl, cell_of_cells hn rfl⟩
    | 1, _ => exact ⟨cell_of_cells hn rfl, cell_of_cells hn rfl⟩
    | 2, _ => exact ⟨cell_of_cells hn rfl, cell_of_cells hn rfl⟩
  · match i, hi with
    | 0, _ => exact ⟨cell_of_cells hf rfl, cell_of_cells hf rfl⟩
    | 1, _ => exact ⟨cell_of_cells hf rfl, cell_of_cells hf rfl⟩

theorem straight_any (w : World) : Calls Try.prog 10 #[] w fun e w' => (∃ na fa, e = .returned (.agg #[.slice na 3 3, .slice fa 2 2]) ∧ Prc w' na 3 3 fa 2 sMs sKs sAs sBs) ∧ Below w.heap.size w w' := by
  go_enter Try.func10, Try.ntmps10
  go_wp2
  (try simp only [Exit.inBlock, Exit.then])
  refine bodyPost_ret (results_cell_row rfl _ _ w.heap.size 25 #[.slice (some ⟨w.heap.size + 1, 0, none⟩) 3 3, .slice (some ⟨w.heap.size + 1 + 1, 0, none⟩) 2 2] (0, 0) _ rfl ?_ Try.underlying25 rfl (by kernel_rfl)) rfl ?_
  · rw [Go.Deep.blk_alloc_lt _ _ _ (by simp; omega), Go.Deep.blk_alloc_lt _ _ _ (by simp), Go.Deep.blk_alloc_new]
  · refine ⟨⟨_, _, rfl, straight_prc w _⟩, (((Below.refl _ _).alloc (Nat.le_refl _) _).alloc (by simp) _).alloc (by simp; omega) _⟩

/-- How many flows the first k nodes have. -/
def sumT (X : Nat → Int) (F : Nat) : Nat → Nat
  | 0 => 0
  | k + 1 => sumT X F k + tally X k F

theorem sumT_le (X : Nat → Int) (F : Nat) : ∀ k, sumT X F k ≤ k * F
  | 0 => by simp [sumT]
  | k + 1 => by
    have h1 := sumT_le X F k
    have h2 := tally_le X k F
    simp only [sumT, Nat.add_mul, Nat.one_mul]
    omega

theorem sumT_zero (X : Nat → Int) : ∀ k, sumT X 0 k = 0
  | 0 => rfl
  | k + 1 => by simp [sumT, sumT_zero X k, tally]

theorem sumT_next (X : Nat → Int) (F : Nat) : ∀ k : Nat, sumT X (F + 1) k = sumT X F k + if 0 ≤ X F ∧ X F < k then 1 else 0
  | 0 => by simp [sumT] <;> omega
  | k + 1 => by
    have ih := sumT_next X F k
    simp only [sumT, ih]
    by_cases e : X F = k
    · rw [tally_hit e, if_neg (by omega), if_pos (by omega)]
      omega
    · rw [tally_miss e]
      by_cases e2 : 0 ≤ X F ∧ X F < k
      · rw [if_pos e2, if_pos (by omega)]; omega
      · rw [if_neg e2, if_neg (by omega)]; omega

theorem sumT_all (X : Nat → Int) (N : Nat) : ∀ F, (∀ i, i < F → 0 ≤ X i ∧ X i < N) → sumT X F N = F
  | 0, _ => sumT_zero X N
  | F + 1, h => by
    rw [sumT_next, sumT_all X N F (fun i hi => h i (by omega)), if_pos (h F (by omega))]

end Go.Proofs.Ytjenkhphngiphaa
