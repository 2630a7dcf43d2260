/- The law ProcFlows: its closures, the straight process, sums. -/
import Derived.Test.YtddingbfjkmdeaaProc7
namespace Go.Proofs.Ytddingbfjkmdeaa
open Go.RowKit

set_option maxHeartbeats 400000 in
theorem neB_any (pb nb : Nat) (fa : Option Addr) (F fc : Nat) (A B : Nat → Int) (j : Nat) (n : Int) (w : World) (hj : j < F) (hF : F ≤ 30) (h1 : w.cell? ⟨pb, 1, none⟩ = some (.slice fa F fc)) (h2 : w.cell? ⟨nb, 0, none⟩ = some (.int .i64 n)) (hf : Fls w fa F A B) (hX : B j = n) :
    Calls Try.prog 15 #[.int .i64 j, .pointer (some ⟨pb, 0, none⟩), .pointer (some ⟨nb, 0, none⟩)] w fun e w' => e = .returned (.bool false) ∧ ∃ q, w' = w.drewN q := by
  obtain ⟨b, o, ha, hc⟩ := hf
  obtain rfl := ha (by omega)
  obtain ⟨h3, h4⟩ := hc j hj
  have hjz : (j : Int) < F := by omega
  subst hX
  clear hc ha
  go_enter Try.func15, Try.ntmps15
  go_wp2
  go_quiet (fail)
  go_wp2
  go_ret
  exact ⟨rfl, _, rfl⟩

set_option maxHeartbeats 400000 in
theorem indexFB_any (a : Option Addr) (m c : Nat) (Z : Nat → Int) (pb nb : Nat) (fa : Option Addr) (F fc : Nat) (A B : Nat → Int) (n : Int) (w : World) (hm : m ≤ 30) (hF : F ≤ 30) (hr : Row w a m Z) (h1 : w.cell? ⟨pb, 1, none⟩ = some (.slice fa F fc)) (h2 : w.cell? ⟨nb, 0, none⟩ = some (.int .i64 n)) (hf : Fls w fa F A B)
    (hZ : ∀ i, i < m → ∃ j : Nat, Z i = j ∧ j < F ∧ B j = n) :
    Calls Try.prog 36 #[.slice a m c, .func (Fn.func 15) #[] #[.pointer (some ⟨pb, 0, none⟩), .pointer (some ⟨nb, 0, none⟩)]] w fun e w' => e = .returned (.int .i64 (-1)) ∧ ∃ q, w' = w.drewN q := by
  obtain ⟨b, o, ha, hc⟩ := hr
  have HC : Hid (∀ i, i < m → w.cell? ⟨b, o + i, none⟩ = some (.int .i64 (Z i))) := hc
  have HZ : Hid (∀ i, i < m → ∃ j : Nat, Z i = j ∧ j < F ∧ B j = n) := hZ
  have HF : Hid (w.cell? ⟨pb, 1, none⟩ = some (.slice fa F fc) ∧ w.cell? ⟨nb, 0, none⟩ = some (.int .i64 n) ∧ Fls w fa F A B) := ⟨h1, h2, hf⟩
  clear hc hZ h1 h2 hf
  go_enter Try.func36, Try.ntmps36
  go_wp2
  go_loopw [8] (fun i wr => ∃ k : Nat, k ≤ m ∧ i = .int .i64 k ∧ ∃ q, wr = w.drewN q) (fun i _ => m - (intOf i).toNat)
  case atStart => exact ⟨0, Nat.zero_le _, rfl, 0, rfl⟩
  case round =>
    obtain ⟨k, hk, rfl, q, rfl⟩ := hrel
    by_cases hlt : k < m
    · obtain rfl := ha (by omega)
      obtain ⟨j, hj, hjF, hX⟩ := HZ.out k hlt
      have hcell := HC.out k hlt
      rw [hj] at hcell
      have hkz : (k : Int) < m := by omega
      have C : Hid (Calls Try.prog 15 #[.int .i64 j, .pointer (some ⟨pb, 0, none⟩), .pointer (some ⟨nb, 0, none⟩)] (w.drewN q) fun e w' => e = .returned (.bool false) ∧ ∃ q', w' = (w.drewN q).drewN q') := neB_any pb nb fa F fc A B j n (w.drewN q) hjF hF HF.out.1 HF.out.2.1 HF.out.2.2 hX
      clear hj hjF hX
      go_wp2_with fail
      refine C.out.mono ?_
      rintro e w' ⟨rfl, q', rfl⟩
      go_wp2
      go_roundw
      case rel => exact ⟨k + 1, by omega, by go_num, q + q', rfl⟩
      case measure => simp [intOf]; omega
    · go_wp2
      go_ret
      exact ⟨rfl, q, rfl⟩

theorem containsFB_any (a : Option Addr) (m c : Nat) (Z : Nat → Int) (pb nb : Nat) (fa : Option Addr) (F fc : Nat) (A B : Nat → Int) (n : Int) (w : World) (hm : m ≤ 30) (hF : F ≤ 30) (hr : Row w a m Z) (h1 : w.cell? ⟨pb, 1, none⟩ = some (.slice fa F fc)) (h2 : w.cell? ⟨nb, 0, none⟩ = some (.int .i64 n)) (hf : Fls w fa F A B)
    (hZ : ∀ i, i < m → ∃ j : Nat, Z i = j ∧ j < F ∧ B j = n) :
    Calls Try.prog 14 #[.slice a m c, .func (Fn.func 15) #[] #[.pointer (some ⟨pb, 0, none⟩), .pointer (some ⟨nb, 0, none⟩)]] w fun e w' => e = .returned (.bool false) ∧ ∃ q, w' = w.drewN q := by
  have C : Hid (Calls Try.prog 36 #[.slice a m c, .func (Fn.func 15) #[] #[.pointer (some ⟨pb, 0, none⟩), .pointer (some ⟨nb, 0, none⟩)]] w fun e w' => e = .returned (.int .i64 (-1)) ∧ ∃ q, w' = w.drewN q) := indexFB_any a m c Z pb nb fa F fc A B n w hm hF hr h1 h2 hf hZ
  clear hr h1 h2 hf hZ hm hF
  go_enter Try.func14, Try.ntmps14
  go_wp2_with fail
  refine C.out.mono ?_
  rintro e w' ⟨rfl, q, rfl⟩
  go_wp2
  go_ret
  exact ⟨rfl, q, rfl⟩

set_option maxHeartbeats 400000 in
theorem neA_any (pb nb : Nat) (fa : Option Addr) (F fc : Nat) (A B : Nat → Int) (j : Nat) (n : Int) (w : World) (hj : j < F) (hF : F ≤ 30) (h1 : w.cell? ⟨pb, 1, none⟩ = some (.slice fa F fc)) (h2 : w.cell? ⟨nb, 0, none⟩ = some (.int .i64 n)) (hf : Fls w fa F A B) (hX : A j = n) :
    Calls Try.prog 16 #[.int .i64 j, .pointer (some ⟨pb, 0, none⟩), .pointer (some ⟨nb, 0, none⟩)] w fun e w' => e = .returned (.bool false) ∧ ∃ q, w' = w.drewN q := by
  obtain ⟨b, o, ha, hc⟩ := hf
  obtain rfl := ha (by omega)
  obtain ⟨h3, h4⟩ := hc j hj
  have hjz : (j : Int) < F := by omega
  subst hX
  clear hc ha
  go_enter Try.func16, Try.ntmps16
  go_wp2
  go_quiet (fail)
  go_wp2
  go_ret
  exact ⟨rfl, _, rfl⟩

set_option maxHeartbeats 400000 in
theorem indexFA_any (a : Option Addr) (m c : Nat) (Z : Nat → Int) (pb nb : Nat) (fa : Option Addr) (F fc : Nat) (A B : Nat → Int) (n : Int) (w : World) (hm : m ≤ 30) (hF : F ≤ 30) (hr : Row w a m Z) (h1 : w.cell? ⟨pb, 1, none⟩ = some (.slice fa F fc)) (h2 : w.cell? ⟨nb, 0, none⟩ = some (.int .i64 n)) (hf : Fls w fa F A B)
    (hZ : ∀ i, i < m → ∃ j : Nat, Z i = j ∧ j < F ∧ A j = n) :
    Calls Try.prog 36 #[.slice a m c, .func (Fn.func 16) #[] #[.pointer (some ⟨pb, 0, none⟩), .pointer (some ⟨nb, 0, none⟩)]] w fun e w' => e = .returned (.int .i64 (-1)) ∧ ∃ q, w' = w.drewN q := by
  obtain ⟨b, o, ha, hc⟩ := hr
  have HC : Hid (∀ i, i < m → w.cell? ⟨b, o + i, none⟩ = some (.int .i64 (Z i))) := hc
  have HZ : Hid (∀ i, i < m → ∃ j : Nat, Z i = j ∧ j < F ∧ A j = n) := hZ
  have HF : Hid (w.cell? ⟨pb, 1, none⟩ = some (.slice fa F fc) ∧ w.cell? ⟨nb, 0, none⟩ = some (.int .i64 n) ∧ Fls w fa F A B) := ⟨h1, h2, hf⟩
  clear hc hZ h1 h2 hf
  go_enter Try.func36, Try.ntmps36
  go_wp2
  go_loopw [8] (fun i wr => ∃ k : Nat, k ≤ m ∧ i = .int .i64 k ∧ ∃ q, wr = w.drewN q) (fun i _ => m - (intOf i).toNat)
  case atStart => exact ⟨0, Nat.zero_le _, rfl, 0, rfl⟩
  case round =>
    obtain ⟨k, hk, rfl, q, rfl⟩ := hrel
    by_cases hlt : k < m
    · obtain rfl := ha (by omega)
      obtain ⟨j, hj, hjF, hX⟩ := HZ.out k hlt
      have hcell := HC.out k hlt
      rw [hj] at hcell
      have hkz : (k : Int) < m := by omega
      have C : Hid (Calls Try.prog 16 #[.int .i64 j, .pointer (some ⟨pb, 0, none⟩), .pointer (some ⟨nb, 0, none⟩)] (w.drewN q) fun e w' => e = .returned (.bool false) ∧ ∃ q', w' = (w.drewN q).drewN q') := neA_any pb nb fa F fc A B j n (w.drewN q) hjF hF HF.out.1 HF.out.2.1 HF.out.2.2 hX
      clear hj hjF hX
      go_wp2_with fail
      refine C.out.mono ?_
      rintro e w' ⟨rfl, q', rfl⟩
      go_wp2
      go_roundw
      case rel => exact ⟨k + 1, by omega, by go_num, q + q', rfl⟩
      case measure => simp [intOf]; omega
    · go_wp2
      go_ret
      exact ⟨rfl, q, rfl⟩

theorem containsFA_any (a : Option Addr) (m c : Nat) (Z : Nat → Int) (pb nb : Nat) (fa : Option Addr) (F fc : Nat) (A B : Nat → Int) (n : Int) (w : World) (hm : m ≤ 30) (hF : F ≤ 30) (hr : Row w a m Z) (h1 : w.cell? ⟨pb, 1, none⟩ = some (.slice fa F fc)) (h2 : w.cell? ⟨nb, 0, none⟩ = some (.int .i64 n)) (hf : Fls w fa F A B)
    (hZ : ∀ i, i < m → ∃ j : Nat, Z i = j ∧ j < F ∧ A j = n) :
    Calls Try.prog 14 #[.slice a m c, .func (Fn.func 16) #[] #[.pointer (some ⟨pb, 0, none⟩), .pointer (some ⟨nb, 0, none⟩)]] w fun e w' => e = .returned (.bool false) ∧ ∃ q, w' = w.drewN q := by
  have C : Hid (Calls Try.prog 36 #[.slice a m c, .func (Fn.func 16) #[] #[.pointer (some ⟨pb, 0, none⟩), .pointer (some ⟨nb, 0, none⟩)]] w fun e w' => e = .returned (.int .i64 (-1)) ∧ ∃ q, w' = w.drewN q) := indexFA_any a m c Z pb nb fa F fc A B n w hm hF hr h1 h2 hf hZ
  clear hr h1 h2 hf hZ hm hF
  go_enter Try.func14, Try.ntmps14
  go_wp2_with fail
  refine C.out.mono ?_
  rintro e w' ⟨rfl, q, rfl⟩
  go_wp2
  go_ret
  exact ⟨rfl, q, rfl⟩

def sMs (i : Nat) : ByteArray := if i = 0 then ⟨#[97]⟩ else if i = 1 then ⟨#[98]⟩ else ⟨#[99]⟩
def sKs (i : Nat) : Int := if i = 0 then 1 else if i = 1 then 4 else 2
def sAs (i : Nat) : Int := if i = 0 then 0 else 1
def sBs (i : Nat) : Int := if i = 0 then 1 else 2

theorem straight_nodes : nodesErr sMs sKs 3 = 0 := by
  have n0 : nameOk (sMs 0) = true := by simp [nameOk, sMs, ByteArray.toList_eq]; decide
  have n1 : nameOk (sMs 1) = true := by simp [nameOk, sMs, ByteArray.toList_eq]; decide
  have n2 : nameOk (sMs 2) = true := by simp [nameOk, sMs, ByteArray.toList_eq]; decide
  have f0 : fnd 0 sMs (sMs 0) = -1 := fnd_none (fun j hj => by omega)
  have f1 : fnd 1 sMs (sMs 1) = -1 := fnd_none (fun j hj => by
    obtain rfl : j = 0 := by omega
    simp [sMs, ByteArray.toList_eq])
  have f2 : fnd 2 sMs (sMs 2) = -1 := fnd_none (fun j hj => by
    match j, hj with
    | 0, _ => simp [sMs, ByteArray.toList_eq]
    | 1, _ => simp [sMs, ByteArray.toList_eq])
  have e1 : nodesErr sMs sKs 1 = 0 := by rw [nodesErr_next rfl, if_pos ⟨n0, by decide⟩, if_pos f0]
  have e2 : nodesErr sMs sKs 2 = 0 := by rw [nodesErr_next e1, if_pos ⟨n1, by decide⟩, if_pos f1]
  rw [nodesErr_next e2, if_pos ⟨n2, by decide⟩, if_pos f2]

theorem straight_come : allCome 3 2 sKs sAs sBs := by
  have w0 : Wk (fun s => s < 3 ∧ sKs s = 1) (fun x y => ∃ i, i < 2 ∧ sAs i = x ∧ sBs i = y) 0 0 := ⟨by omega, rfl⟩
  have w1 : Wk (fun s => s < 3 ∧ sKs s = 1) (fun x y => ∃ i, i < 2 ∧ sAs i = x ∧ sBs i = y) 1 1 := ⟨0, w0, 0, by omega, rfl, rfl⟩
  have w2 : Wk (fun s => s < 3 ∧ sKs s = 1) (fun x y => ∃ i, i < 2 ∧ sAs i = x ∧ sBs i = y) 2 2 := ⟨1, w1, 1, by omega, rfl, rfl⟩
  intro x hx
  match x, hx with
  | 0, _ => exact ⟨0, w0⟩
  | 1, _ => exact ⟨1, w1⟩
  | 2, _ => exact ⟨2, w2⟩

theorem straight_chk : ChkIs 3 2 sMs sKs sAs sBs 0 :=
  Or.inr ⟨⟨by omega, by omega⟩, Or.inr ⟨straight_nodes, Or.inr ⟨⟨by decide, by decide, by decide⟩, Or.inr ⟨straight_come, rfl⟩⟩⟩⟩

theorem straight_prc (w : World) (o : Obj) : Prc (((w.alloc o).alloc (.cells #[.string ⟨#[97]⟩, .int .i64 1, .string ⟨#[98]⟩, .int .i64 4, .string ⟨#[99]⟩, .int .i64 2] 55)).alloc (.cells #[.int .i64 0, .int .i64 1, .int .i64 1, .int .i64 2] 37))
    (some ⟨w.heap.size + 1, 0, none⟩) 3 3 (some ⟨w.heap.size + 1 + 1, 0, none⟩) 2 sMs sKs sAs sBs := by
  have e1 : (w.alloc o).heap.size = w.heap.size + 1 := by simp
  have hn : (((w.alloc o).alloc (.cells #[.string ⟨#[97]⟩, .int .i64 1, .string ⟨#[98]⟩, .int .i64 4, .string ⟨#[99]⟩, .int .i64 2] 55)).alloc (.cells #[.int .i64 0, .int .i64 1, .int .i64 1, .int .i64 2] 37)).heap[w.heap.size + 1]? = some (.cells #[.string ⟨#[97]⟩, .int .i64 1, .string ⟨#[98]⟩, .int .i64 4, .string ⟨#[99]⟩, .int .i64 2] 55) := by
    rw [Go.Deep.blk_alloc_lt _ _ _ (by simp), ← e1, Go.Deep.blk_alloc_new]
  have hf : (((w.alloc o).alloc (.cells #[.string ⟨#[97]⟩, .int .i64 1, .string ⟨#[98]⟩, .int .i64 4, .string ⟨#[99]⟩, .int .i64 2] 55)).alloc (.cells #[.int .i64 0, .int .i64 1, .int .i64 1, .int .i64 2] 37)).heap[w.heap.size + 1 + 1]? = some (.cells #[.int .i64 0, .int .i64 1, .int .i64 1, .int .i64 2] 37) := by
    have e2 : ((w.alloc o).alloc (.cells #[.string ⟨#[97]⟩, .int .i64 1, .string ⟨#[98]⟩, .int .i64 4, .string ⟨#[99]⟩, .int .i64 2] 55)).heap.size = w.heap.size + 1 + 1 := by simp
    rw [← e2, Go.Deep.blk_alloc_new]
  refine ⟨⟨_, 0, fun _ => rfl, fun i hi => ?_⟩, ⟨_, 0, fun _ => rfl, fun i hi => ?_⟩, by omega, by omega, by omega⟩
  · match i, hi with
    | 0, _ => exact ⟨cell_of_cells hn rfl, cell_of_cells hn rfl⟩
    | 1, _ => exact ⟨cell_of_cells hn rfl, cell_of_cells hn rfl⟩
    | 2, _ => exact ⟨cell_of_cells hn rfl, cell_of_cells hn rfl⟩
  · match i, hi with
    | 0, _ => exact ⟨cell_of_cells hf rfl, cell_of_cells hf rfl⟩
    | 1, _ => exact ⟨cell_of_cells hf rfl, cell_of_cells hf rfl⟩

theorem straight_any (w : World) : Calls Try.prog 13 #[] w fun e w' => (∃ na fa, e = .returned (.agg #[.slice na 3 3, .slice fa 2 2]) ∧ Prc w' na 3 3 fa 2 sMs sKs sAs sBs) ∧ Below w.heap.size w w' := by
  go_enter Try.func13, Try.ntmps13
  go_wp2
  (try simp only [Exit.inBlock, Exit.then])
  refine bodyPost_ret (results_cell_row rfl _ _ w.heap.size 25 #[.slice (some ⟨w.heap.size + 1, 0, none⟩) 3 3, .slice (some ⟨w.heap.size + 1 + 1, 0, none⟩) 2 2] (0, 0) _ rfl ?_ Try.underlying25 rfl (by kernel_rfl)) rfl ?_
  · rw [Go.Deep.blk_alloc_lt _ _ _ (by simp; omega), Go.Deep.blk_alloc_lt _ _ _ (by simp), Go.Deep.blk_alloc_new]
  · refine ⟨⟨_, _, rfl, straight_prc w _⟩, (((Below.refl _ _).alloc (Nat.le_refl _) _).alloc (by simp) _).alloc (by simp; omega) _⟩

/-- How many flows the first k nodes have. -/
def sumT (X : Nat → Int) (F : Nat) : Nat → Nat
  | 0 => 0
  | k + 1 => sumT X F k + tally X k F

theorem sumT_le (X : Nat → Int) (F : Nat) : ∀ k, sumT X F k ≤ k * F
  | 0 => by simp [sumT]
  | k + 1 => by
    have h1 := sumT_le X F k
    have h2 := tally_le X k F
    simp only [sumT, Nat.add_mul, Nat.one_mul]
    omega

theorem sumT_zero (X : Nat → Int) : ∀ k, sumT X 0 k = 0
  | 0 => rfl
  | k + 1 => by simp [sumT, sumT_zero X k, tally]

theorem sumT_next (X : Nat → Int) (F : Nat) : ∀ k : Nat, sumT X (F + 1) k = sumT X F k + if 0 ≤ X F ∧ X F < k then 1 else 0
  | 0 => by simp [sumT] <;> omega
  | k + 1 => by
    have ih := sumT_next X F k
    simp only [sumT, ih]
    by_cases e : X F = k
    · rw [tally_hit e, if_neg (by omega), if_pos (by omega)]
      omega
    · rw [tally_miss e]
      by_cases e2 : 0 ≤ X F ∧ X F < k
      · rw [if_pos e2, if_pos (by omega)]; omega
      · rw [if_neg e2, if_neg (by omega)]; omega

theorem sumT_all (X : Nat → Int) (N : Nat) : ∀ F, (∀ i, i < F → 0 ≤ X i ∧ X i < N) → sumT X F N = F
  | 0, _ => sumT_zero X N
  | F + 1, h => by
    rw [sumT_next, sumT_all X N F (fun i hi => h i (by omega)), if_pos (h F (by omega))]

end Go.Proofs.Ytddingbfjkmdeaa
