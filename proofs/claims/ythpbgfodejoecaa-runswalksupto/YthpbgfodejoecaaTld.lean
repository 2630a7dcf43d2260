/- told, labels. -/
import Derived.Deep.OwnRows
import Derived.Test.YthpbgfodejoecaaDgs
import Derived.Test.YthpbgfodejoecaaSpSpread
namespace Go.Proofs.Ythpbgfodejoecaa
open Go.RowKit

theorem box3 (w : World) (t : St3) : ∃ W, w.alloc (.cells #[.int .i64 t.1, .int .i64 t.2.1, .int .i64 t.2.2] 105) = W ∧ Below w.heap.size w W ∧ W.heap.size = w.heap.size + 1 ∧
    W.cell? ⟨w.heap.size, 0, none⟩ = some (.int .i64 t.1) ∧ W.cell? ⟨w.heap.size, 1, none⟩ = some (.int .i64 t.2.1) ∧ W.cell? ⟨w.heap.size, 2, none⟩ = some (.int .i64 t.2.2) :=
  ⟨_, rfl, box_below _ _, by simp, cell_of_alloc rfl, cell_of_alloc rfl, cell_of_alloc rfl⟩

/-- The cells of the list that is told, k of them written. -/
def tlF (T : Nat → St3) (k j : Nat) : Value := .int .i64 (if j / 2 < k then (if j % 2 = 0 then (T (j / 2)).2.1 else (T (j / 2)).1) else 0)

theorem made2 (w : World) (n : Nat) (t : TypeId) (T : Nat → St3) : (w.alloc (.cells (madeCells #[.int .i64 0, .int .i64 0] (n * 2)) t)).rowIs w.heap.size t (n * 2) (tlF T 0) :=
  ⟨_, Go.Deep.blk_alloc_new _ _, size_madeCells _ _, fun i hi => by
    have h2 : i % 2 = 0 ∨ i % 2 = 1 := by omega
    have hs : (#[Value.int .i64 0, .int .i64 0] : Array Value).size = 2 := rfl
    rcases h2 with h2 | h2 <;> simp [madeCells, hi, h2, tlF]⟩

theorem tl_set {w : World} {b n k : Nat} {t : TypeId} {T : Nat → St3} (h : w.rowIs b t (n * 2) (tlF T k)) : ((w.setCell ⟨b, k * 2, none⟩ (.int .i64 (T k).2.1)).setCell ⟨b, k * 2 + 1, none⟩ (.int .i64 (T k).1)).rowIs b t (n * 2) (tlF T (k + 1)) := by
  refine ((h.set (k * 2) _).set (k * 2 + 1) _).congr (fun i hi => ?_)
  by_cases h1 : i = k * 2 + 1
  · subst h1
    rw [if_pos rfl]
    unfold tlF
    rw [if_pos (by omega), if_neg (by omega), show (k * 2 + 1) / 2 = k by omega]
  · rw [if_neg h1]
    by_cases h2 : i = k * 2
    · subst h2
      rw [if_pos rfl]
      unfold tlF
      rw [if_pos (by omega), if_pos (by omega), show (k * 2) / 2 = k by omega]
    · rw [if_neg h2]
      unfold tlF
      by_cases h3 : i / 2 < k
      · rw [if_pos h3, if_pos (show i / 2 < k + 1 by omega)]
      · rw [if_neg h3, if_neg (show ¬ i / 2 < k + 1 by omega)]

theorem tl_prs {w : World} {b n : Nat} {t : TypeId} {T : Nat → St3} (h : w.rowIs b t (n * 2) (tlF T n)) : Fls w (some ⟨b, 0, none⟩) n (fun i => (T i).2.1) (fun i => (T i).1) := by
  refine ⟨b, 0, fun _ => rfl, fun i hi => ?_⟩
  have h1 := h.cell (i := i * 2) (by omega)
  have h2 := h.cell (i := i * 2 + 1) (by omega)
  unfold tlF at h1 h2
  rw [if_pos (by omega), if_pos (by omega), show (i * 2) / 2 = i by omega] at h1
  rw [if_pos (by omega), if_neg (by omega), show (i * 2 + 1) / 2 = i by omega] at h2
  rw [Nat.zero_add]
  exact ⟨h1, h2⟩

set_option maxHeartbeats 1000000 in
theorem told_any (a : Option Addr) (n c : Nat) (T : Nat → St3) (w : World) (hn : n ≤ 600) (h : Sts w a n T) :
    Calls Try.prog 27 #[.slice a n c] w fun e w' => e = .returned (.slice (some ⟨w.heap.size, 0, none⟩) n n) ∧ Below w.heap.size w w' ∧ w'.rowIs w.heap.size 44 (n * 2) (tlF T n) := by
  obtain ⟨i0, hi, hz0, hz1, hz2⟩ := info_parts Try.info44
  have hmk : ∀ z, (Instr.makeSlice 31 (.int .i64 (n : Nat)) (.int .i64 (n : Nat))).run Try.prog z = .ok (.slice (some ⟨z.heap.size, 0, none⟩) n n) (z.alloc (.cells (madeCells #[.int .i64 0, .int .i64 0] (n * 2)) 44)) := fun z => by
    have := run_make (P := Try.prog) z 31 44 i0 (.agg #[.int .i64 0, .int .i64 0]) Try.underlying31 hi hz0 .i64 .i64 n n (by omega) (by omega) (by rw [hz2]; omega) (by omega)
    rw [hz1] at this
    exact this
  obtain ⟨b, o, ha, hc⟩ := h
  have HC := hid hc
  clear hc hi hz0 hz1 hz2
  go_enter Try.func27, Try.ntmps27
  go_wp2
  clear hmk
  go_loopw [11] (fun i wr => ∃ k : Nat, k ≤ n ∧ i = .int .i64 k ∧ Hid (Below w.heap.size w wr ∧ wr.rowIs w.heap.size 44 (n * 2) (tlF T k))) (fun i _ => n - (intOf i).toNat)
  case atStart => exact ⟨0, Nat.zero_le _, rfl, hid ⟨box_below _ _, made2 _ _ _ _⟩⟩
  case round =>
    obtain ⟨k, hk, rfl, HS⟩ := hrel
    by_cases hlt : k < n
    · obtain rfl := ha (by omega)
      obtain ⟨q0, q1, q2⟩ := Sts.at HC.out HS.out.1 hlt
      obtain ⟨W2, hW2, hb2, hs2, p0, p1, p2⟩ := box3 wr (T k)
      have HR : Hid (W2.rowIs w.heap.size 44 (n * 2) (tlF T k)) := hid (by rw [← hW2]; exact HS.out.2.alloc _)
      have HB : Hid (Below w.heap.size w W2) := hid (HS.out.1.trans (hb2.mono HS.out.1.size))
      have r0 := HR.out.cell (i := k * 2) (by omega)
      have r1 := HR.out.cell (i := k * 2 + 1) (by omega)
      have f0 := HR.out.frozen (k * 2)
      have f1 := HR.out.frozen (k * 2 + 1)
      obtain ⟨x0, e0⟩ : ∃ x, x = tlF T k (k * 2) := ⟨_, rfl⟩
      obtain ⟨x1, e1⟩ : ∃ x, x = tlF T k (k * 2 + 1) := ⟨_, rfl⟩
      rw [← e0] at r0
      rw [← e1] at r1
      obtain ⟨t, ht⟩ : ∃ t, t = T k := ⟨_, rfl⟩
      rw [← ht] at q0 q1 q2 p0 p1 p2 hW2
      have HT := hid ht
      clear e0 e1 ht hb2
      go_wp2
      go_roundw
      case rel => exact ⟨k + 1, by omega, by go_num, hid ⟨(HB.out.setCell (Nat.le_refl _) _).setCell (Nat.le_refl _) _, by rw [HT.out]; exact tl_set HR.out⟩⟩
      case measure => simp [intOf]; omega
    · obtain rfl : n = k := by omega
      go_wp2
      go_ret
      exact ⟨rfl, HS.out.1, HS.out.2⟩

/-- The letter of a state: the bit of the node whose step is done, or the last one. -/
def lbN (l : List St3) (t : St3) : Nat := if t.2.1 = -1 then 2 ^ 63 else 2 ^ ((l.getD t.2.1.toNat (0, 0, 0)).1).toNat

theorem lbN_lt {l : List St3} {t : St3} (h : ∀ i, i < l.length → 0 ≤ (l.getD i (0, 0, 0)).1 ∧ (l.getD i (0, 0, 0)).1 < 20) : lbN l t ≤ 9223372036854775808 := by
  unfold lbN
  by_cases e : t.2.1 = -1
  · rw [if_pos e]; decide
  · rw [if_neg e]
    by_cases h1 : t.2.1.toNat < l.length
    · have := h _ h1
      have h2 : ((l.getD t.2.1.toNat (0, 0, 0)).1).toNat ≤ 63 := by omega
      exact Nat.le_trans (Nat.pow_le_pow_right (by omega) h2) (by decide)
    · rw [List.getD_eq_getElem?_getD, List.getElem?_eq_none (by omega)]
      show 2 ^ 0 ≤ _
      omega

def lbF (l : List St3) (T : Nat → St3) (k j : Nat) : Value := .int .u64 (if j < k then (lbN l (T j) : Int) else 0)

end Go.Proofs.Ythpbgfodejoecaa
