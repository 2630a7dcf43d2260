/- join, list, setOf. -/
import Derived.Test.YtdncjikmknkkpaaStb
namespace Go.Proofs.Ytdncjikmknkkpaa
open Go.RowKit

theorem mem_zero (s : Nat) : mem (fun _ => 0) s = false := by simp [mem]

/-- The set of the first k of a list. -/
def ofL (Z : Nat → Int) : Nat → Nat → Nat
  | 0 => fun _ => 0
  | k + 1 => sadd (ofL Z k) (Z k).toNat

theorem ofL_small {Z : Nat → Int} : ∀ {k : Nat}, (∀ i, i < k → 0 ≤ Z i ∧ Z i < 2048) → ∀ i, i < 32 → ofL Z k i < 18446744073709551616
  | 0, _ => fun _ _ => by simp [ofL]
  | k + 1, h => sadd_small (ofL_small (fun i hi => h i (by omega))) (by have := h k (by omega); omega)

theorem mem_ofL {Z : Nat → Int} (s : Nat) : ∀ {k : Nat}, (∀ i, i < k → 0 ≤ Z i ∧ Z i < 2048) → mem (ofL Z k) s = has k Z s
  | 0, _ => by rw [has_zero]; exact mem_zero s
  | k + 1, h => by
    have h1 := h k (by omega)
    rw [has_succ, ofL, mem_add, mem_ofL s (fun i hi => h i (by omega)), Bool.or_comm]
    congr 1
    rw [Bool.eq_iff_iff]
    simp only [decide_eq_true_eq]
    omega

set_option maxHeartbeats 1000000 in
theorem setOf_any (a : Option Addr) (n c : Nat) (Z : Nat → Int) (w : World) (hn : n ≤ 140737488355328) (h : Row w a n Z) (hZ : ∀ i, i < n → 0 ≤ Z i ∧ Z i < 2048) :
    Calls Try.prog 31 #[.slice a n c] w fun e w' => e = .returned (.agg (cellsS (ofL Z n))) ∧ Below w.heap.size w w' := by
  obtain ⟨b, o, ha, hc⟩ := h
  have HC : Hid (∀ i, i < n → w.cell? ⟨b, o + i, none⟩ = some (.int .i64 (Z i))) := hc
  have HZ : Hid (∀ i, i < n → 0 ≤ Z i ∧ Z i < 2048) := hZ
  clear hc hZ
  go_enter Try.func31, Try.ntmps31
  go_wp2
  rw [zeroS]
  go_loopw [8] (fun i wr => ∃ k : Nat, k ≤ n ∧ i = .int .i64 k ∧ Hid (Below w.heap.size w wr ∧ Bx wr (w.heap.size + 1) (ofL Z k) ∧ Bx wr w.heap.size (fun _ => 0))) (fun i _ => n - (intOf i).toNat)
  case atStart => exact ⟨0, by omega, rfl, hid ⟨((Below.refl _ _).alloc (Nat.le_refl _) _).alloc (by simp) _, by have hq := (bx_new (w.alloc (.cells (cellsS (fun _ => 0)) 37)) (fun _ => 0) (fun _ _ => by decide)); rw [World.size_alloc] at hq; exact hq, (bx_new w (fun _ => 0) (fun _ _ => by decide)).below (box_below _ _) (by simp)⟩⟩
  case round =>
    obtain ⟨k, hk, rfl, H⟩ := hrel
    by_cases hlt : k < n
    · obtain rfl := ha (by omega)
      obtain ⟨t, ht⟩ : ∃ t : Nat, Z k = t := ⟨(Z k).toNat, by have := HZ.out k hlt; omega⟩
      have ht2 : t < 2048 := by have := HZ.out k hlt; omega
      have h1 : wr.cell? ⟨b, o + k, none⟩ = some (.int .i64 t) := by
        have := below_cell H.out.1 (Nat.le_refl _) (HC.out k hlt)
        rwa [ht] at this
      have HT : Hid (Z k = t) := ht
      clear ht ha
      have C := hid (addB (w.heap.size + 1) (ofL Z k) t wr ht2 H.out.2.1)
      go_wp2_with fail
      refine C.out.mono ?_
      rintro e w' ⟨⟨v, rfl⟩, h1, h2, h3⟩
      have HH := hid (And.intro h1 (And.intro h2 h3))
      clear h1 h2 h3
      go_wp2
      go_roundw
      case rel =>
        refine ⟨k + 1, by omega, by go_num, hid ⟨H.out.1.trans (HH.out.2.1.below (by omega) H.out.1.size), ?_, H.out.2.2.but HH.out.2.1 (by omega)⟩⟩
        show Bx w' _ (sadd (ofL Z k) (Z k).toNat)
        rw [HT.out]
        exact HH.out.1
      case measure => simp [intOf]; omega
    · have HK : Hid (k = n) := hid (by omega)
      have hsz := H.out.2.1.small
      go_wp2_with (first | (refine wl_load rfl _ rfl (w.heap.size + 1) 0 rfl _ H.out.2.1.st ?_) | (refine wl_store rfl _ _ rfl w.heap.size (ofL Z k) rfl rfl _ H.out.2.2 hsz ?_; intro w1 hb1 hs1 hx1))
      refine bodyPost_ret (res_set rfl rfl hx1) rfl ?_
      exact ⟨by rw [HK.out], H.out.1.trans (hb1.below (Nat.le_refl _) H.out.1.size)⟩

end Go.Proofs.Ytdncjikmknkkpaa

