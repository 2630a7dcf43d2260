/- The document's leaves: In, Word, At, Letter, Marked, Auto. -/
import Derived.Deep.Heap
import Derived.Test.YtgahdclbaifcbaaSte
import Derived.Test.YtgahdclbaifcbaaFai
import Derived.Test.YtgahdclbaifcbaaLst
namespace Go.Proofs.Ytgahdclbaifcbaa
open Go.RowKit

set_option maxHeartbeats 400000 in
theorem inRef_any (a : Option Addr) (n c : Nat) (Z : Nat → Int) (m : Int) (w : World) (hn : n ≤ 140737488355328) (h : Row w a n Z) :
    Calls Try.prog 17 #[.slice a n c, .int .i64 m] w fun e w' => e = .returned (.bool (allIn n Z m)) ∧ w' = w := by
  obtain ⟨b, o, ha, hc⟩ := h
  go_enter Try.func17, Try.ntmps17
  go_wp2
  go_loop [5] (fun i => ∃ k : Nat, k ≤ n ∧ i = .int .i64 k ∧ Hid (∀ j, j < k → 0 ≤ Z j ∧ Z j < m)) (fun i => n - (intOf i).toNat)
  case atStart => exact ⟨0, Nat.zero_le _, rfl, hid (fun j hj => absurd hj (Nat.not_lt_zero _))⟩
  case round =>
    obtain ⟨k, hk, rfl, H⟩ := hrel
    by_cases hlt : k < n
    · obtain rfl := ha (by omega)
      have hck := hc k hlt
      by_cases h1 : Z k < 0
      · go_wp2
        go_ret
        exact ⟨ret_bool (allIn_no k hlt (Or.inl h1)).symm, rfl⟩
      · by_cases h2 : m ≤ Z k
        · go_wp2
          go_ret
          exact ⟨ret_bool (allIn_no k hlt (Or.inr h2)).symm, rfl⟩
        · go_wp2
          go_round
          case rel => exact ⟨k + 1, by omega, by go_num, hid (snoc_all H.out ⟨by omega, by omega⟩)⟩
          case measure => simp [intOf]; omega
    · go_wp2
      go_ret
      exact ⟨ret_bool (allIn_yes (fun i hi => H.out i (by omega))).symm, rfl⟩

set_option maxHeartbeats 400000 in
theorem wordRef_any (sa : Option Addr) (s sc : Nat) (la : Option Addr) (m lc : Nat) (w : World) (hs : s ≤ 140737488355328) (hm : m ≤ 140737488355328) :
    Calls Try.prog 19 #[.agg #[.slice sa s sc, .slice la m lc]] w fun e w' => e = .returned (.int .i64 (wchk s m)) ∧ Below w.heap.size w w' := by
  by_cases h1 : 60 < s
  · have E : Hid (wchk s m = 2) := if_pos (by omega)
    go_enter Try.func19, Try.ntmps19
    go_wp2
    go_ret
    exact ⟨ret_int E.out.symm, box_below _ _⟩
  by_cases h3 : 60 < s + m
  · have E : Hid (wchk s m = 2) := if_pos h3
    go_enter Try.func19, Try.ntmps19
    go_wp2
    go_ret
    exact ⟨ret_int E.out.symm, box_below _ _⟩
  by_cases h2 : m = 0
  · have E : Hid (wchk s m = 1) := (if_neg h3).trans (if_pos h2)
    subst h2
    go_enter Try.func19, Try.ntmps19
    go_wp2
    go_ret
    exact ⟨ret_int E.out.symm, box_below _ _⟩
  · have E : Hid (wchk s m = 0) := (if_neg h3).trans (if_neg h2)
    have h2b : ((m : Int) == 0) = false := beq_eq_false_iff_ne.2 (by omega)
    go_enter Try.func19, Try.ntmps19
    go_wp2
    go_ret
    exact ⟨ret_int E.out.symm, box_below _ _⟩

theorem Try.info4 : (Try.prog.info? 4).map (fun i => (i.zero, i.size, i.bytes)) = some (some (.bool false), 1, 1) := by kernel_rfl

set_option maxHeartbeats 1000000 in
theorem markedRef_any (a : Option Addr) (n c : Nat) (Z : Nat → Int) (N : Nat) (w : World) (hn : n ≤ 140737488355328) (h : Row w a n Z) (hN : N ≤ 2048) (hin : allIn n Z N = true) :
    Calls Try.prog 53 #[.slice a n c, .int .i64 N] w fun e w' => e = .returned (.slice (some ⟨w.heap.size, 0, none⟩) N N) ∧ w'.rowIs w.heap.size 4 N (fun i => .bool (has n Z i)) ∧ Below w.heap.size w w' := by
  have hmk := run_make_row' (P := Try.prog) 29 4 (.bool false) 1 Try.underlying29 Try.info4 rfl .i64 .i64 N (by omega) (by omega)
  obtain ⟨b, o, ha, hc⟩ := h
  have HC := hid hc
  have HA := hid (allIn_all hin)
  clear hc hin
  go_enter Try.func53, Try.ntmps53
  go_wp2
  clear hmk
  go_loopw [6] (fun i wr => ∃ k : Nat, k ≤ n ∧ i = .int .i64 k ∧ Hid (Below w.heap.size w wr ∧ wr.rowIs w.heap.size 4 N (fun x => .bool (has k Z x)))) (fun i _ => n - (intOf i).toNat)
  case atStart => exact ⟨0, Nat.zero_le _, rfl, hid ⟨box_below _ _, (World.rowIs_made w (.bool false) N 4).congr (fun i _ => by rw [has_no (fun i hi => absurd hi (Nat.not_lt_zero i))])⟩⟩
  case round =>
    obtain ⟨k, hk, rfl, H⟩ := hrel
    by_cases hlt : k < n
    · obtain rfl := ha (by omega)
      have hz := HA.out k hlt
      obtain ⟨t, ht⟩ : ∃ t : Nat, Z k = t := ⟨(Z k).toNat, by omega⟩
      have htN : t < N := by omega
      have hck : wr.cell? ⟨b, o + k, none⟩ = some (.int .i64 t) := by rw [← ht]; exact below_cell H.out.1 (Nat.le_refl _) (HC.out k hlt)
      have htz : (t : Int) < N := by omega
      have hct := H.out.2.cell htN
      have hfz := H.out.2.frozen t
      have Ht := hid ht
      clear ht hz
      go_wp2
      go_roundw
      case rel =>
        refine ⟨k + 1, by omega, by go_num, hid ⟨H.out.1.setCell (by simp) _, (H.out.2.set t _).congr (fun i hi => ?_)⟩⟩
        by_cases e : i = t
        · subst e
          rw [if_pos rfl, has_yes k (by omega) Ht.out]
        · rw [if_neg e]
          by_cases e2 : has k Z i = true
          · have := e2
            unfold has at this
            rw [decide_eq_true_eq] at this
            obtain ⟨j, h1, h2⟩ := this
            rw [e2, has_yes j (by omega) h2]
          · rw [Bool.not_eq_true] at e2
            rw [e2, has_no]
            intro j hj hzj
            by_cases e3 : j = k
            · subst e3; rw [Ht.out] at hzj; omega
            · rw [has_yes j (by omega) hzj] at e2; cases e2
      case measure => simp [intOf]; omega
    · go_wp2
      go_ret
      obtain rfl : k = n := by omega
      exact ⟨rfl, H.out.2, H.out.1⟩

end Go.Proofs.Ytgahdclbaifcbaa

