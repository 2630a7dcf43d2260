/- Small functions, by their contracts. -/
import Derived.Test.YtjenkhphngiphaaMore
namespace Go.Proofs.Ytjenkhphngiphaa
open Go.RowKit

set_option maxHeartbeats 400000 in
theorem in_any (a : Option Addr) (n c : Nat) (Z : Nat → Int) (m : Int) (w : World) (hn : n ≤ 140737488355328) (h : Row w a n Z) :
    Calls Try.prog 88 #[.slice a n c, .int .i64 m] w fun e w' => e = .returned (.bool (allIn n Z m)) ∧ w' = w := by
  obtain ⟨b, o, ha, hc⟩ := h
  go_enter Try.func88, Try.ntmps88
  go_wp2
  go_loop [5] (fun i => ∃ k : Nat, k ≤ n ∧ i = .int .i64 k ∧ Hid (∀ j, j < k → 0 ≤ Z j ∧ Z j < m)) (fun i => n - (intOf i).toNat)
  case atStart => exact ⟨0, Nat.zero_le _, rfl, hid (fun j hj => absurd hj (Nat.not_lt_zero _))⟩
  case round =>
    obtain ⟨k, hk, rfl, H⟩ := hrel
    by_cases hlt : k < n
    · obtain rfl := ha (by omega)
      have hck := hc k hlt
      by_cases h1 : Z k < 0
      · go_wp2
        go_ret
        exact ⟨ret_bool (allIn_no k hlt (Or.inl h1)).symm, rfl⟩
      · by_cases h2 : m ≤ Z k
        · go_wp2
          go_ret
          exact ⟨ret_bool (allIn_no k hlt (Or.inr h2)).symm, rfl⟩
        · go_wp2
          go_round
          case rel => exact ⟨k + 1, by omega, by go_num, hid (snoc_all H.out ⟨by omega, by omega⟩)⟩
          case measure => simp [intOf]; omega
    · go_wp2
      go_ret
      exact ⟨ret_bool (allIn_yes (fun i hi => H.out i (by omega))).symm, rfl⟩

set_option maxHeartbeats 400000 in
theorem equal_any (a a' : Option Addr) (n c n' c' : Nat) (Y Z : Nat → Int) (w : World) (hn : n ≤ 140737488355328) (h : Row w a n Y) (h' : Row w a' n' Z) :
    Calls Try.prog 13 #[.slice a n c, .slice a' n' c'] w fun e w' => e = .returned (.bool (same n n' Y Z)) ∧ ∃ q, w' = w.drewN q := by
  by_cases hl : n = n'
  · subst hl
    obtain ⟨b, o, ha, hc⟩ := h
    obtain ⟨b', o', ha', hc'⟩ := h'
    go_enter Try.func13, Try.ntmps13
    go_wp2
    go_loopw [13] (fun i wr => ∃ k : Nat, k ≤ n ∧ i = .int .i64 k ∧ Hid (∀ j, j < k → Y j = Z j) ∧ ∃ q, wr = w.drewN q) (fun i _ => n - (intOf i).toNat)
    case atStart => exact ⟨0, Nat.zero_le _, rfl, hid (fun j hj => absurd hj (Nat.not_lt_zero _)), 0, rfl⟩
    case round =>
      obtain ⟨k, hk, rfl, H, q, rfl⟩ := hrel
      by_cases hlt : k < n
      · obtain rfl := ha (by omega)
        obtain rfl := ha' (by omega)
        have hck := hc k hlt
        have hck' := hc' k hlt
        have hzk : (k : Int) < n := by omega
        clear hc hc' ha ha'
        by_cases h1 : Y k = Z k
        · have hb : (Y k != Z k) = false := by simp [h1]
          have E : Hid (Y k = Z k) := h1
          clear h1
          go_wp2
          go_quiet (fail)
          go_wp2
          go_roundw
          case rel => exact ⟨k + 1, by omega, by go_num, hid (snoc_all H.out E.out), _, rfl⟩
          case measure => simp [intOf]; omega
        · have hb : (Y k != Z k) = true := by simp [h1]
          have E : Hid (Y k ≠ Z k) := h1
          clear h1
          go_wp2
          go_quiet (fail)
          go_wp2
          go_ret
          exact ⟨ret_bool (same_no k hlt E.out).symm, _, World.drewN_drewN _ _ _⟩
      · go_wp2
        go_ret
        exact ⟨ret_bool (same_yes rfl (fun i hi => H.out i (by omega))).symm, q, rfl⟩
  · have hz : ((n : Int) != n') = true := by simp; omega
    have E : Hid (n ≠ n') := hl
    clear hl
    go_enter Try.func13, Try.ntmps13
    go_wp2
    go_ret
    exact ⟨ret_bool (same_no_len E.out).symm, 0, rfl⟩

set_option maxHeartbeats 400000 in
theorem clone_any (a : Option Addr) (n c : Nat) (Z : Nat → Int) (w : World) (hn : n * 8 ≤ 140737488355328) (h : Row w a n Z) (hnil : a = none → n = 0 ∧ c = 0) :
    Calls Try.prog 63 #[.slice a n c] w fun e w' => ∃ v, e = .returned v ∧ w'.ownsRow w.heap.size 3 1 v n (vals (lst n Z)) ∧ Below w.heap.size w w' := by
  cases a with
  | none =>
    obtain ⟨rfl, rfl⟩ := hnil rfl
    have hq := fun w' => Go.Lib.run_eql_slice_nil (P := Try.prog) w' 26 3 none 0 0 0 0 Try.underlying26
    go_enter Try.func63, Try.ntmps63
    go_wp2
    go_ret
    exact ⟨_, rfl, World.ownsRow_nil _ _ _ _, Below.refl _ _⟩
  | some x =>
    obtain ⟨i0, hi, hz0, hz1, hz2⟩ := info_parts Try.info3
    have HI : Hid (Try.prog.info? 3 = some i0 ∧ i0.zero = some (.int .i64 0) ∧ i0.size = 1 ∧ i0.bytes = 8) := ⟨hi, hz0, hz1, hz2⟩
    have HR : Hid (Row w (some x) n Z) := h
    clear hi hz0 hz1 hz2 h hnil
    have HO : Hid ((w.alloc (.cells #[] 3)).ownsRow w.heap.size 3 1 (.slice (some ⟨w.heap.size, 0, none⟩) 0 0) 0 []) := World.ownsRow_made w #[] 0 (Nat.le_refl _) (Nat.zero_le _) rfl
    have HN : Hid (∀ j u, (vals (lst n Z))[j]? = some u → (w.alloc (.cells #[] 3)).cell? (x.add j) = some u) := news_of_row (HR.out.below ((Below.refl _ _).alloc (Nat.le_refl _) _))
    have hq := fun w' => Go.Lib.run_eql_slice_nil (P := Try.prog) w' 26 3 (some x) n c 0 0 Try.underlying26
    go_enter Try.func63, Try.ntmps63
    go_wp2_with (at_builtin; refine wpList_append_own _ rfl _ _ 26 rfl w.heap.size 3 i0 (.int .i64 0) 1 8 Try.underlying26 HI.out.1 HI.out.2.1 HI.out.2.2.1 HI.out.2.2.2 rfl (by decide) _ _ _ rfl HO.out x n c (vals (lst n Z)) rfl (by rw [vals_len, lst_len, Nat.mul_one]) HN.out (vals_one _) (by unfold maxLen; omega) (by omega) (by simp) ?_; intro v' w1 hown' hgrow _; have HX := clone_post hown' hgrow; clear hown' hgrow)
    go_ret
    refine ⟨_, rfl, ?_, HX.out.2⟩
    exact HX.out.1

end Go.Proofs.Ytjenkhphngiphaa
