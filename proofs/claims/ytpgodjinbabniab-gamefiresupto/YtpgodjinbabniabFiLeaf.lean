/- Small functions, by their contracts. -/
import Derived.Test.YtpgodjinbabniabGameWalk
import Derived.Test.YtpgodjinbabniabProc8
import Derived.Test.YtpgodjinbabniabGameLeaf
namespace Go.Proofs.Ytpgodjinbabniab
open Go.RowKit

theorem straight_steps : stAll sKs sAs sBs 2 3 = [(1, 0, 1), (2, 1, 0)] := by decide

theorem straight_E : spE 0 (stAll sKs sAs sBs 2 3).length = 0 := by rw [straight_steps]; rfl

theorem two_row (w : World) (a b : Int) : Row (w.alloc (.cells #[.int .i64 a, .int .i64 b] 3)) (some ⟨w.heap.size, 0, none⟩) 2 (fun i => if i = 0 then a else b) :=
  ⟨w.heap.size, 0, fun _ => rfl, fun i hi => by
    match i, hi with
    | 0, _ => exact cell_of_alloc rfl
    | 1, _ => exact cell_of_alloc rfl⟩

/-- What steps.Of answers, by its error. -/
theorem sp_ans {e0 : Int} {l : List St3} {e : Ending} {w : World} (h : SpIs e0 l e w) :
    (spE e0 l.length ≠ 0 ∧ e = .returned (.tuple #[.slice none 0 0, .int .i64 (spE e0 l.length)])) ∨ (spE e0 l.length = 0 ∧ ∃ a c, e = .returned (.tuple #[.slice a l.length c, .int .i64 0]) ∧ Sts w a l.length (fun i => l.getD i (0, 0, 0))) := by
  rcases h with ⟨h1, rfl⟩ | ⟨rfl, h2, rfl⟩ | ⟨rfl, h2, a, c, rfl, _, h4⟩
  · rw [spE_bad h1]; exact Or.inl ⟨h1, rfl⟩
  · rw [spE_many h2]; exact Or.inl ⟨by decide, rfl⟩
  · rw [spE_ok h2]; exact Or.inr ⟨rfl, a, c, rfl, h4⟩

set_option maxHeartbeats 400000 in
theorem index_any (a : Option Addr) (n c : Nat) (Z : Nat → Int) (x : Int) (w : World) (hn : n ≤ 140737488355328) (h : Row w a n Z) :
    Calls Try.prog 49 #[.slice a n c, .int .i64 x] w fun e w' => (∃ y : Int, e = .returned (.int .i64 y) ∧ has n Z x = decide (0 ≤ y)) ∧ w' = w := by
  obtain ⟨b, o, ha, hc⟩ := h
  go_enter Try.func49, Try.ntmps49
  go_wp2
  go_loop [8] (fun i => ∃ k : Nat, k ≤ n ∧ i = .int .i64 k ∧ Hid (∀ j, j < k → Z j ≠ x)) (fun i => n - (intOf i).toNat)
  case atStart => exact ⟨0, Nat.zero_le _, rfl, hid (fun j hj => absurd hj (Nat.not_lt_zero _))⟩
  case round =>
    obtain ⟨k, hk, rfl, H⟩ := hrel
    by_cases hlt : k < n
    · obtain rfl := ha (by omega)
      have hck := hc k hlt
      by_cases h1 : x = Z k
      · have E : Hid (Z k = x) := h1.symm
        have hb : (x == Z k) = true := beq_iff_eq.2 h1
        clear h1
        go_wp2
        go_ret
        exact ⟨⟨_, rfl, by rw [has_yes k hlt E.out]; symm; rw [decide_eq_true_eq]; omega⟩, rfl⟩
      · have hb : (x == Z k) = false := beq_eq_false_iff_ne.2 h1
        have E : Hid (Z k ≠ x) := fun e => h1 e.symm
        clear h1
        go_wp2
        go_round
        case rel => exact ⟨k + 1, by omega, by go_num, hid (snoc_all H.out E.out)⟩
        case measure => simp [intOf]; omega
    · go_wp2
      go_ret
      exact ⟨⟨_, rfl, by rw [has_no (fun i hi => H.out i (by omega))]; symm; rw [decide_eq_false_iff_not]; omega⟩, rfl⟩

set_option maxHeartbeats 400000 in
theorem contains_any (a : Option Addr) (n c : Nat) (Z : Nat → Int) (x : Int) (w : World) (hn : n ≤ 140737488355328) (h : Row w a n Z) :
    Calls Try.prog 17 #[.slice a n c, .int .i64 x] w fun e w' => e = .returned (.bool (has n Z x)) ∧ w' = w := by
  have HR : Hid (Row w a n Z) := h
  clear h
  go_enter Try.func17, Try.ntmps17
  go_wp2_with fail
  refine (index_any a n c Z x _ hn HR.out).mono ?_
  rintro e w' ⟨⟨y, rfl, hy⟩, rfl⟩
  have E : Hid (has n Z x = decide (0 ≤ y)) := hy
  clear hy
  go_wp2
  go_ret
  exact ⟨ret_bool E.out.symm, rfl⟩

set_option maxHeartbeats 400000 in
theorem listsK_any (ga ha : Option Addr) (G gc G' hc : Nat) (L L' : Nat → Nat) (Y Z : Nat → Nat → Int) (w : World) (hG : G ≤ 140737488355328) (hL : ∀ r, r < G → L r ≤ 140737488355328) (h : Gr w ga G L Y) (h' : Gr w ha G' L' Z) :
    Calls Try.prog 13 #[.slice ga G gc, .slice ha G' hc] w fun e w' => e = .returned (.bool (sameG G G' L L' Y Z)) ∧ ∃ q, w' = w.drewN q := by
  have H : Hid (Gr w ga G L Y) := h
  have H' : Hid (Gr w ha G' L' Z) := h'
  have HL : Hid (∀ r, r < G → L r ≤ 140737488355328) := hL
  clear h h' hL
  go_enter Try.func13, Try.ntmps13
  go_wp2_with fail
  refine (equalFunc_any ga ha G gc G' hc L L' Y Z _ hG HL.out H.out H'.out).mono ?_
  rintro e w' ⟨rfl, q, rfl⟩
  go_wp2
  go_ret
  exact ⟨rfl, q, rfl⟩

end Go.Proofs.Ytpgodjinbabniab
