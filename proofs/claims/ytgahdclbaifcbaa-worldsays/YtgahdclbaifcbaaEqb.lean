/- Lists of Bools: equal; is one false; is one of a list marked. -/
import Derived.Test.YtgahdclbaifcbaaTrdJ
import Derived.Test.YtgahdclbaifcbaaMts
namespace Go.Proofs.Ytgahdclbaifcbaa
open Go.RowKit

theorem rowb_of_rowIs {w : World} {b n : Nat} {B : Nat → Bool} (h : w.rowIs b 4 n (fun i => .bool (B i))) : Rowb w (some ⟨b, 0, none⟩) n B :=
  ⟨b, 0, fun _ => rfl, fun _ hi => by rw [Nat.zero_add]; exact h.cell hi⟩

/-- Are the two lists of bools the same? -/
def sameB (n m : Nat) (Y Z : Nat → Bool) : Bool := decide (n = m ∧ ∀ i, i < n → Y i = Z i)

theorem sameB_no_len {n m : Nat} {Y Z : Nat → Bool} (h : n ≠ m) : sameB n m Y Z = false := by
  unfold sameB
  rw [decide_eq_false_iff_not]
  exact fun hh => h hh.1

theorem sameB_no {n m : Nat} {Y Z : Nat → Bool} (k : Nat) (hk : k < n) (h : Y k ≠ Z k) : sameB n m Y Z = false := by
  unfold sameB
  rw [decide_eq_false_iff_not]
  exact fun hh => h (hh.2 k hk)

theorem sameB_yes {n m : Nat} {Y Z : Nat → Bool} (e : n = m) (h : ∀ i, i < n → Y i = Z i) : sameB n m Y Z = true := by
  unfold sameB
  rw [decide_eq_true_eq]
  exact ⟨e, h⟩

set_option maxHeartbeats 400000 in
theorem equalB_any (a a' : Option Addr) (n c n' c' : Nat) (Y Z : Nat → Bool) (w : World) (hn : n ≤ 140737488355328) (h : Rowb w a n Y) (h' : Rowb w a' n' Z) :
    Calls Try.prog 10 #[.slice a n c, .slice a' n' c'] w fun e w' => e = .returned (.bool (sameB n n' Y Z)) ∧ ∃ q, w' = w.drewN q := by
  by_cases hl : n = n'
  · subst hl
    obtain ⟨b, o, ha, hc⟩ := h
    obtain ⟨b', o', ha', hc'⟩ := h'
    go_enter Try.func10, Try.ntmps10
    go_wp2
    go_loopw [13] (fun i wr => ∃ k : Nat, k ≤ n ∧ i = .int .i64 k ∧ Hid (∀ j, j < k → Y j = Z j) ∧ ∃ q, wr = w.drewN q) (fun i _ => n - (intOf i).toNat)
    case atStart => exact ⟨0, Nat.zero_le _, rfl, hid (fun j hj => absurd hj (Nat.not_lt_zero _)), 0, rfl⟩
    case round =>
      obtain ⟨k, hk, rfl, H, q, rfl⟩ := hrel
      by_cases hlt : k < n
      · obtain rfl := ha (by omega)
        obtain rfl := ha' (by omega)
        have hck := hc k hlt
        have hck' := hc' k hlt
        have hzk : (k : Int) < n := by omega
        clear hc hc' ha ha'
        by_cases h1 : Y k = Z k
        · have hb : (Y k == Z k) = true := by simp [h1]
          have E : Hid (Y k = Z k) := h1
          clear h1
          go_wp2
          go_quiet (fail)
          go_wp2
          go_roundw
          case rel => exact ⟨k + 1, by omega, by go_num, hid (snoc_all H.out E.out), _, rfl⟩
          case measure => simp [intOf]; omega
        · have hb : (Y k == Z k) = false := by simp [h1]
          have E : Hid (Y k ≠ Z k) := h1
          clear h1
          go_wp2
          go_quiet (fail)
          go_wp2
          go_ret
          exact ⟨ret_bool (sameB_no k hlt E.out).symm, _, World.drewN_drewN _ _ _⟩
      · go_wp2
        go_ret
        exact ⟨ret_bool (sameB_yes rfl (fun i hi => H.out i (by omega))).symm, q, rfl⟩
  · have hz : ((n : Int) != n') = true := by simp; omega
    have E : Hid (n ≠ n') := hl
    clear hl
    go_enter Try.func10, Try.ntmps10
    go_wp2
    go_ret
    exact ⟨ret_bool (sameB_no_len E.out).symm, 0, rfl⟩

set_option maxHeartbeats 1000000 in
theorem in22_any (x : Int) (cb bb G : Nat) (B : Nat → Bool) (w : World) (hc : w.cell? ⟨cb, 0, none⟩ = some (.slice (some ⟨bb, 0, none⟩) G G)) (hr : ∀ i, i < G → w.cell? ⟨bb, i, none⟩ = some (.bool (B i))) (h0 : 0 ≤ x) (h1 : x < G) :
    Calls Try.prog 22 #[.int .i64 x, .pointer (some ⟨cb, 0, none⟩)] w fun e w' => e = .returned (.bool (B x.toNat)) ∧ w' = w := by
  obtain ⟨n, rfl⟩ : ∃ n : Nat, x = n := ⟨x.toNat, by omega⟩
  have h2 : n < G := by omega
  have hk := hr n h2
  clear hr
  rw [Int.toNat_natCast]
  generalize B n = q at *
  go_enter Try.func22, Try.ntmps22
  go_wp2
  go_ret
  exact ⟨rfl, rfl⟩

set_option maxHeartbeats 1000000 in
theorem idx43c_any (a : Option Addr) (n c : Nat) (Z : Nat → Int) (cb bb G : Nat) (B : Nat → Bool) (w : World) (hn : n ≤ 140737488355328) (h : Row w a n Z) (hin : ∀ i, i < n → 0 ≤ Z i ∧ Z i < G) (hc : w.cell? ⟨cb, 0, none⟩ = some (.slice (some ⟨bb, 0, none⟩) G G)) (hr : ∀ i, i < G → w.cell? ⟨bb, i, none⟩ = some (.bool (B i))) :
    Calls Try.prog 43 #[.slice a n c, .func (.func 22) #[] #[.pointer (some ⟨cb, 0, none⟩)]] w fun e w' => (∃ r : Int, e = .returned (.int .i64 r) ∧ ((0 ≤ r ∧ ∃ k, k < n ∧ B (Z k).toNat = true) ∨ (r = -1 ∧ ∀ k, k < n → B (Z k).toNat = false))) ∧ w' = w := by
  obtain ⟨rb, ro, ha, hcc⟩ := h
  have HC := hid hcc
  have HB := hid (fun (x : Int) (h0 : 0 ≤ x) (h1 : x < G) => in22_any x cb bb G B w hc hr h0 h1)
  have HI := hid hin
  clear hcc hr hin hc
  go_enter Try.func43, Try.ntmps43
  go_wp2
  go_loop [8] (fun i => ∃ k : Nat, k ≤ n ∧ i = .int .i64 k ∧ Hid (∀ j, j < k → B (Z j).toNat = false)) (fun i => n - (intOf i).toNat)
  case atStart => exact ⟨0, by omega, rfl, hid (fun j hj => by omega)⟩
  case round =>
    obtain ⟨k, hk, rfl, H⟩ := hrel
    by_cases hlt : k < n
    · obtain rfl := ha (by omega)
      have hck := HC.out k hlt
      have C := hid (HB.out (Z k) (HI.out k hlt).1 (HI.out k hlt).2)
      cases hw : B (Z k).toNat
      · have HW := hid hw
        rw [hw] at C
        clear hw
        go_wp2_with fail
        refine C.out.mono ?_
        rintro e w' ⟨rfl, rfl⟩
        go_wp2
        go_round
        case rel => exact ⟨k + 1, by omega, by go_num, hid (snoc_all H.out HW.out)⟩
        case measure => simp [intOf]; omega
      · have HW := hid hw
        rw [hw] at C
        clear hw
        go_wp2_with fail
        refine C.out.mono ?_
        rintro e w' ⟨rfl, rfl⟩
        go_wp2
        go_ret
        exact ⟨⟨_, rfl, Or.inl ⟨by omega, k, hlt, HW.out⟩⟩, rfl⟩
    · go_wp2
      go_ret
      exact ⟨⟨_, rfl, Or.inr ⟨rfl, fun i hi => H.out i (by omega)⟩⟩, rfl⟩

theorem cf21c_any (a : Option Addr) (n c : Nat) (Z : Nat → Int) (cb bb G : Nat) (B : Nat → Bool) (w : World) (hn : n ≤ 140737488355328) (h : Row w a n Z) (hin : ∀ i, i < n → 0 ≤ Z i ∧ Z i < G) (hc : w.cell? ⟨cb, 0, none⟩ = some (.slice (some ⟨bb, 0, none⟩) G G)) (hr : ∀ i, i < G → w.cell? ⟨bb, i, none⟩ = some (.bool (B i))) :
    Calls Try.prog 21 #[.slice a n c, .func (.func 22) #[] #[.pointer (some ⟨cb, 0, none⟩)]] w fun e w' => e = .returned (.bool (anyB n Z B)) ∧ w' = w := by
  have C := hid (idx43c_any a n c Z cb bb G B w hn h hin hc hr)
  clear h hin hc hr
  go_enter Try.func21, Try.ntmps21
  go_wp2_with fail
  refine C.out.mono ?_
  rintro e w1 ⟨⟨r, rfl, hr⟩, rfl⟩
  have HR := hid hr
  clear hr
  go_wp2
  go_ret
  refine ⟨ret_bool ?_, rfl⟩
  rcases HR.out with ⟨h1, h2⟩ | ⟨rfl, h2⟩
  · unfold anyB
    rw [decide_eq_true h2, decide_eq_true h1]
  · unfold anyB
    rw [decide_eq_false (p := ∃ k, k < n ∧ B (Z k).toNat = true) (fun ⟨k, hk, e⟩ => by rw [h2 k hk] at e; cases e)]
    rfl

set_option maxHeartbeats 1000000 in
theorem idx44_any (b G : Nat) (w : World) (hG : G ≤ 600) (hr : ∀ i, i < G → w.cell? ⟨b, i, none⟩ = some (.bool true)) :
    Calls Try.prog 44 #[.slice (some ⟨b, 0, none⟩) G G, .bool false] w fun e w' => e = .returned (.int .i64 (-1)) ∧ w' = w := by
  have HR := hid hr
  clear hr
  go_enter Try.func44, Try.ntmps44
  go_wp2
  go_loop [8] (fun i => ∃ k : Nat, k ≤ G ∧ i = .int .i64 k) (fun i => G - (intOf i).toNat)
  case atStart => exact ⟨0, by omega, rfl⟩
  case round =>
    obtain ⟨k, hk, rfl⟩ := hrel
    by_cases hlt : k < G
    · have hck := HR.out k hlt
      have hkz : (k : Int) < G := by omega
      go_wp2
      go_round
      case rel => exact ⟨k + 1, by omega, by go_num⟩
      case measure => simp [intOf]; omega
    · go_wp2
      go_ret
      exact ⟨rfl, rfl⟩

theorem has23_any (b G : Nat) (w : World) (hG : G ≤ 600) (hr : ∀ i, i < G → w.cell? ⟨b, i, none⟩ = some (.bool true)) :
    Calls Try.prog 23 #[.slice (some ⟨b, 0, none⟩) G G, .bool false] w fun e w' => e = .returned (.bool false) ∧ w' = w := by
  have C := hid (idx44_any b G w hG hr)
  clear hr
  go_enter Try.func23, Try.ntmps23
  go_wp2_with fail
  refine C.out.mono ?_
  rintro e w1 ⟨rfl, rfl⟩
  go_wp2
  go_ret
  exact ⟨rfl, rfl⟩

end Go.Proofs.Ytgahdclbaifcbaa
