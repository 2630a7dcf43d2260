/- Small functions of the laws on spaces. -/
import Derived.Test.YtpgodjinbabniabSpLaw
namespace Go.Proofs.Ytpgodjinbabniab
open Go.RowKit Go.Maps

set_option maxHeartbeats 400000 in
theorem outFn_any {w : World} {b : Nat} {tk z : Int} (h : w.cell? ⟨b, 0, none⟩ = some (.int .i64 tk)) (h0 : 0 ≤ z) (h1 : z ≤ tk) : Calls Try.prog 22 #[.int .i64 z, .pointer (some ⟨b, 0, none⟩)] w fun e w' => e = .returned (.bool false) ∧ w' = w := by
  have g0 : ¬ z < 0 := by omega
  have g1 : ¬ tk < z := by omega
  go_enter Try.func22, Try.ntmps22
  go_wp2
  go_ret
  exact ⟨rfl, rfl⟩

set_option maxHeartbeats 400000 in
theorem outIdx_any {w : World} {b : Nat} {tk : Int} (h : w.cell? ⟨b, 0, none⟩ = some (.int .i64 tk)) {a : Option Addr} {n c : Nat} {Z : Nat → Int} (hn : n ≤ 1000) (hr : Row w a n Z) (hz : ∀ i, i < n → 0 ≤ Z i ∧ Z i ≤ tk) :
    Calls Try.prog 51 #[.slice a n c, .func (Fn.func 22) #[] #[.pointer (some ⟨b, 0, none⟩)]] w fun e w' => e = .returned (.int .i64 (-1)) ∧ w' = w := by
  obtain ⟨rb, ro, ha, hc⟩ := hr
  have HC : Hid (∀ i, i < n → w.cell? ⟨rb, ro + i, none⟩ = some (.int .i64 (Z i))) := hc
  have HZ : Hid (∀ i, i < n → 0 ≤ Z i ∧ Z i ≤ tk) := hz
  clear hc hz
  go_enter Try.func51, Try.ntmps51
  go_wp2
  go_loopw [8] (fun i wr => ∃ k : Nat, k ≤ n ∧ i = .int .i64 k ∧ wr = w) (fun i _ => n - (intOf i).toNat)
  case atStart => exact ⟨0, Nat.zero_le _, rfl, rfl⟩
  case round =>
    obtain ⟨k, hk, rfl, rfl⟩ := hrel
    by_cases hlt : k < n
    · obtain rfl := ha (by omega)
      have hck := HC.out k hlt
      have hz := HZ.out k hlt
      have hzk : (k : Int) < n := by omega
      have C1 : Hid (Calls Try.prog 22 #[.int .i64 (Z k), .pointer (some ⟨b, 0, none⟩)] wr fun e w' => e = .returned (.bool false) ∧ w' = wr) := outFn_any h hz.1 hz.2
      go_wp2_with fail
      refine C1.out.mono ?_
      rintro e w1 ⟨rfl, rfl⟩
      go_wp2
      go_roundw
      case rel => exact ⟨k + 1, by omega, by go_num, trivial⟩
      case measure => simp [intOf]; omega
    · go_wp2
      go_ret
      exact ⟨rfl, rfl⟩

set_option maxHeartbeats 400000 in
theorem outAll_any {w : World} {b : Nat} {tk : Int} (h : w.cell? ⟨b, 0, none⟩ = some (.int .i64 tk)) {a : Option Addr} {n c : Nat} {Z : Nat → Int} (hn : n ≤ 1000) (hr : Row w a n Z) (hz : ∀ i, i < n → 0 ≤ Z i ∧ Z i ≤ tk) :
    Calls Try.prog 21 #[.slice a n c, .func (Fn.func 22) #[] #[.pointer (some ⟨b, 0, none⟩)]] w fun e w' => e = .returned (.bool false) ∧ w' = w := by
  have C1 : Hid (Calls Try.prog 51 #[.slice a n c, .func (Fn.func 22) #[] #[.pointer (some ⟨b, 0, none⟩)]] w fun e w' => e = .returned (.int .i64 (-1)) ∧ w' = w) := outIdx_any h hn hr hz
  clear h hr hz
  go_enter Try.func21, Try.ntmps21
  go_wp2_with fail
  refine C1.out.mono ?_
  rintro e w1 ⟨rfl, rfl⟩
  go_wp2
  go_ret
  exact ⟨rfl, rfl⟩

set_option maxHeartbeats 400000 in
theorem eqFn_any {w : World} {b : Nat} {a a' : Option Addr} {n c c' : Nat} {Y Z : Nat → Int} (hn : n ≤ 1000) (h : w.cell? ⟨b, 0, none⟩ = some (.slice a' n c')) (h1 : Row w a n Y) (h2 : Row w a' n Z) :
    Calls Try.prog 24 #[.slice a n c, .pointer (some ⟨b, 0, none⟩)] w fun e w' => e = .returned (.bool (same n n Y Z)) ∧ ∃ q, w' = w.drewN q := by
  have C1 : Hid (Calls Try.prog 11 #[.slice a n c, .slice a' n c'] w fun e w' => e = .returned (.bool (same n n Y Z)) ∧ ∃ q, w' = w.drewN q) := equal_any a a' n c n c' Y Z w (by omega) h1 h2
  clear h1 h2
  go_enter Try.func24, Try.ntmps24
  go_wp2_with fail
  refine C1.out.mono ?_
  rintro e w1 ⟨rfl, q, rfl⟩
  go_wp2
  go_ret
  exact ⟨rfl, q, rfl⟩

set_option maxHeartbeats 1000000 in
theorem eqIdx_any {w : World} {b : Nat} {a a' : Option Addr} {n c F c' : Nat} {Y : Nat → Nat → Int} {Z : Nat → Int} (hF : F ≤ 1000) (hn : n ≤ 1000) (h : w.cell? ⟨b, 0, none⟩ = some (.slice a' F c')) (h1 : Gr w a n (fun _ => F) Y) (h2 : Row w a' F Z) (hne : ∀ i, i < n → same F F (Y i) Z = false) :
    Calls Try.prog 52 #[.slice a n c, .func (Fn.func 24) #[] #[.pointer (some ⟨b, 0, none⟩)]] w fun e w' => e = .returned (.int .i64 (-1)) ∧ ∃ q, w' = w.drewN q := by
  obtain ⟨gb, go, ha, hc⟩ := h1
  have HC : Hid (∀ r, r < n → ∃ a c, w.cell? ⟨gb, go + r, none⟩ = some (.slice a F c) ∧ Row w a F (Y r)) := hc
  have HR : Hid (Row w a' F Z) := h2
  have HNe : Hid (∀ i, i < n → same F F (Y i) Z = false) := hne
  clear hc h2 hne
  go_enter Try.func52, Try.ntmps52
  go_wp2
  go_loopw [8] (fun i wr => ∃ k : Nat, k ≤ n ∧ i = .int .i64 k ∧ ∃ q, wr = w.drewN q) (fun i _ => n - (intOf i).toNat)
  case atStart => exact ⟨0, Nat.zero_le _, rfl, 0, rfl⟩
  case round =>
    obtain ⟨k, hk, rfl, q, rfl⟩ := hrel
    by_cases hlt : k < n
    · obtain rfl := ha (by omega)
      obtain ⟨ra, rc, hck, hrow⟩ := HC.out k hlt
      have hzk : (k : Int) < n := by omega
      have C1 : Hid (Calls Try.prog 24 #[.slice ra F rc, .pointer (some ⟨b, 0, none⟩)] (w.drewN q) fun e w' => e = .returned (.bool false) ∧ ∃ q2, w' = (w.drewN q).drewN q2) := by
        have := eqFn_any (w := w.drewN q) (c := rc) hF h (hrow.below (below_drewn (Below.refl _ _) q)) (HR.out.below (below_drewn (Below.refl _ _) q))
        rwa [HNe.out k hlt] at this
      clear hrow
      go_wp2_with fail
      refine C1.out.mono ?_
      rintro e w1 ⟨rfl, q2, rfl⟩
      go_wp2
      go_roundw
      case rel => exact ⟨k + 1, by omega, by go_num, _, rfl⟩
      case measure => simp [intOf]; omega
    · go_wp2
      go_ret
      exact ⟨rfl, q, rfl⟩

set_option maxHeartbeats 400000 in
theorem eqNone_any {w : World} {b : Nat} {a a' : Option Addr} {n c F c' : Nat} {Y : Nat → Nat → Int} {Z : Nat → Int} (hF : F ≤ 1000) (hn : n ≤ 1000) (h : w.cell? ⟨b, 0, none⟩ = some (.slice a' F c')) (h1 : Gr w a n (fun _ => F) Y) (h2 : Row w a' F Z) (hne : ∀ i, i < n → same F F (Y i) Z = false) :
    Calls Try.prog 23 #[.slice a n c, .func (Fn.func 24) #[] #[.pointer (some ⟨b, 0, none⟩)]] w fun e w' => e = .returned (.bool false) ∧ ∃ q, w' = w.drewN q := by
  have C1 : Hid (Calls Try.prog 52 #[.slice a n c, .func (Fn.func 24) #[] #[.pointer (some ⟨b, 0, none⟩)]] w fun e w' => e = .returned (.int .i64 (-1)) ∧ ∃ q, w' = w.drewN q) := eqIdx_any hF hn h h1 h2 hne
  clear h h1 h2 hne
  go_enter Try.func23, Try.ntmps23
  go_wp2_with fail
  refine C1.out.mono ?_
  rintro e w1 ⟨rfl, q, rfl⟩
  go_wp2
  go_ret
  exact ⟨rfl, q, rfl⟩

end Go.Proofs.Ytpgodjinbabniab
