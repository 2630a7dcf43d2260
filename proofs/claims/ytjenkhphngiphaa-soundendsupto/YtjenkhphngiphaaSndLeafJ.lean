/- isEmpty, Zero, leastStep, IndexFunc and Index, by their contracts. graph: of each marking those to which its edges lead. -/
import Derived.Test.YtjenkhphngiphaaProc5
namespace Go.Proofs.Ytjenkhphngiphaa
open Go.RowKit

/-- The least number below n that is P, or -1. -/
def FstIs (P : Nat → Prop) (n : Nat) (r : Int) : Prop := (r = -1 ∧ ∀ i, i < n → ¬ P i) ∨ (∃ k : Nat, k < n ∧ r = k ∧ P k ∧ ∀ j, j < k → ¬ P j)

theorem FstIs.no {P : Nat → Prop} {n : Nat} (h : ∀ i, i < n → ¬ P i) : FstIs P n (-1) := Or.inl ⟨rfl, h⟩
theorem FstIs.hit {P : Nat → Prop} {n k : Nat} (hk : k < n) (h : P k) (hj : ∀ j, j < k → ¬ P j) : FstIs P n k := Or.inr ⟨k, hk, rfl, h, hj⟩
theorem FstIs.uniq {P : Nat → Prop} {n : Nat} {r r' : Int} (h : FstIs P n r) (h' : FstIs P n r') : r = r' := by
  rcases h with ⟨h1, h2⟩ | ⟨k, h1, h2, h3, h4⟩
  · rcases h' with ⟨g1, g2⟩ | ⟨j, g1, g2, g3, g4⟩
    · rw [h1, g1]
    · exact absurd g3 (h2 j g1)
  · rcases h' with ⟨g1, g2⟩ | ⟨j, g1, g2, g3, g4⟩
    · exact absurd h3 (g2 k h1)
    · rcases Nat.lt_trichotomy k j with h5 | h5 | h5
      · exact absurd h3 (g4 k h5)
      · rw [h2, g2, h5]
      · exact absurd g3 (h4 j h5)
theorem FstIs.congr {P Q : Nat → Prop} {n : Nat} {r : Int} (h : FstIs P n r) (e : ∀ i, i < n → (P i ↔ Q i)) : FstIs Q n r := by
  rcases h with ⟨h1, h2⟩ | ⟨k, h1, h2, h3, h4⟩
  · exact Or.inl ⟨h1, fun i hi hq => h2 i hi ((e i hi).2 hq)⟩
  · exact Or.inr ⟨k, h1, h2, (e k h1).1 h3, fun j hj hq => h4 j hj ((e j (by omega)).2 hq)⟩
theorem FstIs.range {P : Nat → Prop} {n : Nat} {r : Int} (h : FstIs P n r) : r = -1 ∨ (0 ≤ r ∧ r < n) := by
  rcases h with ⟨h1, _⟩ | ⟨k, h1, h2, _⟩
  · exact Or.inl h1
  · exact Or.inr (by omega)

/-- Is it all nothing? -/
def zB (n : Nat) (Y : Nat → Int) : Bool := decide (∀ i, i < n → Y i = 0)
theorem zB_iff {n : Nat} {Y : Nat → Int} : zB n Y = true ↔ ∀ i, i < n → Y i = 0 := by unfold zB; rw [decide_eq_true_eq]
theorem zB_no {n : Nat} {Y : Nat → Int} {k : Nat} (hk : k < n) (h : Y k ≠ 0) : zB n Y = false := by
  cases e : zB n Y
  · rfl
  · exact absurd (zB_iff.1 e k hk) h

set_option maxHeartbeats 400000 in
theorem neFn_any (x : Int) (w : World) : Calls Try.prog 82 #[.int .i64 x] w fun e w' => e = .returned (.bool (x != 0)) ∧ w' = w := by
  go_enter Try.func82, Try.ntmps82
  go_wp2
  go_ret
  exact ⟨rfl, rfl⟩

set_option maxHeartbeats 400000 in
theorem neIdx_any {w : World} {a : Option Addr} {n c : Nat} {Y : Nat → Int} (hn : n ≤ 1000) (hr : Row w a n Y) :
    Calls Try.prog 105 #[.slice a n c, .func (Fn.func 82) #[] #[]] w fun e w' => (∃ r : Int, e = .returned (.int .i64 r) ∧ FstIs (fun i => Y i ≠ 0) n r) ∧ w' = w := by
  obtain ⟨rb, ro, ha, hc⟩ := hr
  have HC : Hid (∀ i, i < n → w.cell? ⟨rb, ro + i, none⟩ = some (.int .i64 (Y i))) := hc
  clear hc
  go_enter Try.func105, Try.ntmps105
  go_wp2
  go_loopw [8] (fun i wr => ∃ k : Nat, k ≤ n ∧ i = .int .i64 k ∧ Hid (∀ j, j < k → ¬ Y j ≠ 0) ∧ wr = w) (fun i _ => n - (intOf i).toNat)
  case atStart => exact ⟨0, Nat.zero_le _, rfl, hid (fun j hj => by omega), rfl⟩
  case round =>
    obtain ⟨k, hk, rfl, HJ, rfl⟩ := hrel
    by_cases hlt : k < n
    · obtain rfl := ha (by omega)
      have hck := HC.out k hlt
      have hzk : (k : Int) < n := by omega
      by_cases hz : Y k = 0
      · have HZ : Hid (Y k = 0) := hz
        have C1 : Hid (Calls Try.prog 82 #[.int .i64 (Y k)] wr fun e w' => e = .returned (.bool false) ∧ w' = wr) := by
          have := neFn_any (Y k) wr
          rwa [show (Y k != 0) = false by simp [hz]] at this
        clear hz
        go_wp2_with fail
        refine C1.out.mono ?_
        rintro e w1 ⟨rfl, rfl⟩
        go_wp2
        go_roundw
        case rel =>
          refine ⟨k + 1, by omega, by go_num, hid (fun j hj => ?_), trivial⟩
          by_cases e : j = k
          · subst e
            exact fun h => h HZ.out
          · exact HJ.out j (by omega)
        case measure => simp [intOf]; omega
      · have HZ : Hid (Y k ≠ 0) := hz
        have C1 : Hid (Calls Try.prog 82 #[.int .i64 (Y k)] wr fun e w' => e = .returned (.bool true) ∧ w' = wr) := by
          have := neFn_any (Y k) wr
          rwa [show (Y k != 0) = true by simp [hz]] at this
        clear hz
        go_wp2_with fail
        refine C1.out.mono ?_
        rintro e w1 ⟨rfl, rfl⟩
        go_wp2
        go_ret
        exact ⟨⟨k, rfl, .hit hlt HZ.out HJ.out⟩, rfl⟩
    · obtain rfl : k = n := by omega
      go_wp2
      go_ret
      exact ⟨⟨-1, rfl, .no HJ.out⟩, rfl⟩

set_option maxHeartbeats 400000 in
theorem anyNe_any {w : World} {a : Option Addr} {n c : Nat} {Y : Nat → Int} (hn : n ≤ 1000) (hr : Row w a n Y) :
    Calls Try.prog 81 #[.slice a n c, .func (Fn.func 82) #[] #[]] w fun e w' => e = .returned (.bool (!zB n Y)) ∧ w' = w := by
  have C1 : Hid (Calls Try.prog 105 #[.slice a n c, .func (Fn.func 82) #[] #[]] w fun e w' => (∃ r : Int, e = .returned (.int .i64 r) ∧ FstIs (fun i => Y i ≠ 0) n r) ∧ w' = w) := neIdx_any hn hr
  clear hr
  go_enter Try.func81, Try.ntmps81
  go_wp2_with fail
  refine C1.out.mono ?_
  rintro e w1 ⟨⟨r, rfl, hr⟩, rfl⟩
  have HR : Hid ((decide (0 ≤ r)) = !zB n Y) := by
    rcases hr with ⟨rfl, h2⟩ | ⟨k, h1, rfl, h3, _⟩
    · rw [zB_iff.2 (fun i hi => Classical.byContradiction (fun h => h2 i hi h))]
      rfl
    · rw [zB_no h1 h3]
      show decide _ = true
      rw [decide_eq_true_eq]
      omega
  clear hr
  go_wp2
  go_ret
  exact ⟨by rw [← HR.out]; rfl, rfl⟩

set_option maxHeartbeats 400000 in
theorem isEmpty_any {w : World} {a : Option Addr} {n c : Nat} {Y : Nat → Int} (hn : n ≤ 1000) (hr : Row w a n Y) :
    Calls Try.prog 46 #[.slice a n c] w fun e w' => e = .returned (.bool (zB n Y)) ∧ w' = w := by
  have C1 : Hid (Calls Try.prog 81 #[.slice a n c, .func (Fn.func 82) #[] #[]] w fun e w' => e = .returned (.bool (!zB n Y)) ∧ w' = w) := anyNe_any hn hr
  clear hr
  generalize zB n Y = z at *
  go_enter Try.func46, Try.ntmps46
  go_wp2_with fail
  refine C1.out.mono ?_
  rintro e w1 ⟨rfl, rfl⟩
  go_wp2
  go_ret
  exact ⟨by simp, rfl⟩

set_option maxHeartbeats 400000 in
theorem zero_any {w : World} {a : Option Addr} {n c : Nat} {Y : Nat → Int} (hn : n ≤ 1000) (hr : Row w a n Y) :
    Calls Try.prog 30 #[.slice a n c] w fun e w' => e = .returned (.bool (zB n Y)) ∧ w' = w := by
  obtain ⟨rb, ro, ha, hc⟩ := hr
  have HC : Hid (∀ i, i < n → w.cell? ⟨rb, ro + i, none⟩ = some (.int .i64 (Y i))) := hc
  clear hc
  go_enter Try.func30, Try.ntmps30
  go_wp2
  go_loopw [3] (fun i wr => ∃ k : Nat, k ≤ n ∧ i = .int .i64 k ∧ Hid (∀ j, j < k → Y j = 0) ∧ wr = w) (fun i _ => n - (intOf i).toNat)
  case atStart => exact ⟨0, Nat.zero_le _, rfl, hid (fun j hj => by omega), rfl⟩
  case round =>
    obtain ⟨k, hk, rfl, HJ, rfl⟩ := hrel
    by_cases hlt : k < n
    · obtain rfl := ha (by omega)
      have hck := HC.out k hlt
      have hzk : (k : Int) < n := by omega
      by_cases hz : Y k = 0
      · have HZ : Hid (Y k = 0) := hz
        rw [hz] at hck
        clear hz
        go_wp2
        go_roundw
        case rel =>
          refine ⟨k + 1, by omega, by go_num, hid (fun j hj => ?_), trivial⟩
          by_cases e : j = k
          · subst e
            exact HZ.out
          · exact HJ.out j (by omega)
        case measure => simp [intOf]; omega
      · have HZ : Hid (zB n Y = false) := zB_no hlt hz
        have hz' : (Y k != 0) = true := by simp [hz]
        generalize Y k = y at *
        clear hz
        go_wp2
        go_ret
        exact ⟨by rw [HZ.out]; rfl, rfl⟩
    · obtain rfl : k = n := by omega
      go_wp2
      go_ret
      exact ⟨by rw [zB_iff.2 HJ.out]; rfl, rfl⟩

/-- The first marking that is all nothing. -/
theorem emptyIdx_any {w : World} {a : Option Addr} {n c F : Nat} {Y : Nat → Nat → Int} (hF : F ≤ 1000) (hn : n ≤ 1000) (h1 : Gr w a n (fun _ => F) Y) :
    Calls Try.prog 17 #[.slice a n c, .func (Fn.func 46) #[] #[]] w fun e w' => (∃ r : Int, e = .returned (.int .i64 r) ∧ FstIs (fun i => zB F (Y i) = true) n r) ∧ w' = w := by
  obtain ⟨gb, go, ha, hc⟩ := h1
  have HC : Hid (∀ r, r < n → ∃ a c, w.cell? ⟨gb, go + r, none⟩ = some (.slice a F c) ∧ Row w a F (Y r)) := hc
  clear hc
  go_enter Try.func17, Try.ntmps17
  go_wp2
  go_loopw [8] (fun i wr => ∃ k : Nat, k ≤ n ∧ i = .int .i64 k ∧ Hid (∀ j, j < k → ¬ zB F (Y j) = true) ∧ wr = w) (fun i _ => n - (intOf i).toNat)
  case atStart => exact ⟨0, Nat.zero_le _, rfl, hid (fun j hj => by omega), rfl⟩
  case round =>
    obtain ⟨k, hk, rfl, HJ, rfl⟩ := hrel
    by_cases hlt : k < n
    · obtain rfl := ha (by omega)
      obtain ⟨ra, rc, hck, hrow⟩ := HC.out k hlt
      have hzk : (k : Int) < n := by omega
      have C1 : Hid (Calls Try.prog 46 #[.slice ra F rc] wr fun e w' => e = .returned (.bool (zB F (Y k))) ∧ w' = wr) := isEmpty_any hF hrow
      clear hrow
      cases hz : zB F (Y k)
      · have HZ : Hid (zB F (Y k) = false) := hz
        rw [hz] at C1
        clear hz
        go_wp2_with fail
        refine C1.out.mono ?_
        rintro e w1 ⟨rfl, rfl⟩
        go_wp2
        go_roundw
        case rel =>
          refine ⟨k + 1, by omega, by go_num, hid (fun j hj => ?_), trivial⟩
          by_cases e : j = k
          · subst e
            rw [HZ.out]
            decide
          · exact HJ.out j (by omega)
        case measure => simp [intOf]; omega
      · have HZ : Hid (zB F (Y k) = true) := hz
        rw [hz] at C1
        clear hz
        go_wp2_with fail
        refine C1.out.mono ?_
        rintro e w1 ⟨rfl, rfl⟩
        go_wp2
        go_ret
        exact ⟨⟨k, rfl, .hit hlt HZ.out HJ.out⟩, rfl⟩
    · obtain rfl : k = n := by omega
      go_wp2
      go_ret
      exact ⟨⟨-1, rfl, .no HJ.out⟩, rfl⟩

set_option maxHeartbeats 400000 in
theorem idxB_any {w : World} {a : Option Addr} {n c : Nat} {R : Nat → Bool} (hn : n ≤ 1000) (hr : Rowb w a n R) :
    Calls Try.prog 48 #[.slice a n c, .bool false] w fun e w' => (∃ r : Int, e = .returned (.int .i64 r) ∧ FstIs (fun i => R i = false) n r) ∧ w' = w := by
  obtain ⟨rb, ro, ha, hc⟩ := hr
  have HC : Hid (∀ i, i < n → w.cell? ⟨rb, ro + i, none⟩ = some (.bool (R i))) := hc
  clear hc
  go_enter Try.func48, Try.ntmps48
  go_wp2
  go_loopw [8] (fun i wr => ∃ k : Nat, k ≤ n ∧ i = .int .i64 k ∧ Hid (∀ j, j < k → ¬ R j = false) ∧ wr = w) (fun i _ => n - (intOf i).toNat)
  case atStart => exact ⟨0, Nat.zero_le _, rfl, hid (fun j hj => by omega), rfl⟩
  case round =>
    obtain ⟨k, hk, rfl, HJ, rfl⟩ := hrel
    by_cases hlt : k < n
    · obtain rfl := ha (by omega)
      have hck := HC.out k hlt
      have hzk : (k : Int) < n := by omega
      cases hz : R k
      · have HZ : Hid (R k = false) := hz
        rw [hz] at hck
        clear hz
        go_wp2
        go_ret
        exact ⟨⟨k, rfl, .hit hlt HZ.out HJ.out⟩, rfl⟩
      · have HZ : Hid (R k = true) := hz
        rw [hz] at hck
        clear hz
        go_wp2
        go_roundw
        case rel =>
          refine ⟨k + 1, by omega, by go_num, hid (fun j hj => ?_), trivial⟩
          by_cases e : j = k
          · subst e
            rw [HZ.out]
            decide
          · exact HJ.out j (by omega)
        case measure => simp [intOf]; omega
    · obtain rfl : k = n := by omega
      go_wp2
      go_ret
      exact ⟨⟨-1, rfl, .no HJ.out⟩, rfl⟩

/-- The first of these that leads there, or n. -/
def fzE (Z : Nat → Int) (t : Int) : Nat → Nat
  | 0 => 0
  | n + 1 => if fzE Z t n < n then fzE Z t n else if Z n = t then n else n + 1
/-- Its step. -/
def lsE (S Z : Nat → Int) (t : Int) (n : Nat) : Int := if fzE Z t n < n then S (fzE Z t n) else -1

theorem fzE_none {Z : Nat → Int} {t : Int} : ∀ {n}, (∀ j, j < n → Z j ≠ t) → fzE Z t n = n
  | 0, _ => rfl
  | n + 1, h => by
    have := fzE_none (n := n) (fun j hj => h j (by omega))
    unfold fzE
    rw [this, if_neg (by omega), if_neg (h n (by omega))]
theorem fzE_hit {Z : Nat → Int} {t : Int} {k : Nat} (hz : Z k = t) (hj : ∀ j, j < k → Z j ≠ t) : ∀ {n}, k < n → fzE Z t n = k
  | 0, h => by omega
  | n + 1, h => by
    unfold fzE
    by_cases e : k = n
    · subst e
      rw [fzE_none hj, if_neg (by omega), if_pos hz]
    · have := fzE_hit hz hj (n := n) (by omega)
      rw [this, if_pos (by omega)]
theorem lsE_hit {S Z : Nat → Int} {t : Int} {k n : Nat} (hk : k < n) (hz : Z k = t) (hj : ∀ j, j < k → Z j ≠ t) : lsE S Z t n = S k := by
  unfold lsE
  rw [fzE_hit hz hj hk, if_pos hk]
theorem lsE_none {S Z : Nat → Int} {t : Int} {n : Nat} (h : ∀ j, j < n → Z j ≠ t) : lsE S Z t n = -1 := by
  unfold lsE
  rw [fzE_none h, if_neg (by omega)]

set_option maxHeartbeats 400000 in
theorem leastStep_any {w : World} {a : Option Addr} {n c : Nat} {S Z : Nat → Int} (t : Int) (hn : n ≤ 1000) (h : Fls w a n S Z) :
    Calls Try.prog 50 #[.slice a n c, .int .i64 t] w fun e w' => e = .returned (.int .i64 (lsE S Z t n)) ∧ Below w.heap.size w w' := by
  obtain ⟨b, o, ha, hc⟩ := h
  have HC : Hid (∀ i, i < n → w.cell? ⟨b, o + i * 2, none⟩ = some (.int .i64 (S i)) ∧ w.cell? ⟨b, o + i * 2 + 1, none⟩ = some (.int .i64 (Z i))) := hc
  clear hc
  go_enter Try.func50, Try.ntmps50
  go_wp2
  go_loopw [9] (fun i wr => ∃ k : Nat, k ≤ n ∧ i = .int .i64 k ∧ Hid (∀ j, j < k → Z j ≠ t) ∧ Hid (Below w.heap.size w wr)) (fun i _ => n - (intOf i).toNat)
  case atStart => exact ⟨0, Nat.zero_le _, rfl, hid (fun j hj => by omega), hid (Below.refl _ _)⟩
  case round =>
    obtain ⟨k, hk, rfl, HJ, HB⟩ := hrel
    by_cases hlt : k < n
    · obtain rfl := ha (by omega)
      obtain ⟨h1, h2⟩ := Fls.at HC.out HB.out hlt
      have hzk : (k : Int) < n := by omega
      have HS : Hid (∀ x, Z k = x → x = t → lsE S Z t n = S k) := fun x hx e => lsE_hit hlt (hx.trans e) HJ.out
      have HZ : Hid (∀ x, Z k = x → x ≠ t → ∀ j, j < k + 1 → Z j ≠ t) := fun x hx e j hj => by
        by_cases e2 : j = k
        · subst e2
          rw [hx]
          exact e
        · exact HJ.out j (by omega)
      obtain ⟨x, hx⟩ : ∃ x, Z k = x := ⟨_, rfl⟩
      obtain ⟨y, hy⟩ : ∃ y, S k = y := ⟨_, rfl⟩
      rw [hy] at HS h1
      rw [hx] at h2
      have HX : Hid (Z k = x) := hx
      clear hx hy HJ
      have HB2 : Hid (Below w.heap.size w (wr.alloc (.cells #[.int .i64 y, .int .i64 x] 58))) := HB.out.alloc HB.out.size _
      by_cases e : x = t
      · have HE : Hid (lsE S Z t n = y) := HS.out x HX.out e
        have he : (x == t) = true := by rw [beq_iff_eq]; exact e
        clear e HS HZ
        go_wp2
        go_ret
        exact ⟨by rw [HE.out]; rfl, HB2.out⟩
      · have HE : Hid (∀ j, j < k + 1 → Z j ≠ t) := HZ.out x HX.out e
        have he : (x == t) = false := by rw [beq_eq_false_iff_ne]; exact e
        clear e HS HZ
        go_wp2
        go_roundw
        case rel => exact ⟨k + 1, by omega, by go_num, HE, HB2⟩
        case measure => simp [intOf]; omega
    · obtain rfl : k = n := by omega
      have HE : Hid (lsE S Z t k = -1) := lsE_none HJ.out
      go_wp2
      go_ret
      exact ⟨by rw [HE.out]; rfl, HB.out⟩

end Go.Proofs.Ytjenkhphngiphaa

namespace Go.Proofs.Ytjenkhphngiphaa
open Go.RowKit

/-- Edges of G markings lie at xa: of the r-th one L r, their steps S, where they lead Z. -/
def Egs (w : World) (xa : Option Addr) (G : Nat) (L : Nat → Nat) (S Z : Nat → Nat → Int) : Prop :=
  ∃ b o, (0 < G → xa = some ⟨b, o, none⟩) ∧ ∀ r, r < G → ∃ a c, w.cell? ⟨b, o + r, none⟩ = some (.slice a (L r) c) ∧ Fls w a (L r) (S r) (Z r)

theorem Egs.below {w w' : World} {xa : Option Addr} {G : Nat} {L : Nat → Nat} {S Z : Nat → Nat → Int} (h : Egs w xa G L S Z) (hb : Below w.heap.size w w') : Egs w' xa G L S Z := by
  obtain ⟨b, o, ha, hc⟩ := h
  refine ⟨b, o, ha, fun r hr => ?_⟩
  obtain ⟨a, c, h1, h2⟩ := hc r hr
  exact ⟨a, c, by rw [hb.cell (p := ⟨b, o + r, none⟩) (World.block_lt_of_cell? _ _ h1)]; exact h1, h2.below hb⟩

theorem gr_congr {w : World} {ga : Option Addr} {G : Nat} {L L' : Nat → Nat} {Z Z' : Nat → Nat → Int} (h : Gr w ga G L Z) (e1 : ∀ r, r < G → L r = L' r) (e2 : ∀ r, r < G → ∀ i, i < L r → Z r i = Z' r i) : Gr w ga G L' Z' := by
  obtain ⟨b, o, ha, hc⟩ := h
  refine ⟨b, o, ha, fun r hr => ?_⟩
  obtain ⟨a, c, h1, h2⟩ := hc r hr
  rw [← e1 r hr]
  exact ⟨a, c, h1, h2.congr (e2 r hr)⟩

theorem lst_add (k : Nat) (Z : Nat → Int) : lst (k + 1) Z = lst k Z ++ [Z k] := by simp [lst, List.range_succ]

/-- The rows while they are made. -/
def gm (L : Nat → Nat) (Z : Nat → Nat → Int) (r k j : Nat) : List Int := if j < r then lst (L j) (Z j) else if j = r then lst k (Z j) else []

theorem gm_start (L : Nat → Nat) (Z : Nat → Nat → Int) (j : Nat) : gm L Z 0 0 j = [] := by
  unfold gm
  rw [if_neg (Nat.not_lt_zero _)]
  by_cases h : j = 0
  · rw [if_pos h]; rfl
  · rw [if_neg h]
theorem gm_at (L : Nat → Nat) (Z : Nat → Nat → Int) (r k : Nat) : gm L Z r k r = lst k (Z r) := by
  unfold gm
  rw [if_neg (by omega), if_pos rfl]
theorem gm_next (L : Nat → Nat) (Z : Nat → Nat → Int) (r k j : Nat) {x : Int} (hx : Z r k = x) : (if j = r then gm L Z r k r ++ [x] else gm L Z r k j) = gm L Z r (k + 1) j := by
  by_cases e : j = r
  · subst e
    rw [if_pos rfl, gm_at, gm_at, lst_add, hx]
  · rw [if_neg e]
    unfold gm
    rw [if_neg e, if_neg e]
theorem gm_full (L : Nat → Nat) (Z : Nat → Nat → Int) (r j : Nat) : gm L Z r (L r) j = gm L Z (r + 1) 0 j := by
  unfold gm
  by_cases h1 : j < r
  · rw [if_pos h1, if_pos (by omega)]
  · by_cases h2 : j = r
    · subst h2
      rw [if_neg h1, if_pos rfl, if_pos (by omega)]
    · rw [if_neg h1, if_neg h2, if_neg (by omega)]
      by_cases h3 : j = r + 1
      · rw [if_pos h3]; rfl
      · rw [if_neg h3]
theorem gm_end (L : Nat → Nat) (Z : Nat → Nat → Int) {G j : Nat} (h : j < G) : gm L Z G 0 j = lst (L j) (Z j) := by unfold gm; rw [if_pos h]

theorem gm_gr {w wr : World} {G : Nat} {L : Nat → Nat} {Z : Nat → Nat → Int} {V : Nat → Value} (h : Fam w wr G (gm L Z G 0) V) : Gr wr (some ⟨w.heap.size, 0, none⟩) G L Z := by
  refine gr_congr h.gr (fun r hr => ?_) (fun r hr i hi => ?_)
  · simp only [gm_end L Z hr, lst_len]
  · simp only [gm_end L Z hr, lst_len] at hi ⊢
    exact lst_getD _ _ _ hi

set_option maxHeartbeats 1000000 in
theorem graph_any {ma xa : Option Addr} {ml mc G xc : Nat} {L : Nat → Nat} {S Z : Nat → Nat → Int} {w : World} (hG : G ≤ 1000) (hL : ∀ r, r < G → L r ≤ 1000) (h : Egs w xa G L S Z) :
    Calls Try.prog 21 #[.agg #[.slice ma ml mc, .slice xa G xc]] w fun e w' => (∃ b, e = .returned (.slice (some ⟨b, 0, none⟩) G G) ∧ w.heap.size ≤ b ∧ Gr w' (some ⟨b, 0, none⟩) G L Z) ∧ Below w.heap.size w w' := by
  obtain ⟨b, o, ha, hc⟩ := h
  have HC : Hid (∀ r, r < G → ∃ a c, w.cell? ⟨b, o + r, none⟩ = some (.slice a (L r) c) ∧ Fls w a (L r) (S r) (Z r)) := hc
  have HL : Hid (∀ r, r < G → L r ≤ 1000) := hL
  clear hc hL
  have hmk := run_make_row' (P := Try.prog) 32 26 (.slice none 0 0) 24 Try.underlying32 Try.info26 rfl .i64 .i64 G (by omega) (by omega)
  obtain ⟨i0, hi, hz0, hz1, hz2⟩ := info_parts Try.info3
  have HI : Hid (Try.prog.info? 3 = some i0 ∧ i0.zero = some (.int .i64 0) ∧ i0.size = 1 ∧ i0.bytes = 8) := ⟨hi, hz0, hz1, hz2⟩
  clear hi hz0 hz1 hz2
  obtain ⟨W1, eW1⟩ : ∃ x, x = w.alloc (.cells #[.slice ma ml mc, .slice xa G xc] 35) := ⟨_, rfl⟩
  have HW1 : Hid (W1.heap.size = w.heap.size + 1 ∧ Below w.heap.size w W1) := by subst eW1; exact ⟨by simp, box_below _ _⟩
  have hS0 : Fam W1 (W1.alloc (.cells (madeCells #[.slice none 0 0] G) 26)) G (gm L Z 0 0) (fun _ => .slice none 0 0) := fam_start W1 G _ (fun _ _ => gm_start _ _ _)
  rw [eW1] at hS0
  have HS0 : Hid (Fam W1 ((w.alloc (.cells #[.slice ma ml mc, .slice xa G xc] 35)).alloc (.cells (madeCells #[.slice none 0 0] G) 26)) G (gm L Z 0 0) (fun _ => .slice none 0 0)) := by rw [← eW1] at hS0 ⊢; exact hS0
  clear hS0 eW1
  go_enter Try.func21, Try.ntmps21
  go_wp2
  clear hmk
  go_loopw [15] (fun i wr => ∃ k : Nat, k ≤ G ∧ i = .int .i64 k ∧ Hid (∃ V, Fam W1 wr G (gm L Z k 0) V)) (fun i _ => G - (intOf i).toNat)
  case atStart => exact ⟨0, Nat.zero_le _, rfl, hid ⟨_, HS0.out⟩⟩
  case round =>
    obtain ⟨r, hr, rfl, hX⟩ := hrel
    clear HS0
    by_cases hlt : r < G
    · obtain rfl := ha (by omega)
      have hrz : (r : Int) < G := by omega
      have hr0 : (0 : Int) ≤ (r : Int) := by omega
      obtain ⟨ea, ec, hck0, hfl⟩ := HC.out r hlt
      have HB : Hid (Below w.heap.size w wr) := by
        obtain ⟨V, hFam⟩ := hX.out
        exact HW1.out.2.trans (hFam.below.mono HW1.out.2.size)
      have hck : wr.cell? ⟨b, o + r, none⟩ = some (.slice ea (L r) ec) := by rw [HB.out.cell (p := ⟨b, o + r, none⟩) (World.block_lt_of_cell? _ _ hck0)]; exact hck0
      obtain ⟨eb, eo, hea, hec⟩ := hfl
      have HEC : Hid (∀ i, i < L r → w.cell? ⟨eb, eo + i * 2, none⟩ = some (.int .i64 (S r i)) ∧ w.cell? ⟨eb, eo + i * 2 + 1, none⟩ = some (.int .i64 (Z r i))) := hec
      have hLr := HL.out r hlt
      clear hck0 hec HB
      go_wp2
      go_loopw [22] (fun i wi => ∃ k : Nat, k ≤ L r ∧ i = .int .i64 k ∧ Hid (∃ V, Fam W1 wi G (gm L Z r k) V)) (fun i _ => L r - (intOf i).toNat)
      case atStart => exact ⟨0, Nat.zero_le _, rfl, hX⟩
      case round =>
        obtain ⟨k, hk, rfl, hX2⟩ := hrel
        clear hX hck
        obtain ⟨V, hFam⟩ := hX2.out
        have HFam : Hid (Fam W1 wr G (gm L Z r k) V) := hFam
        clear hX2 hFam
        have HB : Hid (Below w.heap.size w wr) := HW1.out.2.trans (HFam.out.below.mono HW1.out.2.size)
        by_cases hlk : k < L r
        · obtain rfl := hea (by omega)
          have hzk : (k : Int) < L r := by omega
          obtain ⟨h1, h2⟩ := Fls.at HEC.out HB.out hlk
          obtain ⟨x, hx⟩ : ∃ x, Z r k = x := ⟨_, rfl⟩
          obtain ⟨y, hy⟩ : ∃ y, S r k = y := ⟨_, rfl⟩
          have HX : Hid (Z r k = x) := hx
          rw [hx] at h2
          rw [hy] at h1
          obtain ⟨a2, c2, hv, _⟩ := owns_row (HFam.out.own r hlt)
          have hlen : (gm L Z r k r).length ≤ 1000 := by rw [gm_at, lst_len]; omega
          generalize hm : (gm L Z r k r).length = m at *
          have HM : Hid ((gm L Z r k r).length = m) := hm
          have HV : Hid (V r = .slice a2 m c2) := hv
          have hs1 : w.heap.size + 1 < wr.heap.size := by have := HFam.out.size; have := HW1.out.1; omega
          have htop : wr.cell? ⟨w.heap.size + 1, r, none⟩ = some (.slice a2 m c2) := by rw [← HW1.out.1, HFam.out.top.cell hlt, hv]
          clear hx hy hm hv
          go_wp2
          have HFam2 : Hid (Fam W1 (wr.alloc (.cells #[.int .i64 y, .int .i64 x] 58)) G (gm L Z r k) V) := HFam.out.alloc _
          have ht2 : (wr.alloc (.cells #[.int .i64 y, .int .i64 x] 58)).cell? ⟨w.heap.size + 1, r, none⟩ = some (.slice a2 m c2) := keep_alloc (Below.refl _ _) htop
          have hf1 : (wr.alloc (.cells #[.int .i64 y, .int .i64 x] 58)).cell? ⟨wr.heap.size, 1, none⟩ = some (.int .i64 x) := cell_of_alloc rfl
          have HSz : Hid (W1.heap.size < wr.heap.size) := by have := HFam.out.size; show _ < _; omega
          clear HFam h1 h2 htop
          generalize hU : wr.alloc (.cells #[.int .i64 y, .int .i64 x] 58) = U at *
          have HUs : Hid (U.heap.size = wr.heap.size + 1) := by show _ = _; rw [← hU]; simp
          have HO : Hid (U.ownsRow (W1.heap.size + 1) 3 1 (.slice a2 m c2) m (vals (gm L Z r k r))) := by
            have := HFam2.out.own r hlt
            rw [HV.out, HM.out] at this
            exact this
          have HAp : Hid ((Value.slice a2 m c2).ownBlock ≠ some (w.heap.size + 1) ∧ (Value.slice a2 m c2).ownBlock ≠ some wr.heap.size) := by
            have h1 := HFam2.out.own r hlt
            rw [HV.out] at h1
            have h2 := ownBlock_own h1
            refine ⟨fun e => ?_, fun e => ?_⟩
            · have := (h1.lt _ e).1; have := HW1.out.1; omega
            · obtain ⟨c, hc⟩ := h2 _ e
              have hn : U.heap[wr.heap.size]? = some (.cells #[.int .i64 y, .int .i64 x] 58) := by rw [← hU]; exact Go.Deep.blk_alloc_new _ _
              rw [hn] at hc
              simp at hc
          have hUlt : w.heap.size + 1 < U.heap.size := by have := HUs.out; omega
          have hUlt2 : wr.heap.size < U.heap.size := by have := HUs.out; omega
          have hne1 : w.heap.size + 1 ≠ wr.heap.size := by omega
          have hne2 : wr.heap.size ≠ w.heap.size + 1 := by omega
          go_region_law
            ((refine step_append_lies _ (by rfl) _ _ _ (by rfl) (W1.heap.size + 1) 3 i0 _ 1 8 Try.underlying26 HI.out.1 HI.out.2.1 HI.out.2.2.1 HI.out.2.2.2 rfl (by omega) (.slice a2 m c2) m (vals (gm L Z r k r)) (by rfl) ((HO.out.alloc _).drew)
                ⟨U.heap.size, 0, none⟩ 1 1 [.int .i64 x] (by rfl) (by rfl) (World.news_of_block (cs := #[.int .i64 x]) (t := 3) (fr := (0, 0)) (heap_alloc_new U _)) (by simp [Value.oneCell'])
                (by omega) (by unfold maxLen; omega) (by omega) (by have := HUs.out; have := HSz.out; simp; omega) (U.heap.size + 1) (by simp) ?_; intro gg cap w1 hown1 hgrow hat hlt1; obtain ⟨g1, g2, H3⟩ := famApp HFam2.out hlt HM.out HV.out HW1.out.1 hown1 hgrow hat; have g4 := grown_cell hgrow hf1 HAp.out.2))
          all_goals
            clear hown1 hgrow hat
            go_wp2
            go_roundw
            case rel => exact ⟨k + 1, by omega, by go_num, hid ⟨_, Fam.congr H3.out (fun j _ => gm_next L Z r k j HX.out)⟩⟩
            case measure => simp [intOf]; omega
        · obtain rfl : k = L r := by omega
          go_wp2
          go_roundw
          case rel => exact ⟨r + 1, by omega, by go_num, hid ⟨V, HFam.out.congr (fun j _ => gm_full L Z r j)⟩⟩
          case measure => simp [intOf]; omega
    · obtain rfl : r = G := by omega
      obtain ⟨V, hFam⟩ := hX.out
      have HFin : Hid (Gr wr (some ⟨w.heap.size + 1, 0, none⟩) r L Z ∧ Below w.heap.size w wr) := ⟨by rw [← HW1.out.1]; exact gm_gr hFam, HW1.out.2.trans (hFam.below.mono HW1.out.2.size)⟩
      clear hX hFam
      go_wp2
      go_ret
      exact ⟨⟨_, rfl, by omega, HFin.out.1⟩, HFin.out.2⟩

end Go.Proofs.Ytjenkhphngiphaa
