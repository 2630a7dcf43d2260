/- Graphs in memory; Graph, Check, Goes, EqualFunc, lists, each by its contract. -/
import Derived.Test.YtgahdclbaifcbaaLeaf
namespace Go.Proofs.Ytgahdclbaifcbaa
open Go.RowKit

/-- In w the slice at ga, of G cells, holds G rows: row r the numbers Z r, L r of them. -/
def Gr (w : World) (ga : Option Addr) (G : Nat) (L : Nat → Nat) (Z : Nat → Nat → Int) : Prop :=
  ∃ gb go, (0 < G → ga = some ⟨gb, go, none⟩) ∧ ∀ r, r < G → ∃ a c, w.cell? ⟨gb, go + r, none⟩ = some (.slice a (L r) c) ∧ Row w a (L r) (Z r)

theorem Row.below {w w' : World} {a : Option Addr} {n : Nat} {Z : Nat → Int} (h : Row w a n Z) (hb : Below w.heap.size w w') : Row w' a n Z := by
  obtain ⟨b, o, ha, hc⟩ := h
  refine ⟨b, o, ha, fun i hi => ?_⟩
  rw [hb.cell (p := ⟨b, o + i, none⟩) (World.block_lt_of_cell? _ _ (hc i hi))]
  exact hc i hi

theorem Gr.below {w w' : World} {ga : Option Addr} {G : Nat} {L : Nat → Nat} {Z : Nat → Nat → Int} (h : Gr w ga G L Z) (hb : Below w.heap.size w w') : Gr w' ga G L Z := by
  obtain ⟨b, o, ha, hc⟩ := h
  refine ⟨b, o, ha, fun r hr => ?_⟩
  obtain ⟨a, c, h1, h2⟩ := hc r hr
  refine ⟨a, c, ?_, h2.below hb⟩
  rw [hb.cell (p := ⟨b, o + r, none⟩) (World.block_lt_of_cell? _ _ h1)]
  exact h1

def okG (G : Nat) (L : Nat → Nat) (Z : Nat → Nat → Int) : Bool := decide (∀ r, r < G → allIn (L r) (Z r) G = true)

theorem okG_no {G : Nat} {L : Nat → Nat} {Z : Nat → Nat → Int} (k : Nat) (hk : k < G) (h : allIn (L k) (Z k) G = false) : okG G L Z = false := by
  unfold okG
  rw [decide_eq_false_iff_not]
  intro hall
  have := hall k hk
  rw [h] at this
  cases this

theorem okG_yes {G : Nat} {L : Nat → Nat} {Z : Nat → Nat → Int} (h : ∀ r, r < G → allIn (L r) (Z r) G = true) : okG G L Z = true := by
  unfold okG
  rw [decide_eq_true_eq]
  exact h

theorem okG_all {G : Nat} {L : Nat → Nat} {Z : Nat → Nat → Int} (h : okG G L Z = true) : ∀ r, r < G → ∀ i, i < L r → 0 ≤ Z r i ∧ Z r i < G := by
  unfold okG at h
  rw [decide_eq_true_eq] at h
  exact fun r hr => allIn_all (h r hr)

def errG (G : Nat) (L : Nat → Nat) (Z : Nat → Nat → Int) : Int := if 20000 < G then 2 else if okG G L Z = true then 0 else 1

theorem errG_large {G : Nat} {L : Nat → Nat} {Z : Nat → Nat → Int} (h : 20000 < G) : errG G L Z = 2 := by unfold errG; rw [if_pos h]
theorem errG_bad {G : Nat} {L : Nat → Nat} {Z : Nat → Nat → Int} (h : ¬ 20000 < G) (h2 : okG G L Z = false) : errG G L Z = 1 := by unfold errG; rw [if_neg h, h2]; rfl
theorem errG_ok {G : Nat} {L : Nat → Nat} {Z : Nat → Nat → Int} (h : ¬ 20000 < G) (h2 : okG G L Z = true) : errG G L Z = 0 := by unfold errG; rw [if_neg h, h2]; rfl

set_option maxHeartbeats 400000 in
theorem check_any (ga : Option Addr) (G gc : Nat) (L : Nat → Nat) (Z : Nat → Nat → Int) (w : World) (hL : ∀ r, r < G → L r ≤ 140737488355328) (h : Gr w ga G L Z) :
    Calls Try.prog 46 #[.slice ga G gc] w fun e w' => e = .returned (.int .i64 (errG G L Z)) ∧ w' = w := by
  by_cases hlarge : 20000 < G
  · have hz : (20000 : Int) < G := by omega
    go_enter Try.func46, Try.ntmps46
    go_wp2
    go_ret
    exact ⟨ret_int (errG_large hlarge).symm, rfl⟩
  have hz : ¬ (20000 : Int) < G := by omega
  have HL : Hid (∀ r, r < G → L r ≤ 140737488355328) := hL
  obtain ⟨b, o, ha, hc⟩ := h
  have HC : Hid (∀ r, r < G → ∃ a c, w.cell? ⟨b, o + r, none⟩ = some (.slice a (L r) c) ∧ Row w a (L r) (Z r)) := hc
  clear hc hL
  go_enter Try.func46, Try.ntmps46
  go_wp2
  go_loop [10] (fun i => ∃ k : Nat, k ≤ G ∧ i = .int .i64 k ∧ Hid (∀ j, j < k → allIn (L j) (Z j) G = true)) (fun i => G - (intOf i).toNat)
  case atStart => exact ⟨0, Nat.zero_le _, rfl, hid (fun j hj => absurd hj (Nat.not_lt_zero _))⟩
  case round =>
    obtain ⟨k, hk, rfl, H⟩ := hrel
    by_cases hlt : k < G
    · obtain rfl := ha (by omega)
      obtain ⟨a, c, hck, hrow⟩ := HC.out k hlt
      have HR : Hid (Row w a (L k) (Z k)) := hrow
      clear hrow
      go_wp2_with fail
      refine (areNodes_any _ G gc a (L k) c (Z k) _ (HL.out k hlt) HR.out).mono ?_
      rintro e w' ⟨rfl, rfl⟩
      cases hb : allIn (L k) (Z k) G
      · have HB : Hid (allIn (L k) (Z k) G = false) := hb
        clear hb
        go_wp2
        go_ret
        exact ⟨ret_int (errG_bad hlarge (okG_no k hlt HB.out)).symm, rfl⟩
      · have HB : Hid (allIn (L k) (Z k) G = true) := hb
        clear hb
        go_wp2
        go_round
        case rel => exact ⟨k + 1, by omega, by go_num, hid (snoc_all H.out HB.out)⟩
        case measure => simp [intOf]; omega
    · go_wp2
      go_ret
      exact ⟨ret_int (errG_ok hlarge (okG_yes (fun i hi => H.out i (by omega)))).symm, rfl⟩

end Go.Proofs.Ytgahdclbaifcbaa

