/- Steps that don't meet may change places. -/
import Derived.Test.YtpgodjinbabniaaGameTok
namespace Go.Proofs.Ytpgodjinbabniaa
open Go.RowKit

/-- What an enabled step takes from flow j, if its node is no NOr. -/
def tk0 (B : Nat → Int) (t : St3) (j : Nat) : Int := if (0 ≤ t.2.1 ∧ (j : Int) = t.2.1) ∨ (t.2.1 < 0 ∧ B j = t.1) then 1 else 0
def gv0 (A : Nat → Int) (t : St3) (j : Nat) : Int := if A j = t.1 ∧ bit t.2.2 (tally A t.1 j) = true then 1 else 0

theorem gv0_pos (A : Nat → Int) (t : St3) (j : Nat) : 0 ≤ gv0 A t j := by unfold gv0; split <;> omega

/-- A step of a node that is neither NOr nor NStop. -/
structure Pln (K A B : Nat → Int) (F N : Nat) (t : St3) (n : Nat) : Prop where
  lt : n < N
  node : t.1 = n
  k3 : K n ≠ 3
  k7 : K n ≠ 7
  ins : (K n = 6 ∧ t.2.1 = -1) ∨ (K n ≠ 6 ∧ ∃ q : Nat, t.2.1 = q ∧ q < F ∧ B q = n)

theorem pln {K A B : Nat → Int} {F N : Nat} {t : St3} {n : Nat} (h : t ∈ stAll K A B F N) (hn : t.1 = n) (h3 : K n ≠ 3) (h7 : K n ≠ 7) : Pln K A B F N t n := by
  obtain ⟨k, h1, h2, h4, h5, _⟩ := step_kind h
  obtain rfl : k = n := by omega
  refine ⟨h1, h2, h3, h7, ?_⟩
  by_cases h6 : K k = 6
  · exact Or.inl ⟨h6, h4 (Or.inl h6)⟩
  · exact Or.inr ⟨h6, h5 (by omega)⟩

theorem Pln.en {K A B : Nat → Int} {F N : Nat} {t : St3} {n : Nat} (h : Pln K A B F N t n) (m : Nat → Int) : enb K A B F m t ↔ ∀ j, j < F → tk0 B t j = 1 → 0 < m j := by
  obtain ⟨a, x, o⟩ := t
  have hn : a = n := h.node
  subst hn
  rcases h.ins with ⟨h6, hx⟩ | ⟨h6, q, hx, hq, hB⟩
  · have hx' : x = -1 := hx
    subst hx'
    rw [enb_and (by decide) h6]
    constructor
    · intro hh j hj ht
      refine hh j hj ?_
      unfold tk0 at ht
      split at ht
      · rename_i hc
        rcases hc with ⟨hc, _⟩ | ⟨_, hc⟩
        · exact absurd hc (by show ¬ (0 : Int) ≤ -1; decide)
        · exact hc
      · omega
    · intro hh j hj ht
      exact hh j hj (by unfold tk0; rw [if_pos (Or.inr ⟨by show (-1 : Int) < 0; decide, ht⟩)])
  · have hx' : x = q := hx
    subst hx'
    rw [enb_one]
    constructor
    · intro hh j hj ht
      unfold tk0 at ht
      split at ht
      · rename_i hc
        rcases hc with ⟨_, hc⟩ | ⟨hc, _⟩
        · have hc' : (j : Int) = (q : Int) := hc
          obtain rfl : j = q := by omega
          exact hh
        · exact absurd hc (by show ¬ (q : Int) < 0; omega)
      · omega
    · intro hh
      exact hh q hq (by unfold tk0; rw [if_pos (Or.inl ⟨by show (0 : Int) ≤ (q : Int); omega, rfl⟩)])

theorem tk0_or (B : Nat → Int) (t : St3) (j : Nat) : tk0 B t j = 0 ∨ tk0 B t j = 1 := by unfold tk0; split <;> omega

theorem Pln.val {K A B : Nat → Int} {F N : Nat} {t : St3} {n : Nat} (h : Pln K A B F N t n) {m : Nat → Int} (he : enb K A B F m t) {j : Nat} (hj : j < F) : frs K A B t m j = m j - tk0 B t j + gv0 A t j := by
  have hv := (h.en m).1 he j hj
  unfold frs
  rw [if_neg (by rw [h.node]; simpa using h.k3)]
  have e1 : tkn B t m j = m j - tk0 B t j := by
    unfold tkn
    by_cases c : (0 ≤ t.2.1 ∧ (j : Int) = t.2.1) ∨ (t.2.1 < 0 ∧ B j = t.1 ∧ 0 < m j)
    · rw [if_pos c]
      have : tk0 B t j = 1 := by unfold tk0; rw [if_pos (c.imp id (fun h => ⟨h.1, h.2.1⟩))]
      omega
    · rw [if_neg c]
      rcases tk0_or B t j with h0 | h1
      · omega
      · have h2 := hv h1
        unfold tk0 at h1
        split at h1
        · rename_i hc
          exact absurd (hc.imp id (fun h => ⟨h.1, h.2, h2⟩)) c
        · omega
  unfold gvn gv0
  split <;> omega

theorem Pln.apart {K A B : Nat → Int} {F N : Nat} {t s : St3} {n k : Nat} (ht : Pln K A B F N t n) (hs : Pln K A B F N s k) (hne : n ≠ k) {j : Nat} (h : tk0 B s j = 1) : tk0 B t j = 0 := by
  have node : ∀ {u : St3} {a : Nat}, Pln K A B F N u a → tk0 B u j = 1 → B j = a := fun {u a} hu h1 => by
    unfold tk0 at h1
    split at h1
    · rename_i hc
      rcases hc with ⟨h2, h3⟩ | ⟨_, h3⟩
      · rcases hu.ins with ⟨_, h4⟩ | ⟨_, q, h4, _, h5⟩
        · omega
        · obtain rfl : j = q := by omega
          exact h5
      · rw [h3, hu.node]
    · omega
  rcases tk0_or B t j with h0 | h1
  · exact h0
  · have e1 := node hs h
    have e2 := node ht h1
    exact absurd (by omega) hne

theorem Pln.stay {K A B : Nat → Int} {F N : Nat} {t s : St3} {n k : Nat} (ht : Pln K A B F N t n) (hs : Pln K A B F N s k) (hne : n ≠ k) {m : Nat → Int} (h1 : enb K A B F m t) (h2 : enb K A B F m s) : enb K A B F (frs K A B t m) s := by
  rw [hs.en]
  intro j hj h
  rw [ht.val h1 hj, ht.apart hs hne h]
  have := (hs.en m).1 h2 j hj h
  have := gv0_pos A t j
  omega

/-- MAZURKIEWICZ. -/
theorem swaps {K A B : Nat → Int} {F N : Nat} {t s : St3} {n k : Nat} (ht : Pln K A B F N t n) (hs : Pln K A B F N s k) (hne : n ≠ k) {m : Nat → Int} (h1 : enb K A B F m t) (h2 : enb K A B F m s) {j : Nat} (hj : j < F) :
    frs K A B s (frs K A B t m) j = frs K A B t (frs K A B s m) j := by
  rw [hs.val (ht.stay hs hne h1 h2) hj, ht.val h1 hj, ht.val (hs.stay ht (Ne.symm hne) h2 h1) hj, hs.val h2 hj]
  omega

/-- What Rest answers. -/
def rst (n m : Int) : Int := if n.tmod m < 0 then n.tmod m + m else n.tmod m

theorem rst_bound {n m : Int} (h0 : 0 < m) : 0 ≤ rst n m ∧ rst n m < m := by
  have h1 := Int.tmod_lt_of_pos n h0
  have h2 := Int.lt_tmod_of_pos n h0
  unfold rst
  split <;> omega

set_option maxHeartbeats 400000 in
theorem rest_val (n m : Int) (w : World) (h0 : 0 < m) (h1 : m ≤ 1000) : Calls Try.prog 31 #[.int .i64 n, .int .i64 m] w fun e w' => e = .returned (.int .i64 (rst n m)) ∧ w' = w := by
  have hm : m ≠ 0 := by omega
  have hlt := Int.tmod_lt_of_pos n h0
  have hgt : -m < Int.tmod n m := by
    have := Int.lt_tmod_of_pos n h0
    omega
  have hmm : (m == 0) = false := beq_eq_false_iff_ne.2 hm
  have hw : IntKind.i64.wrap (Int.tmod n m) = Int.tmod n m := by rw [IntKind.wrap_i64]; omega
  have HR : Hid (rst n m = if n.tmod m < 0 then n.tmod m + m else n.tmod m) := rfl
  by_cases hr : Int.tmod n m < 0
  · go_enter Try.func31, Try.ntmps31
    go_wp2
    go_ret
    refine ⟨?_, rfl⟩
    rw [HR.out, if_pos hr]
    rfl
  · go_enter Try.func31, Try.ntmps31
    go_wp2
    go_ret
    refine ⟨?_, rfl⟩
    rw [HR.out, if_neg (by omega)]
    rfl

theorem straight_enabled {na fa ma : Option Addr} {mc : Nat} {w : World} (hp : Prc w na 3 3 fa 2 sMs sKs sAs sBs) (hm : Row w ma 2 (fun i => if i = 0 then 1 else 1)) :
    Calls Try.prog 11 #[.agg #[.slice na 3 3, .slice fa 2 2], .slice ma 2 mc] w fun e w' => Below w.heap.size w w' ∧ ∃ a c, e = .returned (.tuple #[.slice a 2 c, .int .i64 0]) ∧ Row w' a 2 (fun i => if i = 0 then 0 else 1) := by
  have h0 : enb sKs sAs sBs 2 (fun i => if i = 0 then (1 : Int) else 1) (1, 0, 1) := Or.inl ⟨by decide, by decide⟩
  have h1 : enb sKs sAs sBs 2 (fun i => if i = 0 then (1 : Int) else 1) (2, 1, 0) := Or.inl ⟨by decide, by decide⟩
  refine (enabledF_any hp straight_chk (mc := mc) (by omega) hm (fun _ => 1) (fun i hi => ?_)).mono fun e w' hh => ⟨hh.1, ?_⟩
  · rw [straight_steps] at hi ⊢
    match i, hi with
    | 0, _ => exact iff_of_true rfl h0
    | 1, _ => exact iff_of_true rfl h1
  · have hok : mkOk 2 2 (fun i => if i = 0 then (1 : Int) else 1) = true := mkOk_yes (fun i _ => by by_cases e : i = 0 <;> simp [e])
    have h := hh.2.ok (by rw [straight_E, hok]; rfl)
    rw [straight_steps] at h
    obtain ⟨a, c, rfl, hr⟩ := h
    refine ⟨a, c, rfl, Row.congr hr (fun i hi => ?_)⟩
    match i, hi with
    | 0, _ => decide
    | 1, _ => decide

end Go.Proofs.Ytpgodjinbabniaa
