/- Rounds over all flows: what is seen behind so many rounds as there are nodes is all that can be come to. -/
import Derived.Test.YtpgodjinbabniaaRef
namespace Go.Proofs.Ytpgodjinbabniaa
open Go.RowKit

def updB (s : Nat → Bool) (x : Nat) : Nat → Bool := fun i => if i = x then true else s i

def cntB (s : Nat → Bool) : Nat → Nat
  | 0 => 0
  | n + 1 => cntB s n + if s n = true then 1 else 0

theorem cntB_le (s : Nat → Bool) : ∀ n, cntB s n ≤ n
  | 0 => Nat.le_refl _
  | n + 1 => by
    have := cntB_le s n
    unfold cntB
    split <;> omega

theorem updB_same {s : Nat → Bool} {x : Nat} (h : s x = true) : updB s x = s := by
  funext i
  unfold updB
  split
  · rename_i e; rw [e, h]
  · rfl

theorem cntB_past (s : Nat → Bool) (x : Nat) : ∀ n, n ≤ x → cntB (updB s x) n = cntB s n
  | 0, _ => rfl
  | n + 1, h => by
    have e : updB s x n = s n := by simp [updB]; omega
    simp only [cntB, cntB_past s x n (by omega), e]

theorem cntB_upd {s : Nat → Bool} {x : Nat} (h : s x = false) : ∀ n, x < n → cntB (updB s x) n = cntB s n + 1
  | n + 1, hx => by
    by_cases e : x = n
    · subst e
      simp [cntB, cntB_past s x x (Nat.le_refl _), updB, h]
    · have ih := cntB_upd h n (by omega)
      have e2 : updB s x n = s n := by simp [updB]; omega
      simp only [cntB, ih, e2]
      omega

def closed (F : Nat) (A B : Nat → Int) (s : Nat → Bool) : Prop := ∀ j, j < F → s (A j).toNat = true → s (B j).toNat = true

/-- Behind r rounds. -/
def Ot (N F : Nat) (A B : Nat → Int) (s : Nat → Bool) (r : Nat) : Prop := closed F A B s ∨ r + 1 ≤ cntB s N

/-- In a round that began with s0, behind i flows. -/
def Rd (N F : Nat) (A B : Nat → Int) (s0 s : Nat → Bool) (i : Nat) : Prop :=
  (s = s0 ∧ ∀ j, j < i → s0 (A j).toNat = true → s0 (B j).toNat = true) ∨ (¬ closed F A B s0 ∧ cntB s0 N + 1 ≤ cntB s N)

theorem rd_start (N F : Nat) (A B : Nat → Int) (s0 : Nat → Bool) : Rd N F A B s0 s0 0 := Or.inl ⟨rfl, fun _ hj => absurd hj (Nat.not_lt_zero _)⟩

theorem rd_no {N F : Nat} {A B : Nat → Int} {s0 s : Nat → Bool} {i : Nat} (h : Rd N F A B s0 s i) (hs : s (A i).toNat = false) : Rd N F A B s0 s (i + 1) := by
  rcases h with ⟨rfl, h⟩ | h
  · refine Or.inl ⟨rfl, fun j hj hA => ?_⟩
    by_cases e : j = i
    · subst e; rw [hs] at hA; cases hA
    · exact h j (by omega) hA
  · exact Or.inr h

theorem rd_yes {N F : Nat} {A B : Nat → Int} {s0 s : Nat → Bool} {i x : Nat} (h : Rd N F A B s0 s i) (hi : i < F) (hs : s (A i).toNat = true) (hx : (B i).toNat = x) (hxN : x < N) : Rd N F A B s0 (updB s x) (i + 1) := by
  cases e : s x
  · have hc := cntB_upd e N hxN
    rcases h with ⟨rfl, h⟩ | ⟨h1, h2⟩
    · refine Or.inr ⟨fun hcl => ?_, by omega⟩
      have := hcl i hi hs
      rw [hx, e] at this
      cases this
    · exact Or.inr ⟨h1, by omega⟩
  · rw [updB_same e]
    rcases h with ⟨rfl, h⟩ | h
    · refine Or.inl ⟨rfl, fun j hj hA => ?_⟩
      by_cases ej : j = i
      · subst ej; rw [hx]; exact e
      · exact h j (by omega) hA
    · exact Or.inr h

theorem rd_end {N F : Nat} {A B : Nat → Int} {s0 s : Nat → Bool} {r : Nat} (h : Rd N F A B s0 s F) (h0 : Ot N F A B s0 r) : Ot N F A B s (r + 1) := by
  rcases h with ⟨rfl, h⟩ | ⟨h1, h2⟩
  · exact Or.inl h
  · rcases h0 with h0 | h0
    · exact absurd h0 h1
    · exact Or.inr (by omega)

theorem ot_end {N F : Nat} {A B : Nat → Int} {s : Nat → Bool} (h : Ot N F A B s N) : closed F A B s := by
  rcases h with h | h
  · exact h
  · have := cntB_le s N; omega

/-- What is seen can be come to. -/
def Snd (N F : Nat) (K A B : Nat → Int) (s : Nat → Bool) : Prop := ∀ x, s x = true → ∃ k, Wk (fun s => s < N ∧ K s = 1) (fun x y => ∃ i, i < F ∧ A i = x ∧ B i = y) k x

theorem snd_start {N F : Nat} {K A B : Nat → Int} {r : Nat} (hr : r < N) (hK : K r = 1) : Snd N F K A B (updB (fun _ => false) r) := by
  intro x hx
  by_cases e : x = r
  · subst e; exact ⟨0, hr, hK⟩
  · simp [updB, e] at hx

theorem snd_step {N F : Nat} {K A B : Nat → Int} {s : Nat → Bool} {i x y : Nat} (h : Snd N F K A B s) (hi : i < F) (hy : A i = y) (hx : B i = x) (hs : s y = true) : Snd N F K A B (updB s x) := by
  intro z hz
  by_cases e : z = x
  · subst e
    obtain ⟨k, hk⟩ := h y hs
    exact ⟨k + 1, y, hk, i, hi, hy, hx⟩
  · exact h z (by simpa [updB, e] using hz)

theorem seen_end {N F : Nat} {K A B : Nat → Int} {s : Nat → Bool} {r : Nat} (hT : tally K 1 N = 1) (hr : r < N) (hK : K r = 1) (hsr : s r = true) (hc : closed F A B s) (hS : Snd N F K A B s) : hasB N s false = false ↔ allCome N F K A B := by
  have all : ∀ k x, Wk (fun s => s < N ∧ K s = 1) (fun x y => ∃ i, i < F ∧ A i = x ∧ B i = y) k x → s x = true := by
    intro k
    induction k with
    | zero =>
      intro x hx
      rw [tally_uniq hT hx.1 hr hx.2 hK]
      exact hsr
    | succ k ih =>
      intro x hx
      obtain ⟨y, hy, i, hi, h1, h2⟩ := hx
      have := hc i hi (by rw [h1]; exact ih y hy)
      rw [h2] at this
      exact this
  constructor
  · intro h x hx
    refine hS x ?_
    cases e : s x
    · rw [hasB_yes x hx e] at h; cases h
    · rfl
  · intro h
    refine hasB_no (fun i hi => ?_)
    obtain ⟨k, hk⟩ := h i hi
    rw [all k i hk]
    decide

theorem ot_start {N F : Nat} {A B : Nat → Int} {r : Nat} (hr : r < N) : Ot N F A B (updB (fun _ => false) r) 0 := by
  right
  rw [cntB_upd rfl N hr]
  omega

theorem fnd_neg {N : Nat} {M : Nat → ByteArray} {s : ByteArray} {k : Nat} (hk : k < N) (h : ((M k).toList == s.toList) = true) : fnd N M s ≠ -1 := by
  unfold fnd
  split
  · omega
  · rename_i e
    have := List.find?_range_eq_none.1 e k hk
    rw [h] at this
    cases this

/-- The number of the start, if one has been met. -/
def StIs (K : Nat → Int) (k : Nat) (z : Int) : Prop := 0 < tally K 1 k → ∃ r : Nat, z = r ∧ r < k ∧ K r = 1

theorem stIs_hit {K : Nat → Int} {k : Nat} (h : K k = 1) : StIs K (k + 1) k := fun _ => ⟨k, rfl, by omega, h⟩
theorem stIs_miss {K : Nat → Int} {k : Nat} {z : Int} (h : K k ≠ 1) (hs : StIs K k z) : StIs K (k + 1) z := fun hp => by
  rw [tally_miss h] at hp
  obtain ⟨r, h1, h2, h3⟩ := hs hp
  exact ⟨r, h1, by omega, h3⟩

end Go.Proofs.Ytpgodjinbabniaa
