/- Automata of words, apart from memory: rows of states; pairs; one fair set; the graph of states and places. -/
import Derived.Test.YtdncjikmknkkpaaDoorFai
import Derived.Test.YtdncjikmknkkpaaDoorLst
namespace Go.Proofs.YtdncjikmknkkpaaDoor

/-- An automaton: where it may begin, where it goes on, which letters may stand at a state, its fair sets. -/
structure Atm where
  st : Nat → Prop
  nx : Nat → Nat → Prop
  lt : Nat → Int → Prop
  K : Nat
  fr : Nat → Nat → Prop

/-- r is a row of states for a word. -/
structure Atm.Run (a : Atm) (o : Nat → Int) (r : Nat → Nat) : Prop where
  st : a.st (r 0)
  nx : ∀ j, a.nx (r j) (r (j + 1))
  lt : ∀ j, a.lt (r j) (o j)
  fr : ∀ k, k < a.K → Oft (a.fr k) r

def Atm.Acc (a : Atm) (o : Nat → Int) : Prop := ∃ r, a.Run o r

/-- c is the automaton of pairs of a and b, numbered by p. -/
structure Pairs (a b c : Atm) (p : Nat → Nat × Nat) (N : Nat) : Prop where
  st1 : ∀ i, c.st i → a.st (p i).1 ∧ b.st (p i).2
  st2 : ∀ x y l, a.st x → b.st y → a.lt x l → b.lt y l → ∃ i, i < N ∧ c.st i ∧ p i = (x, y)
  nx1 : ∀ i j, c.nx i j → a.nx (p i).1 (p j).1 ∧ b.nx (p i).2 (p j).2
  nx2 : ∀ i, i < N → ∀ x y l, a.nx (p i).1 x → b.nx (p i).2 y → a.lt x l → b.lt y l → ∃ j, j < N ∧ c.nx i j ∧ p j = (x, y)
  lt : ∀ i l, c.lt i l ↔ (a.lt (p i).1 l ∧ b.lt (p i).2 l)
  K : c.K = a.K + b.K
  fr1 : ∀ k, k < a.K → ∀ i, i < N → (c.fr k i ↔ a.fr k (p i).1)
  fr2 : ∀ k, k < b.K → ∀ i, i < N → (c.fr (a.K + k) i ↔ b.fr k (p i).2)
  big : ∀ i, c.st i → i < N
  bigx : ∀ i j, c.nx i j → j < N

theorem run_big {a b c : Atm} {p : Nat → Nat × Nat} {N : Nat} (h : Pairs a b c p N) {o : Nat → Int} {r : Nat → Nat} (hr : c.Run o r) (j : Nat) : r j < N := by
  cases j with
  | zero => exact h.big _ hr.st
  | succ j => exact h.bigx _ _ (hr.nx j)

theorem pairs_acc {a b c : Atm} {p : Nat → Nat × Nat} {N : Nat} (h : Pairs a b c p N) (o : Nat → Int) : c.Acc o ↔ (a.Acc o ∧ b.Acc o) := by
  constructor
  · rintro ⟨r, hr⟩
    have hb := run_big h hr
    refine ⟨⟨fun j => (p (r j)).1, (h.st1 _ hr.st).1, fun j => (h.nx1 _ _ (hr.nx j)).1, fun j => ((h.lt _ _).1 (hr.lt j)).1, fun k hk j => ?_⟩, ⟨fun j => (p (r j)).2, (h.st1 _ hr.st).2, fun j => (h.nx1 _ _ (hr.nx j)).2, fun j => ((h.lt _ _).1 (hr.lt j)).2, fun k hk j => ?_⟩⟩
    · obtain ⟨l, h1, h2⟩ := hr.fr k (by rw [h.K]; omega) j
      exact ⟨l, h1, (h.fr1 k hk _ (hb l)).1 h2⟩
    · obtain ⟨l, h1, h2⟩ := hr.fr (a.K + k) (by rw [h.K]; omega) j
      exact ⟨l, h1, (h.fr2 k hk _ (hb l)).1 h2⟩
  · rintro ⟨⟨x, hx⟩, ⟨y, hy⟩⟩
    -- a row of numbers, one behind the other
    have hstep : ∀ s : Nat × Nat, ∃ i : Nat, s.1 < N → p s.1 = (x s.2, y s.2) → (i < N ∧ c.nx s.1 i ∧ p i = (x (s.2 + 1), y (s.2 + 1))) := by
      rintro ⟨i, j⟩
      by_cases hi : i < N ∧ p i = (x j, y j)
      · obtain ⟨q, h1, h2, h3⟩ := h.nx2 i hi.1 (x (j + 1)) (y (j + 1)) (o (j + 1)) (by rw [hi.2]; exact hx.nx j) (by rw [hi.2]; exact hy.nx j) (hx.lt _) (hy.lt _)
        exact ⟨q, fun _ _ => ⟨h1, h2, h3⟩⟩
      · exact ⟨0, fun h1 h2 => absurd ⟨h1, h2⟩ hi⟩
    obtain ⟨f, hf⟩ := Classical.axiomOfChoice hstep
    obtain ⟨i0, h1, h2, h3⟩ := h.st2 (x 0) (y 0) (o 0) hx.st hy.st (hx.lt 0) (hy.lt 0)
    obtain ⟨r, hr0, hrs⟩ : ∃ r : Nat → Nat, r 0 = i0 ∧ ∀ j, r (j + 1) = f (r j, j) := ⟨fun j => Nat.rec i0 (fun j i => f (i, j)) j, rfl, fun _ => rfl⟩
    have hp : ∀ j, r j < N ∧ p (r j) = (x j, y j) := by
      intro j
      induction j with
      | zero => rw [hr0]; exact ⟨h1, h3⟩
      | succ j ih =>
        have := hf (r j, j) ih.1 ih.2
        rw [hrs]; exact ⟨this.1, this.2.2⟩
    refine ⟨r, by rw [hr0]; exact h2, fun j => ?_, fun j => ?_, fun k hk j => ?_⟩
    · rw [hrs]; exact (hf (r j, j) (hp j).1 (hp j).2).2.1
    · rw [h.lt, (hp j).2]; exact ⟨hx.lt j, hy.lt j⟩
    · rw [h.K] at hk
      by_cases hka : k < a.K
      · obtain ⟨l, h4, h5⟩ := hx.fr k hka j
        exact ⟨l, h4, (h.fr1 k hka _ (hp l).1).2 (by rw [(hp l).2]; exact h5)⟩
      · obtain ⟨l, h4, h5⟩ := hy.fr (k - a.K) (by omega) j
        refine ⟨l, h4, ?_⟩
        have := (h.fr2 (k - a.K) (by omega) _ (hp l).1).2 (by rw [(hp l).2]; exact h5)
        rwa [show a.K + (k - a.K) = k by omega] at this

/-- c is a with just one fair set: pairs of a state and the set that is waited for, numbered by p. -/
structure Ones (a c : Atm) (p : Nat → Nat × Nat) (N : Nat) : Prop where
  st1 : ∀ i, c.st i → i < N ∧ a.st (p i).1 ∧ (p i).2 = 0
  st2 : ∀ x, a.st x → ∃ i, i < N ∧ c.st i ∧ p i = (x, 0)
  nx1 : ∀ i j, i < N → c.nx i j → j < N ∧ a.nx (p i).1 (p j).1 ∧ ((a.fr (p i).2 (p i).1 ∧ 0 < a.K → (p j).2 = if (p i).2 + 1 = a.K then 0 else (p i).2 + 1) ∧ (¬ (a.fr (p i).2 (p i).1 ∧ 0 < a.K) → (p j).2 = (p i).2))
  nx2 : ∀ i, i < N → ∀ x k, a.nx (p i).1 x → (a.fr (p i).2 (p i).1 ∧ 0 < a.K → k = if (p i).2 + 1 = a.K then 0 else (p i).2 + 1) → (¬ (a.fr (p i).2 (p i).1 ∧ 0 < a.K) → k = (p i).2) → ∃ j, j < N ∧ c.nx i j ∧ p j = (x, k)
  lt : ∀ i l, i < N → (c.lt i l ↔ a.lt (p i).1 l)
  K : c.K = 1
  fr : ∀ i, i < N → (c.fr 0 i ↔ (p i).2 = 0 ∧ (a.K = 0 ∨ a.fr 0 (p i).1))

/-- A counter that waits for one set after the other goes round again and again just if each is met again and again. -/
theorem count_round {K : Nat} {F : Nat → Nat → Prop} {x k : Nat → Nat} (hK : 0 < K) (h0 : k 0 = 0) (h1 : ∀ j, F (k j) (x j) → k (j + 1) = if k j + 1 = K then 0 else k j + 1) (h2 : ∀ j, ¬ F (k j) (x j) → k (j + 1) = k j) :
    (∀ j, ∃ l, j ≤ l ∧ k l = 0 ∧ F 0 (x l)) ↔ ∀ i, i < K → ∀ j, ∃ l, j ≤ l ∧ F i (x l) := by
  have hk : ∀ j, k j < K := by
    intro j
    induction j with
    | zero => omega
    | succ j ih =>
      by_cases h : F (k j) (x j)
      · rw [h1 j h]
        split <;> omega
      · rw [h2 j h]; exact ih
  -- while it is not met the counter stays
  have stay : ∀ d j, (∀ l, j ≤ l → l < j + d → ¬ F (k j) (x l)) → k (j + d) = k j := by
    intro d
    induction d with
    | zero => intro j _; rfl
    | succ d ih =>
      intro j hn
      have e := ih j (fun l a b => hn l a (by omega))
      have := h2 (j + d) (by rw [e]; exact hn _ (by omega) (by omega))
      rw [← Nat.add_assoc, this, e]
  -- the next time
  have hit : ∀ j l, j ≤ l → F (k j) (x l) → ∃ q, j ≤ q ∧ k q = k j ∧ F (k j) (x q) ∧ q ≤ l := by
    intro j l hl hF
    induction l using Nat.strongRecOn with
    | ind l ih =>
      by_cases e : ∃ q, j ≤ q ∧ q < l ∧ F (k j) (x q)
      · obtain ⟨q, a, b, c⟩ := e
        obtain ⟨q', a', b', c', d'⟩ := ih q b a c
        exact ⟨q', a', b', c', by omega⟩
      · refine ⟨l, hl, ?_, hF, Nat.le_refl _⟩
        have := stay (l - j) j (fun q a b hq => e ⟨q, a, by omega, hq⟩)
        rwa [show j + (l - j) = l by omega] at this
  constructor
  · intro hz
    -- between two times at 0 each set is met
    have wait : ∀ i, i < K → ∀ j, ∃ l, j ≤ l ∧ k l = i ∧ F i (x l) := by
      intro i
      induction i with
      | zero => intro _ j; exact hz j
      | succ i ih =>
        intro hi j
        obtain ⟨l, a, b, c⟩ := ih (by omega) j
        have e1 : k (l + 1) = i + 1 := by rw [h1 l (by rw [b]; exact c), b, if_neg (by omega)]
        -- it comes to 0 again, so it must leave i + 1
        obtain ⟨l2, a2, b2, _⟩ := hz (l + 1)
        have : ∃ q, l + 1 ≤ q ∧ F (k (l + 1)) (x q) := by
          refine Classical.byContradiction fun hno => ?_
          have := stay (l2 - (l + 1)) (l + 1) (fun q a _ hq => hno ⟨q, a, hq⟩)
          rw [show l + 1 + (l2 - (l + 1)) = l2 by omega, b2, e1] at this
          omega
        obtain ⟨q, a3, b3⟩ := this
        obtain ⟨q', a4, b4, c4, _⟩ := hit (l + 1) q a3 b3
        rw [e1] at b4 c4
        exact ⟨q', by omega, b4, c4⟩
    intro i hi j
    obtain ⟨l, a, _, c⟩ := wait i hi j
    exact ⟨l, a, c⟩
  · intro hall
    -- the counter goes on again and again
    have on : ∀ j, ∃ q, j ≤ q ∧ k q = k j ∧ F (k j) (x q) := fun j => by
      obtain ⟨l, a, b⟩ := hall (k j) (hk j) j
      obtain ⟨q, a', b', c', _⟩ := hit j l a b
      exact ⟨q, a', b', c'⟩
    have zero : ∀ d j, K - k j = d → ∃ l, j ≤ l ∧ k l = 0 := by
      intro d
      induction d using Nat.strongRecOn with
      | ind d ih =>
        intro j hd
        by_cases e : k j = 0
        · exact ⟨j, Nat.le_refl _, e⟩
        · obtain ⟨q, a, b, c⟩ := on j
          have e1 := h1 q (by rw [b]; exact c)
          rw [b] at e1
          by_cases e2 : k j + 1 = K
          · rw [if_pos e2] at e1
            exact ⟨q + 1, by omega, e1⟩
          · rw [if_neg e2] at e1
            have hlt := hk j
            obtain ⟨l, a2, b2⟩ := ih (K - k (q + 1)) (by omega) (q + 1) rfl
            exact ⟨l, by omega, b2⟩
    intro j
    obtain ⟨l, a, b⟩ := zero _ j rfl
    obtain ⟨q, a2, b2, c2⟩ := on l
    rw [b] at b2 c2
    exact ⟨q, by omega, b2, c2⟩

theorem ones_acc {a c : Atm} {p : Nat → Nat × Nat} {N : Nat} (h : Ones a c p N) (o : Nat → Int) : c.Acc o ↔ a.Acc o := by
  constructor
  · rintro ⟨r, hr⟩
    have hb : ∀ j, r j < N := by
      intro j
      induction j with
      | zero => exact (h.st1 _ hr.st).1
      | succ j ih => exact (h.nx1 _ _ ih (hr.nx j)).1
    refine ⟨fun j => (p (r j)).1, (h.st1 _ hr.st).2.1, fun j => (h.nx1 _ _ (hb j) (hr.nx j)).2.1, fun j => (h.lt _ _ (hb j)).1 (hr.lt j), fun i hi j => ?_⟩
    have hK : 0 < a.K := by omega
    have := (count_round (F := a.fr) (x := fun j => (p (r j)).1) (k := fun j => (p (r j)).2) hK (h.st1 _ hr.st).2.2 (fun j hj => (h.nx1 _ _ (hb j) (hr.nx j)).2.2.1 ⟨hj, hK⟩) (fun j hj => (h.nx1 _ _ (hb j) (hr.nx j)).2.2.2 (fun hh => hj hh.1))).1 (fun j => by
      obtain ⟨l, h1, h2⟩ := hr.fr 0 (by rw [h.K]; omega) j
      have h3 := (h.fr _ (hb l)).1 h2
      exact ⟨l, h1, h3.1, h3.2.resolve_left (by omega)⟩) i hi j
    exact this
  · rintro ⟨x, hx⟩
    have hstep : ∀ s : Nat × Nat, ∃ i : Nat, s.1 < N → (p s.1).1 = x s.2 → (i < N ∧ c.nx s.1 i ∧ (p i).1 = x (s.2 + 1)) := by
      rintro ⟨i, j⟩
      by_cases hi : i < N ∧ (p i).1 = x j
      · by_cases hf : a.fr (p i).2 (p i).1 ∧ 0 < a.K
        · obtain ⟨q, h1, h2, h3⟩ := h.nx2 i hi.1 (x (j + 1)) (if (p i).2 + 1 = a.K then 0 else (p i).2 + 1) (by rw [hi.2]; exact hx.nx j) (fun _ => rfl) (fun hh => absurd hf hh)
          exact ⟨q, fun _ _ => ⟨h1, h2, by rw [h3]⟩⟩
        · obtain ⟨q, h1, h2, h3⟩ := h.nx2 i hi.1 (x (j + 1)) (p i).2 (by rw [hi.2]; exact hx.nx j) (fun hh => absurd hh hf) (fun _ => rfl)
          exact ⟨q, fun _ _ => ⟨h1, h2, by rw [h3]⟩⟩
      · exact ⟨0, fun h1 h2 => absurd ⟨h1, h2⟩ hi⟩
    obtain ⟨f, hf⟩ := Classical.axiomOfChoice hstep
    obtain ⟨i0, h1, h2, h3⟩ := h.st2 (x 0) hx.st
    obtain ⟨r, hr0, hrs⟩ : ∃ r : Nat → Nat, r 0 = i0 ∧ ∀ j, r (j + 1) = f (r j, j) := ⟨fun j => Nat.rec i0 (fun j i => f (i, j)) j, rfl, fun _ => rfl⟩
    have hp : ∀ j, r j < N ∧ (p (r j)).1 = x j := by
      intro j
      induction j with
      | zero => rw [hr0, h3]; exact ⟨h1, rfl⟩
      | succ j ih =>
        have := hf (r j, j) ih.1 ih.2
        rw [hrs]; exact ⟨this.1, this.2.2⟩
    have hnx : ∀ j, c.nx (r j) (r (j + 1)) := fun j => by rw [hrs]; exact (hf (r j, j) (hp j).1 (hp j).2).2.1
    refine ⟨r, by rw [hr0]; exact h2, hnx, fun j => by rw [h.lt _ _ (hp j).1, (hp j).2]; exact hx.lt j, fun k hk => ?_⟩
    rw [h.K] at hk
    obtain rfl : k = 0 := by omega
    by_cases hK : 0 < a.K
    · have := (count_round (F := a.fr) (x := x) (k := fun j => (p (r j)).2) hK (by show (p (r 0)).2 = 0; rw [hr0, h3]) (fun j hj => (h.nx1 _ _ (hp j).1 (hnx j)).2.2.1 ⟨by rw [(hp j).2]; exact hj, hK⟩) (fun j hj => (h.nx1 _ _ (hp j).1 (hnx j)).2.2.2 (fun hh => hj (by rw [(hp j).2] at hh; exact hh.1)))).2 (fun i hi => hx.fr i hi)
      intro j
      obtain ⟨l, a1, b1, c1⟩ := this j
      exact ⟨l, a1, (h.fr _ (hp l).1).2 ⟨b1, Or.inr (by rw [(hp l).2]; exact c1)⟩⟩
    · intro j
      have hz : ∀ j, (p (r j)).2 = 0 := by
        intro j
        induction j with
        | zero => rw [hr0, h3]
        | succ j ih => rw [(h.nx1 _ _ (hp j).1 (hnx j)).2.2.2 (fun hh => hK hh.2), ih]
      exact ⟨j, Nat.le_refl _, (h.fr _ (hp j).1).2 ⟨hz j, Or.inl (by omega)⟩⟩

/-- The place behind a place of a word. -/
def pnx (s m i : Nat) : Nat := if i + 1 < s + m then i + 1 else s
/-- The place of the word that stands for a far one. -/
def pat (s m j : Nat) : Nat := if j < s then j else s + (j - s) % m

theorem pat_lt {s m : Nat} (hm : 0 < m) (j : Nat) : pat s m j < s + m := by
  unfold pat
  have := Nat.mod_lt (j - s) hm
  split <;> omega
theorem pat_zero {s m : Nat} : pat s m 0 = 0 := by
  unfold pat
  by_cases h : 0 < s
  · rw [if_pos h]
  · rw [if_neg h, show 0 - s = 0 by omega, Nat.zero_mod]; omega
theorem pat_next {s m : Nat} (hm : 0 < m) (j : Nat) : pat s m (j + 1) = pnx s m (pat s m j) := by
  unfold pat pnx
  by_cases h : j + 1 < s
  · rw [if_pos h, if_pos (show j < s by omega), if_pos (by omega)]
  · rw [if_neg h]
    by_cases h2 : j < s
    · have e : s = j + 1 := by omega
      rw [if_pos h2, if_pos (by omega), e, Nat.sub_self, Nat.zero_mod, Nat.add_zero]
    · have hlt := Nat.mod_lt (j - s) hm
      rw [if_neg h2, show j + 1 - s = (j - s) + 1 by omega]
      by_cases h3 : (j - s) % m + 1 < m
      · have e : (j - s + 1) % m = (j - s) % m + 1 := by rw [Nat.add_mod, Nat.mod_eq_of_lt (a := 1) (by omega), Nat.mod_eq_of_lt h3]
        rw [if_pos (by omega), e]; omega
      · have e : (j - s + 1) % m = 0 := by
          by_cases h1 : m = 1
          · rw [h1, Nat.mod_one]
          · rw [Nat.add_mod, Nat.mod_eq_of_lt (a := 1) (by omega), show (j - s) % m + 1 = m by omega, Nat.mod_self]
        rw [if_neg (by omega), e, Nat.add_zero]
theorem ltr_pat {s m : Nat} {S L : Nat → Int} (hm : 0 < m) (j : Nat) : ltr s m S L (pat s m j) = ltr s m S L j := by
  unfold pat
  by_cases h : j < s
  · rw [if_pos h]
  · rw [if_neg h, ltr_loop (Nat.mod_lt _ hm), ltr_far (by omega)]

/-- The graph of states and places: E goes from a state at a place to a state at the next one, if both letters may stand there. -/
structure Grid (a : Atm) (s m : Nat) (o : Nat → Int) (enc : Nat → Nat → Nat) (E : Nat → Nat → Prop) (F : Nat → Nat → Prop) : Prop where
  inj : ∀ q i q' i', i < s + m → i' < s + m → enc q i = enc q' i' → q = q' ∧ i = i'
  edge : ∀ q i y, i < s + m → (E (enc q i) y ↔ ∃ q', y = enc q' (pnx s m i) ∧ a.nx q q' ∧ a.lt q (o i) ∧ a.lt q' (o (pnx s m i)))
  fair : ∀ k, k < a.K → ∀ q i, i < s + m → (F k (enc q i) ↔ a.fr k q)

theorem grid_acc {a : Atm} {s m : Nat} {S L : Nat → Int} (hm : 0 < m) {enc : Nat → Nat → Nat} {E F : Nat → Nat → Prop} (h : Grid a s m (ltr s m S L) enc E F) : a.Acc (ltr s m S L) ↔ ∃ q, a.st q ∧ a.lt q (ltr s m S L 0) ∧ FairAt E a.K F (enc q 0) := by
  constructor
  · rintro ⟨r, hr⟩
    refine ⟨r 0, hr.st, hr.lt 0, fun j => enc (r j) (pat s m j), by show enc (r 0) (pat s m 0) = enc (r 0) 0; rw [pat_zero], fun j => ?_, fun k hk j => ?_⟩
    · show E (enc (r j) (pat s m j)) (enc (r (j + 1)) (pat s m (j + 1)))
      rw [h.edge _ _ _ (pat_lt hm j), pat_next hm]
      refine ⟨r (j + 1), rfl, hr.nx j, by rw [ltr_pat hm]; exact hr.lt j, ?_⟩
      rw [← pat_next hm, ltr_pat hm]; exact hr.lt (j + 1)
    · obtain ⟨l, h1, h2⟩ := hr.fr k hk j
      exact ⟨l, h1, (h.fair k hk _ _ (pat_lt hm l)).2 h2⟩
  · rintro ⟨q, hq, hl, p, hp0, hp, hF⟩
    have hsp : ∀ j, ∃ x, p j = enc x (pat s m j) ∧ a.lt x (ltr s m S L j) := by
      intro j
      induction j with
      | zero => exact ⟨q, by rw [hp0, pat_zero], hl⟩
      | succ j ih =>
        obtain ⟨x, hx, _⟩ := ih
        have := hp j
        rw [hx, h.edge _ _ _ (pat_lt hm j)] at this
        obtain ⟨y, h1, _, _, h4⟩ := this
        rw [← pat_next hm] at h1 h4
        rw [ltr_pat hm] at h4
        exact ⟨y, h1, h4⟩
    obtain ⟨x, hx⟩ := Classical.axiomOfChoice hsp
    have hlt := pat_lt (s := s) hm
    refine ⟨x, ?_, fun j => ?_, fun j => (hx j).2, fun k hk j => ?_⟩
    · have e := (hx 0).1
      rw [hp0] at e
      have h0 : 0 < s + m := by omega
      rw [← (h.inj _ _ _ _ h0 (hlt 0) e).1]; exact hq
    · have := hp j
      rw [(hx j).1, h.edge _ _ _ (hlt j)] at this
      obtain ⟨y, h1, h2, _, _⟩ := this
      have e := (hx (j + 1)).1.symm.trans h1
      rw [pat_next hm] at e
      have hl2 := hlt (j + 1)
      rw [pat_next hm] at hl2
      rw [(h.inj _ _ _ _ hl2 hl2 e).1]; exact h2
    · obtain ⟨l, h1, h2⟩ := hF k hk j
      rw [(hx l).1, h.fair k hk _ _ (hlt l)] at h2
      exact ⟨l, h1, h2⟩

end Go.Proofs.YtdncjikmknkkpaaDoor
