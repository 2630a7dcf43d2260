/- EMERSON, LEI's set, round by round, apart from memory. -/
import Derived.Test.YtdncjikmknkkpaaDoorRefA
namespace Go.Proofs.YtdncjikmknkkpaaDoor
open Go.RowKit

/-- How many of the first n are false. -/
def cnF (F : Nat → Bool) : Nat → Nat
  | 0 => 0
  | n + 1 => cnF F n + if F n = true then 0 else 1
theorem cnF_le (F : Nat → Bool) : ∀ n, cnF F n ≤ n
  | 0 => Nat.le_refl _
  | n + 1 => by
    have := cnF_le F n
    simp only [cnF]
    split <;> omega
theorem cnF_congr {F G : Nat → Bool} : ∀ {n : Nat}, (∀ i, i < n → F i = G i) → cnF F n = cnF G n
  | 0, _ => rfl
  | n + 1, h => by
    simp only [cnF]
    rw [cnF_congr (fun i hi => h i (by omega)), h n (by omega)]
theorem cnF_mono {F G : Nat → Bool} : ∀ {n : Nat}, (∀ i, i < n → F i = true → G i = true) → cnF G n ≤ cnF F n
  | 0, _ => Nat.le_refl _
  | n + 1, h => by
    simp only [cnF]
    have h1 := cnF_mono (n := n) (fun i hi => h i (by omega))
    by_cases e : F n = true
    · rw [if_pos e, if_pos (h n (by omega) e)]; omega
    · rw [if_neg e]; split <;> omega
theorem cnF_lt {F G : Nat → Bool} : ∀ {n : Nat} (x : Nat), x < n → (∀ i, i < n → F i = true → G i = true) → F x = false → G x = true → cnF G n < cnF F n
  | 0, x, hx, _, _, _ => absurd hx (Nat.not_lt_zero x)
  | n + 1, x, hx, h, h1, h2 => by
    simp only [cnF]
    by_cases e : x = n
    · subst e
      have h3 := cnF_mono (n := x) (fun i hi => h i (by omega))
      rw [if_pos h2, if_neg (by rw [h1]; exact Bool.false_ne_true)]
      omega
    · have h3 := cnF_lt (n := n) x (by omega) (fun i hi => h i (by omega)) h1 h2
      by_cases e2 : F n = true
      · rw [if_pos e2, if_pos (h n (by omega) e2)]; omega
      · rw [if_neg e2]; split <;> omega

/-- A bool as a number. -/
def b2n (b : Bool) : Nat := if b = true then 1 else 0
def boolV (v : Value) : Bool := match v with | .bool b => b | _ => false
/-- What a cell holds. -/
def celF (w : World) (b i : Nat) : Bool := match w.cell? ⟨b, i, none⟩ with | some v => boolV v | none => false
theorem celF_row {w : World} {b n : Nat} {F : Nat → Bool} (h : w.rowIs b 4 n (fun i => .bool (F i))) : cnF (celF w b) n = cnF F n :=
  cnF_congr fun i hi => by unfold celF; rw [h.cell hi]; rfl

/-- Those of the first n that z marks. -/
def Zs (n : Nat) (z : Nat → Bool) (i : Nat) : Prop := i < n ∧ z i = true
/-- All that h marks comes to F within z. -/
def Snd (E : Nat → Nat → Prop) (F : Nat → Prop) (n : Nat) (z h : Nat → Bool) : Prop := ∀ i, i < n → h i = true → ∃ m j, PthZ E (Zs n z) (m + 1) i j ∧ F j
/-- i need not be marked any more. -/
def Cmp (E : Nat → Nat → Prop) (F : Nat → Prop) (n : Nat) (z h : Nat → Bool) (i : Nat) : Prop := i < n → z i = true → ∀ t, E i t → t < n → z t = true → (F t ∨ h t = true) → h i = true

def updB (h : Nat → Bool) (i : Nat) (x : Nat) : Bool := if x = i then true else h x
theorem updB_same (h : Nat → Bool) (i : Nat) : updB h i i = true := if_pos rfl
theorem updB_mono (h : Nat → Bool) (i x : Nat) (e : h x = true) : updB h i x = true := by
  unfold updB
  split
  · rfl
  · exact e

theorem snd_updB {E : Nat → Nat → Prop} {F : Nat → Prop} {n : Nat} {z h : Nat → Bool} (hs : Snd E F n z h) {i t : Nat} (hi : i < n) (hz : z i = true) (he : E i t) (ht : t < n) (hzt : z t = true) (hf : F t ∨ h t = true) : Snd E F n z (updB h i) := by
  intro x hx hh
  by_cases e : x = i
  · subst e
    rcases hf with hf | hf
    · exact ⟨0, t, ⟨⟨hx, hz⟩, t, he, rfl, ht, hzt⟩, hf⟩
    · obtain ⟨m, j, h1, h2⟩ := hs t ht hf
      exact ⟨m + 1, j, ⟨⟨hx, hz⟩, t, he, h1⟩, h2⟩
  · rw [updB, if_neg e] at hh
    exact hs x hx hh

theorem cmp_all {E : Nat → Nat → Prop} {F : Nat → Prop} {n : Nat} {z h : Nat → Bool} (hc : ∀ i, Cmp E F n z h i) : ∀ (m i j : Nat), PthZ E (Zs n z) (m + 1) i j → F j → h i = true
  | 0, i, j, ⟨h1, l, h2, h3, h4⟩, hj => by
    subst h3
    exact hc i h1.1 h1.2 l h2 h4.1 h4.2 (Or.inl hj)
  | m + 1, i, j, ⟨h1, l, h2, h3⟩, hj => by
    have h4 := h3.first
    exact hc i h1.1 h1.2 l h2 h4.1 h4.2 (Or.inr (cmp_all hc m l j h3 hj))

/-- Those marked by both. -/
def zaf (k : Nat) (z h : Nat → Bool) (x : Nat) : Bool := if x < k then z x && h x else z x

/-- What is known ahead of set k: all with a fair way are marked; while nothing was struck off, each set ahead is met within z. -/
structure Kin (E : Nat → Nat → Prop) (K : Nat) (F : Nat → Nat → Prop) (n : Nat) (z : Nat → Bool) (c0 k : Nat) (mo : Bool) : Prop where
  all : ∀ i, FairAt E K F i → Zs n z i
  cl : mo = false → ∀ k', k' < k → ∀ i, Zs n z i → ∃ m j, PthZ E (Zs n z) (m + 1) i j ∧ F k' j
  cnt : c0 + b2n mo ≤ cnF z n

/-- .. while those that were not met are struck off. -/
structure Zin (n : Nat) (z h : Nat → Bool) (c0 k : Nat) (mo0 mo : Bool) : Prop where
  same : mo = false → mo0 = false ∧ ∀ x, x < k → z x = true → h x = true
  cnt : c0 + b2n mo ≤ cnF (zaf k z h) n

theorem zaf_zero (z h : Nat → Bool) (x : Nat) : zaf 0 z h x = z x := if_neg (Nat.not_lt_zero x)
theorem zaf_succ {k : Nat} {z h : Nat → Bool} (x : Nat) : zaf (k + 1) z h x = if x = k then z k && h k else zaf k z h x := by
  unfold zaf
  by_cases e : x = k
  · subst e; rw [if_pos (by omega), if_pos rfl]
  · rw [if_neg e]
    by_cases e2 : x < k
    · rw [if_pos (by omega), if_pos e2]
    · rw [if_neg (by omega), if_neg e2]

theorem zin_start {E : Nat → Nat → Prop} {K : Nat} {F : Nat → Nat → Prop} {n : Nat} {z h : Nat → Bool} {c0 k : Nat} {mo : Bool} (hk : Kin E K F n z c0 k mo) : Zin n z h c0 0 mo mo :=
  ⟨fun e => ⟨e, fun x hx => absurd hx (Nat.not_lt_zero x)⟩, by rw [cnF_congr (G := z) (fun i _ => zaf_zero z h i)]; exact hk.cnt⟩

theorem zin_next {n : Nat} {z h : Nat → Bool} {c0 k : Nat} {mo0 mo : Bool} (hi : Zin n z h c0 k mo0 mo) (hk : k < n) : Zin n z h c0 (k + 1) mo0 (mo || (z k != (z k && h k))) := by
  by_cases e : z k = true ∧ h k = false
  · have e2 : (mo || (z k != (z k && h k))) = true := by rw [e.1, e.2]; cases mo <;> rfl
    refine ⟨fun e3 => (by rw [e2] at e3; cases e3), ?_⟩
    rw [e2]
    have h1 := hi.cnt
    have h2 : cnF (zaf k z h) n < cnF (zaf (k + 1) z h) n := by
      refine cnF_lt k hk (fun i _ hh => ?_) ?_ ?_
      · rw [zaf_succ] at hh
        by_cases e3 : i = k
        · subst e3; rw [zaf, if_neg (by omega)]; exact e.1
        · rwa [if_neg e3] at hh
      · rw [zaf_succ, if_pos rfl, e.1, e.2]; rfl
      · rw [zaf, if_neg (by omega)]; exact e.1
    show c0 + 1 ≤ _
    omega
  · have e2 : (mo || (z k != (z k && h k))) = mo := by
      cases hz : z k <;> cases hh : h k <;> cases mo <;> simp_all
    rw [e2]
    refine ⟨fun e3 => ⟨(hi.same e3).1, fun x hx hz => ?_⟩, ?_⟩
    · by_cases e4 : x = k
      · subst e4
        cases hh : h x
        · exact absurd ⟨hz, hh⟩ e
        · rfl
      · exact (hi.same e3).2 x (by omega) hz
    · rw [cnF_congr (G := zaf k z h)]
      · exact hi.cnt
      · intro i _
        rw [zaf_succ]
        by_cases e4 : i = k
        · subst e4
          rw [if_pos rfl, zaf, if_neg (by omega)]
          cases hz : z i <;> cases hh : h i <;> simp_all
        · rw [if_neg e4]

theorem kin_next {E : Nat → Nat → Prop} {K : Nat} {F : Nat → Nat → Prop} {n : Nat} {z h : Nat → Bool} {c0 k : Nat} {mo0 mo : Bool} (hi : Kin E K F n z c0 k mo0) (hkK : k < K) (hs : Snd E (F k) n z h) (hc : ∀ i, Cmp E (F k) n z h i)
    (hz : Zin n z h c0 n mo0 mo) : Kin E K F n (zaf n z h) c0 (k + 1) mo := by
  refine ⟨fun i hf => ?_, fun e k' hk' i hzi => ?_, hz.cnt⟩
  · have h1 := hi.all i hf
    obtain ⟨m, j, h2, h3⟩ := fair_closed E K F i hf k hkK
    have h4 := cmp_all hc m i j (h2.mono hi.all) h3
    refine ⟨h1.1, ?_⟩
    rw [zaf, if_pos h1.1, h1.2, h4]; rfl
  · obtain ⟨e0, h1⟩ := hz.same e
    have heq : ∀ x, Zs n (zaf n z h) x ↔ Zs n z x := by
      intro x
      constructor
      · rintro ⟨h2, h3⟩
        rw [zaf, if_pos h2, Bool.and_eq_true] at h3
        exact ⟨h2, h3.1⟩
      · rintro ⟨h2, h3⟩
        refine ⟨h2, ?_⟩
        rw [zaf, if_pos h2, h3, h1 x h2 h3]; rfl
    have hzi' := (heq i).1 hzi
    by_cases e1 : k' = k
    · subst e1
      obtain ⟨m, j, h2, h3⟩ := hs i hzi'.1 (h1 i hzi'.1 hzi'.2)
      exact ⟨m, j, h2.mono (fun x hx => (heq x).2 hx), h3⟩
    · obtain ⟨m, j, h2, h3⟩ := hi.cl e0 k' (by omega) i hzi'
      exact ⟨m, j, h2.mono (fun x hx => (heq x).2 hx), h3⟩

theorem kin_done {E : Nat → Nat → Prop} {K : Nat} {F : Nat → Nat → Prop} {n : Nat} {z : Nat → Bool} {c0 : Nat} (hi : Kin E K F n z c0 K false) (hK : 0 < K) (i : Nat) (hin : i < n) : z i = true ↔ FairAt E K F i := by
  have h1 := closed_fair hK (Z := Zs n z) (fun i hi' k hk => hi.cl rfl k hk i hi') hi.all i
  rw [← h1]
  exact ⟨fun e => ⟨hin, e⟩, fun e => e.2⟩

/-- The goings of a graph of lists. -/
def Ew (n : Nat) (L : Nat → Nat) (Z : Nat → Nat → Int) (i t : Nat) : Prop := i < n ∧ has (L i) (Z i) t = true

theorem kin_start {n K : Nat} {L : Nat → Nat} {Z : Nat → Nat → Int} {F : Nat → Nat → Prop} {z : Nat → Bool} (hz : ∀ i, i < n → z i = true) : ∀ i, FairAt (Ew n L Z) K F i → Zs n z i := by
  rintro i ⟨p, rfl, hp, _⟩
  have := (hp 0).1
  exact ⟨this, hz _ this⟩

theorem fair_none' {n : Nat} {L : Nat → Nat} {Z : Nat → Nat → Int} {F G : Nat → Nat → Prop} (hG : ∀ i, i < n → G 0 i) (i : Nat) : FairAt (Ew n L Z) 0 F i ↔ FairAt (Ew n L Z) 1 G i := by
  constructor
  · rintro ⟨p, h1, h2, _⟩
    refine ⟨p, h1, h2, fun k hk j => ⟨j, Nat.le_refl _, ?_⟩⟩
    obtain rfl : k = 0 := by omega
    exact hG _ (h2 j).1
  · rintro ⟨p, h1, h2, _⟩
    exact ⟨p, h1, h2, fun k hk => absurd hk (Nat.not_lt_zero k)⟩

/-- Lists of bools. -/
def Sets (w : World) (sa : Option Addr) (K n : Nat) (sf : Nat → Nat → Bool) : Prop :=
  ∃ b o, (0 < K → sa = some ⟨b, o, none⟩) ∧ ∀ k, k < K → ∃ a c, w.cell? ⟨b, o + k, none⟩ = some (.slice a n c) ∧ RowB w a n (sf k)
theorem Sets.below {w w' : World} {sa : Option Addr} {K n : Nat} {sf : Nat → Nat → Bool} (h : Sets w sa K n sf) (hb : Below w.heap.size w w') : Sets w' sa K n sf := by
  obtain ⟨b, o, h1, h2⟩ := h
  refine ⟨b, o, h1, fun k hk => ?_⟩
  obtain ⟨a, c, h3, h4⟩ := h2 k hk
  exact ⟨a, c, below_cell hb (Nat.le_refl _) h3, h4.below hb⟩

/-- What Ways answers. -/
def WyIs (w : World) (n : Nat) (L : Nat → Nat) (Z : Nat → Nat → Int) (K : Nat) (sf : Nat → Nat → Bool) (e : Ending) (w' : World) : Prop :=
  ∃ z : Nat → Bool, e = .returned (.slice (some ⟨w.heap.size, 0, none⟩) n n) ∧ w'.rowIs w.heap.size 4 n (fun i => .bool (z i)) ∧ (∀ i, i < n → (z i = true ↔ FairAt (Ew n L Z) K (fun k i => sf k i = true) i)) ∧ Below w.heap.size w w'

end Go.Proofs.YtdncjikmknkkpaaDoor
