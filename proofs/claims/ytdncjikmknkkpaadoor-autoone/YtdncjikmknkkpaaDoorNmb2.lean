/- The automata of pairs and of one fair set, as they are numbered: pure. -/
import Derived.Test.YtdncjikmknkkpaaDoorNmb
import Derived.Test.YtdncjikmknkkpaaDoorAut
namespace Go.Proofs.YtdncjikmknkkpaaDoor
open Go.RowKit

/-- The pairs of two lists that go together, in order. -/
def crs (ok : Nat → Nat → Bool) (l k : List Nat) : List (Nat × Nat) := l.flatMap fun x => (k.filter fun y => ok x y).map fun y => (x, y)

theorem mem_crs {ok : Nat → Nat → Bool} {l k : List Nat} {x y : Nat} : (x, y) ∈ crs ok l k ↔ x ∈ l ∧ y ∈ k ∧ ok x y = true := by
  unfold crs
  rw [List.mem_flatMap]
  constructor
  · rintro ⟨x', hx, h⟩
    obtain ⟨y', hy, he⟩ := List.mem_map.1 h
    obtain ⟨h1, h2⟩ := List.mem_filter.1 hy
    cases he
    exact ⟨hx, h1, h2⟩
  · rintro ⟨h1, h2, h3⟩
    exact ⟨x, h1, List.mem_map.2 ⟨y, List.mem_filter.2 ⟨h2, h3⟩, rfl⟩⟩

/-- The thing of a number. -/
def nAt (L : List (Nat × Nat)) (i : Nat) : Nat × Nat := L.getD i (0, 0)
theorem nAt_ix {L : List (Nat × Nat)} {x : Nat × Nat} (h : x ∈ L) : nAt L (ix x L) = x := by
  unfold nAt
  rw [List.getD_eq_getElem?_getD, ix_at h]
  rfl
theorem nAt_mem {L : List (Nat × Nat)} {i : Nat} (h : i < L.length) : nAt L i ∈ L := by
  unfold nAt
  rw [List.getD_eq_getElem?_getD, List.getElem?_eq_getElem h]
  exact List.getElem_mem h
/-- A list's numbers are those of its things. -/
theorem nums_at {L xs : List (Nat × Nat)} (h : ∀ x ∈ xs, x ∈ L) {i : Nat} : i ∈ nNums L xs → i < L.length ∧ nAt L i ∈ xs := by
  intro hi
  obtain ⟨x, hx, rfl⟩ := mem_nNums.1 hi
  exact ⟨ix_lt (h x hx), by rw [nAt_ix (h x hx)]; exact hx⟩

/-- What a pair leads to. -/
def bNx (ok : Nat → Nat → Bool) (aN bN : Nat → List Nat) (p : Nat × Nat) : List (Nat × Nat) := crs ok (aN p.1) (bN p.2)

/-- The automaton of pairs, as it is numbered. -/
theorem both_pairs {a b c : Atm} {ok : Nat → Nat → Bool} {aS bS : List Nat} {aN bN : Nat → List Nat} {f : Nat} {L : List (Nat × Nat)} (hL : L = nAll (bNx ok aN bN) f (crs ok aS bS)) (hf : L.length ≤ f)
    (haS : ∀ x, a.st x ↔ x ∈ aS) (hbS : ∀ x, b.st x ↔ x ∈ bS) (haN : ∀ x y, a.nx x y ↔ y ∈ aN x) (hbN : ∀ x y, b.nx x y ↔ y ∈ bN x) (hok : ∀ x y l, a.lt x l → b.lt y l → ok x y = true)
    (hcS : ∀ i, c.st i ↔ i ∈ nNums L (crs ok aS bS)) (hcN : ∀ i j, c.nx i j ↔ i < L.length ∧ j ∈ nNums L (bNx ok aN bN (nAt L i)))
    (hcl : ∀ i l, c.lt i l ↔ (a.lt (nAt L i).1 l ∧ b.lt (nAt L i).2 l)) (hK : c.K = a.K + b.K) (hf1 : ∀ k, k < a.K → ∀ i, i < L.length → (c.fr k i ↔ a.fr k (nAt L i).1)) (hf2 : ∀ k, k < b.K → ∀ i, i < L.length → (c.fr (a.K + k) i ↔ b.fr k (nAt L i).2)) :
    Pairs a b c (nAt L) L.length := by
  have hs : ∀ x ∈ crs ok aS bS, x ∈ L := fun x hx => by rw [hL]; exact nAll_start hx
  have hn : ∀ i, i < L.length → ∀ x ∈ bNx ok aN bN (nAt L i), x ∈ L := fun i hi x hx => by
    have h1 := nAt_mem hi
    rw [hL] at h1 hf ⊢
    exact nAll_next hf h1 (by rw [← hL] at *; exact hx)
  refine ⟨fun i hi => ?_, fun x y l h1 h2 h3 h4 => ?_, fun i j hij => ?_, fun i hi x y l h1 h2 h3 h4 => ?_, hcl, hK, hf1, hf2, fun i hi => ?_, fun i j hij => ?_⟩
  · obtain ⟨_, h2⟩ := nums_at hs ((hcS i).1 hi)
    obtain ⟨h3, h4, _⟩ := mem_crs.1 h2
    exact ⟨(haS _).2 h3, (hbS _).2 h4⟩
  · have hm : (x, y) ∈ crs ok aS bS := mem_crs.2 ⟨(haS x).1 h1, (hbS y).1 h2, hok x y l h3 h4⟩
    exact ⟨ix (x, y) L, ix_lt (hs _ hm), (hcS _).2 (mem_nNums.2 ⟨_, hm, rfl⟩), nAt_ix (hs _ hm)⟩
  · obtain ⟨hi, hj⟩ := (hcN i j).1 hij
    obtain ⟨_, h2⟩ := nums_at (hn i hi) hj
    obtain ⟨h3, h4, _⟩ := mem_crs.1 h2
    exact ⟨(haN _ _).2 h3, (hbN _ _).2 h4⟩
  · have hm : (x, y) ∈ bNx ok aN bN (nAt L i) := mem_crs.2 ⟨(haN _ _).1 h1, (hbN _ _).1 h2, hok x y l h3 h4⟩
    exact ⟨ix (x, y) L, ix_lt (hn i hi _ hm), (hcN _ _).2 ⟨hi, mem_nNums.2 ⟨_, hm, rfl⟩⟩, nAt_ix (hn i hi _ hm)⟩
  · exact (nums_at hs ((hcS i).1 hi)).1
  · obtain ⟨hi, hj⟩ := (hcN i j).1 hij
    exact (nums_at (hn i hi) hj).1

/-- The number of the set that is waited for behind a state. -/
def sNo (K : Nat) (fr : Nat → Nat → Bool) (p : Nat × Nat) : Nat := if 0 < K ∧ fr p.2 p.1 = true then (if p.2 + 1 = K then 0 else p.2 + 1) else p.2
/-- What a state with such a number leads to. -/
def sNx (K : Nat) (fr : Nat → Nat → Bool) (aN : Nat → List Nat) (p : Nat × Nat) : List (Nat × Nat) := (aN p.1).map fun x => (x, sNo K fr p)

/-- The automaton with one fair set, as it is numbered. -/
theorem single_ones {a c : Atm} {aS : List Nat} {aN : Nat → List Nat} {fr : Nat → Nat → Bool} {f : Nat} {L : List (Nat × Nat)} (hL : L = nAll (sNx a.K fr aN) f (aS.map fun x => (x, 0))) (hf : L.length ≤ f)
    (haS : ∀ x, a.st x ↔ x ∈ aS) (haN : ∀ x y, a.nx x y ↔ y ∈ aN x) (hfr : ∀ k x, a.fr k x ↔ fr k x = true)
    (hcS : ∀ i, c.st i ↔ i ∈ nNums L (aS.map fun x => (x, 0))) (hcN : ∀ i j, i < L.length → (c.nx i j ↔ j ∈ nNums L (sNx a.K fr aN (nAt L i))))
    (hcl : ∀ i l, i < L.length → (c.lt i l ↔ a.lt (nAt L i).1 l)) (hK : c.K = 1) (hf1 : ∀ i, i < L.length → (c.fr 0 i ↔ (nAt L i).2 = 0 ∧ (a.K = 0 ∨ a.fr 0 (nAt L i).1))) :
    Ones a c (nAt L) L.length := by
  have hs : ∀ x ∈ aS.map (fun x => (x, 0)), x ∈ L := fun x hx => by rw [hL]; exact nAll_start hx
  have hn : ∀ i, i < L.length → ∀ x ∈ sNx a.K fr aN (nAt L i), x ∈ L := fun i hi x hx => by
    have h1 := nAt_mem hi
    rw [hL] at h1 hf ⊢
    exact nAll_next hf h1 (by rw [← hL] at *; exact hx)
  have hno : ∀ q : Nat × Nat, (a.fr q.2 q.1 ∧ 0 < a.K → sNo a.K fr q = if q.2 + 1 = a.K then 0 else q.2 + 1) ∧ (¬ (a.fr q.2 q.1 ∧ 0 < a.K) → sNo a.K fr q = q.2) := fun q => by
    refine ⟨fun h => ?_, fun h => ?_⟩
    · unfold sNo
      rw [if_pos ⟨h.2, (hfr _ _).1 h.1⟩]
    · unfold sNo
      rw [if_neg (fun hh => h ⟨(hfr _ _).2 hh.2, hh.1⟩)]
  refine ⟨fun i hi => ?_, fun x hx => ?_, fun i j hi hij => ?_, fun i hi x k hx h1 h2 => ?_, fun i l hi => hcl i l hi, hK, hf1⟩
  · obtain ⟨h1, h2⟩ := nums_at hs ((hcS i).1 hi)
    obtain ⟨x, hx, he⟩ := List.mem_map.1 h2
    rw [← he]
    exact ⟨h1, (haS _).2 hx, rfl⟩
  · have hm : (x, 0) ∈ aS.map (fun x => (x, 0)) := List.mem_map.2 ⟨x, (haS x).1 hx, rfl⟩
    exact ⟨ix (x, 0) L, ix_lt (hs _ hm), (hcS _).2 (mem_nNums.2 ⟨_, hm, rfl⟩), nAt_ix (hs _ hm)⟩
  · obtain ⟨h1, h2⟩ := nums_at (hn i hi) ((hcN i j hi).1 hij)
    obtain ⟨x, hx, he⟩ := List.mem_map.1 h2
    rw [← he]
    exact ⟨h1, (haN _ _).2 hx, hno (nAt L i)⟩
  · have hk : k = sNo a.K fr (nAt L i) := by
      by_cases e : a.fr (nAt L i).2 (nAt L i).1 ∧ 0 < a.K
      · rw [h1 e, (hno _).1 e]
      · rw [h2 e, (hno _).2 e]
    have hm : (x, k) ∈ sNx a.K fr aN (nAt L i) := List.mem_map.2 ⟨x, (haN _ _).1 hx, by rw [hk]⟩
    exact ⟨ix (x, k) L, ix_lt (hn i hi _ hm), (hcN _ _ hi).2 (mem_nNums.2 ⟨_, hm, rfl⟩), nAt_ix (hn i hi _ hm)⟩

end Go.Proofs.YtdncjikmknkkpaaDoor
