/- The graph of states and places that the document's Accepts makes, row by row. -/
import Derived.Test.YtdncjikmknkkpaaDoorWay
import Derived.Test.YtdncjikmknkkpaaDoorAcq
import Derived.Test.YtdncjikmknkkpaaDoorFam
namespace Go.Proofs.YtdncjikmknkkpaaDoor

/-- Where one goes from a state at a place, by the first k of its Next. -/
def gk (mm : Nat) (fit : Nat → Nat → Bool) (pn : Nat → Nat) (Z : Nat → Nat → Int) (q p k : Nat) : List Int :=
  if fit q p = true then ((List.range k).filter (fun i => fit (Z q i).toNat (pn p))).map (fun i => Z q i * mm + pn p) else []

section
variable {mm : Nat} {fit : Nat → Nat → Bool} {pn : Nat → Nat} {L : Nat → Nat} {Z : Nat → Nat → Int}

theorem gk_le (q p k : Nat) : (gk mm fit pn Z q p k).length ≤ k := by
  unfold gk
  split
  · rw [List.length_map]
    exact Nat.le_trans (List.length_filter_le _ _) (by simp)
  · exact Nat.zero_le _
theorem gk_zero (q p : Nat) : gk mm fit pn Z q p 0 = [] := by unfold gk; simp
theorem gk_no {q p : Nat} (h : fit q p = false) (k : Nat) : gk mm fit pn Z q p k = [] := by unfold gk; simp [h]
theorem gk_miss {q p k : Nat} (h : fit (Z q k).toNat (pn p) = false) : gk mm fit pn Z q p k = gk mm fit pn Z q p (k + 1) := by
  unfold gk
  rw [List.range_succ, List.filter_append]
  simp [h]
theorem gk_hit {q p k : Nat} (h0 : fit q p = true) (h : fit (Z q k).toNat (pn p) = true) : gk mm fit pn Z q p k ++ [Z q k * mm + pn p] = gk mm fit pn Z q p (k + 1) := by
  unfold gk
  rw [List.range_succ, List.filter_append]
  simp [h0, h]
theorem gk_mem {q p k : Nat} {x : Int} : x ∈ gk mm fit pn Z q p k ↔ fit q p = true ∧ ∃ i, i < k ∧ fit (Z q i).toNat (pn p) = true ∧ x = Z q i * mm + pn p := by
  unfold gk
  by_cases h : fit q p = true
  · rw [if_pos h]
    simp only [List.mem_map, List.mem_filter, List.mem_range, h, true_and]
    constructor
    · rintro ⟨i, ⟨h1, h2⟩, h3⟩; exact ⟨i, h1, h2, h3.symm⟩
    · rintro ⟨i, h1, h2, h3⟩; exact ⟨i, ⟨h1, h2⟩, h3.symm⟩
  · rw [if_neg h]
    simp [h]

/-- The rows, so far as they are made: the places ahead of i, the states ahead of sq there, k of its Next. -/
def gT (mm : Nat) (fit : Nat → Nat → Bool) (pn : Nat → Nat) (L : Nat → Nat) (Z : Nat → Nat → Int) (i sq k j : Nat) : List Int :=
  if j % mm < i then gk mm fit pn Z (j / mm) (j % mm) (L (j / mm)) else if j % mm = i then (if j / mm < sq then gk mm fit pn Z (j / mm) i (L (j / mm)) else if j / mm = sq then gk mm fit pn Z sq i k else []) else []

theorem gT_start (j : Nat) : gT mm fit pn L Z 0 0 0 j = [] := by
  unfold gT
  rw [if_neg (Nat.not_lt_zero _)]
  split
  · rw [if_neg (Nat.not_lt_zero _)]
    split
    · exact gk_zero _ _
    · rfl
  · rfl
theorem cd_mod {q i : Nat} (hi : i < mm) : (q * mm + i) % mm = i ∧ (q * mm + i) / mm = q := by
  constructor
  · rw [Nat.mul_comm, Nat.mul_add_mod, Nat.mod_eq_of_lt hi]
  · rw [Nat.mul_comm, Nat.mul_add_div (by omega), Nat.div_eq_of_lt hi, Nat.add_zero]
theorem cd_eta (j : Nat) : j / mm * mm + j % mm = j := by rw [Nat.mul_comm]; exact Nat.div_add_mod j mm
theorem gT_at {i : Nat} (sq k : Nat) (hi : i < mm) : gT mm fit pn L Z i sq k (sq * mm + i) = gk mm fit pn Z sq i k := by
  unfold gT
  rw [(cd_mod hi).1, (cd_mod hi).2, if_neg (Nat.lt_irrefl _), if_pos rfl, if_neg (Nat.lt_irrefl _), if_pos rfl]
theorem gT_next {i sq k : Nat} (h : gk mm fit pn Z sq i k = gk mm fit pn Z sq i (L sq)) (j : Nat) : gT mm fit pn L Z i sq k j = gT mm fit pn L Z i (sq + 1) 0 j := by
  unfold gT
  by_cases h1 : j % mm < i
  · rw [if_pos h1, if_pos h1]
  · rw [if_neg h1, if_neg h1]
    by_cases h2 : j % mm = i
    · rw [if_pos h2, if_pos h2]
      by_cases h3 : j / mm < sq
      · rw [if_pos h3, if_pos (by omega)]
      · rw [if_neg h3]
        by_cases h4 : j / mm = sq
        · rw [if_pos h4, if_pos (by omega), h4, h]
        · rw [if_neg h4, if_neg (by omega)]
          split
          · rw [gk_zero]
          · rfl
    · rw [if_neg h2, if_neg h2]
theorem gT_row {i n j : Nat} (hj : j < n * mm) : gT mm fit pn L Z i n 0 j = gT mm fit pn L Z (i + 1) 0 0 j := by
  have hq : j / mm < n := Nat.div_lt_of_lt_mul (by rw [Nat.mul_comm]; exact hj)
  unfold gT
  by_cases h1 : j % mm < i
  · rw [if_pos h1, if_pos (by omega)]
  · rw [if_neg h1]
    by_cases h2 : j % mm = i
    · rw [if_pos h2, if_pos hq, if_pos (by omega), h2]
    · rw [if_neg h2, if_neg (by omega)]
      split
      · rw [if_neg (Nat.not_lt_zero _)]
        split
        · rw [gk_zero]
        · rfl
      · rfl
theorem gT_skip {i sq k k' : Nat} (h : gk mm fit pn Z sq i k = gk mm fit pn Z sq i k') (j : Nat) : gT mm fit pn L Z i sq k j = gT mm fit pn L Z i sq k' j := by
  unfold gT
  rw [h]
theorem gT_add {i sq k : Nat} {x : Int} (hi : i < mm) (h : gk mm fit pn Z sq i k ++ [x] = gk mm fit pn Z sq i (k + 1)) (j : Nat) :
    (if j = sq * mm + i then gT mm fit pn L Z i sq k (sq * mm + i) ++ [x] else gT mm fit pn L Z i sq k j) = gT mm fit pn L Z i sq (k + 1) j := by
  by_cases e : j = sq * mm + i
  · rw [if_pos e, e, gT_at sq k hi, gT_at sq (k + 1) hi, h]
  · rw [if_neg e]
    unfold gT
    by_cases h1 : j % mm < i
    · rw [if_pos h1, if_pos h1]
    · rw [if_neg h1, if_neg h1]
      by_cases h2 : j % mm = i
      · rw [if_pos h2, if_pos h2]
        by_cases h4 : j / mm = sq
        · exact absurd (by have := cd_eta (mm := mm) j; rw [h2, h4] at this; exact this.symm) e
        · rw [if_neg h4, if_neg h4]
      · rw [if_neg h2, if_neg h2]
theorem gT_end {j : Nat} (hm : 0 < mm) : gT mm fit pn L Z mm 0 0 j = gk mm fit pn Z (j / mm) (j % mm) (L (j / mm)) := by
  unfold gT
  rw [if_pos (Nat.mod_lt _ hm)]
theorem has_list (l : List Int) (x : Int) : has l.length (fun i => l.getD i 0) x = true ↔ x ∈ l := by
  unfold has
  rw [decide_eq_true_eq]
  constructor
  · rintro ⟨i, hi, rfl⟩
    show l.getD i 0 ∈ l
    rw [List.getD_eq_getElem?_getD, List.getElem?_eq_getElem hi]
    exact List.getElem_mem _
  · intro h
    obtain ⟨i, hi, e⟩ := List.getElem_of_mem h
    exact ⟨i, hi, by show l.getD i 0 = x; rw [List.getD_eq_getElem?_getD, List.getElem?_eq_getElem hi]; exact e⟩
end

/-- May the letter of a place stand at a state? -/
def fitA (A : Ax) (s m : Nat) (S L : Nat → Int) (q p : Nat) : Bool := fts (ltr s m S L p).toNat (A.Mu q) (A.No q)

theorem rac_acc (A : Ax) (s m : Nat) (S' L' : Nat → Int) (hm : 0 < m) (mm N : Nat) (hmm : mm = s + m) (hN : N = A.G * mm) (hin : ∀ r, r < A.G → ∀ i, i < A.L r → 0 ≤ A.Z r i ∧ A.Z r i < A.G) :
    (autA A).Acc (ltr s m S' L') ↔ ∃ q : Nat, has A.sn A.S q = true ∧ q < A.G ∧ fitA A s m S' L' q 0 = true ∧
      FairAt (Ew N (fun j => (gT mm (fitA A s m S' L') (pnx s m) A.L A.Z mm 0 0 j).length) (fun j i => (gT mm (fitA A s m S' L') (pnx s m) A.L A.Z mm 0 0 j).getD i 0)) A.K (fun k j => has (A.FL k) (A.FZ k) (j / mm : Nat) = true) (q * mm) := by
  have hm0 : 0 < mm := by omega
  have hpn : ∀ p, p < mm → pnx s m p < mm := fun p hp => by unfold pnx; split <;> omega
  have hgrid : Grid (autA A) s m (ltr s m S' L') (fun q i => q * mm + i) (Ew N (fun j => (gT mm (fitA A s m S' L') (pnx s m) A.L A.Z mm 0 0 j).length) (fun j i => (gT mm (fitA A s m S' L') (pnx s m) A.L A.Z mm 0 0 j).getD i 0)) (fun k j => has (A.FL k) (A.FZ k) (j / mm : Nat) = true) := by
    refine ⟨fun q i q' i' hi hi' e => ?_, fun q i y hi => ?_, fun k hk q i hi => ?_⟩
    · have h1 := cd_mod (mm := mm) (q := q) (i := i) (by omega)
      have h2 := cd_mod (mm := mm) (q := q') (i := i') (by omega)
      have e' : q * mm + i = q' * mm + i' := e
      rw [e'] at h1
      exact ⟨h1.2.symm.trans h2.2, h1.1.symm.trans h2.1⟩
    · have h1 := cd_mod (mm := mm) (q := q) (i := i) (by omega)
      have hp := hpn i (by omega)
      unfold Ew
      simp only
      rw [has_list, gT_end hm0, h1.1, h1.2, gk_mem]
      constructor
      · rintro ⟨h2, h3, k, h4, h5, h6⟩
        have hq : q < A.G := by
          by_cases hq : q < A.G
          · exact hq
          · have : A.G * mm ≤ q * mm := Nat.mul_le_mul_right _ (by omega)
            omega
        have hz := hin q hq k h4
        obtain ⟨t, ht⟩ : ∃ t : Nat, A.Z q k = t := ⟨(A.Z q k).toNat, by omega⟩
        rw [ht] at h5 h6
        refine ⟨t, ?_, ⟨hq, has_yes k h4 ht⟩, ⟨hq, h3⟩, ⟨by omega, by rw [Int.toNat_natCast] at h5; exact h5⟩⟩
        have e : (y : Int) = ((t * mm + pnx s m i : Nat) : Int) := by rw [h6]; push_cast; rfl
        exact Int.ofNat.inj e
      · rintro ⟨t, rfl, ⟨h2, h3⟩, ⟨_, h4⟩, ⟨h5, h6⟩⟩
        unfold has at h3
        rw [decide_eq_true_eq] at h3
        obtain ⟨k, h7, h8⟩ := h3
        refine ⟨?_, h4, k, h7, by rw [h8, Int.toNat_natCast]; exact h6, by rw [h8]; push_cast; rfl⟩
        have : (q + 1) * mm ≤ A.G * mm := Nat.mul_le_mul_right _ (by omega)
        rw [Nat.add_mul] at this
        omega
    · show has (A.FL k) (A.FZ k) ((q * mm + i) / mm : Nat) = true ↔ has (A.FL k) (A.FZ k) q = true
      rw [(cd_mod (mm := mm) (q := q) (i := i) (by omega)).2]
  rw [grid_acc hm hgrid]
  constructor
  · rintro ⟨q, h1, h2, h3⟩
    exact ⟨q, h1, h2.1, h2.2, h3⟩
  · rintro ⟨q, h1, h2, h3, h4⟩
    exact ⟨q, h1, ⟨h2, h3⟩, h4⟩

end Go.Proofs.YtdncjikmknkkpaaDoor
