/- The document's Both: what comes again changes no number. Pure. -/
import Derived.Test.YtdncjikmknkkpaaDoorD53
namespace Go.Proofs.YtdncjikmknkkpaaDoor
open Go.RowKit

section
variable {α β : Type} [DecidableEq α] [DecidableEq β]
theorem nAdds_nAdd (l m : List α) (x : α) : nAdds l (nAdd m x) = nAdd (nAdds l m) x := by
  by_cases h : x ∈ m
  · rw [show nAdd m x = m from if_pos h]
    exact (if_pos ((mem_nAdds _ _).2 (Or.inr h))).symm
  · rw [show nAdd m x = m ++ [x] from if_neg h, nAdds_snoc]
theorem nAdds_adds (xs : List α) : ∀ (l m : List α), nAdds l (nAdds m xs) = nAdds (nAdds l m) xs := by
  induction xs with
  | nil => intro l m; rfl
  | cons x xs ih => intro l m; rw [nAdds_cons, ih, nAdds_nAdd, nAdds_cons]
/-- What comes again makes no difference. -/
theorem nAdds_once (l xs : List α) : nAdds l (nAdds [] xs) = nAdds l xs := nAdds_adds xs l []
theorem nAdds_map (f : α → β) (xs : List α) : ∀ (l : List α), (∀ x, x ∈ l ∨ x ∈ xs → ∀ y, y ∈ l ∨ y ∈ xs → f x = f y → x = y) → nAdds (l.map f) (xs.map f) = (nAdds l xs).map f := by
  induction xs with
  | nil => intro l _; rfl
  | cons x xs ih =>
    intro l h
    rw [List.map_cons, nAdds_cons, nAdds_cons]
    have e : nAdd (l.map f) (f x) = (nAdd l x).map f := by
      by_cases hx : x ∈ l
      · rw [show nAdd l x = l from if_pos hx]
        exact if_pos (List.mem_map.2 ⟨x, hx, rfl⟩)
      · rw [show nAdd l x = l ++ [x] from if_neg hx, List.map_append]
        refine if_neg (fun hh => hx ?_)
        obtain ⟨y, hy, e⟩ := List.mem_map.1 hh
        rw [← h y (Or.inl hy) x (Or.inr List.mem_cons_self) e]
        exact hy
    rw [e]
    refine ih _ (fun y hy z hz => h y ?_ z ?_)
    · rcases hy with hy | hy
      · rcases mem_nAdd.1 hy with hy | hy
        · exact Or.inl hy
        · exact Or.inr (by rw [hy]; exact List.mem_cons_self)
      · exact Or.inr (List.mem_cons_of_mem _ hy)
    · rcases hz with hy | hy
      · rcases mem_nAdd.1 hy with hy | hy
        · exact Or.inl hy
        · exact Or.inr (by rw [hy]; exact List.mem_cons_self)
      · exact Or.inr (List.mem_cons_of_mem _ hy)
theorem nRun_same {nx ny : α → List α} (h : ∀ x, nAdds [] (nx x) = nAdds [] (ny x)) : ∀ (f n : Nat) (l : List α), nRun nx f n l = nRun ny f n l
  | 0, _, _ => rfl
  | f + 1, n, l => by
    cases e : l[n]? with
    | none => rw [nRun, nRun, e]
    | some x => rw [nRun_some e, nRun_some e, ← nAdds_once l (nx x), h x, nAdds_once, nRun_same h f]
theorem gQ_same {nx ny : α → List α} {s t : List α} (hs : nAdds [] s = nAdds [] t) (h : ∀ x, nAdds [] (nx x) = nAdds [] (ny x)) (k : Nat) : gQ nx s k = gQ ny t k := by
  unfold gQ nAll
  rw [hs, nRun_same h]
end

theorem ix_inj {L : List (Nat × Nat)} {x y : Nat × Nat} (hx : x ∈ L) (hy : y ∈ L) (e : ix x L = ix y L) : x = y := by
  rw [← nAt_ix hx, e, nAt_ix hy]
/-- A list's numbers are those of what it has, each once. -/
theorem nNums_once {L xs : List (Nat × Nat)} (h : ∀ x ∈ xs, x ∈ L) : nNums L xs = (nAdds [] xs).map fun x => ix x L := by
  unfold nNums
  exact nAdds_map (fun x => ix x L) xs [] (fun x hx y hy e => ix_inj (h x (hx.elim (fun h => by cases h) id)) (h y (hy.elim (fun h => by cases h) id)) e)


theorem snoc_ind {α : Type} {P : List α → Prop} (h0 : P []) (h1 : ∀ l x, P l → P (l ++ [x])) (l : List α) : P l := by
  rw [← List.reverse_reverse l]
  induction l.reverse with
  | nil => exact h0
  | cons x l ih => rw [List.reverse_cons]; exact h1 _ _ ih
theorem nAdds_sub {α : Type} [DecidableEq α] (xs : List α) : ∀ (P : List α), (∀ x ∈ xs, x ∈ P) → nAdds P xs = P := by
  induction xs with
  | nil => intro P _; rfl
  | cons x xs ih =>
    intro P h
    rw [nAdds_cons, show nAdd P x = P from if_pos (h x (List.mem_cons_self ..))]
    exact ih P (fun y hy => h y (List.mem_cons_of_mem _ hy))
theorem crs_one_once (ok : Nat → Nat → Bool) (x : Nat) (P : List (Nat × Nat)) (hP : ∀ y, (x, y) ∉ P) (k : List Nat) : nAdds P (crs ok [x] k) = P ++ crs ok [x] (nAdds [] k) := by
  refine snoc_ind (P := fun k => nAdds P (crs ok [x] k) = P ++ crs ok [x] (nAdds [] k)) ?_ ?_ k
  · simp [crs, nAdds]
  · intro k y ih
    rw [crs_one, nAdds_app, ih, nAdds_snoc]
    by_cases h : ok x y = true
    · rw [if_pos h]
      show nAdd (P ++ crs ok [x] (nAdds [] k)) (x, y) = _
      by_cases hy : y ∈ nAdds [] k
      · rw [show nAdd (nAdds [] k) y = nAdds [] k from if_pos hy]
        exact if_pos (List.mem_append.2 (Or.inr (mem_crs.2 ⟨List.mem_singleton.2 rfl, hy, h⟩)))
      · rw [show nAdd (nAdds [] k) y = nAdds [] k ++ [y] from if_neg hy, crs_one, if_pos h, ← List.append_assoc]
        exact if_neg (fun hm => (List.mem_append.1 hm).elim (hP y) (fun h2 => hy (mem_crs.1 h2).2.1))
    · rw [if_neg h]
      show P ++ crs ok [x] (nAdds [] k) = _
      by_cases hy : y ∈ nAdds [] k
      · rw [show nAdd (nAdds [] k) y = nAdds [] k from if_pos hy]
      · rw [show nAdd (nAdds [] k) y = nAdds [] k ++ [y] from if_neg hy, crs_one, if_neg h, List.append_nil]
theorem crs_once (ok : Nat → Nat → Bool) (l k : List Nat) : nAdds [] (crs ok l k) = crs ok (nAdds [] l) (nAdds [] k) := by
  refine snoc_ind (P := fun l => nAdds [] (crs ok l k) = crs ok (nAdds [] l) (nAdds [] k)) ?_ ?_ l
  · simp [crs, nAdds]
  · intro l x ih
    rw [crs_append, nAdds_app, ih, nAdds_snoc]
    by_cases hx : x ∈ nAdds [] l
    · rw [show nAdd (nAdds [] l) x = nAdds [] l from if_pos hx]
      refine nAdds_sub _ _ (fun p hp => ?_)
      obtain ⟨a, b⟩ := p
      obtain ⟨h1, h2, h3⟩ := mem_crs.1 hp
      rw [List.mem_singleton] at h1
      subst h1
      exact mem_crs.2 ⟨hx, (mem_nAdds _ _).2 (Or.inr h2), h3⟩
    · rw [show nAdd (nAdds [] l) x = nAdds [] l ++ [x] from if_neg hx, crs_append]
      exact crs_one_once ok x _ (fun y hm => hx (mem_crs.1 hm).1) k

theorem dBs_once (A B : Ax) : nAdds [] (dBs A B) = bS A B := crs_once _ _ _
theorem dBx_once (A B : Ax) {p : Nat × Nat} (hp : bP A B p) : nAdds [] (dBx A B p) = bX A B p := by
  unfold dBx bX bNx aNx
  rw [crs_once, if_pos hp.1, if_pos hp.2]
  rfl
theorem dBs_ok {A B : Ax} (hA : chkA A = 0) (hB : chkA B = 0) : ∀ p ∈ dBs A B, bP A B p := fun p hp => by
  refine bP_start hA hB p ?_
  rw [← dBs_once]
  exact (mem_nAdds _ _).2 (Or.inr hp)
theorem dBx_ok {A B : Ax} (hA : chkA A = 0) (hB : chkA B = 0) (p : Nat × Nat) (hp : bP A B p) : ∀ q ∈ dBx A B p, bP A B q := fun q hq => by
  refine bP_next hA hB p hp q ?_
  rw [← dBx_once A B hp]
  exact (mem_nAdds _ _).2 (Or.inr hq)

/-- What a pair leads to, as the document lists it; of others, as the program does. -/
def eBx (A B : Ax) (p : Nat × Nat) : List (Nat × Nat) := if p.1 < A.G ∧ p.2 < B.G then dBx A B p else bX A B p
theorem eBx_is {A B : Ax} {p : Nat × Nat} (hp : bP A B p) : eBx A B p = dBx A B p := if_pos hp
theorem eBx_once (A B : Ax) (p : Nat × Nat) : nAdds [] (eBx A B p) = nAdds [] (bX A B p) := by
  unfold eBx
  split
  · rename_i h
    rw [← dBx_once A B (p := p) h, nAdds_once]
  · rfl
theorem dBs_twice (A B : Ax) : nAdds [] (dBs A B) = nAdds [] (bS A B) := by rw [← dBs_once, nAdds_once]
theorem eQ_is (A B : Ax) (k : Nat) : gQ (eBx A B) (dBs A B) k = bL A B k := gQ_same (dBs_twice A B) (eBx_once A B) k
theorem eBx_ok {A B : Ax} (hA : chkA A = 0) (hB : chkA B = 0) (p : Nat × Nat) (hp : bP A B p) : ∀ q ∈ eBx A B p, bP A B q := by
  rw [eBx_is hp]
  exact dBx_ok hA hB p hp
theorem dBs_nums {A B : Ax} (k : Nat) : nNums (bL A B k) (dBs A B) = (bS A B).map fun p => ix p (bL A B k) := by
  rw [nNums_once (fun x hx => ?_), dBs_once]
  rw [← eQ_is]
  exact nAll_start hx
theorem eBx_nums {A B : Ax} (hA : chkA A = 0) (hB : chkA B = 0) {k i : Nat} (hi : i < k) (h : i < (bL A B k).length) : nNums (bL A B k) (eBx A B (nAt (bL A B k) i)) = (bX A B (nAt (bL A B k) i)).map fun p => ix p (bL A B k) := by
  have hp : bP A B (nAt (bL A B k) i) := bL_all hA hB k _ (nAt_mem h)
  rw [nNums_once (fun x hx => ?_), eBx_is hp, dBx_once A B hp]
  rw [← eQ_is] at h hx ⊢
  exact gQ_mem hi h x hx

end Go.Proofs.YtdncjikmknkkpaaDoor

