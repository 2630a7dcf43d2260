/- Single's pairs with what comes again: the same list, the same numbers. Pure. -/
import Derived.Test.YtdncjikmknkkpaaDns
namespace Go.Proofs.Ytdncjikmknkkpaa
open Go.RowKit

section
variable {α β : Type} [DecidableEq α] [DecidableEq β]
theorem nAdds_nAdd (l m : List α) (x : α) : nAdds l (nAdd m x) = nAdd (nAdds l m) x := by
  by_cases h : x ∈ m
  · rw [show nAdd m x = m from if_pos h]
    exact (if_pos ((mem_nAdds _ _).2 (Or.inr h))).symm
  · rw [show nAdd m x = m ++ [x] from if_neg h, nAdds_snoc]
theorem nAdds_adds (xs : List α) : ∀ (l m : List α), nAdds l (nAdds m xs) = nAdds (nAdds l m) xs := by
  induction xs with
  | nil => intro l m; rfl
  | cons x xs ih => intro l m; rw [nAdds_cons, ih, nAdds_nAdd, nAdds_cons]
/-- What comes again makes no difference. -/
theorem nAdds_once (l xs : List α) : nAdds l (nAdds [] xs) = nAdds l xs := nAdds_adds xs l []
theorem nAdds_map (f : α → β) (xs : List α) : ∀ (l : List α), (∀ x, x ∈ l ∨ x ∈ xs → ∀ y, y ∈ l ∨ y ∈ xs → f x = f y → x = y) → nAdds (l.map f) (xs.map f) = (nAdds l xs).map f := by
  induction xs with
  | nil => intro l _; rfl
  | cons x xs ih =>
    intro l h
    rw [List.map_cons, nAdds_cons, nAdds_cons]
    have e : nAdd (l.map f) (f x) = (nAdd l x).map f := by
      by_cases hx : x ∈ l
      · rw [show nAdd l x = l from if_pos hx]
        exact if_pos (List.mem_map.2 ⟨x, hx, rfl⟩)
      · rw [show nAdd l x = l ++ [x] from if_neg hx, List.map_append]
        refine if_neg (fun hh => hx ?_)
        obtain ⟨y, hy, e⟩ := List.mem_map.1 hh
        rw [← h y (Or.inl hy) x (Or.inr List.mem_cons_self) e]
        exact hy
    rw [e]
    refine ih _ (fun y hy z hz => h y ?_ z ?_)
    · rcases hy with hy | hy
      · rcases mem_nAdd.1 hy with hy | hy
        · exact Or.inl hy
        · exact Or.inr (by rw [hy]; exact List.mem_cons_self)
      · exact Or.inr (List.mem_cons_of_mem _ hy)
    · rcases hz with hy | hy
      · rcases mem_nAdd.1 hy with hy | hy
        · exact Or.inl hy
        · exact Or.inr (by rw [hy]; exact List.mem_cons_self)
      · exact Or.inr (List.mem_cons_of_mem _ hy)
theorem nRun_same {nx ny : α → List α} (h : ∀ x, nAdds [] (nx x) = nAdds [] (ny x)) : ∀ (f n : Nat) (l : List α), nRun nx f n l = nRun ny f n l
  | 0, _, _ => rfl
  | f + 1, n, l => by
    cases e : l[n]? with
    | none => rw [nRun, nRun, e]
    | some x => rw [nRun_some e, nRun_some e, ← nAdds_once l (nx x), h x, nAdds_once, nRun_same h f]
theorem gQ_same {nx ny : α → List α} {s t : List α} (hs : nAdds [] s = nAdds [] t) (h : ∀ x, nAdds [] (nx x) = nAdds [] (ny x)) (k : Nat) : gQ nx s k = gQ ny t k := by
  unfold gQ nAll
  rw [hs, nRun_same h]
end

theorem ix_inj {L : List (Nat × Nat)} {x y : Nat × Nat} (hx : x ∈ L) (hy : y ∈ L) (e : ix x L = ix y L) : x = y := by
  rw [← nAt_ix hx, e, nAt_ix hy]
/-- A list's numbers are those of what it has, each once. -/
theorem nNums_once {L xs : List (Nat × Nat)} (h : ∀ x ∈ xs, x ∈ L) : nNums L xs = (nAdds [] xs).map fun x => ix x L := by
  unfold nNums
  exact nAdds_map (fun x => ix x L) xs [] (fun x hx y hy e => ix_inj (h x (hx.elim (fun h => by cases h) id)) (h y (hy.elim (fun h => by cases h) id)) e)

/-- What a pair leads to, with what comes again. -/
def dNx (A : Ax) (p : Nat × Nat) : List (Nat × Nat) := if p.1 < A.G then (List.range (A.L p.1)).map fun i => ((A.Z p.1 i).toNat, sNo A.K (aFr A) p) else []
def dSt (A : Ax) : List (Nat × Nat) := (List.range A.sn).map fun i => ((A.S i).toNat, 0)

theorem dSt_once (A : Ax) : nAdds [] (dSt A) = sgS A := by
  have e : dSt A = ((List.range A.sn).map fun i => (A.S i).toNat).map fun x => (x, 0) := by unfold dSt; rw [List.map_map]; rfl
  rw [e]
  exact nAdds_map (fun x => (x, 0)) _ [] (fun x _ y _ e => congrArg Prod.fst e)
theorem dNx_once (A : Ax) (p : Nat × Nat) : nAdds [] (dNx A p) = sgX A p := by
  unfold dNx sgX sNx aNx
  by_cases h : p.1 < A.G
  · rw [if_pos h, if_pos h]
    have e : ((List.range (A.L p.1)).map fun i => ((A.Z p.1 i).toNat, sNo A.K (aFr A) p)) = ((List.range (A.L p.1)).map fun i => (A.Z p.1 i).toNat).map fun x => (x, sNo A.K (aFr A) p) := by rw [List.map_map]; rfl
    rw [e]
    exact nAdds_map (fun x => (x, sNo A.K (aFr A) p)) _ [] (fun x _ y _ e => congrArg Prod.fst e)
  · rw [if_neg h, if_neg h]; rfl
theorem nAdds_sgS (A : Ax) : nAdds [] (sgS A) = nAdds [] (dSt A) := by rw [← dSt_once, nAdds_once]
theorem nAdds_sgX (A : Ax) (p : Nat × Nat) : nAdds [] (sgX A p) = nAdds [] (dNx A p) := by rw [← dNx_once, nAdds_once]
theorem dQ_is (A : Ax) (k : Nat) : gQ (dNx A) (dSt A) k = sgL A k := gQ_same (nAdds_sgS A).symm (fun p => (nAdds_sgX A p).symm) k
theorem dSt_nums {A : Ax} (k : Nat) : nNums (sgL A k) (dSt A) = (sgS A).map fun p => ix p (sgL A k) := by
  rw [nNums_once (fun x hx => ?_), dSt_once]
  rw [← dQ_is]
  exact nAll_start hx
theorem dNx_nums {A : Ax} {k i : Nat} (hi : i < k) (h : i < (sgL A k).length) : nNums (sgL A k) (dNx A (nAt (sgL A k) i)) = (sgX A (nAt (sgL A k) i)).map fun p => ix p (sgL A k) := by
  rw [nNums_once (fun x hx => ?_), dNx_once]
  rw [← dQ_is] at h hx ⊢
  exact gQ_mem hi h x hx
theorem dSt_ok {A : Ax} (h : chkA A = 0) : ∀ p ∈ dSt A, sgP A p := fun p hp => by
  refine sgP_start h p ?_
  rw [← dSt_once]
  exact (mem_nAdds _ _).2 (Or.inr hp)
theorem dNx_ok {A : Ax} (h : chkA A = 0) (p : Nat × Nat) (hp : sgP A p) : ∀ q ∈ dNx A p, sgP A q := fun q hq => by
  refine sgP_next h p hp q ?_
  rw [← dNx_once]
  exact (mem_nAdds _ _).2 (Or.inr hq)
theorem dNx_is {A : Ax} {p : Nat × Nat} (hp : p.1 < A.G) : dNx A p = (List.range (A.L p.1)).map fun i => ((A.Z p.1 i).toNat, sNo A.K (aFr A) p) := if_pos hp
theorem dNx_len {A : Ax} {p : Nat × Nat} (hp : p.1 < A.G) : (dNx A p).length = A.L p.1 := by rw [dNx_is hp]; simp
theorem dSt_len (A : Ax) : (dSt A).length = A.sn := by simp [dSt]

end Go.Proofs.Ytdncjikmknkkpaa
