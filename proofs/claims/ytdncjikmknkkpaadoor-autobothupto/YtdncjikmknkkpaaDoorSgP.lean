/- What Single answers, apart from memory. -/
import Derived.Test.YtdncjikmknkkpaaDoorGth0J
import Derived.Test.YtdncjikmknkkpaaDoorAcc
namespace Go.Proofs.YtdncjikmknkkpaaDoor
open Go.RowKit

/-- The states of Start, each once; those behind a state; is it in that fair set? -/
def aSt (A : Ax) : List Nat := onN A.S A.sn
def aNx (A : Ax) (x : Nat) : List Nat := if x < A.G then onN (A.Z x) (A.L x) else []
def aFr (A : Ax) (k x : Nat) : Bool := has (A.FL k) (A.FZ k) (x : Int)
def mkPr (p : Nat × Nat) : Pr := (⟨p.1 % 4096, Nat.mod_lt _ (by decide)⟩, ⟨p.2 % 4096, Nat.mod_lt _ (by decide)⟩)
theorem prn_mk {p : Nat × Nat} (h : Sml p) : prn (mkPr p) = p := by
  obtain ⟨a, b⟩ := p
  obtain ⟨h1, h2⟩ := h
  show (a % 4096, b % 4096) = (a, b)
  rw [Nat.mod_eq_of_lt h1, Nat.mod_eq_of_lt h2]
theorem prn_mks {l : List (Nat × Nat)} (h : ∀ p ∈ l, Sml p) : (l.map mkPr).map prn = l := by
  rw [List.map_map]
  conv => rhs; rw [← List.map_id l]
  exact List.map_congr_left (fun p hp => prn_mk (h p hp))

theorem aNx_is {A : Ax} {q : Nat} (hq : q < A.G) : aNx A q = onN (A.Z q) (A.L q) := if_pos hq
theorem aSt_lt {A : Ax} (h : chkA A = 0) {x : Nat} (hx : x ∈ aSt A) : x < A.G := by
  obtain ⟨_, _, _, _, h1, _⟩ := chkA_ok h
  obtain ⟨i, hi, rfl⟩ := mem_onN.1 hx
  have := h1 i hi
  omega
theorem aNx_lt {A : Ax} (h : chkA A = 0) {q x : Nat} (hq : q < A.G) (hx : x ∈ aNx A q) : x < A.G := by
  obtain ⟨_, _, _, _, _, h1, _⟩ := chkA_ok h
  rw [aNx_is hq] at hx
  obtain ⟨i, hi, rfl⟩ := mem_onN.1 hx
  have := h1 q hq i hi
  omega

/-- The numbers of the pairs of which something is so. -/
def whN (P : Nat → Bool) (k : Nat) : List Nat := (List.range k).filter fun i => P i
theorem whN_succ (P : Nat → Bool) (k : Nat) : whN P (k + 1) = if P k = true then whN P k ++ [k] else whN P k := by
  unfold whN
  rw [List.range_succ, List.filter_append]
  by_cases h : P k = true
  · rw [if_pos h]; simp [h]
  · rw [if_neg h]; simp [h]
theorem whN_len (P : Nat → Bool) (k : Nat) : (whN P k).length ≤ k := by
  unfold whN
  have := List.length_filter_le (fun i => P i) (List.range k)
  simpa using this

end Go.Proofs.YtdncjikmknkkpaaDoor

