/- What Single answers, apart from memory. -/
import Derived.Test.YtdncjikmknkkpaaDoorGth0J
import Derived.Test.YtdncjikmknkkpaaDoorAcc
namespace Go.Proofs.YtdncjikmknkkpaaDoor
open Go.RowKit

/-- The states of Start, each once; those behind a state; is it in that fair set? -/
def aSt (A : Ax) : List Nat := onN A.S A.sn
def aNx (A : Ax) (x : Nat) : List Nat := if x < A.G then onN (A.Z x) (A.L x) else []
def aFr (A : Ax) (k x : Nat) : Bool := has (A.FL k) (A.FZ k) (x : Int)
def sgX (A : Ax) : Nat × Nat → List (Nat × Nat) := sNx A.K (aFr A) (aNx A)
def sgS (A : Ax) : List (Nat × Nat) := (aSt A).map fun x => (x, 0)

def mkPr (p : Nat × Nat) : Pr := (⟨p.1 % 4096, Nat.mod_lt _ (by decide)⟩, ⟨p.2 % 4096, Nat.mod_lt _ (by decide)⟩)
theorem prn_mk {p : Nat × Nat} (h : Sml p) : prn (mkPr p) = p := by
  obtain ⟨a, b⟩ := p
  obtain ⟨h1, h2⟩ := h
  show (a % 4096, b % 4096) = (a, b)
  rw [Nat.mod_eq_of_lt h1, Nat.mod_eq_of_lt h2]
theorem prn_mks {l : List (Nat × Nat)} (h : ∀ p ∈ l, Sml p) : (l.map mkPr).map prn = l := by
  rw [List.map_map]
  conv => rhs; rw [← List.map_id l]
  exact List.map_congr_left (fun p hp => prn_mk (h p hp))

/-- What holds of all pairs of Single. -/
def sgP (A : Ax) (p : Nat × Nat) : Prop := p.1 < A.G ∧ p.2 < (if A.K = 0 then 1 else A.K)

theorem mem_aSt {A : Ax} (h : chkA A = 0) {x : Nat} : x ∈ aSt A ↔ has A.sn A.S x = true := by
  obtain ⟨_, _, _, _, h1, _⟩ := chkA_ok h
  unfold aSt has
  rw [mem_onN, decide_eq_true_eq]
  constructor
  · rintro ⟨i, hi, e⟩; have := h1 i hi; exact ⟨i, hi, by omega⟩
  · rintro ⟨i, hi, e⟩; exact ⟨i, hi, by omega⟩
theorem aNx_is {A : Ax} {q : Nat} (hq : q < A.G) : aNx A q = onN (A.Z q) (A.L q) := if_pos hq
theorem mem_aNx {A : Ax} (h : chkA A = 0) {q x : Nat} : x ∈ aNx A q ↔ q < A.G ∧ has (A.L q) (A.Z q) x = true := by
  obtain ⟨_, _, _, _, _, h1, _⟩ := chkA_ok h
  by_cases hq : q < A.G
  · rw [aNx_is hq]
    unfold has
    rw [mem_onN, decide_eq_true_eq]
    constructor
    · rintro ⟨i, hi, e⟩; have := h1 q hq i hi; exact ⟨hq, i, hi, by omega⟩
    · rintro ⟨_, i, hi, e⟩; exact ⟨i, hi, by omega⟩
  · unfold aNx
    rw [if_neg hq]
    exact ⟨fun h => (by cases h), fun h => absurd h.1 hq⟩
theorem aSt_lt {A : Ax} (h : chkA A = 0) {x : Nat} (hx : x ∈ aSt A) : x < A.G := by
  obtain ⟨_, _, _, _, h1, _⟩ := chkA_ok h
  obtain ⟨i, hi, rfl⟩ := mem_onN.1 hx
  have := h1 i hi
  omega
theorem aNx_lt {A : Ax} (h : chkA A = 0) {q x : Nat} (hq : q < A.G) (hx : x ∈ aNx A q) : x < A.G := by
  obtain ⟨_, _, _, _, _, h1, _⟩ := chkA_ok h
  rw [aNx_is hq] at hx
  obtain ⟨i, hi, rfl⟩ := mem_onN.1 hx
  have := h1 q hq i hi
  omega

theorem sgP_start {A : Ax} (h : chkA A = 0) : ∀ p ∈ sgS A, sgP A p := by
  intro p hp
  obtain ⟨x, hx, rfl⟩ := List.mem_map.1 hp
  refine ⟨aSt_lt h hx, ?_⟩
  show 0 < if A.K = 0 then 1 else A.K
  split <;> omega
theorem sNo_lt {A : Ax} {p : Nat × Nat} (hp : sgP A p) : sNo A.K (aFr A) p < (if A.K = 0 then 1 else A.K) := by
  have h2 := hp.2
  generalize hM : (if A.K = 0 then 1 else A.K) = M at h2 ⊢
  unfold sNo
  by_cases hh : 0 < A.K ∧ aFr A p.2 p.1 = true
  · rw [if_pos hh]
    rw [if_neg (by omega)] at hM
    by_cases e : p.2 + 1 = A.K
    · rw [if_pos e]; omega
    · rw [if_neg e]; omega
  · rw [if_neg hh]; exact h2
theorem sgP_next {A : Ax} (h : chkA A = 0) (p : Nat × Nat) (hp : sgP A p) : ∀ q ∈ sgX A p, sgP A q := by
  intro q hq
  obtain ⟨x, hx, rfl⟩ := List.mem_map.1 hq
  exact ⟨aNx_lt h hp.1 hx, sNo_lt hp⟩
theorem sgP_sml {A : Ax} (h : chkA A = 0) {p : Nat × Nat} (hp : sgP A p) : Sml p := by
  obtain ⟨h1, h2, _⟩ := chkA_ok h
  obtain ⟨h3, h4⟩ := hp
  refine ⟨by omega, ?_⟩
  split at h4 <;> omega

/-- The pairs, once there are no more. -/
def sgL (A : Ax) (k : Nat) : List (Nat × Nat) := gQ (sgX A) (sgS A) k
theorem sgL_all {A : Ax} (h : chkA A = 0) (k : Nat) : ∀ p ∈ sgL A k, sgP A p := by
  intro p hp
  refine nRun_all (P := sgP A) (sgP_next h) k 0 (fun x hx => ?_) p hp
  rcases (mem_nAdds _ _).1 hx with hx | hx
  · cases hx
  · exact sgP_start h x hx

/-- The numbers of the pairs of which something is so. -/
def whN (P : Nat → Bool) (k : Nat) : List Nat := (List.range k).filter fun i => P i
theorem whN_succ (P : Nat → Bool) (k : Nat) : whN P (k + 1) = if P k = true then whN P k ++ [k] else whN P k := by
  unfold whN
  rw [List.range_succ, List.filter_append]
  by_cases h : P k = true
  · rw [if_pos h]; simp [h]
  · rw [if_neg h]; simp [h]
theorem mem_whN {P : Nat → Bool} {k i : Nat} : i ∈ whN P k ↔ i < k ∧ P i = true := by
  unfold whN
  rw [List.mem_filter, List.mem_range]
theorem whN_len (P : Nat → Bool) (k : Nat) : (whN P k).length ≤ k := by
  unfold whN
  have := List.length_filter_le (fun i => P i) (List.range k)
  simpa using this

/-- Is a pair fair? -/
def sgF (A : Ax) (p : Nat × Nat) : Bool := decide (p.2 = 0) && (decide (A.K = 0) || aFr A 0 p.1)

/-- The automaton that Single answers. -/
def sgC (A : Ax) (k : Nat) : Ax where
  sa := none
  sn := (sgS A).length
  sc := 0
  na := none
  G := k
  nc := 0
  ma := none
  M := k
  mc := 0
  oa := none
  O := k
  oc := 0
  fa := none
  K := 1
  fc := 0
  S := fun i => ((((sgS A).map fun p => ix p (sgL A k)).getD i 0 : Nat) : Int)
  L := fun i => (sgX A (nAt (sgL A k) i)).length
  Z := fun i j => ((((sgX A (nAt (sgL A k) i)).map fun p => ix p (sgL A k)).getD j 0 : Nat) : Int)
  Mu := fun i => A.Mu (nAt (sgL A k) i).1
  No := fun i => A.No (nAt (sgL A k) i).1
  FL := fun _ => (whN (fun i => sgF A (nAt (sgL A k) i)) k).length
  FZ := fun _ j => (((whN (fun i => sgF A (nAt (sgL A k) i)) k).getD j 0 : Nat) : Int)

theorem has_list {l : List Nat} {n : Nat} (hn : n = l.length) {x : Nat} : has n (fun i => ((l.getD i 0 : Nat) : Int)) (x : Int) = true ↔ x ∈ l := by
  subst hn
  unfold has
  rw [decide_eq_true_eq, List.mem_iff_getElem?]
  constructor
  · rintro ⟨i, hi, e⟩
    refine ⟨i, ?_⟩
    have e2 : ((l.getD i 0 : Nat) : Int) = (x : Int) := e
    rw [List.getD_eq_getElem?_getD, List.getElem?_eq_getElem hi] at e2
    rw [List.getElem?_eq_getElem hi]
    have : l[i] = x := by simp at e2; omega
    rw [this]
  · rintro ⟨i, e⟩
    have hi := (List.getElem?_eq_some_iff.1 e).1
    exact ⟨i, hi, by show ((l.getD i 0 : Nat) : Int) = (x : Int); rw [List.getD_eq_getElem?_getD, e]; rfl⟩

theorem in_list {l : List Nat} {n G : Nat} (hn : n = l.length) (h : ∀ x ∈ l, x < G) : allIn n (fun i => ((l.getD i 0 : Nat) : Int)) G = true := by
  subst hn
  refine allIn_yes (fun i hi => ?_)
  have := h _ (List.getElem_mem hi)
  rw [List.getD_eq_getElem?_getD, List.getElem?_eq_getElem hi]
  simp
  omega

theorem sg_ones {A : Ax} (h : chkA A = 0) {k : Nat} (hk : (sgL A k).length = k) : Ones (autA A) (autA (sgC A k)) (nAt (sgL A k)) k := by
  have hG := chkA_ok h
  have hall := sgL_all h k
  have hp : ∀ i, i < k → sgP A (nAt (sgL A k) i) := fun i hi => hall _ (nAt_mem (by omega))
  have key : Ones (autA A) (autA (sgC A k)) (nAt (sgL A k)) (sgL A k).length := by
    refine single_ones (aS := aSt A) (aN := aNx A) (fr := aFr A) (f := k) (L := sgL A k) rfl (by omega) (fun x => (mem_aSt h).symm) (fun x y => (mem_aNx h).symm) (fun k x => Iff.rfl) (fun i => ?_) (fun i j hi => ?_) (fun i l hi => ?_) rfl (fun i hi => ?_)
    · show has (sgS A).length (sgC A k).S i = true ↔ _
      rw [mem_nNums]
      refine (has_list (l := (sgS A).map fun p => ix p (sgL A k)) (by simp)).trans ?_
      rw [List.mem_map]
      rfl
    · show i < k ∧ has (sgX A (nAt (sgL A k) i)).length ((sgC A k).Z i) j = true ↔ _
      rw [mem_nNums]
      refine (and_iff_right (by omega)).trans ((has_list (l := (sgX A (nAt (sgL A k) i)).map fun p => ix p (sgL A k)) (by simp)).trans ?_)
      rw [List.mem_map]
      rfl
    · show i < k ∧ fts l.toNat (A.Mu (nAt (sgL A k) i).1) (A.No (nAt (sgL A k) i).1) = true ↔ (nAt (sgL A k) i).1 < A.G ∧ _
      exact ⟨fun hh => ⟨(hp i (by omega)).1, hh.2⟩, fun hh => ⟨by omega, hh.2⟩⟩
    · show has (whN (fun i => sgF A (nAt (sgL A k) i)) k).length ((sgC A k).FZ 0) i = true ↔ _
      refine (has_list (l := whN (fun i => sgF A (nAt (sgL A k) i)) k) rfl).trans ?_
      rw [mem_whN]
      unfold sgF
      simp only [Bool.and_eq_true, Bool.or_eq_true, decide_eq_true_eq]
      exact ⟨fun hh => hh.2, fun hh => ⟨by omega, hh⟩⟩
  rwa [hk] at key

theorem sg_acc {A : Ax} (h : chkA A = 0) {k : Nat} (hk : (sgL A k).length = k) (o : Nat → Int) : (autA (sgC A k)).Acc o ↔ (autA A).Acc o := ones_acc (sg_ones h hk) o

theorem sg_chk {A : Ax} {k : Nat} (hk : (sgL A k).length = k) (hk2 : k ≤ 2048) : chkA (sgC A k) = 0 := by
  have hs : ∀ x ∈ (sgS A).map (fun p => ix p (sgL A k)), x < k := fun x hx => by
    obtain ⟨p, hp, rfl⟩ := List.mem_map.1 hx
    have : ix p (sgL A k) < (sgL A k).length := ix_lt (nAll_start (nx := sgX A) (f := k) hp)
    omega
  have hn : ∀ i, i < k → ∀ x ∈ (sgX A (nAt (sgL A k) i)).map (fun p => ix p (sgL A k)), x < k := fun i hi x hx => by
    obtain ⟨p, hp, rfl⟩ := List.mem_map.1 hx
    have h1 : nAt (sgL A k) i ∈ sgL A k := nAt_mem (by omega)
    have : ix p (sgL A k) < (sgL A k).length := ix_lt (nAll_next (nx := sgX A) (f := k) (start := sgS A) (by show (sgL A k).length ≤ k; omega) h1 hp)
    omega
  have hf : ∀ x ∈ whN (fun i => sgF A (nAt (sgL A k) i)) k, x < k := fun x hx => (mem_whN.1 hx).1
  unfold chkA
  rw [if_neg (by show ¬ (2048 < k ∨ 80 < 1); omega), if_neg (by show ¬ (k ≠ k ∨ k ≠ k); omega), if_pos]
  refine ⟨in_list (by simp [sgC]) hs, ?_, ?_⟩
  · unfold okL
    rw [decide_eq_true_eq]
    intro r hr
    exact in_list (l := (sgX A (nAt (sgL A k) r)).map fun p => ix p (sgL A k)) (by simp [sgC]) (hn r hr)
  · unfold okL
    rw [decide_eq_true_eq]
    intro r hr
    exact in_list (l := whN (fun i => sgF A (nAt (sgL A k) i)) k) rfl hf

end Go.Proofs.YtdncjikmknkkpaaDoor
