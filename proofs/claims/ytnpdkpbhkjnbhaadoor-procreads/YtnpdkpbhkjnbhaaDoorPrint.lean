/- Print. -/
import Derived.Test.YtnpdkpbhkjnbhaaDoorProc6
import Derived.Test.YtnpdkpbhkjnbhaaDoorBld
namespace Go.Proofs.YtnpdkpbhkjnbhaaDoor
open Go.RowKit

/-- The words of the kinds, as the program's text lays them. -/
def kw (k : Nat) : ByteArray :=
  if k = 1 then ⟨#[115, 116, 97, 114, 116]⟩ else if k = 2 then ⟨#[101, 110, 100]⟩ else if k = 3 then ⟨#[115, 116, 111, 112]⟩ else if k = 4 then ⟨#[116, 97, 115, 107]⟩ else if k = 5 then ⟨#[120, 111, 114]⟩ else if k = 6 then ⟨#[97, 110, 100]⟩ else if k = 7 then ⟨#[111, 114]⟩ else ⟨#[]⟩

/-- The block of kindWords. -/
def KwAt (w : World) : Prop := ∃ cs z, w.heap[0]? = some (.cells cs 53 z) ∧ ∀ k, k ≤ 7 → cs[k]? = some (.string (kw k))

theorem KwAt.below {w w' : World} {B : Nat} (h : KwAt w) (hb : Below B w w') (hB : 0 < B) : KwAt w' := by
  obtain ⟨cs, z, h1, h2⟩ := h
  exact ⟨cs, z, (hb.block 0 hB).trans h1, h2⟩

theorem KwAt.cell {w : World} (h : KwAt w) {k : Nat} (hk : k ≤ 7) : w.cell? ⟨0, k, none⟩ = some (.string (kw k)) := by
  obtain ⟨cs, z, h1, h2⟩ := h
  simp [World.cell?, h1, h2 k hk]

theorem kw_size (k : Nat) : (kw k).size ≤ 5 := by
  unfold kw
  repeat' split
  all_goals decide

def nodeW (M : Nat → ByteArray) (K : Nat → Int) (k i : Nat) : ByteArray := if i = 0 then kw (K k).toNat else M k
def flowW (M : Nat → ByteArray) (A B : Nat → Int) (k i : Nat) : ByteArray := if i = 0 then ⟨#[102, 108, 111, 119]⟩ else if i = 1 then M (A k).toNat else M (B k).toNat

/-- The text of the first k nodes; of all nodes and the first k flows. -/
def txN (M : Nat → ByteArray) (K : Nat → Int) : Nat → List UInt8
  | 0 => []
  | k + 1 => txN M K k ++ (wordsTo (nodeW M K k) 2 ++ [10])

def txF (N : Nat) (M : Nat → ByteArray) (K A B : Nat → Int) : Nat → List UInt8
  | 0 => txN M K N
  | k + 1 => txF N M K A B k ++ (wordsTo (flowW M A B k) 3 ++ [10])

theorem bd_alloc {w : World} {B b : Nat} {l : List UInt8} (h : Bd w B b l) (o : Obj) : Bd (w.alloc o) B b l := by
  have one : ∀ p, Lib.BuilderAt 51 5 B b p (bys l) w → Lib.BuilderAt 51 5 B b p (bys l) (w.alloc o) := fun p ⟨h1, v, h2, h3, h4⟩ =>
    ⟨h1, v, (Go.Deep.blk_alloc_lt _ _ _ (Array.getElem?_eq_some_iff.1 h2).1).trans h2, h3.alloc o, h4⟩
  rcases h with h | h
  · exact Or.inl (one _ h)
  · exact Or.inr (one _ h)

theorem bd_start (w : World) : Bd (w.alloc (.cells #[.pointer none, .slice none 0 0] 51)) w.heap.size w.heap.size [] :=
  Or.inl ⟨Nat.le_refl _, .slice none 0 0, Go.Deep.blk_alloc_new _ _, World.ownsRow_nil _ _ _ _, by simp [Value.ownBlock]⟩

theorem nodes_names {M : Nat → ByteArray} {K : Nat → Int} : ∀ {n}, nodesErr M K n = 0 → ∀ i, i < n → nameOk (M i) = true ∧ (1 ≤ K i ∧ K i ≤ 7)
  | n + 1, h, i, hi => by
    have h0 : nodesErr M K n = 0 := by
      by_cases e : nodesErr M K n = 0
      · exact e
      · rw [nodesErr, if_neg e] at h; exact absurd h e
    by_cases e : i = n
    · subst e
      rw [nodesErr_next h0] at h
      by_cases c : nameOk (M i) = true ∧ (1 ≤ K i ∧ K i ≤ 7)
      · exact c
      · rw [if_neg c] at h; cases h
    · exact nodes_names h0 i (by omega)

theorem nameOk_size {s : ByteArray} (h : nameOk s = true) : s.size ≤ 8 := by
  by_cases e : s.size ≤ 8
  · exact e
  · rw [nameOk_long e] at h; cases h

theorem nodeW_len {M : Nat → ByteArray} {K : Nat → Int} {k : Nat} (h : (M k).size ≤ 8) : wordsLen (nodeW M K k) 2 ≤ 20 := by
  have := kw_size (K k).toNat
  simp [wordsLen, nodeW]
  omega

theorem txN_len {M : Nat → ByteArray} {K : Nat → Int} : ∀ k, (∀ i, i < k → (M i).size ≤ 8) → (txN M K k).length ≤ 30 * k
  | 0, _ => Nat.le_refl _
  | k + 1, h => by
    have h1 := txN_len (K := K) k (fun i hi => h i (by omega))
    have h2 := wordsTo_len (nodeW M K k) 2
    have h3 := nodeW_len (K := K) (h k (by omega))
    simp only [txN, List.length_append, List.length_singleton]
    omega

theorem flowW_len {M : Nat → ByteArray} {A B : Nat → Int} {k : Nat} (h1 : (M (A k).toNat).size ≤ 8) (h2 : (M (B k).toNat).size ≤ 8) : wordsLen (flowW M A B k) 3 ≤ 30 := by
  have e : (⟨#[102, 108, 111, 119]⟩ : ByteArray).size = 4 := rfl
  simp [wordsLen, flowW]
  omega

theorem txF_len {N : Nat} {M : Nat → ByteArray} {K A B : Nat → Int} (hM : ∀ i, i < N → (M i).size ≤ 8) : ∀ k, (∀ i, i < k → (A i).toNat < N ∧ (B i).toNat < N) → (txF N M K A B k).length ≤ 30 * N + 40 * k
  | 0, _ => by have := txN_len (K := K) N hM; simpa [txF] using this
  | k + 1, h => by
    have h1 := txF_len (K := K) hM k (fun i hi => h i (by omega))
    have h2 := wordsTo_len (flowW M A B k) 3
    have h3 := flowW_len (hM _ (h k (by omega)).1) (hM _ (h k (by omega)).2)
    simp only [txF, List.length_append, List.length_singleton]
    omega

/-- What Print answers. -/
def PrIs (N F : Nat) (M : Nat → ByteArray) (K A B : Nat → Int) (e0 : Int) (e : Ending) : Prop :=
  (e0 ≠ 0 ∧ e = .returned (.tuple #[.string ⟨#[]⟩, .int .i64 e0])) ∨ (e0 = 0 ∧ e = .returned (.tuple #[.string ⟨(txF N M K A B F).toArray⟩, .int .i64 0]))

end Go.Proofs.YtnpdkpbhkjnbhaaDoor
