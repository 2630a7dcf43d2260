/- What is printed and read again: the lists. -/
import Derived.Test.YtnpdkpbhkjnbhaaDoorParse
namespace Go.Proofs.YtnpdkpbhkjnbhaaDoor
open Go.RowKit

theorem fnd_congr {N : Nat} {M M' : Nat → ByteArray} {s : ByteArray} (h : ∀ i, i < N → M i = M' i) : fnd N M s = fnd N M' s := by
  unfold fnd
  rw [Lib.find_congr (q := fun i => (M' i).toList == s.toList) (fun i hi => by rw [h i (List.mem_range.1 hi)])]

theorem fnd_is {N : Nat} {M : Nat → ByteArray} {s : ByteArray} (h : fnd N M s ≠ -1) : ∃ k : Nat, fnd N M s = k ∧ k < N ∧ M k = s := by
  unfold fnd at *
  cases hf : (List.range N).find? (fun i => (M i).toList == s.toList) with
  | none => rw [hf] at h; exact absurd rfl h
  | some k =>
    have h1 := List.find?_some hf
    have h2 := List.mem_of_find?_eq_some hf
    exact ⟨k, rfl, List.mem_range.1 h2, toList_inj.1 h1⟩

theorem nodesErr_congr {M M' : Nat → ByteArray} {K K' : Nat → Int} : ∀ {n}, (∀ i, i < n → M i = M' i ∧ K i = K' i) → nodesErr M K n = nodesErr M' K' n
  | 0, _ => rfl
  | n + 1, h => by
    have ih := nodesErr_congr (n := n) (fun i hi => h i (by omega))
    have hn := h n (by omega)
    rw [nodesErr, nodesErr, ih, hn.1, hn.2, fnd_congr (N := n) (M := M) (M' := M') (fun i hi => (h i (by omega)).1)]

theorem tally_congr {X Y : Nat → Int} {x : Int} : ∀ {n}, (∀ i, i < n → X i = Y i) → tally X x n = tally Y x n
  | 0, _ => rfl
  | n + 1, h => by
    rw [tally, tally, tally_congr (fun i hi => h i (by omega)), h n (by omega)]

theorem chk_congr {N F : Nat} {M M' : Nat → ByteArray} {K K' A A' B B' : Nat → Int} {e : Int} (hM : ∀ i, i < N → M i = M' i ∧ K i = K' i) (hA : ∀ i, i < F → A i = A' i ∧ B i = B' i) (h : ChkIs N F M K A B e) : ChkIs N F M' K' A' B' e := by
  have e1 : nodesErr M K N = nodesErr M' K' N := nodesErr_congr hM
  have e2 : endsOk N F A B = endsOk N F A' B' := by
    unfold endsOk
    exact decide_eq_decide.2 ⟨fun hh i hi => by rw [← (hA i hi).1, ← (hA i hi).2]; exact hh i hi, fun hh i hi => by rw [(hA i hi).1, (hA i hi).2]; exact hh i hi⟩
  have e3 : tally K 1 N = tally K' 1 N := tally_congr (fun i hi => (hM i hi).2)
  have tA : ∀ x, tally A x F = tally A' x F := fun x => tally_congr (fun i hi => (hA i hi).1)
  have tB : ∀ x, tally B x F = tally B' x F := fun x => tally_congr (fun i hi => (hA i hi).2)
  have e4 : fitAll N F K A B = fitAll N F K' A' B' := by
    unfold fitAll
    exact decide_eq_decide.2 ⟨fun hh i hi => by rw [← (hM i hi).2, ← tA, ← tB]; exact hh i hi, fun hh i hi => by rw [(hM i hi).2, tA, tB]; exact hh i hi⟩
  have e5 : allCome N F K A B ↔ allCome N F K' A' B' := by
    unfold allCome
    have p1 : (fun s => s < N ∧ K s = 1) = (fun s => s < N ∧ K' s = 1) := by
      funext s
      exact propext ⟨fun ⟨h1, h2⟩ => ⟨h1, by rw [← (hM s h1).2]; exact h2⟩, fun ⟨h1, h2⟩ => ⟨h1, by rw [(hM s h1).2]; exact h2⟩⟩
    have p2 : (fun x y : Nat => ∃ i, i < F ∧ A i = x ∧ B i = y) = (fun x y : Nat => ∃ i, i < F ∧ A' i = x ∧ B' i = y) := by
      funext x y
      exact propext ⟨fun ⟨i, h1, h2, h3⟩ => ⟨i, h1, by rw [← (hA i h1).1]; exact h2, by rw [← (hA i h1).2]; exact h3⟩, fun ⟨i, h1, h2, h3⟩ => ⟨i, h1, by rw [(hA i h1).1]; exact h2, by rw [(hA i h1).2]; exact h3⟩⟩
    rw [p1, p2]
  unfold ChkIs at *
  rw [← e1, ← e2, ← e3, ← e4, ← e5]
  exact h

theorem chk_one {N F : Nat} {M : Nat → ByteArray} {K A B : Nat → Int} {e : Int} (h0 : ChkIs N F M K A B 0) (h : ChkIs N F M K A B e) : e = 0 := by
  obtain ⟨h1, h2, h3, h4, h5, h6⟩ := chk_zero h0
  rcases h with ⟨g1, _⟩ | ⟨_, ⟨g2, _⟩ | ⟨_, ⟨g3, _⟩ | ⟨_, ⟨g4, _⟩ | ⟨_, g5⟩⟩⟩⟩
  · omega
  · exact absurd h2 g2
  · exact absurd ⟨h3, h4, h5⟩ g3
  · exact absurd h6 g4
  · exact g5

theorem fnd_self {M : Nat → ByteArray} {K : Nat → Int} : ∀ {N}, nodesErr M K N = 0 → ∀ i, i < N → ∀ j, j < i → ((M j).toList == (M i).toList) = false
  | N + 1, h, i, hi, j, hj => by
    have h0 : nodesErr M K N = 0 := by
      by_cases e : nodesErr M K N = 0
      · exact e
      · rw [nodesErr, if_neg e] at h; exact absurd h e
    by_cases e : i = N
    · subst e
      rw [nodesErr_next h0] at h
      by_cases c : nameOk (M i) = true ∧ (1 ≤ K i ∧ K i ≤ 7)
      · rw [if_pos c] at h
        by_cases f : fnd i M (M i) = -1
        · cases hb : ((M j).toList == (M i).toList)
          · rfl
          · have hsome : ((List.range i).find? (fun q => (M q).toList == (M i).toList)).isSome := List.find?_isSome.2 ⟨j, List.mem_range.2 hj, hb⟩
            unfold fnd at f
            cases hf : (List.range i).find? (fun q => (M q).toList == (M i).toList) with
            | none => rw [hf] at hsome; cases hsome
            | some q => rw [hf] at f; simp at f
        · rw [if_neg f] at h; cases h
      · rw [if_neg c] at h; cases h
    · exact fnd_self h0 i (by omega) j hj

/-- The lists of a process. -/
def nsOf (N : Nat) (M : Nat → ByteArray) (K : Nat → Int) : List (ByteArray × Nat) := (List.range N).map fun i => (M i, (K i).toNat)
def fsOf (F : Nat) (M : Nat → ByteArray) (A B : Nat → Int) : List (ByteArray × ByteArray) := (List.range F).map fun i => (M (A i).toNat, M (B i).toNat)

theorem nsOf_len (N : Nat) (M : Nat → ByteArray) (K : Nat → Int) : (nsOf N M K).length = N := by simp [nsOf]
theorem fsOf_len (F : Nat) (M : Nat → ByteArray) (A B : Nat → Int) : (fsOf F M A B).length = F := by simp [fsOf]

theorem lnN_words (M : Nat → ByteArray) (K : Nat → Int) (k : Nat) : wordsTo (nodeW M K k) 2 = lnN (M k, (K k).toNat) := by
  simp [wordsTo, nodeW, lnN]

theorem lnF_words (M : Nat → ByteArray) (A B : Nat → Int) (k : Nat) : wordsTo (flowW M A B k) 3 = lnF (M (A k).toNat, M (B k).toNat) := by
  simp [wordsTo, flowW, lnF, flowWd]

theorem txN_flat (M : Nat → ByteArray) (K : Nat → Int) : ∀ n, txN M K n = (nsOf n M K).flatMap fun p => lnN p ++ [10]
  | 0 => rfl
  | n + 1 => by
    rw [txN, txN_flat M K n, lnN_words]
    simp [nsOf, List.range_succ]

theorem txF_flat (N : Nat) (M : Nat → ByteArray) (K A B : Nat → Int) : ∀ n, txF N M K A B n = tx (nsOf N M K, fsOf n M A B)
  | 0 => by rw [txF, txN_flat]; simp [tx, fsOf]
  | n + 1 => by
    rw [txF, txF_flat N M K A B n, lnF_words]
    simp [tx, fsOf, List.range_succ]

theorem nsOf_at {N : Nat} {M : Nat → ByteArray} {K : Nat → Int} {i : Nat} (h : i < N) : mM (nsOf N M K) i = M i ∧ mK (nsOf N M K) i = ((K i).toNat : Int) := by
  unfold mM mK nsOf
  simp [h]

theorem fsOf_at {F : Nat} {M : Nat → ByteArray} {A B : Nat → Int} {i : Nat} (h : i < F) : (fsOf F M A B).getD i (⟨#[]⟩, ⟨#[]⟩) = (M (A i).toNat, M (B i).toNat) := by
  unfold fsOf
  simp [h]

/-- What is printed of a right process is read as it was: the lists. -/
theorem back_lists {N F : Nat} {M : Nat → ByteArray} {K A B : Nat → Int} (h : ChkIs N F M K A B 0) :
    Good (nsOf N M K, fsOf F M A B) ∧ (∀ i, i < N → M i = mM (nsOf N M K) i ∧ K i = mK (nsOf N M K) i) ∧ (∀ i, i < F → A i = jA (nsOf N M K, fsOf F M A B) i ∧ B i = jB (nsOf N M K, fsOf F M A B) i) := by
  obtain ⟨h1, h2, h3, h4, h5, h6⟩ := chk_zero h
  have hE := endsOk_all h3
  have hK := nodes_names h2
  have hM : ∀ i, i < N → M i = mM (nsOf N M K) i ∧ K i = mK (nsOf N M K) i := fun i hi => by
    obtain ⟨e1, e2⟩ := nsOf_at (M := M) (K := K) hi
    exact ⟨e1.symm, by rw [e2]; have := (hK i hi).2; omega⟩
  have one : ∀ x : Int, 0 ≤ x → x < N → fnd (nsOf N M K).length (mM (nsOf N M K)) (M x.toNat) = x := fun x h0 hx => by
    rw [nsOf_len, ← fnd_congr (fun i hi => (hM i hi).1)]
    have hx' : x.toNat < N := by omega
    rw [fnd_hit hx' (toList_inj.2 rfl) (fun j hj => fnd_self h2 x.toNat hx' j hj)]
    omega
  refine ⟨⟨fun p hp => ?_, fun p hp => ?_⟩, hM, fun i hi => ?_⟩
  · obtain ⟨i, hi, rfl⟩ := List.mem_map.1 hp
    have := hK i (List.mem_range.1 hi)
    exact ⟨this.1, by show 1 ≤ (K i).toNat; omega, by show (K i).toNat ≤ 7; omega⟩
  · obtain ⟨i, hi, rfl⟩ := List.mem_map.1 hp
    have := hE i (List.mem_range.1 hi)
    exact ⟨(hK _ (by omega)).1, (hK _ (by omega)).1⟩
  · have he := hE i hi
    unfold jA jB
    simp only
    rw [fsOf_at hi]
    exact ⟨(one _ he.1.1 he.1.2).symm, (one _ he.2.1 he.2.2).symm⟩

/-- What is read is printed as just that text. -/
theorem again_text {x : Dft} (hj : ∀ j, j < x.2.length → jA x j ≠ -1 ∧ jB x j ≠ -1) : txF x.1.length (mM x.1) (mK x.1) (jA x) (jB x) x.2.length = tx x := by
  rw [txF_flat]
  have e1 : nsOf x.1.length (mM x.1) (mK x.1) = x.1 := by
    refine List.ext_getElem (by simp [nsOf]) (fun i h1 h2 => ?_)
    simp [nsOf, mM, mK, h2]
  have e2 : fsOf x.2.length (mM x.1) (jA x) (jB x) = x.2 := by
    refine List.ext_getElem (by simp [fsOf]) (fun i h1 h2 => ?_)
    obtain ⟨hA, hB⟩ := hj i h2
    have eA : mM x.1 (jA x i).toNat = (x.2[i]).1 := by
      obtain ⟨k, hk, _, hm⟩ := fnd_is hA
      have : jA x i = k := hk
      rw [this, Int.toNat_natCast, hm]
      simp [h2]
    have eB : mM x.1 (jB x i).toNat = (x.2[i]).2 := by
      obtain ⟨k, hk, _, hm⟩ := fnd_is hB
      have : jB x i = k := hk
      rw [this, Int.toNat_natCast, hm]
      simp [h2]
    simp only [fsOf, List.getElem_map, List.getElem_range]
    rw [eA, eB]
  rw [e1, e2]

end Go.Proofs.YtnpdkpbhkjnbhaaDoor
