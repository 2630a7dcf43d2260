/- Things numbered as they first come: pure. Automata of words, apart from memory: rows of states; pairs; one fair set; the graph of states and places. The automata of pairs and of one fair set, as they are numbered: pure. -/
import Derived.Test.YtdncjikmknkkpaaDoorBase
import Derived.Test.YtdncjikmknkkpaaDoorLst
namespace Go.Proofs.YtdncjikmknkkpaaDoor
open Go.RowKit

theorem pre_at {α : Type} {l k : List α} {i : Nat} {x : α} (h : l <+: k) (hi : l[i]? = some x) : k[i]? = some x := by
  obtain ⟨r, rfl⟩ := h
  rw [List.getElem?_append_left (List.getElem?_eq_some_iff.1 hi).1]
  exact hi

section
variable {α : Type} [DecidableEq α]

/-- The number of x in a list: where it first stands. -/
def ix (x : α) : List α → Nat
  | [] => 0
  | y :: l => if y = x then 0 else ix x l + 1

theorem ix_lt {x : α} : ∀ {l : List α}, x ∈ l → ix x l < l.length
  | [], h => by cases h
  | y :: l, h => by
    unfold ix
    by_cases e : y = x
    · rw [if_pos e]; exact Nat.succ_pos _
    · rw [if_neg e]
      have : x ∈ l := by
        rcases List.mem_cons.1 h with h | h
        · exact absurd h.symm e
        · exact h
      have := ix_lt this
      simp only [List.length_cons]
      omega
theorem ix_at {x : α} : ∀ {l : List α}, x ∈ l → l[ix x l]? = some x
  | [], h => by cases h
  | y :: l, h => by
    unfold ix
    by_cases e : y = x
    · rw [if_pos e, e]; rfl
    · rw [if_neg e]
      have : x ∈ l := by
        rcases List.mem_cons.1 h with h | h
        · exact absurd h.symm e
        · exact h
      rw [List.getElem?_cons_succ]
      exact ix_at this
theorem ix_app {x : α} {k : List α} : ∀ {l : List α}, x ∈ l → ix x (l ++ k) = ix x l
  | [], h => by cases h
  | y :: l, h => by
    show ix x (y :: (l ++ k)) = _
    unfold ix
    by_cases e : y = x
    · rw [if_pos e, if_pos e]
    · have : x ∈ l := by
        rcases List.mem_cons.1 h with h | h
        · exact absurd h.symm e
        · exact h
      rw [if_neg e, if_neg e, ix_app this]
theorem ix_new {x : α} : ∀ {l : List α}, x ∉ l → ix x (l ++ [x]) = l.length
  | [], _ => by simp [ix]
  | y :: l, h => by
    show ix x (y :: (l ++ [x])) = _
    unfold ix
    have e : y ≠ x := fun e => h (by rw [e]; exact List.mem_cons_self)
    rw [if_neg e, ix_new (fun hh => h (List.mem_cons_of_mem _ hh))]
    rfl
theorem ix_pre {x : α} {l k : List α} (h : x ∈ l) (hp : l <+: k) : ix x k = ix x l := by
  obtain ⟨r, rfl⟩ := hp
  exact ix_app h
theorem at_ix {x : α} : ∀ {l : List α} {i : Nat}, l.Nodup → l[i]? = some x → ix x l = i
  | [], i, _, h => by simp at h
  | y :: l, 0, _, h => by
    simp at h
    unfold ix
    rw [if_pos h]
  | y :: l, i + 1, hn, h => by
    rw [List.getElem?_cons_succ] at h
    have hn2 := List.nodup_cons.1 hn
    have hm : x ∈ l := List.mem_of_getElem? h
    unfold ix
    rw [if_neg (fun e => hn2.1 (by rw [e]; exact hm)), at_ix hn2.2 h]

/-- One more, if it is not there. -/
def nAdd (l : List α) (x : α) : List α := if x ∈ l then l else l ++ [x]
/-- Some more, one behind the other. -/
def nAdds (l xs : List α) : List α := xs.foldl nAdd l

theorem nAdd_pre (l : List α) (x : α) : l <+: nAdd l x := by
  unfold nAdd
  by_cases h : x ∈ l
  · rw [if_pos h]; exact List.prefix_refl _
  · rw [if_neg h]; exact List.prefix_append _ _
theorem mem_nAdd {l : List α} {x y : α} : y ∈ nAdd l x ↔ y ∈ l ∨ y = x := by
  unfold nAdd
  by_cases h : x ∈ l
  · rw [if_pos h]
    exact ⟨Or.inl, fun hh => hh.elim id (fun e => by rw [e]; exact h)⟩
  · rw [if_neg h, List.mem_append, List.mem_singleton]
theorem nAdd_nodup {l : List α} (h : l.Nodup) (x : α) : (nAdd l x).Nodup := by
  unfold nAdd
  by_cases e : x ∈ l
  · rw [if_pos e]; exact h
  · rw [if_neg e]
    refine List.nodup_append.2 ⟨h, by simp, ?_⟩
    intro a ha b hb hab
    rw [List.mem_singleton] at hb
    exact e (by rw [← hb, ← hab]; exact ha)
theorem nAdds_cons (l : List α) (x : α) (xs : List α) : nAdds l (x :: xs) = nAdds (nAdd l x) xs := rfl
theorem nAdds_snoc (l : List α) (xs : List α) (x : α) : nAdds l (xs ++ [x]) = nAdd (nAdds l xs) x := by
  unfold nAdds
  rw [List.foldl_append]
  rfl
theorem nAdds_pre : ∀ (xs l : List α), l <+: nAdds l xs
  | [], _ => List.prefix_refl _
  | x :: xs, l => (nAdd_pre l x).trans (nAdds_pre xs (nAdd l x))
theorem mem_nAdds {y : α} : ∀ (xs l : List α), y ∈ nAdds l xs ↔ y ∈ l ∨ y ∈ xs
  | [], l => by simp [nAdds]
  | x :: xs, l => by
    rw [nAdds_cons, mem_nAdds xs, mem_nAdd, List.mem_cons, or_assoc]
theorem nAdds_nodup : ∀ (xs : List α) {l : List α}, l.Nodup → (nAdds l xs).Nodup
  | [], _, h => h
  | x :: xs, _, h => nAdds_nodup xs (nAdd_nodup h x)

/-- What is come to: from the n-th on, each with what it leads to. -/
def nRun (nx : α → List α) : Nat → Nat → List α → List α
  | 0, _, l => l
  | f + 1, n, l => match l[n]? with
    | none => l
    | some x => nRun nx f (n + 1) (nAdds l (nx x))

theorem nRun_some {nx : α → List α} {f n : Nat} {l : List α} {x : α} (h : l[n]? = some x) : nRun nx (f + 1) n l = nRun nx f (n + 1) (nAdds l (nx x)) := by
  rw [nRun, h]
theorem nRun_none {nx : α → List α} {f n : Nat} {l : List α} (h : l.length ≤ n) : nRun nx f n l = l := by
  cases f with
  | zero => rfl
  | succ f => rw [nRun, List.getElem?_eq_none h]

theorem nRun_pre (nx : α → List α) : ∀ (f n : Nat) (l : List α), l <+: nRun nx f n l
  | 0, _, _ => List.prefix_refl _
  | f + 1, n, l => by
    by_cases h : n < l.length
    · rw [nRun_some (List.getElem?_eq_getElem h)]
      exact (nAdds_pre _ _).trans (nRun_pre nx f (n + 1) _)
    · rw [nRun_none (by omega)]; exact List.prefix_refl _
theorem nRun_nodup (nx : α → List α) : ∀ (f n : Nat) {l : List α}, l.Nodup → (nRun nx f n l).Nodup
  | 0, _, _, h => h
  | f + 1, n, l, h => by
    by_cases e : n < l.length
    · rw [nRun_some (List.getElem?_eq_getElem e)]
      exact nRun_nodup nx f (n + 1) (nAdds_nodup _ h)
    · rw [nRun_none (by omega)]; exact h
/-- What holds of all that is there, and goes on to what is led to, holds of all. -/
theorem nRun_all {nx : α → List α} {P : α → Prop} (hP : ∀ x, P x → ∀ y ∈ nx x, P y) : ∀ (f n : Nat) {l : List α}, (∀ x ∈ l, P x) → ∀ x ∈ nRun nx f n l, P x
  | 0, _, _, h => h
  | f + 1, n, l, h => by
    by_cases e : n < l.length
    · rw [nRun_some (List.getElem?_eq_getElem e)]
      refine nRun_all hP f (n + 1) (fun x hx => ?_)
      rcases (mem_nAdds _ _).1 hx with hx | hx
      · exact h x hx
      · exact hP _ (h _ (List.getElem_mem e)) x hx
    · rw [nRun_none (by omega)]; exact h

theorem nodup_le {U : List α} : ∀ {l : List α}, l.Nodup → (∀ x ∈ l, x ∈ U) → l.length ≤ U.length := by
  intro l
  induction l generalizing U with
  | nil => intro _ _; exact Nat.zero_le _
  | cons a l ih =>
    intro hn hs
    have hn2 := List.nodup_cons.1 hn
    have ha := hs a List.mem_cons_self
    have h1 := ih (U := U.erase a) hn2.2 (fun x hx => (List.mem_erase_of_ne (fun e => hn2.1 (by rw [← e]; exact hx))).2 (hs x (List.mem_cons_of_mem _ hx)))
    rw [List.length_erase_of_mem ha] at h1
    have h2 := List.length_pos_of_mem ha
    simp only [List.length_cons]
    omega

/-- All that is numbered, from a list on. -/
def nAll (nx : α → List α) (f : Nat) (start : List α) : List α := nRun nx f 0 (nAdds [] start)
/-- A list's numbers, each once. -/
def nNums (L : List α) (xs : List α) : List Nat := nAdds [] (xs.map fun x => ix x L)

theorem nAll_start {nx : α → List α} {f : Nat} {start : List α} {x : α} (h : x ∈ start) : x ∈ nAll nx f start :=
  (nRun_pre nx f 0 _).subset ((mem_nAdds _ _).2 (Or.inr h))
theorem nAll_nodup (nx : α → List α) (f : Nat) (start : List α) : (nAll nx f start).Nodup := nRun_nodup nx f 0 (nAdds_nodup _ List.nodup_nil)
end

end Go.Proofs.YtdncjikmknkkpaaDoor

namespace Go.Proofs.YtdncjikmknkkpaaDoor

/-- An automaton: where it may begin, where it goes on, which letters may stand at a state, its fair sets. -/
structure Atm where
  st : Nat → Prop
  nx : Nat → Nat → Prop
  lt : Nat → Int → Prop
  K : Nat
  fr : Nat → Nat → Prop

/-- c is the automaton of pairs of a and b, numbered by p. -/
structure Pairs (a b c : Atm) (p : Nat → Nat × Nat) (N : Nat) : Prop where
  st1 : ∀ i, c.st i → a.st (p i).1 ∧ b.st (p i).2
  st2 : ∀ x y l, a.st x → b.st y → a.lt x l → b.lt y l → ∃ i, i < N ∧ c.st i ∧ p i = (x, y)
  nx1 : ∀ i j, c.nx i j → a.nx (p i).1 (p j).1 ∧ b.nx (p i).2 (p j).2
  nx2 : ∀ i, i < N → ∀ x y l, a.nx (p i).1 x → b.nx (p i).2 y → a.lt x l → b.lt y l → ∃ j, j < N ∧ c.nx i j ∧ p j = (x, y)
  lt : ∀ i l, c.lt i l ↔ (a.lt (p i).1 l ∧ b.lt (p i).2 l)
  K : c.K = a.K + b.K
  fr1 : ∀ k, k < a.K → ∀ i, i < N → (c.fr k i ↔ a.fr k (p i).1)
  fr2 : ∀ k, k < b.K → ∀ i, i < N → (c.fr (a.K + k) i ↔ b.fr k (p i).2)
  big : ∀ i, c.st i → i < N
  bigx : ∀ i j, c.nx i j → j < N

end Go.Proofs.YtdncjikmknkkpaaDoor

namespace Go.Proofs.YtdncjikmknkkpaaDoor
open Go.RowKit

/-- The pairs of two lists that go together, in order. -/
def crs (ok : Nat → Nat → Bool) (l k : List Nat) : List (Nat × Nat) := l.flatMap fun x => (k.filter fun y => ok x y).map fun y => (x, y)

theorem mem_crs {ok : Nat → Nat → Bool} {l k : List Nat} {x y : Nat} : (x, y) ∈ crs ok l k ↔ x ∈ l ∧ y ∈ k ∧ ok x y = true := by
  unfold crs
  rw [List.mem_flatMap]
  constructor
  · rintro ⟨x', hx, h⟩
    obtain ⟨y', hy, he⟩ := List.mem_map.1 h
    obtain ⟨h1, h2⟩ := List.mem_filter.1 hy
    cases he
    exact ⟨hx, h1, h2⟩
  · rintro ⟨h1, h2, h3⟩
    exact ⟨x, h1, List.mem_map.2 ⟨y, List.mem_filter.2 ⟨h2, h3⟩, rfl⟩⟩

/-- The thing of a number. -/
def nAt (L : List (Nat × Nat)) (i : Nat) : Nat × Nat := L.getD i (0, 0)
theorem nAt_ix {L : List (Nat × Nat)} {x : Nat × Nat} (h : x ∈ L) : nAt L (ix x L) = x := by
  unfold nAt
  rw [List.getD_eq_getElem?_getD, ix_at h]
  rfl
theorem nAt_mem {L : List (Nat × Nat)} {i : Nat} (h : i < L.length) : nAt L i ∈ L := by
  unfold nAt
  rw [List.getD_eq_getElem?_getD, List.getElem?_eq_getElem h]
  exact List.getElem_mem h
/-- What a pair leads to. -/
def bNx (ok : Nat → Nat → Bool) (aN bN : Nat → List Nat) (p : Nat × Nat) : List (Nat × Nat) := crs ok (aN p.1) (bN p.2)

end Go.Proofs.YtdncjikmknkkpaaDoor
