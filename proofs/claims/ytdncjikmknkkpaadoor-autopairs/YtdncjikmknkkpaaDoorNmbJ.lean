/- Things numbered as they first come: pure. Endless ways that meet each set again and again: told by a set that one need not leave, and by parts. Words that go round: their letters, their least form, when two are alike. Automata of words, apart from memory: rows of states; pairs; one fair set; the graph of states and places. The automata of pairs and of one fair set, as they are numbered: pure. -/
import Derived.Test.YtdncjikmknkkpaaDoorBase
namespace Go.Proofs.YtdncjikmknkkpaaDoor
open Go.RowKit

theorem pre_at {α : Type} {l k : List α} {i : Nat} {x : α} (h : l <+: k) (hi : l[i]? = some x) : k[i]? = some x := by
  obtain ⟨r, rfl⟩ := h
  rw [List.getElem?_append_left (List.getElem?_eq_some_iff.1 hi).1]
  exact hi

section
variable {α : Type} [DecidableEq α]

/-- The number of x in a list: where it first stands. -/
def ix (x : α) : List α → Nat
  | [] => 0
  | y :: l => if y = x then 0 else ix x l + 1

theorem ix_lt {x : α} : ∀ {l : List α}, x ∈ l → ix x l < l.length
  | [], h => by cases h
  | y :: l, h => by
    unfold ix
    by_cases e : y = x
    · rw [if_pos e]; exact Nat.succ_pos _
    · rw [if_neg e]
      have : x ∈ l := by
        rcases List.mem_cons.1 h with h | h
        · exact absurd h.symm e
        · exact h
      have := ix_lt this
      simp only [List.length_cons]
      omega
theorem ix_at {x : α} : ∀ {l : List α}, x ∈ l → l[ix x l]? = some x
  | [], h => by cases h
  | y :: l, h => by
    unfold ix
    by_cases e : y = x
    · rw [if_pos e, e]; rfl
    · rw [if_neg e]
      have : x ∈ l := by
        rcases List.mem_cons.1 h with h | h
        · exact absurd h.symm e
        · exact h
      rw [List.getElem?_cons_succ]
      exact ix_at this
theorem ix_app {x : α} {k : List α} : ∀ {l : List α}, x ∈ l → ix x (l ++ k) = ix x l
  | [], h => by cases h
  | y :: l, h => by
    show ix x (y :: (l ++ k)) = _
    unfold ix
    by_cases e : y = x
    · rw [if_pos e, if_pos e]
    · have : x ∈ l := by
        rcases List.mem_cons.1 h with h | h
        · exact absurd h.symm e
        · exact h
      rw [if_neg e, if_neg e, ix_app this]
theorem ix_new {x : α} : ∀ {l : List α}, x ∉ l → ix x (l ++ [x]) = l.length
  | [], _ => by simp [ix]
  | y :: l, h => by
    show ix x (y :: (l ++ [x])) = _
    unfold ix
    have e : y ≠ x := fun e => h (by rw [e]; exact List.mem_cons_self)
    rw [if_neg e, ix_new (fun hh => h (List.mem_cons_of_mem _ hh))]
    rfl
theorem ix_pre {x : α} {l k : List α} (h : x ∈ l) (hp : l <+: k) : ix x k = ix x l := by
  obtain ⟨r, rfl⟩ := hp
  exact ix_app h
theorem at_ix {x : α} : ∀ {l : List α} {i : Nat}, l.Nodup → l[i]? = some x → ix x l = i
  | [], i, _, h => by simp at h
  | y :: l, 0, _, h => by
    simp at h
    unfold ix
    rw [if_pos h]
  | y :: l, i + 1, hn, h => by
    rw [List.getElem?_cons_succ] at h
    have hn2 := List.nodup_cons.1 hn
    have hm : x ∈ l := List.mem_of_getElem? h
    unfold ix
    rw [if_neg (fun e => hn2.1 (by rw [e]; exact hm)), at_ix hn2.2 h]

/-- One more, if it is not there. -/
def nAdd (l : List α) (x : α) : List α := if x ∈ l then l else l ++ [x]
/-- Some more, one behind the other. -/
def nAdds (l xs : List α) : List α := xs.foldl nAdd l

theorem nAdd_pre (l : List α) (x : α) : l <+: nAdd l x := by
  unfold nAdd
  by_cases h : x ∈ l
  · rw [if_pos h]; exact List.prefix_refl _
  · rw [if_neg h]; exact List.prefix_append _ _
theorem mem_nAdd {l : List α} {x y : α} : y ∈ nAdd l x ↔ y ∈ l ∨ y = x := by
  unfold nAdd
  by_cases h : x ∈ l
  · rw [if_pos h]
    exact ⟨Or.inl, fun hh => hh.elim id (fun e => by rw [e]; exact h)⟩
  · rw [if_neg h, List.mem_append, List.mem_singleton]
theorem nAdd_nodup {l : List α} (h : l.Nodup) (x : α) : (nAdd l x).Nodup := by
  unfold nAdd
  by_cases e : x ∈ l
  · rw [if_pos e]; exact h
  · rw [if_neg e]
    refine List.nodup_append.2 ⟨h, by simp, ?_⟩
    intro a ha b hb hab
    rw [List.mem_singleton] at hb
    exact e (by rw [← hb, ← hab]; exact ha)
theorem nAdds_nil (l : List α) : nAdds l [] = l := rfl
theorem nAdds_cons (l : List α) (x : α) (xs : List α) : nAdds l (x :: xs) = nAdds (nAdd l x) xs := rfl
theorem nAdds_snoc (l : List α) (xs : List α) (x : α) : nAdds l (xs ++ [x]) = nAdd (nAdds l xs) x := by
  unfold nAdds
  rw [List.foldl_append]
  rfl
theorem nAdds_pre : ∀ (xs l : List α), l <+: nAdds l xs
  | [], _ => List.prefix_refl _
  | x :: xs, l => (nAdd_pre l x).trans (nAdds_pre xs (nAdd l x))
theorem mem_nAdds {y : α} : ∀ (xs l : List α), y ∈ nAdds l xs ↔ y ∈ l ∨ y ∈ xs
  | [], l => by simp [nAdds]
  | x :: xs, l => by
    rw [nAdds_cons, mem_nAdds xs, mem_nAdd, List.mem_cons, or_assoc]
theorem nAdds_nodup : ∀ (xs : List α) {l : List α}, l.Nodup → (nAdds l xs).Nodup
  | [], _, h => h
  | x :: xs, _, h => nAdds_nodup xs (nAdd_nodup h x)

/-- What is come to: from the n-th on, each with what it leads to. -/
def nRun (nx : α → List α) : Nat → Nat → List α → List α
  | 0, _, l => l
  | f + 1, n, l => match l[n]? with
    | none => l
    | some x => nRun nx f (n + 1) (nAdds l (nx x))

theorem nRun_some {nx : α → List α} {f n : Nat} {l : List α} {x : α} (h : l[n]? = some x) : nRun nx (f + 1) n l = nRun nx f (n + 1) (nAdds l (nx x)) := by
  rw [nRun, h]
theorem nRun_none {nx : α → List α} {f n : Nat} {l : List α} (h : l.length ≤ n) : nRun nx f n l = l := by
  cases f with
  | zero => rfl
  | succ f => rw [nRun, List.getElem?_eq_none h]

theorem nRun_pre (nx : α → List α) : ∀ (f n : Nat) (l : List α), l <+: nRun nx f n l
  | 0, _, _ => List.prefix_refl _
  | f + 1, n, l => by
    by_cases h : n < l.length
    · rw [nRun_some (List.getElem?_eq_getElem h)]
      exact (nAdds_pre _ _).trans (nRun_pre nx f (n + 1) _)
    · rw [nRun_none (by omega)]; exact List.prefix_refl _
theorem nRun_nodup (nx : α → List α) : ∀ (f n : Nat) {l : List α}, l.Nodup → (nRun nx f n l).Nodup
  | 0, _, _, h => h
  | f + 1, n, l, h => by
    by_cases e : n < l.length
    · rw [nRun_some (List.getElem?_eq_getElem e)]
      exact nRun_nodup nx f (n + 1) (nAdds_nodup _ h)
    · rw [nRun_none (by omega)]; exact h
/-- What holds of all that is there, and goes on to what is led to, holds of all. -/
theorem nRun_all {nx : α → List α} {P : α → Prop} (hP : ∀ x, P x → ∀ y ∈ nx x, P y) : ∀ (f n : Nat) {l : List α}, (∀ x ∈ l, P x) → ∀ x ∈ nRun nx f n l, P x
  | 0, _, _, h => h
  | f + 1, n, l, h => by
    by_cases e : n < l.length
    · rw [nRun_some (List.getElem?_eq_getElem e)]
      refine nRun_all hP f (n + 1) (fun x hx => ?_)
      rcases (mem_nAdds _ _).1 hx with hx | hx
      · exact h x hx
      · exact hP _ (h _ (List.getElem_mem e)) x hx
    · rw [nRun_none (by omega)]; exact h

/-- Gone through to its end it leads to nothing else. -/
theorem nRun_closed {nx : α → List α} : ∀ (f n : Nat) {l : List α}, (nRun nx f n l).length ≤ n + f → ∀ i x, n ≤ i → (nRun nx f n l)[i]? = some x → ∀ y ∈ nx x, y ∈ nRun nx f n l
  | 0, n, l, hl, i, x, hn, hi, _, _ => by
    have h1 := (List.getElem?_eq_some_iff.1 hi).1
    omega
  | f + 1, n, l, hl, i, x, hn, hi, y, hy => by
    by_cases e : n < l.length
    · have hs := nRun_some (nx := nx) (f := f) (List.getElem?_eq_getElem e)
      rw [hs] at hl hi ⊢
      by_cases h : i = n
      · subst h
        have h1 := pre_at ((nAdds_pre (nx l[i]) l).trans (nRun_pre nx f (i + 1) _)) (List.getElem?_eq_getElem e)
        rw [hi] at h1
        obtain rfl := Option.some.inj h1
        have h2 : y ∈ nAdds l (nx l[i]) := (mem_nAdds _ _).2 (Or.inr hy)
        exact (nRun_pre nx f (i + 1) _).subset h2
      · exact nRun_closed f (n + 1) (by omega) i x (by omega) hi y hy
    · rw [nRun_none (by omega)] at hl hi
      have h1 := (List.getElem?_eq_some_iff.1 hi).1
      omega

/-- More fuel makes no difference. -/
theorem nRun_more {nx : α → List α} : ∀ (f n d : Nat) {l : List α}, (nRun nx f n l).length ≤ n + f → nRun nx (f + d) n l = nRun nx f n l
  | 0, n, d, l, h => by
    have h' : l.length ≤ n := h
    rw [Nat.zero_add, nRun_none h']
    rfl
  | f + 1, n, d, l, h => by
    by_cases e : n < l.length
    · have hs := fun g => nRun_some (nx := nx) (f := g) (List.getElem?_eq_getElem e)
      rw [show f + 1 + d = f + d + 1 by omega, hs, hs]
      rw [hs] at h
      exact nRun_more f (n + 1) d (by omega)
    · rw [nRun_none (by omega), nRun_none (by omega)]

theorem nodup_le {U : List α} : ∀ {l : List α}, l.Nodup → (∀ x ∈ l, x ∈ U) → l.length ≤ U.length := by
  intro l
  induction l generalizing U with
  | nil => intro _ _; exact Nat.zero_le _
  | cons a l ih =>
    intro hn hs
    have hn2 := List.nodup_cons.1 hn
    have ha := hs a List.mem_cons_self
    have h1 := ih (U := U.erase a) hn2.2 (fun x hx => (List.mem_erase_of_ne (fun e => hn2.1 (by rw [← e]; exact hx))).2 (hs x (List.mem_cons_of_mem _ hx)))
    rw [List.length_erase_of_mem ha] at h1
    have h2 := List.length_pos_of_mem ha
    simp only [List.length_cons]
    omega

/-- Within a list of U as many rounds as U is long are enough. -/
theorem nRun_ends {nx : α → List α} {U l : List α} (hn : l.Nodup) (hl : ∀ x ∈ l, x ∈ U) (hU : ∀ x ∈ U, ∀ y ∈ nx x, y ∈ U) (n f : Nat) (hf : U.length ≤ f) : (nRun nx f n l).length ≤ n + f := by
  have := nodup_le (nRun_nodup nx f n hn) (nRun_all (P := fun x => x ∈ U) hU f n hl)
  omega

/-- All that is numbered, from a list on. -/
def nAll (nx : α → List α) (f : Nat) (start : List α) : List α := nRun nx f 0 (nAdds [] start)
/-- A list's numbers, each once. -/
def nNums (L : List α) (xs : List α) : List Nat := nAdds [] (xs.map fun x => ix x L)

theorem mem_nNums {L xs : List α} {i : Nat} : i ∈ nNums L xs ↔ ∃ x ∈ xs, ix x L = i := by
  unfold nNums
  rw [mem_nAdds, List.mem_map]
  simp

theorem nAll_start {nx : α → List α} {f : Nat} {start : List α} {x : α} (h : x ∈ start) : x ∈ nAll nx f start :=
  (nRun_pre nx f 0 _).subset ((mem_nAdds _ _).2 (Or.inr h))
theorem nAll_nodup (nx : α → List α) (f : Nat) (start : List α) : (nAll nx f start).Nodup := nRun_nodup nx f 0 (nAdds_nodup _ List.nodup_nil)
theorem nAll_next {nx : α → List α} {f : Nat} {start : List α} (h : (nAll nx f start).length ≤ f) {x y : α} (hx : x ∈ nAll nx f start) (hy : y ∈ nx x) : y ∈ nAll nx f start := by
  obtain ⟨i, hi⟩ := List.getElem?_of_mem hx
  exact nRun_closed f 0 (by rw [Nat.zero_add]; exact h) i x (Nat.zero_le _) hi y hy
/-- The first one of a list's numbers that goes into a list that is there so far is the number that it has in the end. -/
theorem nAdds_ix {l xs L : List α} (h : nAdds l xs <+: L) {x : α} (hx : x ∈ xs) : ix x L = ix x (nAdds l xs) := ix_pre ((mem_nAdds _ _).2 (Or.inr hx)) h
end

end Go.Proofs.YtdncjikmknkkpaaDoor

namespace Go.Proofs.YtdncjikmknkkpaaDoor

/-- An endless way. -/
def Wy (E : Nat → Nat → Prop) (p : Nat → Nat) : Prop := ∀ j, E (p j) (p (j + 1))
/-- Again and again. -/
def Oft (F : Nat → Prop) (p : Nat → Nat) : Prop := ∀ j, ∃ l, j ≤ l ∧ F (p l)
/-- From i an endless way begins that meets each of K sets again and again. -/
def FairAt (E : Nat → Nat → Prop) (K : Nat) (F : Nat → Nat → Prop) (i : Nat) : Prop := ∃ p : Nat → Nat, p 0 = i ∧ Wy E p ∧ ∀ k, k < K → Oft (F k) p

/-- A way of n goings, all of it in Z. -/
def PthZ (E : Nat → Nat → Prop) (Z : Nat → Prop) : Nat → Nat → Nat → Prop
  | 0, i, j => i = j ∧ Z i
  | n + 1, i, j => Z i ∧ ∃ l, E i l ∧ PthZ E Z n l j

theorem PthZ.first {E : Nat → Nat → Prop} {Z : Nat → Prop} {n i j : Nat} (h : PthZ E Z n i j) : Z i := by
  cases n with
  | zero => exact h.2
  | succ n => exact h.1
theorem PthZ.app {E : Nat → Nat → Prop} {Z : Nat → Prop} : ∀ {n m i j l : Nat}, PthZ E Z n i j → PthZ E Z m j l → PthZ E Z (n + m) i l
  | 0, m, i, j, l, h, k => by
    obtain ⟨rfl, _⟩ := h
    rw [Nat.zero_add]; exact k
  | n + 1, m, i, j, l, ⟨h1, x, h2, h3⟩, k => by
    rw [Nat.succ_add]
    exact ⟨h1, x, h2, PthZ.app h3 k⟩
theorem PthZ.mono {E : Nat → Nat → Prop} {Z Y : Nat → Prop} (hZ : ∀ i, Z i → Y i) : ∀ {n i j : Nat}, PthZ E Z n i j → PthZ E Y n i j
  | 0, _, _, h => ⟨h.1, hZ _ h.2⟩
  | _ + 1, _, _, ⟨h1, x, h2, h3⟩ => ⟨hZ _ h1, x, h2, PthZ.mono hZ h3⟩

/-- From each of Z one comes, within Z, by one going at least, to each of the sets. -/
def Closed (E : Nat → Nat → Prop) (K : Nat) (F : Nat → Nat → Prop) (Z : Nat → Prop) : Prop := ∀ i, Z i → ∀ k, k < K → ∃ n j, PthZ E Z (n + 1) i j ∧ F k j

theorem fair_of_closed {E : Nat → Nat → Prop} {K : Nat} {F : Nat → Nat → Prop} {Z : Nat → Prop} (hK : 0 < K) (h : Closed E K F Z) {i : Nat} (hi : Z i) : FairAt E K F i := by
  -- a state: where one is, which set is waited for, how many goings are left
  let Ok : Nat × Nat × Nat → Prop := fun s => s.2.1 < K ∧ ∃ j, PthZ E Z (s.2.2 + 1) s.1 j ∧ F s.2.1 j
  have hz : ∀ s, Ok s → Z s.1 := fun s hs => by
    obtain ⟨_, j, h1, _⟩ := hs
    exact h1.first
  have hstep : ∀ s : Nat × Nat × Nat, ∃ s' : Nat × Nat × Nat, Ok s → (E s.1 s'.1 ∧ Ok s' ∧ (s.2.2 = 0 → F s.2.1 s'.1 ∧ s'.2.1 = (s.2.1 + 1) % K) ∧ (s.2.2 ≠ 0 → s'.2.1 = s.2.1 ∧ s'.2.2 + 1 = s.2.2)) := by
    rintro ⟨x, k, n⟩
    by_cases ho : Ok (x, k, n)
    · obtain ⟨hk, j, ⟨h1, y, h2, h3⟩, h4⟩ := ho
      cases n with
      | zero =>
        obtain ⟨rfl, hy⟩ := h3
        obtain ⟨n', j', h5, h6⟩ := h y hy ((k + 1) % K) (Nat.mod_lt _ hK)
        exact ⟨(y, (k + 1) % K, n'), fun _ => ⟨h2, ⟨Nat.mod_lt _ hK, j', h5, h6⟩, fun _ => ⟨h4, rfl⟩, fun e => absurd rfl e⟩⟩
      | succ n => exact ⟨(y, k, n), fun _ => ⟨h2, ⟨hk, j, h3, h4⟩, fun e => absurd e (Nat.succ_ne_zero n), fun _ => ⟨rfl, rfl⟩⟩⟩
    · exact ⟨(x, k, n), fun h => absurd h ho⟩
  obtain ⟨f, hf⟩ := Classical.axiomOfChoice hstep
  obtain ⟨n0, j0, h0, h1⟩ := h i hi 0 hK
  obtain ⟨q, hq0, hqs⟩ : ∃ q : Nat → Nat × Nat × Nat, q 0 = (i, 0, n0) ∧ ∀ t, q (t + 1) = f (q t) := ⟨fun t => Nat.rec (i, 0, n0) (fun _ s => f s) t, rfl, fun _ => rfl⟩
  have hok : ∀ t, Ok (q t) := by
    intro t
    induction t with
    | zero => rw [hq0]; exact ⟨hK, j0, h0, h1⟩
    | succ t ih => rw [hqs]; exact (hf _ ih).2.1
  have hA : ∀ n t, (q t).2.2 = n → ∃ t', t < t' ∧ F (q t).2.1 (q t').1 ∧ (q t').2.1 = ((q t).2.1 + 1) % K := by
    intro n
    induction n with
    | zero =>
      intro t ht
      have := (hf _ (hok t)).2.2.1 ht
      rw [← hqs] at this
      exact ⟨t + 1, by omega, this⟩
    | succ n ih =>
      intro t ht
      have h3 := (hf _ (hok t)).2.2.2 (by omega)
      rw [← hqs] at h3
      obtain ⟨t', a, b, c⟩ := ih (t + 1) (by omega)
      rw [h3.1] at b c
      exact ⟨t', by omega, b, c⟩
  have hB : ∀ m t, ∃ t', t ≤ t' ∧ (q t').2.1 = ((q t).2.1 + m) % K := by
    intro m
    induction m with
    | zero => intro t; exact ⟨t, Nat.le_refl _, by rw [Nat.add_zero, Nat.mod_eq_of_lt (hok t).1]⟩
    | succ m ih =>
      intro t
      obtain ⟨t1, a, b⟩ := ih t
      obtain ⟨t2, c, _, d⟩ := hA _ t1 rfl
      refine ⟨t2, by omega, ?_⟩
      rw [d, b, Nat.mod_add_mod, Nat.add_assoc]
  refine ⟨fun t => (q t).1, by show (q 0).1 = i; rw [hq0], fun t => ?_, fun k hk j => ?_⟩
  · show E (q t).1 (q (t + 1)).1
    rw [hqs]; exact (hf _ (hok t)).1
  · obtain ⟨t1, a, b⟩ := hB (K + k - (q j).2.1) j
    have hlt := (hok j).1
    rw [show (q j).2.1 + (K + k - (q j).2.1) = k + K by omega, Nat.add_mod_right, Nat.mod_eq_of_lt hk] at b
    obtain ⟨t2, c, d, _⟩ := hA _ t1 rfl
    rw [b] at d
    exact ⟨t2, by omega, d⟩

theorem FairAt.tail {E : Nat → Nat → Prop} {K : Nat} {F : Nat → Nat → Prop} {p : Nat → Nat} (h : Wy E p) (hF : ∀ k, k < K → Oft (F k) p) (j : Nat) : FairAt E K F (p j) :=
  ⟨fun t => p (j + t), rfl, fun t => h (j + t), fun k hk t => by
    obtain ⟨l, h1, h2⟩ := hF k hk (j + t)
    exact ⟨l - j, by omega, by show F k (p (j + (l - j))); rw [show j + (l - j) = l by omega]; exact h2⟩⟩

/-- All those from which a fair way begins are such a set. -/
theorem fair_closed (E : Nat → Nat → Prop) (K : Nat) (F : Nat → Nat → Prop) : Closed E K F (FairAt E K F) := by
  rintro i ⟨p, rfl, hp, hF⟩ k hk
  have go : ∀ n j, PthZ E (FairAt E K F) n (p j) (p (j + n)) := by
    intro n
    induction n with
    | zero => intro j; exact ⟨rfl, FairAt.tail hp hF j⟩
    | succ n ih =>
      intro j
      refine ⟨FairAt.tail hp hF j, p (j + 1), hp j, ?_⟩
      have := ih (j + 1)
      rw [show j + 1 + n = j + (n + 1) by omega] at this
      exact this
  obtain ⟨l, h1, h2⟩ := hF k hk 1
  refine ⟨l - 1, p l, ?_, h2⟩
  have := go (l - 1 + 1) 0
  rw [show 0 + (l - 1 + 1) = l by omega] at this
  exact this

/-- So they are the greatest such set. -/
theorem closed_fair {E : Nat → Nat → Prop} {K : Nat} {F : Nat → Nat → Prop} (hK : 0 < K) {Z : Nat → Prop} (h : Closed E K F Z) (hall : ∀ i, FairAt E K F i → Z i) (i : Nat) : Z i ↔ FairAt E K F i :=
  ⟨fun hi => fair_of_closed hK h hi, hall i⟩

theorem fair_none (E : Nat → Nat → Prop) (F : Nat → Nat → Prop) (i : Nat) : FairAt E 0 F i ↔ FairAt E 1 (fun _ _ => True) i :=
  ⟨fun ⟨p, h1, h2, _⟩ => ⟨p, h1, h2, fun _ _ j => ⟨j, Nat.le_refl _, trivial⟩⟩, fun ⟨p, h1, h2, _⟩ => ⟨p, h1, h2, fun k hk => absurd hk (Nat.not_lt_zero k)⟩⟩

/-- By some goings, none too. -/
def Rc (E : Nat → Nat → Prop) (i j : Nat) : Prop := ∃ n, PthZ E (fun _ => True) n i j
/-- By one going at least. -/
def Rc1 (E : Nat → Nat → Prop) (i j : Nat) : Prop := ∃ n, PthZ E (fun _ => True) (n + 1) i j

theorem Rc.refl (E : Nat → Nat → Prop) (i : Nat) : Rc E i i := ⟨0, rfl, trivial⟩
theorem Rc.trans {E : Nat → Nat → Prop} {i j l : Nat} (h : Rc E i j) (k : Rc E j l) : Rc E i l := by
  obtain ⟨n, h⟩ := h
  obtain ⟨m, k⟩ := k
  exact ⟨n + m, h.app k⟩
theorem Rc.step {E : Nat → Nat → Prop} {i j l : Nat} (h : E i j) (k : Rc E j l) : Rc E i l := by
  obtain ⟨m, k⟩ := k
  exact ⟨m + 1, trivial, j, h, k⟩
theorem Rc1.of {E : Nat → Nat → Prop} {i j l : Nat} (h : E i j) (k : Rc E j l) : Rc1 E i l := by
  obtain ⟨m, k⟩ := k
  exact ⟨m, trivial, j, h, k⟩
theorem Rc1.rc {E : Nat → Nat → Prop} {i j : Nat} (h : Rc1 E i j) : Rc E i j := by
  obtain ⟨n, h⟩ := h
  exact ⟨n + 1, h⟩
theorem Rc1.app {E : Nat → Nat → Prop} {i j l : Nat} (h : Rc E i j) (k : Rc1 E j l) : Rc1 E i l := by
  obtain ⟨n, h⟩ := h
  obtain ⟨m, k⟩ := k
  exact ⟨n + m, h.app k⟩
theorem Rc1.then {E : Nat → Nat → Prop} {i j l : Nat} (h : Rc1 E i j) (k : Rc E j l) : Rc1 E i l := by
  obtain ⟨n, h⟩ := h
  obtain ⟨m, k⟩ := k
  refine ⟨n + m, ?_⟩
  have := h.app k
  rw [show n + 1 + m = n + m + 1 by omega] at this
  exact this

/-- All of a way to c is where one can come to c. -/
theorem pth_to {E : Nat → Nat → Prop} {c : Nat} : ∀ {n i j : Nat}, PthZ E (fun _ => True) n i j → Rc E j c → PthZ E (fun x => Rc E x c) n i j
  | 0, _, _, h, hc => ⟨h.1, by rw [h.1]; exact hc⟩
  | n + 1, i, j, ⟨_, x, h2, h3⟩, hc => ⟨Rc.step h2 (Rc.trans ⟨n, h3⟩ hc), x, h2, pth_to h3 hc⟩

theorem way_rc {E : Nat → Nat → Prop} {p : Nat → Nat} (h : Wy E p) (j n : Nat) : PthZ E (fun _ => True) n (p j) (p (j + n)) := by
  induction n generalizing j with
  | zero => exact ⟨rfl, trivial⟩
  | succ n ih =>
    refine ⟨trivial, p (j + 1), h j, ?_⟩
    have := ih (j + 1)
    rw [show j + 1 + n = j + (n + 1) by omega] at this
    exact this

/-- Of so many numbers one is met again and again. -/
theorem again_one {n : Nat} {p : Nat → Nat} {J : Nat → Prop} (hp : ∀ j, J j → p j < n) (hJ : ∀ j, ∃ l, j ≤ l ∧ J l) : ∃ c, c < n ∧ ∀ j, ∃ l, j ≤ l ∧ J l ∧ p l = c := by
  refine Classical.byContradiction fun hno => ?_
  have hb : ∀ m, m ≤ n → ∃ b, ∀ l, b ≤ l → J l → ¬ p l < m := by
    intro m
    induction m with
    | zero => intro _; exact ⟨0, fun l _ _ h => absurd h (Nat.not_lt_zero _)⟩
    | succ m ih =>
      intro hm
      obtain ⟨b, hb⟩ := ih (by omega)
      have h1 : ¬ ∀ j, ∃ l, j ≤ l ∧ J l ∧ p l = m := fun h => hno ⟨m, by omega, h⟩
      obtain ⟨j, hj⟩ := Classical.not_forall.1 h1
      refine ⟨max b j, fun l hl hJl hlt => ?_⟩
      have h2 := hb l (by omega) hJl
      exact hj ⟨l, by omega, hJl, by omega⟩
  obtain ⟨b, hb⟩ := hb n (Nat.le_refl _)
  obtain ⟨l, h1, h2⟩ := hJ b
  exact hb l h1 h2 (hp l h2)

/-- By parts: a fair way begins just where one can come to a node that comes back to itself, and with each set in its part. -/
theorem fair_part {E : Nat → Nat → Prop} {K : Nat} {F : Nat → Nat → Prop} {n : Nat} (hE : ∀ i j, E i j → j < n) (i : Nat) : FairAt E K F i ↔ ∃ c, Rc E i c ∧ Rc1 E c c ∧ ∀ k, k < K → ∃ x, F k x ∧ Rc E c x ∧ Rc E x c := by
  constructor
  · rintro ⟨p, rfl, hp, hF⟩
    have hlt : ∀ j, 1 ≤ j → p j < n := fun j hj => by
      have := hE _ _ (hp (j - 1))
      rwa [show j - 1 + 1 = j by omega] at this
    obtain ⟨c, _, hc⟩ := again_one (n := n) (p := p) (J := fun j => 1 ≤ j) (fun j hj => hlt j hj) (fun j => ⟨j + 1, by omega, by omega⟩)
    have to : ∀ j l, j ≤ l → Rc E (p j) (p l) := fun j l h => ⟨l - j, by
      have := way_rc hp j (l - j)
      rw [show j + (l - j) = l by omega] at this
      exact this⟩
    obtain ⟨l0, _, _, e0⟩ := hc 0
    refine ⟨c, by rw [← e0]; exact to 0 l0 (by omega), ?_, fun k hk => ?_⟩
    · obtain ⟨l1, h1, _, e1⟩ := hc (l0 + 1)
      have := Rc1.of (hp l0) (to (l0 + 1) l1 h1)
      rw [e0, e1] at this
      exact this
    · obtain ⟨x, _, hx⟩ := again_one (n := n) (p := p) (J := fun j => 1 ≤ j ∧ F k (p j)) (fun j hj => hlt j hj.1) (fun j => by
        obtain ⟨l, h1, h2⟩ := hF k hk (j + 1)
        exact ⟨l, by omega, by omega, h2⟩)
      obtain ⟨l1, h1, ⟨_, h2⟩, e1⟩ := hx l0
      obtain ⟨l2, h3, _, e2⟩ := hc l1
      refine ⟨x, by rw [← e1]; exact h2, ?_, ?_⟩
      · rw [← e0, ← e1]; exact to l0 l1 h1
      · rw [← e1, ← e2]; exact to l1 l2 h3
  · rintro ⟨c, h1, h2, h3⟩
    have key : ∀ (K' : Nat) (F' : Nat → Nat → Prop), 0 < K' → (∀ k, k < K' → ∃ x, F' k x ∧ Rc E c x ∧ Rc E x c) → FairAt E K' F' i := by
      intro K' F' hK hx
      refine fair_of_closed (Z := fun x => Rc E x c) hK (fun z hz k hk => ?_) h1
      obtain ⟨x, hF, hcx, hxc⟩ := hx k hk
      obtain ⟨m, hm⟩ := (Rc1.app hz h2).then hcx
      exact ⟨m, x, pth_to hm hxc, hF⟩
    by_cases hK : 0 < K
    · exact key K F hK h3
    · obtain rfl : K = 0 := by omega
      rw [fair_none]
      exact key 1 _ (by omega) (fun _ _ => ⟨c, trivial, Rc.refl _ _, Rc.refl _ _⟩)

end Go.Proofs.YtdncjikmknkkpaaDoor

namespace Go.Proofs.YtdncjikmknkkpaaDoor
open Go.RowKit

/-- It comes again. -/
def Per {α : Type} (s m : Nat) (f : Nat → α) : Prop := ∀ i, s ≤ i → f (i + m) = f i

/-- The letter at a place of a word: s letters S, then m letters L again and again. -/
def ltr (s m : Nat) (S L : Nat → Int) (i : Nat) : Int := if i < s then S i else L ((i - s) % m)

theorem ltr_per (s m : Nat) (S L : Nat → Int) : Per s m (ltr s m S L) := by
  intro i hi
  unfold ltr
  rw [if_neg (by omega), if_neg (by omega), show i + m - s = i - s + m by omega, Nat.add_mod_right]

theorem ltr_stem {s m : Nat} {S L : Nat → Int} {i : Nat} (h : i < s) : ltr s m S L i = S i := if_pos h
theorem ltr_loop {s m : Nat} {S L : Nat → Int} {i : Nat} (h : i < m) : ltr s m S L (s + i) = L i := by
  unfold ltr
  rw [if_neg (by omega), show s + i - s = i by omega, Nat.mod_eq_of_lt h]
theorem ltr_far {s m : Nat} {S L : Nat → Int} {i : Nat} (h : s ≤ i) : ltr s m S L i = L ((i - s) % m) := if_neg (by omega)

theorem Per.mul {α : Type} {s m : Nat} {f : Nat → α} (h : Per s m f) : ∀ k, Per s (m * k) f
  | 0 => fun i _ => by simp
  | k + 1 => fun i hi => by
    rw [Nat.mul_succ, ← Nat.add_assoc, h _ (by omega), Per.mul h k i hi]

theorem Per.le {α : Type} {s u m : Nat} {f : Nat → α} (h : Per s m f) (hu : s ≤ u) : Per u m f := fun i hi => h i (by omega)

theorem per_gcd {α : Type} {s : Nat} {f : Nat → α} (q m : Nat) : Per s q f → Per s m f → Per s (Nat.gcd q m) f := by
  induction q, m using Nat.gcd.induction with
  | H0 n => intro _ h; rw [Nat.gcd_zero_left]; exact h
  | H1 m n hm ih =>
    intro h1 h2
    rw [Nat.gcd_rec]
    refine ih (fun i hi => ?_) h1
    have e1 := h2 i hi
    have e2 := Per.mul h1 (n / m) (i + n % m) (by omega)
    rw [show i + n % m + m * (n / m) = i + n by have := Nat.mod_add_div n m; omega, e1] at e2
    exact e2.symm

/-- What comes again somewhere comes again from where the word goes round. -/
theorem Per.back {α : Type} {s u m q : Nat} {f : Nat → α} (h : Per s m f) (hm : 0 < m) (k : Per u q f) : Per s q f := by
  intro i hi
  have e1 := Per.mul h u i hi
  have e2 := Per.mul h u (i + q) (by omega)
  have hu : u ≤ m * u := Nat.le_mul_of_pos_left u hm
  have e3 := k (i + m * u) (by omega)
  rw [← e1, ← e3, ← e2]
  congr 1
  omega

/-- What has two periods has their greatest common one. -/
theorem Per.gcd {α : Type} {s u m q : Nat} {f : Nat → α} (h : Per s m f) (hm : 0 < m) (k : Per u q f) : Per s (Nat.gcd q m) f := per_gcd q m (h.back hm k) h

/-- A word's least form: its Stem has st letters, its Loop lp. -/
structure Lea (f : Nat → Int) (st lp : Nat) : Prop where
  pos : 0 < lp
  per : Per st lp f
  loop : ∀ q u, 0 < q → Per u q f → lp ≤ q
  stem : ∀ u, Per u lp f → st ≤ u

theorem Lea.uniq {f : Nat → Int} {st lp st' lp' : Nat} (h : Lea f st lp) (k : Lea f st' lp') : st = st' ∧ lp = lp' := by
  obtain rfl : lp = lp' := Nat.le_antisymm (h.loop _ _ k.pos k.per) (k.loop _ _ h.pos h.per)
  exact ⟨Nat.le_antisymm (h.stem _ k.per) (k.stem _ h.per), rfl⟩

/-- The least number of letters after which a Loop comes again. -/
structure Prd (m : Nat) (L : Nat → Int) (p : Nat) : Prop where
  pos : 0 < p
  div : m % p = 0
  same : ∀ i, i + p < m → L (i + p) = L i
  least : ∀ c, 0 < c → c < p → ¬ (m % c = 0 ∧ ∀ i, i + c < m → L (i + c) = L i)

theorem prd_per {s m : Nat} {S L : Nat → Int} {p : Nat} (hm : 0 < m) (hp : 0 < p) (hd : m % p = 0) (hs : ∀ i, i + p < m → L (i + p) = L i) : Per s p (ltr s m S L) := by
  intro i hi
  have hpm : p ≤ m := Nat.le_of_dvd hm (Nat.dvd_of_mod_eq_zero hd)
  rw [ltr_far hi, ltr_far (by omega), show i + p - s = i - s + p by omega]
  generalize i - s = j
  have h1 : (j + p) % m = (j % m + p) % m := (Nat.mod_add_mod j m p).symm
  rw [h1]
  have hr := Nat.mod_lt j hm
  generalize j % m = r at *
  by_cases h : r + p < m
  · rw [Nat.mod_eq_of_lt h]; exact hs r h
  · have e : (r + p) % m = r + p - m := by
      rw [Nat.mod_eq_sub_mod (by omega), Nat.mod_eq_of_lt (by omega)]
    rw [e]
    -- from r back by p's to r + p - m
    obtain ⟨c, hc⟩ := Nat.dvd_of_mod_eq_zero hd
    have go : ∀ k a, a + p * k < m → L (a + p * k) = L a := by
      intro k
      induction k with
      | zero => intro a _; simp
      | succ k ih =>
        intro a ha
        rw [Nat.mul_succ] at ha ⊢
        rw [← Nat.add_assoc, hs _ (by omega)]
        exact ih a (by omega)
    have hc1 : 0 < c := by
      rcases Nat.eq_zero_or_pos c with h0 | h0
      · rw [h0] at hc; omega
      · exact h0
    obtain ⟨k, rfl⟩ : ∃ k, c = k + 1 := ⟨c - 1, by omega⟩
    rw [Nat.mul_succ] at hc
    have := go k (r + p - m) (by omega)
    rw [show r + p - m + p * k = r by omega] at this
    exact this.symm

theorem per_same {s m : Nat} {S L : Nat → Int} {p : Nat} (h : Per s p (ltr s m S L)) : ∀ i, i + p < m → L (i + p) = L i := by
  intro i hi
  have := h (s + i) (by omega)
  rw [Nat.add_assoc, ltr_loop hi, ltr_loop (by omega)] at this
  exact this

theorem prd_least {s m : Nat} {S L : Nat → Int} {p : Nat} (hm : 0 < m) (h : Prd m L p) : Per s p (ltr s m S L) ∧ ∀ q u, 0 < q → Per u q (ltr s m S L) → p ≤ q := by
  refine ⟨prd_per hm h.pos h.div h.same, fun q u hq hu => ?_⟩
  have hg := (ltr_per s m S L).gcd hm hu
  have hg0 : 0 < Nat.gcd q m := Nat.gcd_pos_of_pos_left _ hq
  have hgq : Nat.gcd q m ≤ q := Nat.le_of_dvd hq (Nat.gcd_dvd_left _ _)
  by_cases hlt : Nat.gcd q m < p
  · exact absurd ⟨Nat.mod_eq_zero_of_dvd (Nat.gcd_dvd_right q m), per_same hg⟩ (h.least _ hg0 hlt)
  · omega

/-- The Stem is as short as it may be. -/
theorem lea_of {s m : Nat} {S L : Nat → Int} {p st : Nat} (hm : 0 < m) (h : Prd m L p) (hst : Per st p (ltr s m S L)) (hno : st = 0 ∨ ltr s m S L (st - 1 + p) ≠ ltr s m S L (st - 1)) : Lea (ltr s m S L) st p := by
  obtain ⟨_, h2⟩ := prd_least (s := s) (S := S) hm h
  refine ⟨h.pos, hst, h2, fun u hu => ?_⟩
  rcases hno with h0 | h0
  · omega
  · by_cases hlt : u < st
    · exact absurd (hu (st - 1) (by omega)) h0
    · omega

/-- A word written with st and lp letters is the word itself. -/
theorem ltr_again {f : Nat → Int} {st lp : Nat} (hp : 0 < lp) (h : Per st lp f) {S L : Nat → Int} (hS : ∀ i, i < st → S i = f i) (hL : ∀ i, i < lp → L i = f (st + i)) : ltr st lp S L = f := by
  funext i
  unfold ltr
  by_cases hi : i < st
  · rw [if_pos hi]; exact hS i hi
  · rw [if_neg hi, hL _ (Nat.mod_lt _ hp)]
    have := Per.mul h ((i - st) / lp) (st + (i - st) % lp) (by omega)
    rw [← this]
    congr 1
    have := Nat.mod_add_div (i - st) lp
    omega

/-- Two words that are alike so far as both need to come round are alike everywhere. -/
theorem alike_all {f g : Nat → Int} {s m u q : Nat} (hf : Per s m f) (hg : Per u q g) (hm : 0 < m) (hq : 0 < q) (hs : s ≤ 60) (hu : u ≤ 60) (h1 : m ≤ 60) (h2 : q ≤ 60) (h : ∀ i, i < 3660 → f i = g i) : ∀ i, f i = g i := by
  intro i
  induction i using Nat.strongRecOn with
  | ind i ih =>
    by_cases hi : i < 3660
    · exact h i hi
    · have hpos : 0 < m * q := Nat.mul_pos hm hq
      have hle : m * q ≤ 3600 := Nat.mul_le_mul h1 h2
      have e1 := Per.mul hf q (i - m * q) (by omega)
      have e2 := Per.mul hg m (i - m * q) (by omega)
      rw [Nat.mul_comm q m] at e2
      rw [show i - m * q + m * q = i by omega] at e1 e2
      rw [e1, e2]
      exact ih _ (by omega)

end Go.Proofs.YtdncjikmknkkpaaDoor

namespace Go.Proofs.YtdncjikmknkkpaaDoor

/-- An automaton: where it may begin, where it goes on, which letters may stand at a state, its fair sets. -/
structure Atm where
  st : Nat → Prop
  nx : Nat → Nat → Prop
  lt : Nat → Int → Prop
  K : Nat
  fr : Nat → Nat → Prop

/-- r is a row of states for a word. -/
structure Atm.Run (a : Atm) (o : Nat → Int) (r : Nat → Nat) : Prop where
  st : a.st (r 0)
  nx : ∀ j, a.nx (r j) (r (j + 1))
  lt : ∀ j, a.lt (r j) (o j)
  fr : ∀ k, k < a.K → Oft (a.fr k) r

def Atm.Acc (a : Atm) (o : Nat → Int) : Prop := ∃ r, a.Run o r

/-- c is the automaton of pairs of a and b, numbered by p. -/
structure Pairs (a b c : Atm) (p : Nat → Nat × Nat) (N : Nat) : Prop where
  st1 : ∀ i, c.st i → a.st (p i).1 ∧ b.st (p i).2
  st2 : ∀ x y l, a.st x → b.st y → a.lt x l → b.lt y l → ∃ i, i < N ∧ c.st i ∧ p i = (x, y)
  nx1 : ∀ i j, c.nx i j → a.nx (p i).1 (p j).1 ∧ b.nx (p i).2 (p j).2
  nx2 : ∀ i, i < N → ∀ x y l, a.nx (p i).1 x → b.nx (p i).2 y → a.lt x l → b.lt y l → ∃ j, j < N ∧ c.nx i j ∧ p j = (x, y)
  lt : ∀ i l, c.lt i l ↔ (a.lt (p i).1 l ∧ b.lt (p i).2 l)
  K : c.K = a.K + b.K
  fr1 : ∀ k, k < a.K → ∀ i, i < N → (c.fr k i ↔ a.fr k (p i).1)
  fr2 : ∀ k, k < b.K → ∀ i, i < N → (c.fr (a.K + k) i ↔ b.fr k (p i).2)
  big : ∀ i, c.st i → i < N
  bigx : ∀ i j, c.nx i j → j < N

theorem run_big {a b c : Atm} {p : Nat → Nat × Nat} {N : Nat} (h : Pairs a b c p N) {o : Nat → Int} {r : Nat → Nat} (hr : c.Run o r) (j : Nat) : r j < N := by
  cases j with
  | zero => exact h.big _ hr.st
  | succ j => exact h.bigx _ _ (hr.nx j)

theorem pairs_acc {a b c : Atm} {p : Nat → Nat × Nat} {N : Nat} (h : Pairs a b c p N) (o : Nat → Int) : c.Acc o ↔ (a.Acc o ∧ b.Acc o) := by
  constructor
  · rintro ⟨r, hr⟩
    have hb := run_big h hr
    refine ⟨⟨fun j => (p (r j)).1, (h.st1 _ hr.st).1, fun j => (h.nx1 _ _ (hr.nx j)).1, fun j => ((h.lt _ _).1 (hr.lt j)).1, fun k hk j => ?_⟩, ⟨fun j => (p (r j)).2, (h.st1 _ hr.st).2, fun j => (h.nx1 _ _ (hr.nx j)).2, fun j => ((h.lt _ _).1 (hr.lt j)).2, fun k hk j => ?_⟩⟩
    · obtain ⟨l, h1, h2⟩ := hr.fr k (by rw [h.K]; omega) j
      exact ⟨l, h1, (h.fr1 k hk _ (hb l)).1 h2⟩
    · obtain ⟨l, h1, h2⟩ := hr.fr (a.K + k) (by rw [h.K]; omega) j
      exact ⟨l, h1, (h.fr2 k hk _ (hb l)).1 h2⟩
  · rintro ⟨⟨x, hx⟩, ⟨y, hy⟩⟩
    -- a row of numbers, one behind the other
    have hstep : ∀ s : Nat × Nat, ∃ i : Nat, s.1 < N → p s.1 = (x s.2, y s.2) → (i < N ∧ c.nx s.1 i ∧ p i = (x (s.2 + 1), y (s.2 + 1))) := by
      rintro ⟨i, j⟩
      by_cases hi : i < N ∧ p i = (x j, y j)
      · obtain ⟨q, h1, h2, h3⟩ := h.nx2 i hi.1 (x (j + 1)) (y (j + 1)) (o (j + 1)) (by rw [hi.2]; exact hx.nx j) (by rw [hi.2]; exact hy.nx j) (hx.lt _) (hy.lt _)
        exact ⟨q, fun _ _ => ⟨h1, h2, h3⟩⟩
      · exact ⟨0, fun h1 h2 => absurd ⟨h1, h2⟩ hi⟩
    obtain ⟨f, hf⟩ := Classical.axiomOfChoice hstep
    obtain ⟨i0, h1, h2, h3⟩ := h.st2 (x 0) (y 0) (o 0) hx.st hy.st (hx.lt 0) (hy.lt 0)
    obtain ⟨r, hr0, hrs⟩ : ∃ r : Nat → Nat, r 0 = i0 ∧ ∀ j, r (j + 1) = f (r j, j) := ⟨fun j => Nat.rec i0 (fun j i => f (i, j)) j, rfl, fun _ => rfl⟩
    have hp : ∀ j, r j < N ∧ p (r j) = (x j, y j) := by
      intro j
      induction j with
      | zero => rw [hr0]; exact ⟨h1, h3⟩
      | succ j ih =>
        have := hf (r j, j) ih.1 ih.2
        rw [hrs]; exact ⟨this.1, this.2.2⟩
    refine ⟨r, by rw [hr0]; exact h2, fun j => ?_, fun j => ?_, fun k hk j => ?_⟩
    · rw [hrs]; exact (hf (r j, j) (hp j).1 (hp j).2).2.1
    · rw [h.lt, (hp j).2]; exact ⟨hx.lt j, hy.lt j⟩
    · rw [h.K] at hk
      by_cases hka : k < a.K
      · obtain ⟨l, h4, h5⟩ := hx.fr k hka j
        exact ⟨l, h4, (h.fr1 k hka _ (hp l).1).2 (by rw [(hp l).2]; exact h5)⟩
      · obtain ⟨l, h4, h5⟩ := hy.fr (k - a.K) (by omega) j
        refine ⟨l, h4, ?_⟩
        have := (h.fr2 (k - a.K) (by omega) _ (hp l).1).2 (by rw [(hp l).2]; exact h5)
        rwa [show a.K + (k - a.K) = k by omega] at this

/-- c is a with just one fair set: pairs of a state and the set that is waited for, numbered by p. -/
structure Ones (a c : Atm) (p : Nat → Nat × Nat) (N : Nat) : Prop where
  st1 : ∀ i, c.st i → i < N ∧ a.st (p i).1 ∧ (p i).2 = 0
  st2 : ∀ x, a.st x → ∃ i, i < N ∧ c.st i ∧ p i = (x, 0)
  nx1 : ∀ i j, i < N → c.nx i j → j < N ∧ a.nx (p i).1 (p j).1 ∧ ((a.fr (p i).2 (p i).1 ∧ 0 < a.K → (p j).2 = if (p i).2 + 1 = a.K then 0 else (p i).2 + 1) ∧ (¬ (a.fr (p i).2 (p i).1 ∧ 0 < a.K) → (p j).2 = (p i).2))
  nx2 : ∀ i, i < N → ∀ x k, a.nx (p i).1 x → (a.fr (p i).2 (p i).1 ∧ 0 < a.K → k = if (p i).2 + 1 = a.K then 0 else (p i).2 + 1) → (¬ (a.fr (p i).2 (p i).1 ∧ 0 < a.K) → k = (p i).2) → ∃ j, j < N ∧ c.nx i j ∧ p j = (x, k)
  lt : ∀ i l, i < N → (c.lt i l ↔ a.lt (p i).1 l)
  K : c.K = 1
  fr : ∀ i, i < N → (c.fr 0 i ↔ (p i).2 = 0 ∧ (a.K = 0 ∨ a.fr 0 (p i).1))

/-- A counter that waits for one set after the other goes round again and again just if each is met again and again. -/
theorem count_round {K : Nat} {F : Nat → Nat → Prop} {x k : Nat → Nat} (hK : 0 < K) (h0 : k 0 = 0) (h1 : ∀ j, F (k j) (x j) → k (j + 1) = if k j + 1 = K then 0 else k j + 1) (h2 : ∀ j, ¬ F (k j) (x j) → k (j + 1) = k j) :
    (∀ j, ∃ l, j ≤ l ∧ k l = 0 ∧ F 0 (x l)) ↔ ∀ i, i < K → ∀ j, ∃ l, j ≤ l ∧ F i (x l) := by
  have hk : ∀ j, k j < K := by
    intro j
    induction j with
    | zero => omega
    | succ j ih =>
      by_cases h : F (k j) (x j)
      · rw [h1 j h]
        split <;> omega
      · rw [h2 j h]; exact ih
  -- while it is not met the counter stays
  have stay : ∀ d j, (∀ l, j ≤ l → l < j + d → ¬ F (k j) (x l)) → k (j + d) = k j := by
    intro d
    induction d with
    | zero => intro j _; rfl
    | succ d ih =>
      intro j hn
      have e := ih j (fun l a b => hn l a (by omega))
      have := h2 (j + d) (by rw [e]; exact hn _ (by omega) (by omega))
      rw [← Nat.add_assoc, this, e]
  -- the next time
  have hit : ∀ j l, j ≤ l → F (k j) (x l) → ∃ q, j ≤ q ∧ k q = k j ∧ F (k j) (x q) ∧ q ≤ l := by
    intro j l hl hF
    induction l using Nat.strongRecOn with
    | ind l ih =>
      by_cases e : ∃ q, j ≤ q ∧ q < l ∧ F (k j) (x q)
      · obtain ⟨q, a, b, c⟩ := e
        obtain ⟨q', a', b', c', d'⟩ := ih q b a c
        exact ⟨q', a', b', c', by omega⟩
      · refine ⟨l, hl, ?_, hF, Nat.le_refl _⟩
        have := stay (l - j) j (fun q a b hq => e ⟨q, a, by omega, hq⟩)
        rwa [show j + (l - j) = l by omega] at this
  constructor
  · intro hz
    -- between two times at 0 each set is met
    have wait : ∀ i, i < K → ∀ j, ∃ l, j ≤ l ∧ k l = i ∧ F i (x l) := by
      intro i
      induction i with
      | zero => intro _ j; exact hz j
      | succ i ih =>
        intro hi j
        obtain ⟨l, a, b, c⟩ := ih (by omega) j
        have e1 : k (l + 1) = i + 1 := by rw [h1 l (by rw [b]; exact c), b, if_neg (by omega)]
        -- it comes to 0 again, so it must leave i + 1
        obtain ⟨l2, a2, b2, _⟩ := hz (l + 1)
        have : ∃ q, l + 1 ≤ q ∧ F (k (l + 1)) (x q) := by
          refine Classical.byContradiction fun hno => ?_
          have := stay (l2 - (l + 1)) (l + 1) (fun q a _ hq => hno ⟨q, a, hq⟩)
          rw [show l + 1 + (l2 - (l + 1)) = l2 by omega, b2, e1] at this
          omega
        obtain ⟨q, a3, b3⟩ := this
        obtain ⟨q', a4, b4, c4, _⟩ := hit (l + 1) q a3 b3
        rw [e1] at b4 c4
        exact ⟨q', by omega, b4, c4⟩
    intro i hi j
    obtain ⟨l, a, _, c⟩ := wait i hi j
    exact ⟨l, a, c⟩
  · intro hall
    -- the counter goes on again and again
    have on : ∀ j, ∃ q, j ≤ q ∧ k q = k j ∧ F (k j) (x q) := fun j => by
      obtain ⟨l, a, b⟩ := hall (k j) (hk j) j
      obtain ⟨q, a', b', c', _⟩ := hit j l a b
      exact ⟨q, a', b', c'⟩
    have zero : ∀ d j, K - k j = d → ∃ l, j ≤ l ∧ k l = 0 := by
      intro d
      induction d using Nat.strongRecOn with
      | ind d ih =>
        intro j hd
        by_cases e : k j = 0
        · exact ⟨j, Nat.le_refl _, e⟩
        · obtain ⟨q, a, b, c⟩ := on j
          have e1 := h1 q (by rw [b]; exact c)
          rw [b] at e1
          by_cases e2 : k j + 1 = K
          · rw [if_pos e2] at e1
            exact ⟨q + 1, by omega, e1⟩
          · rw [if_neg e2] at e1
            have hlt := hk j
            obtain ⟨l, a2, b2⟩ := ih (K - k (q + 1)) (by omega) (q + 1) rfl
            exact ⟨l, by omega, b2⟩
    intro j
    obtain ⟨l, a, b⟩ := zero _ j rfl
    obtain ⟨q, a2, b2, c2⟩ := on l
    rw [b] at b2 c2
    exact ⟨q, by omega, b2, c2⟩

theorem ones_acc {a c : Atm} {p : Nat → Nat × Nat} {N : Nat} (h : Ones a c p N) (o : Nat → Int) : c.Acc o ↔ a.Acc o := by
  constructor
  · rintro ⟨r, hr⟩
    have hb : ∀ j, r j < N := by
      intro j
      induction j with
      | zero => exact (h.st1 _ hr.st).1
      | succ j ih => exact (h.nx1 _ _ ih (hr.nx j)).1
    refine ⟨fun j => (p (r j)).1, (h.st1 _ hr.st).2.1, fun j => (h.nx1 _ _ (hb j) (hr.nx j)).2.1, fun j => (h.lt _ _ (hb j)).1 (hr.lt j), fun i hi j => ?_⟩
    have hK : 0 < a.K := by omega
    have := (count_round (F := a.fr) (x := fun j => (p (r j)).1) (k := fun j => (p (r j)).2) hK (h.st1 _ hr.st).2.2 (fun j hj => (h.nx1 _ _ (hb j) (hr.nx j)).2.2.1 ⟨hj, hK⟩) (fun j hj => (h.nx1 _ _ (hb j) (hr.nx j)).2.2.2 (fun hh => hj hh.1))).1 (fun j => by
      obtain ⟨l, h1, h2⟩ := hr.fr 0 (by rw [h.K]; omega) j
      have h3 := (h.fr _ (hb l)).1 h2
      exact ⟨l, h1, h3.1, h3.2.resolve_left (by omega)⟩) i hi j
    exact this
  · rintro ⟨x, hx⟩
    have hstep : ∀ s : Nat × Nat, ∃ i : Nat, s.1 < N → (p s.1).1 = x s.2 → (i < N ∧ c.nx s.1 i ∧ (p i).1 = x (s.2 + 1)) := by
      rintro ⟨i, j⟩
      by_cases hi : i < N ∧ (p i).1 = x j
      · by_cases hf : a.fr (p i).2 (p i).1 ∧ 0 < a.K
        · obtain ⟨q, h1, h2, h3⟩ := h.nx2 i hi.1 (x (j + 1)) (if (p i).2 + 1 = a.K then 0 else (p i).2 + 1) (by rw [hi.2]; exact hx.nx j) (fun _ => rfl) (fun hh => absurd hf hh)
          exact ⟨q, fun _ _ => ⟨h1, h2, by rw [h3]⟩⟩
        · obtain ⟨q, h1, h2, h3⟩ := h.nx2 i hi.1 (x (j + 1)) (p i).2 (by rw [hi.2]; exact hx.nx j) (fun hh => absurd hh hf) (fun _ => rfl)
          exact ⟨q, fun _ _ => ⟨h1, h2, by rw [h3]⟩⟩
      · exact ⟨0, fun h1 h2 => absurd ⟨h1, h2⟩ hi⟩
    obtain ⟨f, hf⟩ := Classical.axiomOfChoice hstep
    obtain ⟨i0, h1, h2, h3⟩ := h.st2 (x 0) hx.st
    obtain ⟨r, hr0, hrs⟩ : ∃ r : Nat → Nat, r 0 = i0 ∧ ∀ j, r (j + 1) = f (r j, j) := ⟨fun j => Nat.rec i0 (fun j i => f (i, j)) j, rfl, fun _ => rfl⟩
    have hp : ∀ j, r j < N ∧ (p (r j)).1 = x j := by
      intro j
      induction j with
      | zero => rw [hr0, h3]; exact ⟨h1, rfl⟩
      | succ j ih =>
        have := hf (r j, j) ih.1 ih.2
        rw [hrs]; exact ⟨this.1, this.2.2⟩
    have hnx : ∀ j, c.nx (r j) (r (j + 1)) := fun j => by rw [hrs]; exact (hf (r j, j) (hp j).1 (hp j).2).2.1
    refine ⟨r, by rw [hr0]; exact h2, hnx, fun j => by rw [h.lt _ _ (hp j).1, (hp j).2]; exact hx.lt j, fun k hk => ?_⟩
    rw [h.K] at hk
    obtain rfl : k = 0 := by omega
    by_cases hK : 0 < a.K
    · have := (count_round (F := a.fr) (x := x) (k := fun j => (p (r j)).2) hK (by show (p (r 0)).2 = 0; rw [hr0, h3]) (fun j hj => (h.nx1 _ _ (hp j).1 (hnx j)).2.2.1 ⟨by rw [(hp j).2]; exact hj, hK⟩) (fun j hj => (h.nx1 _ _ (hp j).1 (hnx j)).2.2.2 (fun hh => hj (by rw [(hp j).2] at hh; exact hh.1)))).2 (fun i hi => hx.fr i hi)
      intro j
      obtain ⟨l, a1, b1, c1⟩ := this j
      exact ⟨l, a1, (h.fr _ (hp l).1).2 ⟨b1, Or.inr (by rw [(hp l).2]; exact c1)⟩⟩
    · intro j
      have hz : ∀ j, (p (r j)).2 = 0 := by
        intro j
        induction j with
        | zero => rw [hr0, h3]
        | succ j ih => rw [(h.nx1 _ _ (hp j).1 (hnx j)).2.2.2 (fun hh => hK hh.2), ih]
      exact ⟨j, Nat.le_refl _, (h.fr _ (hp j).1).2 ⟨hz j, Or.inl (by omega)⟩⟩

/-- The place behind a place of a word. -/
def pnx (s m i : Nat) : Nat := if i + 1 < s + m then i + 1 else s
/-- The place of the word that stands for a far one. -/
def pat (s m j : Nat) : Nat := if j < s then j else s + (j - s) % m

theorem pat_lt {s m : Nat} (hm : 0 < m) (j : Nat) : pat s m j < s + m := by
  unfold pat
  have := Nat.mod_lt (j - s) hm
  split <;> omega
theorem pat_zero {s m : Nat} : pat s m 0 = 0 := by
  unfold pat
  by_cases h : 0 < s
  · rw [if_pos h]
  · rw [if_neg h, show 0 - s = 0 by omega, Nat.zero_mod]; omega
theorem pat_next {s m : Nat} (hm : 0 < m) (j : Nat) : pat s m (j + 1) = pnx s m (pat s m j) := by
  unfold pat pnx
  by_cases h : j + 1 < s
  · rw [if_pos h, if_pos (show j < s by omega), if_pos (by omega)]
  · rw [if_neg h]
    by_cases h2 : j < s
    · have e : s = j + 1 := by omega
      rw [if_pos h2, if_pos (by omega), e, Nat.sub_self, Nat.zero_mod, Nat.add_zero]
    · have hlt := Nat.mod_lt (j - s) hm
      rw [if_neg h2, show j + 1 - s = (j - s) + 1 by omega]
      by_cases h3 : (j - s) % m + 1 < m
      · have e : (j - s + 1) % m = (j - s) % m + 1 := by rw [Nat.add_mod, Nat.mod_eq_of_lt (a := 1) (by omega), Nat.mod_eq_of_lt h3]
        rw [if_pos (by omega), e]; omega
      · have e : (j - s + 1) % m = 0 := by
          by_cases h1 : m = 1
          · rw [h1, Nat.mod_one]
          · rw [Nat.add_mod, Nat.mod_eq_of_lt (a := 1) (by omega), show (j - s) % m + 1 = m by omega, Nat.mod_self]
        rw [if_neg (by omega), e, Nat.add_zero]
theorem ltr_pat {s m : Nat} {S L : Nat → Int} (hm : 0 < m) (j : Nat) : ltr s m S L (pat s m j) = ltr s m S L j := by
  unfold pat
  by_cases h : j < s
  · rw [if_pos h]
  · rw [if_neg h, ltr_loop (Nat.mod_lt _ hm), ltr_far (by omega)]

/-- The graph of states and places: E goes from a state at a place to a state at the next one, if both letters may stand there. -/
structure Grid (a : Atm) (s m : Nat) (o : Nat → Int) (enc : Nat → Nat → Nat) (E : Nat → Nat → Prop) (F : Nat → Nat → Prop) : Prop where
  inj : ∀ q i q' i', i < s + m → i' < s + m → enc q i = enc q' i' → q = q' ∧ i = i'
  edge : ∀ q i y, i < s + m → (E (enc q i) y ↔ ∃ q', y = enc q' (pnx s m i) ∧ a.nx q q' ∧ a.lt q (o i) ∧ a.lt q' (o (pnx s m i)))
  fair : ∀ k, k < a.K → ∀ q i, i < s + m → (F k (enc q i) ↔ a.fr k q)

theorem grid_acc {a : Atm} {s m : Nat} {S L : Nat → Int} (hm : 0 < m) {enc : Nat → Nat → Nat} {E F : Nat → Nat → Prop} (h : Grid a s m (ltr s m S L) enc E F) : a.Acc (ltr s m S L) ↔ ∃ q, a.st q ∧ a.lt q (ltr s m S L 0) ∧ FairAt E a.K F (enc q 0) := by
  constructor
  · rintro ⟨r, hr⟩
    refine ⟨r 0, hr.st, hr.lt 0, fun j => enc (r j) (pat s m j), by show enc (r 0) (pat s m 0) = enc (r 0) 0; rw [pat_zero], fun j => ?_, fun k hk j => ?_⟩
    · show E (enc (r j) (pat s m j)) (enc (r (j + 1)) (pat s m (j + 1)))
      rw [h.edge _ _ _ (pat_lt hm j), pat_next hm]
      refine ⟨r (j + 1), rfl, hr.nx j, by rw [ltr_pat hm]; exact hr.lt j, ?_⟩
      rw [← pat_next hm, ltr_pat hm]; exact hr.lt (j + 1)
    · obtain ⟨l, h1, h2⟩ := hr.fr k hk j
      exact ⟨l, h1, (h.fair k hk _ _ (pat_lt hm l)).2 h2⟩
  · rintro ⟨q, hq, hl, p, hp0, hp, hF⟩
    have hsp : ∀ j, ∃ x, p j = enc x (pat s m j) ∧ a.lt x (ltr s m S L j) := by
      intro j
      induction j with
      | zero => exact ⟨q, by rw [hp0, pat_zero], hl⟩
      | succ j ih =>
        obtain ⟨x, hx, _⟩ := ih
        have := hp j
        rw [hx, h.edge _ _ _ (pat_lt hm j)] at this
        obtain ⟨y, h1, _, _, h4⟩ := this
        rw [← pat_next hm] at h1 h4
        rw [ltr_pat hm] at h4
        exact ⟨y, h1, h4⟩
    obtain ⟨x, hx⟩ := Classical.axiomOfChoice hsp
    have hlt := pat_lt (s := s) hm
    refine ⟨x, ?_, fun j => ?_, fun j => (hx j).2, fun k hk j => ?_⟩
    · have e := (hx 0).1
      rw [hp0] at e
      have h0 : 0 < s + m := by omega
      rw [← (h.inj _ _ _ _ h0 (hlt 0) e).1]; exact hq
    · have := hp j
      rw [(hx j).1, h.edge _ _ _ (hlt j)] at this
      obtain ⟨y, h1, h2, _, _⟩ := this
      have e := (hx (j + 1)).1.symm.trans h1
      rw [pat_next hm] at e
      have hl2 := hlt (j + 1)
      rw [pat_next hm] at hl2
      rw [(h.inj _ _ _ _ hl2 hl2 e).1]; exact h2
    · obtain ⟨l, h1, h2⟩ := hF k hk j
      rw [(hx l).1, h.fair k hk _ _ (hlt l)] at h2
      exact ⟨l, h1, h2⟩

end Go.Proofs.YtdncjikmknkkpaaDoor

namespace Go.Proofs.YtdncjikmknkkpaaDoor
open Go.RowKit

/-- The pairs of two lists that go together, in order. -/
def crs (ok : Nat → Nat → Bool) (l k : List Nat) : List (Nat × Nat) := l.flatMap fun x => (k.filter fun y => ok x y).map fun y => (x, y)

theorem mem_crs {ok : Nat → Nat → Bool} {l k : List Nat} {x y : Nat} : (x, y) ∈ crs ok l k ↔ x ∈ l ∧ y ∈ k ∧ ok x y = true := by
  unfold crs
  rw [List.mem_flatMap]
  constructor
  · rintro ⟨x', hx, h⟩
    obtain ⟨y', hy, he⟩ := List.mem_map.1 h
    obtain ⟨h1, h2⟩ := List.mem_filter.1 hy
    cases he
    exact ⟨hx, h1, h2⟩
  · rintro ⟨h1, h2, h3⟩
    exact ⟨x, h1, List.mem_map.2 ⟨y, List.mem_filter.2 ⟨h2, h3⟩, rfl⟩⟩

/-- The thing of a number. -/
def nAt (L : List (Nat × Nat)) (i : Nat) : Nat × Nat := L.getD i (0, 0)
theorem nAt_ix {L : List (Nat × Nat)} {x : Nat × Nat} (h : x ∈ L) : nAt L (ix x L) = x := by
  unfold nAt
  rw [List.getD_eq_getElem?_getD, ix_at h]
  rfl
theorem nAt_mem {L : List (Nat × Nat)} {i : Nat} (h : i < L.length) : nAt L i ∈ L := by
  unfold nAt
  rw [List.getD_eq_getElem?_getD, List.getElem?_eq_getElem h]
  exact List.getElem_mem h
/-- A list's numbers are those of its things. -/
theorem nums_at {L xs : List (Nat × Nat)} (h : ∀ x ∈ xs, x ∈ L) {i : Nat} : i ∈ nNums L xs → i < L.length ∧ nAt L i ∈ xs := by
  intro hi
  obtain ⟨x, hx, rfl⟩ := mem_nNums.1 hi
  exact ⟨ix_lt (h x hx), by rw [nAt_ix (h x hx)]; exact hx⟩

/-- What a pair leads to. -/
def bNx (ok : Nat → Nat → Bool) (aN bN : Nat → List Nat) (p : Nat × Nat) : List (Nat × Nat) := crs ok (aN p.1) (bN p.2)

/-- The automaton of pairs, as it is numbered. -/
theorem both_pairs {a b c : Atm} {ok : Nat → Nat → Bool} {aS bS : List Nat} {aN bN : Nat → List Nat} {f : Nat} {L : List (Nat × Nat)} (hL : L = nAll (bNx ok aN bN) f (crs ok aS bS)) (hf : L.length ≤ f)
    (haS : ∀ x, a.st x ↔ x ∈ aS) (hbS : ∀ x, b.st x ↔ x ∈ bS) (haN : ∀ x y, a.nx x y ↔ y ∈ aN x) (hbN : ∀ x y, b.nx x y ↔ y ∈ bN x) (hok : ∀ x y l, a.lt x l → b.lt y l → ok x y = true)
    (hcS : ∀ i, c.st i ↔ i ∈ nNums L (crs ok aS bS)) (hcN : ∀ i j, c.nx i j ↔ i < L.length ∧ j ∈ nNums L (bNx ok aN bN (nAt L i)))
    (hcl : ∀ i l, c.lt i l ↔ (a.lt (nAt L i).1 l ∧ b.lt (nAt L i).2 l)) (hK : c.K = a.K + b.K) (hf1 : ∀ k, k < a.K → ∀ i, i < L.length → (c.fr k i ↔ a.fr k (nAt L i).1)) (hf2 : ∀ k, k < b.K → ∀ i, i < L.length → (c.fr (a.K + k) i ↔ b.fr k (nAt L i).2)) :
    Pairs a b c (nAt L) L.length := by
  have hs : ∀ x ∈ crs ok aS bS, x ∈ L := fun x hx => by rw [hL]; exact nAll_start hx
  have hn : ∀ i, i < L.length → ∀ x ∈ bNx ok aN bN (nAt L i), x ∈ L := fun i hi x hx => by
    have h1 := nAt_mem hi
    rw [hL] at h1 hf ⊢
    exact nAll_next hf h1 (by rw [← hL] at *; exact hx)
  refine ⟨fun i hi => ?_, fun x y l h1 h2 h3 h4 => ?_, fun i j hij => ?_, fun i hi x y l h1 h2 h3 h4 => ?_, hcl, hK, hf1, hf2, fun i hi => ?_, fun i j hij => ?_⟩
  · obtain ⟨_, h2⟩ := nums_at hs ((hcS i).1 hi)
    obtain ⟨h3, h4, _⟩ := mem_crs.1 h2
    exact ⟨(haS _).2 h3, (hbS _).2 h4⟩
  · have hm : (x, y) ∈ crs ok aS bS := mem_crs.2 ⟨(haS x).1 h1, (hbS y).1 h2, hok x y l h3 h4⟩
    exact ⟨ix (x, y) L, ix_lt (hs _ hm), (hcS _).2 (mem_nNums.2 ⟨_, hm, rfl⟩), nAt_ix (hs _ hm)⟩
  · obtain ⟨hi, hj⟩ := (hcN i j).1 hij
    obtain ⟨_, h2⟩ := nums_at (hn i hi) hj
    obtain ⟨h3, h4, _⟩ := mem_crs.1 h2
    exact ⟨(haN _ _).2 h3, (hbN _ _).2 h4⟩
  · have hm : (x, y) ∈ bNx ok aN bN (nAt L i) := mem_crs.2 ⟨(haN _ _).1 h1, (hbN _ _).1 h2, hok x y l h3 h4⟩
    exact ⟨ix (x, y) L, ix_lt (hn i hi _ hm), (hcN _ _).2 ⟨hi, mem_nNums.2 ⟨_, hm, rfl⟩⟩, nAt_ix (hn i hi _ hm)⟩
  · exact (nums_at hs ((hcS i).1 hi)).1
  · obtain ⟨hi, hj⟩ := (hcN i j).1 hij
    exact (nums_at (hn i hi) hj).1

/-- The number of the set that is waited for behind a state. -/
def sNo (K : Nat) (fr : Nat → Nat → Bool) (p : Nat × Nat) : Nat := if 0 < K ∧ fr p.2 p.1 = true then (if p.2 + 1 = K then 0 else p.2 + 1) else p.2
/-- What a state with such a number leads to. -/
def sNx (K : Nat) (fr : Nat → Nat → Bool) (aN : Nat → List Nat) (p : Nat × Nat) : List (Nat × Nat) := (aN p.1).map fun x => (x, sNo K fr p)

/-- The automaton with one fair set, as it is numbered. -/
theorem single_ones {a c : Atm} {aS : List Nat} {aN : Nat → List Nat} {fr : Nat → Nat → Bool} {f : Nat} {L : List (Nat × Nat)} (hL : L = nAll (sNx a.K fr aN) f (aS.map fun x => (x, 0))) (hf : L.length ≤ f)
    (haS : ∀ x, a.st x ↔ x ∈ aS) (haN : ∀ x y, a.nx x y ↔ y ∈ aN x) (hfr : ∀ k x, a.fr k x ↔ fr k x = true)
    (hcS : ∀ i, c.st i ↔ i ∈ nNums L (aS.map fun x => (x, 0))) (hcN : ∀ i j, i < L.length → (c.nx i j ↔ j ∈ nNums L (sNx a.K fr aN (nAt L i))))
    (hcl : ∀ i l, i < L.length → (c.lt i l ↔ a.lt (nAt L i).1 l)) (hK : c.K = 1) (hf1 : ∀ i, i < L.length → (c.fr 0 i ↔ (nAt L i).2 = 0 ∧ (a.K = 0 ∨ a.fr 0 (nAt L i).1))) :
    Ones a c (nAt L) L.length := by
  have hs : ∀ x ∈ aS.map (fun x => (x, 0)), x ∈ L := fun x hx => by rw [hL]; exact nAll_start hx
  have hn : ∀ i, i < L.length → ∀ x ∈ sNx a.K fr aN (nAt L i), x ∈ L := fun i hi x hx => by
    have h1 := nAt_mem hi
    rw [hL] at h1 hf ⊢
    exact nAll_next hf h1 (by rw [← hL] at *; exact hx)
  have hno : ∀ q : Nat × Nat, (a.fr q.2 q.1 ∧ 0 < a.K → sNo a.K fr q = if q.2 + 1 = a.K then 0 else q.2 + 1) ∧ (¬ (a.fr q.2 q.1 ∧ 0 < a.K) → sNo a.K fr q = q.2) := fun q => by
    refine ⟨fun h => ?_, fun h => ?_⟩
    · unfold sNo
      rw [if_pos ⟨h.2, (hfr _ _).1 h.1⟩]
    · unfold sNo
      rw [if_neg (fun hh => h ⟨(hfr _ _).2 hh.2, hh.1⟩)]
  refine ⟨fun i hi => ?_, fun x hx => ?_, fun i j hi hij => ?_, fun i hi x k hx h1 h2 => ?_, fun i l hi => hcl i l hi, hK, hf1⟩
  · obtain ⟨h1, h2⟩ := nums_at hs ((hcS i).1 hi)
    obtain ⟨x, hx, he⟩ := List.mem_map.1 h2
    rw [← he]
    exact ⟨h1, (haS _).2 hx, rfl⟩
  · have hm : (x, 0) ∈ aS.map (fun x => (x, 0)) := List.mem_map.2 ⟨x, (haS x).1 hx, rfl⟩
    exact ⟨ix (x, 0) L, ix_lt (hs _ hm), (hcS _).2 (mem_nNums.2 ⟨_, hm, rfl⟩), nAt_ix (hs _ hm)⟩
  · obtain ⟨h1, h2⟩ := nums_at (hn i hi) ((hcN i j hi).1 hij)
    obtain ⟨x, hx, he⟩ := List.mem_map.1 h2
    rw [← he]
    exact ⟨h1, (haN _ _).2 hx, hno (nAt L i)⟩
  · have hk : k = sNo a.K fr (nAt L i) := by
      by_cases e : a.fr (nAt L i).2 (nAt L i).1 ∧ 0 < a.K
      · rw [h1 e, (hno _).1 e]
      · rw [h2 e, (hno _).2 e]
    have hm : (x, k) ∈ sNx a.K fr aN (nAt L i) := List.mem_map.2 ⟨x, (haN _ _).1 hx, by rw [hk]⟩
    exact ⟨ix (x, k) L, ix_lt (hn i hi _ hm), (hcN _ _ hi).2 (mem_nNums.2 ⟨_, hm, rfl⟩), nAt_ix (hn i hi _ hm)⟩

end Go.Proofs.YtdncjikmknkkpaaDoor
