/-   -/
import Derived.Test.YtmdpbaobihdgkaaGreatDoorTsoJ
/- KOSARAJU, apart from memory: going in depth, and what its order tells of parts. -/
/- Things numbered as they first come: pure. -/
namespace Go.Proofs.YtmdpbaobihdgkaaGreatDoor
def Rt {α : Type} (E : α → α → Prop) (T : α → Prop) (x y : α) : Prop := ∀ P : α → Prop, P x → (∀ u v, P u → E u v → T v → P v) → P y
theorem Rt.refl {α : Type} {E : α → α → Prop} {T : α → Prop} {x : α} : Rt E T x x := fun _ h _ => h
theorem Rt.tail {α : Type} {E : α → α → Prop} {T : α → Prop} {x y z : α} (h : Rt E T x y) (h2 : E y z) (h3 : T z) : Rt E T x z := fun P p0 p1 => p1 y z (h P p0 p1) h2 h3
theorem Rt.ind {α : Type} {E : α → α → Prop} {T : α → Prop} {x : α} {motive : (y : α) → Rt E T x y → Prop} (refl : motive x Rt.refl)
  (tail : ∀ {y z : α} (h1 : Rt E T x y) (h2 : E y z) (h3 : T z), motive y h1 → motive z (h1.tail h2 h3)) {y : α} (h : Rt E T x y) : motive y h := by
 have k : ∃ h' : Rt E T x y, motive y h' := h (fun y => ∃ h' : Rt E T x y, motive y h') ⟨Rt.refl, refl⟩ (fun u v ⟨h1, h4⟩ h2 h3 => ⟨h1.tail h2 h3, tail h1 h2 h3 h4⟩)
 obtain ⟨_, k⟩ := k
 exact k
theorem Rt.trans {α : Type} {E : α → α → Prop} {T : α → Prop} {x y z : α} (h : Rt E T x y) (k : Rt E T y z) : Rt E T x z := by
 induction k using Rt.ind with
 | refl => exact h
 | tail _ h2 h3 ih => exact ih.tail h2 h3
theorem Rt.one {α : Type} {E : α → α → Prop} {T : α → Prop} {x y : α} (h : E x y) (hy : T y) : Rt E T x y := Rt.refl.tail h hy
theorem Rt.mem {α : Type} {E : α → α → Prop} {T : α → Prop} {x y : α} (h : Rt E T x y) (hx : T x) : T y := by
 induction h using Rt.ind with
 | refl => exact hx
 | tail _ _ h3 _ => exact h3
def Sc {α : Type} (E : α → α → Prop) (T : α → Prop) (x y : α) : Prop := Rt E T x y ∧ Rt E T y x
theorem Sc.symm {α : Type} {E : α → α → Prop} {T : α → Prop} {x y : α} (h : Sc E T x y) : Sc E T y x := ⟨h.2, h.1⟩
theorem Sc.trans {α : Type} {E : α → α → Prop} {T : α → Prop} {x y z : α} (h : Sc E T x y) (k : Sc E T y z) : Sc E T x z := ⟨h.1.trans k.1, k.2.trans h.2⟩
structure Dfs {α : Type} (E : α → α → Prop) (T : α → Prop) (done path : List α) (L : α → Prop) : Prop where
 part : ∀ x, T x ↔ (x ∈ done ∨ x ∈ path ∨ L x)
 nd : (done ++ path).Nodup
 off : ∀ x, x ∈ done ∨ x ∈ path → ¬ L x
 chain : path.Pairwise (Rt E T)
 out : ∀ d, d ∈ done → ∀ y, E d y → T y → y ∈ done ∨ y ∈ path
 kos : ∀ d, d ∈ done → ∀ y, Rt E T d y → (∃ A x B, done = A ++ x :: B ∧ y ∈ A ++ [x] ∧ Sc E T x d) ∨ ∃ p, p ∈ path ∧ Sc E T p d
section
variable {α : Type} {E : α → α → Prop} {T : α → Prop} {done path : List α} {L L' : α → Prop}
theorem dfs_nil (h : ∀ x, T x ↔ L x) : Dfs E T [] [] L :=
 ⟨fun x => by simp [h], by simp, fun x hx => by simp at hx, List.Pairwise.nil, fun d hd => by simp at hd, fun d hd => by simp at hd⟩
theorem Dfs.start (h : Dfs E T done [] L) {v : α} (hv : L v) (e : ∀ x, L' x ↔ (L x ∧ x ≠ v)) : Dfs E T done [v] L' := by
 refine ⟨fun x => ?_, ?_, fun x hx hl => ?_, List.pairwise_singleton _ _, fun d hd y h1 h2 => ?_, fun d hd y hy => ?_⟩
 ·rw [h.part, e]
  by_cases hx : x = v
  ·subst hx; simp [hv]
  ·simp [hx]
 ·rw [List.nodup_append]
  refine ⟨by simpa using h.nd, by simp, fun a ha b hb => ?_⟩
  rintro rfl
  rw [List.mem_singleton] at hb
  subst hb
  exact h.off _ (Or.inl ha) hv
 ·rw [e] at hl
  rcases hx with hx | hx
  ·exact h.off x (Or.inl hx) hl.1
  ·exact hl.2 (List.mem_singleton.1 hx)
 ·rcases h.out d hd y h1 h2 with h3 | h3
  ·exact Or.inl h3
  ·simp at h3
 ·rcases h.kos d hd y hy with h3 | ⟨p, h3, _⟩
  ·exact Or.inl h3
  ·simp at h3
theorem Dfs.push {P : List α} {t v : α} (h : Dfs E T done (P ++ [t]) L) (hE : E t v) (hv : L v) (e : ∀ x, L' x ↔ (L x ∧ x ≠ v)) : Dfs E T done (P ++ [t] ++ [v]) L' := by
 have hTv : T v := (h.part v).2 (Or.inr (Or.inr hv))
 refine ⟨fun x => ?_, ?_, fun x hx hl => ?_, ?_, fun d hd y h1 h2 => ?_, fun d hd y hy => ?_⟩
 ·rw [h.part, e, List.mem_append (t := [v])]
  by_cases hx : x = v
  ·subst hx; simp [hv]
  ·simp [hx]
 ·rw [← List.append_assoc, List.nodup_append]
  refine ⟨h.nd, by simp, fun a ha b hb => ?_⟩
  rintro rfl
  rw [List.mem_singleton] at hb
  subst hb
  exact h.off _ (List.mem_append.1 ha) hv
 ·rw [e] at hl
  rcases hx with hx | hx
  ·exact h.off x (Or.inl hx) hl.1
  ·rcases List.mem_append.1 hx with hx | hx
   ·exact h.off x (Or.inr hx) hl.1
   ·exact hl.2 (List.mem_singleton.1 hx)
 ·rw [List.pairwise_append]
  refine ⟨h.chain, List.pairwise_singleton _ _, fun a ha b hb => ?_⟩
  rw [List.mem_singleton] at hb
  subst hb
  refine Rt.tail ?_ hE hTv
  rcases List.mem_append.1 ha with ha | ha
  ·exact (List.pairwise_append.1 h.chain).2.2 a ha t (by simp)
  ·rw [List.mem_singleton] at ha; subst ha; exact Rt.refl
 ·rcases h.out d hd y h1 h2 with h3 | h3
  ·exact Or.inl h3
  ·exact Or.inr (List.mem_append.2 (Or.inl h3))
 ·rcases h.kos d hd y hy with h3 | ⟨p, h3, h4⟩
  ·exact Or.inl h3
  ·exact Or.inr ⟨p, List.mem_append.2 (Or.inl h3), h4⟩
theorem Dfs.pop {P : List α} {t : α} (h : Dfs E T done (P ++ [t]) L) (hno : ∀ v, E t v → ¬ L v) : Dfs E T (done ++ [t]) P L := by
 have hTt : T t := (h.part t).2 (Or.inr (Or.inl (by simp)))
 have hTd : ∀ d, d ∈ done → T d := fun d hd => (h.part d).2 (Or.inl hd)
 -- from t one stays in what is left behind, or comes to the path below
 have key : ∀ y, Rt E T t y → (∃ p, p ∈ P ∧ Sc E T p t) ∨ y ∈ done ++ [t] := by
  intro y hy
  induction hy using Rt.ind with
  | refl => exact Or.inr (by simp)
  | @tail y z hy h2 h3 ih =>
   rcases ih with ih | ih
   ·exact Or.inl ih
   ·have hz : z ∈ done ∨ z ∈ P ++ [t] := by
     rcases List.mem_append.1 ih with h4 | h4
     ·exact h.out y h4 z h2 h3
     ·rw [List.mem_singleton] at h4
      subst h4
      rcases (h.part z).1 h3 with h5 | h5 | h5
      ·exact Or.inl h5
      ·exact Or.inr h5
      ·exact absurd h5 (hno z h2)
    rcases hz with hz | hz
    ·exact Or.inr (List.mem_append.2 (Or.inl hz))
    ·rcases List.mem_append.1 hz with hz | hz
     ·exact Or.inl ⟨z, hz, (List.pairwise_append.1 h.chain).2.2 z hz t (by simp), hy.tail h2 h3⟩
     ·exact Or.inr (List.mem_append.2 (Or.inr hz))
 have kt : ∀ y, Rt E T t y → (∃ A x B, done ++ [t] = A ++ x :: B ∧ y ∈ A ++ [x] ∧ Sc E T x t) ∨ ∃ p, p ∈ P ∧ Sc E T p t := by
  intro y hy
  rcases key y hy with h1 | h1
  ·exact Or.inr h1
  ·exact Or.inl ⟨done, t, [], rfl, h1, Rt.refl, Rt.refl⟩
 refine ⟨fun x => ?_, ?_, fun x hx => ?_, ?_, fun d hd y h1 h2 => ?_, fun d hd y hy => ?_⟩
 ·rw [h.part, List.mem_append, List.mem_append]
  constructor
  ·rintro (h1 | (h1 | h1) | h1)
   ·exact Or.inl (Or.inl h1)
   ·exact Or.inr (Or.inl h1)
   ·exact Or.inl (Or.inr h1)
   ·exact Or.inr (Or.inr h1)
  ·rintro ((h1 | h1) | h1 | h1)
   ·exact Or.inl h1
   ·exact Or.inr (Or.inl (Or.inr h1))
   ·exact Or.inr (Or.inl (Or.inl h1))
   ·exact Or.inr (Or.inr h1)
 ·have := h.nd
  refine (List.Perm.nodup_iff ?_).1 this
  rw [List.append_assoc]
  exact List.Perm.append_left _ List.perm_append_comm
 ·apply h.off x
  rcases hx with hx | hx
  ·rcases List.mem_append.1 hx with hx | hx
   ·exact Or.inl hx
   ·exact Or.inr (List.mem_append.2 (Or.inr hx))
  ·exact Or.inr (List.mem_append.2 (Or.inl hx))
 ·exact (List.pairwise_append.1 h.chain).1
 ·have hy : y ∈ done ∨ y ∈ P ++ [t] := by
   rcases List.mem_append.1 hd with h4 | h4
   ·exact h.out d h4 y h1 h2
   ·rw [List.mem_singleton] at h4
    subst h4
    rcases (h.part y).1 h2 with h5 | h5 | h5
    ·exact Or.inl h5
    ·exact Or.inr h5
    ·exact absurd h5 (hno y h1)
  rcases hy with hy | hy
  ·exact Or.inl (List.mem_append.2 (Or.inl hy))
  ·rcases List.mem_append.1 hy with hy | hy
   ·exact Or.inr hy
   ·exact Or.inl (List.mem_append.2 (Or.inr hy))
 ·rcases List.mem_append.1 hd with hd | hd
  ·rcases h.kos d hd y hy with ⟨A, x, B, h1, h2, h3⟩ | ⟨p, h1, h2⟩
   ·exact Or.inl ⟨A, x, B ++ [t], by rw [h1]; simp, h2, h3⟩
   ·rcases List.mem_append.1 h1 with h1 | h1
    ·exact Or.inr ⟨p, h1, h2⟩
    ·rw [List.mem_singleton] at h1
     subst h1
     rcases kt y (h2.1.trans hy) with ⟨A, x, B, g1, g2, g3⟩ | ⟨q, g1, g2⟩
     ·exact Or.inl ⟨A, x, B, g1, g2, g3.trans h2⟩
     ·exact Or.inr ⟨q, g1, g2.trans h2⟩
  ·rw [List.mem_singleton] at hd
   subst hd
   exact kt y hy
end
def Kos {α : Type} (E : α → α → Prop) (T : α → Prop) (met : List α) : Prop := ∀ d, d ∈ met → ∀ y, Rt E T d y → ∃ A x B, met = A ++ x :: B ∧ y ∈ A ++ [x] ∧ Sc E T x d
theorem Dfs.kosaraju {α : Type} {E : α → α → Prop} {T : α → Prop} {met : List α} {L : α → Prop} (h : Dfs E T met [] L) : Kos E T met := fun d hd y hy => by
 rcases h.kos d hd y hy with h1 | ⟨p, h1, _⟩
 ·exact h1
 ·simp at h1
theorem order_two {α : Type} {A B A' B' : List α} {v x : α} (hnd : (A ++ v :: B).Nodup) (e : A ++ v :: B = A' ++ x :: B') (h1 : v ∈ A') (h2 : x ∈ A) : False := by
 have h3 : ∀ {C D : List α} {y : α}, (C ++ y :: D).Nodup → y ∉ C := by
  intro C D y h hy
  exact (List.nodup_append.1 h).2.2 y hy y (by simp) rfl
 have hnd' := hnd
 rw [e] at hnd'
 rcases List.append_eq_append_iff.1 e with ⟨cs, h4, _⟩ | ⟨ds, h4, _⟩
 ·exact h3 hnd' (by rw [h4]; exact List.mem_append.2 (Or.inl h2))
 ·exact h3 hnd (by rw [h4]; exact List.mem_append.2 (Or.inl h1))
theorem kos_part {α : Type} {E : α → α → Prop} {T : α → Prop} {met A B : List α} {v : α} {L : α → Prop} (hnd : met.Nodup) (hk : Kos E T met) (hm : met = A ++ v :: B)
  (hT : ∀ x, x ∈ met → T x) (hL : ∀ x, L x → x ∈ met) (hB : ∀ x, x ∈ B → ¬ L x) (hsc : ∀ x y, L x → Sc E T x y → L y) (hv : L v) (z : α) :
  Rt (fun x y => E y x) L v z ↔ Sc E T v z := by
 constructor
 ·intro h
  have h1 : Rt E T z v ∧ L z := by
   induction h using Rt.ind with
   | refl => exact ⟨Rt.refl, hv⟩
   | @tail y x h2 h3 h4 ih => exact ⟨(Rt.one h3 (hT y (hL y ih.2))).trans ih.1, h4⟩
  obtain ⟨A', x, B', e1, e2, e3⟩ := hk z (hL z h1.2) v h1.1
  have hx : L x := hsc z x h1.2 e3.symm
  by_cases hxv : x = v
  ·subst hxv; exact e3
  ·exfalso
   have hxm : x ∈ A := by
    have : x ∈ met := hL x hx
    rw [hm] at this
    rcases List.mem_append.1 this with h5 | h5
    ·exact h5
    ·rcases List.mem_cons.1 h5 with h5 | h5
     ·exact absurd h5 hxv
     ·exact absurd hx (hB x h5)
   have hvm : v ∈ A' := by
    rcases List.mem_append.1 e2 with h5 | h5
    ·exact h5
    ·exact absurd (List.mem_singleton.1 h5).symm hxv
   rw [hm] at hnd e1
   exact order_two hnd e1 hvm hxm
 ·rintro ⟨h1, h2⟩
  have key : ∀ u, Rt E T z u → Rt E T u z → L u → Rt (fun x y => E y x) L u z := by
   intro u hu
   induction hu using Rt.ind with
   | refl => intro _ _; exact Rt.refl
   | @tail y u h3 h4 h5 ih =>
    intro h6 h7
    have hyu : Rt E T y u := Rt.one h4 h5
    have hLy : L y := hsc u y h7 ⟨h6.trans h3, hyu⟩
    exact Rt.trans (Rt.one h4 hLy) (ih (hyu.trans h6) hLy)
  exact key v h2 h1 hv
end Go.Proofs.YtmdpbaobihdgkaaGreatDoor
namespace Go.Proofs.YtmdpbaobihdgkaaGreatDoor
open Go.RowKit
theorem pre_at {α : Type} {l k : List α} {i : Nat} {x : α} (h : l <+: k) (hi : l[i]? = some x) : k[i]? = some x := by
 obtain ⟨r, rfl⟩ := h
 rw [List.getElem?_append_left (List.getElem?_eq_some_iff.1 hi).1]
 exact hi
section
variable {α : Type} [DecidableEq α]
def ix (x : α) : List α → Nat
 | [] => 0
 | y :: l => if y = x then 0 else ix x l + 1
theorem ix_lt {x : α} : ∀ {l : List α}, x ∈ l → ix x l < l.length
 | [], h => by cases h
 | y :: l, h => by
  unfold ix
  by_cases e : y = x
  ·rw [if_pos e]; exact Nat.succ_pos _
  ·rw [if_neg e]
   have : x ∈ l := by
    rcases List.mem_cons.1 h with h | h
    ·exact absurd h.symm e
    ·exact h
   have := ix_lt this
   simp only [List.length_cons]
   omega
theorem ix_at {x : α} : ∀ {l : List α}, x ∈ l → l[ix x l]? = some x
 | [], h => by cases h
 | y :: l, h => by
  unfold ix
  by_cases e : y = x
  ·rw [if_pos e, e]; rfl
  ·rw [if_neg e]
   have : x ∈ l := by
    rcases List.mem_cons.1 h with h | h
    ·exact absurd h.symm e
    ·exact h
   rw [List.getElem?_cons_succ]
   exact ix_at this
theorem ix_app {x : α} {k : List α} : ∀ {l : List α}, x ∈ l → ix x (l ++ k) = ix x l
 | [], h => by cases h
 | y :: l, h => by
  show ix x (y :: (l ++ k)) = _
  unfold ix
  by_cases e : y = x
  ·rw [if_pos e, if_pos e]
  ·have : x ∈ l := by
    rcases List.mem_cons.1 h with h | h
    ·exact absurd h.symm e
    ·exact h
   rw [if_neg e, if_neg e, ix_app this]
theorem ix_new {x : α} : ∀ {l : List α}, x ∉ l → ix x (l ++ [x]) = l.length
 | [], _ => by simp [ix]
 | y :: l, h => by
  show ix x (y :: (l ++ [x])) = _
  unfold ix
  have e : y ≠ x := fun e => h (by rw [e]; exact List.mem_cons_self)
  rw [if_neg e, ix_new (fun hh => h (List.mem_cons_of_mem _ hh))]
  rfl
theorem ix_pre {x : α} {l k : List α} (h : x ∈ l) (hp : l <+: k) : ix x k = ix x l := by
 obtain ⟨r, rfl⟩ := hp
 exact ix_app h
theorem at_ix {x : α} : ∀ {l : List α} {i : Nat}, l.Nodup → l[i]? = some x → ix x l = i
 | [], i, _, h => by simp at h
 | y :: l, 0, _, h => by
  simp at h
  unfold ix
  rw [if_pos h]
 | y :: l, i + 1, hn, h => by
  rw [List.getElem?_cons_succ] at h
  have hn2 := List.nodup_cons.1 hn
  have hm : x ∈ l := List.mem_of_getElem? h
  unfold ix
  rw [if_neg (fun e => hn2.1 (by rw [e]; exact hm)), at_ix hn2.2 h]
def nAdd (l : List α) (x : α) : List α := if x ∈ l then l else l ++ [x]
def nAdds (l xs : List α) : List α := xs.foldl nAdd l
theorem nAdd_pre (l : List α) (x : α) : l <+: nAdd l x := by
 unfold nAdd
 by_cases h : x ∈ l
 ·rw [if_pos h]; exact List.prefix_refl _
 ·rw [if_neg h]; exact List.prefix_append _ _
theorem mem_nAdd {l : List α} {x y : α} : y ∈ nAdd l x ↔ y ∈ l ∨ y = x := by
 unfold nAdd
 by_cases h : x ∈ l
 ·rw [if_pos h]
  exact ⟨Or.inl, fun hh => hh.elim id (fun e => by rw [e]; exact h)⟩
 ·rw [if_neg h, List.mem_append, List.mem_singleton]
theorem nAdd_nodup {l : List α} (h : l.Nodup) (x : α) : (nAdd l x).Nodup := by
 unfold nAdd
 by_cases e : x ∈ l
 ·rw [if_pos e]; exact h
 ·rw [if_neg e]
  refine List.nodup_append.2 ⟨h, by simp, ?_⟩
  intro a ha b hb hab
  rw [List.mem_singleton] at hb
  exact e (by rw [← hb, ← hab]; exact ha)
theorem nAdds_cons (l : List α) (x : α) (xs : List α) : nAdds l (x :: xs) = nAdds (nAdd l x) xs := rfl
theorem nAdds_snoc (l : List α) (xs : List α) (x : α) : nAdds l (xs ++ [x]) = nAdd (nAdds l xs) x := by
 unfold nAdds
 rw [List.foldl_append]
 rfl
theorem nAdds_pre : ∀ (xs l : List α), l <+: nAdds l xs
 | [], _ => List.prefix_refl _
 | x :: xs, l => (nAdd_pre l x).trans (nAdds_pre xs (nAdd l x))
theorem mem_nAdds {y : α} : ∀ (xs l : List α), y ∈ nAdds l xs ↔ y ∈ l ∨ y ∈ xs
 | [], l => by simp [nAdds]
 | x :: xs, l => by
  rw [nAdds_cons, mem_nAdds xs, mem_nAdd, List.mem_cons, or_assoc]
theorem nAdds_nodup : ∀ (xs : List α) {l : List α}, l.Nodup → (nAdds l xs).Nodup
 | [], _, h => h
 | x :: xs, _, h => nAdds_nodup xs (nAdd_nodup h x)
def nRun (nx : α → List α) : Nat → Nat → List α → List α
 | 0, _, l => l
 | f + 1, n, l => match l[n]? with
  | none => l
  | some x => nRun nx f (n + 1) (nAdds l (nx x))
theorem nRun_some {nx : α → List α} {f n : Nat} {l : List α} {x : α} (h : l[n]? = some x) : nRun nx (f + 1) n l = nRun nx f (n + 1) (nAdds l (nx x)) := by
 rw [nRun, h]
theorem nRun_none {nx : α → List α} {f n : Nat} {l : List α} (h : l.length ≤ n) : nRun nx f n l = l := by
 cases f with
 | zero => rfl
 | succ f => rw [nRun, List.getElem?_eq_none h]
theorem nRun_pre (nx : α → List α) : ∀ (f n : Nat) (l : List α), l <+: nRun nx f n l
 | 0, _, _ => List.prefix_refl _
 | f + 1, n, l => by
  by_cases h : n < l.length
  ·rw [nRun_some (List.getElem?_eq_getElem h)]
   exact (nAdds_pre _ _).trans (nRun_pre nx f (n + 1) _)
  ·rw [nRun_none (by omega)]; exact List.prefix_refl _
theorem nRun_all {nx : α → List α} {P : α → Prop} (hP : ∀ x, P x → ∀ y ∈ nx x, P y) : ∀ (f n : Nat) {l : List α}, (∀ x ∈ l, P x) → ∀ x ∈ nRun nx f n l, P x
 | 0, _, _, h => h
 | f + 1, n, l, h => by
  by_cases e : n < l.length
  ·rw [nRun_some (List.getElem?_eq_getElem e)]
   refine nRun_all hP f (n + 1) (fun x hx => ?_)
   rcases (mem_nAdds _ _).1 hx with hx | hx
   ·exact h x hx
   ·exact hP _ (h _ (List.getElem_mem e)) x hx
  ·rw [nRun_none (by omega)]; exact h
theorem nRun_closed {nx : α → List α} : ∀ (f n : Nat) {l : List α}, (nRun nx f n l).length ≤ n + f → ∀ i x, n ≤ i → (nRun nx f n l)[i]? = some x → ∀ y ∈ nx x, y ∈ nRun nx f n l
 | 0, n, l, hl, i, x, hn, hi, _, _ => by
  have h1 := (List.getElem?_eq_some_iff.1 hi).1
  omega
 | f + 1, n, l, hl, i, x, hn, hi, y, hy => by
  by_cases e : n < l.length
  ·have hs := nRun_some (nx := nx) (f := f) (List.getElem?_eq_getElem e)
   rw [hs] at hl hi ⊢
   by_cases h : i = n
   ·subst h
    have h1 := pre_at ((nAdds_pre (nx l[i]) l).trans (nRun_pre nx f (i + 1) _)) (List.getElem?_eq_getElem e)
    rw [hi] at h1
    obtain rfl := Option.some.inj h1
    have h2 : y ∈ nAdds l (nx l[i]) := (mem_nAdds _ _).2 (Or.inr hy)
    exact (nRun_pre nx f (i + 1) _).subset h2
   ·exact nRun_closed f (n + 1) (by omega) i x (by omega) hi y hy
  ·rw [nRun_none (by omega)] at hl hi
   have h1 := (List.getElem?_eq_some_iff.1 hi).1
   omega
theorem nodup_le {U : List α} : ∀ {l : List α}, l.Nodup → (∀ x ∈ l, x ∈ U) → l.length ≤ U.length := by
 intro l
 induction l generalizing U with
 | nil => intro _ _; exact Nat.zero_le _
 | cons a l ih =>
  intro hn hs
  have hn2 := List.nodup_cons.1 hn
  have ha := hs a List.mem_cons_self
  have h1 := ih (U := U.erase a) hn2.2 (fun x hx => (List.mem_erase_of_ne (fun e => hn2.1 (by rw [← e]; exact hx))).2 (hs x (List.mem_cons_of_mem _ hx)))
  rw [List.length_erase_of_mem ha] at h1
  have h2 := List.length_pos_of_mem ha
  simp only [List.length_cons]
  omega
def nAll (nx : α → List α) (f : Nat) (start : List α) : List α := nRun nx f 0 (nAdds [] start)
def nNums (L : List α) (xs : List α) : List Nat := nAdds [] (xs.map fun x => ix x L)
theorem mem_nNums {L xs : List α} {i : Nat} : i ∈ nNums L xs ↔ ∃ x ∈ xs, ix x L = i := by
 unfold nNums
 rw [mem_nAdds, List.mem_map]
 simp
theorem nAll_start {nx : α → List α} {f : Nat} {start : List α} {x : α} (h : x ∈ start) : x ∈ nAll nx f start :=
 (nRun_pre nx f 0 _).subset ((mem_nAdds _ _).2 (Or.inr h))
theorem nAll_next {nx : α → List α} {f : Nat} {start : List α} (h : (nAll nx f start).length ≤ f) {x y : α} (hx : x ∈ nAll nx f start) (hy : y ∈ nx x) : y ∈ nAll nx f start := by
 obtain ⟨i, hi⟩ := List.getElem?_of_mem hx
 exact nRun_closed f 0 (by rw [Nat.zero_add]; exact h) i x (Nat.zero_le _) hi y hy
end
end Go.Proofs.YtmdpbaobihdgkaaGreatDoor
