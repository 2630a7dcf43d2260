
import Derived.Test.YtmdpbaobihdgkaaGreatDoorABwdJ
/- What goes round a Loop, apart from memory: parts one after the other, and whether one of them is fair. -/
namespace Go.Proofs.YtmdpbaobihdgkaaGreatDoor
def Rt1 {α : Type} (E : α → α → Prop) (T : α → Prop) (x z : α) : Prop := ∃ y, E x y ∧ T y ∧ Rt E T y z
def Fp {α : Type} (E : α → α → Prop) (T : α → Prop) (K : Nat) (F : Nat → α → Prop) (v : α) : Prop := Rt1 E T v v ∧ ∀ k, k < K → ∃ x, F k x ∧ Sc E T v x
theorem Fp.sc {α : Type} {E : α → α → Prop} {T : α → Prop} {K : Nat} {F : Nat → α → Prop} {v u : α} (h : Fp E T K F v) (hs : Sc E T v u) : Fp E T K F u := by
 obtain ⟨⟨y, h1, h2, h3⟩, h4⟩ := h
 refine ⟨?_, fun k hk => ?_⟩
 ·-- u -> v -> y -> v -> u
  have key : Rt1 E T u u := by
   rcases hs with ⟨h5, h6⟩
   induction h6 using Rt.ind with
   | refl => exact ⟨y, h1, h2, h3.trans h5⟩
   | @tail a b h7 h8 h9 =>
    -- from u by some goings to a, then to v
    have : ∀ a, Rt E T u a → Rt E T a u → (∃ c, E a c ∧ T c ∧ Rt E T c u) → Rt1 E T u u := by
     intro a ha hb hc
     induction ha using Rt.ind with
     | refl => exact hc
     | @tail p q hp1 hp2 hp3 ih => exact ih (Rt.trans (Rt.one hp2 hp3) hb) ⟨q, hp2, hp3, hb⟩
    exact this a h7 (Rt.trans (Rt.one h8 h9) h5) ⟨_, h8, h9, h5⟩
  exact key
 ·obtain ⟨x, h5, h6⟩ := h4 k hk
  exact ⟨x, h5, hs.symm.trans h6⟩
structure Kl {α : Type} (E : α → α → Prop) (T : α → Prop) (K : Nat) (F : Nat → α → Prop) (met : List α) (B : List α) (L : α → Prop) : Prop where
 sub : ∀ x, L x → x ∈ met
 off : ∀ x, x ∈ B → ¬ L x
 sc : ∀ x y, L x → Sc E T x y → L y
 nf : ∀ x, x ∈ met → ¬ L x → ¬ Fp E T K F x
section
variable {α : Type} {E : α → α → Prop} {T : α → Prop} {K : Nat} {F : Nat → α → Prop} {met A B : List α} {v : α} {L L' : α → Prop}
theorem Kl.skip (h : Kl E T K F met B L) (hv : ¬ L v) : Kl E T K F met (v :: B) L :=
 ⟨h.sub, fun x hx => by
  rcases List.mem_cons.1 hx with rfl | hx
  ·exact hv
  ·exact h.off x hx, h.sc, h.nf⟩
theorem kl_start (hcl : ∀ d, d ∈ met → ∀ y, Rt E T d y → y ∈ met) (e : ∀ x, L x ↔ x ∈ met) : Kl E T K F met [] L :=
 ⟨fun x hx => (e x).1 hx, fun x hx => by simp at hx, fun x y hx hs => (e y).2 (hcl x ((e x).1 hx) y hs.1), fun x hx hl => absurd ((e x).2 hx) hl⟩
theorem Kl.part (h : Kl E T K F met B L) (hnd : met.Nodup) (hk : Kos E T met) (hm : met = A ++ v :: B) (hT : ∀ x, x ∈ met → T x) (hv : L v) {p : List α}
  (hp : Dfs (fun x y => E y x) L p [] L') (hvp : v ∈ p) (hr : ∀ z, z ∈ p → Rt (fun x y => E y x) L v z) (z : α) : z ∈ p ↔ Sc E T v z := by
 rw [← kos_part hnd hk hm hT h.sub h.off h.sc hv z]
 constructor
 ·exact hr z
 ·intro hz
  induction hz using Rt.ind with
  | refl => exact hvp
  | @tail y z _ h2 h3 ih =>
   rcases hp.out y ih z h2 h3 with h4 | h4
   ·exact h4
   ·simp at h4
theorem Kl.go (h : Kl E T K F met B L) (hnd : met.Nodup) (hk : Kos E T met) (hm : met = A ++ v :: B) (hT : ∀ x, x ∈ met → T x) (hv : L v) {p : List α}
  (hp : Dfs (fun x y => E y x) L p [] L') (hvp : v ∈ p) (hr : ∀ z, z ∈ p → Rt (fun x y => E y x) L v z) (hnf : ¬ Fp E T K F v) : Kl E T K F met (v :: B) L' := by
 have hpart := h.part hnd hk hm hT hv hp hvp hr
 have hL : ∀ x, L x ↔ (x ∈ p ∨ L' x) := fun x => by rw [hp.part x]; simp
 refine ⟨fun x hx => h.sub x ((hL x).2 (Or.inr hx)), fun x hx hl => ?_, fun x y hx hs => ?_, fun x hx hl => ?_⟩
 ·rcases List.mem_cons.1 hx with rfl | hx
  ·exact hp.off _ (Or.inl hvp) hl
  ·exact h.off x hx ((hL x).2 (Or.inr hl))
 ·have hy : L y := h.sc x y ((hL x).2 (Or.inr hx)) hs
  rcases (hL y).1 hy with h1 | h1
  ·have : x ∈ p := (hpart x).2 (((hpart y).1 h1).trans hs.symm)
   exact absurd hx (hp.off x (Or.inl this))
  ·exact h1
 ·by_cases hlx : L x
  ·rcases (hL x).1 hlx with h1 | h1
   ·intro hf
    exact hnf (hf.sc ((hpart x).1 h1).symm)
   ·exact absurd h1 hl
  ·exact h.nf x hx hlx
end
def Es (R : Rx) (q t : Nat × Nat) : Prop := mem (R.N q.1) t.1 = true ∧ t.2 = (q.2 + 1) % R.m
def Ts (R : Rx) (q : Nat × Nat) : Prop := q.1 < R.G ∧ q.2 < R.m ∧ mem (R.T q.2) q.1 = true
def Fs (R : Rx) (k : Nat) (q : Nat × Nat) : Prop := mem (R.F k) q.1 = true
theorem anoc_no {K : Nat} {F : Nat → Nat → Nat} {y : Nat → Nat} : anoc K F y = false ↔ ∀ k, k < K → ∃ s, s < 2048 ∧ mem (F k) s = true ∧ mem y s = true := by
 constructor
 ·intro h k hk
  refine Classical.byContradiction fun hno => ?_
  have : anoc K F y = true := (anoc_iff K F y).2 ⟨k, hk, (noc_iff _ _).2 (fun s hs h1 => by
   cases h2 : mem y s
   ·rfl
   ·exact absurd ⟨s, hs, h1, h2⟩ hno)⟩
  rw [h] at this
  cases this
 ·intro h
  cases ha : anoc K F y
  ·rfl
  ·obtain ⟨k, hk, h1⟩ := (anoc_iff K F y).1 ha
   obtain ⟨s, h2, h3, h4⟩ := h k hk
   have := (noc_iff _ _).1 h1 s h2 h3
   rw [h4] at this
   cases this
theorem frs_fp (R : Rx) (hg : R.G ≤ 2048) (p : List (Nat × Nat)) (v : Nat × Nat) (hv : Ts R v) (hnd : p.Nodup) (hvp : v ∈ p) (hp : ∀ z, z ∈ p ↔ Sc (Es R) (Ts R) v z) :
  frs R p.length (fun i => p.getD i (0, 0)) = true ↔ Fp (Es R) (Ts R) R.K (Fs R) v := by
 have hTs : ∀ z, z ∈ p → Ts R z := fun z hz => ((hp z).1 hz).1.mem hv
 have hget : ∀ i, i < p.length → p.getD i (0, 0) ∈ p := fun i hi => by
  rw [List.getD_eq_getElem?_getD, List.getElem?_eq_getElem hi]; exact List.getElem_mem _
 have hgos : gos R p.length (fun i => p.getD i (0, 0)) = true ↔ Rt1 (Es R) (Ts R) v v := by
  unfold gos
  rw [Bool.or_eq_true, decide_eq_true_eq, Bool.and_eq_true, decide_eq_true_eq]
  constructor
  ·intro h
   by_cases h1 : 1 < p.length
   ·-- another one than v
    obtain ⟨z, hz, hzv⟩ : ∃ z, z ∈ p ∧ z ≠ v := by
     refine Classical.byContradiction fun hno => ?_
     have hall : ∀ z, z ∈ p → z ∈ [v] := fun z hz => by
      rw [List.mem_singleton]
      exact Classical.byContradiction fun hh => hno ⟨z, hz, hh⟩
     cases p with
     | nil => simp at hvp
     | cons a q =>
      cases q with
      | nil => simp at h1
      | cons b q =>
       have ha := List.mem_singleton.1 (hall a (by simp))
       have hb := List.mem_singleton.1 (hall b (by simp))
       rw [List.nodup_cons] at hnd
       exact hnd.1 (by rw [ha, hb]; simp)
    obtain ⟨h2, h3⟩ := (hp z).1 hz
    -- the first going out of v
    have : ∀ z, Rt (Es R) (Ts R) v z → z = v ∨ ∃ y, Es R v y ∧ Ts R y ∧ Rt (Es R) (Ts R) y z := by
     intro z h
     induction h using Rt.ind with
     | refl => exact Or.inl rfl
     | @tail a b ha hb hc ih =>
      rcases ih with rfl | ⟨y, g1, g2, g3⟩
      ·exact Or.inr ⟨b, hb, hc, Rt.refl⟩
      ·exact Or.inr ⟨y, g1, g2, g3.tail hb hc⟩
    rcases this z h2 with h4 | ⟨y, g1, g2, g3⟩
    ·exact absurd h4 hzv
    ·exact ⟨y, g1, g2, g3.trans h3⟩
   ·rcases h with h | h
    ·exact absurd h h1
    ·have h0 : p.getD 0 (0, 0) = v := by
      cases p with
      | nil => simp at hvp
      | cons a q =>
       cases q with
       | nil => simp at hvp ⊢; exact hvp.symm
       | cons b q => simp at h1
     dsimp only at h
     rw [h0] at h
     exact ⟨v, ⟨h.2, h.1.symm⟩, hv, Rt.refl⟩
  ·rintro ⟨y, h1, h2, h3⟩
   by_cases hl : 1 < p.length
   ·exact Or.inl hl
   ·refine Or.inr ?_
    have hy : y ∈ p := (hp y).2 ⟨Rt.one h1 h2, h3⟩
    have hone : ∀ z, z ∈ p → z = p.getD 0 (0, 0) := by
     intro z hz
     cases p with
     | nil => simp at hz
     | cons a q =>
      cases q with
      | nil => simp at hz ⊢; exact hz
      | cons b q => simp at hl
    have e1 := hone v hvp
    have e2 := hone y hy
    dsimp only
    rw [← e1]
    rw [← e1] at e2
    subst e2
    exact ⟨h1.2.symm, h1.1⟩
 unfold frs
 rw [Bool.and_eq_true, hgos, Bool.not_eq_true', anoc_no]
 constructor
 ·rintro ⟨h1, h2⟩
  refine ⟨h1, fun k hk => ?_⟩
  obtain ⟨s, h3, h4, h5⟩ := h2 k hk
  obtain ⟨i, h6, h7⟩ := (mem_stsN _ _ _).1 h5
  exact ⟨p.getD i (0, 0), by unfold Fs; rw [h7]; exact h4, (hp _).1 (hget i h6)⟩
 ·rintro ⟨h1, h2⟩
  refine ⟨h1, fun k hk => ?_⟩
  obtain ⟨x, h3, h4⟩ := h2 k hk
  have hx := (hp x).2 h4
  obtain ⟨i, hi, he⟩ := List.mem_iff_getElem.1 hx
  refine ⟨x.1, by have := (hTs x hx).1; omega, h3, (mem_stsN _ _ _).2 ⟨i, hi, ?_⟩⟩
  rw [List.getD_eq_getElem?_getD, List.getElem?_eq_getElem hi, he]
  rfl
end Go.Proofs.YtmdpbaobihdgkaaGreatDoor
