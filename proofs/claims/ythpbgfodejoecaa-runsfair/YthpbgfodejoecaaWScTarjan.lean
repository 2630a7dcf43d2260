
import Derived.Deep.OwnRows
import Derived.Maps.AppendAt
import Derived.WalkKit
import Derived.WalkSpells
import Derived.WalkLawsBesides
import Derived.Deep.QuietTactic
import Derived.BigQuiet
import Derived.Below
import Derived.Deep.Heap
import Derived.Test.YthpbgfodejoecaaBfsJ
import Derived.Test.YthpbgfodejoecaaDistJ
import Derived.Test.YthpbgfodejoecaaDist2J
import Derived.Test.YthpbgfodejoecaaLeafJ
import Derived.Test.YthpbgfodejoecaaProc
import Derived.Test.YthpbgfodejoecaaProc2
import Derived.Test.YthpbgfodejoecaaSpFaceJ
import Derived.Test.YthpbgfodejoecaaWBaseJ
/- The search in depth, as plain mathematics: what holds at each of its steps. -/
namespace Go.Proofs.Ythpbgfodejoecaa

/-- One comes from a to b. -/
def RchW (E : Nat → Nat → Prop) (a b : Nat) : Prop := ∃ k, Wk (fun x => x = a) E k b
def Mut (E : Nat → Nat → Prop) (a b : Nat) : Prop := RchW E a b ∧ RchW E b a

section
variable {E : Nat → Nat → Prop}
theorem RchW.refl (a : Nat) : RchW E a a := ⟨0, rfl⟩
theorem RchW.on {a b c : Nat} (h : RchW E a b) (e : E b c) : RchW E a c := by obtain ⟨k, hk⟩ := h; exact ⟨k + 1, b, hk, e⟩
theorem RchW.trans {a b c : Nat} (h : RchW E a b) (h' : RchW E b c) : RchW E a c := by
  obtain ⟨k, hk⟩ := h'
  have : ∀ k c, Wk (fun x => x = b) E k c → RchW E a c := by
    intro k
    induction k with
    | zero => intro c hc; have : c = b := hc; subst this; exact h
    | succ k ih =>
      intro c hc
      obtain ⟨y, hy, e⟩ := hc
      exact (ih y hy).on e
  exact this k c hk
theorem RchW.edge {a b : Nat} (e : E a b) : RchW E a b := (RchW.refl a).on e
/-- What goings never leave, no way leaves. -/
theorem RchW.stay {P : Nat → Prop} (hP : ∀ x y, P x → E x y → P y) {a b : Nat} (h : RchW E a b) (ha : P a) : P b := by
  obtain ⟨k, hk⟩ := h
  have : ∀ k b, Wk (fun x => x = a) E k b → P b := by
    intro k
    induction k with
    | zero => intro b hb; have : b = a := hb; subst this; exact ha
    | succ k ih =>
      intro b hb
      obtain ⟨y, hy, e⟩ := hb
      exact hP y b (ih y hy) e
  exact this k b hk
end

structure ScSt where
  met : Nat → Int
  low : Nat → Int
  nxt : Nat → Int
  lst : Nat → Int
  path : List Nat
  opn : List Nat
  cnt : Int

structure Tj (G : Nat) (L : Nat → Nat) (Z : Nat → Nat → Int) (s : ScSt) : Prop where
  hZ : ∀ x, x < G → ∀ i, i < L x → 0 ≤ Z x i ∧ Z x i < G
  pathSub : ∀ a ∈ s.path, a ∈ s.opn
  opnIn : ∀ a ∈ s.opn, a < G
  mem : ∀ x, x < G → (x ∈ s.opn ↔ (s.met x ≠ 0 ∧ s.lst x = -1))
  closedMet : ∀ x, x < G → s.lst x ≠ -1 → s.met x ≠ 0
  metR : ∀ x, x < G → 0 ≤ s.met x ∧ s.met x ≤ s.cnt
  cnt0 : 0 ≤ s.cnt
  opnS : s.opn.Pairwise (fun a b => s.met a < s.met b)
  pathS : s.path.Pairwise (fun a b => s.met a < s.met b ∧ RchW (Ego G L Z) a b)
  nxtR : ∀ x, x < G → 0 ≤ s.nxt x ∧ s.nxt x ≤ L x
  unmet : ∀ x, x < G → s.met x = 0 → s.nxt x = 0
  edges : ∀ x, x < G → s.met x ≠ 0 → ∀ j : Nat, j < L x → (j : Int) < s.nxt x → s.met (Z x j).toNat ≠ 0 ∧ (s.lst x = -1 → s.lst (Z x j).toNat = -1 → s.low x ≤ s.met (Z x j).toNat) ∧ (s.lst x ≠ -1 → s.lst (Z x j).toNat ≠ -1)
  closedN : ∀ x, x < G → s.lst x ≠ -1 → s.nxt x = L x
  lowR : ∀ x, x < G → s.met x ≠ 0 → s.lst x = -1 → 1 ≤ s.low x ∧ s.low x ≤ s.met x ∧ ∃ y, y < G ∧ s.met y = s.low x ∧ s.lst y = -1 ∧ RchW (Ego G L Z) x y
  off : ∀ x, x < G → s.met x ≠ 0 → s.lst x = -1 → x ∉ s.path → s.nxt x = L x ∧ s.low x < s.met x ∧ ∃ p, p ∈ s.path ∧ s.met p < s.met x ∧ s.low p ≤ s.low x ∧ RchW (Ego G L Z) p x ∧ ∀ p' ∈ s.path, s.met p' ≤ s.met x → s.met p' ≤ s.met p
  parts : ∀ x, x < G → s.lst x ≠ -1 → ∃ m : Nat, m < G ∧ s.lst x = (m : Int) ∧ Mut (Ego G L Z) x m ∧ ∀ y, y < G → Mut (Ego G L Z) x y → s.lst y = (m : Int) ∧ m ≤ y

section
variable {G : Nat} {L : Nat → Nat} {Z : Nat → Nat → Int} {s : ScSt}

theorem Tj.pathG (h : Tj G L Z s) {a : Nat} (ha : a ∈ s.path) : a < G := h.opnIn a (h.pathSub a ha)
theorem Tj.isOpen (h : Tj G L Z s) {a : Nat} (ha : a ∈ s.opn) : s.met a ≠ 0 ∧ s.lst a = -1 := (h.mem a (h.opnIn a ha)).1 ha
theorem Tj.zG (h : Tj G L Z s) {x j : Nat} (hx : x < G) (hj : j < L x) : (Z x j).toNat < G := by have := h.hZ x hx j hj; omega
theorem Tj.ego (h : Tj G L Z s) {x j : Nat} (hx : x < G) (hj : j < L x) : Ego G L Z x (Z x j).toNat := ⟨hx, j, hj, by have := h.hZ x hx j hj; omega⟩

theorem Tj.inj (h : Tj G L Z s) {a b : Nat} (ha : a ∈ s.opn) (hb : b ∈ s.opn) (e : s.met a = s.met b) : a = b := by
  obtain ⟨i, hi, rfl⟩ := List.getElem_of_mem ha
  obtain ⟨j, hj, rfl⟩ := List.getElem_of_mem hb
  by_cases h1 : i < j
  · have := List.pairwise_iff_getElem.1 h.opnS i j hi hj h1; omega
  · by_cases h2 : j < i
    · have := List.pairwise_iff_getElem.1 h.opnS j i hj hi h2; omega
    · have : i = j := by omega
      subst this; rfl

/-- A node is met: on top of both lists. -/
def enterS (s : ScSt) (x : Nat) : ScSt := { s with met := upd s.met x (s.cnt + 1), low := upd s.low x (s.cnt + 1), path := s.path ++ [x], opn := s.opn ++ [x], cnt := s.cnt + 1 }

theorem Tj.enter (h : Tj G L Z s) {x : Nat} (hx : x < G) (h0 : s.met x = 0) (hr : ∀ a ∈ s.path, RchW (Ego G L Z) a x) : Tj G L Z (enterS s x) := by
  have hc := h.cnt0
  have hl : s.lst x = -1 := by
    by_cases e : s.lst x = -1
    · exact e
    · exact absurd h0 (h.closedMet x hx e)
  have hxo : x ∉ s.opn := fun hh => (h.isOpen hh).1 h0
  have ne : ∀ a ∈ s.opn, a ≠ x := fun a ha e => hxo (e ▸ ha)
  have mo : ∀ y, y ≠ x → upd s.met x (s.cnt + 1) y = s.met y := fun y hy => upd_ne _ _ _ _ hy
  have lo : ∀ y, y ≠ x → upd s.low x (s.cnt + 1) y = s.low y := fun y hy => upd_ne _ _ _ _ hy
  refine ⟨h.hZ, ?_, ?_, ?_, ?_, ?_, by show 0 ≤ s.cnt + 1; omega, ?_, ?_, h.nxtR, ?_, ?_, h.closedN, ?_, ?_, h.parts⟩
  · intro a ha
    rcases List.mem_append.1 ha with ha | ha
    · exact List.mem_append.2 (Or.inl (h.pathSub a ha))
    · exact List.mem_append.2 (Or.inr ha)
  · intro a ha
    rcases List.mem_append.1 ha with ha | ha
    · exact h.opnIn a ha
    · have : a = x := by simpa using ha
      subst this; exact hx
  · intro y hy
    show y ∈ s.opn ++ [x] ↔ (upd s.met x (s.cnt + 1) y ≠ 0 ∧ s.lst y = -1)
    by_cases e : y = x
    · subst e
      rw [upd_at]
      exact ⟨fun _ => ⟨by omega, hl⟩, fun _ => by simp⟩
    · rw [mo y e, ← h.mem y hy]
      simp [e]
  · intro y hy hly
    show upd s.met x (s.cnt + 1) y ≠ 0
    by_cases e : y = x
    · subst e; rw [upd_at]; omega
    · rw [mo y e]; exact h.closedMet y hy hly
  · intro y hy
    show 0 ≤ upd s.met x (s.cnt + 1) y ∧ upd s.met x (s.cnt + 1) y ≤ s.cnt + 1
    by_cases e : y = x
    · subst e; rw [upd_at]; omega
    · rw [mo y e]; have := h.metR y hy; omega
  · show (s.opn ++ [x]).Pairwise (fun a b => upd s.met x (s.cnt + 1) a < upd s.met x (s.cnt + 1) b)
    rw [List.pairwise_append]
    refine ⟨List.Pairwise.imp_of_mem (fun {a b} ha hb hab => by rw [mo a (ne a ha), mo b (ne b hb)]; exact hab) h.opnS, by simp, fun a ha b hb => ?_⟩
    have : b = x := by simpa using hb
    subst this
    rw [mo a (ne a ha), upd_at]
    have := h.metR a (h.opnIn a ha)
    omega
  · show (s.path ++ [x]).Pairwise (fun a b => upd s.met x (s.cnt + 1) a < upd s.met x (s.cnt + 1) b ∧ RchW (Ego G L Z) a b)
    rw [List.pairwise_append]
    refine ⟨List.Pairwise.imp_of_mem (fun {a b} ha hb hab => by rw [mo a (ne a (h.pathSub a ha)), mo b (ne b (h.pathSub b hb))]; exact hab) h.pathS, by simp, fun a ha b hb => ?_⟩
    have : b = x := by simpa using hb
    subst this
    rw [mo a (ne a (h.pathSub a ha)), upd_at]
    have := h.metR a (h.pathG ha)
    exact ⟨by omega, hr a ha⟩
  · intro y hy hmy
    have hmy' : upd s.met x (s.cnt + 1) y = 0 := hmy
    by_cases e : y = x
    · subst e; rw [upd_at] at hmy'; omega
    · rw [mo y e] at hmy'; exact h.unmet y hy hmy'
  · intro y hy hmy j hj hjn
    show upd s.met x (s.cnt + 1) (Z y j).toNat ≠ 0 ∧ (s.lst y = -1 → s.lst (Z y j).toNat = -1 → upd s.low x (s.cnt + 1) y ≤ upd s.met x (s.cnt + 1) (Z y j).toNat) ∧ (s.lst y ≠ -1 → s.lst (Z y j).toNat ≠ -1)
    by_cases e : y = x
    · subst e
      have := h.unmet y hy h0
      have hjn' : (j : Int) < s.nxt y := hjn
      omega
    · have hmy' : s.met y ≠ 0 := by rw [← mo y e]; exact hmy
      obtain ⟨e1, e2, e3⟩ := h.edges y hy hmy' j hj hjn
      have ez : (Z y j).toNat ≠ x := fun hh => by rw [hh] at e1; exact e1 h0
      rw [mo _ ez, lo y e]
      exact ⟨e1, e2, e3⟩
  · intro y hy hmy hly
    show 1 ≤ upd s.low x (s.cnt + 1) y ∧ upd s.low x (s.cnt + 1) y ≤ upd s.met x (s.cnt + 1) y ∧ ∃ z, z < G ∧ upd s.met x (s.cnt + 1) z = upd s.low x (s.cnt + 1) y ∧ s.lst z = -1 ∧ RchW (Ego G L Z) y z
    by_cases e : y = x
    · subst e
      rw [upd_at, upd_at]
      exact ⟨by omega, Int.le_refl _, y, hy, upd_at _ _ _, hl, RchW.refl _⟩
    · have hmy' : s.met y ≠ 0 := by rw [← mo y e]; exact hmy
      obtain ⟨e1, e2, z, hz, e3, e4, e5⟩ := h.lowR y hy hmy' hly
      rw [mo y e, lo y e]
      exact ⟨e1, e2, z, hz, by rw [mo z (fun hh => by rw [hh, h0] at e3; omega)]; exact e3, e4, e5⟩
  · intro y hy hmy hly hyp
    have hyx : y ≠ x := fun e => hyp (List.mem_append.2 (Or.inr (by simp [e])))
    have hmy' : s.met y ≠ 0 := by rw [← mo y hyx]; exact hmy
    obtain ⟨e1, e2, p, hp, e3, e4, e5, e6⟩ := h.off y hy hmy' hly (fun hh => hyp (List.mem_append.2 (Or.inl hh)))
    have hpx := ne p (h.pathSub p hp)
    show s.nxt y = L y ∧ upd s.low x (s.cnt + 1) y < upd s.met x (s.cnt + 1) y ∧ ∃ p, p ∈ s.path ++ [x] ∧ upd s.met x (s.cnt + 1) p < upd s.met x (s.cnt + 1) y ∧ upd s.low x (s.cnt + 1) p ≤ upd s.low x (s.cnt + 1) y ∧ RchW (Ego G L Z) p y ∧ ∀ p' ∈ s.path ++ [x], upd s.met x (s.cnt + 1) p' ≤ upd s.met x (s.cnt + 1) y → upd s.met x (s.cnt + 1) p' ≤ upd s.met x (s.cnt + 1) p
    rw [mo y hyx, lo y hyx]
    refine ⟨e1, e2, p, List.mem_append.2 (Or.inl hp), by rw [mo p hpx]; exact e3, by rw [lo p hpx]; exact e4, e5, fun p' hp' hle => ?_⟩
    rw [mo p hpx]
    rcases List.mem_append.1 hp' with hp' | hp'
    · rw [mo p' (ne p' (h.pathSub p' hp'))] at hle ⊢
      exact e6 p' hp' hle
    · have : p' = x := by simpa using hp'
      subst this
      rw [upd_at] at hle
      have := h.metR y hy
      omega

/-- One going more of a node's list is done. -/
theorem Tj.bump (h : Tj G L Z s) {n j : Nat} (hn : n ∈ s.path) (hj : j < L n) (hjn : s.nxt n = j) (hm : s.met (Z n j).toNat ≠ 0) (hlow : s.lst (Z n j).toNat = -1 → s.low n ≤ s.met (Z n j).toNat) : Tj G L Z { s with nxt := upd s.nxt n ((j : Int) + 1) } := by
  have hnG := h.pathG hn
  have ho := h.isOpen (h.pathSub n hn)
  have no : ∀ y, y ≠ n → upd s.nxt n ((j : Int) + 1) y = s.nxt y := fun y hy => upd_ne _ _ _ _ hy
  refine ⟨h.hZ, h.pathSub, h.opnIn, h.mem, h.closedMet, h.metR, h.cnt0, h.opnS, h.pathS, ?_, ?_, ?_, ?_, h.lowR, ?_, h.parts⟩
  · intro x hx
    show 0 ≤ upd s.nxt n ((j : Int) + 1) x ∧ upd s.nxt n ((j : Int) + 1) x ≤ L x
    by_cases e : x = n
    · subst e; rw [upd_at]; omega
    · rw [no x e]; exact h.nxtR x hx
  · intro x hx hmx
    show upd s.nxt n ((j : Int) + 1) x = 0
    by_cases e : x = n
    · subst e; exact absurd hmx ho.1
    · rw [no x e]; exact h.unmet x hx hmx
  · intro x hx hmx i hi hin
    have hin' : (i : Int) < upd s.nxt n ((j : Int) + 1) x := hin
    by_cases e : x = n
    · subst e
      rw [upd_at] at hin'
      by_cases ei : i = j
      · subst ei
        exact ⟨hm, fun _ => hlow, fun hh => absurd ho.2 hh⟩
      · exact h.edges x hx hmx i hi (by omega)
    · rw [no x e] at hin'
      exact h.edges x hx hmx i hi hin'
  · intro x hx hlx
    show upd s.nxt n ((j : Int) + 1) x = L x
    by_cases e : x = n
    · subst e; exact absurd ho.2 hlx
    · rw [no x e]; exact h.closedN x hx hlx
  · intro x hx hmx hlx hxp
    have e : x ≠ n := fun e => hxp (e ▸ hn)
    show upd s.nxt n ((j : Int) + 1) x = L x ∧ _
    rw [no x e]
    exact h.off x hx hmx hlx hxp

/-- A node of the path is known to come to an open one. -/
theorem Tj.lower (h : Tj G L Z s) {n : Nat} {v : Int} (hn : n ∈ s.path) (hv : v ≤ s.low n) (hv1 : 1 ≤ v) (hw : ∃ y, y < G ∧ s.met y = v ∧ s.lst y = -1 ∧ RchW (Ego G L Z) n y) : Tj G L Z { s with low := upd s.low n v } := by
  have le : ∀ y, upd s.low n v y ≤ s.low y := fun y => by
    by_cases e : y = n
    · subst e; rw [upd_at]; exact hv
    · rw [upd_ne _ _ _ _ e]; exact Int.le_refl _
  refine ⟨h.hZ, h.pathSub, h.opnIn, h.mem, h.closedMet, h.metR, h.cnt0, h.opnS, h.pathS, h.nxtR, h.unmet, ?_, h.closedN, ?_, ?_, h.parts⟩
  · intro x hx hmx i hi hin
    obtain ⟨e1, e2, e3⟩ := h.edges x hx hmx i hi hin
    exact ⟨e1, fun a b => Int.le_trans (le x) (e2 a b), e3⟩
  · intro x hx hmx hlx
    show 1 ≤ upd s.low n v x ∧ upd s.low n v x ≤ s.met x ∧ ∃ y, y < G ∧ s.met y = upd s.low n v x ∧ s.lst y = -1 ∧ RchW (Ego G L Z) x y
    obtain ⟨e1, e2, e3⟩ := h.lowR x hx hmx hlx
    by_cases e : x = n
    · subst e; rw [upd_at]; exact ⟨hv1, by omega, hw⟩
    · rw [upd_ne _ _ _ _ e]; exact ⟨e1, e2, e3⟩
  · intro x hx hmx hlx hxp
    have e : x ≠ n := fun e => hxp (e ▸ hn)
    obtain ⟨e1, e2, p, hp, e3, e4, e5, e6⟩ := h.off x hx hmx hlx hxp
    show s.nxt x = L x ∧ upd s.low n v x < s.met x ∧ ∃ p, p ∈ s.path ∧ s.met p < s.met x ∧ upd s.low n v p ≤ upd s.low n v x ∧ _
    rw [upd_ne _ _ _ _ e]
    exact ⟨e1, e2, p, hp, e3, Int.le_trans (le p) e4, e5, e6⟩

/-- A node is left that comes to an earlier one: the one before it takes that on. -/
theorem Tj.up (h : Tj G L Z s) {P : List Nat} {b n : Nat} (hp : s.path = (P ++ [b]) ++ [n]) (hnx : s.nxt n = L n) (hlow : s.low n < s.met n) : Tj G L Z { s with path := P ++ [b], low := upd s.low b (min (s.low b) (s.low n)) } := by
  have hn : n ∈ s.path := by rw [hp]; simp
  have hb : b ∈ s.path := by rw [hp]; simp
  have ps := h.pathS
  rw [hp] at ps
  rw [List.pairwise_append] at ps
  obtain ⟨ps1, _, ps2⟩ := ps
  have hbn := ps2 b (by simp) n (by simp)
  have last : ∀ p' ∈ P ++ [b], s.met p' ≤ s.met b := fun p' hp' => by
    rcases List.mem_append.1 hp' with h1 | h1
    · have := (List.pairwise_append.1 ps1).2.2 p' h1 b (by simp); omega
    · have : p' = b := by simpa using h1
      subst this; exact Int.le_refl _
  have ln := h.lowR n (h.pathG hn) (h.isOpen (h.pathSub n hn)).1 (h.isOpen (h.pathSub n hn)).2
  have lb := h.lowR b (h.pathG hb) (h.isOpen (h.pathSub b hb)).1 (h.isOpen (h.pathSub b hb)).2
  have h1 := h.lower (n := b) (v := min (s.low b) (s.low n)) hb (Int.min_le_left _ _) (by omega) (by
    by_cases e : s.low b ≤ s.low n
    · rw [Int.min_eq_left e]; exact lb.2.2
    · rw [Int.min_eq_right (by omega)]
      obtain ⟨y, hy, e1, e2, e3⟩ := ln.2.2
      exact ⟨y, hy, e1, e2, hbn.2.trans e3⟩)
  have hne : b ≠ n := fun e => by rw [e] at hbn; omega
  refine ⟨h.hZ, fun a ha => h1.pathSub a (by show a ∈ s.path; rw [hp]; exact List.mem_append.2 (Or.inl ha)), h1.opnIn, h1.mem, h1.closedMet, h1.metR, h1.cnt0, h1.opnS, ps1, h1.nxtR, h1.unmet, h1.edges, h1.closedN, h1.lowR, ?_, h1.parts⟩
  intro x hx hmx hlx hxp
  show s.nxt x = L x ∧ upd s.low b (min (s.low b) (s.low n)) x < s.met x ∧ ∃ p, p ∈ P ++ [b] ∧ s.met p < s.met x ∧ upd s.low b (min (s.low b) (s.low n)) p ≤ upd s.low b (min (s.low b) (s.low n)) x ∧ RchW (Ego G L Z) p x ∧ ∀ p' ∈ P ++ [b], s.met p' ≤ s.met x → s.met p' ≤ s.met p
  have hxb : x ≠ b := fun e => hxp (by show x ∈ P ++ [b]; rw [e]; simp)
  rw [upd_ne _ _ _ _ hxb]
  by_cases e : x = n
  · subst e
    exact ⟨hnx, hlow, b, by simp, hbn.1, by rw [upd_at]; omega, hbn.2, fun p' hp' _ => last p' hp'⟩
  · have hxp' : x ∉ s.path := fun hh => by
      rw [hp] at hh
      rcases List.mem_append.1 hh with h2 | h2
      · exact hxp h2
      · exact e (by simpa using h2)
    obtain ⟨e1, e2, p, hpp, e3, e4, e5, e6⟩ := h.off x hx hmx hlx hxp'
    refine ⟨e1, e2, ?_⟩
    by_cases ep : p = n
    · subst ep
      exact ⟨b, by simp, by omega, by rw [upd_at]; omega, hbn.2.trans e5, fun p' hp' _ => last p' hp'⟩
    · have hpp' : p ∈ P ++ [b] := by
        rw [hp] at hpp
        rcases List.mem_append.1 hpp with h2 | h2
        · exact h2
        · exact absurd (by simpa using h2) ep
      refine ⟨p, hpp', e3, ?_, e5, fun p' hp' hle => e6 p' (by rw [hp]; exact List.mem_append.2 (Or.inl hp')) hle⟩
      by_cases epb : p = b
      · subst epb; rw [upd_at]; omega
      · rw [upd_ne _ _ _ _ epb]; exact e4

/-- A node that comes to an earlier one isn't the path's first. -/
theorem Tj.hasBefore (h : Tj G L Z s) {Q : List Nat} {n : Nat} (hp : s.path = Q ++ [n]) (hlow : s.low n < s.met n) : ∃ P b, Q = P ++ [b] := by
  have hn : n ∈ s.path := by rw [hp]; simp
  have ho := h.isOpen (h.pathSub n hn)
  obtain ⟨_, _, y, hy, e1, e2, _⟩ := h.lowR n (h.pathG hn) ho.1 ho.2
  have ln := h.lowR n (h.pathG hn) ho.1 ho.2
  have hex : ∃ q ∈ s.path, q ≠ n := by
    by_cases hyp : y ∈ s.path
    · exact ⟨y, hyp, fun e => by rw [e] at e1; omega⟩
    · obtain ⟨_, _, p, hpp, e3, _⟩ := h.off y hy (by omega) e2 hyp
      exact ⟨p, hpp, fun e => by rw [e] at e3; omega⟩
  obtain ⟨q, hq, hqn⟩ := hex
  rw [hp] at hq
  rcases List.mem_append.1 hq with h1 | h1
  · have hne : Q ≠ [] := fun e => by rw [e] at h1; cases h1
    exact ⟨Q.dropLast, Q.getLast hne, (List.dropLast_concat_getLast hne).symm⟩
  · exact absurd (by simpa using h1) hqn

def closeS (s : ScSt) (A S P : List Nat) (m : Nat) : ScSt := { s with path := P, opn := A, lst := fun x => if x ∈ S then (m : Int) else s.lst x }

/-- A node is left that comes to no earlier open one: all that is open from it on is a part. -/
theorem Tj.close (h : Tj G L Z s) {P A B : List Nat} {n m : Nat} (hp : s.path = P ++ [n]) (hnx : s.nxt n = L n) (hlow : s.low n = s.met n) (ho : s.opn = A ++ (n :: B)) (hm : m ∈ n :: B) (hmin : ∀ y ∈ n :: B, m ≤ y) : Tj G L Z (closeS s A (n :: B) P m) := by
  have hn : n ∈ s.path := by rw [hp]; simp
  have hnG := h.pathG hn
  have hno := h.isOpen (h.pathSub n hn)
  have os := h.opnS
  rw [ho, List.pairwise_append, List.pairwise_cons] at os
  obtain ⟨_, ⟨osB, _⟩, osA⟩ := os
  have ps := h.pathS
  rw [hp, List.pairwise_append] at ps
  obtain ⟨psP, _, psn⟩ := ps
  have inS : ∀ x, x ∈ n :: B ↔ (x ∈ s.opn ∧ s.met n ≤ s.met x) := fun x => by
    constructor
    · intro hx
      refine ⟨by rw [ho]; exact List.mem_append.2 (Or.inr hx), ?_⟩
      rcases List.mem_cons.1 hx with e | hB
      · rw [e]; exact Int.le_refl _
      · have := osB x hB; omega
    · rintro ⟨hx, hle⟩
      rw [ho] at hx
      rcases List.mem_append.1 hx with hA | hS
      · have := osA x hA n (by simp); omega
      · exact hS
  have inA : ∀ x, x ∈ A ↔ (x ∈ s.opn ∧ x ∉ n :: B) := fun x => by
    constructor
    · intro hx
      refine ⟨by rw [ho]; exact List.mem_append.2 (Or.inl hx), fun hS => ?_⟩
      have := osA x hx n (by simp)
      have := ((inS x).1 hS).2
      omega
    · rintro ⟨hx, hS⟩
      rw [ho] at hx
      rcases List.mem_append.1 hx with hA | hS'
      · exact hA
      · exact absurd hS' hS
  have topmax : ∀ p ∈ s.path, s.met p ≤ s.met n := fun p hpp => by
    rw [hp] at hpp
    rcases List.mem_append.1 hpp with h1 | h1
    · have := psn p h1 n (by simp); omega
    · have : p = n := by simpa using h1
      rw [this]; exact Int.le_refl _
  -- of each node of the part
  have f1 : ∀ x ∈ n :: B, x < G ∧ s.met x ≠ 0 ∧ s.lst x = -1 ∧ s.low n ≤ s.low x ∧ RchW (Ego G L Z) n x ∧ s.nxt x = L x := fun x hx => by
    have hxo := ((inS x).1 hx).1
    have hxG := h.opnIn x hxo
    have hxi := h.isOpen hxo
    by_cases e : x = n
    · subst e; exact ⟨hxG, hxi.1, hxi.2, Int.le_refl _, RchW.refl _, hnx⟩
    · have hxp : x ∉ s.path := fun hh => by
        have h1 := topmax x hh
        have h2 := ((inS x).1 hx).2
        exact e (h.inj hxo (h.pathSub n hn) (by omega))
      obtain ⟨e1, e2, p, hpp, e3, e4, e5, e6⟩ := h.off x hxG hxi.1 hxi.2 hxp
      have h1 := e6 n hn ((inS x).1 hx).2
      have h2 := topmax p hpp
      have hpn : p = n := h.inj (h.pathSub p hpp) (h.pathSub n hn) (by omega)
      subst hpn
      exact ⟨hxG, hxi.1, hxi.2, e4, e5, e1⟩
  have f2 : ∀ (k : Nat) x, x ∈ n :: B → s.met x ≤ k → RchW (Ego G L Z) x n := by
    intro k
    induction k with
    | zero =>
      intro x hx hk
      have := h.metR x (f1 x hx).1
      exact absurd (by omega) (f1 x hx).2.1
    | succ k ih =>
      intro x hx hk
      by_cases e : x = n
      · subst e; exact RchW.refl _
      · have hxo := ((inS x).1 hx).1
        obtain ⟨hxG, hxm, hxl, hlow', _, _⟩ := f1 x hx
        have hxp : x ∉ s.path := fun hh => by
          have h1 := topmax x hh
          have h2 := ((inS x).1 hx).2
          exact e (h.inj hxo (h.pathSub n hn) (by omega))
        obtain ⟨_, e2, _⟩ := h.off x hxG hxm hxl hxp
        obtain ⟨e1, _, y, hy, ey, el, er⟩ := h.lowR x hxG hxm hxl
        have hyo : y ∈ s.opn := (h.mem y hy).2 ⟨by omega, el⟩
        have hyS : y ∈ n :: B := (inS y).2 ⟨hyo, by omega⟩
        exact er.trans (ih y hyS (by omega))
  have back : ∀ x ∈ n :: B, RchW (Ego G L Z) x n := fun x hx => f2 (s.met x).toNat x hx (by have := h.metR x (f1 x hx).1; omega)
  have closedStay : ∀ x y, (x < G ∧ s.lst x ≠ -1) → Ego G L Z x y → (y < G ∧ s.lst y ≠ -1) := fun x y hx hxy => by
    obtain ⟨_, i, hi, ei⟩ := hxy
    have hz := h.hZ x hx.1 i hi
    have hyy : (Z x i).toNat = y := by omega
    have := (h.edges x hx.1 (h.closedMet x hx.1 hx.2) i hi (by rw [h.closedN x hx.1 hx.2]; omega)).2.2 hx.2
    rw [hyy] at this
    exact ⟨by omega, this⟩
  have partStay : ∀ x y, (x ∈ n :: B ∨ (x < G ∧ s.lst x ≠ -1)) → Ego G L Z x y → (y ∈ n :: B ∨ (y < G ∧ s.lst y ≠ -1)) := fun x y hx hxy => by
    rcases hx with hx | hx
    · obtain ⟨hxG, hxm, hxl, hlow', _, hxn⟩ := f1 x hx
      obtain ⟨_, i, hi, ei⟩ := hxy
      have hz := h.hZ x hxG i hi
      have hyy : (Z x i).toNat = y := by omega
      obtain ⟨e1, e2, _⟩ := h.edges x hxG hxm i hi (by rw [hxn]; omega)
      rw [hyy] at e1 e2
      by_cases ey : s.lst y = -1
      · have := e2 hxl ey
        exact Or.inl ((inS y).2 ⟨(h.mem y (by omega)).2 ⟨e1, ey⟩, by omega⟩)
      · exact Or.inr ⟨by omega, ey⟩
    · exact Or.inr (closedStay x y hx hxy)
  have mutS : ∀ x ∈ n :: B, ∀ y, y < G → (Mut (Ego G L Z) x y ↔ y ∈ n :: B) := fun x hx y hy => by
    constructor
    · rintro ⟨h1, h2⟩
      rcases h1.stay partStay (Or.inl hx) with hyS | hyC
      · exact hyS
      · have := h2.stay closedStay hyC
        exact absurd (f1 x hx).2.2.1 this.2
    · intro hyS
      exact ⟨(back x hx).trans (f1 y hyS).2.2.2.2.1, (back y hyS).trans (f1 x hx).2.2.2.2.1⟩
  have hmG := (f1 m hm).1
  have newl : ∀ x, x < G → ((closeS s A (n :: B) P m).lst x = -1 ↔ (s.lst x = -1 ∧ x ∉ n :: B)) := fun x hx => by
    show (if x ∈ n :: B then (m : Int) else s.lst x) = -1 ↔ _
    by_cases e : x ∈ n :: B
    · rw [if_pos e]
      exact ⟨fun hh => by omega, fun hh => absurd e hh.2⟩
    · rw [if_neg e]
      exact ⟨fun hh => ⟨hh, e⟩, fun hh => hh.1⟩
  have aOpen : ∀ x, x < G → s.met x ≠ 0 → (closeS s A (n :: B) P m).lst x = -1 → x ∈ s.opn ∧ x ∉ n :: B ∧ s.met x < s.met n ∧ s.lst x = -1 := fun x hx hmx hlx => by
    obtain ⟨h1, h2⟩ := (newl x hx).1 hlx
    have hxo := (h.mem x hx).2 ⟨hmx, h1⟩
    refine ⟨hxo, h2, ?_, h1⟩
    by_cases e : s.met n ≤ s.met x
    · exact absurd ((inS x).2 ⟨hxo, e⟩) h2
    · omega
  refine ⟨h.hZ, ?_, fun a ha => h.opnIn a ((inA a).1 ha).1, ?_, ?_, h.metR, h.cnt0, ?_, psP, h.nxtR, h.unmet, ?_, ?_, ?_, ?_, ?_⟩
  · intro a ha
    refine (inA a).2 ⟨h.pathSub a (by rw [hp]; exact List.mem_append.2 (Or.inl ha)), fun hS => ?_⟩
    have := (psn a ha n (by simp)).1
    have := ((inS a).1 hS).2
    omega
  · intro x hx
    show x ∈ A ↔ (s.met x ≠ 0 ∧ (closeS s A (n :: B) P m).lst x = -1)
    rw [inA, newl x hx, h.mem x hx]
    exact ⟨fun hh => ⟨hh.1.1, hh.1.2, hh.2⟩, fun hh => ⟨⟨hh.1, hh.2.1⟩, hh.2.2⟩⟩
  · intro x hx hlx
    by_cases e : x ∈ n :: B
    · exact (f1 x e).2.1
    · refine h.closedMet x hx (fun hh => hlx ((newl x hx).2 ⟨hh, e⟩))
  · have := h.opnS
    rw [ho, List.pairwise_append] at this
    exact this.1
  · intro x hx hmx j hj hjn
    have hzG := h.zG hx hj
    obtain ⟨e1, e2, e3⟩ := h.edges x hx hmx j hj hjn
    refine ⟨e1, fun a b => e2 ((newl x hx).1 a).1 ((newl _ hzG).1 b).1, fun hlx hz => ?_⟩
    obtain ⟨z1, z2⟩ := (newl _ hzG).1 hz
    by_cases e : x ∈ n :: B
    · rcases partStay x _ (Or.inl e) (h.ego hx hj) with h1 | h1
      · exact z2 h1
      · exact h1.2 z1
    · exact e3 (fun hh => hlx ((newl x hx).2 ⟨hh, e⟩)) z1
  · intro x hx hlx
    by_cases e : x ∈ n :: B
    · exact (f1 x e).2.2.2.2.2
    · exact h.closedN x hx (fun hh => hlx ((newl x hx).2 ⟨hh, e⟩))
  · intro x hx hmx hlx
    obtain ⟨_, _, hlt, hl⟩ := aOpen x hx hmx hlx
    obtain ⟨e1, e2, y, hy, e3, e4, e5⟩ := h.lowR x hx hmx hl
    refine ⟨e1, e2, y, hy, e3, (newl y hy).2 ⟨e4, fun hS => ?_⟩, e5⟩
    have := ((inS y).1 hS).2
    omega
  · intro x hx hmx hlx hxp
    obtain ⟨_, _, hlt, hl⟩ := aOpen x hx hmx hlx
    have hxp' : x ∉ s.path := fun hh => by
      rw [hp] at hh
      rcases List.mem_append.1 hh with h1 | h1
      · exact hxp h1
      · have : x = n := by simpa using h1
        rw [this] at hlt; omega
    obtain ⟨e1, e2, p, hpp, e3, e4, e5, e6⟩ := h.off x hx hmx hl hxp'
    have hpP : p ∈ P := by
      rw [hp] at hpp
      rcases List.mem_append.1 hpp with h1 | h1
      · exact h1
      · have : p = n := by simpa using h1
        rw [this] at e3; omega
    exact ⟨e1, e2, p, hpP, e3, e4, e5, fun p' hp' hle => e6 p' (by rw [hp]; exact List.mem_append.2 (Or.inl hp')) hle⟩
  · intro x hx hlx
    by_cases e : x ∈ n :: B
    · refine ⟨m, hmG, by show (if x ∈ n :: B then (m : Int) else s.lst x) = m; rw [if_pos e], (mutS x e m hmG).2 hm, fun y hy hxy => ?_⟩
      have hyS := (mutS x e y hy).1 hxy
      exact ⟨by show (if y ∈ n :: B then (m : Int) else s.lst y) = m; rw [if_pos hyS], hmin y hyS⟩
    · have hl : s.lst x ≠ -1 := fun hh => hlx ((newl x hx).2 ⟨hh, e⟩)
      obtain ⟨k, hk, e1, e2, e3⟩ := h.parts x hx hl
      refine ⟨k, hk, by show (if x ∈ n :: B then (m : Int) else s.lst x) = k; rw [if_neg e]; exact e1, e2, fun y hy hxy => ?_⟩
      obtain ⟨h1, h2⟩ := e3 y hy hxy
      have hyS : y ∉ n :: B := fun hh => by rw [(f1 y hh).2.2.1] at h1; omega
      exact ⟨by show (if y ∈ n :: B then (m : Int) else s.lst y) = k; rw [if_neg hyS]; exact h1, h2⟩

/-- Nothing is open where the path has ended. -/
theorem Tj.done (h : Tj G L Z s) (hp : s.path = []) : s.opn = [] := by
  cases ho : s.opn with
  | nil => rfl
  | cons a r =>
    have ha : a ∈ s.opn := by rw [ho]; simp
    have hi := h.isOpen ha
    obtain ⟨_, _, p, hpp, _⟩ := h.off a (h.opnIn a ha) hi.1 hi.2 (by rw [hp]; simp)
    rw [hp] at hpp
    cases hpp

end
end Go.Proofs.Ythpbgfodejoecaa
