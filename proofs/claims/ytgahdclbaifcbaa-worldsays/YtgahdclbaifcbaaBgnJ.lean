/- Where fair ways begin: one step on; without fair sets; in the world of two states. Endless ways by parts (ported), and where fair ways begin. -/
import Derived.Test.YtgahdclbaifcbaaTrdJ
import Derived.Test.YtgahdclbaifcbaaTns
import Derived.Test.YtgahdclbaifcbaaFai
import Derived.Test.YtgahdclbaifcbaaWayJ
namespace Go.Proofs.Ytgahdclbaifcbaa
open Go.RowKit

theorem Rch.head {E : Nat → Nat → Prop} {a b : Nat} (h : Rch E a b) : a = b ∨ ∃ c, E a c ∧ Rch E c b := by
  obtain ⟨k, hk⟩ := h
  have : ∀ k b, Wk (fun x => x = a) E k b → a = b ∨ ∃ c, E a c ∧ Rch E c b := by
    intro k
    induction k with
    | zero => intro b hb; exact Or.inl (Eq.symm hb)
    | succ k ih =>
      rintro b ⟨y, hy, e⟩
      rcases ih y hy with rfl | ⟨c, h1, h2⟩
      · exact Or.inr ⟨b, e, Rch.refl b⟩
      · exact Or.inr ⟨c, h1, h2.on e⟩
  exact this k b hk

theorem ego_to {G : Nat} {L : Nat → Nat} {Z : Nat → Nat → Int} {x i : Nat} (hx : x < G) (hi : i < L x) (hz : 0 ≤ Z x i) : Ego G L Z x (Z x i).toNat := ⟨hx, i, hi, by omega⟩

theorem begins_step {A : Wx} (h0 : chkW A = 0) {x : Nat} (hx : x < A.G) : Begins A x ↔ ∃ i, i < A.L x ∧ Begins A (A.Z x i).toNat := by
  obtain ⟨-, -, -, -, -, hz, -⟩ := chkW_ok h0
  constructor
  · rintro ⟨s, hs, hf, hr⟩
    have key : ∃ c, Ego A.G A.L A.Z x c ∧ ∃ s, s < A.G ∧ FairS A s ∧ Rch (Ego A.G A.L A.Z) c s := by
      rcases hr.head with rfl | ⟨c, h1, h2⟩
      · obtain ⟨⟨y, hy, i, hi, hm1, hm2⟩, hk⟩ := hf
        have hf : FairS A x := ⟨⟨y, hy, i, hi, hm1, hm2⟩, hk⟩
        rcases hm2.2.head with e | ⟨c, h1, h2⟩
        · have e' : y = x := e.symm
          subst e'
          exact ⟨_, ego_to hy hi (hz y hy i hi).1, y, hx, hf, hm1.1⟩
        · exact ⟨c, h1, x, hx, hf, h2.trans hm2.1⟩
      · exact ⟨c, h1, s, hs, hf, h2⟩
    obtain ⟨c, ⟨_, i, hi, e⟩, s, h1, h2, h3⟩ := key
    refine ⟨i, hi, s, h1, h2, ?_⟩
    have : (A.Z x i).toNat = c := by omega
    rw [this]
    exact h3
  · rintro ⟨i, hi, s, h1, h2, h3⟩
    exact ⟨s, h1, h2, (Rch.edge (ego_to hx hi (hz x hx i hi).1)).trans h3⟩

/-- The drawers: more things than places. -/
theorem drawers : ∀ (n : Nat) (f : Nat → Nat), (∀ i, i ≤ n → f i < n) → ∃ i j, i < j ∧ j ≤ n ∧ f i = f j := by
  intro n
  induction n with
  | zero => intro f h; have := h 0 (Nat.le_refl _); omega
  | succ n ih =>
    intro f h
    by_cases hc : ∃ i, i ≤ n ∧ f i = f (n + 1)
    · obtain ⟨i, hi, e⟩ := hc
      exact ⟨i, n + 1, by omega, Nat.le_refl _, e⟩
    · have hne : ∀ i, i ≤ n → f i ≠ f (n + 1) := fun i hi e => hc ⟨i, hi, e⟩
      obtain ⟨i, j, h1, h2, h3⟩ := ih (fun i => if f i = n then f (n + 1) else f i) (fun i hi => by
        have a1 := h i (by omega)
        have a2 := h (n + 1) (Nat.le_refl _)
        have a3 := hne i hi
        show (if f i = n then f (n + 1) else f i) < n
        split <;> omega)
      refine ⟨i, j, h1, by omega, ?_⟩
      have b1 := hne i (by omega)
      have b2 := hne j h2
      split at h3 <;> split at h3 <;> omega

def onW (Z : Nat → Nat → Int) (x : Nat) : Nat → Nat
  | 0 => x
  | n + 1 => (Z (onW Z x n) 0).toNat

theorem begins_all {A : Wx} (h0 : chkW A = 0) (hK : A.K = 0) {x : Nat} (hx : x < A.G) : Begins A x := by
  obtain ⟨-, -, -, -, hon, hz, -⟩ := chkW_ok h0
  have lt : ∀ n, onW A.Z x n < A.G := by
    intro n
    induction n with
    | zero => exact hx
    | succ n ih =>
      have h1 := hon _ ih
      have h2 := hz _ ih 0 (by omega)
      show (A.Z (onW A.Z x n) 0).toNat < A.G
      omega
  have ed : ∀ n, Ego A.G A.L A.Z (onW A.Z x n) (onW A.Z x (n + 1)) := fun n => by
    have h1 := hon _ (lt n)
    exact ego_to (lt n) (by omega) (hz _ (lt n) 0 (by omega)).1
  have wy : ∀ k n, Rch (Ego A.G A.L A.Z) (onW A.Z x n) (onW A.Z x (n + k)) := by
    intro k n
    induction k with
    | zero => exact Rch.refl _
    | succ k ih => exact ih.on (ed (n + k))
  obtain ⟨i, j, h1, h2, h3⟩ := drawers A.G (onW A.Z x) (fun i _ => lt i)
  refine ⟨onW A.Z x i, lt i, ⟨⟨onW A.Z x i, lt i, 0, by have := hon _ (lt i); omega, ⟨?_, Rch.edge (ed i)⟩, Rch.refl _, Rch.refl _⟩, fun k hk => by omega⟩, by have := wy i 0; rw [Nat.zero_add] at this; exact this⟩
  have := wy (j - (i + 1)) (i + 1)
  rw [show i + 1 + (j - (i + 1)) = j by omega, ← h3] at this
  exact this

theorem begins_tn (z x : Nat) (hx : x < 2) : Begins (tnA z) x := by
  have e : ∀ a b, a < 2 → b < 2 → Ego (tnA z).G (tnA z).L (tnA z).Z a b := fun a b ha hb => by
    refine ⟨ha, if a = b then (if a = 0 then 1 else 1) else 0, ?_, ?_⟩
    · show (if a = b then (if a = 0 then 1 else 1) else 0) < 2
      split <;> simp
    · show (if a = (if a = b then (if a = 0 then 1 else 1) else 0) then (1 : Int) else 0) = b
      rcases lt2 ha with rfl | rfl <;> rcases lt2 hb with rfl | rfl <;> simp
  have m : ∀ a b, a < 2 → b < 2 → Mut (Ego (tnA z).G (tnA z).L (tnA z).Z) a b := fun a b ha hb => ⟨Rch.edge (e a b ha hb), Rch.edge (e b a hb ha)⟩
  refine ⟨x, hx, ⟨⟨x, hx, 0, (by decide : 0 < 2), m _ _ ?_ hx, Rch.refl _, Rch.refl _⟩, fun k hk => ⟨0, (by decide : 0 < 1), m _ _ ?_ hx⟩⟩, Rch.refl _⟩
  · show ((if x = 0 then (1 : Int) else 0)).toNat < 2
    split <;> decide
  · show ((k : Int)).toNat < 2
    have : k < 2 := hk
    omega

end Go.Proofs.Ytgahdclbaifcbaa

namespace Go.Proofs.Ytgahdclbaifcbaa

theorem PthZ.app {E : Nat → Nat → Prop} {Z : Nat → Prop} : ∀ {n m i j l : Nat}, PthZ E Z n i j → PthZ E Z m j l → PthZ E Z (n + m) i l
  | 0, m, i, j, l, h, k => by
    obtain ⟨rfl, _⟩ := h
    rw [Nat.zero_add]; exact k
  | n + 1, m, i, j, l, ⟨h1, x, h2, h3⟩, k => by
    rw [Nat.succ_add]
    exact ⟨h1, x, h2, PthZ.app h3 k⟩


theorem fair_none (E : Nat → Nat → Prop) (F : Nat → Nat → Prop) (i : Nat) : FairAt E 0 F i ↔ FairAt E 1 (fun _ _ => True) i :=
  ⟨fun ⟨p, h1, h2, _⟩ => ⟨p, h1, h2, fun _ _ j => ⟨j, Nat.le_refl _, trivial⟩⟩, fun ⟨p, h1, h2, _⟩ => ⟨p, h1, h2, fun k hk => absurd hk (Nat.not_lt_zero k)⟩⟩

/-- By some goings, none too. -/
def Rc (E : Nat → Nat → Prop) (i j : Nat) : Prop := ∃ n, PthZ E (fun _ => True) n i j
/-- By one going at least. -/
def Rc1 (E : Nat → Nat → Prop) (i j : Nat) : Prop := ∃ n, PthZ E (fun _ => True) (n + 1) i j

theorem Rc.refl (E : Nat → Nat → Prop) (i : Nat) : Rc E i i := ⟨0, rfl, trivial⟩
theorem Rc.trans {E : Nat → Nat → Prop} {i j l : Nat} (h : Rc E i j) (k : Rc E j l) : Rc E i l := by
  obtain ⟨n, h⟩ := h
  obtain ⟨m, k⟩ := k
  exact ⟨n + m, h.app k⟩
theorem Rc.step {E : Nat → Nat → Prop} {i j l : Nat} (h : E i j) (k : Rc E j l) : Rc E i l := by
  obtain ⟨m, k⟩ := k
  exact ⟨m + 1, trivial, j, h, k⟩
theorem Rc1.of {E : Nat → Nat → Prop} {i j l : Nat} (h : E i j) (k : Rc E j l) : Rc1 E i l := by
  obtain ⟨m, k⟩ := k
  exact ⟨m, trivial, j, h, k⟩
theorem Rc1.rc {E : Nat → Nat → Prop} {i j : Nat} (h : Rc1 E i j) : Rc E i j := by
  obtain ⟨n, h⟩ := h
  exact ⟨n + 1, h⟩
theorem Rc1.app {E : Nat → Nat → Prop} {i j l : Nat} (h : Rc E i j) (k : Rc1 E j l) : Rc1 E i l := by
  obtain ⟨n, h⟩ := h
  obtain ⟨m, k⟩ := k
  exact ⟨n + m, h.app k⟩
theorem Rc1.then {E : Nat → Nat → Prop} {i j l : Nat} (h : Rc1 E i j) (k : Rc E j l) : Rc1 E i l := by
  obtain ⟨n, h⟩ := h
  obtain ⟨m, k⟩ := k
  refine ⟨n + m, ?_⟩
  have := h.app k
  rw [show n + 1 + m = n + m + 1 by omega] at this
  exact this

/-- All of a way to c is where one can come to c. -/
theorem pth_to {E : Nat → Nat → Prop} {c : Nat} : ∀ {n i j : Nat}, PthZ E (fun _ => True) n i j → Rc E j c → PthZ E (fun x => Rc E x c) n i j
  | 0, _, _, h, hc => ⟨h.1, by rw [h.1]; exact hc⟩
  | n + 1, i, j, ⟨_, x, h2, h3⟩, hc => ⟨Rc.step h2 (Rc.trans ⟨n, h3⟩ hc), x, h2, pth_to h3 hc⟩

theorem way_rc {E : Nat → Nat → Prop} {p : Nat → Nat} (h : Wy E p) (j n : Nat) : PthZ E (fun _ => True) n (p j) (p (j + n)) := by
  induction n generalizing j with
  | zero => exact ⟨rfl, trivial⟩
  | succ n ih =>
    refine ⟨trivial, p (j + 1), h j, ?_⟩
    have := ih (j + 1)
    rw [show j + 1 + n = j + (n + 1) by omega] at this
    exact this

/-- Of so many numbers one is met again and again. -/
theorem again_one {n : Nat} {p : Nat → Nat} {J : Nat → Prop} (hp : ∀ j, J j → p j < n) (hJ : ∀ j, ∃ l, j ≤ l ∧ J l) : ∃ c, c < n ∧ ∀ j, ∃ l, j ≤ l ∧ J l ∧ p l = c := by
  refine Classical.byContradiction fun hno => ?_
  have hb : ∀ m, m ≤ n → ∃ b, ∀ l, b ≤ l → J l → ¬ p l < m := by
    intro m
    induction m with
    | zero => intro _; exact ⟨0, fun l _ _ h => absurd h (Nat.not_lt_zero _)⟩
    | succ m ih =>
      intro hm
      obtain ⟨b, hb⟩ := ih (by omega)
      have h1 : ¬ ∀ j, ∃ l, j ≤ l ∧ J l ∧ p l = m := fun h => hno ⟨m, by omega, h⟩
      obtain ⟨j, hj⟩ := Classical.not_forall.1 h1
      refine ⟨max b j, fun l hl hJl hlt => ?_⟩
      have h2 := hb l (by omega) hJl
      exact hj ⟨l, by omega, hJl, by omega⟩
  obtain ⟨b, hb⟩ := hb n (Nat.le_refl _)
  obtain ⟨l, h1, h2⟩ := hJ b
  exact hb l h1 h2 (hp l h2)

/-- By parts: a fair way begins just where one can come to a node that comes back to itself, and with each set in its part. -/
theorem fair_part {E : Nat → Nat → Prop} {K : Nat} {F : Nat → Nat → Prop} {n : Nat} (hE : ∀ i j, E i j → j < n) (i : Nat) : FairAt E K F i ↔ ∃ c, Rc E i c ∧ Rc1 E c c ∧ ∀ k, k < K → ∃ x, F k x ∧ Rc E c x ∧ Rc E x c := by
  constructor
  · rintro ⟨p, rfl, hp, hF⟩
    have hlt : ∀ j, 1 ≤ j → p j < n := fun j hj => by
      have := hE _ _ (hp (j - 1))
      rwa [show j - 1 + 1 = j by omega] at this
    obtain ⟨c, _, hc⟩ := again_one (n := n) (p := p) (J := fun j => 1 ≤ j) (fun j hj => hlt j hj) (fun j => ⟨j + 1, by omega, by omega⟩)
    have tow : ∀ j l, j ≤ l → Rc E (p j) (p l) := fun j l h => ⟨l - j, by
      have := way_rc hp j (l - j)
      rw [show j + (l - j) = l by omega] at this
      exact this⟩
    obtain ⟨l0, _, _, e0⟩ := hc 0
    refine ⟨c, by rw [← e0]; exact tow 0 l0 (by omega), ?_, fun k hk => ?_⟩
    · obtain ⟨l1, h1, _, e1⟩ := hc (l0 + 1)
      have := Rc1.of (hp l0) (tow (l0 + 1) l1 h1)
      rw [e0, e1] at this
      exact this
    · obtain ⟨x, _, hx⟩ := again_one (n := n) (p := p) (J := fun j => 1 ≤ j ∧ F k (p j)) (fun j hj => hlt j hj.1) (fun j => by
        obtain ⟨l, h1, h2⟩ := hF k hk (j + 1)
        exact ⟨l, by omega, by omega, h2⟩)
      obtain ⟨l1, h1, ⟨_, h2⟩, e1⟩ := hx l0
      obtain ⟨l2, h3, _, e2⟩ := hc l1
      refine ⟨x, by rw [← e1]; exact h2, ?_, ?_⟩
      · rw [← e0, ← e1]; exact tow l0 l1 h1
      · rw [← e1, ← e2]; exact tow l1 l2 h3
  · rintro ⟨c, h1, h2, h3⟩
    have key : ∀ (K' : Nat) (F' : Nat → Nat → Prop), 0 < K' → (∀ k, k < K' → ∃ x, F' k x ∧ Rc E c x ∧ Rc E x c) → FairAt E K' F' i := by
      intro K' F' hK hx
      refine fair_of_closed (Z := fun x => Rc E x c) hK (fun z hz k hk => ?_) h1
      obtain ⟨x, hF, hcx, hxc⟩ := hx k hk
      obtain ⟨m, hm⟩ := (Rc1.app hz h2).then hcx
      exact ⟨m, x, pth_to hm hxc, hF⟩
    by_cases hK : 0 < K
    · exact key K F hK h3
    · obtain rfl : K = 0 := by omega
      rw [fair_none]
      exact key 1 _ (by omega) (fun _ _ => ⟨c, trivial, Rc.refl _ _, Rc.refl _ _⟩)


theorem rc_rch {E : Nat → Nat → Prop} {a b : Nat} : Rc E a b ↔ Rch E a b := by
  constructor
  · rintro ⟨n, h⟩
    have : ∀ n a, PthZ E (fun _ => True) n a b → Rch E a b := by
      intro n
      induction n with
      | zero => intro a h; have e := h.1; subst e; exact Rch.refl _
      | succ n ih =>
        rintro a ⟨_, c, h1, h2⟩
        exact (Rch.edge h1).trans (ih c h2)
    exact this n a h
  · intro h
    exact h.stay (P := fun z => Rc E a z) (fun _ _ hz e => hz.trans (Rc.step e (Rc.refl E _))) (Rc.refl E a)

theorem ew_ego {G : Nat} {L : Nat → Nat} {Z : Nat → Nat → Int} : Ew G L Z = Ego G L Z := by
  have h : Ew G L Z = Ed G L Z := rfl
  rw [h, ed_ego]

/-- Where the document's fair ways begin, the program's do. -/
theorem fair_begins {A : Wx} (h0 : chkW A = 0) (i : Nat) : FairAt (Ew A.G A.L A.Z) A.K (fun k x => has (A.FL k) (A.FZ k) x = true) i ↔ Begins A i := by
  obtain ⟨-, -, -, -, -, hz, hfz⟩ := chkW_ok h0
  have hE : ∀ i j, Ego A.G A.L A.Z i j → j < A.G := by
    rintro i j ⟨h1, k, h2, h3⟩
    have := hz i h1 k h2
    omega
  rw [ew_ego, fair_part (n := A.G) hE]
  constructor
  · rintro ⟨c, h1, ⟨m, h2⟩, h3⟩
    obtain ⟨_, d, ⟨hc, j, hj, hd⟩, h4⟩ := h2
    have hdc : Rch (Ego A.G A.L A.Z) d c := rc_rch.1 ⟨m, h4⟩
    have ed : (A.Z c j).toNat = d := by omega
    refine ⟨c, hc, ⟨⟨c, hc, j, hj, ?_, Rch.refl _, Rch.refl _⟩, fun k hk => ?_⟩, rc_rch.1 h1⟩
    · rw [ed]
      exact ⟨hdc, Rch.edge ⟨hc, j, hj, hd⟩⟩
    · obtain ⟨x, hx, hcx, hxc⟩ := h3 k hk
      obtain ⟨y, hy, e⟩ := sc_has_iff.1 hx
      have ex : (A.FZ k y).toNat = x := by omega
      exact ⟨y, hy, by rw [ex]; exact ⟨rc_rch.1 hxc, rc_rch.1 hcx⟩⟩
  · rintro ⟨s, hs, ⟨⟨x, hx, j, hj, hm1, hm2⟩, hk⟩, hr⟩
    refine ⟨s, rc_rch.2 hr, ?_, fun k hkk => ?_⟩
    · have e : Ego A.G A.L A.Z x (A.Z x j).toNat := ego_to hx hj (hz x hx j hj).1
      exact Rc1.app (rc_rch.2 hm2.2) (Rc1.of e (rc_rch.2 (hm1.1.trans hm2.1)))
    · obtain ⟨y, hy, hm⟩ := hk k hkk
      have := hfz k hkk y hy
      exact ⟨(A.FZ k y).toNat, sc_has_iff.2 ⟨y, hy, by omega⟩, rc_rch.2 hm.2, rc_rch.2 hm.1⟩

end Go.Proofs.Ytgahdclbaifcbaa
