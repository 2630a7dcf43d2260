
import Derived.Test.YtmdpbaobihdgkaaGreatDoorRows
import Derived.WalkKit
import Derived.WalkSpells
import Derived.WalkLawsBesides
import Derived.Deep.QuietTactic
import Derived.BigQuiet
import Derived.Below
import Derived.Deep.Heap
import Derived.Test.YtmdpbaobihdgkaaGreatDoorRwsJ
import Derived.Test.YtmdpbaobihdgkaaGreatDoorBaseJ
import Derived.Test.YtmdpbaobihdgkaaGreatDoorPshJ
import Derived.Test.YtmdpbaobihdgkaaGreatDoorTeaJ
import Derived.Test.YtmdpbaobihdgkaaGreatDoorWk
import Derived.Test.YtmdpbaobihdgkaaGreatDoorMkfJ
/- Endless ways that meet each set again and again: told by a set that one need not leave, and by parts. -/
namespace Go.Proofs.YtmdpbaobihdgkaaGreatDoor

/-- An endless way. -/
def Wy (E : Nat → Nat → Prop) (p : Nat → Nat) : Prop := ∀ j, E (p j) (p (j + 1))
/-- Again and again. -/
def Oft (F : Nat → Prop) (p : Nat → Nat) : Prop := ∀ j, ∃ l, j ≤ l ∧ F (p l)
/-- From i an endless way begins that meets each of K sets again and again. -/
def FairAt (E : Nat → Nat → Prop) (K : Nat) (F : Nat → Nat → Prop) (i : Nat) : Prop := ∃ p : Nat → Nat, p 0 = i ∧ Wy E p ∧ ∀ k, k < K → Oft (F k) p

/-- A way of n goings, all of it in Z. -/
def PthZ (E : Nat → Nat → Prop) (Z : Nat → Prop) : Nat → Nat → Nat → Prop
  | 0, i, j => i = j ∧ Z i
  | n + 1, i, j => Z i ∧ ∃ l, E i l ∧ PthZ E Z n l j

theorem PthZ.first {E : Nat → Nat → Prop} {Z : Nat → Prop} {n i j : Nat} (h : PthZ E Z n i j) : Z i := by
  cases n with
  | zero => exact h.2
  | succ n => exact h.1
theorem PthZ.app {E : Nat → Nat → Prop} {Z : Nat → Prop} : ∀ {n m i j l : Nat}, PthZ E Z n i j → PthZ E Z m j l → PthZ E Z (n + m) i l
  | 0, m, i, j, l, h, k => by
    obtain ⟨rfl, _⟩ := h
    rw [Nat.zero_add]; exact k
  | n + 1, m, i, j, l, ⟨h1, x, h2, h3⟩, k => by
    rw [Nat.succ_add]
    exact ⟨h1, x, h2, PthZ.app h3 k⟩
/-- From each of Z one comes, within Z, by one going at least, to each of the sets. -/
def Closed (E : Nat → Nat → Prop) (K : Nat) (F : Nat → Nat → Prop) (Z : Nat → Prop) : Prop := ∀ i, Z i → ∀ k, k < K → ∃ n j, PthZ E Z (n + 1) i j ∧ F k j

theorem fair_of_closed {E : Nat → Nat → Prop} {K : Nat} {F : Nat → Nat → Prop} {Z : Nat → Prop} (hK : 0 < K) (h : Closed E K F Z) {i : Nat} (hi : Z i) : FairAt E K F i := by
  -- a state: where one is, which set is waited for, how many goings are left
  let Ok : Nat × Nat × Nat → Prop := fun s => s.2.1 < K ∧ ∃ j, PthZ E Z (s.2.2 + 1) s.1 j ∧ F s.2.1 j
  have hz : ∀ s, Ok s → Z s.1 := fun s hs => by
    obtain ⟨_, j, h1, _⟩ := hs
    exact h1.first
  have hstep : ∀ s : Nat × Nat × Nat, ∃ s' : Nat × Nat × Nat, Ok s → (E s.1 s'.1 ∧ Ok s' ∧ (s.2.2 = 0 → F s.2.1 s'.1 ∧ s'.2.1 = (s.2.1 + 1) % K) ∧ (s.2.2 ≠ 0 → s'.2.1 = s.2.1 ∧ s'.2.2 + 1 = s.2.2)) := by
    rintro ⟨x, k, n⟩
    by_cases ho : Ok (x, k, n)
    · obtain ⟨hk, j, ⟨h1, y, h2, h3⟩, h4⟩ := ho
      cases n with
      | zero =>
        obtain ⟨rfl, hy⟩ := h3
        obtain ⟨n', j', h5, h6⟩ := h y hy ((k + 1) % K) (Nat.mod_lt _ hK)
        exact ⟨(y, (k + 1) % K, n'), fun _ => ⟨h2, ⟨Nat.mod_lt _ hK, j', h5, h6⟩, fun _ => ⟨h4, rfl⟩, fun e => absurd rfl e⟩⟩
      | succ n => exact ⟨(y, k, n), fun _ => ⟨h2, ⟨hk, j, h3, h4⟩, fun e => absurd e (Nat.succ_ne_zero n), fun _ => ⟨rfl, rfl⟩⟩⟩
    · exact ⟨(x, k, n), fun h => absurd h ho⟩
  obtain ⟨f, hf⟩ := Classical.axiomOfChoice hstep
  obtain ⟨n0, j0, h0, h1⟩ := h i hi 0 hK
  obtain ⟨q, hq0, hqs⟩ : ∃ q : Nat → Nat × Nat × Nat, q 0 = (i, 0, n0) ∧ ∀ t, q (t + 1) = f (q t) := ⟨fun t => Nat.rec (i, 0, n0) (fun _ s => f s) t, rfl, fun _ => rfl⟩
  have hok : ∀ t, Ok (q t) := by
    intro t
    induction t with
    | zero => rw [hq0]; exact ⟨hK, j0, h0, h1⟩
    | succ t ih => rw [hqs]; exact (hf _ ih).2.1
  have hA : ∀ n t, (q t).2.2 = n → ∃ t', t < t' ∧ F (q t).2.1 (q t').1 ∧ (q t').2.1 = ((q t).2.1 + 1) % K := by
    intro n
    induction n with
    | zero =>
      intro t ht
      have := (hf _ (hok t)).2.2.1 ht
      rw [← hqs] at this
      exact ⟨t + 1, by omega, this⟩
    | succ n ih =>
      intro t ht
      have h3 := (hf _ (hok t)).2.2.2 (by omega)
      rw [← hqs] at h3
      obtain ⟨t', a, b, c⟩ := ih (t + 1) (by omega)
      rw [h3.1] at b c
      exact ⟨t', by omega, b, c⟩
  have hB : ∀ m t, ∃ t', t ≤ t' ∧ (q t').2.1 = ((q t).2.1 + m) % K := by
    intro m
    induction m with
    | zero => intro t; exact ⟨t, Nat.le_refl _, by rw [Nat.add_zero, Nat.mod_eq_of_lt (hok t).1]⟩
    | succ m ih =>
      intro t
      obtain ⟨t1, a, b⟩ := ih t
      obtain ⟨t2, c, _, d⟩ := hA _ t1 rfl
      refine ⟨t2, by omega, ?_⟩
      rw [d, b, Nat.mod_add_mod, Nat.add_assoc]
  refine ⟨fun t => (q t).1, by show (q 0).1 = i; rw [hq0], fun t => ?_, fun k hk j => ?_⟩
  · show E (q t).1 (q (t + 1)).1
    rw [hqs]; exact (hf _ (hok t)).1
  · obtain ⟨t1, a, b⟩ := hB (K + k - (q j).2.1) j
    have hlt := (hok j).1
    rw [show (q j).2.1 + (K + k - (q j).2.1) = k + K by omega, Nat.add_mod_right, Nat.mod_eq_of_lt hk] at b
    obtain ⟨t2, c, d, _⟩ := hA _ t1 rfl
    rw [b] at d
    exact ⟨t2, by omega, d⟩

theorem fair_none (E : Nat → Nat → Prop) (F : Nat → Nat → Prop) (i : Nat) : FairAt E 0 F i ↔ FairAt E 1 (fun _ _ => True) i :=
  ⟨fun ⟨p, h1, h2, _⟩ => ⟨p, h1, h2, fun _ _ j => ⟨j, Nat.le_refl _, trivial⟩⟩, fun ⟨p, h1, h2, _⟩ => ⟨p, h1, h2, fun k hk => absurd hk (Nat.not_lt_zero k)⟩⟩

/-- By some goings, none too. -/
def Rc (E : Nat → Nat → Prop) (i j : Nat) : Prop := ∃ n, PthZ E (fun _ => True) n i j
/-- By one going at least. -/
def Rc1 (E : Nat → Nat → Prop) (i j : Nat) : Prop := ∃ n, PthZ E (fun _ => True) (n + 1) i j

theorem Rc.refl (E : Nat → Nat → Prop) (i : Nat) : Rc E i i := ⟨0, rfl, trivial⟩
theorem Rc.trans {E : Nat → Nat → Prop} {i j l : Nat} (h : Rc E i j) (k : Rc E j l) : Rc E i l := by
  obtain ⟨n, h⟩ := h
  obtain ⟨m, k⟩ := k
  exact ⟨n + m, h.app k⟩
theorem Rc.step {E : Nat → Nat → Prop} {i j l : Nat} (h : E i j) (k : Rc E j l) : Rc E i l := by
  obtain ⟨m, k⟩ := k
  exact ⟨m + 1, trivial, j, h, k⟩
theorem Rc1.of {E : Nat → Nat → Prop} {i j l : Nat} (h : E i j) (k : Rc E j l) : Rc1 E i l := by
  obtain ⟨m, k⟩ := k
  exact ⟨m, trivial, j, h, k⟩
theorem Rc1.app {E : Nat → Nat → Prop} {i j l : Nat} (h : Rc E i j) (k : Rc1 E j l) : Rc1 E i l := by
  obtain ⟨n, h⟩ := h
  obtain ⟨m, k⟩ := k
  exact ⟨n + m, h.app k⟩
theorem Rc1.then {E : Nat → Nat → Prop} {i j l : Nat} (h : Rc1 E i j) (k : Rc E j l) : Rc1 E i l := by
  obtain ⟨n, h⟩ := h
  obtain ⟨m, k⟩ := k
  refine ⟨n + m, ?_⟩
  have := h.app k
  rw [show n + 1 + m = n + m + 1 by omega] at this
  exact this

/-- All of a way to c is where one can come to c. -/
theorem pth_to {E : Nat → Nat → Prop} {c : Nat} : ∀ {n i j : Nat}, PthZ E (fun _ => True) n i j → Rc E j c → PthZ E (fun x => Rc E x c) n i j
  | 0, _, _, h, hc => ⟨h.1, by rw [h.1]; exact hc⟩
  | n + 1, i, j, ⟨_, x, h2, h3⟩, hc => ⟨Rc.step h2 (Rc.trans ⟨n, h3⟩ hc), x, h2, pth_to h3 hc⟩

theorem way_rc {E : Nat → Nat → Prop} {p : Nat → Nat} (h : Wy E p) (j n : Nat) : PthZ E (fun _ => True) n (p j) (p (j + n)) := by
  induction n generalizing j with
  | zero => exact ⟨rfl, trivial⟩
  | succ n ih =>
    refine ⟨trivial, p (j + 1), h j, ?_⟩
    have := ih (j + 1)
    rw [show j + 1 + n = j + (n + 1) by omega] at this
    exact this

/-- Of so many numbers one is met again and again. -/
theorem again_one {n : Nat} {p : Nat → Nat} {J : Nat → Prop} (hp : ∀ j, J j → p j < n) (hJ : ∀ j, ∃ l, j ≤ l ∧ J l) : ∃ c, c < n ∧ ∀ j, ∃ l, j ≤ l ∧ J l ∧ p l = c := by
  refine Classical.byContradiction fun hno => ?_
  have hb : ∀ m, m ≤ n → ∃ b, ∀ l, b ≤ l → J l → ¬ p l < m := by
    intro m
    induction m with
    | zero => intro _; exact ⟨0, fun l _ _ h => absurd h (Nat.not_lt_zero _)⟩
    | succ m ih =>
      intro hm
      obtain ⟨b, hb⟩ := ih (by omega)
      have h1 : ¬ ∀ j, ∃ l, j ≤ l ∧ J l ∧ p l = m := fun h => hno ⟨m, by omega, h⟩
      obtain ⟨j, hj⟩ := Classical.not_forall.1 h1
      refine ⟨max b j, fun l hl hJl hlt => ?_⟩
      have h2 := hb l (by omega) hJl
      exact hj ⟨l, by omega, hJl, by omega⟩
  obtain ⟨b, hb⟩ := hb n (Nat.le_refl _)
  obtain ⟨l, h1, h2⟩ := hJ b
  exact hb l h1 h2 (hp l h2)

/-- By parts: a fair way begins just where one can come to a node that comes back to itself, and with each set in its part. -/
theorem fair_part {E : Nat → Nat → Prop} {K : Nat} {F : Nat → Nat → Prop} {n : Nat} (hE : ∀ i j, E i j → j < n) (i : Nat) : FairAt E K F i ↔ ∃ c, Rc E i c ∧ Rc1 E c c ∧ ∀ k, k < K → ∃ x, F k x ∧ Rc E c x ∧ Rc E x c := by
  constructor
  · rintro ⟨p, rfl, hp, hF⟩
    have hlt : ∀ j, 1 ≤ j → p j < n := fun j hj => by
      have := hE _ _ (hp (j - 1))
      rwa [show j - 1 + 1 = j by omega] at this
    obtain ⟨c, _, hc⟩ := again_one (n := n) (p := p) (J := fun j => 1 ≤ j) (fun j hj => hlt j hj) (fun j => ⟨j + 1, by omega, by omega⟩)
    have to : ∀ j l, j ≤ l → Rc E (p j) (p l) := fun j l h => ⟨l - j, by
      have := way_rc hp j (l - j)
      rw [show j + (l - j) = l by omega] at this
      exact this⟩
    obtain ⟨l0, _, _, e0⟩ := hc 0
    refine ⟨c, by rw [← e0]; exact to 0 l0 (by omega), ?_, fun k hk => ?_⟩
    · obtain ⟨l1, h1, _, e1⟩ := hc (l0 + 1)
      have := Rc1.of (hp l0) (to (l0 + 1) l1 h1)
      rw [e0, e1] at this
      exact this
    · obtain ⟨x, _, hx⟩ := again_one (n := n) (p := p) (J := fun j => 1 ≤ j ∧ F k (p j)) (fun j hj => hlt j hj.1) (fun j => by
        obtain ⟨l, h1, h2⟩ := hF k hk (j + 1)
        exact ⟨l, by omega, by omega, h2⟩)
      obtain ⟨l1, h1, ⟨_, h2⟩, e1⟩ := hx l0
      obtain ⟨l2, h3, _, e2⟩ := hc l1
      refine ⟨x, by rw [← e1]; exact h2, ?_, ?_⟩
      · rw [← e0, ← e1]; exact to l0 l1 h1
      · rw [← e1, ← e2]; exact to l1 l2 h3
  · rintro ⟨c, h1, h2, h3⟩
    have key : ∀ (K' : Nat) (F' : Nat → Nat → Prop), 0 < K' → (∀ k, k < K' → ∃ x, F' k x ∧ Rc E c x ∧ Rc E x c) → FairAt E K' F' i := by
      intro K' F' hK hx
      refine fair_of_closed (Z := fun x => Rc E x c) hK (fun z hz k hk => ?_) h1
      obtain ⟨x, hF, hcx, hxc⟩ := hx k hk
      obtain ⟨m, hm⟩ := (Rc1.app hz h2).then hcx
      exact ⟨m, x, pth_to hm hxc, hF⟩
    by_cases hK : 0 < K
    · exact key K F hK h3
    · obtain rfl : K = 0 := by omega
      rw [fair_none]
      exact key 1 _ (by omega) (fun _ _ => ⟨c, trivial, Rc.refl _ _, Rc.refl _ _⟩)

end Go.Proofs.YtmdpbaobihdgkaaGreatDoor
