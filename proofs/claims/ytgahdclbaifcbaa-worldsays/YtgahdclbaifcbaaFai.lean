/- Endless ways that meet each set again and again: told by a set that one need not leave, and by parts. -/
import Derived.Test.YtgahdclbaifcbaaBase
namespace Go.Proofs.Ytgahdclbaifcbaa

/-- An endless way. -/
def Wy (E : Nat → Nat → Prop) (p : Nat → Nat) : Prop := ∀ j, E (p j) (p (j + 1))
/-- Again and again. -/
def Oft (F : Nat → Prop) (p : Nat → Nat) : Prop := ∀ j, ∃ l, j ≤ l ∧ F (p l)
/-- From i an endless way begins that meets each of K sets again and again. -/
def FairAt (E : Nat → Nat → Prop) (K : Nat) (F : Nat → Nat → Prop) (i : Nat) : Prop := ∃ p : Nat → Nat, p 0 = i ∧ Wy E p ∧ ∀ k, k < K → Oft (F k) p

/-- A way of n goings, all of it in Z. -/
def PthZ (E : Nat → Nat → Prop) (Z : Nat → Prop) : Nat → Nat → Nat → Prop
  | 0, i, j => i = j ∧ Z i
  | n + 1, i, j => Z i ∧ ∃ l, E i l ∧ PthZ E Z n l j

theorem PthZ.first {E : Nat → Nat → Prop} {Z : Nat → Prop} {n i j : Nat} (h : PthZ E Z n i j) : Z i := by
  cases n with
  | zero => exact h.2
  | succ n => exact h.1
theorem PthZ.mono {E : Nat → Nat → Prop} {Z Y : Nat → Prop} (hZ : ∀ i, Z i → Y i) : ∀ {n i j : Nat}, PthZ E Z n i j → PthZ E Y n i j
  | 0, _, _, h => ⟨h.1, hZ _ h.2⟩
  | _ + 1, _, _, ⟨h1, x, h2, h3⟩ => ⟨hZ _ h1, x, h2, PthZ.mono hZ h3⟩

/-- From each of Z one comes, within Z, by one going at least, to each of the sets. -/
def Closed (E : Nat → Nat → Prop) (K : Nat) (F : Nat → Nat → Prop) (Z : Nat → Prop) : Prop := ∀ i, Z i → ∀ k, k < K → ∃ n j, PthZ E Z (n + 1) i j ∧ F k j

theorem fair_of_closed {E : Nat → Nat → Prop} {K : Nat} {F : Nat → Nat → Prop} {Z : Nat → Prop} (hK : 0 < K) (h : Closed E K F Z) {i : Nat} (hi : Z i) : FairAt E K F i := by
  -- a state: where one is, which set is waited for, how many goings are left
  let Ok : Nat × Nat × Nat → Prop := fun s => s.2.1 < K ∧ ∃ j, PthZ E Z (s.2.2 + 1) s.1 j ∧ F s.2.1 j
  have hz : ∀ s, Ok s → Z s.1 := fun s hs => by
    obtain ⟨_, j, h1, _⟩ := hs
    exact h1.first
  have hstep : ∀ s : Nat × Nat × Nat, ∃ s' : Nat × Nat × Nat, Ok s → (E s.1 s'.1 ∧ Ok s' ∧ (s.2.2 = 0 → F s.2.1 s'.1 ∧ s'.2.1 = (s.2.1 + 1) % K) ∧ (s.2.2 ≠ 0 → s'.2.1 = s.2.1 ∧ s'.2.2 + 1 = s.2.2)) := by
    rintro ⟨x, k, n⟩
    by_cases ho : Ok (x, k, n)
    · obtain ⟨hk, j, ⟨h1, y, h2, h3⟩, h4⟩ := ho
      cases n with
      | zero =>
        obtain ⟨rfl, hy⟩ := h3
        obtain ⟨n', j', h5, h6⟩ := h y hy ((k + 1) % K) (Nat.mod_lt _ hK)
        exact ⟨(y, (k + 1) % K, n'), fun _ => ⟨h2, ⟨Nat.mod_lt _ hK, j', h5, h6⟩, fun _ => ⟨h4, rfl⟩, fun e => absurd rfl e⟩⟩
      | succ n => exact ⟨(y, k, n), fun _ => ⟨h2, ⟨hk, j, h3, h4⟩, fun e => absurd e (Nat.succ_ne_zero n), fun _ => ⟨rfl, rfl⟩⟩⟩
    · exact ⟨(x, k, n), fun h => absurd h ho⟩
  obtain ⟨f, hf⟩ := Classical.axiomOfChoice hstep
  obtain ⟨n0, j0, h0, h1⟩ := h i hi 0 hK
  obtain ⟨q, hq0, hqs⟩ : ∃ q : Nat → Nat × Nat × Nat, q 0 = (i, 0, n0) ∧ ∀ t, q (t + 1) = f (q t) := ⟨fun t => Nat.rec (i, 0, n0) (fun _ s => f s) t, rfl, fun _ => rfl⟩
  have hok : ∀ t, Ok (q t) := by
    intro t
    induction t with
    | zero => rw [hq0]; exact ⟨hK, j0, h0, h1⟩
    | succ t ih => rw [hqs]; exact (hf _ ih).2.1
  have hA : ∀ n t, (q t).2.2 = n → ∃ t', t < t' ∧ F (q t).2.1 (q t').1 ∧ (q t').2.1 = ((q t).2.1 + 1) % K := by
    intro n
    induction n with
    | zero =>
      intro t ht
      have := (hf _ (hok t)).2.2.1 ht
      rw [← hqs] at this
      exact ⟨t + 1, by omega, this⟩
    | succ n ih =>
      intro t ht
      have h3 := (hf _ (hok t)).2.2.2 (by omega)
      rw [← hqs] at h3
      obtain ⟨t', a, b, c⟩ := ih (t + 1) (by omega)
      rw [h3.1] at b c
      exact ⟨t', by omega, b, c⟩
  have hB : ∀ m t, ∃ t', t ≤ t' ∧ (q t').2.1 = ((q t).2.1 + m) % K := by
    intro m
    induction m with
    | zero => intro t; exact ⟨t, Nat.le_refl _, by rw [Nat.add_zero, Nat.mod_eq_of_lt (hok t).1]⟩
    | succ m ih =>
      intro t
      obtain ⟨t1, a, b⟩ := ih t
      obtain ⟨t2, c, _, d⟩ := hA _ t1 rfl
      refine ⟨t2, by omega, ?_⟩
      rw [d, b, Nat.mod_add_mod, Nat.add_assoc]
  refine ⟨fun t => (q t).1, by show (q 0).1 = i; rw [hq0], fun t => ?_, fun k hk j => ?_⟩
  · show E (q t).1 (q (t + 1)).1
    rw [hqs]; exact (hf _ (hok t)).1
  · obtain ⟨t1, a, b⟩ := hB (K + k - (q j).2.1) j
    have hlt := (hok j).1
    rw [show (q j).2.1 + (K + k - (q j).2.1) = k + K by omega, Nat.add_mod_right, Nat.mod_eq_of_lt hk] at b
    obtain ⟨t2, c, d, _⟩ := hA _ t1 rfl
    rw [b] at d
    exact ⟨t2, by omega, d⟩

theorem FairAt.tail {E : Nat → Nat → Prop} {K : Nat} {F : Nat → Nat → Prop} {p : Nat → Nat} (h : Wy E p) (hF : ∀ k, k < K → Oft (F k) p) (j : Nat) : FairAt E K F (p j) :=
  ⟨fun t => p (j + t), rfl, fun t => h (j + t), fun k hk t => by
    obtain ⟨l, h1, h2⟩ := hF k hk (j + t)
    exact ⟨l - j, by omega, by show F k (p (j + (l - j))); rw [show j + (l - j) = l by omega]; exact h2⟩⟩

/-- All those from which a fair way begins are such a set. -/
theorem fair_closed (E : Nat → Nat → Prop) (K : Nat) (F : Nat → Nat → Prop) : Closed E K F (FairAt E K F) := by
  rintro i ⟨p, rfl, hp, hF⟩ k hk
  have go : ∀ n j, PthZ E (FairAt E K F) n (p j) (p (j + n)) := by
    intro n
    induction n with
    | zero => intro j; exact ⟨rfl, FairAt.tail hp hF j⟩
    | succ n ih =>
      intro j
      refine ⟨FairAt.tail hp hF j, p (j + 1), hp j, ?_⟩
      have := ih (j + 1)
      rw [show j + 1 + n = j + (n + 1) by omega] at this
      exact this
  obtain ⟨l, h1, h2⟩ := hF k hk 1
  refine ⟨l - 1, p l, ?_, h2⟩
  have := go (l - 1 + 1) 0
  rw [show 0 + (l - 1 + 1) = l by omega] at this
  exact this

/-- So they are the greatest such set. -/
theorem closed_fair {E : Nat → Nat → Prop} {K : Nat} {F : Nat → Nat → Prop} (hK : 0 < K) {Z : Nat → Prop} (h : Closed E K F Z) (hall : ∀ i, FairAt E K F i → Z i) (i : Nat) : Z i ↔ FairAt E K F i :=
  ⟨fun hi => fair_of_closed hK h hi, hall i⟩

end Go.Proofs.Ytgahdclbaifcbaa

