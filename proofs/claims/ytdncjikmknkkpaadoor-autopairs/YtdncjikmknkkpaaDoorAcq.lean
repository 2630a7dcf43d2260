/- What Accepts tells, apart from memory. -/
import Derived.Test.YtdncjikmknkkpaaDoorAcf
import Derived.Test.YtdncjikmknkkpaaDoorNmbJ
namespace Go.Proofs.YtdncjikmknkkpaaDoor

/-- The automaton that lies in memory. -/
def autA (A : Ax) : Atm where
  st := fun q => has A.sn A.S q = true
  nx := fun q t => q < A.G ∧ has (A.L q) (A.Z q) t = true
  lt := fun q l => q < A.G ∧ fts l.toNat (A.Mu q) (A.No q) = true
  K := A.K
  fr := fun k q => has (A.FL k) (A.FZ k) q = true

/-- An automaton that begins elsewhere. -/
def Atm.at (a : Atm) (B : Nat → Prop) : Atm := { a with st := B }

/-- One letter on: those behind the states with which it goes. -/
def bhP (a : Atm) (B : Nat → Prop) (l : Int) (t : Nat) : Prop := ∃ q, B q ∧ a.lt q l ∧ a.nx q t

theorem acc_step (a : Atm) (B : Nat → Prop) (o : Nat → Int) : (a.at B).Acc o ↔ (a.at (bhP a B (o 0))).Acc (fun j => o (j + 1)) := by
  constructor
  · rintro ⟨r, hr⟩
    refine ⟨fun j => r (j + 1), ⟨r 0, hr.st, hr.lt 0, hr.nx 0⟩, fun j => hr.nx (j + 1), fun j => hr.lt (j + 1), fun k hk j => ?_⟩
    obtain ⟨l, h1, h2⟩ := hr.fr k hk (j + 1)
    exact ⟨l - 1, by omega, by show a.fr k (r (l - 1 + 1)); rw [show l - 1 + 1 = l by omega]; exact h2⟩
  · rintro ⟨r, ⟨q, h1, h2, h3⟩, hn, hl, hf⟩
    refine ⟨fun j => if j = 0 then q else r (j - 1), by show B (if 0 = 0 then q else _); rw [if_pos rfl]; exact h1, fun j => ?_, fun j => ?_, fun k hk j => ?_⟩
    · cases j with
      | zero => simpa [Atm.at] using h3
      | succ j => simpa [Atm.at] using hn j
    · cases j with
      | zero => simpa [Atm.at] using h2
      | succ j => simpa [Atm.at] using hl j
    · obtain ⟨l, g1, g2⟩ := hf k hk j
      exact ⟨l + 1, by omega, by simpa [Atm.at] using g2⟩

/-- Where one may be behind the first i letters. -/
def bgP (a : Atm) (o : Nat → Int) : Nat → Nat → Prop
  | 0 => a.st
  | i + 1 => bhP a (bgP a o i) (o i)

theorem acc_stem (a : Atm) (o : Nat → Int) : ∀ i, a.Acc o ↔ (a.at (bgP a o i)).Acc (fun j => o (i + j))
  | 0 => by
    have e : (fun j => o (0 + j)) = o := by funext j; rw [Nat.zero_add]
    rw [e]; exact Iff.rfl
  | i + 1 => by
    rw [acc_stem a o i, acc_step a (bgP a o i) (fun j => o (i + j))]
    have e : (fun j => o (i + (j + 1))) = fun j => o (i + 1 + j) := by funext j; congr 1; omega
    simp only [Nat.add_zero]
    rw [e]
    exact Iff.rfl

/-- A spot's number. -/
def cdS (m : Nat) (q : Nat × Nat) : Nat := q.1 * m + q.2

/-- From number to number. -/
def Ec (R : Rx) (i j : Nat) : Prop := Es R (i / R.m, i % R.m) (j / R.m, j % R.m) ∧ Ts R (i / R.m, i % R.m) ∧ Ts R (j / R.m, j % R.m)
def Fc (R : Rx) (k i : Nat) : Prop := Fs R k (i / R.m, i % R.m)

theorem cd_dec {m : Nat} {q : Nat × Nat} (h : q.2 < m) : (cdS m q / m, cdS m q % m) = q := by
  unfold cdS
  have h0 : 0 < m := by omega
  rw [Nat.mul_comm, Nat.mul_add_div h0, Nat.div_eq_of_lt h, Nat.mul_add_mod, Nat.mod_eq_of_lt h]
  rfl

theorem rt_rc {R : Rx} {q t : Nat × Nat} (hq : Ts R q) (h : Rt (Es R) (Ts R) q t) : Rc (Ec R) (cdS R.m q) (cdS R.m t) := by
  induction h using Rt.ind with
  | refl => exact Rc.refl _ _
  | @tail y z h1 h2 h3 ih =>
    have hy : Ts R y := h1.mem hq
    have : Ec R (cdS R.m y) (cdS R.m z) := by
      unfold Ec
      rw [cd_dec hy.2.1, cd_dec h3.2.1]
      exact ⟨h2, hy, h3⟩
    exact ih.trans (Rc.step this (Rc.refl _ _))

theorem rc_rt {R : Rx} : ∀ (n : Nat) {i j : Nat}, PthZ (Ec R) (fun _ => True) n i j → Rt (Es R) (Ts R) (i / R.m, i % R.m) (j / R.m, j % R.m)
  | 0, _, _, h => by rw [h.1]; exact Rt.refl
  | n + 1, _, _, ⟨_, l, h2, h3⟩ => Rt.trans (Rt.one h2.1 h2.2.2) (rc_rt n h3)

/-- Fair ways by numbers, and parts of spots. -/
theorem fair_fp {R : Rx} (hm : 0 < R.m) {q : Nat × Nat} (hq : Ts R q) : FairAt (Ec R) R.K (Fc R) (cdS R.m q) ↔ ∃ z, Rt (Es R) (Ts R) q z ∧ Fp (Es R) (Ts R) R.K (Fs R) z := by
  rw [fair_part (n := R.G * R.m) (fun i j h => by
    have := h.2.2
    have h1 := this.1
    dsimp only at h1
    exact (Nat.div_lt_iff_lt_mul hm).1 h1)]
  constructor
  · rintro ⟨c, ⟨n1, h1⟩, ⟨n2, h2⟩, h3⟩
    have g1 := rc_rt n1 h1
    rw [cd_dec hq.2.1] at g1
    refine ⟨(c / R.m, c % R.m), g1, ?_, fun k hk => ?_⟩
    · obtain ⟨_, l, h4, h5⟩ := h2
      exact ⟨(l / R.m, l % R.m), h4.1, h4.2.2, rc_rt n2 h5⟩
    · obtain ⟨x, h4, ⟨n5, h5⟩, ⟨n6, h6⟩⟩ := h3 k hk
      exact ⟨(x / R.m, x % R.m), h4, rc_rt n5 h5, rc_rt n6 h6⟩
  · rintro ⟨z, h1, ⟨y, h2, h3, h4⟩, h5⟩
    have hz : Ts R z := h1.mem hq
    refine ⟨cdS R.m z, rt_rc hq h1, ?_, fun k hk => ?_⟩
    · have : Ec R (cdS R.m z) (cdS R.m y) := by
        unfold Ec
        rw [cd_dec hz.2.1, cd_dec h3.2.1]
        exact ⟨h2, hz, h3⟩
      exact Rc1.of this (rt_rc h3 h4)
    · obtain ⟨x, h6, h7, h8⟩ := h5 k hk
      have hx : Ts R x := h7.mem hz
      exact ⟨cdS R.m x, by unfold Fc; rw [cd_dec hx.2.1]; exact h6, rt_rc hz h7, rt_rc hx h8⟩

/-- What is wanted of a Loop's spots to tell of an automaton. -/
structure Rl (R : Rx) (A : Ax) (L : Nat → Int) : Prop where
  G : R.G = A.G
  K : R.K = A.K
  m : 0 < R.m
  next : ∀ q, q < A.G → ∀ t, mem (R.N q) t = has (A.L q) (A.Z q) t
  fits : ∀ p, p < R.m → ∀ q, mem (R.T p) q = (decide (q < A.G) && fts (L p).toNat (A.Mu q) (A.No q))
  fair : ∀ k, k < A.K → ∀ q, mem (R.F k) q = has (A.FL k) (A.FZ k) q

theorem afs_acc {R : Rx} {A : Ax} {L : Nat → Int} (h : Rl R A L) (S0 : Nat → Int) (x : Nat → Nat) (B : Nat → Prop) (hB : ∀ q, q < A.G → (mem x q = true ↔ B q)) (hG : A.G ≤ 2048) : Afs R x ↔ ((autA A).at B).Acc (ltr 0 R.m S0 L) := by
  have hgrid : Grid ((autA A).at B) 0 R.m (ltr 0 R.m S0 L) (fun q i => cdS R.m (q, i)) (Ec R) (Fc R) := by
    constructor
    · intro q i q' i' hi hi' he
      rw [Nat.zero_add] at hi hi'
      have h1 := cd_dec (q := (q, i)) hi
      rw [he, cd_dec (q := (q', i')) hi', Prod.mk.injEq] at h1
      exact ⟨h1.1.symm, h1.2.symm⟩
    · intro q i y hi
      rw [Nat.zero_add] at hi
      have hp : pnx 0 R.m i = (i + 1) % R.m := by
        unfold pnx
        by_cases e : i + 1 < 0 + R.m
        · rw [if_pos e, Nat.mod_eq_of_lt (by omega)]
        · rw [if_neg e, show i + 1 = R.m by omega, Nat.mod_self]
      have hp2 : (i + 1) % R.m < R.m := Nat.mod_lt _ h.m
      have l1 : ∀ j, j < R.m → ltr 0 R.m S0 L j = L j := fun j hj => by rw [ltr_far (by omega), Nat.sub_zero, Nat.mod_eq_of_lt hj]
      rw [hp, l1 i hi, l1 _ hp2]
      unfold Ec
      rw [cd_dec (q := (q, i)) hi]
      have hts : ∀ a b, b < R.m → (Ts R (a, b) ↔ (autA A).lt a (L b)) := by
        intro a b hb
        unfold Ts autA
        dsimp only
        rw [h.fits b hb, h.G]
        simp only [Bool.and_eq_true, decide_eq_true_eq]
        constructor
        · rintro ⟨h1, _, h2, h3⟩; exact ⟨h1, h3⟩
        · rintro ⟨h1, h3⟩; exact ⟨h1, hb, h1, h3⟩
      constructor
      · rintro ⟨⟨h1, h2⟩, h3, h4⟩
        dsimp only at h1 h2
        have h5 := (hts _ _ hi).1 h3
        have h4' := h4
        rw [h2] at h4
        have h6 := (hts _ _ hp2).1 h4
        refine ⟨y / R.m, ?_, ⟨h5.1, ?_⟩, h5, h6⟩
        · show y = y / R.m * R.m + (i + 1) % R.m
          rw [← h2, Nat.mul_comm]
          exact (Nat.div_add_mod y R.m).symm
        · rw [← h.next q h5.1]; exact h1
      · rintro ⟨q', rfl, h1, h2, h3⟩
        rw [cd_dec (q := (q', (i + 1) % R.m)) hp2]
        exact ⟨⟨by rw [h.next q h2.1]; exact h1.2, rfl⟩, (hts _ _ hi).2 h2, (hts _ _ hp2).2 h3⟩
    · intro k hk q i hi
      rw [Nat.zero_add] at hi
      unfold Fc Fs
      rw [cd_dec (q := (q, i)) hi]
      dsimp only
      rw [h.fair k hk]
      exact Iff.rfl
  rw [grid_acc h.m hgrid]
  have l0 : ltr 0 R.m S0 L 0 = L 0 := by rw [ltr_far (by omega), Nat.sub_zero, Nat.mod_eq_of_lt h.m]
  rw [l0]
  have hts0 : ∀ a, Ts R (a, 0) ↔ (autA A).lt a (L 0) := by
    intro a
    unfold Ts autA
    dsimp only
    rw [h.fits 0 h.m, h.G]
    simp only [Bool.and_eq_true, decide_eq_true_eq]
    constructor
    · rintro ⟨h1, _, h2, h3⟩; exact ⟨h1, h3⟩
    · rintro ⟨h1, h3⟩; exact ⟨h1, h.m, h1, h3⟩
  constructor
  · rintro ⟨z, ⟨s, h1, h2, h3, h4⟩, h5⟩
    have h6 := (hts0 s).1 h3
    refine ⟨s, (hB s h6.1).1 h2, h6, ?_⟩
    have := (fair_fp h.m h3).2 ⟨z, h4, h5⟩
    rw [h.K] at this
    exact this
  · rintro ⟨q, h1, h2, h3⟩
    have h4 := (hts0 q).2 h2
    have h3' : FairAt (Ec R) R.K (Fc R) (cdS R.m (q, 0)) := by rw [h.K]; exact h3
    obtain ⟨z, h5, h6⟩ := (fair_fp h.m h4).1 h3'
    exact ⟨z, ⟨q, by have := h2.1; omega, (hB q h2.1).2 h1, h4, h5⟩, h6⟩

end Go.Proofs.YtdncjikmknkkpaaDoor
