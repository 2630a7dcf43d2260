/-    -/
import Derived.Test.YtmdpbaobihdgkaaGreatDoorAAcf
import Derived.Great.BuildSlice
/- Automata of words, apart from memory: rows of states; pairs; one fair set; the graph of states and places. -/
/- What Accepts tells, apart from memory. -/
/- A slice of one set is built; an append as one operation. -/
namespace Go.Proofs.YtmdpbaobihdgkaaGreatDoor
structure Atm where
 st : Nat → Prop
 nx : Nat → Nat → Prop
 lt : Nat → Int → Prop
 K : Nat
 fr : Nat → Nat → Prop
structure Atm.Run (a : Atm) (o : Nat → Int) (r : Nat → Nat) : Prop where
 st : a.st (r 0)
 nx : ∀ j, a.nx (r j) (r (j + 1))
 lt : ∀ j, a.lt (r j) (o j)
 fr : ∀ k, k < a.K → Oft (a.fr k) r
def Atm.Acc (a : Atm) (o : Nat → Int) : Prop := ∃ r, a.Run o r
structure Pairs (a b c : Atm) (p : Nat → Nat × Nat) (N : Nat) : Prop where
 st1 : ∀ i, c.st i → a.st (p i).1 ∧ b.st (p i).2
 st2 : ∀ x y l, a.st x → b.st y → a.lt x l → b.lt y l → ∃ i, i < N ∧ c.st i ∧ p i = (x, y)
 nx1 : ∀ i j, c.nx i j → a.nx (p i).1 (p j).1 ∧ b.nx (p i).2 (p j).2
 nx2 : ∀ i, i < N → ∀ x y l, a.nx (p i).1 x → b.nx (p i).2 y → a.lt x l → b.lt y l → ∃ j, j < N ∧ c.nx i j ∧ p j = (x, y)
 lt : ∀ i l, c.lt i l ↔ (a.lt (p i).1 l ∧ b.lt (p i).2 l)
 K : c.K = a.K + b.K
 fr1 : ∀ k, k < a.K → ∀ i, i < N → (c.fr k i ↔ a.fr k (p i).1)
 fr2 : ∀ k, k < b.K → ∀ i, i < N → (c.fr (a.K + k) i ↔ b.fr k (p i).2)
 big : ∀ i, c.st i → i < N
 bigx : ∀ i j, c.nx i j → j < N
theorem run_big {a b c : Atm} {p : Nat → Nat × Nat} {N : Nat} (h : Pairs a b c p N) {o : Nat → Int} {r : Nat → Nat} (hr : c.Run o r) (j : Nat) : r j < N := by
 cases j with
 | zero => exact h.big _ hr.st
 | succ j => exact h.bigx _ _ (hr.nx j)
theorem pairs_acc {a b c : Atm} {p : Nat → Nat × Nat} {N : Nat} (h : Pairs a b c p N) (o : Nat → Int) : c.Acc o ↔ (a.Acc o ∧ b.Acc o) := by
 constructor
 ·rintro ⟨r, hr⟩
  have hb := run_big h hr
  refine ⟨⟨fun j => (p (r j)).1, (h.st1 _ hr.st).1, fun j => (h.nx1 _ _ (hr.nx j)).1, fun j => ((h.lt _ _).1 (hr.lt j)).1, fun k hk j => ?_⟩, ⟨fun j => (p (r j)).2, (h.st1 _ hr.st).2, fun j => (h.nx1 _ _ (hr.nx j)).2, fun j => ((h.lt _ _).1 (hr.lt j)).2, fun k hk j => ?_⟩⟩
  ·obtain ⟨l, h1, h2⟩ := hr.fr k (by rw [h.K]; omega) j
   exact ⟨l, h1, (h.fr1 k hk _ (hb l)).1 h2⟩
  ·obtain ⟨l, h1, h2⟩ := hr.fr (a.K + k) (by rw [h.K]; omega) j
   exact ⟨l, h1, (h.fr2 k hk _ (hb l)).1 h2⟩
 ·rintro ⟨⟨x, hx⟩, ⟨y, hy⟩⟩
  -- a row of numbers, one behind the other
  have hstep : ∀ s : Nat × Nat, ∃ i : Nat, s.1 < N → p s.1 = (x s.2, y s.2) → (i < N ∧ c.nx s.1 i ∧ p i = (x (s.2 + 1), y (s.2 + 1))) := by
   rintro ⟨i, j⟩
   by_cases hi : i < N ∧ p i = (x j, y j)
   ·obtain ⟨q, h1, h2, h3⟩ := h.nx2 i hi.1 (x (j + 1)) (y (j + 1)) (o (j + 1)) (by rw [hi.2]; exact hx.nx j) (by rw [hi.2]; exact hy.nx j) (hx.lt _) (hy.lt _)
    exact ⟨q, fun _ _ => ⟨h1, h2, h3⟩⟩
   ·exact ⟨0, fun h1 h2 => absurd ⟨h1, h2⟩ hi⟩
  obtain ⟨f, hf⟩ := Classical.axiomOfChoice hstep
  obtain ⟨i0, h1, h2, h3⟩ := h.st2 (x 0) (y 0) (o 0) hx.st hy.st (hx.lt 0) (hy.lt 0)
  obtain ⟨r, hr0, hrs⟩ : ∃ r : Nat → Nat, r 0 = i0 ∧ ∀ j, r (j + 1) = f (r j, j) := ⟨fun j => Nat.rec i0 (fun j i => f (i, j)) j, rfl, fun _ => rfl⟩
  have hp : ∀ j, r j < N ∧ p (r j) = (x j, y j) := by
   intro j
   induction j with
   | zero => rw [hr0]; exact ⟨h1, h3⟩
   | succ j ih =>
    have := hf (r j, j) ih.1 ih.2
    rw [hrs]; exact ⟨this.1, this.2.2⟩
  refine ⟨r, by rw [hr0]; exact h2, fun j => ?_, fun j => ?_, fun k hk j => ?_⟩
  ·rw [hrs]; exact (hf (r j, j) (hp j).1 (hp j).2).2.1
  ·rw [h.lt, (hp j).2]; exact ⟨hx.lt j, hy.lt j⟩
  ·rw [h.K] at hk
   by_cases hka : k < a.K
   ·obtain ⟨l, h4, h5⟩ := hx.fr k hka j
    exact ⟨l, h4, (h.fr1 k hka _ (hp l).1).2 (by rw [(hp l).2]; exact h5)⟩
   ·obtain ⟨l, h4, h5⟩ := hy.fr (k - a.K) (by omega) j
    refine ⟨l, h4, ?_⟩
    have := (h.fr2 (k - a.K) (by omega) _ (hp l).1).2 (by rw [(hp l).2]; exact h5)
    rwa [show a.K + (k - a.K) = k by omega] at this
def pnx (s m i : Nat) : Nat := if i + 1 < s + m then i + 1 else s
def pat (s m j : Nat) : Nat := if j < s then j else s + (j - s) % m
theorem pat_lt {s m : Nat} (hm : 0 < m) (j : Nat) : pat s m j < s + m := by
 unfold pat
 have := Nat.mod_lt (j - s) hm
 split <;> omega
theorem pat_zero {s m : Nat} : pat s m 0 = 0 := by
 unfold pat
 by_cases h : 0 < s
 ·rw [if_pos h]
 ·rw [if_neg h, show 0 - s = 0 by omega, Nat.zero_mod]; omega
theorem pat_next {s m : Nat} (hm : 0 < m) (j : Nat) : pat s m (j + 1) = pnx s m (pat s m j) := by
 unfold pat pnx
 by_cases h : j + 1 < s
 ·rw [if_pos h, if_pos (show j < s by omega), if_pos (by omega)]
 ·rw [if_neg h]
  by_cases h2 : j < s
  ·have e : s = j + 1 := by omega
   rw [if_pos h2, if_pos (by omega), e, Nat.sub_self, Nat.zero_mod, Nat.add_zero]
  ·have hlt := Nat.mod_lt (j - s) hm
   rw [if_neg h2, show j + 1 - s = (j - s) + 1 by omega]
   by_cases h3 : (j - s) % m + 1 < m
   ·have e : (j - s + 1) % m = (j - s) % m + 1 := by rw [Nat.add_mod, Nat.mod_eq_of_lt (a := 1) (by omega), Nat.mod_eq_of_lt h3]
    rw [if_pos (by omega), e]; omega
   ·have e : (j - s + 1) % m = 0 := by
     by_cases h1 : m = 1
     ·rw [h1, Nat.mod_one]
     ·rw [Nat.add_mod, Nat.mod_eq_of_lt (a := 1) (by omega), show (j - s) % m + 1 = m by omega, Nat.mod_self]
    rw [if_neg (by omega), e, Nat.add_zero]
theorem ltr_pat {s m : Nat} {S L : Nat → Int} (hm : 0 < m) (j : Nat) : ltr s m S L (pat s m j) = ltr s m S L j := by
 unfold pat
 by_cases h : j < s
 ·rw [if_pos h]
 ·rw [if_neg h, ltr_loop (Nat.mod_lt _ hm), ltr_far (by omega)]
structure Grid (a : Atm) (s m : Nat) (o : Nat → Int) (enc : Nat → Nat → Nat) (E : Nat → Nat → Prop) (F : Nat → Nat → Prop) : Prop where
 inj : ∀ q i q' i', i < s + m → i' < s + m → enc q i = enc q' i' → q = q' ∧ i = i'
 edge : ∀ q i y, i < s + m → (E (enc q i) y ↔ ∃ q', y = enc q' (pnx s m i) ∧ a.nx q q' ∧ a.lt q (o i) ∧ a.lt q' (o (pnx s m i)))
 fair : ∀ k, k < a.K → ∀ q i, i < s + m → (F k (enc q i) ↔ a.fr k q)
theorem grid_acc {a : Atm} {s m : Nat} {S L : Nat → Int} (hm : 0 < m) {enc : Nat → Nat → Nat} {E F : Nat → Nat → Prop} (h : Grid a s m (ltr s m S L) enc E F) : a.Acc (ltr s m S L) ↔ ∃ q, a.st q ∧ a.lt q (ltr s m S L 0) ∧ FairAt E a.K F (enc q 0) := by
 constructor
 ·rintro ⟨r, hr⟩
  refine ⟨r 0, hr.st, hr.lt 0, fun j => enc (r j) (pat s m j), by show enc (r 0) (pat s m 0) = enc (r 0) 0; rw [pat_zero], fun j => ?_, fun k hk j => ?_⟩
  ·show E (enc (r j) (pat s m j)) (enc (r (j + 1)) (pat s m (j + 1)))
   rw [h.edge _ _ _ (pat_lt hm j), pat_next hm]
   refine ⟨r (j + 1), rfl, hr.nx j, by rw [ltr_pat hm]; exact hr.lt j, ?_⟩
   rw [← pat_next hm, ltr_pat hm]; exact hr.lt (j + 1)
  ·obtain ⟨l, h1, h2⟩ := hr.fr k hk j
   exact ⟨l, h1, (h.fair k hk _ _ (pat_lt hm l)).2 h2⟩
 ·rintro ⟨q, hq, hl, p, hp0, hp, hF⟩
  have hsp : ∀ j, ∃ x, p j = enc x (pat s m j) ∧ a.lt x (ltr s m S L j) := by
   intro j
   induction j with
   | zero => exact ⟨q, by rw [hp0, pat_zero], hl⟩
   | succ j ih =>
    obtain ⟨x, hx, _⟩ := ih
    have := hp j
    rw [hx, h.edge _ _ _ (pat_lt hm j)] at this
    obtain ⟨y, h1, _, _, h4⟩ := this
    rw [← pat_next hm] at h1 h4
    rw [ltr_pat hm] at h4
    exact ⟨y, h1, h4⟩
  obtain ⟨x, hx⟩ := Classical.axiomOfChoice hsp
  have hlt := pat_lt (s := s) hm
  refine ⟨x, ?_, fun j => ?_, fun j => (hx j).2, fun k hk j => ?_⟩
  ·have e := (hx 0).1
   rw [hp0] at e
   have h0 : 0 < s + m := by omega
   rw [← (h.inj _ _ _ _ h0 (hlt 0) e).1]; exact hq
  ·have := hp j
   rw [(hx j).1, h.edge _ _ _ (hlt j)] at this
   obtain ⟨y, h1, h2, _, _⟩ := this
   have e := (hx (j + 1)).1.symm.trans h1
   rw [pat_next hm] at e
   have hl2 := hlt (j + 1)
   rw [pat_next hm] at hl2
   rw [(h.inj _ _ _ _ hl2 hl2 e).1]; exact h2
  ·obtain ⟨l, h1, h2⟩ := hF k hk j
   rw [(hx l).1, h.fair k hk _ _ (hlt l)] at h2
   exact ⟨l, h1, h2⟩
end Go.Proofs.YtmdpbaobihdgkaaGreatDoor
namespace Go.Proofs.YtmdpbaobihdgkaaGreatDoor
def autA (A : Ax) : Atm where
 st := fun q => has A.sn A.S q = true
 nx := fun q t => q < A.G ∧ has (A.L q) (A.Z q) t = true
 lt := fun q l => q < A.G ∧ fts l.toNat (A.Mu q) (A.No q) = true
 K := A.K
 fr := fun k q => has (A.FL k) (A.FZ k) q = true
def Atm.at (a : Atm) (B : Nat → Prop) : Atm := { a with st := B }
def bhP (a : Atm) (B : Nat → Prop) (l : Int) (t : Nat) : Prop := ∃ q, B q ∧ a.lt q l ∧ a.nx q t
theorem acc_step (a : Atm) (B : Nat → Prop) (o : Nat → Int) : (a.at B).Acc o ↔ (a.at (bhP a B (o 0))).Acc (fun j => o (j + 1)) := by
 constructor
 ·rintro ⟨r, hr⟩
  refine ⟨fun j => r (j + 1), ⟨r 0, hr.st, hr.lt 0, hr.nx 0⟩, fun j => hr.nx (j + 1), fun j => hr.lt (j + 1), fun k hk j => ?_⟩
  obtain ⟨l, h1, h2⟩ := hr.fr k hk (j + 1)
  exact ⟨l - 1, by omega, by show a.fr k (r (l - 1 + 1)); rw [show l - 1 + 1 = l by omega]; exact h2⟩
 ·rintro ⟨r, ⟨q, h1, h2, h3⟩, hn, hl, hf⟩
  refine ⟨fun j => if j = 0 then q else r (j - 1), by show B (if 0 = 0 then q else _); rw [if_pos rfl]; exact h1, fun j => ?_, fun j => ?_, fun k hk j => ?_⟩
  ·cases j with
   | zero => simpa [Atm.at] using h3
   | succ j => simpa [Atm.at] using hn j
  ·cases j with
   | zero => simpa [Atm.at] using h2
   | succ j => simpa [Atm.at] using hl j
  ·obtain ⟨l, g1, g2⟩ := hf k hk j
   exact ⟨l + 1, by omega, by simpa [Atm.at] using g2⟩
def bgP (a : Atm) (o : Nat → Int) : Nat → Nat → Prop
 | 0 => a.st
 | i + 1 => bhP a (bgP a o i) (o i)
theorem acc_stem (a : Atm) (o : Nat → Int) : ∀ i, a.Acc o ↔ (a.at (bgP a o i)).Acc (fun j => o (i + j))
 | 0 => by
  have e : (fun j => o (0 + j)) = o := by funext j; rw [Nat.zero_add]
  rw [e]; exact Iff.rfl
 | i + 1 => by
  rw [acc_stem a o i, acc_step a (bgP a o i) (fun j => o (i + j))]
  have e : (fun j => o (i + (j + 1))) = fun j => o (i + 1 + j) := by funext j; congr 1; omega
  simp only [Nat.add_zero]
  rw [e]
  exact Iff.rfl
def cdS (m : Nat) (q : Nat × Nat) : Nat := q.1 * m + q.2
def Ec (R : Rx) (i j : Nat) : Prop := Es R (i / R.m, i % R.m) (j / R.m, j % R.m) ∧ Ts R (i / R.m, i % R.m) ∧ Ts R (j / R.m, j % R.m)
def Fc (R : Rx) (k i : Nat) : Prop := Fs R k (i / R.m, i % R.m)
theorem cd_dec {m : Nat} {q : Nat × Nat} (h : q.2 < m) : (cdS m q / m, cdS m q % m) = q := by
 unfold cdS
 have h0 : 0 < m := by omega
 rw [Nat.mul_comm, Nat.mul_add_div h0, Nat.div_eq_of_lt h, Nat.mul_add_mod, Nat.mod_eq_of_lt h]
 rfl
theorem rt_rc {R : Rx} {q t : Nat × Nat} (hq : Ts R q) (h : Rt (Es R) (Ts R) q t) : Rc (Ec R) (cdS R.m q) (cdS R.m t) := by
 induction h using Rt.ind with
 | refl => exact Rc.refl _ _
 | @tail y z h1 h2 h3 ih =>
  have hy : Ts R y := h1.mem hq
  have : Ec R (cdS R.m y) (cdS R.m z) := by
   unfold Ec
   rw [cd_dec hy.2.1, cd_dec h3.2.1]
   exact ⟨h2, hy, h3⟩
  exact ih.trans (Rc.step this (Rc.refl _ _))
theorem rc_rt {R : Rx} : ∀ (n : Nat) {i j : Nat}, PthZ (Ec R) (fun _ => True) n i j → Rt (Es R) (Ts R) (i / R.m, i % R.m) (j / R.m, j % R.m)
 | 0, _, _, h => by rw [h.1]; exact Rt.refl
 | n + 1, _, _, ⟨_, l, h2, h3⟩ => Rt.trans (Rt.one h2.1 h2.2.2) (rc_rt n h3)
theorem fair_fp {R : Rx} (hm : 0 < R.m) {q : Nat × Nat} (hq : Ts R q) : FairAt (Ec R) R.K (Fc R) (cdS R.m q) ↔ ∃ z, Rt (Es R) (Ts R) q z ∧ Fp (Es R) (Ts R) R.K (Fs R) z := by
 rw [fair_part (n := R.G * R.m) (fun i j h => by
  have := h.2.2
  have h1 := this.1
  dsimp only at h1
  exact (Nat.div_lt_iff_lt_mul hm).1 h1)]
 constructor
 ·rintro ⟨c, ⟨n1, h1⟩, ⟨n2, h2⟩, h3⟩
  have g1 := rc_rt n1 h1
  rw [cd_dec hq.2.1] at g1
  refine ⟨(c / R.m, c % R.m), g1, ?_, fun k hk => ?_⟩
  ·obtain ⟨_, l, h4, h5⟩ := h2
   exact ⟨(l / R.m, l % R.m), h4.1, h4.2.2, rc_rt n2 h5⟩
  ·obtain ⟨x, h4, ⟨n5, h5⟩, ⟨n6, h6⟩⟩ := h3 k hk
   exact ⟨(x / R.m, x % R.m), h4, rc_rt n5 h5, rc_rt n6 h6⟩
 ·rintro ⟨z, h1, ⟨y, h2, h3, h4⟩, h5⟩
  have hz : Ts R z := h1.mem hq
  refine ⟨cdS R.m z, rt_rc hq h1, ?_, fun k hk => ?_⟩
  ·have : Ec R (cdS R.m z) (cdS R.m y) := by
    unfold Ec
    rw [cd_dec hz.2.1, cd_dec h3.2.1]
    exact ⟨h2, hz, h3⟩
   exact Rc1.of this (rt_rc h3 h4)
  ·obtain ⟨x, h6, h7, h8⟩ := h5 k hk
   have hx : Ts R x := h7.mem hz
   exact ⟨cdS R.m x, by unfold Fc; rw [cd_dec hx.2.1]; exact h6, rt_rc hz h7, rt_rc hx h8⟩
structure Rl (R : Rx) (A : Ax) (L : Nat → Int) : Prop where
 G : R.G = A.G
 K : R.K = A.K
 m : 0 < R.m
 next : ∀ q, q < A.G → ∀ t, mem (R.N q) t = has (A.L q) (A.Z q) t
 fits : ∀ p, p < R.m → ∀ q, mem (R.T p) q = (decide (q < A.G) && fts (L p).toNat (A.Mu q) (A.No q))
 fair : ∀ k, k < A.K → ∀ q, mem (R.F k) q = has (A.FL k) (A.FZ k) q
theorem afs_acc {R : Rx} {A : Ax} {L : Nat → Int} (h : Rl R A L) (S0 : Nat → Int) (x : Nat → Nat) (B : Nat → Prop) (hB : ∀ q, q < A.G → (mem x q = true ↔ B q)) (hG : A.G ≤ 2048) : Afs R x ↔ ((autA A).at B).Acc (ltr 0 R.m S0 L) := by
 have hgrid : Grid ((autA A).at B) 0 R.m (ltr 0 R.m S0 L) (fun q i => cdS R.m (q, i)) (Ec R) (Fc R) := by
  constructor
  ·intro q i q' i' hi hi' he
   rw [Nat.zero_add] at hi hi'
   have h1 := cd_dec (q := (q, i)) hi
   rw [he, cd_dec (q := (q', i')) hi', Prod.mk.injEq] at h1
   exact ⟨h1.1.symm, h1.2.symm⟩
  ·intro q i y hi
   rw [Nat.zero_add] at hi
   have hp : pnx 0 R.m i = (i + 1) % R.m := by
    unfold pnx
    by_cases e : i + 1 < 0 + R.m
    ·rw [if_pos e, Nat.mod_eq_of_lt (by omega)]
    ·rw [if_neg e, show i + 1 = R.m by omega, Nat.mod_self]
   have hp2 : (i + 1) % R.m < R.m := Nat.mod_lt _ h.m
   have l1 : ∀ j, j < R.m → ltr 0 R.m S0 L j = L j := fun j hj => by rw [ltr_far (by omega), Nat.sub_zero, Nat.mod_eq_of_lt hj]
   rw [hp, l1 i hi, l1 _ hp2]
   unfold Ec
   rw [cd_dec (q := (q, i)) hi]
   have hts : ∀ a b, b < R.m → (Ts R (a, b) ↔ (autA A).lt a (L b)) := by
    intro a b hb
    unfold Ts autA
    dsimp only
    rw [h.fits b hb, h.G]
    simp only [Bool.and_eq_true, decide_eq_true_eq]
    constructor
    ·rintro ⟨h1, _, h2, h3⟩; exact ⟨h1, h3⟩
    ·rintro ⟨h1, h3⟩; exact ⟨h1, hb, h1, h3⟩
   constructor
   ·rintro ⟨⟨h1, h2⟩, h3, h4⟩
    dsimp only at h1 h2
    have h5 := (hts _ _ hi).1 h3
    have h4' := h4
    rw [h2] at h4
    have h6 := (hts _ _ hp2).1 h4
    refine ⟨y / R.m, ?_, ⟨h5.1, ?_⟩, h5, h6⟩
    ·show y = y / R.m * R.m + (i + 1) % R.m
     rw [← h2, Nat.mul_comm]
     exact (Nat.div_add_mod y R.m).symm
    ·rw [← h.next q h5.1]; exact h1
   ·rintro ⟨q', rfl, h1, h2, h3⟩
    rw [cd_dec (q := (q', (i + 1) % R.m)) hp2]
    exact ⟨⟨by rw [h.next q h2.1]; exact h1.2, rfl⟩, (hts _ _ hi).2 h2, (hts _ _ hp2).2 h3⟩
  ·intro k hk q i hi
   rw [Nat.zero_add] at hi
   unfold Fc Fs
   rw [cd_dec (q := (q, i)) hi]
   dsimp only
   rw [h.fair k hk]
   exact Iff.rfl
 rw [grid_acc h.m hgrid]
 have l0 : ltr 0 R.m S0 L 0 = L 0 := by rw [ltr_far (by omega), Nat.sub_zero, Nat.mod_eq_of_lt h.m]
 rw [l0]
 have hts0 : ∀ a, Ts R (a, 0) ↔ (autA A).lt a (L 0) := by
  intro a
  unfold Ts autA
  dsimp only
  rw [h.fits 0 h.m, h.G]
  simp only [Bool.and_eq_true, decide_eq_true_eq]
  constructor
  ·rintro ⟨h1, _, h2, h3⟩; exact ⟨h1, h3⟩
  ·rintro ⟨h1, h3⟩; exact ⟨h1, h.m, h1, h3⟩
 constructor
 ·rintro ⟨z, ⟨s, h1, h2, h3, h4⟩, h5⟩
  have h6 := (hts0 s).1 h3
  refine ⟨s, (hB s h6.1).1 h2, h6, ?_⟩
  have := (fair_fp h.m h3).2 ⟨z, h4, h5⟩
  rw [h.K] at this
  exact this
 ·rintro ⟨q, h1, h2, h3⟩
  have h4 := (hts0 q).2 h2
  have h3' : FairAt (Ec R) R.K (Fc R) (cdS R.m (q, 0)) := by rw [h.K]; exact h3
  obtain ⟨z, h5, h6⟩ := (fair_fp h.m h4).1 h3'
  exact ⟨z, ⟨q, by have := h2.1; omega, (hB q h2.1).2 h1, h4, h5⟩, h6⟩
end Go.Proofs.YtmdpbaobihdgkaaGreatDoor
namespace Go.Proofs.YtmdpbaobihdgkaaGreatDoor
open Go.RowKit
theorem fold_set : ∀ (l : List Value) (o : Nat) (cs : Array Value), o + l.length ≤ cs.size → ((l.zipIdx o).foldl (fun cs p => cs.setIfInBounds p.2 p.1) cs).size = cs.size ∧ ∀ j, ((l.zipIdx o).foldl (fun cs p => cs.setIfInBounds p.2 p.1) cs)[j]? = if o ≤ j ∧ j < o + l.length then l[j - o]? else cs[j]?
 | [], o, cs, _ => ⟨rfl, fun j => by simp; intro h1 h2; omega⟩
 | v :: l, o, cs, h => by
  simp only [List.length_cons] at h
  obtain ⟨h1, h2⟩ := fold_set l (o + 1) (cs.setIfInBounds o v) (by simp; omega)
  rw [List.zipIdx_cons, List.foldl_cons]
  refine ⟨by rw [h1]; simp, fun j => ?_⟩
  rw [h2 j]
  by_cases e : j = o
  ·subst e
   rw [if_neg (by omega), if_pos (by simp), Array.getElem?_setIfInBounds, if_pos rfl, if_pos (by omega), Nat.sub_self]
   rfl
  ·by_cases e2 : o + 1 ≤ j ∧ j < o + 1 + l.length
   ·rw [if_pos e2, if_pos (by simp only [List.length_cons]; omega), show j - o = j - (o + 1) + 1 by omega]
    rfl
   ·rw [if_neg e2, if_neg (by simp only [List.length_cons]; omega), Array.getElem?_setIfInBounds, if_neg (fun h => e h.symm)]
theorem foldS (x : Nat → Nat) (cs : Array Value) (hc : cs.size = 32) : Array.foldl (fun cs p => cs.setIfInBounds p.2 p.1) cs (cellsS x).zipIdx 0 (cellsS x).size = cellsS x := by
 have hs : (cellsS x).size = (cellsS x).zipIdx.size := by simp
 rw [hs, ← Array.foldl_toList, Array.toList_zipIdx]
 obtain ⟨h1, h2⟩ := fold_set (cellsS x).toList 0 cs (by simp [cellsS_size, hc])
 apply Array.ext_getElem?
 intro j
 rw [h2 j]
 by_cases hj : j < 32
 ·rw [if_pos (by simp [cellsS_size]; exact hj)]
  simp
 ·rw [if_neg (by simp [cellsS_size]; omega), Array.getElem?_eq_none (by rw [hc]; omega), Array.getElem?_eq_none (by rw [cellsS_size]; omega)]
theorem op_build {o : Oper} {a : Act} {w : World} {K : Act → World → Prop} {Q : Exit → Act → World → Prop} (x : Operand) (ho : o.op = .buildSlice 64 1 #[(0, x)]) (z : Nat → Nat) (hx : a.eval x = .agg (cellsS z))
  (h : K (a.put o.dst (.slice (some ⟨w.heap.size, 0, none⟩) 1 1)) (w.alloc (.cells (cellsS z) 69))) : o.wp Tryz.prog a w K Q := by
 obtain ⟨i0, hi, hz0, hz1, hz2⟩ := info_parts Tryz.infoS
 refine wp_buildSlice 64 69 1 #[(0, x)] ho (cellsS z) i0 (.agg (cellsS (fun _ => 0))) Tryz.underlying64 hi hz0 (by rw [hz1]; decide) (by rw [hz1]; decide) ?_ h
 simp only [List.map_toArray, List.map_cons, List.map_nil, hx, hz1]
 obtain ⟨cs, hcs, hc⟩ : ∃ cs : Array Value, Array.map (fun x => (Value.agg (cellsS fun _ => 0)).cells[x % (Value.agg (cellsS fun _ => 0)).cells.size]!) (Array.range (1 * 32)) = cs ∧ cs.size = 32 := ⟨_, rfl, by simp⟩
 rw [hcs]
 have e := foldS z cs hc
 have hv : (Value.agg (cellsS z)).cells = cellsS z := rfl
 simp only [Instr.fill, hv, cellsS_size, hc, Nat.zero_mul, Nat.zero_add]
 rw [if_neg (by simp)]
 simpa using e
end Go.Proofs.YtmdpbaobihdgkaaGreatDoor
