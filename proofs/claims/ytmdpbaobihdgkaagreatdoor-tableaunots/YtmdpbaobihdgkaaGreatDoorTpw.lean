
import Derived.Test.YtmdpbaobihdgkaaGreatDoorAAcc
/- tableau: the automaton of a formula accepts just the words at whose first place it holds (pure). -/
namespace Go.Proofs.YtmdpbaobihdgkaaGreatDoor
open Go.RowKit
structure TbIs (E : List Fml) (p : Fml) (A : Ax) : Prop where
 G : A.G = 2 ^ E.length
 M : A.M = A.G
 O : A.O = A.G
 sn : A.sn = (trs (trv E p) (2 ^ E.length)).length
 S : ∀ i, i < A.sn → A.S i = (trs (trv E p) (2 ^ E.length)).getD i 0
 L : ∀ s, s < A.G → A.L s = (nxt E s).length
 Z : ∀ s, s < A.G → ∀ i, i < A.L s → A.Z s i = (nxt E s).getD i 0
 mu : ∀ s, s < A.G → A.Mu s = ltM E true s E.length
 no : ∀ s, s < A.G → A.No s = ltM E false s E.length
 K : A.K = (frT E).length
 FL : ∀ k, k < A.K → A.FL k = (trs (frF E (lf (frT E) k)) (2 ^ E.length)).length
 FZ : ∀ k, k < A.K → ∀ i, i < A.FL k → A.FZ k i = (trs (frF E (lf (frT E) k)) (2 ^ E.length)).getD i 0
theorem has_trs {F : Nat → Bool} {N n : Nat} {Z : Nat → Int} (hn : n = (trs F N).length) (hZ : ∀ i, i < n → Z i = (trs F N).getD i 0) (q : Nat) : has n Z (q : Int) = true ↔ q < N ∧ F q = true := by
 have h1 : has n Z (q : Int) = true ↔ (q : Int) ∈ trs F N := by
  unfold has
  rw [decide_eq_true_eq]
  constructor
  ·rintro ⟨i, hi, e⟩
   rw [hZ i hi] at e
   rw [← e, List.getD_eq_getElem?_getD, List.getElem?_eq_getElem (by omega)]
   exact List.getElem_mem _
  ·intro h
   obtain ⟨i, hi, e⟩ := List.getElem_of_mem h
   refine ⟨i, by omega, ?_⟩
   rw [hZ i (by omega), List.getD_eq_getElem?_getD, List.getElem?_eq_getElem hi]
   exact e
 rw [h1, trs_mem]
 constructor
 ·rintro ⟨s, h1, h2, h3⟩
  obtain rfl : q = s := by omega
  exact ⟨h1, h3⟩
 ·rintro ⟨h2, h3⟩
  exact ⟨q, h2, rfl, h3⟩
theorem and_sub (m l : Nat) : (l &&& m == m) = true ↔ ∀ i, m.testBit i = true → l.testBit i = true := by
 rw [beq_iff_eq]
 constructor
 ·intro h i hi
  have := congrArg (fun x => Nat.testBit x i) h
  simp only [Nat.testBit_and, hi, Bool.and_true] at this
  exact this
 ·intro h
  refine Nat.eq_of_testBit_eq fun i => ?_
  rw [Nat.testBit_and]
  by_cases hi : m.testBit i = true
  ·rw [hi, h i hi]; rfl
  ·rw [Bool.not_eq_true] at hi; rw [hi, Bool.and_false]
theorem and_dis (m l : Nat) : (l &&& m == 0) = true ↔ ∀ i, m.testBit i = true → l.testBit i = false := by
 rw [beq_iff_eq]
 constructor
 ·intro h i hi
  have := congrArg (fun x => Nat.testBit x i) h
  simp only [Nat.testBit_and, hi, Bool.and_true, Nat.zero_testBit] at this
  exact this
 ·intro h
  refine Nat.eq_of_testBit_eq fun i => ?_
  rw [Nat.testBit_and, Nat.zero_testBit]
  by_cases hi : m.testBit i = true
  ·rw [h i hi]; rfl
  ·rw [Bool.not_eq_true] at hi; rw [hi, Bool.and_false]
theorem fts_ltM (E : List Fml) (s l : Nat) : fts l (ltM E true s E.length) (ltM E false s E.length) = true ↔ ∀ k, k < E.length → (lf E k).kind = 3 → bt s k = l.testBit (lf E k).num.toNat := by
 unfold fts
 rw [Bool.and_eq_true, and_sub, and_dis]
 constructor
 ·rintro ⟨h1, h2⟩ k hk h3
  cases hb : bt s k with
  | true => exact (h1 _ ((ltM_bit E true s _ _).2 ⟨k, hk, h3, rfl, hb⟩)).symm
  | false => exact (h2 _ ((ltM_bit E false s _ _).2 ⟨k, hk, h3, rfl, hb⟩)).symm
 ·intro h
  refine ⟨fun i hi => ?_, fun i hi => ?_⟩
  ·obtain ⟨k, hk, h3, rfl, hb⟩ := (ltM_bit E true s _ _).1 hi
   rw [← h k hk h3, hb]
  ·obtain ⟨k, hk, h3, rfl, hb⟩ := (ltM_bit E false s _ _).1 hi
   rw [← h k hk h3, hb]
theorem atm_bit {s m : Nat} {S L : Nat → Int} {j : Nat} (h : 0 ≤ ltr s m S L j) (n : Int) : atm s m S L j n = (ltr s m S L j).toNat.testBit n.toNat := by
 unfold atm
 generalize ltr s m S L j = x at *
 obtain ⟨y, rfl⟩ := Int.eq_ofNat_of_zero_le h
 rw [Nat.testBit_eq_decide_div_mod_eq]
 refine decide_eq_decide.2 ?_
 have : ((y : Int) / 2 ^ n.toNat) = ((y / 2 ^ n.toNat : Nat) : Int) := by simp
 rw [this, Int.toNat_natCast]
 omega
theorem isT_congr {c d : Fml → Prop} : ∀ t, Wf t → ¬ Has 10 t → ¬ Has 11 t → (∀ x, Prt t x → (x.kind = 3 ∨ x.kind = 7 ∨ x.kind = 8 ∨ x.kind = 9) → (c x ↔ d x)) → (isT c t ↔ isT d t) := by
 intro t
 induction t using Fml.ind with
 | h t ih =>
  intro hw h10 h11 hx
  have k10 : t.kind ≠ 10 := fun e => h10 ((has_eq 10 t).2 (Or.inl e))
  have k11 : t.kind ≠ 11 := fun e => h11 ((has_eq 11 t).2 (Or.inl e))
  have ih' : ∀ i, i < t.cnt → (isT c (t.kid i) ↔ isT d (t.kid i)) := fun i hi =>
   ih i hi (hw.out.2 i hi) (fun h => h10 ((has_eq 10 t).2 (Or.inr ⟨i, hi, h⟩))) (fun h => h11 ((has_eq 11 t).2 (Or.inr ⟨i, hi, h⟩))) (fun x hp => hx x ((prt_eq t x).2 (Or.inr ⟨i, hi, hp⟩)))
  have hs := hx t (Prt.refl t)
  rw [isT_eq hw, isT_eq hw]
  rcases fit_cases hw.out.1 with ⟨hz, hc, _⟩ | ⟨hz, hc, _⟩ | ⟨hz, hc, _⟩ | ⟨hz, hc, _⟩
  ·simp [isF, hz, hs (Or.inl hz)]
  ·rcases hz with hz | hz <;> simp [isF, hz]
  ·have i0 := ih' 0 (by omega)
   rcases hz with hz | hz | hz | hz
   ·simp [isF, hz, i0]
   ·simp [isF, hz, hs (Or.inr (Or.inl hz))]
   ·exact absurd hz k10
   ·exact absurd hz k11
  ·have i0 := ih' 0 (by omega)
   have i1 := ih' 1 (by omega)
   rcases hz with hz | hz | hz | hz
   ·simp [isF, hz, i0, i1]
   ·simp [isF, hz, i0, i1]
   ·simp [isF, hz, i0, i1, hs (Or.inr (Or.inr (Or.inl hz)))]
   ·simp [isF, hz, i0, i1, hs (Or.inr (Or.inr (Or.inr hz)))]
theorem prt_trans {f g x : Fml} (h : Prt f g) (h2 : Prt g x) : Prt f x := Prt.all (P := Prt f) (fun _ ht _ hi => ht.kid hi) g h x h2
theorem lf_pl {E : List Fml} {t : Fml} (h : t ∈ E) : lf E (pl E t) = t := by
 unfold pl
 rcases plc_lt (t := t) (r := lf E) E.length with q | ⟨k, hk, e, e2⟩
 ·exact absurd h (plc_mem.1 q)
 ·rw [e]; exact e2
theorem tab_acc {p : Fml} {A : Ax} {s m : Nat} {S L : Nat → Int} (hL : ∀ i, 0 ≤ ltr s m S L i) (hw : Wf p) (h10 : ¬ Has 10 p) (h11 : ¬ Has 11 p) (h : TbIs (els p) p A) : (autA A).Acc (ltr s m S L) ↔ hold (atm s m S L) p 0 := by
 have hin : ∀ g, Prt p g → (g.kind = 3 ∨ g.kind = 7 ∨ g.kind = 8 ∨ g.kind = 9) → g ∈ els p := fun g hg hk => (els_mem p g).2 ⟨(prt_pts p g).2 hg, hk⟩
 have hprt : ∀ g, g ∈ els p → Prt p g := fun g hg => (prt_pts p g).1 ((els_mem p g).1 hg).1
 have htr : ∀ q g, Prt p g → (trv (els p) g q = true ↔ isT (fun g => bt q (pl (els p) g) = true) g) := fun q g hg => trv_isT (els p) q g (hg.wf hw) (hg.hasn h10) (hg.hasn h11)
 generalize hE : els p = E at *
 have st : ∀ q, (autA A).st q ↔ (q < 2 ^ E.length ∧ trv E p q = true) := fun q => has_trs h.sn h.S q
 have nx : ∀ q t, (autA A).nx q t ↔ (q < 2 ^ E.length ∧ t < 2 ^ E.length ∧ ∀ k, k < E.length → (lf E k).kind ≠ 3 → (trv E (asd (lf E k)) t = bt q k)) := by
  intro q t
  show (q < A.G ∧ has (A.L q) (A.Z q) t = true) ↔ _
  rw [h.G]
  constructor
  ·rintro ⟨h1, h2⟩
   obtain ⟨h3, h4⟩ := (has_trs (h.L q (by rw [h.G]; exact h1)) (h.Z q (by rw [h.G]; exact h1)) t).1 h2
   exact ⟨h1, h3, (ahd_eq E q t).1 (of_decide_eq_true h4)⟩
  ·rintro ⟨h1, h3, h4⟩
   exact ⟨h1, (has_trs (h.L q (by rw [h.G]; exact h1)) (h.Z q (by rw [h.G]; exact h1)) t).2 ⟨h3, decide_eq_true ((ahd_eq E q t).2 h4)⟩⟩
 have lt : ∀ q j, (autA A).lt q (ltr s m S L j) ↔ (q < 2 ^ E.length ∧ ∀ k, k < E.length → (lf E k).kind = 3 → bt q k = atm s m S L j (lf E k).num) := by
  intro q j
  show (q < A.G ∧ fts (ltr s m S L j).toNat (A.Mu q) (A.No q) = true) ↔ _
  rw [← h.G]
  constructor
  ·rintro ⟨h1, h2⟩
   rw [h.mu q h1, h.no q h1] at h2
   exact ⟨h1, fun k hk h3 => by rw [atm_bit (hL j)]; exact (fts_ltM E q _).1 h2 k hk h3⟩
  ·rintro ⟨h1, h2⟩
   rw [h.mu q h1, h.no q h1]
   exact ⟨h1, (fts_ltM E q _).2 (fun k hk h3 => by rw [← atm_bit (hL j)]; exact h2 k hk h3)⟩
 have fr : ∀ k, k < (frT E).length → ∀ q, (autA A).fr k q ↔ (q < 2 ^ E.length ∧ frF E (lf (frT E) k) q = true) := fun k hk q => has_trs (h.FL k (by rw [h.K]; exact hk)) (h.FZ k (by rw [h.K]; exact hk)) q
 have hfr : ∀ g, g ∈ E → (g.kind = 8 ∨ g.kind = 9) → ∃ k, k < (frT E).length ∧ lf (frT E) k = g := fun g hg hk => lf_mem (List.mem_filter.2 ⟨hg, by unfold isFr; rcases hk with e | e <;> rw [e] <;> decide⟩)
 constructor
 ·rintro ⟨r, hr⟩
  have hlt : ∀ j, r j < 2 ^ E.length := fun j => ((nx _ _).1 (hr.nx j)).1
  have row : RowT (atm s m S L) p (fun j g => bt (r j) (pl E g) = true) := by
   refine ⟨fun g hg hk j => ?_, fun g hg hk j => ?_, fun g hg hk j => ?_, fun g hg hk j => ?_, fun g hg hk j => ?_⟩
   ·have hm := hin g hg (Or.inl hk)
    have q := ((lt _ _).1 (hr.lt j)).2 (pl E g) (pl_at hm).2
    rw [lf_pl hm] at q
    rw [q hk]
   ·have hm := hin g hg (Or.inr (Or.inl hk))
    have q := ((nx _ _).1 (hr.nx j)).2.2 (pl E g) (pl_at hm).2
    rw [lf_pl hm] at q
    have q := q (by omega)
    rw [asd, if_pos hk] at q
    rw [← q]
    exact htr (r (j + 1)) _ (hg.kid (by have := fit_cases (hg.wf hw).out.1; omega))
   ·have hm := hin g hg (Or.inr (Or.inr hk))
    have q := ((nx _ _).1 (hr.nx j)).2.2 (pl E g) (pl_at hm).2
    rw [lf_pl hm] at q
    have q := q (by omega)
    rw [asd, if_neg (by omega)] at q
    rw [← q]
    exact htr (r (j + 1)) _ hg
   ·obtain ⟨k, hk2, e⟩ := hfr g (hin g hg (Or.inr (Or.inr (Or.inl hk)))) (Or.inl hk)
    obtain ⟨l, hl, hf⟩ := hr.fr k (by show k < A.K; rw [h.K]; exact hk2) j
    have hf := ((fr k hk2 _).1 hf).2
    rw [e, frF, if_pos hk, Bool.or_eq_true, Bool.not_eq_true'] at hf
    have t1 := htr (r l) g hg
    have t2 := htr (r l) (g.kid 1) (hg.kid (by have := fit_cases (hg.wf hw).out.1; omega))
    refine ⟨l, hl, ?_⟩
    rcases hf with hf | hf
    ·exact Or.inl (fun hh => by rw [t1.2 hh] at hf; cases hf)
    ·exact Or.inr (t2.1 hf)
   ·obtain ⟨k, hk2, e⟩ := hfr g (hin g hg (Or.inr (Or.inr (Or.inr hk)))) (Or.inr hk)
    obtain ⟨l, hl, hf⟩ := hr.fr k (by show k < A.K; rw [h.K]; exact hk2) j
    have hf := ((fr k hk2 _).1 hf).2
    rw [e, frF, if_neg (by omega), Bool.or_eq_true, Bool.not_eq_true'] at hf
    have t1 := htr (r l) g hg
    have t2 := htr (r l) (g.kid 1) (hg.kid (by have := fit_cases (hg.wf hw).out.1; omega))
    refine ⟨l, hl, ?_⟩
    rcases hf with hf | hf
    ·exact Or.inl (t1.1 hf)
    ·exact Or.inr (fun hh => by rw [t2.2 hh] at hf; cases hf)
  have h0 := ((st _).1 hr.st).2
  exact (row_hold hw h10 h11 row p (Prt.refl p) 0).1 ((htr _ _ (Prt.refl p)).1 h0)
 ·intro h0
  have row := own_row (A := atm s m S L) hw h10 h11
  obtain ⟨r, hr⟩ : ∃ r : Nat → Nat, ∀ j, r j = orN (fun k => @decide (own (atm s m S L) j (lf E k)) (Classical.propDecidable _)) E.length := ⟨_, fun _ => rfl⟩
  have hlt : ∀ j, r j < 2 ^ E.length := fun j => by rw [hr]; exact orN_lt _ _
  have hbt : ∀ j k, k < E.length → (bt (r j) k = true ↔ own (atm s m S L) j (lf E k)) := fun j k hk => by
   rw [bt_bit, hr, orN_bit, decide_eq_true hk, Bool.true_and]
   exact @decide_eq_true_iff _ (Classical.propDecidable _)
  have hbg : ∀ j g, g ∈ E → (bt (r j) (pl E g) = true ↔ own (atm s m S L) j g) := fun j g hg => by
   have := hbt j (pl E g) (pl_at hg).2
   rwa [lf_pl hg] at this
  have hT : ∀ j g, Prt p g → (trv E g (r j) = true ↔ isT (own (atm s m S L) j) g) := fun j g hg =>
   (htr (r j) g hg).trans (isT_congr g (hg.wf hw) (hg.hasn h10) (hg.hasn h11) (fun x hx hk => hbg j x (hin x ((prt_trans hg hx)) hk)))
  refine ⟨r, ?_, fun j => ?_, fun j => ?_, fun k hk => ?_⟩
  ·exact (st _).2 ⟨hlt 0, (hT 0 p (Prt.refl p)).2 ((own_hold p hw h10 h11 0).2 h0)⟩
  ·refine (nx _ _).2 ⟨hlt j, hlt (j + 1), fun k hk h3 => ?_⟩
   have hm := mem_lf hk
   have hg := hprt _ hm
   have hkk := (els_mem p (lf E k)).1 (by rw [hE]; exact hm)
   rw [Bool.eq_iff_iff, hbt j k hk]
   by_cases h7 : (lf E k).kind = 7
   ·rw [asd, if_pos h7]
    exact (hT (j + 1) _ (hg.kid (by have := fit_cases (hg.wf hw).out.1; omega))).trans (row.next _ hg h7 j).symm
   ·rw [asd, if_neg h7]
    exact (hT (j + 1) _ hg).trans (row.self _ hg (by omega) j).symm
  ·refine (lt _ _).2 ⟨hlt j, fun k hk h3 => ?_⟩
   rw [Bool.eq_iff_iff, hbt j k hk]
   exact row.atom _ (hprt _ (mem_lf hk)) h3 j
  ·have hk : k < (frT E).length := by have : k < A.K := hk; rwa [h.K] at this
   have hm := mem_lf hk
   obtain ⟨hm, hf⟩ := List.mem_filter.1 hm
   have hg := hprt _ hm
   have hc1 : 1 < (lf (frT E) k).cnt := by
    have := fit_cases (hg.wf hw).out.1
    unfold isFr at hf
    simp only [Bool.or_eq_true, beq_iff_eq] at hf
    omega
   intro j
   have e1 : ∀ l, trv E (lf (frT E) k) (r l) = true ↔ isT (own (atm s m S L) l) (lf (frT E) k) := fun l => hT l _ hg
   have e2 : ∀ l, trv E ((lf (frT E) k).kid 1) (r l) = true ↔ isT (own (atm s m S L) l) ((lf (frT E) k).kid 1) := fun l => hT l _ (hg.kid hc1)
   by_cases h8 : (lf (frT E) k).kind = 8
   ·obtain ⟨l, hl, hh⟩ := row.unt _ hg h8 j
    refine ⟨l, hl, (fr k hk _).2 ⟨hlt l, ?_⟩⟩
    rw [frF, if_pos h8, Bool.or_eq_true, Bool.not_eq_true']
    rcases hh with hh | hh
    ·exact Or.inl (by rw [← Bool.not_eq_true]; exact fun q => hh ((e1 l).1 q))
    ·exact Or.inr ((e2 l).2 hh)
   ·have h9 : (lf (frT E) k).kind = 9 := by
     unfold isFr at hf
     simp only [Bool.or_eq_true, beq_iff_eq] at hf
     omega
    obtain ⟨l, hl, hh⟩ := row.rel _ hg h9 j
    refine ⟨l, hl, (fr k hk _).2 ⟨hlt l, ?_⟩⟩
    rw [frF, if_neg h8, Bool.or_eq_true, Bool.not_eq_true']
    rcases hh with hh | hh
    ·exact Or.inl ((e1 l).2 hh)
    ·exact Or.inr (by rw [← Bool.not_eq_true]; exact fun q => hh ((e2 l).1 q))
end Go.Proofs.YtmdpbaobihdgkaaGreatDoor
