/-   -/
import Derived.Test.YtmdpbaobihdgkaaGreatDoorHldFJ
/- What Both answers, as an automaton. -/
/- The law TableauNots, walked. -/
namespace Go.Proofs.YtmdpbaobihdgkaaGreatDoor
open Go.RowKit Go.Shelf Go.Maps
theorem sub_iff {l m : Nat} : l &&& m = m ↔ ∀ i, m.testBit i = true → l.testBit i = true := by
 constructor
 ·intro h i hi
  rw [← h, Nat.testBit_and, Bool.and_eq_true] at hi
  exact hi.1
 ·intro h
  apply Nat.eq_of_testBit_eq
  intro i
  rw [Nat.testBit_and]
  cases e : m.testBit i
  ·simp
  ·rw [h i e]; rfl
theorem dis_iff {l n : Nat} : l &&& n = 0 ↔ ∀ i, l.testBit i = true → n.testBit i = false := by
 constructor
 ·intro h i hi
  have : (l &&& n).testBit i = false := by rw [h]; simp
  rw [Nat.testBit_and, hi] at this
  simpa using this
 ·intro h
  apply Nat.eq_of_testBit_eq
  intro i
  rw [Nat.testBit_and, Nat.zero_testBit]
  cases e : l.testBit i
  ·rfl
  ·rw [h i e]; rfl
theorem fts_iff {l m n : Nat} : fts l m n = true ↔ (∀ i, m.testBit i = true → l.testBit i = true) ∧ ∀ i, l.testBit i = true → n.testBit i = false := by
 unfold fts
 rw [Bool.and_eq_true, beq_iff_eq, beq_iff_eq, sub_iff, dis_iff]
theorem fts_or {l m1 m2 n1 n2 : Nat} : fts l (m1 ||| m2) (n1 ||| n2) = true ↔ fts l m1 n1 = true ∧ fts l m2 n2 = true := by
 simp only [fts_iff, Nat.testBit_or, Bool.or_eq_true, Bool.or_eq_false_iff]
 exact ⟨fun h => ⟨⟨fun i hi => h.1 i (Or.inl hi), fun i hi => (h.2 i hi).1⟩, ⟨fun i hi => h.1 i (Or.inr hi), fun i hi => (h.2 i hi).2⟩⟩,
  fun h => ⟨fun i hi => hi.elim (h.1.1 i) (h.2.1 i), fun i hi => ⟨h.1.2 i hi, h.2.2 i hi⟩⟩⟩
theorem okB_of {A B : Ax} {x y l : Nat} (h1 : fts l (A.Mu x) (A.No x) = true) (h2 : fts l (B.Mu y) (B.No y) = true) : a_okB A B x y = true := by
 obtain ⟨a1, a2⟩ := fts_iff.1 h1
 obtain ⟨b1, b2⟩ := fts_iff.1 h2
 unfold a_okB
 rw [Bool.and_eq_true, decide_eq_true_eq, decide_eq_true_eq]
 refine ⟨dis_iff.2 fun i hi => b2 i (a1 i hi), ?_⟩
 rw [Nat.and_comm]
 exact dis_iff.2 fun i hi => a2 i (b1 i hi)
def boC (A B : Ax) (k : Nat) : Ax where
 sa := none
 sn := (bS A B).length
 sc := 0
 na := none
 G := k
 nc := 0
 ma := none
 M := k
 mc := 0
 oa := none
 O := k
 oc := 0
 fa := none
 K := A.K + B.K
 fc := 0
 S := fun i => ((((bS A B).map fun p => ix p (bL A B k)).getD i 0 : Nat) : Int)
 L := fun i => (bX A B (nAt (bL A B k) i)).length
 Z := fun i j => ((((bX A B (nAt (bL A B k) i)).map fun p => ix p (bL A B k)).getD j 0 : Nat) : Int)
 Mu := fun i => A.Mu (nAt (bL A B k) i).1 ||| B.Mu (nAt (bL A B k) i).2
 No := fun i => A.No (nAt (bL A B k) i).1 ||| B.No (nAt (bL A B k) i).2
 FL := fun i => (bFS A B k i).length
 FZ := fun i j => (((bFS A B k i).getD j 0 : Nat) : Int)
theorem bo_acc {A B : Ax} (hA : chkA A = 0) (hB : chkA B = 0) {k : Nat} (hk : (bL A B k).length = k) (o : Nat → Int) : (autA (boC A B k)).Acc o ↔ ((autA A).Acc o ∧ (autA B).Acc o) := by
 have hall := bL_all hA hB k
 have hp : ∀ i, i < k → bP A B (nAt (bL A B k) i) := fun i hi => hall _ (nAt_mem (by omega))
 have key : Pairs (autA A) (autA B) { autA (boC A B k) with lt := fun i l => (autA A).lt (nAt (bL A B k) i).1 l ∧ (autA B).lt (nAt (bL A B k) i).2 l } (nAt (bL A B k)) (bL A B k).length := by
  refine both_pairs (ok := a_okB A B) (aS := aSt A) (bS := aSt B) (aN := aNx A) (bN := aNx B) (f := k) (L := bL A B k) rfl (by omega) (fun x => (mem_aSt hA).symm) (fun x => (mem_aSt hB).symm) (fun x y => (mem_aNx hA).symm) (fun x y => (mem_aNx hB).symm) (fun x y l h1 h2 => okB_of h1.2 h2.2) (fun i => ?_) (fun i j => ?_) (fun i l => Iff.rfl) rfl (fun r hr i hi => ?_) (fun r hr i hi => ?_)
  ·show has (bS A B).length (boC A B k).S i = true ↔ _
   rw [mem_nNums]
   refine (has_list (l := (bS A B).map fun p => ix p (bL A B k)) (by simp)).trans ?_
   rw [List.mem_map]
   rfl
  ·show i < k ∧ has (bX A B (nAt (bL A B k) i)).length ((boC A B k).Z i) j = true ↔ _
   rw [mem_nNums, hk]
   refine and_congr_right fun _ => ((has_list (l := (bX A B (nAt (bL A B k) i)).map fun p => ix p (bL A B k)) (by simp)).trans ?_)
   rw [List.mem_map]
   rfl
  ·show has (bFS A B k r).length ((boC A B k).FZ r) i = true ↔ aFr A r (nAt (bL A B k) i).1 = true
   have hr' : r < A.K := hr
   refine (has_list (l := bFS A B k r) rfl).trans ?_
   unfold bFS
   rw [mem_whN]
   unfold bFr
   rw [if_pos hr']
   exact ⟨fun h => h.2, fun h => ⟨by omega, h⟩⟩
  ·show has (bFS A B k (A.K + r)).length ((boC A B k).FZ (A.K + r)) i = true ↔ aFr B r (nAt (bL A B k) i).2 = true
   refine (has_list (l := bFS A B k (A.K + r)) rfl).trans ?_
   unfold bFS
   rw [mem_whN]
   unfold bFr
   rw [if_neg (by omega), Nat.add_sub_cancel_left]
   exact ⟨fun h => h.2, fun h => ⟨by omega, h⟩⟩
 refine Iff.trans ⟨?_, ?_⟩ (pairs_acc key o)
 ·rintro ⟨r, hr⟩
  refine ⟨r, hr.st, hr.nx, fun j => ?_, hr.fr⟩
  obtain ⟨h1, h2⟩ := hr.lt j
  have h1' : r j < k := h1
  obtain ⟨h3, h4⟩ := fts_or.1 h2
  exact ⟨⟨(hp _ h1').1, h3⟩, ⟨(hp _ h1').2, h4⟩⟩
 ·rintro ⟨r, hr⟩
  have hb := run_big key hr
  refine ⟨r, hr.st, hr.nx, fun j => ?_, hr.fr⟩
  obtain ⟨h1, h2⟩ := hr.lt j
  exact ⟨by show r j < k; have := hb j; omega, fts_or.2 ⟨h1.2, h2.2⟩⟩
theorem bo_chk {A B : Ax} {k : Nat} (hK : ¬ 80 < A.K + B.K) (hk : (bL A B k).length = k) (hk2 : k ≤ 2048) : chkA (boC A B k) = 0 := by
 have hs : ∀ x ∈ (bS A B).map (fun p => ix p (bL A B k)), x < k := fun x hx => by
  obtain ⟨p, hp, rfl⟩ := List.mem_map.1 hx
  have : ix p (bL A B k) < (bL A B k).length := ix_lt (nAll_start (nx := bX A B) (f := k) hp)
  omega
 have hn : ∀ i, i < k → ∀ x ∈ (bX A B (nAt (bL A B k) i)).map (fun p => ix p (bL A B k)), x < k := fun i hi x hx => by
  obtain ⟨p, hp, rfl⟩ := List.mem_map.1 hx
  have h1 : nAt (bL A B k) i ∈ bL A B k := nAt_mem (by omega)
  have : ix p (bL A B k) < (bL A B k).length := ix_lt (nAll_next (nx := bX A B) (f := k) (start := bS A B) (by show (bL A B k).length ≤ k; omega) h1 hp)
  omega
 have hf : ∀ r, ∀ x ∈ bFS A B k r, x < k := fun r x hx => (mem_whN.1 hx).1
 unfold chkA
 rw [if_neg (by show ¬ (2048 < k ∨ 80 < A.K + B.K); omega), if_neg (by show ¬ (k ≠ k ∨ k ≠ k); omega), if_pos]
 refine ⟨in_list (by simp [boC]) hs, ?_, ?_⟩
 ·unfold okL
  rw [decide_eq_true_eq]
  intro r hr
  exact in_list (l := (bX A B (nAt (bL A B k) r)).map fun p => ix p (bL A B k)) (by simp [boC]) (hn r hr)
 ·unfold okL
  rw [decide_eq_true_eq]
  intro r hr
  exact in_list (l := bFS A B k r) rfl (hf r)
theorem gr_of {w' : World} {base n c : Nat} {na : Option Addr} {T : Nat → List Nat} {V : List Value} (h : Rws2 w' base (.slice na n c) n T V) : Gr w' na n (fun r => (T r).length) (fun r j => (((T r).getD j 0 : Nat) : Int)) := by
 have htop := h.top
 refine ⟨(match na with | some a => a.block | none => 0), 0, fun hh => ?_, fun r hr => ?_⟩
 ·rcases htop.2 with ⟨e, hz⟩ | ⟨g2, cap, cur, e, _⟩
  ·omega
  ·cases e; rfl
 ·obtain ⟨v, e1, e2⟩ := h.row r hr
  obtain ⟨a, cc, rfl, b2, o2, r1, r2⟩ := owns_row e2
  refine ⟨a, cc, ?_, ?_⟩
  ·rcases htop.2 with ⟨e, hz⟩ | ⟨g2, cap, cur, e, _⟩
   ·omega
   ·cases e
    have := htop.cells (g := g2) rfl r _ e1
    rw [Addr.add_mid, Nat.zero_add] at this
    rw [Nat.zero_add, this, cs_len]
  ·rw [cs_len] at r1 r2
   exact ⟨b2, o2, r1, fun i hi => by have := r2 i hi; simp only [cs_at] at this; exact this⟩
theorem Gr.len {w : World} {a : Option Addr} {n : Nat} {L L' : Nat → Nat} {Z Z' : Nat → Nat → Int} (h : Gr w a n L Z) (hl : ∀ r, L r = L' r) (hz : ∀ r i, Z r i = Z' r i) : Gr w a n L' Z' := by
 obtain rfl : L = L' := funext hl
 obtain rfl : Z = Z' := funext fun r => funext (hz r)
 exact h
theorem aw_of_bo {w' : World} {A B : Ax} {w : World} (hA : Aw w A) (hB : Aw w B) (h1A : chkA A = 0) (h1B : chkA B = 0) (hK : ¬ 80 < A.K + B.K) {k base : Nat} {sa na ma oa fa : Option Addr} {sc nc mc oc fc : Nat} {V VF : List Value} (hk : (bL A B k).length = k) (hk2 : k ≤ 2048)
  (h1 : w'.ownsRow base 3 1 (.slice sa (cs ((bS A B).map fun p => ix p (bL A B k))).length sc) (cs ((bS A B).map fun p => ix p (bL A B k))).length (vals (cs ((bS A B).map fun p => ix p (bL A B k)))))
  (h2 : Rws2 w' base (.slice na k nc) k (fun i => (bX A B (nAt (bL A B k) i)).map fun p => ix p (bL A B k)) V)
  (h3 : w'.ownsRow base 48 1 (.slice ma k mc) k (vu (fun i => A.Mu (nAt (bL A B k) i).1 ||| B.Mu (nAt (bL A B k) i).2) k)) (h4 : w'.ownsRow base 48 1 (.slice oa k oc) k (vu (fun i => A.No (nAt (bL A B k) i).1 ||| B.No (nAt (bL A B k) i).2) k))
  (h5 : Rws2 w' base (.slice fa (A.K + B.K) fc) (A.K + B.K) (bFS A B k) VF) :
  Aw w' { boC A B k with sa := sa, sc := sc, na := na, nc := nc, ma := ma, mc := mc, oa := oa, oc := oc, fa := fa, fc := fc } := by
 have hrow : ∀ {b : Nat} {a : Option Addr} {c : Nat} {l : List Nat}, w'.ownsRow b 3 1 (.slice a (cs l).length c) (cs l).length (vals (cs l)) → Row w' a l.length (fun i => ((l.getD i 0 : Nat) : Int)) := fun {b a c l} hh => by
  obtain ⟨a2, c2, e, b2, o2, r1, r2⟩ := owns_row hh
  cases e
  rw [cs_len] at r1 r2
  exact ⟨b2, o2, r1, fun i hi => by have := r2 i hi; simp only [cs_at] at this; exact this⟩
 have hall := bL_all h1A h1B k
 obtain ⟨hGA, hKA, hMA, hOA, _⟩ := chkA_ok h1A
 obtain ⟨hGB, hKB, hMB, hOB, _⟩ := chkA_ok h1B
 have hsq : ∀ {a b c : Nat}, c ≤ a * b → a ≤ 2048 → b ≤ 2048 → c ≤ 140737488355328 := fun {a b c} h1 h2 h3 => Nat.le_trans h1 (Nat.le_trans (Nat.mul_le_mul h2 h3) (by decide))
 have hp : ∀ i, i < k → bP A B (nAt (bL A B k) i) := fun i hi => hall _ (nAt_mem (by omega))
 refine ⟨?_, ?_, ?_, ?_, ?_, ?_, by show k ≤ _; omega, fun r _ => ?_, by show k ≤ _; omega, by show k ≤ _; omega, by show A.K + B.K ≤ _; omega, fun r _ => ?_, fun i hi => or_small (hA.mu _ ?_) (hB.mu _ ?_), fun i hi => or_small (hA.no _ ?_) (hB.no _ ?_)⟩
 ·have := hrow h1
  rw [List.length_map] at this
  exact this
 ·exact (gr_of h2).len (fun r => by show ((bX A B (nAt (bL A B k) r)).map _).length = (bX A B (nAt (bL A B k) r)).length; rw [List.length_map]) (fun r i => rfl)
 ·obtain ⟨a, c, e, hr⟩ := owns_rowU h3
  cases e
  exact hr
 ·obtain ⟨a, c, e, hr⟩ := owns_rowU h4
  cases e
  exact hr
 ·exact gr_of h5
 ·show (bS A B).length ≤ _
  exact hsq (crs_len _ _ _) (aSt_len h1A) (aSt_len h1B)
 ·show (bX A B (nAt (bL A B k) r)).length ≤ _
  exact hsq (crs_len _ _ _) (aNx_len h1A _) (aNx_len h1B _)
 ·show (bFS A B k r).length ≤ _
  have := whN_len (fun i => bFr A B r (nAt (bL A B k) i)) k
  unfold bFS
  omega
 ·have := (hp i hi).1; omega
 ·have := (hp i hi).2; omega
 ·have := (hp i hi).1; omega
 ·have := (hp i hi).2; omega
theorem both_c (A B : Ax) (w : World) (hA : Aw w A) (hB : Aw w B) (hT : Tb w) : Calls Tryz.prog 12 #[.agg #[.slice A.sa A.sn A.sc, .slice A.na A.G A.nc, .slice A.ma A.M A.mc, .slice A.oa A.O A.oc, .slice A.fa A.K A.fc], .agg #[.slice B.sa B.sn B.sc, .slice B.na B.G B.nc, .slice B.ma B.M B.mc, .slice B.oa B.O B.oc, .slice B.fa B.K B.fc]] w fun e w' => ∃ (C : Ax) (er : Int), e = .returned (.tuple #[.agg #[.slice C.sa C.sn C.sc, .slice C.na C.G C.nc, .slice C.ma C.M C.mc, .slice C.oa C.O C.oc, .slice C.fa C.K C.fc], .int .i64 er]) ∧
  Hid (Below w.heap.size w w' ∧ (er ≠ 0 → C.G = 0) ∧ (er = 0 → chkA A = 0 ∧ chkA B = 0 ∧ chkA C = 0 ∧ Aw w' C ∧ ∀ o, (autA C).Acc o ↔ ((autA A).Acc o ∧ (autA B).Acc o))) := by
 refine (both_any A B w hA hB hT).mono ?_
 rintro e w' (⟨h0, rfl, hb⟩ | ⟨h0, h1, rfl, hb⟩ | ⟨h0, h1, h2, rfl, hb⟩ | ⟨h0, h1, hK, k, sv, nv, mv, ov, fv, V, VF, hk, hk2, rfl, hb, r1, r2, r3, r4, r5⟩)
 ·exact ⟨nilA, chkA A, rfl, hid ⟨hb, fun _ => rfl, fun e => absurd e h0⟩⟩
 ·exact ⟨nilA, chkA B, rfl, hid ⟨hb, fun _ => rfl, fun e => absurd e h1⟩⟩
 ·exact ⟨nilA, 2, rfl, hid ⟨hb, fun _ => rfl, fun e => by cases e⟩⟩
 ·obtain ⟨sa, sc, rfl⟩ := owns_sl r1
  obtain ⟨na, nc, rfl⟩ := owns_sl r2.top
  obtain ⟨ma, mc, rfl⟩ := owns_sl r3
  obtain ⟨oa, oc, rfl⟩ := owns_sl r4
  obtain ⟨fa, fc, rfl⟩ := owns_sl r5.top
  refine ⟨{ boC A B k with sa := sa, sc := sc, na := na, nc := nc, ma := ma, mc := mc, oa := oa, oc := oc, fa := fa, fc := fc }, 0, ?_, hid ⟨hb, fun e => absurd rfl e, fun _ => ⟨h0, h1, bo_chk hK hk hk2, aw_of_bo hA hB h0 h1 hK hk hk2 r1 r2 r3 r4 r5, fun o => bo_acc h0 h1 hk o⟩⟩⟩
  rw [cs_len, List.length_map]
  rfl
end Go.Proofs.YtmdpbaobihdgkaaGreatDoor
namespace Go.Proofs.YtmdpbaobihdgkaaGreatDoor
open Go.RowKit
set_option maxHeartbeats 4000000 in
theorem tableauNots_walk {w : World} {t : Fml} {a sa la : Option Addr} {cap s sc m lc : Nat} {S L : Nat → Int} (hF : Fw w t a sa s sc la m lc S L) (hT : Tb w) :
  Calls Tryz.prog 4 #[.agg #[.int .i64 t.kind, .int .i64 t.num, .slice a t.cnt cap], .agg #[.slice sa s sc, .slice la m lc]] w fun e w' => e = .returned (.bool true) ∧ Below w.heap.size w w' := by
 obtain ⟨u, hu⟩ : ∃ y, y = (w.alloc (.cells #[.int .i64 t.kind, .int .i64 t.num, .slice a t.cnt cap] 24)).alloc (.cells #[.slice sa s sc, .slice la m lc] 27) := ⟨_, rfl⟩
 have hB : Below w.heap.size w u := by rw [hu]; exact below_alloc2 _ _ _
 have hbx : Bfw u w.heap.size (w.heap.size + 1) (.int .i64 t.kind) (.int .i64 t.num) (.slice a t.cnt cap) (.slice sa s sc) (.slice la m lc) := by
  rw [hu]
  exact ⟨alloc_old _ (Go.Deep.blk_alloc_new _ _), alloc_last _ (by simp)⟩
 have C6 := hid (made6 (hF.below hB).kc (tb_below hT hB))
 have HU := hid hu
 have HB := hid hB
 have HF := hid hF
 have HT := hid hT
 have HBX := hid hbx
 have HTz : Hid (∀ z, Below w.heap.size w z → Tb z) := hid (fun z hz => tb_below HT.out hz)
 have CW : Hid (∀ z, Calls Tryz.prog 11 #[.agg #[.slice sa s sc, .slice la m lc]] z fun e w' => e = .returned (.int .i64 (wchk s m)) ∧ Below z.heap.size z w') := hid (fun z => wcheck_any sa s sc la m lc z HF.out.wd.s47 HF.out.wd.m47)
 have CA : Hid (∀ (C : Ax) (z : World), Aw z C → Below w.heap.size w z → Calls Tryz.prog 9 #[.agg #[.slice C.sa C.sn C.sc, .slice C.na C.G C.nc, .slice C.ma C.M C.mc, .slice C.oa C.O C.oc, .slice C.fa C.K C.fc], .agg #[.slice sa s sc, .slice la m lc]] z fun e w' => AcIs C s m S L e ∧ Below z.heap.size z w') := hid (fun C z hC hz => accepts_any C sa s sc la m lc S L z hC (HF.out.below hz).wd (HTz.out z hz))
 clear hu hB hF hT hbx
 go_enter Tryz.func4, Tryz.ntmps4
 go_wp2_with fail
 rw [← HU.out]
 refine C6.out.mono ?_
 rintro e w1 ⟨rfl, hb1⟩
 have HB1 := hid (HB.out.trans (hb1.mono HB.out.size))
 have HX1 := hid (HBX.out.below hb1)
 have HF1 := hid (HF.out.below HB1.out)
 have C7 := hid (make7 (cap := cap) HF1.out.kc HF1.out.kds HF1.out.cnt)
 obtain ⟨⟨x0, x1, x2⟩, x3, x4⟩ := HX1.out.cells
 clear C6 hb1
 go_wp2_with fail
 refine C7.out.mono ?_
 rintro e w2 ⟨A, rfl, hA, hb2, hno, hTb⟩
 have HA := hid (And.intro hA (And.intro hno hTb))
 simp only [Ax.val]
 obtain ⟨w3, hw3, hbb, hbo⟩ := box5p w2 A
 obtain ⟨b3, hb3⟩ : ∃ q, q = w2.heap.size := ⟨_, rfl⟩
 rw [← hb3] at hbo
 have h13 := hb2.trans (hbb.mono hb2.size)
 have HB3 := hid (HB1.out.trans (h13.mono HB1.out.size))
 have HX3 := hid (HX1.out.below h13)
 have HA3 := hid (hA.below hbb)
 have HBo3 := hid hbo
 have C10 := hid (one_f 4 t a cap w3 (HF.out.below HB3.out).kds HF.out.cnt)
 have HW3 := hid (And.intro hw3 hb3)
 clear C7 hA hno hTb hb2 hw3 hb3 hbb hbo h13 x0 x1 x2 x3 x4 HX1
 obtain ⟨⟨x0, x1, x2⟩, x3, x4⟩ := HX3.out.cells
 go_upto_region 4 with fail
 rw [HW3.out.1, ← HW3.out.2]
 go_wp2_with fail
 refine C10.out.mono ?_
 rintro e w4 ⟨a4, c4, rfl, hk4, hb4⟩
 have HB4 := hid (HB3.out.trans (hb4.mono HB3.out.size))
 have HX4 := hid (HX3.out.below hb4)
 have HA4 := hid (HA3.out.below hb4)
 have HBo4 := hid (HBo3.out.below hb4)
 have C7b := hid (make7 (t := on 4 t) (cap := c4) (HF.out.below HB4.out).kc hk4 (show 1 ≤ 9223372036854775807 by decide))
 clear C10 hk4 hb4 x0 x1 x2 x3 x4 HX3 HA3 HBo3
 go_wp2_with fail
 refine C7b.out.mono ?_
 rintro e w5 ⟨B, rfl, hA, hb5, hno, hTb⟩
 have HBt := hid (And.intro hno hTb)
 simp only [Ax.val]
 obtain ⟨w6, hw6, hbb, hbo⟩ := box5p w5 B
 obtain ⟨b6, hb6⟩ : ∃ q, q = w5.heap.size := ⟨_, rfl⟩
 rw [← hb6] at hbo
 have h46 := hb5.trans (hbb.mono hb5.size)
 have HB6 := hid (HB4.out.trans (h46.mono HB4.out.size))
 have HX6 := hid (HX4.out.below h46)
 have HA6 := hid (HA4.out.below h46)
 have HBo6 := hid (HBo4.out.below h46)
 have HAb6 := hid (hA.below hbb)
 have HBb6 := hid hbo
 have HW6 := hid (And.intro hw6 hb6)
 clear C7b hA hno hTb hb5 hw6 hb6 hbb hbo h46 HX4 HA4 HBo4
 obtain ⟨⟨x0, x1, x2⟩, x3, x4⟩ := HX6.out.cells
 go_upto_region 5 with fail
 rw [HW6.out.1, ← HW6.out.2]
 by_cases h1 : mkE t = 0
 ·by_cases h2 : mkE (on 4 t) = 0
  ·by_cases h3 : wchk s m = 0
   ·have CW6 := hid (CW.out w6)
    rw [h3] at CW6
    have HH := hid (And.intro h1 (And.intro h2 (And.intro h3 (And.intro (HA.out.2.2 h1) (HBt.out.2 h2)))))
    have HL0 := hid (ltr_pos HF.out.wd (wchk_ok h3).2)
    rw [h1, h2]
    clear h1 h2 h3
    go_wp2_with fail
    refine CW6.out.mono ?_
    rintro e w7 ⟨rfl, hb7⟩
    have HB7 := hid (HB6.out.trans (hb7.mono HB6.out.size))
    have HX7 := hid (HX6.out.below hb7)
    have HA7 := hid (HA6.out.below hb7)
    have HAb7 := hid (HAb6.out.below hb7)
    have HBo7 := hid (HBo6.out.below hb7)
    have HBb7 := hid (HBb6.out.below hb7)
    have C9a := hid (CA.out A w7 HA7.out HB7.out)
    clear hb7 CW6 x0 x1 x2 x3 x4 HX6 HA6 HAb6 HBo6 HBb6
    obtain ⟨⟨x0, x1, x2⟩, x3, x4⟩ := HX7.out.cells
    obtain ⟨r0, r1, r2, r3, r4⟩ := HBo7.out
    go_wp2_with fail
    refine C9a.out.mono ?_
    rintro e w8 ⟨hac, hb8⟩
    obtain ⟨x, rfl, _, hx⟩ := mk_takes HH.out.1 HH.out.2.2.2.1 HF.out.wd hac
    have HXx := hid (hx HH.out.2.2.1)
    rw [HH.out.2.2.1]
    have HB8 := hid (HB7.out.trans (hb8.mono HB7.out.size))
    have HX8 := hid (HX7.out.below hb8)
    have HA8 := hid (HA7.out.below hb8)
    have HAb8 := hid (HAb7.out.below hb8)
    have HBo8 := hid (HBo7.out.below hb8)
    have HBb8 := hid (HBb7.out.below hb8)
    have C9b := hid (CA.out B w8 HAb8.out HB8.out)
    clear hac hx hb8 C9a x0 x1 x2 x3 x4 r0 r1 r2 r3 r4 HX7 HA7 HAb7 HBo7 HBb7
    obtain ⟨⟨x0, x1, x2⟩, x3, x4⟩ := HX8.out.cells
    obtain ⟨r0, r1, r2, r3, r4⟩ := HBb8.out
    go_wp2_with fail
    refine C9b.out.mono ?_
    rintro e w9 ⟨hac, hb9⟩
    obtain ⟨y, rfl, _, hy⟩ := mk_takes HH.out.2.1 HH.out.2.2.2.2 HF.out.wd hac
    have hyx : y = !x := by
     have q1 := HXx.out
     have q2 := hy HH.out.2.2.1
     rw [hold_not] at q2
     rw [Bool.eq_iff_iff, q2, ← q1]
     cases x <;> simp
    subst hyx
    rw [HH.out.2.2.1]
    have HB9 := hid (HB8.out.trans (hb9.mono HB8.out.size))
    have HX9 := hid (HX8.out.below hb9)
    have HA9 := hid (HA8.out.below hb9)
    have HAb9 := hid (HAb8.out.below hb9)
    have HBo9 := hid (HBo8.out.below hb9)
    have HBb9 := hid (HBb8.out.below hb9)
    have C12 := hid (both_c A B w9 HA9.out HAb9.out (HTz.out w9 HB9.out))
    clear hac hy hb9 C9b x0 x1 x2 x3 x4 r0 r1 r2 r3 r4 HX8 HA8 HAb8 HBo8 HBb8
    obtain ⟨⟨x0, x1, x2⟩, x3, x4⟩ := HX9.out.cells
    obtain ⟨r0, r1, r2, r3, r4⟩ := HBo9.out
    obtain ⟨s0, s1, s2, s3, s4⟩ := HBb9.out
    go_wp2_with fail
    refine C12.out.mono ?_
    rintro e w10 ⟨C, er, rfl, HC⟩
    obtain ⟨w11, hw11, hbb, hbo⟩ := box5p w10 C
    obtain ⟨b11, hb11⟩ : ∃ q, q = w10.heap.size := ⟨_, rfl⟩
    rw [← hb11] at hbo
    have h911 := HC.out.1.trans (hbb.mono HC.out.1.size)
    have HB11 := hid (HB9.out.trans (h911.mono HB9.out.size))
    have HX11 := hid (HX9.out.below h911)
    have HBo11 := hid hbo
    have HBB := hid hbb
    have HW11 := hid (And.intro hw11 hb11)
    clear C12 hw11 hb11 hbb hbo h911 HX9 x0 x1 x2 x3 x4 r0 r1 r2 r3 r4 s0 s1 s2 s3 s4
    obtain ⟨⟨x0, x1, x2⟩, x3, x4⟩ := HX11.out.cells
    obtain ⟨r0, r1, r2, r3, r4⟩ := HBo11.out
    go_upto_region 10 with fail
    rw [HW11.out.1, ← HW11.out.2]
    by_cases he : er = 0
    ·subst he
     obtain ⟨_, _, hcC, hAC, hcc⟩ := HC.out.2.2 rfl
     have C9c := hid (CA.out C w11 (hAC.below HBB.out) HB11.out)
     have HCC := hid (And.intro hcC hcc)
     clear hcC hAC hcc
     go_wp2_with fail
     refine C9c.out.mono ?_
     rintro e w12 ⟨⟨z, rfl, _, hz⟩, hb12⟩
     have hee : erA C s m = 0 := by rw [erA, if_pos HCC.out.1]; exact HH.out.2.2.1
     have hzf : z = false := by
      cases hzv : z
      ·rfl
      ·have q := (HCC.out.2 _).1 ((hz hee).1 hzv)
       have q1 := (mk_acc HH.out.1 HH.out.2.2.2.1 HL0.out).1 q.1
       have q2 := (mk_acc HH.out.2.1 HH.out.2.2.2.2 HL0.out).1 q.2
       rw [hold_not] at q2
       exact absurd q1 q2
     subst hzf
     have HB12 := hid (HB11.out.trans (hb12.mono HB11.out.size))
     clear hz hee hb12 C9c
     cases x
     all_goals
      go_wp2
      go_ret
      exact ⟨rfl, HB12.out⟩
    ·have heb : (er != 0) = true := bne_iff_ne.2 he
     clear he
     cases x
     all_goals
      go_wp2
      go_ret
      exact ⟨rfl, HB11.out⟩
   ·have CW6 := hid (CW.out w6)
    have h3b : (wchk s m != 0) = true := bne_iff_ne.2 h3
    rw [h1, h2]
    generalize wchk s m = wc at *
    clear h1 h2 h3
    go_wp2_with fail
    refine CW6.out.mono ?_
    rintro e w7 ⟨rfl, hb7⟩
    have HB7 := hid (HB6.out.trans (hb7.mono HB6.out.size))
    clear hb7 CW6
    go_wp2
    go_ret
    exact ⟨rfl, HB7.out⟩
  ·have h2b : (mkE (on 4 t) != 0) = true := bne_iff_ne.2 h2
   rw [h1]
   generalize mkE (on 4 t) = er at *
   clear h1 h2
   go_wp2
   go_ret
   exact ⟨rfl, HB6.out⟩
 ·have h1b : (mkE t != 0) = true := bne_iff_ne.2 h1
  generalize mkE t = er at *
  generalize mkE (on 4 t) = er2 at *
  clear h1
  go_wp2
  go_ret
  exact ⟨rfl, HB6.out⟩
end Go.Proofs.YtmdpbaobihdgkaaGreatDoor
