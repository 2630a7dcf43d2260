/- What Both answers, as an automaton. The law AutoPairs. -/
import Derived.Test.YtdncjikmknkkpaaDoorBotJ
import Derived.Test.YtdncjikmknkkpaaDoorAutoWordsWalkJ
namespace Go.Proofs.YtdncjikmknkkpaaDoor
open Go.RowKit Go.Shelf Go.Maps

theorem sub_iff {l m : Nat} : l &&& m = m ↔ ∀ i, m.testBit i = true → l.testBit i = true := by
  constructor
  · intro h i hi
    rw [← h, Nat.testBit_and, Bool.and_eq_true] at hi
    exact hi.1
  · intro h
    apply Nat.eq_of_testBit_eq
    intro i
    rw [Nat.testBit_and]
    cases e : m.testBit i
    · simp
    · rw [h i e]; rfl
theorem dis_iff {l n : Nat} : l &&& n = 0 ↔ ∀ i, l.testBit i = true → n.testBit i = false := by
  constructor
  · intro h i hi
    have : (l &&& n).testBit i = false := by rw [h]; simp
    rw [Nat.testBit_and, hi] at this
    simpa using this
  · intro h
    apply Nat.eq_of_testBit_eq
    intro i
    rw [Nat.testBit_and, Nat.zero_testBit]
    cases e : l.testBit i
    · rfl
    · rw [h i e]; rfl
theorem fts_iff {l m n : Nat} : fts l m n = true ↔ (∀ i, m.testBit i = true → l.testBit i = true) ∧ ∀ i, l.testBit i = true → n.testBit i = false := by
  unfold fts
  rw [Bool.and_eq_true, beq_iff_eq, beq_iff_eq, sub_iff, dis_iff]
theorem fts_or {l m1 m2 n1 n2 : Nat} : fts l (m1 ||| m2) (n1 ||| n2) = true ↔ fts l m1 n1 = true ∧ fts l m2 n2 = true := by
  simp only [fts_iff, Nat.testBit_or, Bool.or_eq_true, Bool.or_eq_false_iff]
  exact ⟨fun h => ⟨⟨fun i hi => h.1 i (Or.inl hi), fun i hi => (h.2 i hi).1⟩, ⟨fun i hi => h.1 i (Or.inr hi), fun i hi => (h.2 i hi).2⟩⟩,
    fun h => ⟨fun i hi => hi.elim (h.1.1 i) (h.2.1 i), fun i hi => ⟨h.1.2 i hi, h.2.2 i hi⟩⟩⟩
theorem okB_of {A B : Ax} {x y l : Nat} (h1 : fts l (A.Mu x) (A.No x) = true) (h2 : fts l (B.Mu y) (B.No y) = true) : okB A B x y = true := by
  obtain ⟨a1, a2⟩ := fts_iff.1 h1
  obtain ⟨b1, b2⟩ := fts_iff.1 h2
  unfold okB
  rw [Bool.and_eq_true, decide_eq_true_eq, decide_eq_true_eq]
  refine ⟨dis_iff.2 fun i hi => b2 i (a1 i hi), ?_⟩
  rw [Nat.and_comm]
  exact dis_iff.2 fun i hi => a2 i (b1 i hi)

/-- The automaton that Both answers. -/
def boC (A B : Ax) (k : Nat) : Ax where
  sa := none
  sn := (bS A B).length
  sc := 0
  na := none
  G := k
  nc := 0
  ma := none
  M := k
  mc := 0
  oa := none
  O := k
  oc := 0
  fa := none
  K := A.K + B.K
  fc := 0
  S := fun i => ((((bS A B).map fun p => ix p (bL A B k)).getD i 0 : Nat) : Int)
  L := fun i => (bX A B (nAt (bL A B k) i)).length
  Z := fun i j => ((((bX A B (nAt (bL A B k) i)).map fun p => ix p (bL A B k)).getD j 0 : Nat) : Int)
  Mu := fun i => A.Mu (nAt (bL A B k) i).1 ||| B.Mu (nAt (bL A B k) i).2
  No := fun i => A.No (nAt (bL A B k) i).1 ||| B.No (nAt (bL A B k) i).2
  FL := fun i => (bFS A B k i).length
  FZ := fun i j => (((bFS A B k i).getD j 0 : Nat) : Int)

theorem bo_acc {A B : Ax} (hA : chkA A = 0) (hB : chkA B = 0) {k : Nat} (hk : (bL A B k).length = k) (o : Nat → Int) : (autA (boC A B k)).Acc o ↔ ((autA A).Acc o ∧ (autA B).Acc o) := by
  have hall := bL_all hA hB k
  have hp : ∀ i, i < k → bP A B (nAt (bL A B k) i) := fun i hi => hall _ (nAt_mem (by omega))
  have key : Pairs (autA A) (autA B) { autA (boC A B k) with lt := fun i l => (autA A).lt (nAt (bL A B k) i).1 l ∧ (autA B).lt (nAt (bL A B k) i).2 l } (nAt (bL A B k)) (bL A B k).length := by
    refine both_pairs (ok := okB A B) (aS := aSt A) (bS := aSt B) (aN := aNx A) (bN := aNx B) (f := k) (L := bL A B k) rfl (by omega) (fun x => (mem_aSt hA).symm) (fun x => (mem_aSt hB).symm) (fun x y => (mem_aNx hA).symm) (fun x y => (mem_aNx hB).symm) (fun x y l h1 h2 => okB_of h1.2 h2.2) (fun i => ?_) (fun i j => ?_) (fun i l => Iff.rfl) rfl (fun r hr i hi => ?_) (fun r hr i hi => ?_)
    · show has (bS A B).length (boC A B k).S i = true ↔ _
      rw [mem_nNums]
      refine (has_list (l := (bS A B).map fun p => ix p (bL A B k)) (by simp)).trans ?_
      rw [List.mem_map]
      rfl
    · show i < k ∧ has (bX A B (nAt (bL A B k) i)).length ((boC A B k).Z i) j = true ↔ _
      rw [mem_nNums, hk]
      refine and_congr_right fun _ => ((has_list (l := (bX A B (nAt (bL A B k) i)).map fun p => ix p (bL A B k)) (by simp)).trans ?_)
      rw [List.mem_map]
      rfl
    · show has (bFS A B k r).length ((boC A B k).FZ r) i = true ↔ aFr A r (nAt (bL A B k) i).1 = true
      have hr' : r < A.K := hr
      refine (has_list (l := bFS A B k r) rfl).trans ?_
      unfold bFS
      rw [mem_whN]
      unfold bFr
      rw [if_pos hr']
      exact ⟨fun h => h.2, fun h => ⟨by omega, h⟩⟩
    · show has (bFS A B k (A.K + r)).length ((boC A B k).FZ (A.K + r)) i = true ↔ aFr B r (nAt (bL A B k) i).2 = true
      refine (has_list (l := bFS A B k (A.K + r)) rfl).trans ?_
      unfold bFS
      rw [mem_whN]
      unfold bFr
      rw [if_neg (by omega), Nat.add_sub_cancel_left]
      exact ⟨fun h => h.2, fun h => ⟨by omega, h⟩⟩
  refine Iff.trans ⟨?_, ?_⟩ (pairs_acc key o)
  · rintro ⟨r, hr⟩
    refine ⟨r, hr.st, hr.nx, fun j => ?_, hr.fr⟩
    obtain ⟨h1, h2⟩ := hr.lt j
    have h1' : r j < k := h1
    obtain ⟨h3, h4⟩ := fts_or.1 h2
    exact ⟨⟨(hp _ h1').1, h3⟩, ⟨(hp _ h1').2, h4⟩⟩
  · rintro ⟨r, hr⟩
    have hb := run_big key hr
    refine ⟨r, hr.st, hr.nx, fun j => ?_, hr.fr⟩
    obtain ⟨h1, h2⟩ := hr.lt j
    exact ⟨by show r j < k; have := hb j; omega, fts_or.2 ⟨h1.2, h2.2⟩⟩

theorem bo_chk {A B : Ax} {k : Nat} (hK : ¬ 80 < A.K + B.K) (hk : (bL A B k).length = k) (hk2 : k ≤ 2048) : chkA (boC A B k) = 0 := by
  have hs : ∀ x ∈ (bS A B).map (fun p => ix p (bL A B k)), x < k := fun x hx => by
    obtain ⟨p, hp, rfl⟩ := List.mem_map.1 hx
    have : ix p (bL A B k) < (bL A B k).length := ix_lt (nAll_start (nx := bX A B) (f := k) hp)
    omega
  have hn : ∀ i, i < k → ∀ x ∈ (bX A B (nAt (bL A B k) i)).map (fun p => ix p (bL A B k)), x < k := fun i hi x hx => by
    obtain ⟨p, hp, rfl⟩ := List.mem_map.1 hx
    have h1 : nAt (bL A B k) i ∈ bL A B k := nAt_mem (by omega)
    have : ix p (bL A B k) < (bL A B k).length := ix_lt (nAll_next (nx := bX A B) (f := k) (start := bS A B) (by show (bL A B k).length ≤ k; omega) h1 hp)
    omega
  have hf : ∀ r, ∀ x ∈ bFS A B k r, x < k := fun r x hx => (mem_whN.1 hx).1
  unfold chkA
  rw [if_neg (by show ¬ (2048 < k ∨ 80 < A.K + B.K); omega), if_neg (by show ¬ (k ≠ k ∨ k ≠ k); omega), if_pos]
  refine ⟨in_list (by simp [boC]) hs, ?_, ?_⟩
  · unfold okL
    rw [decide_eq_true_eq]
    intro r hr
    exact in_list (l := (bX A B (nAt (bL A B k) r)).map fun p => ix p (bL A B k)) (by simp [boC]) (hn r hr)
  · unfold okL
    rw [decide_eq_true_eq]
    intro r hr
    exact in_list (l := bFS A B k r) rfl (hf r)

theorem gr_of {w' : World} {base n c : Nat} {na : Option Addr} {T : Nat → List Nat} {V : List Value} (h : Rws2 w' base (.slice na n c) n T V) : Gr w' na n (fun r => (T r).length) (fun r j => (((T r).getD j 0 : Nat) : Int)) := by
  have htop := h.top
  refine ⟨(match na with | some a => a.block | none => 0), 0, fun hh => ?_, fun r hr => ?_⟩
  · rcases htop.2 with ⟨e, hz⟩ | ⟨g2, cap, cur, e, _⟩
    · omega
    · cases e; rfl
  · obtain ⟨v, e1, e2⟩ := h.row r hr
    obtain ⟨a, cc, rfl, b2, o2, r1, r2⟩ := owns_row e2
    refine ⟨a, cc, ?_, ?_⟩
    · rcases htop.2 with ⟨e, hz⟩ | ⟨g2, cap, cur, e, _⟩
      · omega
      · cases e
        have := htop.cells (g := g2) rfl r _ e1
        rw [Addr.add_mid, Nat.zero_add] at this
        rw [Nat.zero_add, this, cs_len]
    · rw [cs_len] at r1 r2
      exact ⟨b2, o2, r1, fun i hi => by have := r2 i hi; simp only [cs_at] at this; exact this⟩

theorem Gr.len {w : World} {a : Option Addr} {n : Nat} {L L' : Nat → Nat} {Z Z' : Nat → Nat → Int} (h : Gr w a n L Z) (hl : ∀ r, L r = L' r) (hz : ∀ r i, Z r i = Z' r i) : Gr w a n L' Z' := by
  obtain rfl : L = L' := funext hl
  obtain rfl : Z = Z' := funext fun r => funext (hz r)
  exact h

theorem aw_of_bo {w' : World} {A B : Ax} {w : World} (hA : Aw w A) (hB : Aw w B) (h1A : chkA A = 0) (h1B : chkA B = 0) (hK : ¬ 80 < A.K + B.K) {k base : Nat} {sa na ma oa fa : Option Addr} {sc nc mc oc fc : Nat} {V VF : List Value} (hk : (bL A B k).length = k) (hk2 : k ≤ 2048)
    (h1 : w'.ownsRow base 3 1 (.slice sa (cs ((bS A B).map fun p => ix p (bL A B k))).length sc) (cs ((bS A B).map fun p => ix p (bL A B k))).length (vals (cs ((bS A B).map fun p => ix p (bL A B k)))))
    (h2 : Rws2 w' base (.slice na k nc) k (fun i => (bX A B (nAt (bL A B k) i)).map fun p => ix p (bL A B k)) V)
    (h3 : w'.ownsRow base 51 1 (.slice ma k mc) k (vu (fun i => A.Mu (nAt (bL A B k) i).1 ||| B.Mu (nAt (bL A B k) i).2) k)) (h4 : w'.ownsRow base 51 1 (.slice oa k oc) k (vu (fun i => A.No (nAt (bL A B k) i).1 ||| B.No (nAt (bL A B k) i).2) k))
    (h5 : Rws2 w' base (.slice fa (A.K + B.K) fc) (A.K + B.K) (bFS A B k) VF) :
    Aw w' { boC A B k with sa := sa, sc := sc, na := na, nc := nc, ma := ma, mc := mc, oa := oa, oc := oc, fa := fa, fc := fc } := by
  have hrow : ∀ {b : Nat} {a : Option Addr} {c : Nat} {l : List Nat}, w'.ownsRow b 3 1 (.slice a (cs l).length c) (cs l).length (vals (cs l)) → Row w' a l.length (fun i => ((l.getD i 0 : Nat) : Int)) := fun {b a c l} hh => by
    obtain ⟨a2, c2, e, b2, o2, r1, r2⟩ := owns_row hh
    cases e
    rw [cs_len] at r1 r2
    exact ⟨b2, o2, r1, fun i hi => by have := r2 i hi; simp only [cs_at] at this; exact this⟩
  have hall := bL_all h1A h1B k
  obtain ⟨hGA, hKA, hMA, hOA, _⟩ := chkA_ok h1A
  obtain ⟨hGB, hKB, hMB, hOB, _⟩ := chkA_ok h1B
  have hsq : ∀ {a b c : Nat}, c ≤ a * b → a ≤ 2048 → b ≤ 2048 → c ≤ 140737488355328 := fun {a b c} h1 h2 h3 => Nat.le_trans h1 (Nat.le_trans (Nat.mul_le_mul h2 h3) (by decide))
  have hp : ∀ i, i < k → bP A B (nAt (bL A B k) i) := fun i hi => hall _ (nAt_mem (by omega))
  refine ⟨?_, ?_, ?_, ?_, ?_, ?_, by show k ≤ _; omega, fun r _ => ?_, by show k ≤ _; omega, by show k ≤ _; omega, by show A.K + B.K ≤ _; omega, fun r _ => ?_, fun i hi => or_small (hA.mu _ ?_) (hB.mu _ ?_), fun i hi => or_small (hA.no _ ?_) (hB.no _ ?_)⟩
  · have := hrow h1
    rw [List.length_map] at this
    exact this
  · exact (gr_of h2).len (fun r => by show ((bX A B (nAt (bL A B k) r)).map _).length = (bX A B (nAt (bL A B k) r)).length; rw [List.length_map]) (fun r i => rfl)
  · obtain ⟨a, c, e, hr⟩ := owns_rowU h3
    cases e
    exact hr
  · obtain ⟨a, c, e, hr⟩ := owns_rowU h4
    cases e
    exact hr
  · exact gr_of h5
  · show (bS A B).length ≤ _
    exact hsq (crs_len _ _ _) (aSt_len h1A) (aSt_len h1B)
  · show (bX A B (nAt (bL A B k) r)).length ≤ _
    exact hsq (crs_len _ _ _) (aNx_len h1A _) (aNx_len h1B _)
  · show (bFS A B k r).length ≤ _
    have := whN_len (fun i => bFr A B r (nAt (bL A B k) i)) k
    unfold bFS
    omega
  · have := (hp i hi).1; omega
  · have := (hp i hi).2; omega
  · have := (hp i hi).1; omega
  · have := (hp i hi).2; omega

/-- What Both answers, as an automaton in memory. -/
theorem both_c (A B : Ax) (w : World) (hA : Aw w A) (hB : Aw w B) (hT : Tb w) : Calls Tryd.prog 13 #[.agg #[.slice A.sa A.sn A.sc, .slice A.na A.G A.nc, .slice A.ma A.M A.mc, .slice A.oa A.O A.oc, .slice A.fa A.K A.fc], .agg #[.slice B.sa B.sn B.sc, .slice B.na B.G B.nc, .slice B.ma B.M B.mc, .slice B.oa B.O B.oc, .slice B.fa B.K B.fc]] w fun e w' => ∃ (C : Ax) (er : Int), e = .returned (.tuple #[.agg #[.slice C.sa C.sn C.sc, .slice C.na C.G C.nc, .slice C.ma C.M C.mc, .slice C.oa C.O C.oc, .slice C.fa C.K C.fc], .int .i64 er]) ∧
    Hid (Below w.heap.size w w' ∧ (er ≠ 0 → C.G = 0) ∧ (er = 0 → chkA A = 0 ∧ chkA B = 0 ∧ chkA C = 0 ∧ Aw w' C ∧ ∀ o, (autA C).Acc o ↔ ((autA A).Acc o ∧ (autA B).Acc o))) := by
  refine (both_any A B w hA hB hT).mono ?_
  rintro e w' (⟨h0, rfl, hb⟩ | ⟨h0, h1, rfl, hb⟩ | ⟨h0, h1, h2, rfl, hb⟩ | ⟨h0, h1, hK, k, sv, nv, mv, ov, fv, V, VF, hk, hk2, rfl, hb, r1, r2, r3, r4, r5⟩)
  · exact ⟨nilA, chkA A, rfl, hid ⟨hb, fun _ => rfl, fun e => absurd e h0⟩⟩
  · exact ⟨nilA, chkA B, rfl, hid ⟨hb, fun _ => rfl, fun e => absurd e h1⟩⟩
  · exact ⟨nilA, 2, rfl, hid ⟨hb, fun _ => rfl, fun e => by cases e⟩⟩
  · obtain ⟨sa, sc, rfl⟩ := owns_sl r1
    obtain ⟨na, nc, rfl⟩ := owns_sl r2.top
    obtain ⟨ma, mc, rfl⟩ := owns_sl r3
    obtain ⟨oa, oc, rfl⟩ := owns_sl r4
    obtain ⟨fa, fc, rfl⟩ := owns_sl r5.top
    refine ⟨{ boC A B k with sa := sa, sc := sc, na := na, nc := nc, ma := ma, mc := mc, oa := oa, oc := oc, fa := fa, fc := fc }, 0, ?_, hid ⟨hb, fun e => absurd rfl e, fun _ => ⟨h0, h1, bo_chk hK hk hk2, aw_of_bo hA hB h0 h1 hK hk hk2 r1 r2 r3 r4 r5, fun o => bo_acc h0 h1 hk o⟩⟩⟩
    rw [cs_len, List.length_map]
    rfl

end Go.Proofs.YtdncjikmknkkpaaDoor

namespace Go.Proofs.YtdncjikmknkkpaaDoor
open Go.RowKit Go.Shelf

theorem pr_world (w : World) (A B : Ax) (wsa : Option Addr) (s wsc : Nat) (wla : Option Addr) (m wlc : Nat) : ∃ W, ((w.alloc (.cells #[.slice A.sa A.sn A.sc, .slice A.na A.G A.nc, .slice A.ma A.M A.mc, .slice A.oa A.O A.oc, .slice A.fa A.K A.fc] 26)).alloc (.cells #[.slice B.sa B.sn B.sc, .slice B.na B.G B.nc, .slice B.ma B.M B.mc, .slice B.oa B.O B.oc, .slice B.fa B.K B.fc] 26)).alloc (.cells #[.slice wsa s wsc, .slice wla m wlc] 28) = W ∧
    Below w.heap.size w W ∧ W.heap.size = w.heap.size + 3 ∧ Bo W w.heap.size A ∧ Bo W (w.heap.size + 1) B ∧ W.cell? ⟨w.heap.size + 1 + 1, 0, none⟩ = some (.slice wsa s wsc) ∧ W.cell? ⟨w.heap.size + 1 + 1, 1, none⟩ = some (.slice wla m wlc) := by
  obtain ⟨W1, hW1, hb1, h1⟩ := box5p w A
  have s1 : W1.heap.size = w.heap.size + 1 := by rw [← hW1]; simp
  rw [hW1]
  obtain ⟨W2, hW2, hb2, h2⟩ := box5p W1 B
  have s2 : W2.heap.size = w.heap.size + 1 + 1 := by rw [← hW2]; simp [s1]
  rw [hW2]
  rw [s1] at h2
  have hb3 := box_below W2 (.cells #[.slice wsa s wsc, .slice wla m wlc] 28)
  have c0 : (W2.alloc (.cells #[.slice wsa s wsc, .slice wla m wlc] 28)).cell? ⟨W2.heap.size, 0, none⟩ = some (.slice wsa s wsc) := cell_of_alloc rfl
  have c1 : (W2.alloc (.cells #[.slice wsa s wsc, .slice wla m wlc] 28)).cell? ⟨W2.heap.size, 1, none⟩ = some (.slice wla m wlc) := cell_of_alloc rfl
  rw [s2] at c0 c1
  exact ⟨_, rfl, (hb1.trans (hb2.mono (by omega))).trans (hb3.mono (by omega)), by simp [s2], (h1.below hb2).below hb3, h2.below hb3, c0, c1⟩

set_option maxRecDepth 100000 in
set_option maxHeartbeats 4000000 in
theorem autoPairs_walk (A B : Ax) (wsa : Option Addr) (s wsc : Nat) (wla : Option Addr) (m wlc : Nat) (S' L' : Nat → Int) (w : World) (hA : Aw w A) (hB : Aw w B) (hw : Wd w wsa s wla m S' L') (hT : Tb w) :
    Calls Tryd.prog 5 #[A.val, B.val, .agg #[.slice wsa s wsc, .slice wla m wlc]] w fun e w' => e = .returned (.bool true) ∧ Below w.heap.size w w' := by
  show Calls Tryd.prog 5 #[.agg #[.slice A.sa A.sn A.sc, .slice A.na A.G A.nc, .slice A.ma A.M A.mc, .slice A.oa A.O A.oc, .slice A.fa A.K A.fc], .agg #[.slice B.sa B.sn B.sc, .slice B.na B.G B.nc, .slice B.ma B.M B.mc, .slice B.oa B.O B.oc, .slice B.fa B.K B.fc], .agg #[.slice wsa s wsc, .slice wla m wlc]] w _
  obtain ⟨W1, hW1, hb1, hs1, hboA, hboB, hc0, hc1⟩ := pr_world w A B wsa s wsc wla m wlc
  have HTz : Hid (∀ z, Below w.heap.size w z → Tb z) := hid (fun z hz j hj => below_cell hz (Nat.le_refl _) (hT j hj))
  have CE := hid (ever_any W1 (HTz.out _ hb1))
  have C13 := hid (fun (z : World) (hz : Below w.heap.size w z) => both_c A B z (hA.below hz) (hB.below hz) (HTz.out z hz))
  have CA : Hid (∀ (C : Ax) (z : World), Aw z C → Below w.heap.size w z → Calls Tryd.prog 9 #[.agg #[.slice C.sa C.sn C.sc, .slice C.na C.G C.nc, .slice C.ma C.M C.mc, .slice C.oa C.O C.oc, .slice C.fa C.K C.fc], .agg #[.slice wsa s wsc, .slice wla m wlc]] z fun e w' => ∃ b, e = .returned (.tuple #[.bool b, .int .i64 (erA C s m)]) ∧ Hid ((erA C s m ≠ 0 → b = false) ∧ (erA C s m = 0 → (b = true ↔ (autA C).Acc (ltr s m S' L'))) ∧ Below z.heap.size z w')) := hid (fun C z hC hz => accepts_b C wsa s wsc wla m wlc S' L' z hC (hw.below hz) (HTz.out z hz))
  have HA := hid hA
  have HB := hid hB
  have HB1 := hid (And.intro hb1 (And.intro hboA (And.intro hboB (And.intro hc0 hc1))))
  obtain ⟨q0, q1, q2, q3, q4⟩ := hboA
  obtain ⟨q5, q6, q7, q8, q9⟩ := hboB
  clear hA hB hw hT hb1
  go_enter Tryd.func5, Tryd.ntmps5
  go_wp2_with fail
  refine CE.out.mono ?_
  rintro e w2 ⟨rfl, hb2⟩
  have HB2 := hid (HB1.out.1.trans (hb2.mono HB1.out.1.size))
  have HBA2 := hid (HB1.out.2.1.below hb2)
  have HBB2 := hid (HB1.out.2.2.1.below hb2)
  obtain ⟨p0, p1, p2, p3, p4⟩ := HBA2.out
  obtain ⟨p5, p6, p7, p8, p9⟩ := HBB2.out
  have d0 := below_cell hb2 (Nat.le_refl _) hc0
  have d1 := below_cell hb2 (Nat.le_refl _) hc1
  clear hb2 q0 q1 q2 q3 q4 q5 q6 q7 q8 q9 hc0 hc1 hs1 CE
  go_wp2_with fail
  refine (C13.out w2 HB2.out).mono ?_
  rintro e w3 ⟨C, er, rfl, HC⟩
  obtain ⟨W4, hW4, hb4, hbo4⟩ := box5 w3 C
  have HB3 : Hid (Below w2.heap.size w2 W4) := hid (HC.out.1.trans (hb4.mono HC.out.1.size))
  have HB4 : Hid (Below w.heap.size w W4) := hid (HB2.out.trans (HB3.out.mono HB2.out.size))
  have HBA4 := hid (HBA2.out.below HB3.out)
  have HBB4 := hid (HBB2.out.below HB3.out)
  obtain ⟨r0, r1, r2, r3, r4⟩ := HBA4.out
  have e0 := below_cell HB3.out (Nat.le_refl _) d0
  have e1 := below_cell HB3.out (Nat.le_refl _) d1
  have C9 := hid (CA.out A W4 (HA.out.below HB4.out) HB4.out)
  obtain ⟨ea, hea⟩ : ∃ ea, erA A s m = ea := ⟨_, rfl⟩
  rw [hea] at C9
  have HEA := hid hea
  have HBO4 := hid hbo4
  have HB43 := hid hb4
  clear d0 d1 p0 p1 p2 p3 p4 p5 p6 p7 p8 p9 hea hbo4 hb4 C13
  go_wp2_with fail
  refine C9.out.mono ?_
  rintro e w5 ⟨x, rfl, HX⟩
  have hb5 := HX.out.2.2
  have HBB5 := hid (HBB4.out.below hb5)
  obtain ⟨s0, s1, s2, s3, s4⟩ := HBB5.out
  have HBO5 := hid (HBO4.out.below hb5)
  have f0 := below_cell hb5 (Nat.le_refl _) e0
  have f1 := below_cell hb5 (Nat.le_refl _) e1
  have HB5 := hid (HB4.out.trans (hb5.mono HB4.out.size))
  have HB54 := hid hb5
  have D9 := hid (CA.out B w5 (HB.out.below HB5.out) HB5.out)
  obtain ⟨eb, heb⟩ : ∃ eb, erA B s m = eb := ⟨_, rfl⟩
  rw [heb] at D9
  have HEB := hid heb
  clear hb5 r0 r1 r2 r3 r4 e0 e1 C9 heb
  go_wp2_with fail
  refine D9.out.mono ?_
  rintro e w6 ⟨y, rfl, HY⟩
  have hb6 := HY.out.2.2
  have HBO6 := hid (HBO5.out.below hb6)
  obtain ⟨c0, c1, c2, c3, c4⟩ := HBO6.out
  have g0 := below_cell hb6 (Nat.le_refl _) f0
  have g1 := below_cell hb6 (Nat.le_refl _) f1
  have HB6 := hid (HB5.out.trans (hb6.mono HB5.out.size))
  have HB65 := hid hb6
  clear hb6 s0 s1 s2 s3 s4 f0 f1 D9
  by_cases h1 : er = 0
  · have hh := HC.out.2.2 h1
    have t1 : (er != 0) = false := by simp [h1]
    have t2 : (er == 0) = true := by simp [h1]
    by_cases h2 : ea = 0
    · have t3 : (ea != 0) = false := by simp [h2]
      by_cases h3 : eb = 0
      · have t4 : (eb != 0) = false := by simp [h3]
        have hC6 : Aw w6 C := ((hh.2.2.2.1.below HB43.out).below HB54.out).below HB65.out
        have F9 := hid (CA.out C w6 hC6 HB6.out)
        have hec : erA C s m = 0 := by
          rw [erA_of hh.2.2.1]
          have := HEA.out
          rw [erA_of hh.1, h2] at this
          exact this
        rw [hec] at F9
        have HHH := hid (And.intro h2 (And.intro h3 (And.intro hh.2.2.2.2 (And.intro hh.2.2.1 hC6))))
        clear h1 h2 h3 hh hec hC6
        go_wp2_with fail
        refine F9.out.mono ?_
        rintro e w7 ⟨z, rfl, HZ⟩
        have hb7 := HZ.out.2.2
        obtain ⟨k0, k1, k2, k3, k4⟩ := HBO6.out.below hb7
        have HB7 := hid (HB6.out.trans (hb7.mono HB6.out.size))
        have C10 : Hid (Calls Tryd.prog 10 #[.agg #[.slice C.sa C.sn C.sc, .slice C.na C.G C.nc, .slice C.ma C.M C.mc, .slice C.oa C.O C.oc, .slice C.fa C.K C.fc]] w7 fun e w' => e = .returned (.int .i64 0) ∧ Below w7.heap.size w7 w') := hid (by rw [← HHH.out.2.2.2.1]; exact chkA_any C w7 (HHH.out.2.2.2.2.below hb7))
        have t5 : (z == (x && y)) = true := by
          have y1 := HZ.out.2.1 trivial
          have y2 := HX.out.2.1 HHH.out.1
          have y3 := HY.out.2.1 HHH.out.2.1
          rw [beq_iff_eq, Bool.eq_iff_iff, Bool.and_eq_true]
          exact y1.trans ((HHH.out.2.2.1 _).trans (and_congr y2.symm y3.symm))
        obtain rfl : z = (x && y) := by simpa using t5
        clear hb7 c0 c1 c2 c3 c4 t5
        cases x <;> cases y
        all_goals
          go_wp2_with fail
          refine C10.out.mono ?_
          rintro e w8 ⟨rfl, hb8⟩
          have HB8 := hid (HB7.out.trans (hb8.mono HB7.out.size))
          clear hb8 C10
          go_wp2
          go_ret
          exact ⟨rfl, HB8.out⟩
      · have t4 : (eb != 0) = true := by simp [h3]
        clear h1 h2 h3 hh
        go_wp2
        go_ret
        exact ⟨rfl, HB6.out⟩
    · have t3 : (ea != 0) = true := by simp [h2]
      clear h1 h2 hh
      go_wp2
      go_ret
      exact ⟨rfl, HB6.out⟩
  · have hG := HC.out.2.1 h1
    have t1 : (er != 0) = true := by simp [h1]
    have t2 : (er == 0) = false := by simp [h1]
    have t3 : ((C.G : Int) == 0) = true := by rw [hG]; rfl
    clear h1 hG
    go_wp2
    go_ret
    exact ⟨rfl, HB6.out⟩

end Go.Proofs.YtdncjikmknkkpaaDoor
