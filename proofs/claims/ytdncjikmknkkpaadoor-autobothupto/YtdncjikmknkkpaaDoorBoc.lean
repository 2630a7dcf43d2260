/- What Both answers, as an automaton. -/
import Derived.Test.YtdncjikmknkkpaaDoorBotJ
import Derived.Test.YtdncjikmknkkpaaDoorAutoOneWalk
namespace Go.Proofs.YtdncjikmknkkpaaDoor
open Go.RowKit Go.Shelf Go.Maps

/-- The automaton that Both answers. -/
def boC (A B : Ax) (k : Nat) : Ax where
  sa := none
  sn := (bS A B).length
  sc := 0
  na := none
  G := k
  nc := 0
  ma := none
  M := k
  mc := 0
  oa := none
  O := k
  oc := 0
  fa := none
  K := A.K + B.K
  fc := 0
  S := fun i => ((((bS A B).map fun p => ix p (bL A B k)).getD i 0 : Nat) : Int)
  L := fun i => (bX A B (nAt (bL A B k) i)).length
  Z := fun i j => ((((bX A B (nAt (bL A B k) i)).map fun p => ix p (bL A B k)).getD j 0 : Nat) : Int)
  Mu := fun i => A.Mu (nAt (bL A B k) i).1 ||| B.Mu (nAt (bL A B k) i).2
  No := fun i => A.No (nAt (bL A B k) i).1 ||| B.No (nAt (bL A B k) i).2
  FL := fun i => (bFS A B k i).length
  FZ := fun i j => (((bFS A B k i).getD j 0 : Nat) : Int)

theorem gr_of {w' : World} {base n c : Nat} {na : Option Addr} {T : Nat → List Nat} {V : List Value} (h : Rws2 w' base (.slice na n c) n T V) : Gr w' na n (fun r => (T r).length) (fun r j => (((T r).getD j 0 : Nat) : Int)) := by
  have htop := h.top
  refine ⟨(match na with | some a => a.block | none => 0), 0, fun hh => ?_, fun r hr => ?_⟩
  · rcases htop.2 with ⟨e, hz⟩ | ⟨g2, cap, cur, e, _⟩
    · omega
    · cases e; rfl
  · obtain ⟨v, e1, e2⟩ := h.row r hr
    obtain ⟨a, cc, rfl, b2, o2, r1, r2⟩ := owns_row e2
    refine ⟨a, cc, ?_, ?_⟩
    · rcases htop.2 with ⟨e, hz⟩ | ⟨g2, cap, cur, e, _⟩
      · omega
      · cases e
        have := htop.cells (g := g2) rfl r _ e1
        rw [Addr.add_mid, Nat.zero_add] at this
        rw [Nat.zero_add, this, cs_len]
    · rw [cs_len] at r1 r2
      exact ⟨b2, o2, r1, fun i hi => by have := r2 i hi; simp only [cs_at] at this; exact this⟩

theorem Gr.len {w : World} {a : Option Addr} {n : Nat} {L L' : Nat → Nat} {Z Z' : Nat → Nat → Int} (h : Gr w a n L Z) (hl : ∀ r, L r = L' r) (hz : ∀ r i, Z r i = Z' r i) : Gr w a n L' Z' := by
  obtain rfl : L = L' := funext hl
  obtain rfl : Z = Z' := funext fun r => funext (hz r)
  exact h

theorem aw_of_bo {w' : World} {A B : Ax} {w : World} (hA : Aw w A) (hB : Aw w B) (h1A : chkA A = 0) (h1B : chkA B = 0) (hK : ¬ 80 < A.K + B.K) {k base : Nat} {sa na ma oa fa : Option Addr} {sc nc mc oc fc : Nat} {V VF : List Value} (hk : (bL A B k).length = k) (hk2 : k ≤ 2048)
    (h1 : w'.ownsRow base 3 1 (.slice sa (cs ((bS A B).map fun p => ix p (bL A B k))).length sc) (cs ((bS A B).map fun p => ix p (bL A B k))).length (vals (cs ((bS A B).map fun p => ix p (bL A B k)))))
    (h2 : Rws2 w' base (.slice na k nc) k (fun i => (bX A B (nAt (bL A B k) i)).map fun p => ix p (bL A B k)) V)
    (h3 : w'.ownsRow base 51 1 (.slice ma k mc) k (vu (fun i => A.Mu (nAt (bL A B k) i).1 ||| B.Mu (nAt (bL A B k) i).2) k)) (h4 : w'.ownsRow base 51 1 (.slice oa k oc) k (vu (fun i => A.No (nAt (bL A B k) i).1 ||| B.No (nAt (bL A B k) i).2) k))
    (h5 : Rws2 w' base (.slice fa (A.K + B.K) fc) (A.K + B.K) (bFS A B k) VF) :
    Aw w' { boC A B k with sa := sa, sc := sc, na := na, nc := nc, ma := ma, mc := mc, oa := oa, oc := oc, fa := fa, fc := fc } := by
  have hrow : ∀ {b : Nat} {a : Option Addr} {c : Nat} {l : List Nat}, w'.ownsRow b 3 1 (.slice a (cs l).length c) (cs l).length (vals (cs l)) → Row w' a l.length (fun i => ((l.getD i 0 : Nat) : Int)) := fun {b a c l} hh => by
    obtain ⟨a2, c2, e, b2, o2, r1, r2⟩ := owns_row hh
    cases e
    rw [cs_len] at r1 r2
    exact ⟨b2, o2, r1, fun i hi => by have := r2 i hi; simp only [cs_at] at this; exact this⟩
  have hall := bL_all h1A h1B k
  obtain ⟨hGA, hKA, hMA, hOA, _⟩ := chkA_ok h1A
  obtain ⟨hGB, hKB, hMB, hOB, _⟩ := chkA_ok h1B
  have hsq : ∀ {a b c : Nat}, c ≤ a * b → a ≤ 2048 → b ≤ 2048 → c ≤ 140737488355328 := fun {a b c} h1 h2 h3 => Nat.le_trans h1 (Nat.le_trans (Nat.mul_le_mul h2 h3) (by decide))
  have hp : ∀ i, i < k → bP A B (nAt (bL A B k) i) := fun i hi => hall _ (nAt_mem (by omega))
  refine ⟨?_, ?_, ?_, ?_, ?_, ?_, by show k ≤ _; omega, fun r _ => ?_, by show k ≤ _; omega, by show k ≤ _; omega, by show A.K + B.K ≤ _; omega, fun r _ => ?_, fun i hi => or_small (hA.mu _ ?_) (hB.mu _ ?_), fun i hi => or_small (hA.no _ ?_) (hB.no _ ?_)⟩
  · have := hrow h1
    rw [List.length_map] at this
    exact this
  · exact (gr_of h2).len (fun r => by show ((bX A B (nAt (bL A B k) r)).map _).length = (bX A B (nAt (bL A B k) r)).length; rw [List.length_map]) (fun r i => rfl)
  · obtain ⟨a, c, e, hr⟩ := owns_rowU h3
    cases e
    exact hr
  · obtain ⟨a, c, e, hr⟩ := owns_rowU h4
    cases e
    exact hr
  · exact gr_of h5
  · show (bS A B).length ≤ _
    exact hsq (crs_len _ _ _) (aSt_len h1A) (aSt_len h1B)
  · show (bX A B (nAt (bL A B k) r)).length ≤ _
    exact hsq (crs_len _ _ _) (aNx_len h1A _) (aNx_len h1B _)
  · show (bFS A B k r).length ≤ _
    have := whN_len (fun i => bFr A B r (nAt (bL A B k) i)) k
    unfold bFS
    omega
  · have := (hp i hi).1; omega
  · have := (hp i hi).2; omega
  · have := (hp i hi).1; omega
  · have := (hp i hi).2; omega

end Go.Proofs.YtdncjikmknkkpaaDoor

