/- The law AutoOne. -/
import Derived.Maps.AppendAt
import Derived.Laws.OwnMore
import Derived.Test.YtdncjikmknkkpaaSgl
import Derived.Test.YtdncjikmknkkpaaAcc
import Derived.Test.YtdncjikmknkkpaaApp
import Derived.Test.YtdncjikmknkkpaaHeld
import Derived.Test.YtdncjikmknkkpaaWlk
namespace Go.Proofs.Ytdncjikmknkkpaa
open Go.RowKit Go.Shelf

theorem aw_of_si {w' : World} {A : Ax} {w : World} (h : Aw w A) (h0 : chkA A = 0) {k base g : Nat} {sa na ma oa ga : Option Addr} {sc nc mc oc gc : Nat} {V : List Value} (hk : (sgL A k).length = k) (hk2 : k ≤ 2048)
    (h1 : w'.ownsRow base 3 1 (.slice sa (cs ((sgS A).map fun p => ix p (sgL A k))).length sc) (cs ((sgS A).map fun p => ix p (sgL A k))).length (vals (cs ((sgS A).map fun p => ix p (sgL A k)))))
    (h2 : Rws2 w' base (.slice na k nc) k (fun i => (sgX A (nAt (sgL A k) i)).map fun p => ix p (sgL A k)) V)
    (h3 : w'.ownsRow base 35 1 (.slice ma k mc) k (vu (fun i => A.Mu (nAt (sgL A k) i).1) k)) (h4 : w'.ownsRow base 35 1 (.slice oa k oc) k (vu (fun i => A.No (nAt (sgL A k) i).1) k))
    (h5 : w'.cell? ⟨g, 0, none⟩ = some (.slice ga (cs (whN (fun i => sgF A (nAt (sgL A k) i)) k)).length gc)) (h6 : w'.ownsRow base 3 1 (.slice ga (cs (whN (fun i => sgF A (nAt (sgL A k) i)) k)).length gc) (cs (whN (fun i => sgF A (nAt (sgL A k) i)) k)).length (vals (cs (whN (fun i => sgF A (nAt (sgL A k) i)) k)))) :
    Aw w' { sgC A k with sa := sa, sc := sc, na := na, nc := nc, ma := ma, mc := mc, oa := oa, oc := oc, fa := some ⟨g, 0, none⟩, fc := 1 } := by
  have hrow : ∀ {b : Nat} {a : Option Addr} {c : Nat} {l : List Nat}, w'.ownsRow b 3 1 (.slice a (cs l).length c) (cs l).length (vals (cs l)) → Row w' a l.length (fun i => ((l.getD i 0 : Nat) : Int)) := fun {b a c l} hh => by
    obtain ⟨a2, c2, e, b2, o2, r1, r2⟩ := owns_row hh
    cases e
    rw [cs_len] at r1 r2
    exact ⟨b2, o2, r1, fun i hi => by have := r2 i hi; simp only [cs_at] at this; exact this⟩
  have hall := sgL_all h0 k
  obtain ⟨hG, hK, hM, hO, _⟩ := chkA_ok h0
  have hlenX : ∀ p, (sgX A p).length ≤ 2048 := fun p => by unfold sgX sNx; rw [List.length_map]; exact aNx_len h0 _
  have hp : ∀ i, i < k → (nAt (sgL A k) i).1 < A.G := fun i hi => (hall _ (nAt_mem (by omega))).1
  refine ⟨?_, ?_, ?_, ?_, ?_, ?_, by show k ≤ _; omega, fun r _ => ?_, by show k ≤ _; omega, by show k ≤ _; omega, by show 1 ≤ _; omega, fun r _ => ?_, fun i hi => h.mu _ ?_, fun i hi => h.no _ ?_⟩
  · have := hrow h1
    rw [List.length_map] at this
    exact this
  · have htop := h2.top
    refine ⟨(match na with | some a => a.block | none => 0), 0, fun hh => ?_, fun r hr => ?_⟩
    · rcases htop.2 with ⟨e, hz⟩ | ⟨g2, cap, cur, e, _⟩
      · have : 0 < k := hh; omega
      · cases e; rfl
    · have hr' : r < k := hr
      obtain ⟨v, e1, e2⟩ := h2.row r hr'
      obtain ⟨a, c, rfl, _⟩ := owns_row e2
      refine ⟨a, c, ?_, ?_⟩
      · rcases htop.2 with ⟨e, hz⟩ | ⟨g2, cap, cur, e, _⟩
        · have : k = 0 := hz; omega
        · cases e
          have := htop.cells (g := g2) rfl r _ e1
          rw [Addr.add_mid, Nat.zero_add] at this
          rw [Nat.zero_add, this]
          show _ = some (Value.slice a (sgX A (nAt (sgL A k) r)).length c)
          rw [cs_len, List.length_map]
      · have := hrow e2
        rw [List.length_map] at this
        exact this
  · obtain ⟨a, c, e, hr⟩ := owns_rowU h3
    cases e
    exact hr
  · obtain ⟨a, c, e, hr⟩ := owns_rowU h4
    cases e
    exact hr
  · refine ⟨g, 0, fun _ => rfl, fun r hr => ?_⟩
    obtain rfl : r = 0 := by have : r < 1 := hr; omega
    rw [Nat.zero_add, h5]
    exact ⟨ga, gc, by rw [cs_len]; rfl, hrow h6⟩
  · show (sgS A).length ≤ _
    unfold sgS
    rw [List.length_map]
    have := aSt_len h0
    omega
  · show (sgX A (nAt (sgL A k) r)).length ≤ _
    have := hlenX (nAt (sgL A k) r)
    omega
  · show (whN (fun i => sgF A (nAt (sgL A k) i)) k).length ≤ _
    have := whN_len (fun i => sgF A (nAt (sgL A k) i)) k
    omega
  · have := hp i hi; omega
  · have := hp i hi; omega

theorem box5 (w : World) (C : Ax) : ∃ W, w.alloc (.cells #[.slice C.sa C.sn C.sc, .slice C.na C.G C.nc, .slice C.ma C.M C.mc, .slice C.oa C.O C.oc, .slice C.fa C.K C.fc] 26) = W ∧ Below w.heap.size w W ∧ Bo W w.heap.size C :=
  ⟨_, rfl, box_below _ _, ⟨cell_of_alloc rfl, cell_of_alloc rfl, cell_of_alloc rfl, cell_of_alloc rfl, cell_of_alloc rfl⟩⟩

end Go.Proofs.Ytdncjikmknkkpaa

