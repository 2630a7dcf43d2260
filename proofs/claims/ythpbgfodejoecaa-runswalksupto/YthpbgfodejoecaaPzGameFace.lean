
import Derived.Deep.RegionHeld3
import Derived.Deep.Cut
import Derived.Laws.BitsLemmas
import Derived.Laws.AppendOwnNone
import Derived.Deep.AppendLies
import Derived.Deep.RegionLaw
import Derived.RegionTactic
import Derived.Deep.OwnRows
import Derived.Maps.AppendAt
import Derived.WalkKit
import Derived.WalkSpells
import Derived.WalkLawsBesides
import Derived.Deep.QuietTactic
import Derived.BigQuiet
import Derived.Deep.Quiet
import Derived.Deep.RegionHeld
import Derived.Test.YthpbgfodejoecaaBfs
import Derived.Test.YthpbgfodejoecaaTurnJ
import Derived.Test.YthpbgfodejoecaaDist2
import Derived.Test.YthpbgfodejoecaaExpl
import Derived.Test.YthpbgfodejoecaaExpl2
import Derived.Test.YthpbgfodejoecaaLeafJ
import Derived.Test.YthpbgfodejoecaaGame
import Derived.Test.YthpbgfodejoecaaHeldJ
import Derived.Test.YthpbgfodejoecaaGameEnJ
import Derived.Test.YthpbgfodejoecaaGameFace
import Derived.Test.YthpbgfodejoecaaGameFire
import Derived.Test.YthpbgfodejoecaaGameLay
import Derived.Test.YthpbgfodejoecaaGameMay
import Derived.Test.YthpbgfodejoecaaGameStep
import Derived.Test.YthpbgfodejoecaaGameWalk
import Derived.Test.YthpbgfodejoecaaLast
import Derived.Test.YthpbgfodejoecaaReachJ
import Derived.Test.YthpbgfodejoecaaWScNumberJ
import Derived.Test.YthpbgfodejoecaaProc
import Derived.Test.YthpbgfodejoecaaProc2
import Derived.Test.YthpbgfodejoecaaProc3
import Derived.Test.YthpbgfodejoecaaProc4
import Derived.Test.YthpbgfodejoecaaProc5
import Derived.Test.YthpbgfodejoecaaSndLeafJ
import Derived.Test.YthpbgfodejoecaaProc7
import Derived.Test.YthpbgfodejoecaaSpExpl
import Derived.Test.YthpbgfodejoecaaSpFaceJ
import Derived.Test.YthpbgfodejoecaaSpKey
import Derived.Test.YthpbgfodejoecaaSpMem
import Derived.Test.YthpbgfodejoecaaSpRev
import Derived.Test.YthpbgfodejoecaaSpSpread
import Derived.Test.YthpbgfodejoecaaSteps
import Derived.Test.YthpbgfodejoecaaStepsLeaf
import Derived.Test.YthpbgfodejoecaaStepsOf
import Derived.Test.YthpbgfodejoecaaStepsOf2
import Derived.Test.YthpbgfodejoecaaPzProc8J
/- Begin, Enabled, Fire: of a board, of a process. -/
namespace Go.Proofs.Ythpbgfodejoecaa
open Go.RowKit

/-- The error of a call with a marking. -/
def mkE (E : Int) (ok : Bool) : Int := if E = 0 then (if ok = true then 0 else 1) else E

theorem mkE_bad {E : Int} {ok : Bool} (h : E ≠ 0) : mkE E ok = E := by unfold mkE; rw [if_neg h]
theorem fi_tuple {K A B : Nat → Int} {F : Nat} {l : List St3} {m : Nat → Int} {step : Int} {e : Ending} {w : World} {b0 : Nat} (h : FiIs b0 K A B F l m step e w) : ∃ v1 v2, e = .returned (.tuple #[v1, v2]) := by
  rcases h with ⟨_, rfl⟩ | ⟨_, ⟨_, rfl⟩ | ⟨_, _, rfl⟩ | ⟨_, _, a, c, _, rfl, _⟩⟩ <;> exact ⟨_, _, rfl⟩

/-- No error, and the list Z. -/
def Lst (n : Nat) (Z : Nat → Int) (e : Ending) (w : World) : Prop := ∃ a c, e = .returned (.tuple #[.slice a n c, .int .i64 0]) ∧ Row w a n Z

/-- No error, and the marking Z, in memory of its own. -/
def Mrk (n : Nat) (Z : Nat → Int) (e : Ending) (w : World) : Prop := ∃ g c, e = .returned (.tuple #[.slice (some ⟨g, 0, none⟩) n c, .int .i64 0]) ∧ Mk w g n Z

set_option maxHeartbeats 1000000 in
theorem beginF_any {na fa : Option Addr} {N nc F fc : Nat} {M : Nat → ByteArray} {K A B : Nat → Int} {e0 : Int} {w : World} (hp : Prc w na N nc fa F M K A B) (he : ChkIs N F M K A B e0) :
    Calls Try.prog 46 #[.agg #[.slice na N nc, .slice fa F fc]] w fun e w' => Below w.heap.size w w' ∧ Ans (spE e0 (stAll K A B F N).length) (Mrk F (bgn K A)) e w' := by
  obtain ⟨W, eW⟩ : ∃ x, x = w.alloc (.cells #[.slice na N nc, .slice fa F fc] 25) := ⟨_, rfl⟩
  have HW : Hid (Below w.heap.size w W) := by subst eW; exact box_below _ _
  have HEW : Hid (w.alloc (.cells #[.slice na N nc, .slice fa F fc] 25) = W) := eW.symm
  have C1 : Hid (Calls Try.prog 43 #[.agg #[.slice na N nc, .slice fa F fc]] W fun e w' => Below W.heap.size W w' ∧ LyIs W.heap.size (spE e0 (stAll K A B F N).length) N F M K A B e w') := lay_any (hp.below HW.out) he
  clear eW hp he
  generalize hEE : spE e0 (stAll K A B F N).length = E at *
  go_enter Try.func46, Try.ntmps46
  go_wp2_with fail
  rw [HEW.out]
  refine C1.out.mono ?_
  rintro e w1 ⟨hb1, hs1⟩
  have HBw1 : Hid (Below w.heap.size w w1) := HW.out.trans (hb1.mono HW.out.size)
  clear hb1 C1
  rcases hs1 with ⟨h1, rfl⟩ | ⟨h1, na, nc, fa, fc, sa, sc, ib, ob, _, _, rfl, hbrd⟩
  · have hz' : (E != 0) = true := by rw [bne_iff_ne]; exact h1
    have HZ : Hid (E ≠ 0) := h1
    clear h1
    go_wp2
    go_ret2
    exact ⟨HBw1.out.alloc HBw1.out.size _, Or.inl ⟨HZ.out, rfl⟩⟩
  · subst h1
    obtain ⟨W2, eW2⟩ : ∃ x, x = w1.alloc (.cells #[.slice na N nc, .slice fa F fc, .slice sa (stAll K A B F N).length sc, .slice (some ⟨ib, 0, none⟩) N N, .slice (some ⟨ob, 0, none⟩) N N] 94) := ⟨_, rfl⟩
    have HW2 : Hid (Below w1.heap.size w1 W2) := by subst eW2; exact box_below _ _
    have HEW2 : Hid (w1.alloc (.cells #[.slice na N nc, .slice fa F fc, .slice sa (stAll K A B F N).length sc, .slice (some ⟨ib, 0, none⟩) N N, .slice (some ⟨ob, 0, none⟩) N N] 94) = W2) := eW2.symm
    have C2 : Hid (Calls Try.prog 69 #[.agg #[.slice na N nc, .slice fa F fc, .slice sa (stAll K A B F N).length sc, .slice (some ⟨ib, 0, none⟩) N N, .slice (some ⟨ob, 0, none⟩) N N]] W2 fun e w' => Below W2.heap.size W2 w' ∧ ∃ g, e = .returned (.slice (some ⟨g, 0, none⟩) F F) ∧ w'.rowIs g 3 F (fun i => .int .i64 (bgn K A i))) := begin_any (hbrd.below HW2.out)
    clear eW2 hbrd
    go_wp2_with fail
    rw [HEW2.out]
    refine C2.out.mono ?_
    rintro e w2 ⟨hb2, g, rfl, hrow⟩
    have HF : Hid (Below w.heap.size w w2 ∧ Mk w2 g F (bgn K A)) := ⟨HBw1.out.trans ((HW2.out.trans (hb2.mono HW2.out.size)).mono HBw1.out.size), F, _, Nat.le_refl _, hrow, fun _ _ => rfl⟩
    clear hb2 hrow C2
    go_wp2
    go_ret2
    exact ⟨HF.out.1, Or.inr ⟨rfl, g, F, rfl, HF.out.2⟩⟩

theorem enabledB_any {na fa sa ia oa : Option Addr} {N nc F fc sc ic oc : Nat} {M : Nat → ByteArray} {K A B : Nat → Int} {l : List St3} {w : World} (h : Brd w na N nc fa F sa ia oa M K A B l) {ma : Option Addr} {mc : Nat} {m : Nat → Int} (hm : Row w ma F m) (h9 : ∀ i, i < F → 0 ≤ m i ∧ m i ≤ 9)
    (X : Nat → Int) (hX : ∀ i, i < l.length → (X i = 1 ↔ enb K A B F m (l.getD i (0, 0, 0)))) :
    Calls Try.prog 44 #[.agg #[.slice na N nc, .slice fa F fc, .slice sa l.length sc, .slice ia N ic, .slice oa N oc], .slice ma F mc] w fun e w' => Below w.heap.size w w' ∧ Lst (tally X 1 l.length) (fun i => (fl X 1 l.length).getD i 0) e w' :=
  (enabledB_own h hm h9 X hX).mono fun _ _ ⟨h1, a, c, h2, h3⟩ => ⟨h1, a, c, h2, fl_row h3⟩

set_option maxHeartbeats 1000000 in
theorem enabledB_bad {na fa sa ia oa : Option Addr} {N nc F fc sc ic oc Sn In On : Nat} {w : World} {ma : Option Addr} {n mc : Nat} {m : Nat → Int} (hn : n ≤ 140737488355328) (hm : Row w ma n m) (hk : mkOk F n m = false) :
    Calls Try.prog 44 #[.agg #[.slice na N nc, .slice fa F fc, .slice sa Sn sc, .slice ia In ic, .slice oa On oc], .slice ma n mc] w fun e w' => Below w.heap.size w w' ∧ e = .returned (.tuple #[.slice none 0 0, .int .i64 1]) := by
  obtain ⟨W0, eW0⟩ : ∃ u, u = w.alloc (.cells #[.slice na N nc, .slice fa F fc, .slice sa Sn sc, .slice ia In ic, .slice oa On oc] 94) := ⟨_, rfl⟩
  have HW0 : Hid (Below w.heap.size w W0) := by subst eW0; exact box_below _ _
  have HEW0 : Hid (w.alloc (.cells #[.slice na N nc, .slice fa F fc, .slice sa Sn sc, .slice ia In ic, .slice oa On oc] 94) = W0) := eW0.symm
  have HOk : Hid (mkOk F n m = false) := hk
  have C0 : Hid (Calls Try.prog 74 #[.agg #[.slice na N nc, .slice fa F fc, .slice sa Sn sc, .slice ia In ic, .slice oa On oc], .slice ma n mc] W0 fun e w' => e = .returned (.bool (mkOk F n m)) ∧ Below W0.heap.size W0 w') := isMarking_any _ _ _ _ _ N nc F fc _ sc _ ic _ oc _ n mc m W0 hn (hm.below HW0.out)
  clear eW0 hm hk
  go_enter Try.func44, Try.ntmps44
  go_wp2_with fail
  rw [HEW0.out]
  refine C0.out.mono ?_
  rintro e w0 ⟨he, hb0⟩
  rw [HOk.out] at he
  subst he
  have HB0 : Hid (Below w.heap.size w w0) := HW0.out.trans (hb0.mono HW0.out.size)
  clear hb0 C0
  go_wp2
  go_ret2
  exact ⟨HB0.out, rfl⟩

theorem ans_all {E : Int} {ok : Bool} {P : Ending → World → Prop} {e : Ending} {w : World} (hE : E = 0) (h : (ok = false ∧ e = .returned (.tuple #[.slice none 0 0, .int .i64 1])) ∨ (ok = true ∧ P e w)) : Ans (mkE E ok) P e w := by
  subst hE
  rcases h with ⟨rfl, h⟩ | ⟨rfl, h⟩
  · exact Or.inl ⟨by decide, h⟩
  · exact Or.inr ⟨rfl, h⟩

theorem lst_tuple {n : Nat} {Z : Nat → Int} {e : Ending} {w : World} (h : Lst n Z e w) : ∃ v1 v2, e = .returned (.tuple #[v1, v2]) := by
  obtain ⟨a, c, rfl, _⟩ := h
  exact ⟨_, _, rfl⟩

set_option maxHeartbeats 1000000 in
theorem fireF_any {na fa : Option Addr} {N nc F fc : Nat} {M : Nat → ByteArray} {K A B : Nat → Int} {e0 : Int} {w : World} (hp : Prc w na N nc fa F M K A B) (he : ChkIs N F M K A B e0) {ma : Option Addr} {n mc : Nat} {m : Nat → Int} (hn : n ≤ 140737488355328) (hm : Row w ma n m) (step : Int) :
    Calls Try.prog 48 #[.agg #[.slice na N nc, .slice fa F fc], .slice ma n mc, .int .i64 step] w fun e w' => Below w.heap.size w w' ∧
      Ans (mkE (spE e0 (stAll K A B F N).length) (mkOk F n m)) (FiIs w.heap.size K A B F (stAll K A B F N) m step) e w' := by
  have HM : Hid (Row w ma n m) := hm
  obtain ⟨W, eW⟩ : ∃ x, x = w.alloc (.cells #[.slice na N nc, .slice fa F fc] 25) := ⟨_, rfl⟩
  have HW : Hid (Below w.heap.size w W) := by subst eW; exact box_below _ _
  have HEW : Hid (w.alloc (.cells #[.slice na N nc, .slice fa F fc] 25) = W) := eW.symm
  have C1 : Hid (Calls Try.prog 43 #[.agg #[.slice na N nc, .slice fa F fc]] W fun e w' => Below W.heap.size W w' ∧ LyIs W.heap.size (spE e0 (stAll K A B F N).length) N F M K A B e w') := lay_any (hp.below HW.out) he
  clear eW hp he hm
  generalize hEE : spE e0 (stAll K A B F N).length = E at *
  go_enter Try.func48, Try.ntmps48
  go_wp2_with fail
  rw [HEW.out]
  refine C1.out.mono ?_
  rintro e w1 ⟨hb1, hs1⟩
  have HBw1 : Hid (Below w.heap.size w w1) := HW.out.trans (hb1.mono HW.out.size)
  clear hb1 C1
  rcases hs1 with ⟨h1, rfl⟩ | ⟨h1, na, nc, fa, fc, sa, sc, ib, ob, _, _, rfl, hbrd⟩
  · have hz' : (E != 0) = true := by rw [bne_iff_ne]; exact h1
    have HZ : Hid (E ≠ 0) := h1
    clear h1
    go_wp2
    go_ret2
    exact ⟨HBw1.out.alloc HBw1.out.size _, by rw [mkE_bad HZ.out]; exact Or.inl ⟨HZ.out, rfl⟩⟩
  · subst h1
    obtain ⟨W2, eW2⟩ : ∃ x, x = w1.alloc (.cells #[.slice na N nc, .slice fa F fc, .slice sa (stAll K A B F N).length sc, .slice (some ⟨ib, 0, none⟩) N N, .slice (some ⟨ob, 0, none⟩) N N] 94) := ⟨_, rfl⟩
    have HW2 : Hid (Below w1.heap.size w1 W2) := by subst eW2; exact box_below _ _
    have HEW2 : Hid (w1.alloc (.cells #[.slice na N nc, .slice fa F fc, .slice sa (stAll K A B F N).length sc, .slice (some ⟨ib, 0, none⟩) N N, .slice (some ⟨ob, 0, none⟩) N N] 94) = W2) := eW2.symm
    have HBw2 : Hid (Below w.heap.size w W2) := HBw1.out.trans (HW2.out.mono HBw1.out.size)
    have C2 : Hid (Calls Try.prog 76 #[.agg #[.slice na N nc, .slice fa F fc, .slice sa (stAll K A B F N).length sc, .slice (some ⟨ib, 0, none⟩) N N, .slice (some ⟨ob, 0, none⟩) N N], .slice ma n mc, .int .i64 step] W2 fun e w' => Below W2.heap.size W2 w' ∧ ((mkOk F n m = false ∧ e = .returned (.tuple #[.slice none 0 0, .int .i64 1])) ∨ (mkOk F n m = true ∧ (FiIs W2.heap.size K A B F (stAll K A B F N) m step) e w'))) := by
      cases hok : mkOk F n m
      · exact (fire_bad hn (HM.out.below HBw2.out) hok step).mono fun e w' hh => ⟨hh.1, Or.inl ⟨rfl, hh.2⟩⟩
      · obtain ⟨rfl, h9⟩ := mkOk_all hok
        exact (fire_any (hbrd.below HW2.out) (HM.out.below HBw2.out) h9 step).mono fun e w' hh => ⟨hh.1, Or.inr ⟨rfl, hh.2⟩⟩
    clear eW2 hbrd
    go_wp2_with fail
    rw [HEW2.out]
    refine C2.out.mono ?_
    rintro e w2 ⟨hb2, hf⟩
    have hf2 : ∃ v1 v2, e = .returned (.tuple #[v1, v2]) := by
      rcases hf with ⟨_, rfl⟩ | ⟨_, hf⟩
      · exact ⟨_, _, rfl⟩
      · exact fi_tuple hf
    obtain ⟨v1, v2, rfl⟩ := hf2
    have HF : Hid (Below w.heap.size w w2 ∧ Ans (mkE 0 (mkOk F n m)) (FiIs w.heap.size K A B F (stAll K A B F N) m step) (.returned (.tuple #[v1, v2])) w2) := ⟨HBw2.out.trans (hb2.mono HBw2.out.size), ans_all rfl (hf.imp id (fun h => ⟨h.1, h.2.mono HBw2.out.size⟩))⟩
    clear hb2 hf C2
    go_wp2
    go_ret2
    exact HF.out

set_option maxHeartbeats 1000000 in
theorem enabledF_any {na fa : Option Addr} {N nc F fc : Nat} {M : Nat → ByteArray} {K A B : Nat → Int} {e0 : Int} {w : World} (hp : Prc w na N nc fa F M K A B) (he : ChkIs N F M K A B e0) {ma : Option Addr} {n mc : Nat} {m : Nat → Int} (hn : n ≤ 140737488355328) (hm : Row w ma n m)
    (X : Nat → Int) (hX : ∀ i, i < (stAll K A B F N).length → (X i = 1 ↔ enb K A B F m ((stAll K A B F N).getD i (0, 0, 0)))) :
    Calls Try.prog 16 #[.agg #[.slice na N nc, .slice fa F fc], .slice ma n mc] w fun e w' => Below w.heap.size w w' ∧
      Ans (mkE (spE e0 (stAll K A B F N).length) (mkOk F n m)) (Lst (tally X 1 (stAll K A B F N).length) (fun i => (fl X 1 (stAll K A B F N).length).getD i 0)) e w' := by
  have HM : Hid (Row w ma n m) := hm
  have HX : Hid (∀ i, i < (stAll K A B F N).length → (X i = 1 ↔ enb K A B F m ((stAll K A B F N).getD i (0, 0, 0)))) := hX
  clear hX
  obtain ⟨W, eW⟩ : ∃ x, x = w.alloc (.cells #[.slice na N nc, .slice fa F fc] 25) := ⟨_, rfl⟩
  have HW : Hid (Below w.heap.size w W) := by subst eW; exact box_below _ _
  have HEW : Hid (w.alloc (.cells #[.slice na N nc, .slice fa F fc] 25) = W) := eW.symm
  have C1 : Hid (Calls Try.prog 43 #[.agg #[.slice na N nc, .slice fa F fc]] W fun e w' => Below W.heap.size W w' ∧ LyIs W.heap.size (spE e0 (stAll K A B F N).length) N F M K A B e w') := lay_any (hp.below HW.out) he
  clear eW hp he hm
  generalize hEE : spE e0 (stAll K A B F N).length = E at *
  go_enter Try.func16, Try.ntmps16
  go_wp2_with fail
  rw [HEW.out]
  refine C1.out.mono ?_
  rintro e w1 ⟨hb1, hs1⟩
  have HBw1 : Hid (Below w.heap.size w w1) := HW.out.trans (hb1.mono HW.out.size)
  clear hb1 C1
  rcases hs1 with ⟨h1, rfl⟩ | ⟨h1, na, nc, fa, fc, sa, sc, ib, ob, _, _, rfl, hbrd⟩
  · have hz' : (E != 0) = true := by rw [bne_iff_ne]; exact h1
    have HZ : Hid (E ≠ 0) := h1
    clear h1
    go_wp2
    go_ret2
    exact ⟨HBw1.out.alloc HBw1.out.size _, by rw [mkE_bad HZ.out]; exact Or.inl ⟨HZ.out, rfl⟩⟩
  · subst h1
    obtain ⟨W2, eW2⟩ : ∃ x, x = w1.alloc (.cells #[.slice na N nc, .slice fa F fc, .slice sa (stAll K A B F N).length sc, .slice (some ⟨ib, 0, none⟩) N N, .slice (some ⟨ob, 0, none⟩) N N] 94) := ⟨_, rfl⟩
    have HW2 : Hid (Below w1.heap.size w1 W2) := by subst eW2; exact box_below _ _
    have HEW2 : Hid (w1.alloc (.cells #[.slice na N nc, .slice fa F fc, .slice sa (stAll K A B F N).length sc, .slice (some ⟨ib, 0, none⟩) N N, .slice (some ⟨ob, 0, none⟩) N N] 94) = W2) := eW2.symm
    have HBw2 : Hid (Below w.heap.size w W2) := HBw1.out.trans (HW2.out.mono HBw1.out.size)
    have C2 : Hid (Calls Try.prog 44 #[.agg #[.slice na N nc, .slice fa F fc, .slice sa (stAll K A B F N).length sc, .slice (some ⟨ib, 0, none⟩) N N, .slice (some ⟨ob, 0, none⟩) N N], .slice ma n mc] W2 fun e w' => Below W2.heap.size W2 w' ∧ ((mkOk F n m = false ∧ e = .returned (.tuple #[.slice none 0 0, .int .i64 1])) ∨ (mkOk F n m = true ∧ (Lst (tally X 1 (stAll K A B F N).length) (fun i => (fl X 1 (stAll K A B F N).length).getD i 0)) e w'))) := by
      cases hok : mkOk F n m
      · exact (enabledB_bad hn (HM.out.below HBw2.out) hok).mono fun e w' hh => ⟨hh.1, Or.inl ⟨rfl, hh.2⟩⟩
      · obtain ⟨rfl, h9⟩ := mkOk_all hok
        exact (enabledB_any (hbrd.below HW2.out) (HM.out.below HBw2.out) h9 X HX.out).mono fun e w' hh => ⟨hh.1, Or.inr ⟨rfl, hh.2⟩⟩
    clear eW2 hbrd
    go_wp2_with fail
    rw [HEW2.out]
    refine C2.out.mono ?_
    rintro e w2 ⟨hb2, hf⟩
    have hf2 : ∃ v1 v2, e = .returned (.tuple #[v1, v2]) := by
      rcases hf with ⟨_, rfl⟩ | ⟨_, hf⟩
      · exact ⟨_, _, rfl⟩
      · exact lst_tuple hf
    obtain ⟨v1, v2, rfl⟩ := hf2
    have HF : Hid (Below w.heap.size w w2 ∧ Ans (mkE 0 (mkOk F n m)) (Lst (tally X 1 (stAll K A B F N).length) (fun i => (fl X 1 (stAll K A B F N).length).getD i 0)) (.returned (.tuple #[v1, v2])) w2) := ⟨HBw2.out.trans (hb2.mono HBw2.out.size), ans_all rfl (hf.imp id (fun h => ⟨h.1, h.2⟩))⟩
    clear hb2 hf C2
    go_wp2
    go_ret2
    exact HF.out

end Go.Proofs.Ythpbgfodejoecaa
