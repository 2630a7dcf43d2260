
import Derived.Deep.RegionHeld3
import Derived.Deep.Cut
import Derived.Laws.BitsLemmas
import Derived.Laws.AppendOwnNone
import Derived.Deep.AppendLies
import Derived.Deep.RegionLaw
import Derived.RegionTactic
import Derived.Deep.OwnRows
import Derived.Maps.AppendAt
import Derived.WalkKit
import Derived.WalkSpells
import Derived.WalkLawsBesides
import Derived.Deep.QuietTactic
import Derived.BigQuiet
import Derived.Deep.Quiet
import Derived.Deep.RegionHeld
import Derived.Test.YthpbgfodejoecaaBfs
import Derived.Test.YthpbgfodejoecaaTurnJ
import Derived.Test.YthpbgfodejoecaaDist2
import Derived.Test.YthpbgfodejoecaaExpl
import Derived.Test.YthpbgfodejoecaaExpl2
import Derived.Test.YthpbgfodejoecaaLeafJ
import Derived.Test.YthpbgfodejoecaaGame
import Derived.Test.YthpbgfodejoecaaHeldJ
import Derived.Test.YthpbgfodejoecaaGameEnJ
import Derived.Test.YthpbgfodejoecaaGameFace
import Derived.Test.YthpbgfodejoecaaGameFire
import Derived.Test.YthpbgfodejoecaaGameLay
import Derived.Test.YthpbgfodejoecaaGameMay
import Derived.Test.YthpbgfodejoecaaGameStep
import Derived.Test.YthpbgfodejoecaaGameWalk
import Derived.Test.YthpbgfodejoecaaLast
import Derived.Test.YthpbgfodejoecaaReachJ
import Derived.Test.YthpbgfodejoecaaWScNumberJ
import Derived.Test.YthpbgfodejoecaaProc
import Derived.Test.YthpbgfodejoecaaProc2
import Derived.Test.YthpbgfodejoecaaProc3
import Derived.Test.YthpbgfodejoecaaProc4
import Derived.Test.YthpbgfodejoecaaProc5
import Derived.Test.YthpbgfodejoecaaSndLeafJ
import Derived.Test.YthpbgfodejoecaaProc7
import Derived.Test.YthpbgfodejoecaaSpExpl
import Derived.Test.YthpbgfodejoecaaSpFaceJ
import Derived.Test.YthpbgfodejoecaaSpKey
import Derived.Test.YthpbgfodejoecaaSpMem
import Derived.Test.YthpbgfodejoecaaSpRev
import Derived.Test.YthpbgfodejoecaaSpSpread
import Derived.Test.YthpbgfodejoecaaSteps
import Derived.Test.YthpbgfodejoecaaStepsLeaf
import Derived.Test.YthpbgfodejoecaaStepsOf
import Derived.Test.YthpbgfodejoecaaStepsOf2
import Derived.Test.YthpbgfodejoecaaPzGameFace
/- Rest, sumOf, walked. -/
namespace Go.Proofs.Ythpbgfodejoecaa
open Go.RowKit

set_option maxHeartbeats 400000 in
theorem rest_any (n m : Int) (w : World) (h0 : 0 < m) (h1 : m ≤ 1000) : Calls Try.prog 47 #[.int .i64 n, .int .i64 m] w fun e w' => (∃ r : Nat, e = .returned (.int .i64 r) ∧ (r : Int) < m) ∧ w' = w := by
  have hm : m ≠ 0 := by omega
  have hlt := Int.tmod_lt_of_pos n h0
  have hgt : -m < Int.tmod n m := by
    have := Int.lt_tmod_of_pos n h0
    omega
  have hmm : (m == 0) = false := beq_eq_false_iff_ne.2 hm
  have hw : IntKind.i64.wrap (Int.tmod n m) = Int.tmod n m := by rw [IntKind.wrap_i64]; omega
  by_cases hr : Int.tmod n m < 0
  · go_enter Try.func47, Try.ntmps47
    go_wp2
    go_ret
    refine ⟨⟨(n.tmod m + m).toNat, ?_, by omega⟩, rfl⟩
    rw [Int.toNat_of_nonneg (by omega)]
    rfl
  · go_enter Try.func47, Try.ntmps47
    go_wp2
    go_ret
    refine ⟨⟨(n.tmod m).toNat, ?_, by omega⟩, rfl⟩
    rw [Int.toNat_of_nonneg (by omega)]
    rfl

theorem pth_zero (K A B : Nat → Int) (F : Nat) (l : List St3) (S : Nat → Nat) : Pth K A B F l 0 (fun _ => bgn K A) S :=
  ⟨rfl, fun _ _ j _ => bgn_ok K A j, fun i hi => by omega⟩

theorem lst_row {w : World} {base n c : Nat} {a : Option Addr} {Z : Nat → Int} (h : w.ownsRow base 3 1 (.slice a n c) n (vals (lst n Z))) : Row w a n Z := by
  have e : (lst n Z).length = n := lst_len n Z
  have h' : w.ownsRow base 3 1 (.slice a n c) (lst n Z).length (vals (lst n Z)) := by rw [e]; exact h
  obtain ⟨a', c', hv, hr⟩ := owns_row h'
  simp only [Value.slice.injEq] at hv
  obtain ⟨rfl, _, _⟩ := hv
  rw [e] at hr
  exact hr.congr (fun i hi => lst_getD n Z i hi)

/-- What walked answers. -/
def WdIs (E : Int) (K A B : Nat → Int) (F : Nat) (l : List St3) (D : Nat) (e : Ending) (w : World) : Prop :=
  (E ≠ 0 ∧ e = .returned (.tuple #[.slice none 0 0, .slice none 0 0])) ∨
    (E = 0 ∧ ∃ (n : Nat) (Ms : Nat → Nat → Int) (S : Nat → Nat) (ga : Option Addr) (gc : Nat) (sa : Option Addr) (sc : Nat), n ≤ D ∧ e = .returned (.tuple #[.slice ga (n + 1) gc, .slice sa n sc]) ∧ Gr w ga (n + 1) (fun _ => F) Ms ∧ Row w sa n (fun i => (S i : Int)) ∧ Pth K A B F l n Ms S)

/-- What 'marks = append(marks, m)' leaves. -/
theorem Wkd.half {W w4 w6 : World} {F k g c : Nat} {v u v' : Value} {Ms : Nat → Nat → Int} {G : Nat → Nat} {Z : Nat → Int} {Vs xs : List Value} {o : Obj} (hb : Below W.heap.size W w4) (h : Mrs w4 W.heap.size v F (k + 1) Ms G) (hV : w4.ownsRow W.heap.size 26 1 v (k + 1) Vs ∧ ∀ i, i < k + 1 → ∃ c, Vs[i]? = some (.slice (some ⟨G i, 0, none⟩) F c)) (hm : Mk w4 g F Z)
    (hu : w4.ownsRow W.heap.size 3 1 u k xs) (hown : w6.ownsRow W.heap.size 26 1 v' (k + 1 + 1) (Vs ++ [.slice (some ⟨g, 0, none⟩) F c])) (hgrow : (w4.alloc o).grownBy w6 v.ownBlock) :
    (∃ a c, v' = .slice a (k + 1 + 1) c) ∧ Hid (Mrs w6 W.heap.size v' F (k + 1 + 1) (fun i => if i = k + 1 then Z else Ms i) (fun i => if i = k + 1 then g else G i) ∧ Below W.heap.size W w6 ∧ w6.ownsRow W.heap.size 3 1 u k xs ∧ W.heap.size ≤ w6.heap.size) := by
  have hg : w4.grownBy w6 v.ownBlock := (World.grownBy_alloc _ _ _).trans hgrow
  obtain ⟨h1, h2⟩ := Mrs.app h hV hm hown hgrow
  have hb6 : Below W.heap.size W w6 := hb.grown hg hb.size (fun b hb => (hV.1.lt b hb).1)
  refine ⟨h1, hid ⟨h2.out, hb6, hu.kept hg ?_, hb6.size⟩⟩
  cases hv : u.ownBlock with
  | none => exact Or.inl rfl
  | some b =>
    refine Or.inr (fun e => ?_)
    obtain ⟨d, hd⟩ := own_tag hu hv
    obtain ⟨d2, hd2⟩ := own_tag hV.1 e.symm
    exact tags_ne hd hd2 rfl

set_option maxHeartbeats 4000000 in
theorem walked_any {na fa : Option Addr} {N nc F fc : Nat} {M : Nat → ByteArray} {K A B : Nat → Int} {e0 : Int} {w : World} (hp : Prc w na N nc fa F M K A B) (he : ChkIs N F M K A B e0) {da : Option Addr} {D dc : Nat} {d : Nat → Int} (hD : D ≤ 1048576) (hd : Row w da D d) :
    Calls Try.prog 18 #[.agg #[.slice na N nc, .slice fa F fc], .slice da D dc] w fun e w' => Below w.heap.size w w' ∧ WdIs (spE e0 (stAll K A B F N).length) K A B F (stAll K A B F N) D e w' := by
  have HP : Hid (Prc w na N nc fa F M K A B) := hp
  have HD : Hid (Row w da D d) := hd
  have HE : Hid (ChkIs N F M K A B e0) := he
  obtain ⟨i0, hi, hz0, hz1, hz2⟩ := info_parts Try.info3
  have HI : Hid (Try.prog.info? 3 = some i0 ∧ i0.zero = some (.int .i64 0) ∧ i0.size = 1 ∧ i0.bytes = 8) := ⟨hi, hz0, hz1, hz2⟩
  clear hi hz0 hz1 hz2
  obtain ⟨i1, hi, hz0, hz1, hz2⟩ := info_parts Try.info26
  have HI1 : Hid (Try.prog.info? 26 = some i1 ∧ i1.zero = some (.slice none 0 0) ∧ i1.size = 1 ∧ i1.bytes = 24) := ⟨hi, hz0, hz1, hz2⟩
  clear hi hz0 hz1 hz2
  obtain ⟨W, eW⟩ : ∃ x, x = w.alloc (.cells #[.slice na N nc, .slice fa F fc] 25) := ⟨_, rfl⟩
  have HW : Hid (Below w.heap.size w W ∧ W.heap.size = w.heap.size + 1) := by subst eW; exact ⟨box_below _ _, by simp⟩
  have HBx : Hid (∀ w1, Below W.heap.size W w1 → w1.cell? ⟨w.heap.size, 0, none⟩ = some (.slice na N nc) ∧ w1.cell? ⟨w.heap.size, 1, none⟩ = some (.slice fa F fc)) := fun w1 h => by
    subst eW
    exact ⟨new_alloc h rfl, new_alloc h rfl⟩
  have HEW : Hid (w.alloc (.cells #[.slice na N nc, .slice fa F fc] 25) = W) := eW.symm
  have HPW : Hid (Prc W na N nc fa F M K A B) := hp.below HW.out.1
  have C1 : Hid (Calls Try.prog 46 #[.agg #[.slice na N nc, .slice fa F fc]] W fun e w' => Below W.heap.size W w' ∧ Ans (spE e0 (stAll K A B F N).length) (Mrk F (bgn K A)) e w') := beginF_any HPW.out he
  clear eW hp he hd
  generalize hEE : spE e0 (stAll K A B F N).length = E at *
  have HEE : Hid (spE e0 (stAll K A B F N).length = E) := hEE
  clear hEE
  go_enter Try.func18, Try.ntmps18
  go_wp2_with fail
  rw [HEW.out]
  refine C1.out.mono ?_
  rintro e w1 ⟨hb1, hs1⟩
  have HB1 : Hid (Below W.heap.size W w1) := hb1
  have HBw1 : Hid (Below w.heap.size w w1) := HW.out.1.trans (hb1.mono HW.out.1.size)
  clear hb1 C1
  rcases hs1 with ⟨h1, rfl⟩ | ⟨h1, g0, c0, rfl, hmk⟩
  · have hz' : (E != 0) = true := by rw [bne_iff_ne]; exact h1
    have HZ : Hid (E ≠ 0) := h1
    clear h1
    go_wp2
    go_ret2
    exact ⟨HBw1.out, Or.inl ⟨HZ.out, rfl⟩⟩
  · subst h1
    have HE0 : Hid (e0 = 0 ∧ (stAll K A B F N).length ≤ 60) := spE_zero HEE.out
    have HS0 : Hid (Wkd W (w1.alloc (.cells #[.slice (some ⟨g0, 0, none⟩) F c0] 26)) K A B F (stAll K A B F N) 0 (.slice (some ⟨w1.heap.size, 0, none⟩) 1 1) (.slice none 0 0) (fun _ => bgn K A) (fun _ => 0) (fun _ => g0)) :=
      ⟨HB1.out.alloc HB1.out.size _, mrs_start HB1.out.size hmk, World.ownsRow_nil _ _ _ _, (fun b hb => by cases hb), pth_zero K A B F _ _⟩
    have hF30 : F ≤ 30 := by have := HE.out; rw [HE0.out.1] at this; exact (chk_zero this).1.2
    have hl60 : (stAll K A B F N).length ≤ 60 := HE0.out.2
    obtain ⟨la, hla⟩ : ∃ q, q = stAll K A B F N := ⟨_, rfl⟩
    have HLa : Hid (la = stAll K A B F N) := hla
    rw [← hla] at HEE HS0 hl60
    clear hla hmk
    go_wp2
    go_loopw [4, 5, 6, 26] (fun v u mv i wr => ∃ (k : Nat) (ga : Option Addr) (gc : Nat) (sa : Option Addr) (sc : Nat) (Ms : Nat → Nat → Int) (S G : Nat → Nat) (mc : Nat), k ≤ D ∧ i = .int .i64 k ∧ v = .slice ga (k + 1) gc ∧ u = .slice sa k sc ∧ mv = .slice (some ⟨G k, 0, none⟩) F mc ∧ Hid (Wkd W wr K A B F la k (.slice ga (k + 1) gc) (.slice sa k sc) Ms S G)) (fun _ _ _ i _ => D - (intOf i).toNat)
    case atStart => exact ⟨0, _, _, _, _, _, _, _, _, Nat.zero_le _, rfl, rfl, rfl, rfl, HS0.out⟩
    case round =>
      obtain ⟨k, ga, gc, sa, sc, Ms, S, G, mc, hk, rfl, rfl, rfl, rfl, HT⟩ := hrel
      clear HS0
      have HBr : Hid (Below w.heap.size w wr) := HW.out.1.trans (HT.out.below.mono HW.out.1.size)
      obtain ⟨hc0, hc1⟩ := HBx.out wr HT.out.below
      by_cases hlt : k < D
      · obtain ⟨b, o, ha, hc⟩ := HD.out
        obtain rfl := ha (by omega)
        have hdk := row_at hc HBr.out hlt
        generalize hg : G k = gk at *
        have HMk : Hid (Mk wr gk F (Ms k)) := by have := HT.out.mrs.rows k (by omega); rw [hg] at this; exact this
        obtain ⟨X, hX⟩ : ∃ X : Nat → Int, ∀ i, X i = 1 ↔ enb K A B F (Ms k) (la.getD i (0, 0, 0)) := ⟨fun i => @ite Int (enb K A B F (Ms k) (la.getD i (0, 0, 0))) (Classical.propDecidable _) 1 0, fun i => by simp⟩
        have HX : Hid (∀ i, X i = 1 ↔ enb K A B F (Ms k) (la.getD i (0, 0, 0))) := hX
        have HE2 : Hid (mkE (spE e0 (stAll K A B F N).length) (mkOk F F (Ms k)) = 0) := by show mkE _ _ = 0; rw [← HLa.out, HEE.out, mkOk_yes (HT.out.pth.ok k (Nat.le_refl _))]; rfl
        have C2 : Hid (Calls Try.prog 16 #[.agg #[.slice na N nc, .slice fa F fc], .slice (some ⟨gk, 0, none⟩) F mc] wr fun e w' => Below wr.heap.size wr w' ∧ Lst (tally X 1 la.length) (fun i => (fl X 1 la.length).getD i 0) e w') := by
          refine (enabledF_any (HPW.out.below HT.out.below) HE.out (mc := mc) (by omega) HMk.out.row X (fun i _ => by rw [← HLa.out]; exact HX.out i)).mono fun e w' hh => ⟨hh.1, ?_⟩
          have := hh.2.ok HE2.out
          rw [← HLa.out] at this
          exact this
        have C3 : Hid (∀ u : World, Below wr.heap.size wr u → ∀ step : Int, Calls Try.prog 48 #[.agg #[.slice na N nc, .slice fa F fc], .slice (some ⟨gk, 0, none⟩) F mc, .int .i64 step] u fun e w' => Below u.heap.size u w' ∧ FiIs u.heap.size K A B F la (Ms k) step e w') := fun u hu step => by
          refine (fireF_any ((HPW.out.below HT.out.below).below hu) HE.out (mc := mc) (by omega) (HMk.out.below hu).row step).mono fun e w' hh => ⟨hh.1, ?_⟩
          have := hh.2.ok HE2.out
          rw [← HLa.out] at this
          exact this
        have htl := tally_le X 1 la.length
        clear hX hc ha hg
        go_wp2_with fail
        refine C2.out.mono ?_
        rintro e w2 ⟨hb2, ca, cc, rfl, hcan⟩
        have HB2 : Hid (Below wr.heap.size wr w2) := hb2
        have HCan : Hid (Row w2 ca (tally X 1 la.length) (fun i => (fl X 1 la.length).getD i 0)) := hcan
        have HBw2 : Hid (Below W.heap.size W w2) := HT.out.below.trans (hb2.mono HT.out.below.size)
        clear hc0 hc1
        obtain ⟨hc0, hc1⟩ := HBx.out w2 HBw2.out
        clear hb2 hcan C2
        by_cases ht0 : tally X 1 la.length = 0
        · have ht0' : (((tally X 1 la.length : Nat) : Int) == 0) = true := beq_iff_eq.2 (by omega)
          have HF : Hid (Below w.heap.size w w2 ∧ Gr w2 ga (k + 1) (fun _ => F) Ms ∧ Row w2 sa k (fun i => (S i : Int)) ∧ Pth K A B F la k Ms S) := ⟨HW.out.1.trans (HBw2.out.mono HW.out.1.size), HT.out.mrs.gr.below HB2.out, (lst_row HT.out.stp).below HB2.out, HT.out.pth⟩
          clear ht0
          go_wp2
          go_ret2
          rw [← HLa.out]
          exact ⟨HF.out.1, Or.inr ⟨rfl, k, Ms, S, ga, gc, sa, sc, by omega, rfl, HF.out.2⟩⟩
        · have ht0' : (((tally X 1 la.length : Nat) : Int) == 0) = false := beq_eq_false_iff_ne.2 (by omega)
          have hpos : (0 : Int) < (tally X 1 la.length : Nat) := by omega
          have C4 : Hid (∀ q, Calls Try.prog 47 #[.int .i64 (d k), .int .i64 (tally X 1 la.length : Nat)] q fun e w' => (∃ r : Nat, e = .returned (.int .i64 r) ∧ (r : Int) < (tally X 1 la.length : Nat)) ∧ w' = q) := fun q => rest_any (d k) _ q hpos (by omega)
          clear ht0
          go_wp2_with fail
          refine (C4.out w2).mono ?_
          rintro e w3 ⟨⟨r, rfl, hr⟩, rfl⟩
          obtain ⟨s, hs1, hs2, hs3, _⟩ := fl_place (X := X) (x := 1) (n := la.length) (q := r) (by omega)
          obtain ⟨cb, co, hca, hcc⟩ := HCan.out
          obtain rfl := hca (by omega)
          have hcs := hcc r (by omega)
          have hcs' : w3.cell? ⟨cb, co + r, none⟩ = some (.int .i64 (s : Nat)) := by rw [hcs]; exact congrArg (fun q => some (Value.int .i64 q)) hs1
          have HSl : Hid (s < la.length ∧ enb K A B F (Ms k) (la.getD s (0, 0, 0))) := ⟨hs2, (HX.out s).1 hs3⟩
          have C5 : Hid (Calls Try.prog 48 #[.agg #[.slice na N nc, .slice fa F fc], .slice (some ⟨gk, 0, none⟩) F mc, .int .i64 (s : Nat)] w3 fun e w' => Below w3.heap.size w3 w' ∧ FrIs w3.heap.size K A B F (Ms k) (la.getD s (0, 0, 0)) e w') := by
            refine (C3.out w3 HB2.out _).mono fun e w' hh => ⟨hh.1, ?_⟩
            rcases hh.2 with ⟨h1, _⟩ | ⟨_, h1⟩
            · exact absurd ⟨by omega, by omega⟩ h1
            · rw [Int.toNat_natCast] at h1
              exact h1
          clear hcs hcc hca hs1 hs2 hs3 C3 C4 HCan
          go_wp2_with fail
          refine C5.out.mono ?_
          rintro e w4 ⟨hb4, hf⟩
          have HB4 : Hid (Below wr.heap.size wr w4) := HB2.out.trans (hb4.mono HB2.out.size)
          have HBw4 : Hid (Below W.heap.size W w4) := HBw2.out.trans (hb4.mono HBw2.out.size)
          rcases hf with ⟨h1, _⟩ | ⟨_, _, rfl⟩ | ⟨_, h2, g5, c5, hg5, rfl, hm5⟩
          · exact absurd HSl.out.2 h1
          · have HF : Hid (Below w.heap.size w w4 ∧ Gr w4 ga (k + 1) (fun _ => F) Ms ∧ Row w4 sa k (fun i => (S i : Int)) ∧ Pth K A B F la k Ms S) := ⟨HW.out.1.trans (HBw4.out.mono HW.out.1.size), HT.out.mrs.gr.below HB4.out, (lst_row HT.out.stp).below HB4.out, HT.out.pth⟩
            clear hb4 C5
            go_wp2
            go_ret2
            rw [← HLa.out]
            exact ⟨HF.out.1, Or.inr ⟨rfl, k, Ms, S, ga, gc, sa, sc, by omega, rfl, HF.out.2⟩⟩
          · have HFr : Hid (∀ j, j < F → frs K A B (la.getD s (0, 0, 0)) (Ms k) j ≤ 9) := h2
            have HM5 : Hid (Mk w4 g5 F (frs K A B (la.getD s (0, 0, 0)) (Ms k)) ∧ wr.heap.size ≤ g5) := ⟨hm5, Nat.le_trans HB2.out.size hg5⟩
            have HMr4 : Hid (Mrs w4 W.heap.size (.slice ga (k + 1) gc) F (k + 1) Ms G) := HT.out.mrs.below HB4.out
            obtain ⟨Vs, hVs⟩ := HMr4.out.own
            have HVs : Hid (w4.ownsRow W.heap.size 26 1 (.slice ga (k + 1) gc) (k + 1) Vs ∧ ∀ i, i < k + 1 → ∃ c, Vs[i]? = some (.slice (some ⟨G i, 0, none⟩) F c)) := hVs
            have HU4 : Hid (w4.ownsRow W.heap.size 3 1 (.slice sa k sc) k (vals (lst k (fun i => (S i : Int))))) := below_ownsRow HT.out.stp HB4.out
            have HSz4 : Hid (W.heap.size ≤ w4.heap.size) := HBw4.out.size
            clear h2 hm5 hg5 hb4 C5 hVs hc0 hc1
            go_wp2_with (at_builtin; first
              | (refine wpList_append_own_at _ rfl _ _ 27 rfl W.heap.size 26 i1 (.slice none 0 0) 1 24 Try.underlying27 HI1.out.1 HI1.out.2.1 HI1.out.2.2.1 HI1.out.2.2.2 rfl (by decide) _ _ _ rfl (HVs.out.1.alloc _) ⟨w4.heap.size, 0, none⟩ 1 1 [.slice (some ⟨g5, 0, none⟩) F c5] rfl rfl (World.news_of_block (cs := #[.slice (some ⟨g5, 0, none⟩) F c5]) (t := 26) (fr := (0, 0)) (heap_alloc_new w4 _)) (by simp [Value.oneCell']) (by unfold maxLen; omega) (by omega) (by have := HSz4.out; simp; omega) ?_; intro v6 w6 hown6 hgrow6 _ _; obtain ⟨⟨a6, c6, rfl⟩, H6⟩ := Wkd.half HBw4.out HMr4.out HVs.out HM5.out.1 HU4.out hown6 hgrow6; clear hown6 hgrow6)
              | (refine wpList_append_own_at _ rfl _ _ 26 rfl W.heap.size 3 i0 (.int .i64 0) 1 8 Try.underlying26 HI.out.1 HI.out.2.1 HI.out.2.2.1 HI.out.2.2.2 rfl (by decide) _ _ _ rfl (H6.out.2.2.1.alloc _) ⟨w6.heap.size, 0, none⟩ 1 1 [.int .i64 (s : Int)] rfl rfl (cell_one_new _ _ _) (ints_oneCell .i64 [(s : Int)]) (by unfold maxLen; omega) (by omega) (by have := H6.out.2.2.2; simp; omega) ?_; intro u7 w7 hown7 hgrow7 _ hloc7; obtain ⟨⟨a7, c7, rfl⟩, H7⟩ := Wkd.app HT.out HSl.out.1 HSl.out.2 HFr.out HM5.out.2 H6.out.1 H6.out.2.1 H6.out.2.2.1 hown7 hgrow7 hloc7; clear hown7 hgrow7 hloc7))
            go_roundw
            case rel => exact ⟨k + 1, a6, c6, a7, c7, _, _, _, c5, by omega, by go_num, rfl, rfl, by simp, H7.out⟩
            case measure => simp [intOf]; omega
      · obtain rfl : D = k := by omega
        have HF : Hid (Below w.heap.size w wr ∧ Gr wr ga (D + 1) (fun _ => F) Ms ∧ Row wr sa D (fun i => (S i : Int)) ∧ Pth K A B F la D Ms S) := ⟨HBr.out, HT.out.mrs.gr, lst_row HT.out.stp, HT.out.pth⟩
        go_wp2
        go_ret2
        rw [← HLa.out]
        exact ⟨HF.out.1, Or.inr ⟨rfl, D, Ms, S, ga, gc, sa, sc, Nat.le_refl _, rfl, HF.out.2⟩⟩

end Go.Proofs.Ythpbgfodejoecaa
