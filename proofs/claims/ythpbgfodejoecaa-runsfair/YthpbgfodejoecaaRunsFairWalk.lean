/- The law RunsFair, walked. -/
import Derived.Deep.CutRange
import Derived.Great.BuildSlice
import Derived.RangeFuncNested
import Derived.RangeFuncBound
import Derived.RangeFuncCalls
import Derived.RangeFuncLeaves
import Derived.Shelf.Abstract
import Derived.Shelf.RegionOpen
import Derived.OwnWalkIn
import Derived.TacticsInMore
import Derived.LoopNIn
import Derived.LoopIn
import Derived.Lib.SliceRun
import Derived.WalkSmall
import Derived.Deep.AppendLies
import Derived.Deep.RegionHeld3
import Derived.Deep.RegionHeld
import Derived.Deep.DrawnRows
import Derived.Deep.LoopGhost
import Derived.Deep.Cut
import Derived.Deep.OwnRows
import Derived.Maps.AppendAt
import Derived.WalkKit
import Derived.WalkSpells
import Derived.WalkLawsBesides
import Derived.Deep.QuietTactic
import Derived.BigQuiet
import Derived.Below
import Derived.Deep.Heap
import Derived.RegionTactic
import Derived.Deep.Quiet
import Derived.Deep.WholeRow
import Derived.Deep.MidRow
import Derived.Laws.Bits64b
import Derived.Lib.TrailingZeros
import Derived.Maps.OwnIn
import Derived.Maps.OwnSet
import Derived.Maps.OwnOps
import Derived.DeepKeys4
import Derived.Laws.AppendOwnNone
import Derived.Lib.AppendZeros
import Derived.Deep.DeepCutAuto
import Derived.Test.YthpbgfodejoecaaPzSpLawJ
import Derived.Test.YthpbgfodejoecaaBfsJ
import Derived.Test.YthpbgfodejoecaaDistJ
import Derived.Test.YthpbgfodejoecaaDist2J
import Derived.Test.YthpbgfodejoecaaLeafJ
import Derived.Test.YthpbgfodejoecaaProc
import Derived.Test.YthpbgfodejoecaaProc2
import Derived.Test.YthpbgfodejoecaaSpFaceJ
import Derived.Test.YthpbgfodejoecaaWTrdJ
import Derived.Test.YthpbgfodejoecaaWFaiJ
import Derived.Test.YthpbgfodejoecaaWBaseJ
import Derived.Test.YthpbgfodejoecaaWChwJ
import Derived.Test.YthpbgfodejoecaaPzProc8J
namespace Go.Proofs.Ythpbgfodejoecaa
open Go.RowKit Go.Maps

set_option maxRecDepth 20000 in
set_option maxHeartbeats 8000000 in
theorem runsFair_walk {na fa : Option Addr} {N nc F fc : Nat} {M : Nat → ByteArray} {K A B : Nat → Int} {w : World} (hp : Prc w na N nc fa F M K A B) (tk st : Int) :
    Calls Try.prog 4 #[.agg #[.slice na N nc, .slice fa F fc], .int .i64 tk, .int .i64 st] w fun e w' => e = .returned (.bool true) ∧ Below w.heap.size w w' := by
  obtain ⟨e0, he⟩ := chk_ex N F M K A B
  obtain ⟨X, hX⟩ := xok_ex K A B F (stAll K A B F N)
  obtain ⟨W, eW⟩ : ∃ x, x = w.alloc (.cells #[.slice na N nc, .slice fa F fc] 25) := ⟨_, rfl⟩
  have HW : Hid (Below w.heap.size w W) := by subst eW; exact box_below _ _
  have HBx : Hid (∀ w1, Below W.heap.size W w1 → w1.cell? ⟨w.heap.size, 0, none⟩ = some (.slice na N nc) ∧ w1.cell? ⟨w.heap.size, 1, none⟩ = some (.slice fa F fc)) := fun w1 h => by
    subst eW
    exact ⟨new_alloc h rfl, new_alloc h rfl⟩
  have HEW : Hid (w.alloc (.cells #[.slice na N nc, .slice fa F fc] 25) = W) := eW.symm
  have HPW : Hid (Prc W na N nc fa F M K A B) := hp.below HW.out
  have C0 := hid (straight_any W)
  have C1 := fun (z : World) (hz : Below W.heap.size W z) => runsOf_any (fc := fc) (HPW.out.below hz) he tk st hX
  have C2 := fun (z : World) (hz : Below W.heap.size W z) => exploreF_any (fc := fc) (HPW.out.below hz) he tk st hX
  unfold EpIs at C2
  have HSok := hid (fun h => sok_of (tk := tk) (st := st) (X := X) he hX h)
  have HCn := hid (fun h => sok_cn (tk := tk) (st := st) (X := X) (E := spE e0 (stAll K A B F N).length) (K := K) (A := A) (B := B) (F := F) (l := stAll K A B F N) h)
  have HE := hid he
  have HX := hid hX
  have HEz : Hid (xE (spE e0 (stAll K A B F N).length) tk st (xall tk st K A B F (stAll K A B F N) X) = 0 → spE e0 (stAll K A B F N).length = 0) := hid (fun h => (x_ok h).1)
  have HSh : Hid (xE (spE e0 (stAll K A B F N).length) tk st (xall tk st K A B F (stAll K A B F N) X) = 0 → ∀ i, i < (xM (spE e0 (stAll K A B F N).length) tk st (xall tk st K A B F (stAll K A B F N) X)).length → Shp F ((xM (spE e0 (stAll K A B F N).length) tk st (xall tk st K A B F (stAll K A B F N) X)).getD i [])) := hid (fun h i hi => by
    obtain ⟨h1, _, T, _, h4, _, h6, _⟩ := x_ok h
    have h0 := (spE_zero h1).1
    obtain ⟨_, T', g4, _, _, _, _, _, _, g11, _⟩ := x_counts hX (fun _ => steps_lt (by rw [h0] at he; exact he)) h
    rw [g4] at hi ⊢
    exact (g11 _ (by rw [List.getD_eq_getElem?_getD, List.getElem?_eq_getElem hi]; exact List.getElem_mem hi)).1)
  generalize hll : stAll K A B F N = l at *
  have HLl := hid hll
  generalize hE0 : spE e0 l.length = E0 at *
  have HE0 := hid hE0
  generalize hE1 : xE E0 tk st (xall tk st K A B F l X) = E1 at *
  generalize hnx : xN E0 tk st (xall tk st K A B F l X) = nx at *
  generalize hmk : xM E0 tk st (xall tk st K A B F l X) = marks at *
  have C1 := hid C1
  have C2 := hid C2
  obtain ⟨G, hG⟩ : ∃ G, G = marks.length := ⟨_, rfl⟩
  have HGm := hid hG
  rw [← hG] at C1 C2
  clear eW hp he hX hll hE0 hE1 hnx hmk hG
  go_enter Try.func4, Try.ntmps4
  go_wp2_with fail
  rw [HEW.out]
  refine C0.out.mono ?_
  rintro e w0 ⟨⟨na', fa', rfl, hpr⟩, hb0⟩
  have CS := hid (st_of hpr)
  clear C0
  go_wp2_with fail
  refine CS.out.mono ?_
  rintro e w1 ⟨hb1, sa, sna, sla, sfa, oa, sc, snc, slc, sfc, oc, X0, Y0, U0, rfl, HZ⟩
  obtain ⟨W1, hW1⟩ : ∃ x, w1.alloc (.cells #[.slice sa 1 sc, .slice sna 3 snc, .slice sla 3 slc, .slice sfa 2 sfc] 30) = x := ⟨_, rfl⟩
  have HB1 : Hid (Below W.heap.size W W1 ∧ Below w1.heap.size w1 W1) := hid (by subst hW1; exact ⟨(hb0.trans (hb1.mono hb0.size)).trans ((box_below _ _).mono (hb0.trans (hb1.mono hb0.size)).size), box_below _ _⟩)
  have x0 : W1.cell? ⟨w1.heap.size, 0, none⟩ = some (.slice sa 1 sc) := by subst hW1; exact cell_of_alloc rfl
  obtain ⟨b3, o3, ha3, hc3⟩ := HZ.out.2.1
  obtain rfl := ha3 (by omega)
  have y0 := below_c HB1.out.2 (hc3 2 (by omega)).1
  rw [HZ.out.2.2.1] at y0
  have CE := hid (fun (z : World) (hz : Below W1.heap.size W1 z) (a : Option Addr) (c : Nat) (hr : Row z a 1 (fun _ => 0)) => equal_any sa a 1 sc 1 c (fun _ => 0) (fun _ => 0) z (by omega) ((HZ.out.1.below HB1.out.2).below hz) hr)
  clear hb0 hb1 CS hc3 ha3
  go_wp2_with fail
  have hone : Row (W1.alloc (.cells #[.int .i64 0] 3)) (some ⟨W1.heap.size, 0, none⟩) 1 (fun _ => 0) := ⟨W1.heap.size, 0, fun _ => rfl, fun i hi => by
    obtain rfl : i = 0 := by omega
    exact cell_of_alloc rfl⟩
  refine (CE.out _ (box_below _ _) _ 1 hone).mono ?_
  rintro e w2 ⟨rfl, q2, rfl⟩
  have hsm : same 1 1 (fun _ => (0 : Int)) (fun _ => 0) = true := same_yes rfl (fun _ _ => rfl)
  rw [hsm]
  obtain ⟨V0, hV0⟩ : ∃ x, x = (W1.alloc (.cells #[.int .i64 0] 3)).drewN q2 := ⟨_, rfl⟩
  have HB2 : Hid (Below W.heap.size W V0) := hid (by subst hV0; exact HB1.out.1.trans (((box_below _ _).trans (below_drewN (Below.refl _ _) _)).mono HB1.out.1.size))
  rw [← hV0]
  obtain ⟨p0, p1⟩ := HBx.out V0 HB2.out
  have C1b := hid (C1.out V0 HB2.out)
  clear hone hsm hV0 CE x0 y0 hW1
  go_wp2_with fail
  refine C1b.out.mono ?_
  rintro e w3 ⟨hb3, hs3⟩
  obtain ⟨R, ob, od, n, X1, Y1, rfl, HR⟩ := rn_all hs3
  obtain ⟨W3, hW3, hbA, hsA, hBwA⟩ := boxw w3 R
  have HB3 : Hid (Below W.heap.size W W3) := hid ((HB2.out.trans (hb3.mono HB2.out.size)).trans (hbA.mono (HB2.out.trans (hb3.mono HB2.out.size)).size))
  have HR3 := hid (And.intro (HR.out.1.below hbA) (HR.out.2.1.below hbA))
  have HBwA := hid hBwA
  have HRs := hid HR.out.2.2
  obtain ⟨p0, p1⟩ := HBx.out W3 HB3.out
  obtain ⟨r0, r1, r2, r3⟩ := HBwA.out
  clear hb3 hs3 hbA hsA hBwA C1b
  by_cases hz : rnE E1 nx G = 0
  case neg =>
    have hzb : (rnE E1 nx G != 0) = true := by rw [bne_iff_ne]; exact hz
    rcases HRs.out with ⟨_, h2, h3, _⟩ | ⟨h1, _⟩
    case inr => exact absurd h1 hz
    have hG0 : R.G = 0 := by rw [h2]; rfl
    subst h3
    rw [hG0] at r1 hW3 ⊢
    have HBF : Hid (Below w.heap.size w W3) := hid (HW.out.trans (HB3.out.mono HW.out.size))
    generalize rnE E1 nx G = rr at *
    clear h2 hz
    go_wp2
    go_ret
    exact ⟨rfl, HBF.out⟩
  have hzb : (rnE E1 nx G != 0) = false := by rw [hz]; rfl
  have hn6 := rns_small HRs.out
  rcases HRs.out with ⟨h1, _⟩ | ⟨_, hRA, hn, hX1, hY1⟩
  · exact absurd hz h1
  have hE1 : E1 = 0 := by
    unfold rnE at hz
    by_cases h : E1 ≠ 0
    · rw [if_pos h] at hz; exact absurd hz h
    · exact Classical.not_not.1 h
  have hok := HSok.out hE1
  have h600 : (dgs nx marks.length).length ≤ 600 := by rw [← HGm.out]; omega
  have hRA2 : RnA R nx marks.length l := by rw [← HGm.out]; exact hRA
  have hck := rn_chk hok hRA2 h600
  have hbg := fun x hx => rn_begins hok hRA2 h600 x hx
  have hRG : R.G = n := by rw [hn, hRA.G]
  rw [hRG] at r1 hW3
  have CF : Hid (Calls Try.prog 13 #[.agg #[.slice R.sa R.sn R.sc, .slice R.na n R.nc, .slice R.la R.M R.lc, .slice R.fa R.K R.fc]] W3 fun e w' => ∃ b, e = .returned (.tuple #[.slice (some ⟨b, 0, none⟩) n n, .int .i64 0]) ∧ Hid (Below W3.heap.size W3 w' ∧ Rowb w' (some ⟨b, 0, none⟩) n (fun _ => true))) := hid (by
    have h1 := fair_ok R W3 HR3.out.1 hck
    rw [hRG] at h1
    refine h1.mono ?_
    rintro e w' ⟨b, rfl, h2⟩
    refine ⟨b, rfl, h2.out.1, b, 0, fun _ => rfl, fun i hi => ?_⟩
    obtain ⟨x, h3, h4⟩ := h2.out.2.2.cell hi
    have h5 : x = true := h4.2 (hbg i (by rw [hRG]; exact hi))
    rw [Nat.zero_add, h3, h5])
  have HOk := hid hok
  have HRG := hid hRG
  have HNn := hid (And.intro hn (And.intro hX1 hY1))
  have C2b := fun z hz => C2.out z hz
  rw [hE1] at C2b
  have HCm := hid (HCn.out hE1)
  have HSm := hid (HSh.out hE1)
  have HE00 : Hid (E0 = 0) := hid (HEz.out hE1)
  clear hRA hn hX1 hY1 hok h600 hRA2 hck hbg hRG hE1 C1 HZ
  rw [hz]
  clear hz
  rw [HRG.out] at ⊢
  go_wp2_with fail
  refine CF.out.mono ?_
  rintro e w4 ⟨fb, rfl, HFb⟩
  have HB4 : Hid (Below W.heap.size W w4) := hid (HB3.out.trans (HFb.out.1.mono HB3.out.size))
  obtain ⟨p0, p1⟩ := HBx.out w4 HB4.out
  have CX := hid (C2b w4 HB4.out)
  clear C2b CF
  go_wp2_with fail
  refine CX.out.mono ?_
  rintro e w5 ⟨hb5, ma, mc, xa, xc, base5, _, rfl, hsp⟩
  obtain ⟨W5, hW5⟩ : ∃ x, w5.alloc (.cells #[.slice ma G mc, .slice xa nx.length xc] 37) = x := ⟨_, rfl⟩
  have HB5 : Hid (Below W.heap.size W W5 ∧ Below w4.heap.size w4 W5 ∧ Below w5.heap.size w5 W5) := hid (by subst hW5; exact ⟨HB4.out.trans ((hb5.trans ((box_below _ _).mono hb5.size)).mono HB4.out.size), hb5.trans ((box_below _ _).mono hb5.size), box_below _ _⟩)
  have z0 : W5.cell? ⟨w5.heap.size, 0, none⟩ = some (.slice ma G mc) := by subst hW5; exact cell_of_alloc rfl
  have HSp := hid (hsp.below HB5.out.2.2)
  have HZ0 := hid z0
  have hB34 := HFb.out.1.trans (HB5.out.2.1.mono HFb.out.1.size)
  have HB35 := hid hB34
  obtain ⟨s0, s1, s2, s3⟩ := HBwA.out.below hB34
  rw [HRG.out] at s1
  have hbt : hasB n (fun _ => true) false = false := hasB_no (fun _ _ => by decide)
  have CC : Hid (Calls Try.prog 15 #[.slice (some ⟨fb, 0, none⟩) n n, .bool false] W5 fun e w' => e = .returned (.bool false) ∧ w' = W5) := hid (by
    have := containsB_any (some ⟨fb, 0, none⟩) n n (fun _ => true) W5 (by omega) (HFb.out.2.below HB5.out.2.1)
    rw [hbt] at this
    exact this)
  have hnb : ((n : Int) != (n : Int)) = false := by simp
  have HFl := hid (HR3.out.2.below hB34)
  clear hb5 hsp CX hB34 hbt r0 r1 r2 r3
  go_wp2_with fail
  refine CC.out.mono ?_
  rintro e w6 ⟨rfl, rfl⟩
  go_wp2
  clear z0 s0 s1 s2 s3 hnb p0 p1
  go_loopw [95] (fun i wr => ∃ k : Nat, k ≤ n ∧ i = .int .i64 k ∧ Hid (Below w6.heap.size w6 wr)) (fun i _ => n - (intOf i).toNat)
  case atStart => exact ⟨0, Nat.zero_le _, rfl, hid (Below.refl _ _)⟩
  case round =>
    obtain ⟨k, hk, rfl, HQ⟩ := hrel
    by_cases hlt : k < n
    · have hkz : (k : Int) < n := by omega
      obtain ⟨b, o, ha, hc⟩ := HFl.out
      obtain rfl := ha (by omega)
      obtain ⟨q0, q1⟩ := hc k hlt
      have q0 := below_c HQ.out q0
      have q1 := below_c HQ.out q1
      have hkd : k < (dgs nx marks.length).length := by rw [← HGm.out, ← HNn.out.1]; exact hlt
      have hrk := rn_ok HOk.out (i := k) hkd
      have hcan := rn_can HOk.out HCm.out hkd
      rw [← HGm.out] at hrk hcan
      have hy1 : Y1 k = (rnT nx G k).1 := by rw [HNn.out.2.2]
      have hx1 : X1 k = (rnT nx G k).2.1 := by rw [HNn.out.2.1]
      obtain ⟨t, ht⟩ : ∃ t : Nat, (rnT nx G k).1 = t := ⟨((rnT nx G k).1).toNat, by omega⟩
      obtain ⟨x, hx⟩ : ∃ x, (rnT nx G k).2.1 = x := ⟨_, rfl⟩
      rw [hx1, hx] at q0
      rw [hy1, ht] at q1
      rw [ht, hx, Int.toNat_natCast] at hcan
      rw [ht, hx] at hrk
      have htG : t < G := by omega
      have htz : (t : Int) < G := by omega
      obtain ⟨W2, hW2, hb2, hs2, e0', e1'⟩ := box2 wr x t
      obtain ⟨mb, mo, g, gc, hma, hmc, hmk⟩ := mk_at HSp.out.1 (i := t) (by rw [← HGm.out]; exact htG)
      subst hma
      have hB2 := HQ.out.trans (hb2.mono HQ.out.size)
      have hmc := below_c hB2 hmc
      have hsh := HSm.out t (by rw [← HGm.out]; exact htG)
      have hB5b := HB5.out.1.trans (hB2.mono HB5.out.1.size)
      obtain ⟨u0, u1⟩ := HBx.out W2 hB5b
      have u2 : W2.cell? ⟨w5.heap.size, 0, none⟩ = some (.slice (some ⟨mb, mo, none⟩) G mc) := below_c hB2 HZ0.out
      have HS0 : Hid (∀ z, Below W2.heap.size W2 z → (fun y : World => y.cell? ⟨w.heap.size, 0, none⟩ = some (.slice na N nc) ∧ y.cell? ⟨w.heap.size, 1, none⟩ = some (.slice fa F fc) ∧ y.cell? ⟨w5.heap.size, 0, none⟩ = some (.slice (some ⟨mb, mo, none⟩) G mc) ∧ y.cell? ⟨wr.heap.size, 1, none⟩ = some (.int .i64 (t : Nat)) ∧ y.cell? ⟨mb, mo + t, none⟩ = some (.slice (some ⟨g, 0, none⟩) F gc)) z) := hid (fun z hz => ⟨below_c hz u0, below_c hz u1, below_c hz u2, below_c hz e1', below_c hz hmc⟩)
      have HX0 : Hid (∀ z, Below W2.heap.size W2 z → z.cell? ⟨wr.heap.size, 0, none⟩ = some (.int .i64 x)) := hid (fun z hz => below_c hz e0')
      obtain ⟨cl, hcl⟩ : ∃ c, c = fl (X (marks.getD t [])) 1 l.length := ⟨_, rfl⟩
      obtain ⟨cn, hcn⟩ : ∃ c, c = cl.length := ⟨_, rfl⟩
      have hc60 : cn ≤ 60 := by rw [hcn, hcl, fl_len]; have := tally_le (X (marks.getD t [])) 1 l.length; have := HOk.out.lfew; omega
      have CH : Hid (∀ z, Below W2.heap.size W2 z → Calls Try.prog 16 #[.agg #[.slice na N nc, .slice fa F fc], .slice (some ⟨g, 0, none⟩) F gc] z fun e w' => Below z.heap.size z w' ∧ ∃ ca cc, e = .returned (.tuple #[.slice ca cn cc, .int .i64 0]) ∧ Row w' ca cn (fun i => cl.getD i 0)) := hid (fun z hz => by
        have hF : F ≤ 140737488355328 := by have := HOk.out.F30; omega
        have h1 := enabledF_any (fc := fc) (ma := some ⟨g, 0, none⟩) (mc := gc) ((HPW.out.below hB5b).below hz) HE.out hF ((hmk.below hB2).below hz).row (X (marks.getD t [])) (fun i _ => by rw [HLl.out]; exact HX.out _ i)
        rw [HLl.out, HE0.out, HE00.out] at h1
        have h2 : mkOk F F (fnl (marks.getD t [])) = true := decide_eq_true ⟨rfl, hsh.2⟩
        rw [h2] at h1
        refine h1.mono ?_
        rintro e w' ⟨hb, h3⟩
        refine ⟨hb, ?_⟩
        rcases h3 with ⟨h4, _⟩ | ⟨_, a, c, rfl, hr⟩
        · exact absurd rfl h4
        · rw [← fl_len, ← hcl, ← hcn] at hr ⊢
          exact ⟨a, c, rfl, hr⟩)
      have HCn2 : Hid (cn = cl.length) := hid hcn
      have HB6 : Hid (Below w6.heap.size w6 W2) := hid hB2
      have hB0 : Below W2.heap.size W2 W2.drew := below_drew_iff.2 (Below.refl _ _)
      rw [← hcl, ← hcn] at hcan
      clear hc ha hkd hy1 hx1 ht hx u0 u1 u2 e0' e1' hmc hmk hsh hcl hcn hb2 hB2 hB5b
      go_wp2_with fail
      refine G_region (fun y : World => y.cell? ⟨w.heap.size, 0, none⟩ = some (.slice na N nc) ∧ y.cell? ⟨w.heap.size, 1, none⟩ = some (.slice fa F fc) ∧ y.cell? ⟨w5.heap.size, 0, none⟩ = some (.slice (some ⟨mb, mo, none⟩) G mc) ∧ y.cell? ⟨wr.heap.size, 1, none⟩ = some (.int .i64 (t : Nat)) ∧ y.cell? ⟨mb, mo + t, none⟩ = some (.slice (some ⟨g, 0, none⟩) F gc)) (fun i => i == 12) (by kernel_rfl) (HS0.out _ hB0) (fun _ => ?_)
      refine G_take (i := 0) (oi := { dst := some 100, op := Op.load 25 (Operand.tmp 3), type := 25, pos := _, after := #[], guard := none }) (v := .agg #[.slice na N nc, .slice fa F fc]) rfl (by kernel_rfl) (by kernel_rfl) (by kernel_rfl) (by kernel_rfl) (fun _ _ _ h => h) (by rfl) (fun u hu => ?_) (HS0.out _ hB0) ?_
      · (try dsimp only at hu); go_simp
      (try simp only [Act.put, List.setIfInBounds_toArray, List.set_cons_zero, List.set_cons_succ])
      refine G_take (i := 1) (oi := { dst := some 101, op := Op.fieldAddr 37 (Operand.tmp 15) 0, type := 0, pos := _, after := #[], guard := none }) (v := .pointer (some ⟨w5.heap.size, 0, none⟩)) rfl (by kernel_rfl) (by kernel_rfl) (by kernel_rfl) (by kernel_rfl) (fun _ _ _ h => h) (by rfl) (fun u hu => ?_) (HS0.out _ hB0) ?_
      · (try dsimp only at hu); go_simp
      (try simp only [Act.put, List.setIfInBounds_toArray, List.set_cons_zero, List.set_cons_succ])
      refine G_take (i := 2) (oi := { dst := some 102, op := Op.load 27 (Operand.tmp 101), type := 27, pos := _, after := #[{ on := 1, ground := Ground.data }], guard := none }) (v := .slice (some ⟨mb, mo, none⟩) G mc) rfl (by kernel_rfl) (by kernel_rfl) (by kernel_rfl) (by kernel_rfl) (fun _ _ _ h => h) (by rfl) (fun u hu => ?_) (HS0.out _ hB0) ?_
      · (try dsimp only at hu); go_simp
      (try simp only [Act.put, List.setIfInBounds_toArray, List.set_cons_zero, List.set_cons_succ])
      refine G_take (i := 3) (oi := { dst := some 103, op := Op.fieldAddr 44 (Operand.tmp 18) 1, type := 0, pos := _, after := #[], guard := none }) (v := .pointer (some ⟨wr.heap.size, 1, none⟩)) rfl (by kernel_rfl) (by kernel_rfl) (by kernel_rfl) (by kernel_rfl) (fun _ _ _ h => h) (by rfl) (fun u hu => ?_) (HS0.out _ hB0) ?_
      · (try dsimp only at hu); go_simp
      (try simp only [Act.put, List.setIfInBounds_toArray, List.set_cons_zero, List.set_cons_succ])
      refine G_take (i := 4) (oi := { dst := some 104, op := Op.load 3 (Operand.tmp 103), type := 3, pos := _, after := #[{ on := 3, ground := Ground.data }], guard := none }) (v := .int .i64 (t : Nat)) rfl (by kernel_rfl) (by kernel_rfl) (by kernel_rfl) (by kernel_rfl) (fun _ _ _ h => h) (by rfl) (fun u hu => ?_) (HS0.out _ hB0) ?_
      · (try dsimp only at hu); go_simp
      (try simp only [Act.put, List.setIfInBounds_toArray, List.set_cons_zero, List.set_cons_succ])
      refine G_take (i := 5) (oi := { dst := some 105, op := Op.indexAddr 27 (Operand.tmp 102) (Operand.tmp 104), type := 0, pos := _, after := #[{ on := 2, ground := Ground.data }, { on := 4, ground := Ground.data }], guard := none }) (v := .pointer (some ⟨mb, mo + t, none⟩)) rfl (by kernel_rfl) (by kernel_rfl) (by kernel_rfl) (by kernel_rfl) (fun _ _ _ h => h) (by rfl) (fun u hu => ?_) (HS0.out _ hB0) ?_
      · (try dsimp only at hu); go_simp
      (try simp only [Act.put, List.setIfInBounds_toArray, List.set_cons_zero, List.set_cons_succ])
      refine G_take (i := 6) (oi := { dst := some 106, op := Op.load 26 (Operand.tmp 105), type := 26, pos := _, after := #[{ on := 5, ground := Ground.data }], guard := none }) (v := .slice (some ⟨g, 0, none⟩) F gc) rfl (by kernel_rfl) (by kernel_rfl) (by kernel_rfl) (by kernel_rfl) (fun _ _ _ h => h) (by rfl) (fun u hu => ?_) (HS0.out _ hB0) ?_
      · (try dsimp only at hu); go_simp
      (try simp only [Act.put, List.setIfInBounds_toArray, List.set_cons_zero, List.set_cons_succ])
      refine G_step (i := 7) (o := { dst := some 107, op := Op.call { callee := Callee.value (Operand.func 16), args := #[Operand.tmp 100, Operand.tmp 106], argTypes := #[25, 26] }, type := 54, pos := _, after := #[{ on := 0, ground := Ground.data }, { on := 6, ground := Ground.data }], guard := none }) (by kernel_rfl) rfl (fun K' hK => ?_)
      go_simp
      refine (CH.out _ hB0).mono ?_
      rintro e z ⟨hb, ca, cc, rfl, hrow⟩
      dsimp only
      have HBz := hid (hB0.trans (hb.mono hB0.size))
      have HCr := hid hrow
      refine hK.out _ _ (fun _ => HS0.out _ HBz.out) (fun _ => ?_)
      clear hK K' hb hB0 hrow
      (try simp only [Act.put, List.setIfInBounds_toArray, List.set_cons_zero, List.set_cons_succ])
      refine G_take (i := 8) (oi := { dst := some 99, op := Op.move (Operand.tmp 107), type := 54, pos := _, after := #[{ on := 7, ground := Ground.data }], guard := none }) (v := .tuple #[.slice ca cn cc, .int .i64 0]) rfl (by kernel_rfl) (by kernel_rfl) (by kernel_rfl) (by kernel_rfl) (fun _ _ _ h => h) (by rfl) (fun u hu => ?_) (HS0.out _ HBz.out) ?_
      · (try dsimp only at hu); go_simp
      (try simp only [Act.put, List.setIfInBounds_toArray, List.set_cons_zero, List.set_cons_succ])
      refine G_take (i := 9) (oi := { dst := some 108, op := Op.extract (Operand.tmp 99) 0, type := 26, pos := _, after := #[{ on := 8, ground := Ground.data }], guard := none }) (v := .slice ca cn cc) rfl (by kernel_rfl) (by kernel_rfl) (by kernel_rfl) (by kernel_rfl) (fun _ _ _ h => h) (by rfl) (fun u hu => ?_) (HS0.out _ HBz.out) ?_
      · (try dsimp only at hu); go_simp
      (try simp only [Act.put, List.setIfInBounds_toArray, List.set_cons_zero, List.set_cons_succ])
      refine G_take (i := 10) (oi := { dst := some 109, op := Op.extract (Operand.tmp 99) 1, type := 32, pos := _, after := #[{ on := 8, ground := Ground.data }, { on := 11, ground := Ground.gcOnly Departure.lateStores }], guard := none }) (v := .int .i64 0) rfl (by kernel_rfl) (by kernel_rfl) (by kernel_rfl) (by kernel_rfl) (fun _ _ _ h => h) (by rfl) (fun u hu => ?_) (HS0.out _ HBz.out) ?_
      · (try dsimp only at hu); go_simp
      (try simp only [Act.put, List.setIfInBounds_toArray, List.set_cons_zero, List.set_cons_succ])
      refine G_step (i := 11) (o := { dst := some 19, op := Op.assign (Operand.tmp 108), type := 26, pos := _, after := #[{ on := 9, ground := Ground.data }, { on := 7, ground := Ground.chain }, { on := 0, ground := Ground.phase }, { on := 1, ground := Ground.phase }, { on := 2, ground := Ground.phase }, { on := 3, ground := Ground.phase }, { on := 4, ground := Ground.phase }, { on := 5, ground := Ground.phase }, { on := 6, ground := Ground.phase }, { on := 7, ground := Ground.phase }, { on := 8, ground := Ground.phase }, { on := 9, ground := Ground.phase }, { on := 10, ground := Ground.textOnly Departure.lateStores }], guard := none }) (by kernel_rfl) rfl (fun K' hK => ?_)
      go_simp
      refine hK.out _ _ (fun _ => HS0.out _ HBz.out) (fun _ => ?_)
      clear hK K'
      (try simp only [Act.put, List.setIfInBounds_toArray, List.set_cons_zero, List.set_cons_succ])
      refine G_step (i := 12) (o := { dst := some 20, op := Op.assign (Operand.tmp 109), type := 32, pos := _, after := #[{ on := 10, ground := Ground.data }, { on := 11, ground := Ground.chain }, { on := 0, ground := Ground.phase }, { on := 1, ground := Ground.phase }, { on := 2, ground := Ground.phase }, { on := 3, ground := Ground.phase }, { on := 4, ground := Ground.phase }, { on := 5, ground := Ground.phase }, { on := 6, ground := Ground.phase }, { on := 7, ground := Ground.phase }, { on := 8, ground := Ground.phase }, { on := 9, ground := Ground.phase }, { on := 10, ground := Ground.phase }, { on := 11, ground := Ground.phase }], guard := none }) (by kernel_rfl) rfl (fun K' hK => ?_)
      go_simp
      refine hK.out _ _ (fun hh => by cases hh) (fun _ => ?_)
      clear hK K'
      (try simp only [Act.put, List.setIfInBounds_toArray, List.set_cons_zero, List.set_cons_succ])
      refine G_done (by kernel_rfl) ?_ _
      have f0 := HX0.out _ HBz.out
      have HBz6 : Hid (Below w6.heap.size w6 z) := hid (HB6.out.trans (HBz.out.mono HB6.out.size))
      rcases hrk.2.1 with hstep | hstep
      · subst hstep
        have hcl0 := hcan.2 rfl
        have hcn0 : cn = 0 := by rw [HCn2.out, hcl0]; rfl
        subst hcn0
        clear hcan
        go_wp2
        go_roundw
        case rel => exact ⟨k + 1, by omega, by go_num, HBz6⟩
        case measure => simp [intOf]; omega
      · have hx0 : (0 : Int) ≤ x := hstep.1
        have hxn : ¬ x < 0 := by omega
        have CT : Hid (Calls Try.prog 17 #[.slice ca cn cc, .int .i64 x] z fun e w' => e = .returned (.bool true) ∧ w' = z) := hid (by
          have h1 := contains_any ca cn cc (fun i => cl.getD i 0) x z (by omega) HCr.out
          rw [hcan.1 hx0] at h1
          exact h1)
        clear hcan hstep
        go_wp2_with fail
        refine CT.out.mono ?_
        rintro e z2 ⟨rfl, rfl⟩
        go_wp2
        go_roundw
        case rel => exact ⟨k + 1, by omega, by go_num, HBz6⟩
        case measure => simp [intOf]; omega
    · obtain rfl : n = k := by omega
      have HBF : Hid (Below w.heap.size w wr) := hid (HW.out.trans ((HB5.out.1.trans (HQ.out.mono HB5.out.1.size)).mono HW.out.size))
      go_wp2
      go_ret
      exact ⟨rfl, HBF.out⟩


end Go.Proofs.Ythpbgfodejoecaa
