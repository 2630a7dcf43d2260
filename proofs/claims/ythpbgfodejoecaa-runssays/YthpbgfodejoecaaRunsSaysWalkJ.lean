/- The law RunsSays, walked. What came in, opened: a graph, a list of numbers, a list of bools. What came in, opened: a process. -/
import Derived.Test.YthpbgfodejoecaaRrn
import Derived.Test.YthpbgfodejoecaaSwlJ
import Derived.Test.YthpbgfodejoecaaRefEx
import Derived.ProofKit
import Derived.OpenShut
import Derived.ShutString
import Derived.ChangeOld
import Derived.Below
import Derived.SizedLaws
import Derived.Deep.Matrix
import Derived.Test.YthpbgfodejoecaaLeafJ
import Derived.Deep.SlicePairs
import Derived.Lib.SmallJoins
import Derived.Test.YthpbgfodejoecaaProc6
import Derived.Test.YthpbgfodejoecaaDist2J
namespace Go.Proofs.Ythpbgfodejoecaa
open Go.RowKit Go.Maps

/-- The world of nothing. -/
def zw : Wx := ⟨none, 0, 0, none, 0, 0, none, 0, 0, none, 0, 0, fun _ => 0, fun _ => 0, fun _ _ => 0, fun _ => 0, fun _ => 0, fun _ _ => 0⟩
theorem zw_ww (w : World) : Ww w zw :=
  ⟨⟨0, 0, fun h => absurd h (Nat.lt_irrefl 0), fun i hi => absurd hi (Nat.not_lt_zero i)⟩, ⟨0, 0, fun h => absurd h (Nat.lt_irrefl 0), fun i hi => absurd hi (Nat.not_lt_zero i)⟩, ⟨0, 0, fun h => absurd h (Nat.lt_irrefl 0), fun i hi => absurd hi (Nat.not_lt_zero i)⟩, ⟨0, 0, fun h => absurd h (Nat.lt_irrefl 0), fun i hi => absurd hi (Nat.not_lt_zero i)⟩, Nat.zero_le _, Nat.zero_le _, fun r hr => absurd hr (Nat.not_lt_zero r), Nat.zero_le _, Nat.zero_le _, fun r hr => absurd hr (Nat.not_lt_zero r), fun i hi => absurd hi (Nat.not_lt_zero i)⟩

/-- What is told, at once. -/
def RnS (A : Wx) (n : Nat) (X Y : Nat → Int) (E : Int) (nx : List (List (Int × Int))) (G : Nat) (l : List St3) : Prop :=
  (rnE E nx G ≠ 0 ∧ A = zw ∧ n = 0 ∧ X = (fun _ => 0) ∧ Y = fun _ => 0) ∨ (rnE E nx G = 0 ∧ RnA A nx G l ∧ n = (dgs nx G).length ∧ X = (fun i => (rnT nx G i).2.1) ∧ Y = fun i => (rnT nx G i).1)

theorem rn_all {E : Int} {nx : List (List (Int × Int))} {G : Nat} {l : List St3} {e : Ending} {w : World} (h : RnIs E nx G l e w) :
    ∃ (A : Wx) (oa : Option Addr) (oc n : Nat) (X Y : Nat → Int), e = .returned (.tuple #[.agg #[.slice A.sa A.sn A.sc, .slice A.na A.G A.nc, .slice A.la A.M A.lc, .slice A.fa A.K A.fc], .slice oa n oc, .int .i64 (rnE E nx G)]) ∧ Hid (Ww w A ∧ Fls w oa n X Y ∧ RnS A n X Y E nx G l) := by
  rcases h with ⟨h1, rfl⟩ | ⟨h1, A, oa, oc, rfl, h2⟩
  · exact ⟨zw, none, 0, 0, fun _ => 0, fun _ => 0, rfl, zw_ww w, ⟨0, 0, fun h => absurd h (Nat.lt_irrefl 0), fun i hi => absurd hi (Nat.not_lt_zero i)⟩, Or.inl ⟨h1, rfl, rfl, rfl, rfl⟩⟩
  · exact ⟨A, oa, oc, _, _, _, by rw [h1]; rfl, h2.out.2.1, h2.out.2.2, Or.inr ⟨h1, h2.out.1, rfl, rfl, rfl⟩⟩

theorem rns_same {A B : Wx} {n n' : Nat} {X Y X' Y' : Nat → Int} {E : Int} {nx : List (List (Int × Int))} {G : Nat} {l : List St3} (h : RnS A n X Y E nx G l) (h' : RnS B n' X' Y' E nx G l) : Smw A B ∧ n' = n ∧ X' = X ∧ Y' = Y := by
  rcases h with ⟨h1, rfl, rfl, rfl, rfl⟩ | ⟨h1, h2, rfl, rfl, rfl⟩
  · rcases h' with ⟨_, rfl, rfl, rfl, rfl⟩ | ⟨g1, _⟩
    · exact ⟨⟨rfl, rfl, rfl, rfl, rfl, rfl, rfl, rfl, rfl, rfl⟩, rfl, rfl, rfl⟩
    · exact absurd g1 h1
  · rcases h' with ⟨g1, _⟩ | ⟨_, g2, rfl, rfl, rfl⟩
    · exact absurd h1 g1
    · exact ⟨⟨g2.sn.trans h2.sn.symm, g2.S.trans h2.S.symm, g2.G.trans h2.G.symm, g2.L.trans h2.L.symm, g2.Z.trans h2.Z.symm, g2.M.trans h2.M.symm, g2.Lb.trans h2.Lb.symm, g2.K.trans h2.K.symm, g2.FL.trans h2.FL.symm, g2.FZ.trans h2.FZ.symm⟩, rfl, rfl, rfl⟩

theorem rns_small {A : Wx} {n : Nat} {X Y : Nat → Int} {E : Int} {nx : List (List (Int × Int))} {G : Nat} {l : List St3} (h : RnS A n X Y E nx G l) : n ≤ 600 := by
  rcases h with ⟨h1, rfl, rfl, rfl, rfl⟩ | ⟨h1, h2, rfl, rfl, rfl⟩
  · omega
  · unfold rnE at h1
    by_cases hE : E ≠ 0
    · rw [if_pos hE] at h1; exact absurd h1 hE
    · rw [if_neg hE] at h1
      by_cases h6 : 600 < (dgs nx G).length
      · rw [if_pos h6] at h1; cases h1
      · omega

set_option maxRecDepth 20000 in
set_option maxHeartbeats 4000000 in
theorem runsSays_walk {na fa : Option Addr} {N nc F fc : Nat} {M : Nat → ByteArray} {K A B : Nat → Int} {w : World} (hp : Prc w na N nc fa F M K A B) (hM : ∀ i, i < N → (M i).size ≤ maxLen) (tk st : Int) :
    Calls Try.prog 3 #[.agg #[.slice na N nc, .slice fa F fc], .int .i64 tk, .int .i64 st] w fun e w' => e = .returned (.bool true) ∧ Below w.heap.size w w' := by
  obtain ⟨e0, he⟩ := chk_ex N F M K A B
  obtain ⟨X, hX⟩ := xok_ex K A B F (stAll K A B F N)
  obtain ⟨W, eW⟩ : ∃ x, x = w.alloc (.cells #[.slice na N nc, .slice fa F fc] 25) := ⟨_, rfl⟩
  have HW : Hid (Below w.heap.size w W) := by subst eW; exact box_below _ _
  have HBx : Hid (∀ w1, Below W.heap.size W w1 → w1.cell? ⟨w.heap.size, 0, none⟩ = some (.slice na N nc) ∧ w1.cell? ⟨w.heap.size, 1, none⟩ = some (.slice fa F fc)) := fun w1 h => by
    subst eW
    exact ⟨new_alloc h rfl, new_alloc h rfl⟩
  have HEW : Hid (w.alloc (.cells #[.slice na N nc, .slice fa F fc] 25) = W) := eW.symm
  have HPW : Hid (Prc W na N nc fa F M K A B) := hp.below HW.out
  have C1 := runsOf_any (fc := fc) HPW.out he tk st hX
  have C2 := fun (z : World) (hz : Below W.heap.size W z) => explored_any (fc := fc) (HPW.out.below hz) hM he tk st hX
  have HSok := hid (fun h => sok_of (tk := tk) (st := st) (X := X) he hX h)
  have HE := hid he
  have HM := hid hM
  have HEz : Hid (xE (spE e0 (stAll K A B F N).length) tk st (xall tk st K A B F (stAll K A B F N) X) = 0 → e0 = 0) := hid (fun h => (spE_zero (x_ok h).1).1)
  have C2 := hid (fun (z : World) (hz : Below W.heap.size W z) => (C2 z hz).mono (fun e w' h => And.intro h.1 (ex_all h.2)))
  generalize hll : stAll K A B F N = l at *
  have HLl := hid hll
  generalize hE1 : xE (spE e0 l.length) tk st (xall tk st K A B F l X) = E1 at *
  generalize hnx : xN (spE e0 l.length) tk st (xall tk st K A B F l X) = nx at *
  generalize hmk : xM (spE e0 l.length) tk st (xall tk st K A B F l X) = marks at *
  have C1 := hid C1
  clear eW hp he hX hM hll hE1 hnx hmk
  go_enter Try.func3, Try.ntmps3
  go_wp2_with fail
  rw [HEW.out]
  refine C1.out.mono ?_
  rintro e w1 ⟨hb1, hs1⟩
  obtain ⟨R, oa, oc, n, X1, Y1, rfl, HR⟩ := rn_all hs1
  obtain ⟨W1, hW1, hbA, hsA, hBwA⟩ := boxw w1 R
  have HB1 : Hid (Below W.heap.size W W1) := hid (hb1.trans (hbA.mono hb1.size))
  have HR1 := hid (And.intro (HR.out.1.below hbA) (HR.out.2.1.below hbA))
  have HBwA := hid hBwA
  obtain ⟨p0, p1⟩ := HBx.out W1 HB1.out
  have C2b := hid (C2.out W1 HB1.out)
  clear hb1 hs1 hbA hsA hBwA C1
  go_wp2_with fail
  refine C2b.out.mono ?_
  rintro e w2 ⟨hb2, hs2⟩
  obtain ⟨mb, md, xb, xd, base2, ra, rc, _, rfl, HS2⟩ := hs2
  obtain ⟨G, hG⟩ : ∃ G, G = marks.length := ⟨_, rfl⟩
  rw [← hG] at HS2 ⊢
  have HGm := hid hG
  obtain ⟨wl, hwl⟩ : ∃ x, x = (xW (spE e0 l.length) tk st (xall tk st K A B F l X)).length := ⟨_, rfl⟩
  rw [← hwl] at HS2 ⊢
  obtain ⟨W2, hW2⟩ : ∃ x, w2.alloc (.cells #[.slice mb G md, .slice xb nx.length xd] 37) = x := ⟨_, rfl⟩
  have HB2 : Hid (Below W.heap.size W W2 ∧ Below W1.heap.size W1 W2 ∧ Below w2.heap.size w2 W2) := hid (by subst hW2; exact ⟨HB1.out.trans ((hb2.trans ((box_below _ _).mono hb2.size)).mono HB1.out.size), hb2.trans ((box_below _ _).mono hb2.size), box_below _ _⟩)
  obtain ⟨p0, p1⟩ := HBx.out W2 HB2.out.1
  have x0 : W2.cell? ⟨w2.heap.size, 0, none⟩ = some (.slice mb G md) := by subst hW2; exact cell_of_alloc rfl
  have x1 : W2.cell? ⟨w2.heap.size, 1, none⟩ = some (.slice xb nx.length xd) := by subst hW2; exact cell_of_alloc rfl
  have HBw2 := hid (HBwA.out.below HB2.out.2.1)
  obtain ⟨r0, r1, r2, r3⟩ := HBw2.out
  have HR2 := hid (And.intro (HR1.out.1.below HB2.out.2.1) (HR1.out.2.below HB2.out.2.1))
  have HRs := hid HR.out.2.2
  clear hG hwl hb2 C2b
  by_cases hz : E1 = 0
  case neg =>
    have hz1 : (E1 != 0) = true := by rw [bne_iff_ne]; exact hz
    have hr : rnE E1 nx marks.length = E1 := by unfold rnE; rw [if_pos hz]
    have hzw := HRs.out
    rcases hzw with ⟨h1, h2, h3, h4, h5⟩ | ⟨h1, _⟩
    case inr => exact absurd (hr.symm.trans h1) hz
    subst h3
    rw [← HGm.out] at hr
    rw [hr]
    have hee : (E1 == E1) = true := by simp
    have C3 : Hid (∀ z, Below W2.heap.size W2 z → Calls Try.prog 8 #[.agg #[.slice R.sa R.sn R.sc, .slice R.na R.G R.nc, .slice R.la R.M R.lc, .slice R.fa R.K R.fc], .agg #[.slice none 0 0, .slice none 0 0, .slice none 0 0, .slice none 0 0]] z fun e w' => e = .returned (.bool true) ∧ Below z.heap.size z w') := hid (fun z hz => by
      have := sameW_any R zw z (HR2.out.1.below hz) (zw_ww z) (by rw [h2]; exact ⟨rfl, rfl, rfl, rfl, rfl, rfl, rfl, rfl, rfl, rfl⟩)
      exact this)
    clear h1 h2 h4 h5 hz hr HS2
    go_wp2_with fail
    refine (C3.out _ (Below.refl _ _)).mono ?_
    rintro e w3 ⟨rfl, hb3⟩
    have HF : Hid (Below w.heap.size w w3) := hid (HW.out.trans ((HB2.out.1.trans (hb3.mono HB2.out.1.size)).mono HW.out.size))
    clear hb3 C3
    go_wp2
    go_ret
    exact ⟨rfl, HF.out⟩
  have hz1 : (E1 != 0) = false := by rw [hz]; rfl
  subst hz
  have hok := HSok.out rfl
  have hxl : nx.length = G := by rw [HGm.out]; exact hok.len
  rw [hxl] at hW2 x1 ⊢
  have hee0 := HEz.out rfl
  have hEgs : Egs W2 xb G (snL nx) (snS nx) (snZ nx) := by
    have h1 := nxs_egs HS2.out.1.2 rfl
    rw [hxl] at h1
    exact h1.below HB2.out.2.2
  have C3 : Hid (Calls Try.prog 9 #[.agg #[.slice na N nc, .slice fa F fc], .agg #[.slice mb G md, .slice xb G xd]] W2 fun e w' => Below W2.heap.size W2 w' ∧ RnIs 0 nx G l e w') := hid (runs_any (HPW.out.below HB2.out.1) HM.out (by have := HE.out; rw [hee0] at this; exact this) HLl.out.symm hok HGm.out hEgs)
  rw [← HGm.out] at HRs
  clear hok hxl hee0 hEgs HS2
  go_wp2_with fail
  refine C3.out.mono ?_
  rintro e w3 ⟨hb3, hs3⟩
  obtain ⟨R', ob, od, n', X2, Y2, rfl, HR'⟩ := rn_all hs3
  obtain ⟨W3, hW3, hbB, hsB, hBwB⟩ := boxw w3 R'
  have HB3 : Hid (Below W2.heap.size W2 W3) := hid (hb3.trans (hbB.mono hb3.size))
  obtain ⟨hsm, hn2, hX2, hY2⟩ := rns_same HRs.out HR'.out.2.2
  subst hn2 hX2 hY2
  obtain ⟨y0, y1, y2, y3⟩ := HBw2.out.below HB3.out
  obtain ⟨t0, t1, t2, t3⟩ := hBwB
  have hn6 := rns_small HRs.out
  have C4 : Hid (∀ z, Below W3.heap.size W3 z → Calls Try.prog 10 #[.slice oa n' oc, .slice ob n' od] z fun e w' => e = .returned (.bool true) ∧ ∃ q, w' = z.drewN q) := hid (fun z hz =>
    equalE10 oa ob n' oc od X2 Y2 z (by omega) ((HR2.out.2.below HB3.out).below hz) ((HR'.out.2.1.below hbB).below hz))
  have C5 : Hid (∀ z, Below W3.heap.size W3 z → Calls Try.prog 8 #[.agg #[.slice R.sa R.sn R.sc, .slice R.na R.G R.nc, .slice R.la R.M R.lc, .slice R.fa R.K R.fc], .agg #[.slice R'.sa R'.sn R'.sc, .slice R'.na R'.G R'.nc, .slice R'.la R'.M R'.lc, .slice R'.fa R'.K R'.fc]] z fun e w' => e = .returned (.bool true) ∧ Below z.heap.size z w') := hid (fun z hz =>
    sameW_any R R' z ((HR2.out.1.below HB3.out).below hz) ((HR'.out.1.below hbB).below hz) hsm)
  have hee : (rnE 0 nx G == rnE 0 nx G) = true := by simp
  have HBF : Hid (Below w.heap.size w W3) := hid (HW.out.trans ((HB2.out.1.trans (HB3.out.mono HB2.out.1.size)).mono HW.out.size))
  generalize rnE 0 nx G = rr at *
  clear hb3 hs3 hbB hsB C3 r0 r1 r2 r3 p0 p1 x0 x1 hsm
  go_wp2_with fail
  refine (C4.out _ (Below.refl _ _)).mono ?_
  rintro e w4 ⟨rfl, q, rfl⟩
  go_wp2_with fail
  refine (C5.out _ (below_drewN (Below.refl _ _) _)).mono ?_
  rintro e w5 ⟨rfl, hb5⟩
  have HF : Hid (Below w.heap.size w w5) := hid (HBF.out.trans (((below_drewN (Below.refl _ _) _).trans hb5).mono HBF.out.size))
  clear hb5
  go_wp2
  go_ret
  exact ⟨rfl, HF.out⟩

end Go.Proofs.Ythpbgfodejoecaa

namespace Go.Proofs.Ythpbgfodejoecaa
open Go.ChangeShapes Go.WideShapes Go.ChangeAt Go.RowKit Go.Deep

theorem Try.own : ownKnob Try.prog.godebug = none := by kernel_rfl
theorem Try.laidOut : laidOutB Try.prog = true := by kernel_rfl
theorem Try.cells3 : Try.prog.cellsOf 3 = 1 := by kernel_rfl
theorem reach_eq : reachBytes = 140737488351232 := rfl

theorem add_none (b o k : Nat) : (⟨b, o, none⟩ : Addr).add k = ⟨b, o + k, none⟩ := by
  unfold Addr.add
  split <;> simp_all

section
variable {H : Type} {enc : TypeId × Value → H} {W : World} {held : Bool}

end
theorem weights_le {H : Type} {P : Program} {ts : List TypeId} {ds : List (DataW H)} (h : (DataW.weightsEach P ts ds).all (· ≤ reachBytes) = true) {j : Nat} {t : TypeId} {d : DataW H}
    (ht : ts[j]? = some t) (hd : ds[j]? = some d) : ∀ n ∈ d.weights P t, n ≤ reachBytes :=
  fun _ hn => of_decide_eq_true (List.all_eq_true.1 h _ (DataW.weights_mem_each ht hd _ hn))

end Go.Proofs.Ythpbgfodejoecaa

namespace Go.Proofs.Ythpbgfodejoecaa
open Go.ChangeShapes Go.WideShapes Go.ChangeAt Go.RowKit Go.Deep Go.Joins

theorem Try.cells25 : Try.prog.cellsOf 25 = 2 := by kernel_rfl
theorem Try.cells55 : Try.prog.cellsOf 84 = 2 := by kernel_rfl
theorem Try.cells37 : Try.prog.cellsOf 86 = 2 := by kernel_rfl
theorem Try.cells9 : Try.prog.cellsOf 9 = 1 := by kernel_rfl
theorem Try.bytes55 : Try.prog.bytesOf 84 = 24 := by kernel_rfl
theorem Try.bytes37 : Try.prog.bytesOf 86 = 16 := by kernel_rfl

section
variable {H : Type} {enc : TypeId × Value → H} {W : World} {held : Bool}

theorem spot_none {x : Addr} {v : Value} (h : W.cell? (x.add 0) = some v) : x = ⟨x.block, x.off, none⟩ := by
  obtain ⟨b, o, s⟩ := x
  have hs : s = none := by simpa [Addr.add] using World.cell?_spot h
  subst hs
  rfl

theorem open_nds {fuel : Nat} {v : Value} {y : DataW H × List MemPlace} (h : DataW.trod enc Try.prog W 0 (fun _ => true) held fuel 22 [v] = some y) (hw : ∀ n ∈ y.1.weights Try.prog 22, n ≤ reachBytes) :
    ∃ a N c M K, v = .slice a N c ∧ Nds W a N M K ∧ N ≤ c ∧ N ≤ 140737488355328 ∧ ∀ i, i < N → (M i).size ≤ maxLen := by
  rcases open_slice_pairs Try.underlying22 Try.underlying84 Try.cells55 rfl rfl Try.cells9 Try.cells3 h with ⟨hcs, _⟩ | ⟨a, len, cap, m, n, V0, V1, D0, D1, P0, P1, hcs, _, hl, _, hm, hx, hrows⟩
  · cases hcs
    exact ⟨none, 0, 0, fun _ => ⟨#[]⟩, fun _ => 0, rfl, ⟨0, 0, fun hh => by omega, fun i hi => by omega⟩, Nat.le_refl _, by omega, fun i hi => by omega⟩
  · cases hcs
    subst hx
    have hm' : m = cap := by simpa using hm
    subst hm'
    have hbig := hw ((len + (m - len)) * 24) (by simp [DataW.weights, Try.underlying22, Try.bytes55])
    rw [reach_eq] at hbig
    have each : ∀ i, i < len → ∃ q : ByteArray × Int, W.cell? (a.add (i * 2)) = some (.string q.1) ∧ W.cell? (a.add (i * 2 + 1)) = some (.int .i64 q.2) ∧ q.1.size ≤ maxLen := by
      intro i hi
      obtain ⟨h1, h2, h3, h4⟩ := hrows i (by omega)
      obtain ⟨s, hs, _, hz⟩ := DataW.trod_string Try.underlying9 h3
      obtain ⟨k, hk, _, _⟩ := DataW.trod_int Try.underlying3 h4
      simp only [List.cons.injEq, and_true] at hs hk
      rw [hs] at h1
      rw [hk] at h2
      exact ⟨(_, _), h1, h2, hz⟩
    have : Inhabited (ByteArray × Int) := ⟨(⟨#[]⟩, 0)⟩
    obtain ⟨q, hq⟩ := choose_lt each
    refine ⟨some a, len, m, fun i => (q i).1, fun i => (q i).2, rfl, ?_, hl, by omega, fun i hi => (hq i hi).2.2⟩
    by_cases h0 : 0 < len
    · have ha := spot_none (by simpa using (hq 0 h0).1)
      rw [ha] at hq ⊢
      refine ⟨a.block, a.off, fun _ => rfl, fun i hi => ⟨?_, ?_⟩⟩
      · have := (hq i hi).1
        rwa [add_none] at this
      · have := (hq i hi).2.1
        rwa [add_none, ← Nat.add_assoc] at this
    · exact ⟨0, 0, fun hh => absurd hh h0, fun i hi => by omega⟩

theorem open_fls {fuel : Nat} {v : Value} {y : DataW H × List MemPlace} (h : DataW.trod enc Try.prog W 0 (fun _ => true) held fuel 23 [v] = some y) (hw : ∀ n ∈ y.1.weights Try.prog 23, n ≤ reachBytes) :
    ∃ a F c A B, v = .slice a F c ∧ Fls W a F A B ∧ F ≤ 140737488355328 := by
  rcases open_slice_pairs Try.underlying23 Try.underlying86 Try.cells37 rfl rfl Try.cells3 Try.cells3 h with ⟨hcs, _⟩ | ⟨a, len, cap, m, n, V0, V1, D0, D1, P0, P1, hcs, _, hl, _, hm, hx, hrows⟩
  · cases hcs
    exact ⟨none, 0, 0, fun _ => 0, fun _ => 0, rfl, ⟨0, 0, fun hh => by omega, fun i hi => by omega⟩, by omega⟩
  · cases hcs
    subst hx
    have hm' : m = cap := by simpa using hm
    subst hm'
    have hbig := hw ((len + (m - len)) * 16) (by simp [DataW.weights, Try.underlying23, Try.bytes37])
    rw [reach_eq] at hbig
    have each : ∀ i, i < len → ∃ q : Int × Int, W.cell? (a.add (i * 2)) = some (.int .i64 q.1) ∧ W.cell? (a.add (i * 2 + 1)) = some (.int .i64 q.2) := by
      intro i hi
      obtain ⟨h1, h2, h3, h4⟩ := hrows i (by omega)
      obtain ⟨s, hs, _, _⟩ := DataW.trod_int Try.underlying3 h3
      obtain ⟨k, hk, _, _⟩ := DataW.trod_int Try.underlying3 h4
      simp only [List.cons.injEq, and_true] at hs hk
      rw [hs] at h1
      rw [hk] at h2
      exact ⟨(_, _), h1, h2⟩
    obtain ⟨q, hq⟩ := choose_lt each
    refine ⟨some a, len, m, fun i => (q i).1, fun i => (q i).2, rfl, ?_, by omega⟩
    by_cases h0 : 0 < len
    · have ha := spot_none (by simpa using (hq 0 h0).1)
      rw [ha] at hq ⊢
      refine ⟨a.block, a.off, fun _ => rfl, fun i hi => ⟨?_, ?_⟩⟩
      · have := (hq i hi).1
        rwa [add_none] at this
      · have := (hq i hi).2
        rwa [add_none, ← Nat.add_assoc] at this
    · exact ⟨0, 0, fun hh => absurd hh h0, fun i hi => by omega⟩

set_option maxRecDepth 100000 in
theorem open_prc {r : Reach} {b0 : Nat} {v : Value} {d : DataW H} {p : List MemPlace} (hv : Value.okWide Try.prog W r b0 25 v) (h : DataW.Trod enc Try.prog W 0 (fun _ => true) held 25 v d p) (hw : ∀ n ∈ d.weights Try.prog 25, n ≤ reachBytes) :
    ∃ na N nc fa F fc M K A B, v = .agg #[.slice na N nc, .slice fa F fc] ∧ Prc W na N nc fa F M K A B ∧ ∀ i, i < N → (M i).size ≤ maxLen := by
  obtain ⟨v0, v1, y0, y1, n, rfl, rfl, _, h0, h1⟩ := open_agg2 Try.underlying25 (by kernel_rfl) Try.cells25 hv h
  obtain ⟨na, N, nc, M, K, rfl, hN, hc, hn, hs⟩ := open_nds h0 (fun x hx => hw x (by simp only [DataW.weights, Try.underlying25]; exact List.mem_append.2 (Or.inl hx)))
  obtain ⟨fa, F, fc, A, B, rfl, hF, hf⟩ := open_fls h1 (fun x hx => hw x (by simp only [DataW.weights, Try.underlying25]; exact List.mem_append.2 (Or.inr (List.mem_append.2 (Or.inl hx)))))
  exact ⟨na, N, nc, fa, F, fc, M, K, A, B, rfl, ⟨hN, hF, hc, hn, hf⟩, hs⟩

end
end Go.Proofs.Ythpbgfodejoecaa
