/- The law RunsWalks, walked. -/
import Derived.Test.YthpbgfodejoecaaPzSpLawJ
import Derived.Test.YthpbgfodejoecaaRwfJ
import Derived.Test.YthpbgfodejoecaaPzGameWalk
namespace Go.Proofs.Ythpbgfodejoecaa
open Go.RowKit Go.Maps

set_option maxRecDepth 20000 in
set_option maxHeartbeats 8000000 in
theorem runsWalks_walk {na fa : Option Addr} {N nc F fc : Nat} {M : Nat → ByteArray} {K A B : Nat → Int} {w : World} (hp : Prc w na N nc fa F M K A B) (tk st : Int) {da : Option Addr} {D dc : Nat} {d : Nat → Int} (hD : D ≤ 1048576) (hd : Row w da D d) :
    Calls Try.prog 5 #[.agg #[.slice na N nc, .slice fa F fc], .int .i64 tk, .int .i64 st, .slice da D dc] w fun e w' => e = .returned (.bool true) ∧ Below w.heap.size w w' := by
  obtain ⟨e0, he⟩ := chk_ex N F M K A B
  obtain ⟨X, hX⟩ := xok_ex K A B F (stAll K A B F N)
  obtain ⟨W, eW⟩ : ∃ x, x = w.alloc (.cells #[.slice na N nc, .slice fa F fc] 25) := ⟨_, rfl⟩
  have HW : Hid (Below w.heap.size w W) := by subst eW; exact box_below _ _
  have HBx : Hid (∀ w1, Below W.heap.size W w1 → w1.cell? ⟨w.heap.size, 0, none⟩ = some (.slice na N nc) ∧ w1.cell? ⟨w.heap.size, 1, none⟩ = some (.slice fa F fc)) := fun w1 h => by
    subst eW
    exact ⟨new_alloc h rfl, new_alloc h rfl⟩
  have HEW : Hid (w.alloc (.cells #[.slice na N nc, .slice fa F fc] 25) = W) := eW.symm
  have HPW : Hid (Prc W na N nc fa F M K A B) := hp.below HW.out
  have C0 := hid (straight_any W)
  have C1 := fun (z : World) (hz : Below W.heap.size W z) => runsOf_any (fc := fc) (HPW.out.below hz) he tk st hX
  have HSok := hid (fun h => sok_of (tk := tk) (st := st) (X := X) he hX h)
  have HEz : Hid (xE (spE e0 (stAll K A B F N).length) tk st (xall tk st K A B F (stAll K A B F N) X) = 0 → spE e0 (stAll K A B F N).length = 0 ∧ e0 = 0) := hid (fun h => ⟨(x_ok h).1, (spE_zero (x_ok h).1).1⟩)
  have HStep : Hid (xE (spE e0 (stAll K A B F N).length) tk st (xall tk st K A B F (stAll K A B F N) X) = 0 → ∀ (k s : Nat) (m : Nat → Int), _) := hid (fun h k s m => rw_step (k := k) (s := s) (m := m) hX (steps_lt (by rw [(spE_zero (x_ok h).1).1] at he; exact he)) h rfl rfl)
  have HFst := hid (fun h => rw_first (E := spE e0 (stAll K A B F N).length) (tk := tk) (st := st) (K := K) (A := A) (B := B) (F := F) (l := stAll K A B F N) (X := X) h)
  have HNd := hid (st_nodes (K := K) (A := A) (B := B) (F := F) (N := N))
  have CW := hid (fun (z : World) (hz : Below w.heap.size w z) => walked_any (fc := fc) (dc := dc) (hp.below hz) he hD (hd.below hz))
  have CS := hid (fun (z : World) (hz : Below w.heap.size w z) => of_any na fa N nc F fc M K A B e0 z (hp.below hz) he)
  have HN20 := hid (fun (h : e0 = 0) => (chk_zero (h ▸ he)).1.1)
  generalize hll : stAll K A B F N = l at *
  generalize hE0 : spE e0 l.length = E0 at *
  have HE0 := hid hE0
  generalize hE1 : xE E0 tk st (xall tk st K A B F l X) = E1 at *
  generalize hnx : xN E0 tk st (xall tk st K A B F l X) = nx at *
  generalize hmk : xM E0 tk st (xall tk st K A B F l X) = marks at *
  have C1 := hid C1
  obtain ⟨G, hG⟩ : ∃ G, G = marks.length := ⟨_, rfl⟩
  have HGm := hid hG
  rw [← hG] at C1 HStep HFst
  clear eW hp he hX hll hE0 hE1 hnx hmk hG hd
  go_enter Try.func5, Try.ntmps5
  go_wp2_with fail
  rw [HEW.out]
  refine C0.out.mono ?_
  rintro e w0 ⟨⟨na', fa', rfl, hpr⟩, hb0⟩
  have CSt := hid (st_of hpr)
  clear C0
  go_wp2_with fail
  refine CSt.out.mono ?_
  rintro e w1 ⟨hb1, sa, sna, sla, sfa, oa, sc, snc, slc, sfc, oc, X0, Y0, U0, rfl, HZ⟩
  obtain ⟨W1, hW1⟩ : ∃ x, w1.alloc (.cells #[.slice sa 1 sc, .slice sna 3 snc, .slice sla 3 slc, .slice sfa 2 sfc] 30) = x := ⟨_, rfl⟩
  have HB1 : Hid (Below W.heap.size W W1 ∧ Below w1.heap.size w1 W1) := hid (by subst hW1; exact ⟨(hb0.trans (hb1.mono hb0.size)).trans ((box_below _ _).mono (hb0.trans (hb1.mono hb0.size)).size), box_below _ _⟩)
  have x0 : W1.cell? ⟨w1.heap.size, 2, none⟩ = some (.slice sla 3 slc) := by subst hW1; exact cell_of_alloc rfl
  obtain ⟨b3, o3, ha3, hc3⟩ := HZ.out.2.2.2.1
  obtain rfl := ha3 (by omega)
  have y0 : W1.cell? ⟨b3, o3, none⟩ = some (.int .u64 2) := by
    have h1 := below_c HB1.out.2 (hc3 0 (by omega))
    rw [Nat.add_zero, HZ.out.2.2.2.2] at h1
    exact h1
  obtain ⟨p0, p1⟩ := HBx.out W1 HB1.out.1
  have C1b := hid (C1.out W1 HB1.out.1)
  clear hb0 hb1 CSt hc3 ha3
  go_wp2_with fail
  refine C1b.out.mono ?_
  rintro e w3 ⟨hb3, hs3⟩
  obtain ⟨R, ob, od, n, X1, Y1, rfl, HR⟩ := rn_all hs3
  obtain ⟨W3, hW3, hbA, hsA, hBwA⟩ := boxw w3 R
  obtain ⟨W4, hW4⟩ : ∃ x, W3.alloc (.cells #[.slice ob n od] 31) = x := ⟨_, rfl⟩
  have hb4 : Below W3.heap.size W3 W4 := by subst hW4; exact box_below _ _
  have HB4 : Hid (Below W.heap.size W W4 ∧ W3.heap.size = w3.heap.size + 1) := hid ⟨((HB1.out.1.trans (hb3.mono HB1.out.1.size)).trans (hbA.mono (HB1.out.1.trans (hb3.mono HB1.out.1.size)).size)).trans (hb4.mono ((HB1.out.1.trans (hb3.mono HB1.out.1.size)).trans (hbA.mono (HB1.out.1.trans (hb3.mono HB1.out.1.size)).size)).size), hsA⟩
  have hob : W4.cell? ⟨w3.heap.size + 1, 0, none⟩ = some (.slice ob n od) := by subst hW4; rw [← hsA]; exact cell_of_alloc rfl
  have HR4 := hid (And.intro ((HR.out.1.below hbA).below hb4) ((HR.out.2.1.below hbA).below hb4))
  have HBwA := hid (hBwA.below hb4)
  have Hob0 := hid hob
  have HRs := hid HR.out.2.2
  have hzsz := hsA
  clear hb3 hs3 hbA hsA hBwA C1b hb4 x0 y0 p0 p1
  obtain ⟨p0, p1⟩ := HBx.out W4 HB4.out.1
  obtain ⟨r0, r1, r2, r3⟩ := HBwA.out
  by_cases hz : rnE E1 nx G = 0
  case neg =>
    have hzb : (rnE E1 nx G != 0) = true := by rw [bne_iff_ne]; exact hz
    rcases HRs.out with ⟨_, h2, h3, _⟩ | ⟨h1, _⟩
    case inr => exact absurd h1 hz
    subst h3
    have HBF : Hid (Below w.heap.size w W4) := hid (HW.out.trans (HB4.out.1.mono HW.out.size))
    generalize rnE E1 nx G = rr at *
    clear h2 hz
    go_wp2
    go_ret
    exact ⟨rfl, HBF.out⟩
  have hzb : (rnE E1 nx G != 0) = false := by rw [hz]; rfl
  have hn6 := rns_small HRs.out
  rcases HRs.out with ⟨h1, _⟩ | ⟨_, hRA, hn, hX1, hY1⟩
  · exact absurd hz h1
  have hE1 : E1 = 0 := by
    unfold rnE at hz
    by_cases h : E1 ≠ 0
    · rw [if_pos h] at hz; exact absurd hz h
    · exact Classical.not_not.1 h
  have HOk := hid (HSok.out hE1)
  have HRA := hid hRA
  have HNn := hid (And.intro hn (And.intro hX1 hY1))
  have HSt := hid (HStep.out hE1)
  have HF0 := hid (HFst.out hE1)
  have HEz2 := hid (HEz.out hE1)
  clear hRA hn hX1 hY1 C1 HZ hE1
  rw [hz]
  clear hz
  have CWb := hid (CW.out W4 (HW.out.trans (HB4.out.1.mono HW.out.size)))
  go_wp2_with fail
  refine CWb.out.mono ?_
  rintro e w5 ⟨hb5, hwd⟩
  have hwd2 : ∃ (n' : Nat) (Ms : Nat → Nat → Int) (S : Nat → Nat) (ga : Option Addr) (gc : Nat) (sa' : Option Addr) (sc' : Nat), n' ≤ D ∧ e = .returned (.tuple #[.slice ga (n' + 1) gc, .slice sa' n' sc']) ∧ Row w5 sa' n' (fun i => (S i : Int)) ∧ Pth K A B F l n' Ms S := by
    rcases hwd with ⟨h1, _⟩ | ⟨_, n', Ms, S, ga, gc, sa', sc', h1, h2, _, h3, h4⟩
    · exact absurd HEz2.out.1 h1
    · exact ⟨n', Ms, S, ga, gc, sa', sc', h1, h2, h3, h4⟩
  obtain ⟨n', Ms, S, ga, gc, sa', sc', hn', rfl, hrow, hpth⟩ := hwd2
  have HPth := hid hpth
  have HRow := hid hrow
  have HB5 : Hid (Below W.heap.size W w5 ∧ Below W4.heap.size W4 w5) := hid ⟨HB4.out.1.trans (hb5.mono HB4.out.1.size), hb5⟩
  obtain ⟨p0, p1⟩ := HBx.out w5 HB5.out.1
  have CSb := hid (CS.out w5 (HW.out.trans (HB5.out.1.mono HW.out.size)))
  clear hwd hrow hpth hb5 CWb r0 r1 r2 r3 hob
  go_wp2_with fail
  refine CSb.out.mono ?_
  rintro e w6 ⟨hb6, hs6⟩
  have hsp6 : ∃ la lc, e = .returned (.tuple #[.slice la l.length lc, .int .i64 0]) ∧ Sts w6 la l.length (fun i => l.getD i (0, 0, 0)) := by
    rcases hs6 with ⟨h1, _⟩ | ⟨_, h1, _⟩ | ⟨_, _, a, c, h1, _, h2⟩
    · exact absurd HEz2.out.2 h1
    · have := HOk.out.lfew; omega
    · exact ⟨a, c, h1, h2⟩
  obtain ⟨la, lc, rfl, hSl⟩ := hsp6
  have HSl := hid hSl
  have HB6 : Hid (Below W4.heap.size W4 w6 ∧ Below W.heap.size W w6) := hid ⟨HB5.out.2.trans (hb6.mono HB5.out.2.size), HB5.out.1.trans (hb6.mono HB5.out.1.size)⟩
  obtain ⟨r0, r1, r2, r3⟩ := HBwA.out.below HB6.out.1
  have HBw6 := hid (HBwA.out.below HB6.out.1)
  have HR6 := hid (And.intro (HR4.out.1.below HB6.out.1) (HR4.out.2.below HB6.out.1))
  have Hob : Hid (w6.cell? ⟨w3.heap.size + 1, 0, none⟩ = some (.slice ob n od)) := hid (below_c HB6.out.1 Hob0.out)
  have HRow6 := hid (HRow.out.below hb6)
  have HA0 : Hid (Row w6 R.sa R.sn (fun i => (rnM nx G 0).getD i 0) ∧ R.sn = (rnM nx G 0).length) := hid ⟨by
    have := HR6.out.1.start
    rw [HRA.out.S] at this
    exact this, HRA.out.sn⟩
  clear hs6 hSl hb6 CSb p0 p1
  go_wp2_with fail
  clear r0 r1 r2 r3
  go_loopw [19, 72] (fun av iv wr => ∃ (j m mi : Nat) (a : Option Addr) (c : Nat), j ≤ n' ∧ iv = .int .i64 j ∧ av = .slice a m c ∧ Hid (Below w6.heap.size w6 wr ∧ mi < G ∧ marks.getD mi [] = lst F (Ms j) ∧ m = (rnM nx G mi).length ∧ Row wr a m (fun i => (rnM nx G mi).getD i 0))) (fun _ iv _ => n' - (intOf iv).toNat)
  case atStart => exact ⟨0, _, 0, _, _, Nat.zero_le _, rfl, rfl, hid ⟨Below.refl _ _, HF0.out.1, by rw [HPth.out.zero]; exact HF0.out.2, HA0.out.2, HA0.out.1⟩⟩
  case round =>
    obtain ⟨j, m, mi, a, c, hj, rfl, rfl, HQ⟩ := hrel
    by_cases hlt : j < n'
    · have hjz : (j : Int) < n' := by omega
      obtain ⟨s, hs⟩ : ∃ s, s = S j := ⟨_, rfl⟩
      obtain ⟨hs1, hs2, hs3⟩ := HPth.out.step j hlt
      obtain ⟨b7, o7, ha7, hc7⟩ := HRow6.out
      obtain rfl := ha7 (by omega)
      have q0 := below_c HQ.out.1 (hc7 j hlt)
      dsimp only at q0
      rw [← hs] at q0 hs1 hs2 hs3
      obtain ⟨hex, hall⟩ := HSt.out mi s (Ms j) HQ.out.2.1 HQ.out.2.2.1 hs1 hs2
      obtain ⟨W2, hW2⟩ : ∃ x, wr.alloc (.cells #[.int .i64 s] 3) = x := ⟨_, rfl⟩
      have hb2 : Below wr.heap.size wr W2 := by subst hW2; exact box_below _ _
      have k0 : W2.cell? ⟨wr.heap.size, 0, none⟩ = some (.int .i64 s) := by subst hW2; exact cell_of_alloc rfl
      have hB2 := HQ.out.1.trans (hb2.mono HQ.out.1.size)
      have hXe : X1 = fun i => (rnT nx G i).2.1 := HNn.out.2.1
      have hmn : m ≤ 600 := by rw [HQ.out.2.2.2.1]; have := rnM_len nx G mi; have := HNn.out.1; omega
      have CF := hid (firstOf a ob m c n od (w3.heap.size + 1) wr.heap.size (fun i => (rnM nx G mi).getD i 0) X1 Y1 s W2 (by omega) (HQ.out.2.2.2.2.below hb2) (fun i hi => by
        obtain ⟨i2, h1, h2, _⟩ := rnM_at (nx := nx) (G := G) (k := mi) (y := i) (by rw [← HQ.out.2.2.2.1]; exact hi)
        have := HNn.out.1
        show 0 ≤ (rnM nx G mi).getD i 0 ∧ (rnM nx G mi).getD i 0 < n
        rw [h1]; omega) (HR6.out.2.below hB2) (below_c hB2 Hob.out) k0 (by
        obtain ⟨i, h1, h2, h3⟩ := hex
        obtain ⟨y, h4, h5⟩ := rnM_has h1 h2
        refine ⟨y, by rw [HQ.out.2.2.2.1]; exact h4, ?_⟩
        show X1 ((rnM nx G mi).getD y 0).toNat = s
        rw [h5, hXe]
        exact h3))
      have HS1 := hid hs1
      have HS3 := hid hs3
      have HAll := hid hall
      have HB2 := hid hB2
      have hr2 : Row W2 a m (fun i => (rnM nx G mi).getD i 0) := HQ.out.2.2.2.2.below hb2
      have HR2 := hid hr2
      have HK0 := hid k0
      clear hc7 ha7 hs hs1 hs2 hs3 hex hall hb2 hB2 hXe hr2
      go_wp2_with fail
      refine CF.out.mono ?_
      rintro e w7 ⟨⟨y, hy, rfl, hyx⟩, hb7⟩
      have hB7 := HB2.out.trans (hb7.mono HB2.out.size)
      have HB7 := hid hB7
      obtain ⟨i, hi1, hi2, hi3⟩ := rnM_at (nx := nx) (G := G) (k := mi) (y := y) (by rw [← HQ.out.2.2.2.1]; exact hy)
      have hyx2 : (rnT nx G i).2.1 = s := by
        have h1 : X1 ((rnM nx G mi).getD y 0).toNat = s := hyx
        rw [hi1, HNn.out.2.1] at h1
        exact h1
      obtain ⟨k2, hk2, hk2G, hk2m⟩ := HAll.out i hi2 hi3 hyx2
      have hin : i < n := by rw [HNn.out.1]; exact hi2
      have hiz : (i : Int) < n := by omega
      have hsl : s < l.length := HS1.out
      have hsz : (s : Int) < l.length := by omega
      have hyz : (y : Int) < m := by omega
      obtain ⟨ba, oa', haa, hca⟩ := HR2.out
      obtain rfl := haa (by omega)
      have q1 := below_c hb7 (hca y hy)
      dsimp only at q1
      rw [hi1] at q1
      have k1 := below_c hb7 HK0.out
      obtain ⟨r0, r1, r2, r3⟩ := HBw6.out.below hB7
      have hRG : R.G = n := by rw [HRA.out.G, HNn.out.1]
      have hRM : R.M = n := by rw [HRA.out.M, HNn.out.1]
      obtain ⟨bl, ol, hal, hcl⟩ := HR6.out.1.label
      have hll := hal (by omega)
      have q2 := below_c hB7 (hcl i (by omega))
      obtain ⟨bt, ot, hat, hct⟩ := HSl.out
      obtain rfl := hat (by omega)
      have q3 := below_c hB7 (hct s hsl).1
      obtain ⟨g, hg, hg20⟩ : ∃ g : Nat, (l.getD s (0, 0, 0)).1 = g ∧ g < 20 := ⟨((l.getD s (0, 0, 0)).1).toNat, by have := HOk.out.nodes s hsl; omega, by have := HOk.out.nodes s hsl; have := HOk.out.N20; omega⟩
      dsimp only at q2 q3
      rw [hg] at q3
      have hlab : ((R.Lb i : Nat) : Int) = IntKind.u64.wrap (2 ^ g) := by
        rw [HRA.out.Lb, wrap_two hg20]
        show ((lbN l (rnT nx G i) : Nat) : Int) = _
        unfold lbN
        rw [if_neg (by rw [hyx2]; omega), hyx2, Int.toNat_natCast, hg, Int.toNat_natCast]
      rw [hlab] at q2
      obtain ⟨bn, on, han, hcn⟩ := HR6.out.1.next
      have hnn := han (by omega)
      obtain ⟨an, cn, hck, hrn⟩ := hcn i (by omega)
      have q4 := below_c hB7 hck
      rw [hll, hRM] at r2
      rw [hnn, hRG] at r1
      have hbe : (IntKind.u64.wrap (2 ^ g) != IntKind.u64.wrap (2 ^ g)) = false := by simp
      have HNew : Hid (k2 < G ∧ marks.getD k2 [] = lst F (Ms (j + 1)) ∧ R.L i = (rnM nx G k2).length ∧ Row w7 an (R.L i) (fun q => (rnM nx G k2).getD q 0)) := hid ⟨hk2G, by rw [HS3.out]; exact hk2m, by rw [HRA.out.L]; show (rnM nx G (rnT nx G i).2.2.toNat).length = _; rw [hk2]; rfl, by
        have h1 := hrn.below hB7
        rw [HRA.out.Z] at h1
        have h2 : (fun j => (rnM nx G (rnT nx G i).2.2.toNat).getD j 0) = fun q => (rnM nx G k2).getD q 0 := by rw [hk2]; rfl
        have h3 : Row w7 an (R.L i) (fun j => (rnM nx G (rnT nx G i).2.2.toNat).getD j 0) := h1
        rw [h2] at h3
        exact h3⟩
      generalize R.L i = lg at *
      clear hyx hi1 hi2 hi3 hyx2 hk2 hk2G hk2m hca haa hcl hal hll hct hat hg hlab hcn han hnn hck hrn hB7 hb7 CF hRG hRM
      go_wp2_with fail
      go_quiet (fail)
      go_wp2_with fail
      go_quiet (fail)
      go_wp2
      go_roundw
      case rel => exact ⟨j + 1, lg, k2, an, cn, by omega, by go_num, rfl, hid ⟨below_drewN HB7.out _, HNew.out.1, HNew.out.2.1, HNew.out.2.2.1, HNew.out.2.2.2.below (below_drewN (Below.refl _ _) _)⟩⟩
      case measure => simp [intOf]; omega
    · obtain rfl : n' = j := by omega
      have HBF : Hid (Below w.heap.size w wr) := hid (HW.out.trans ((HB6.out.2.trans (HQ.out.1.mono HB6.out.2.size)).mono HW.out.size))
      go_wp2
      go_ret
      exact ⟨rfl, HBF.out⟩

end Go.Proofs.Ythpbgfodejoecaa
