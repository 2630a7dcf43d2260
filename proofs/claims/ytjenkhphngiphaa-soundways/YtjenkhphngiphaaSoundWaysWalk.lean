/- The law SoundWays, walked. -/
import Derived.Test.YtjenkhphngiphaaSndPlay0J
import Derived.Test.YtjenkhphngiphaaRefFd0
import Derived.Deep.CutRange
namespace Go.Proofs.Ytjenkhphngiphaa
open Go.RowKit Go.Maps

set_option maxRecDepth 20000 in
set_option maxHeartbeats 8000000 in
theorem soundWays_walk {na fa : Option Addr} {N nc F fc : Nat} {M : Nat → ByteArray} {K A B : Nat → Int} {w : World} (hp : Prc w na N nc fa F M K A B) (tk st : Int) :
    Calls Try.prog 4 #[.agg #[.slice na N nc, .slice fa F fc], .int .i64 tk, .int .i64 st] w fun e w' => e = .returned (.bool true) ∧ Below w.heap.size w w' := by
  obtain ⟨e0, he⟩ := chk_ex N F M K A B
  obtain ⟨X, hX⟩ := xok_ex K A B F (stAll K A B F N)
  have HE : Hid (ChkIs N F M K A B e0) := he
  have HXo : Hid (XOk K A B F (stAll K A B F N) X) := hX
  obtain ⟨W, eW⟩ : ∃ x, x = w.alloc (.cells #[.slice na N nc, .slice fa F fc] 25) := ⟨_, rfl⟩
  have HW : Hid (Below w.heap.size w W) := by subst eW; exact box_below _ _
  have HBx : Hid (∀ w1, Below W.heap.size W w1 → w1.cell? ⟨w.heap.size, 0, none⟩ = some (.slice na N nc) ∧ w1.cell? ⟨w.heap.size, 1, none⟩ = some (.slice fa F fc)) := fun w1 h => by
    subst eW
    exact ⟨new_alloc h rfl, new_alloc h rfl⟩
  have HEW : Hid (w.alloc (.cells #[.slice na N nc, .slice fa F fc] 25) = W) := eW.symm
  have HPW : Hid (Prc W na N nc fa F M K A B) := hp.below HW.out
  have C0 : Hid (Calls Try.prog 10 #[] W fun e w' => (∃ na fa, e = .returned (.agg #[.slice na 3 3, .slice fa 2 2]) ∧ Prc w' na 3 3 fa 2 sMs sKs sAs sBs) ∧ Below W.heap.size W w') := straight_any W
  clear eW hp he hX
  go_enter Try.func4, Try.ntmps4
  go_wp2_with fail
  rw [HEW.out]
  refine C0.out.mono ?_
  rintro e v1 ⟨⟨sa, sb, rfl, hsp⟩, hbv1⟩
  have HBv1 : Hid (Below W.heap.size W v1) := hbv1
  have C1 : Hid (Calls Try.prog 6 #[.agg #[.slice sa 3 3, .slice sb 2 2], .int .i64 1, .int .i64 9] v1 fun e w' => Below v1.heap.size v1 w' ∧ ∃ (a0 a3 a4 : Option Addr) (c0 c3 c4 n3 n4 : Nat), e = .returned (.tuple #[.agg #[.slice a0 0 c0, .int .i64 (-1), .int .i64 (-1), .slice a3 n3 c3, .slice a4 n4 c4], .int .i64 0])) := st_look hsp
  clear hsp hbv1 C0
  go_wp2_with fail
  refine C1.out.mono ?_
  rintro e v2 ⟨hbv2, x0, x3, x4, y0, y3, y4, m3, m4, rfl⟩
  have HBv2 : Hid (Below W.heap.size W v2) := HBv1.out.trans (hbv2.mono HBv1.out.size)
  obtain ⟨V2, eV2⟩ : ∃ x, x = v2.alloc (.cells #[.slice x0 0 y0, .int .i64 (-1), .int .i64 (-1), .slice x3 m3 y3, .slice x4 m4 y4] 28) := ⟨_, rfl⟩
  have HEV2 : Hid (v2.alloc (.cells #[.slice x0 0 y0, .int .i64 (-1), .int .i64 (-1), .slice x3 m3 y3, .slice x4 m4 y4] 28) = V2) := eV2.symm
  have HBV : Hid (Below W.heap.size W V2) := by subst eV2; exact HBv2.out.alloc HBv2.out.size _
  have C2 : Hid (Calls Try.prog 6 #[.agg #[.slice na N nc, .slice fa F fc], .int .i64 tk, .int .i64 st] V2 fun e w' => Below V2.heap.size V2 w' ∧ LkIs V2.heap.size (xE (spE e0 (stAll K A B F N).length) tk st (xall tk st K A B F (stAll K A B F N) X)) N F K (stAll K A B F N) (xM (spE e0 (stAll K A B F N).length) tk st (xall tk st K A B F (stAll K A B F N) X)) (xN (spE e0 (stAll K A B F N).length) tk st (xall tk st K A B F (stAll K A B F N) X)) e w') := look_any (HPW.out.below HBV.out) HE.out tk st HXo.out
  obtain ⟨hc0, hc1⟩ := HBx.out v2 HBv2.out
  have hszv : w.heap.size < v2.heap.size := World.block_lt_of_cell? _ _ hc0
  clear eV2 hbv2 C1
  go_wp2_with fail
  rw [HEV2.out]
  refine C2.out.mono ?_
  rintro e w1 ⟨hb1, a0, a3, a4, c0, c3, c4, d, r1, r2, l1, l2, rfl, ho0, ho3, ho4, hcase⟩
  have HB1 : Hid (Below W.heap.size W w1) := HBV.out.trans (hb1.mono HBV.out.size)
  obtain ⟨W1, eW1⟩ : ∃ x, x = w1.alloc (.cells #[.slice a0 d.length c0, .int .i64 r1, .int .i64 r2, .slice a3 l1.length c3, .slice a4 l2.length c4] 28) := ⟨_, rfl⟩
  have HB1' : Hid (Below W.heap.size W W1 ∧ Below w1.heap.size w1 W1) := by subst eW1; exact ⟨HB1.out.alloc HB1.out.size _, box_below _ _⟩
  have HBx1 : Hid (∀ u, Below W1.heap.size W1 u → u.cell? ⟨w1.heap.size, 0, none⟩ = some (.slice a0 d.length c0) ∧ u.cell? ⟨w1.heap.size, 1, none⟩ = some (.int .i64 r1) ∧ u.cell? ⟨w1.heap.size, 2, none⟩ = some (.int .i64 r2) ∧ u.cell? ⟨w1.heap.size, 3, none⟩ = some (.slice a3 l1.length c3) ∧ u.cell? ⟨w1.heap.size, 4, none⟩ = some (.slice a4 l2.length c4)) := fun u hu => by
    subst eW1
    exact ⟨new_alloc hu rfl, new_alloc hu rfl, new_alloc hu rfl, new_alloc hu rfl, new_alloc hu rfl⟩
  have HEW1 : Hid (w1.alloc (.cells #[.slice a0 d.length c0, .int .i64 r1, .int .i64 r2, .slice a3 l1.length c3, .slice a4 l2.length c4] 28) = W1) := eW1.symm
  have HRs : Hid (∀ u, Below W1.heap.size W1 u → Row u a3 l1.length (fun i => l1.getD i 0) ∧ Row u a4 l2.length (fun i => l2.getD i 0)) := fun u hu => by
    have hb : Below w1.heap.size w1 u := HB1'.out.2.trans (hu.mono HB1'.out.2.size)
    exact ⟨(own_row' rfl ho3).below hb, (own_row' rfl ho4).below hb⟩
  clear hc0 hc1
  obtain ⟨hc0, hc1⟩ := HBx.out w1 HB1.out
  have hsz1 : w.heap.size < w1.heap.size := World.block_lt_of_cell? _ _ hc0
  have hy1z : xE (spE e0 (stAll K A B F N).length) tk st (xall tk st K A B F (stAll K A B F N) X) = xE (spE e0 (stAll K A B F N).length) tk st (xall tk st K A B F (stAll K A B F N) X) := rfl
  rcases hcase with ⟨hy, rfl, rfl, rfl, rfl, rfl⟩ | ⟨hy, hfd⟩
  · generalize xE (spE e0 (stAll K A B F N).length) tk st (xall tk st K A B F (stAll K A B F N) X) = y1 at *
    have hy' : (y1 != 0) = true := by rw [bne_iff_ne]; exact hy
    have C3 : Hid (∀ u, Calls Try.prog 8 #[.agg #[.slice a0 0 c0, .int .i64 0, .int .i64 0, .slice a3 0 c3, .slice a4 0 c4], .agg #[.slice none 0 0, .int .i64 0, .int .i64 0, .slice none 0 0, .slice none 0 0]] u fun e w' => e = .returned (.bool true) ∧ Below u.heap.size u w') := fun u => by
      have hr : ∀ a, Row u a 0 (fun _ => (0 : Int)) := fun a => ⟨0, 0, fun h => (by omega), fun i hi => (by omega)⟩
      exact sameFinding_any (by omega) (by omega) (by omega) (hr _) (hr _) (hr _) (hr _) (hr _) (hr _)
    simp only [List.length_nil] at HEW1 HBx1
    have HBw : Hid (Below w.heap.size w W1) := HW.out.trans (HB1'.out.1.mono HW.out.size)
    obtain ⟨k0, k1, k2, k3, k4⟩ := HBx1.out W1 (Below.refl _ _)
    clear hy hb1 ho0 ho3 ho4 C2 eW1 hy1z
    go_upto_region 5 with fail
    (try simp only [List.length_nil])
    rw [HEW1.out]
    go_wp2_with fail
    refine (C3.out _).mono ?_
    rintro e w3 ⟨rfl, hb3⟩
    have HF : Hid (Below w.heap.size w w3) := HBw.out.trans (hb3.mono HBw.out.size)
    clear hb3 C3
    go_wp2
    go_ret
    exact ⟨rfl, HF.out⟩
  · obtain ⟨hsok, he0⟩ : Sok N F (stAll K A B F N) (xM (spE e0 (stAll K A B F N).length) tk st (xall tk st K A B F (stAll K A B F N) X)) (xN (spE e0 (stAll K A B F N).length) tk st (xall tk st K A B F (stAll K A B F N) X)) ∧ e0 = 0 := ⟨sok_of HE.out HXo.out hy, (spE_zero (x_ok hy).1).1⟩
    subst he0
    obtain ⟨Q1, hq1, hp1, hm1⟩ := told_pth HE.out HXo.out hy hfd.toStill
    obtain ⟨Q2, hq2, hp2, hm2⟩ := told_pth HE.out HXo.out hy hfd.toNever
    have HSn : Hid (∀ m : Nat, m < (xM (spE 0 (stAll K A B F N).length) tk st (xall tk st K A B F (stAll K A B F N) X)).length → (snL (xN (spE 0 (stAll K A B F N).length) tk st (xall tk st K A B F (stAll K A B F N) X)) m = 0 → tally (X ((xM (spE 0 (stAll K A B F N).length) tk st (xall tk st K A B F (stAll K A B F N) X)).getD m [])) 1 (stAll K A B F N).length = 0) ∧ ∀ j, j < F → 0 ≤ mY (xM (spE 0 (stAll K A B F N).length) tk st (xall tk st K A B F (stAll K A B F N) X)) m j ∧ mY (xM (spE 0 (stAll K A B F N).length) tk st (xall tk st K A B F (stAll K A B F N) X)) m j ≤ 9) := fun m hm => still_none HE.out HXo.out hy hm
    have C3 : Hid (Calls Try.prog 11 #[.agg #[.slice na N nc, .slice fa F fc], .int .i64 tk, .int .i64 st] W1 fun e w' => Below W1.heap.size W1 w' ∧ EpIs W1.heap.size (spE 0 (stAll K A B F N).length) tk st F (xall tk st K A B F (stAll K A B F N) X) e w') := exploreF_any (HPW.out.below HB1'.out.1) HE.out tk st HXo.out
    have HEp : Hid (∀ e w', EpIs W1.heap.size (spE 0 (stAll K A B F N).length) tk st F (xall tk st K A B F (stAll K A B F N) X) e w' → ∃ (ma : Option Addr) (mc : Nat) (xa : Option Addr) (xc base : Nat), e = .returned (.tuple #[.agg #[.slice ma (xM (spE 0 (stAll K A B F N).length) tk st (xall tk st K A B F (stAll K A B F N) X)).length mc, .slice xa (xN (spE 0 (stAll K A B F N).length) tk st (xall tk st K A B F (stAll K A B F N) X)).length xc], .int .i64 0]) ∧ Gr w' ma (xM (spE 0 (stAll K A B F N).length) tk st (xall tk st K A B F (stAll K A B F N) X)).length (fun _ => F) (mY (xM (spE 0 (stAll K A B F N).length) tk st (xall tk st K A B F (stAll K A B F N) X)))) := fun e w' h => by
      obtain ⟨ma, mc, xa, xc, base, _, h1, h2⟩ := h
      rw [hy] at h1
      exact ⟨ma, mc, xa, xc, base, h1, mks_gr rfl h2.1⟩
    rw [hy]
    generalize hM1 : xM (spE 0 (stAll K A B F N).length) tk st (xall tk st K A B F (stAll K A B F N) X) = M1 at *
    generalize hN1 : xN (spE 0 (stAll K A B F N).length) tk st (xall tk st K A B F (stAll K A B F N) X) = N1 at *
    clear hM1 hN1
    have HS : Hid (Sok N F (stAll K A B F N) M1 N1) := hsok
    have HFd : Hid (FdIs N F K (stAll K A B F N) M1 N1 d r1 r2 l1 l2) := hfd
    have HQ1 : Hid ((∀ i, i < l1.length → 0 ≤ l1.getD i 0) ∧ Pth K A B F (stAll K A B F N) l1.length Q1 (fun i => (l1.getD i 0).toNat) ∧ ((r1 = -1 ∧ l1.length = 0) ∨ ∃ m : Nat, r1 = m ∧ m < M1.length ∧ ∀ j, j < F → Q1 l1.length j = mY M1 m j) ∧ l1.length ≤ 500) := ⟨hq1, hp1, by
      rcases hfd.toStill with ⟨g1, g2⟩ | ⟨m, _, _, g1, g2, _⟩
      · exact Or.inl ⟨g1, by rw [g2]; rfl⟩
      · exact Or.inr ⟨m, g1, g2, hm1 m g1⟩, by have := hfd.toStill.len; have := hsok.few; omega⟩
    have HQ2 : Hid ((∀ i, i < l2.length → 0 ≤ l2.getD i 0) ∧ Pth K A B F (stAll K A B F N) l2.length Q2 (fun i => (l2.getD i 0).toNat) ∧ ((r2 = -1 ∧ l2.length = 0) ∨ ∃ m : Nat, r2 = m ∧ m < M1.length ∧ ∀ j, j < F → Q2 l2.length j = mY M1 m j) ∧ l2.length ≤ 500) := ⟨hq2, hp2, by
      rcases hfd.toNever with ⟨g1, g2⟩ | ⟨m, _, _, g1, g2, _⟩
      · exact Or.inl ⟨g1, by rw [g2]; rfl⟩
      · exact Or.inr ⟨m, g1, g2, hm2 m g1⟩, by have := hfd.toNever.len; have := hsok.few; omega⟩
    have hF30 := hsok.F30
    have hG200 := hsok.few
    clear hy hy1z hq1 hp1 hm1 hq2 hp2 hm2 hfd hsok hb1 ho0 ho3 ho4 C2 eW1
    go_wp2_with fail
    rw [HEW1.out]
    refine C3.out.mono ?_
    rintro e w2 ⟨hb2, hep⟩
    obtain ⟨ma, mc, xa, xc, base, rfl, hgr⟩ := HEp.out e w2 hep
    generalize hG : M1.length = G at *
    have HG : Hid (M1.length = G) := hG
    generalize N1.length = xl at *
    obtain ⟨W2, eW2⟩ : ∃ x, x = w2.alloc (.cells #[.slice ma G mc, .slice xa xl xc] 35) := ⟨_, rfl⟩
    obtain ⟨W3, eW3⟩ : ∃ x, x = W2.alloc (.cells #[.int .i64 r1, .slice a3 l1.length c3, .int .i64 r2, .slice a4 l2.length c4] 44) := ⟨_, rfl⟩
    have hs2 : W2.heap.size = w2.heap.size + 1 := by subst eW2; simp
    have HB2 : Hid (Below W1.heap.size W1 W3 ∧ Below w2.heap.size w2 W3 ∧ Below W2.heap.size W2 W3) := by
      have h1 : Below w2.heap.size w2 W2 := by subst eW2; exact box_below _ _
      have h2 : Below W2.heap.size W2 W3 := by subst eW3; exact box_below _ _
      have h3 : Below w2.heap.size w2 W3 := h1.trans (h2.mono h1.size)
      exact ⟨hb2.trans (h3.mono hb2.size), h3, h2⟩
    have HEW3 : Hid ((w2.alloc (.cells #[.slice ma G mc, .slice xa xl xc] 35)).alloc (.cells #[.int .i64 r1, .slice a3 l1.length c3, .int .i64 r2, .slice a4 l2.length c4] 44) = W3) := by show _ = _; rw [eW3, eW2]
    have HAll : Hid (∀ u, Below W3.heap.size W3 u → ((u.cell? ⟨w.heap.size, 0, none⟩ = some (.slice na N nc) ∧ u.cell? ⟨w.heap.size, 1, none⟩ = some (.slice fa F fc)) ∧ (u.cell? ⟨w1.heap.size, 1, none⟩ = some (.int .i64 r1) ∧ u.cell? ⟨w1.heap.size, 2, none⟩ = some (.int .i64 r2)) ∧ u.cell? ⟨w2.heap.size, 0, none⟩ = some (.slice ma G mc)) ∧ Gr u ma G (fun _ => F) (mY M1) ∧ Below w.heap.size w u ∧ Prc u na N nc fa F M K A B) := fun u hu => by
      have h1 : Below W1.heap.size W1 u := HB2.out.1.trans (hu.mono HB2.out.1.size)
      have h0 : Below W.heap.size W u := HB1'.out.1.trans (h1.mono HB1'.out.1.size)
      obtain ⟨_, g1, g2, _, _⟩ := HBx1.out u h1
      refine ⟨⟨HBx.out u h0, ⟨g1, g2⟩, ?_⟩, hgr.below (HB2.out.2.1.trans (hu.mono HB2.out.2.1.size)), HW.out.trans (h0.mono HW.out.size), HPW.out.below h0⟩
      have h2 : Below W2.heap.size W2 u := HB2.out.2.2.trans (hu.mono HB2.out.2.2.size)
      subst eW2
      exact new_alloc h2 rfl
    have HPr : Hid (∀ k, k < 2 → ∃ (rk : Int) (ak : Option Addr) (ck nk : Nat) (lk : List Int) (Ms : Nat → Nat → Int), lk.length = nk ∧ nk ≤ 500 ∧ (∀ u, Below W3.heap.size W3 u → u.cell? ⟨w2.heap.size + 1, k * 2, none⟩ = some (.int .i64 rk) ∧ u.cell? ⟨w2.heap.size + 1, k * 2 + 1, none⟩ = some (.slice ak nk ck) ∧ Row u ak nk (fun i => lk.getD i 0)) ∧ (∀ i, i < nk → 0 ≤ lk.getD i 0) ∧ Pth K A B F (stAll K A B F N) nk Ms (fun i => (lk.getD i 0).toNat) ∧ ((rk = -1 ∧ nk = 0) ∨ ∃ m : Nat, rk = m ∧ m < G ∧ ∀ j, j < F → Ms nk j = mY M1 m j)) := fun k hk => by
      have hcs : ∀ u, Below W3.heap.size W3 u → u.cell? ⟨w2.heap.size + 1, 0, none⟩ = some (.int .i64 r1) ∧ u.cell? ⟨w2.heap.size + 1, 1, none⟩ = some (.slice a3 l1.length c3) ∧ u.cell? ⟨w2.heap.size + 1, 2, none⟩ = some (.int .i64 r2) ∧ u.cell? ⟨w2.heap.size + 1, 3, none⟩ = some (.slice a4 l2.length c4) := fun u hu => by
        rw [← hs2]
        subst eW3
        exact ⟨new_alloc hu rfl, new_alloc hu rfl, new_alloc hu rfl, new_alloc hu rfl⟩
      have hrs : ∀ u, Below W3.heap.size W3 u → Row u a3 l1.length (fun i => l1.getD i 0) ∧ Row u a4 l2.length (fun i => l2.getD i 0) := fun u hu => HRs.out u (HB2.out.1.trans (hu.mono HB2.out.1.size))
      match k, hk with
      | 0, _ => exact ⟨r1, a3, c3, l1.length, l1, Q1, rfl, HQ1.out.2.2.2, fun u hu => ⟨(hcs u hu).1, (hcs u hu).2.1, (hrs u hu).1⟩, HQ1.out.1, HQ1.out.2.1, HQ1.out.2.2.1⟩
      | 1, _ => exact ⟨r2, a4, c4, l2.length, l2, Q2, rfl, HQ2.out.2.2.2, fun u hu => ⟨(hcs u hu).2.2.1, (hcs u hu).2.2.2, (hrs u hu).2⟩, HQ2.out.1, HQ2.out.2.1, HQ2.out.2.2.1⟩
    obtain ⟨⟨⟨p0, p1⟩, ⟨g1, g2⟩, s0⟩, _⟩ := HAll.out W3 (Below.refl _ _)
    obtain ⟨k0, k1, k2, k3, k4⟩ := HBx1.out w2 hb2
    have hszw : w1.heap.size < w2.heap.size := World.block_lt_of_cell? _ _ k0
    clear p0 p1 g1 g2 s0 hb2 hep hgr eW2 eW3 HQ1 HQ2 HEp C3 hG HRs hc0 hc1
    generalize l1.length = ln1 at *
    generalize l2.length = ln2 at *
    go_wp2
    go_loopw [74] (fun i wr => ∃ k : Nat, k ≤ 2 ∧ i = .int .i64 k ∧ Hid (Below W3.heap.size W3 wr)) (fun i _ => 2 - (intOf i).toNat)
    case atStart => exact ⟨0, by omega, rfl, hid (by rw [HEW3.out]; exact Below.refl _ _)⟩
    case round =>
      clear k0 k1 k2 k3 k4
      obtain ⟨k, hk, rfl, HBr⟩ := hrel
      obtain ⟨⟨⟨p0, p1⟩, ⟨g1, g2⟩, s0⟩, hgr, hbw, hprc⟩ := HAll.out wr HBr.out
      by_cases hlt : k < 2
      · have hkz : (k : Int) < 2 := by omega
        obtain ⟨rk, ak, ck, nk, lk, Ms, hlen, h500, hcs, hpos, hpth, hcase⟩ := HPr.out k hlt
        obtain ⟨q0, q1, _⟩ := hcs wr HBr.out
        obtain ⟨U, eU⟩ : ∃ x, x = wr.alloc (.cells #[.int .i64 rk, .slice ak nk ck] 44) := ⟨_, rfl⟩
        have HEU : Hid (wr.alloc (.cells #[.int .i64 rk, .slice ak nk ck] 44) = U) := eU.symm
        have HBU : Hid (Below W3.heap.size W3 U ∧ Below wr.heap.size wr U) := by subst eU; exact ⟨HBr.out.alloc HBr.out.size _, box_below _ _⟩
        have HXc : Hid (∀ u, Below U.heap.size U u → u.cell? ⟨wr.heap.size, 0, none⟩ = some (.int .i64 rk) ∧ u.cell? ⟨wr.heap.size, 1, none⟩ = some (.slice ak nk ck)) := fun u hu => by
          subst eU
          exact ⟨new_alloc hu rfl, new_alloc hu rfl⟩
        have HCase : Hid ((rk = -1 ∧ nk = 0) ∨ ∃ m : Nat, rk = m ∧ m < G ∧ ∀ j, j < F → Ms nk j = mY M1 m j) := hcase
        have CP : Hid (Calls Try.prog 12 #[.agg #[.slice na N nc, .slice fa F fc], .slice ak nk ck] U fun e w' => Below U.heap.size U w' ∧ ∃ (ga : Option Addr) (gc : Nat) (Ns : Nat → Nat → Int), e = .returned (.tuple #[.slice ga (nk + 1) gc, .int .i64 (nk : Nat), .int .i64 0]) ∧ Gr w' ga (nk + 1) (fun _ => F) Ns ∧ Ns nk = Ms nk) := play_goes (hprc.below HBU.out.2) HE.out HS.out.lfew hlen h500 hpos hpth (hcs U HBU.out.1).2.2
        have hb1 : w.heap.size < wr.heap.size := World.block_lt_of_cell? _ _ p0
        clear hlen hcs hpos hpth hcase eU hgr hbw hprc
        go_wp2_with fail
        rw [HEU.out]
        refine CP.out.mono ?_
        rintro e w5 ⟨hb5, ga, gc, Ns, rfl, hg5, hns⟩
        have HB5 : Hid (Below W3.heap.size W3 w5) := HBU.out.1.trans (hb5.mono HBU.out.1.size)
        obtain ⟨j0, j1⟩ := HXc.out w5 hb5
        have HNs : Hid (Ns nk = Ms nk) := hns
        clear p0 p1 g1 g2 s0 q0 q1 hb5 hns CP
        obtain ⟨⟨⟨p0, p1⟩, ⟨g1, g2⟩, s0⟩, hgr, hbw, hprc⟩ := HAll.out w5 HB5.out
        obtain ⟨gb, go, hga, hgc⟩ := hg5
        obtain rfl := hga (by omega)
        obtain ⟨ra, rc, i0, hrow⟩ := hgc nk (by omega)
        have hwrap : IntKind.i64.wrap (nk : Int) = (nk : Int) := by rw [IntKind.wrap_i64]; omega
        have hnz : (nk : Int) < (nk : Int) + 1 := by omega
        have hnz0 : (0 : Int) ≤ (nk : Int) := by omega
        clear hga hgc hbw hprc p0 p1 g1 g2
        rcases HCase.out with ⟨rfl, rfl⟩ | ⟨m, rfl, hmG, hMs⟩
        · clear hgr hrow
          go_wp2
          go_quiet (fail)
          go_wp2
          go_roundw
          case rel => exact ⟨k + 1, by omega, by go_num, hid (below_drewN HB5.out _)⟩
          case measure => simp [intOf]; omega
        · obtain ⟨mb, mo, hma, hmc⟩ := hgr
          obtain rfl := hma (by omega)
          obtain ⟨qa, qc, i1, hrow2⟩ := hmc m hmG
          have hmz : (m : Int) < G := by omega
          have hm0 : (0 : Int) ≤ (m : Int) := by omega
          have hm1 : ¬ (m : Int) < 0 := by omega
          have CE : Hid (∀ q, Calls Try.prog 13 #[.slice ra F rc, .slice qa F qc] (w5.drewN q) fun e w' => e = .returned (.bool true) ∧ ∃ q2, w' = (w5.drewN q).drewN q2) := fun q => by
            have hb : Below w5.heap.size w5 (w5.drewN q) := below_drewN (Below.refl _ _) q
            have := equal_any ra qa F rc F qc _ _ (w5.drewN q) (by omega) (hrow.below hb) (hrow2.below hb)
            rw [same_yes rfl (fun j hj => by rw [HNs.out]; exact hMs j hj)] at this
            exact this
          clear hma hmc hrow hrow2 hMs
          go_wp2
          go_quiet (first | (go_at_call 13; exact Calls.quiet_of (CE.out _)))
          go_wp2
          go_roundw
          case rel => exact ⟨k + 1, by omega, by go_num, hid (below_drewN HB5.out _)⟩
          case measure => simp [intOf]; omega
      · obtain rfl : k = 2 := by omega
        have HGr : Hid (Gr wr ma G (fun _ => F) (mY M1) ∧ Below w.heap.size w wr ∧ Prc wr na N nc fa F M K A B) := ⟨hgr, hbw, hprc⟩
        clear hgr hbw hprc HPr
        by_cases hr : r1 = -1
        · subst hr
          go_wp2
          go_ret
          exact ⟨rfl, HGr.out.2.1⟩
        · obtain ⟨m, hm⟩ : ∃ m : Nat, r1 = m := by
            rcases HFd.out.still with ⟨h1, _⟩ | ⟨m, _, h1, _⟩
            · exact absurd h1 hr
            · exact ⟨m, h1⟩
          obtain ⟨hr2, hmG, hL0, hZ0⟩ := still_never HFd.out.still HFd.out.never hm
          subst hm
          rw [HG.out] at hmG
          obtain ⟨hsn, h9⟩ := HSn.out m hmG
          have HT0 : Hid (tally (X (M1.getD m [])) 1 (stAll K A B F N).length = 0) := hsn hL0
          have hsm : 0 < sm (mY M1 m) F := sm_pos h9 hZ0
          obtain ⟨mb, mo, hma, hmc⟩ := HGr.out.1
          obtain rfl := hma (by omega)
          obtain ⟨qa, qc, i1, hrow⟩ := hmc m hmG
          have hmz : (m : Int) < G := by omega
          have hm0 : (0 : Int) ≤ (m : Int) := by omega
          have CE : Hid (∀ u, Below wr.heap.size wr u → Calls Try.prog 14 #[.agg #[.slice na N nc, .slice fa F fc], .slice qa F qc] u fun e w' => Below u.heap.size u w' ∧ ∃ (a : Option Addr) (c : Nat), e = .returned (.tuple #[.slice a 0 c, .int .i64 0])) := fun u hu => by
            refine (enabledF_any (n := F) (HGr.out.2.2.below hu) HE.out (by omega) (hrow.below hu) (X (M1.getD m [])) (fun i _ => HXo.out (M1.getD m []) i)).mono fun e w' hh => ⟨hh.1, ?_⟩
            have hE : spE 0 (stAll K A B F N).length = 0 := by
              have := HS.out.lfew
              unfold spE
              (repeat' split) <;> first | rfl | omega
            have h2 := hh.2
            rw [hE, mkOk_yes h9] at h2
            rcases h2 with ⟨g, _⟩ | ⟨_, a, c, g, _⟩
            · exact absurd rfl g
            · rw [HT0.out] at g
              exact ⟨a, c, g⟩
          have CS : Hid (∀ u, Below wr.heap.size wr u → Calls Try.prog 15 #[.slice qa F qc] u fun e w' => e = .returned (.int .i64 (sm (mY M1 m) F)) ∧ w' = u) := fun u hu => sumOf_any qa F qc (mY M1 m) u (by omega) h9 (hrow.below hu)
          have HCl : Hid (∀ u, Below wr.heap.size wr u → u.cell? ⟨w.heap.size, 0, none⟩ = some (.slice na N nc) ∧ u.cell? ⟨w.heap.size, 1, none⟩ = some (.slice fa F fc) ∧ u.cell? ⟨w2.heap.size, 0, none⟩ = some (.slice (some ⟨mb, mo, none⟩) G mc) ∧ u.cell? ⟨w1.heap.size, 1, none⟩ = some (.int .i64 (m : Int)) ∧ u.cell? ⟨mb, mo + m, none⟩ = some (.slice qa F qc)) := fun u hu =>
            ⟨(hu.cell (p := ⟨w.heap.size, 0, none⟩) (World.block_lt_of_cell? _ _ p0)).trans p0, (hu.cell (p := ⟨w.heap.size, 1, none⟩) (World.block_lt_of_cell? _ _ p1)).trans p1, (hu.cell (p := ⟨w2.heap.size, 0, none⟩) (World.block_lt_of_cell? _ _ s0)).trans s0, (hu.cell (p := ⟨w1.heap.size, 1, none⟩) (World.block_lt_of_cell? _ _ g1)).trans g1, (hu.cell (p := ⟨mb, mo + m, none⟩) (World.block_lt_of_cell? _ _ i1)).trans i1⟩
          have HG2 : Hid (∀ u, Below wr.heap.size wr u → u.cell? ⟨w1.heap.size, 2, none⟩ = some (.int .i64 r2)) := fun u hu => (hu.cell (p := ⟨w1.heap.size, 2, none⟩) (World.block_lt_of_cell? _ _ g2)).trans g2
          generalize sm (mY M1 m) F = sv at *
          clear hma hmc hrow hsn h9 hL0 hZ0 hr
          go_upto_region 16 with fail
          go_cut [18, 19] from 124 to 134 (fun a b wc => ∃ (la : Option Addr) (lc : Nat), a = .slice la 0 lc ∧ b = .int .i64 0 ∧ Hid (Below wr.heap.size wr wc))
          case first =>
            go_region_held3 (fun z => z.cell? ⟨w.heap.size, 0, none⟩ = some (.slice na N nc) ∧ z.cell? ⟨w.heap.size, 1, none⟩ = some (.slice fa F fc) ∧ z.cell? ⟨w2.heap.size, 0, none⟩ = some (.slice (some ⟨mb, mo, none⟩) G mc) ∧ z.cell? ⟨w1.heap.size, 1, none⟩ = some (.int .i64 (m : Int)) ∧ z.cell? ⟨mb, mo + m, none⟩ = some (.slice qa F qc))
              (first | (with_reducible exact HY) | (with_reducible exact HCl.out _ (below_drew_iff.2 (Below.refl _ _))) | go_keep)
              (first
                | (go_at_call 14; refine (CE.out _ (below_drew_iff.2 (Below.refl _ _))).mono ?_; rintro e w5 ⟨hb5, la, lc, rfl⟩; have hw5 : Below wr.heap.size wr w5 := (below_drew_iff.2 (Below.refl _ _)).trans hb5; have HY := HCl.out w5 hw5; dsimp only)
                | fail)
            all_goals go_wp2_with fail
            all_goals go_meet
            all_goals exact ⟨la, lc, rfl, rfl, hid hw5⟩
          obtain ⟨la, lc, rfl, rfl, HC⟩ := hcut
          clear p0 p1 s0 g1 g2 i1
          obtain ⟨p0, p1, s0, g1, i1⟩ := HCl.out wc HC.out
          have g2 := HG2.out wc HC.out
          have CS2 : Hid (Calls Try.prog 15 #[.slice qa F qc] wc fun e w' => e = .returned (.int .i64 sv) ∧ w' = wc) := CS.out wc HC.out
          have HF : Hid (Below w.heap.size w wc) := HGr.out.2.1.trans (HC.out.mono HGr.out.2.1.size)
          clear CS CE HCl HG2
          go_wp2_with fail
          refine CS2.out.mono ?_
          rintro e w8 ⟨rfl, rfl⟩
          go_wp2
          go_ret
          exact ⟨rfl, HF.out⟩

end Go.Proofs.Ytjenkhphngiphaa
