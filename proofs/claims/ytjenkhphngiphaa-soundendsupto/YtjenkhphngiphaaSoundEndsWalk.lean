/- The law SoundEnds, walked. -/
import Derived.Test.YtjenkhphngiphaaSndEnds0J
import Derived.Test.YtjenkhphngiphaaSndPlay0J
namespace Go.Proofs.Ytjenkhphngiphaa
open Go.RowKit Go.Maps

set_option maxRecDepth 20000 in
set_option maxHeartbeats 8000000 in
theorem soundEnds_walk {na fa : Option Addr} {N nc F fc : Nat} {M : Nat → ByteArray} {K A B : Nat → Int} {w : World} (hp : Prc w na N nc fa F M K A B) (tk st : Int) {da : Option Addr} {D dc : Nat} {dd : Nat → Int} (hD : D ≤ 1048576) (hd : Row w da D dd) :
    Calls Try.prog 5 #[.agg #[.slice na N nc, .slice fa F fc], .int .i64 tk, .int .i64 st, .slice da D dc] w fun e w' => e = .returned (.bool true) ∧ Below w.heap.size w w' := by
  obtain ⟨e0, he⟩ := chk_ex N F M K A B
  obtain ⟨X, hX⟩ := xok_ex K A B F (stAll K A B F N)
  have HE : Hid (ChkIs N F M K A B e0) := he
  have HXo : Hid (XOk K A B F (stAll K A B F N) X) := hX
  obtain ⟨W, eW⟩ : ∃ x, x = w.alloc (.cells #[.slice na N nc, .slice fa F fc] 25) := ⟨_, rfl⟩
  have HW : Hid (Below w.heap.size w W) := by subst eW; exact box_below _ _
  have HBx : Hid (∀ w1, Below W.heap.size W w1 → w1.cell? ⟨w.heap.size, 0, none⟩ = some (.slice na N nc) ∧ w1.cell? ⟨w.heap.size, 1, none⟩ = some (.slice fa F fc)) := fun w1 h => by
    subst eW
    exact ⟨new_alloc h rfl, new_alloc h rfl⟩
  have HEW : Hid (w.alloc (.cells #[.slice na N nc, .slice fa F fc] 25) = W) := eW.symm
  have HPW : Hid (Prc W na N nc fa F M K A B) := hp.below HW.out
  have C0 : Hid (Calls Try.prog 10 #[] W fun e w' => (∃ na fa, e = .returned (.agg #[.slice na 3 3, .slice fa 2 2]) ∧ Prc w' na 3 3 fa 2 sMs sKs sAs sBs) ∧ Below W.heap.size W w') := straight_any W
  have HDW : Hid (Row W da D dd) := hd.below HW.out
  clear eW hp he hX hd
  go_enter Try.func5, Try.ntmps5
  go_wp2_with fail
  rw [HEW.out]
  refine C0.out.mono ?_
  rintro e v1 ⟨⟨sa, sb, rfl, hsp⟩, hbv1⟩
  have HBv1 : Hid (Below W.heap.size W v1) := hbv1
  have C1 : Hid (Calls Try.prog 6 #[.agg #[.slice sa 3 3, .slice sb 2 2], .int .i64 1, .int .i64 9] v1 fun e w' => Below v1.heap.size v1 w' ∧ ∃ (a0 a3 a4 : Option Addr) (c0 c3 c4 n3 n4 : Nat), e = .returned (.tuple #[.agg #[.slice a0 0 c0, .int .i64 (-1), .int .i64 (-1), .slice a3 n3 c3, .slice a4 n4 c4], .int .i64 0])) := st_look hsp
  clear hsp hbv1 C0
  go_wp2_with fail
  refine C1.out.mono ?_
  rintro e v2 ⟨hbv2, x0, x3, x4, y0, y3, y4, m3, m4, rfl⟩
  have HBv2 : Hid (Below W.heap.size W v2) := HBv1.out.trans (hbv2.mono HBv1.out.size)
  obtain ⟨V2, eV2⟩ : ∃ x, x = v2.alloc (.cells #[.slice x0 0 y0, .int .i64 (-1), .int .i64 (-1), .slice x3 m3 y3, .slice x4 m4 y4] 28) := ⟨_, rfl⟩
  have HEV2 : Hid (v2.alloc (.cells #[.slice x0 0 y0, .int .i64 (-1), .int .i64 (-1), .slice x3 m3 y3, .slice x4 m4 y4] 28) = V2) := eV2.symm
  have HBV : Hid (Below W.heap.size W V2) := by subst eV2; exact HBv2.out.alloc HBv2.out.size _
  have C2 : Hid (Calls Try.prog 6 #[.agg #[.slice na N nc, .slice fa F fc], .int .i64 tk, .int .i64 st] V2 fun e w' => Below V2.heap.size V2 w' ∧ LkIs V2.heap.size (xE (spE e0 (stAll K A B F N).length) tk st (xall tk st K A B F (stAll K A B F N) X)) N F K (stAll K A B F N) (xM (spE e0 (stAll K A B F N).length) tk st (xall tk st K A B F (stAll K A B F N) X)) (xN (spE e0 (stAll K A B F N).length) tk st (xall tk st K A B F (stAll K A B F N) X)) e w') := look_any (HPW.out.below HBV.out) HE.out tk st HXo.out
  obtain ⟨hc0, hc1⟩ := HBx.out v2 HBv2.out
  have hszv : w.heap.size < v2.heap.size := World.block_lt_of_cell? _ _ hc0
  clear eV2 hbv2 C1
  go_wp2_with fail
  rw [HEV2.out]
  refine C2.out.mono ?_
  rintro e w1 ⟨hb1, a0, a3, a4, c0, c3, c4, d, r1, r2, l1, l2, rfl, ho0, ho3, ho4, hcase⟩
  have HB1 : Hid (Below W.heap.size W w1) := HBV.out.trans (hb1.mono HBV.out.size)
  obtain ⟨W1, eW1⟩ : ∃ x, x = w1.alloc (.cells #[.slice a0 d.length c0, .int .i64 r1, .int .i64 r2, .slice a3 l1.length c3, .slice a4 l2.length c4] 28) := ⟨_, rfl⟩
  have HB1' : Hid (Below W.heap.size W W1 ∧ Below w1.heap.size w1 W1) := by subst eW1; exact ⟨HB1.out.alloc HB1.out.size _, box_below _ _⟩
  have HBx1 : Hid (∀ u, Below W1.heap.size W1 u → u.cell? ⟨w1.heap.size, 0, none⟩ = some (.slice a0 d.length c0) ∧ u.cell? ⟨w1.heap.size, 1, none⟩ = some (.int .i64 r1) ∧ u.cell? ⟨w1.heap.size, 2, none⟩ = some (.int .i64 r2) ∧ u.cell? ⟨w1.heap.size, 3, none⟩ = some (.slice a3 l1.length c3) ∧ u.cell? ⟨w1.heap.size, 4, none⟩ = some (.slice a4 l2.length c4)) := fun u hu => by
    subst eW1
    exact ⟨new_alloc hu rfl, new_alloc hu rfl, new_alloc hu rfl, new_alloc hu rfl, new_alloc hu rfl⟩
  have HEW1 : Hid (w1.alloc (.cells #[.slice a0 d.length c0, .int .i64 r1, .int .i64 r2, .slice a3 l1.length c3, .slice a4 l2.length c4] 28) = W1) := eW1.symm
  clear hc0 hc1
  obtain ⟨hc0, hc1⟩ := HBx.out w1 HB1.out
  have hsz1 : w.heap.size < w1.heap.size := World.block_lt_of_cell? _ _ hc0
  have HBw1 : Hid (Below w.heap.size w W1) := HW.out.trans (HB1'.out.1.mono HW.out.size)
  rcases hcase with ⟨hy, rfl, rfl, rfl, rfl, rfl⟩ | ⟨hy, hfd⟩
  · generalize xE (spE e0 (stAll K A B F N).length) tk st (xall tk st K A B F (stAll K A B F N) X) = y1 at *
    have hy' : (y1 != 0) = true := by rw [bne_iff_ne]; exact hy
    have hy2 : (y1 == 0) = false := by rw [beq_eq_false_iff_ne]; exact hy
    simp only [List.length_nil] at HEW1 HBx1
    obtain ⟨k0, k1, k2, k3, k4⟩ := HBx1.out W1 (Below.refl _ _)
    clear hy hb1 ho0 ho3 ho4 C2 eW1
    go_upto_region 5 with fail
    (try simp only [List.length_nil])
    rw [HEW1.out]
    go_wp2
    go_ret
    exact ⟨rfl, HBw1.out⟩
  · obtain ⟨hsok, he0⟩ : Sok N F (stAll K A B F N) (xM (spE e0 (stAll K A B F N).length) tk st (xall tk st K A B F (stAll K A B F N) X)) (xN (spE e0 (stAll K A B F N).length) tk st (xall tk st K A B F (stAll K A B F N) X)) ∧ e0 = 0 := ⟨sok_of HE.out HXo.out hy, (spE_zero (x_ok hy).1).1⟩
    subst he0
    have hE0 : spE 0 (stAll K A B F N).length = 0 := (x_ok hy).1
    have HWs : Hid (∀ n Ms S, Pth K A B F (stAll K A B F N) n Ms S → ∃ a, a < (xM (spE 0 (stAll K A B F N).length) tk st (xall tk st K A B F (stAll K A B F N) X)).length ∧ same F F (mY (xM (spE 0 (stAll K A B F N).length) tk st (xall tk st K A B F (stAll K A B F N) X)) a) (Ms n) = true) := fun n Ms S hp => walk_same HE.out HXo.out hy hp
    have H9 : Hid (∀ m : Nat, m < (xM (spE 0 (stAll K A B F N).length) tk st (xall tk st K A B F (stAll K A B F N) X)).length → ∀ j, j < F → 0 ≤ mY (xM (spE 0 (stAll K A B F N).length) tk st (xall tk st K A B F (stAll K A B F N) X)) m j ∧ mY (xM (spE 0 (stAll K A B F N).length) tk st (xall tk st K A B F (stAll K A B F N) X)) m j ≤ 9) := fun m hm => (still_none HE.out HXo.out hy hm).2
    have HEp : Hid (∀ b0 e w', EpIs b0 (spE 0 (stAll K A B F N).length) tk st F (xall tk st K A B F (stAll K A B F N) X) e w' → ∃ (ma : Option Addr) (mc : Nat) (xa : Option Addr) (xc : Nat), e = .returned (.tuple #[.agg #[.slice ma (xM (spE 0 (stAll K A B F N).length) tk st (xall tk st K A B F (stAll K A B F N) X)).length mc, .slice xa (xM (spE 0 (stAll K A B F N).length) tk st (xall tk st K A B F (stAll K A B F N) X)).length xc], .int .i64 0]) ∧ Gr w' ma (xM (spE 0 (stAll K A B F N).length) tk st (xall tk st K A B F (stAll K A B F N) X)).length (fun _ => F) (mY (xM (spE 0 (stAll K A B F N).length) tk st (xall tk st K A B F (stAll K A B F N) X))) ∧ Egs w' xa (xM (spE 0 (stAll K A B F N).length) tk st (xall tk st K A B F (stAll K A B F N) X)).length (snL (xN (spE 0 (stAll K A B F N).length) tk st (xall tk st K A B F (stAll K A B F N) X))) (snS (xN (spE 0 (stAll K A B F N).length) tk st (xall tk st K A B F (stAll K A B F N) X))) (snZ (xN (spE 0 (stAll K A B F N).length) tk st (xall tk st K A B F (stAll K A B F N) X)))) := fun b0 e w' h => by
      obtain ⟨ma, mc, xa, xc, base, _, h1, h2⟩ := h
      rw [hy, hsok.len] at h1
      rw [hsok.len] at h2
      exact ⟨ma, mc, xa, xc, h1, mks_gr rfl h2.1, nxs_egs hsok.len.symm h2.2⟩
    have C3 : Hid (∀ u, Below W1.heap.size W1 u → Calls Try.prog 11 #[.agg #[.slice na N nc, .slice fa F fc], .int .i64 tk, .int .i64 st] u fun e w' => Below u.heap.size u w' ∧ EpIs u.heap.size (spE 0 (stAll K A B F N).length) tk st F (xall tk st K A B F (stAll K A B F N) X) e w') := fun u hu => exploreF_any (HPW.out.below (HB1'.out.1.trans (hu.mono HB1'.out.1.size))) HE.out tk st HXo.out
    have C4 : Hid (Calls Try.prog 16 #[.agg #[.slice na N nc, .slice fa F fc], .slice da D dc] W1 fun e w' => Below W1.heap.size W1 w' ∧ WdIs 0 K A B F (stAll K A B F N) D e w') := by
      have := walked_any (fc := fc) (dc := dc) (HPW.out.below HB1'.out.1) HE.out hD (HDW.out.below HB1'.out.1)
      rwa [hE0] at this
    rw [hy]
    generalize hM1 : xM (spE 0 (stAll K A B F N).length) tk st (xall tk st K A B F (stAll K A B F N) X) = M1 at *
    generalize hN1 : xN (spE 0 (stAll K A B F N).length) tk st (xall tk st K A B F (stAll K A B F N) X) = N1 at *
    have HFd : Hid (FstIs (NvP M1.length F (snL N1) (snZ N1) (mY M1)) M1.length r2) := hfd.never
    have HLe : Hid (∀ r, r < M1.length → snL N1 r ≤ 1000) := fun r hr => by have h1 := hsok.small r hr; have h2 := hsok.lfew; omega
    have HErr : Hid (errG M1.length (snL N1) (snZ N1) = 0) := hsok.tos
    have hF30 := hsok.F30
    have hG200 := hsok.few
    obtain ⟨k0, k1, k2, k3, k4⟩ := HBx1.out W1 (Below.refl _ _)
    clear hM1 hN1 hsok hy hfd hb1 ho0 ho3 ho4 C2 eW1 hE0 k0 k1 k3 k4
    by_cases hr2 : r2 = -1
    · subst hr2
      have HNo : Hid (∀ i, i < M1.length → ¬ NvP M1.length F (snL N1) (snZ N1) (mY M1) i) := by
        rcases HFd.out with ⟨_, h⟩ | ⟨k, _, h, _⟩
        · exact h
        · omega
      generalize snL N1 = L at *
      generalize snS N1 = S at *
      generalize snZ N1 = Z at *
      generalize mY M1 = Y at *
      generalize M1.length = G at *
      obtain ⟨p0, p1⟩ := HBx.out W1 HB1'.out.1
      have hszW : w.heap.size < W1.heap.size := World.block_lt_of_cell? _ _ p0
      clear hc0 hc1 HFd
      go_upto_region 5 with fail
      rw [HEW1.out]
      go_wp2_with fail
      refine C4.out.mono ?_
      rintro e w2 ⟨hb2, hw2⟩
      rcases hw2 with ⟨h2, _⟩ | ⟨_, n, Ms, Sx, ga, gc, sa', sc', hn, rfl, hgr, _, hpth⟩
      · exact absurd rfl h2
      obtain ⟨W2, eW2⟩ : ∃ x, x = w2.alloc (.cells #[.slice ga (n + 1) gc] 32) := ⟨_, rfl⟩
      have HEW2 : Hid (w2.alloc (.cells #[.slice ga (n + 1) gc] 32) = W2) := eW2.symm
      have HB2 : Hid (Below W1.heap.size W1 W2 ∧ Below w2.heap.size w2 W2) := by
        have h1 : Below w2.heap.size w2 W2 := by subst eW2; exact box_below _ _
        exact ⟨hb2.trans (h1.mono hb2.size), h1⟩
      have HGm : Hid (∀ u, Below W2.heap.size W2 u → u.cell? ⟨w2.heap.size, 0, none⟩ = some (.slice ga (n + 1) gc) ∧ Gr u ga (n + 1) (fun _ => F) Ms) := fun u hu => by
        have h1 : Below w2.heap.size w2 u := HB2.out.2.trans (hu.mono HB2.out.2.size)
        refine ⟨?_, hgr.below h1⟩
        subst eW2
        exact new_alloc hu rfl
      have HSame : Hid (∃ a, a < G ∧ same F F (Y a) (Ms n) = true) := HWs.out n Ms Sx hpth
      clear p0 p1
      obtain ⟨p0, p1⟩ := HBx.out w2 (HB1'.out.1.trans (hb2.mono HB1'.out.1.size))
      have hsz2 : w.heap.size < w2.heap.size := World.block_lt_of_cell? _ _ p0
      have C5 : Hid (Calls Try.prog 11 #[.agg #[.slice na N nc, .slice fa F fc], .int .i64 tk, .int .i64 st] W2 fun e w' => Below W2.heap.size W2 w' ∧ ∃ (ma : Option Addr) (mc : Nat) (xa : Option Addr) (xc : Nat), e = .returned (.tuple #[.agg #[.slice ma G mc, .slice xa G xc], .int .i64 0]) ∧ Gr w' ma G (fun _ => F) Y ∧ Egs w' xa G L S Z) := (C3.out W2 HB2.out.1).mono fun e w' hh => ⟨hh.1, HEp.out _ e w' hh.2⟩
      clear hb2 hgr hpth eW2 C3 C4 HEp HWs k2
      go_wp2_with fail
      rw [HEW2.out]
      refine C5.out.mono ?_
      rintro e w3 ⟨hb3, ma, mc, xa, xc, rfl, hgr3, heg3⟩
      obtain ⟨W3, eW3⟩ : ∃ x, x = w3.alloc (.cells #[.slice ma G mc, .slice xa G xc] 35) := ⟨_, rfl⟩
      have HEW3 : Hid (w3.alloc (.cells #[.slice ma G mc, .slice xa G xc] 35) = W3) := eW3.symm
      have HB3 : Hid (Below W2.heap.size W2 W3 ∧ Below w3.heap.size w3 W3) := by
        have h1 : Below w3.heap.size w3 W3 := by subst eW3; exact box_below _ _
        exact ⟨hb3.trans (h1.mono hb3.size), h1⟩
      have HSx : Hid (∀ u, Below W3.heap.size W3 u → u.cell? ⟨w3.heap.size, 0, none⟩ = some (.slice ma G mc) ∧ u.cell? ⟨w3.heap.size, 1, none⟩ = some (.slice xa G xc)) := fun u hu => by
        subst eW3
        exact ⟨new_alloc hu rfl, new_alloc hu rfl⟩
      have HGs : Hid (Gr W3 ma G (fun _ => F) Y ∧ Egs W3 xa G L S Z) := ⟨hgr3.below HB3.out.2, heg3.below HB3.out.2⟩
      have HBwW : Hid (Below w.heap.size w W3) := by
        have h1 : Below W1.heap.size W1 W3 := HB2.out.1.trans (HB3.out.1.mono HB2.out.1.size)
        exact HBw1.out.trans (h1.mono HBw1.out.size)
      obtain ⟨m0, hgm⟩ := HGm.out W3 HB3.out.1
      have C6 : Hid (Calls Try.prog 17 #[.slice ma G mc, .func (Fn.func 18) #[] #[.pointer (some ⟨w2.heap.size, 0, none⟩)]] W3 fun e w' => (∃ a : Nat, e = .returned (.int .i64 (a : Int)) ∧ a < G) ∧ ∃ q, w' = W3.drewN q) := by
        refine (lastIdx_any (by omega) (by omega) (by omega) m0 HGs.out.1 hgm).mono ?_
        rintro e w' ⟨⟨r, rfl, hr⟩, hq⟩
        refine ⟨?_, hq⟩
        rcases hr with ⟨_, hno⟩ | ⟨k, h1, h2, _⟩
        · obtain ⟨a, h1, h2⟩ := HSame.out
          exact absurd h2 (hno a h1)
        · exact ⟨k, by rw [h2], h1⟩
      obtain ⟨s0, s1⟩ := HSx.out W3 (Below.refl _ _)
      clear hb3 hgr3 heg3 eW3 C5 m0 hgm
      go_upto_region 9 with fail
      rw [HEW3.out]
      go_wp2_with fail
      refine C6.out.mono ?_
      rintro e W4 ⟨⟨a, rfl, haG⟩, q, rfl⟩
      have HB4 : Hid (Below W3.heap.size W3 (W3.drewN q)) := below_drewN (Below.refl _ _) q
      generalize W3.drewN q = W4 at *
      clear s0 s1
      obtain ⟨s0, s1⟩ := HSx.out W4 HB4.out
      have ha0 : ¬ (a : Int) < 0 := by omega
      obtain ⟨b, o, ha, hc⟩ := HGs.out.2
      have HC : Hid (∀ r, r < G → ∃ a c, W3.cell? ⟨b, o + r, none⟩ = some (.slice a (L r) c) ∧ Fls W3 a (L r) (S r) (Z r)) := hc
      clear hc C6
      have hmk := run_make_row' (P := Try.prog) 32 26 (.slice none 0 0) 24 Try.underlying32 Try.info26 rfl .i64 .i64 G (by omega) (by omega)
      obtain ⟨i0, hi, hz0, hz1, hz2⟩ := info_parts Try.info3
      have HI : Hid (Try.prog.info? 3 = some i0 ∧ i0.zero = some (.int .i64 0) ∧ i0.size = 1 ∧ i0.bytes = 8) := ⟨hi, hz0, hz1, hz2⟩
      have HS0 : Hid (Fam W4 (W4.alloc (.cells (madeCells #[.slice none 0 0] G) 26)) G (gm L Z 0 0) (fun _ => .slice none 0 0)) := fam_start W4 G _ (fun _ _ => gm_start _ _ _)
      have hs4 : w3.heap.size < W4.heap.size := World.block_lt_of_cell? _ _ s0
      clear hi hz0 hz1 hz2
      go_wp2
      clear hmk
      go_loopw [86] (fun i wr => ∃ k : Nat, k ≤ G ∧ i = .int .i64 k ∧ Hid (∃ V, Fam W4 wr G (gm L Z k 0) V)) (fun i _ => G - (intOf i).toNat)
      case atStart => exact ⟨0, Nat.zero_le _, rfl, hid ⟨_, HS0.out⟩⟩
      case round =>
        obtain ⟨r, hr, rfl, hX⟩ := hrel
        clear HS0
        by_cases hlt : r < G
        · obtain rfl := ha (by omega)
          have hrz : (r : Int) < G := by omega
          have hr0 : (0 : Int) ≤ (r : Int) := by omega
          obtain ⟨ea, ec, hck0, hfl⟩ := HC.out r hlt
          have HB : Hid (Below W3.heap.size W3 wr) := by
            obtain ⟨V, hFam⟩ := hX.out
            exact HB4.out.trans (hFam.below.mono HB4.out.size)
          have hck : wr.cell? ⟨b, o + r, none⟩ = some (.slice ea (L r) ec) := by rw [HB.out.cell (p := ⟨b, o + r, none⟩) (World.block_lt_of_cell? _ _ hck0)]; exact hck0
          obtain ⟨eb, eo, hea, hec⟩ := hfl
          have HEC : Hid (∀ i, i < L r → W3.cell? ⟨eb, eo + i * 2, none⟩ = some (.int .i64 (S r i)) ∧ W3.cell? ⟨eb, eo + i * 2 + 1, none⟩ = some (.int .i64 (Z r i))) := hec
          have hLr := HLe.out r hlt
          clear hck0 hec HB
          go_wp2
          go_loopw [93] (fun i wi => ∃ k : Nat, k ≤ L r ∧ i = .int .i64 k ∧ Hid (∃ V, Fam W4 wi G (gm L Z r k) V)) (fun i _ => L r - (intOf i).toNat)
          case atStart => exact ⟨0, Nat.zero_le _, rfl, hX⟩
          case round =>
            obtain ⟨k, hk, rfl, hX2⟩ := hrel
            clear hX hck
            obtain ⟨V, hFam⟩ := hX2.out
            have HFam : Hid (Fam W4 wr G (gm L Z r k) V) := hFam
            clear hX2 hFam
            have HB : Hid (Below W3.heap.size W3 wr) := HB4.out.trans (HFam.out.below.mono HB4.out.size)
            by_cases hlk : k < L r
            · obtain rfl := hea (by omega)
              have hzk : (k : Int) < L r := by omega
              obtain ⟨h1, h2⟩ := Fls.at HEC.out HB.out hlk
              obtain ⟨x, hx⟩ : ∃ x, Z r k = x := ⟨_, rfl⟩
              obtain ⟨y, hy⟩ : ∃ y, S r k = y := ⟨_, rfl⟩
              have HX : Hid (Z r k = x) := hx
              rw [hx] at h2
              rw [hy] at h1
              obtain ⟨a2, c2, hv, _⟩ := owns_row (HFam.out.own r hlt)
              have hlen : (gm L Z r k r).length ≤ 1000 := by rw [gm_at, lst_len]; omega
              generalize hm : (gm L Z r k r).length = m at *
              have HM : Hid ((gm L Z r k r).length = m) := hm
              have HV : Hid (V r = .slice a2 m c2) := hv
              have hs1 : W4.heap.size < wr.heap.size := by have := HFam.out.size; omega
              have htop : wr.cell? ⟨W4.heap.size, r, none⟩ = some (.slice a2 m c2) := by rw [HFam.out.top.cell hlt, hv]
              clear hx hy hm hv
              go_wp2
              have HFam2 : Hid (Fam W4 (wr.alloc (.cells #[.int .i64 y, .int .i64 x] 58)) G (gm L Z r k) V) := HFam.out.alloc _
              have ht2 : (wr.alloc (.cells #[.int .i64 y, .int .i64 x] 58)).cell? ⟨W4.heap.size, r, none⟩ = some (.slice a2 m c2) := keep_alloc (Below.refl _ _) htop
              have hf1 : (wr.alloc (.cells #[.int .i64 y, .int .i64 x] 58)).cell? ⟨wr.heap.size, 1, none⟩ = some (.int .i64 x) := cell_of_alloc rfl
              have HSz : Hid (W4.heap.size < wr.heap.size) := by have := HFam.out.size; show _ < _; omega
              clear HFam h1 h2 htop
              generalize hU : wr.alloc (.cells #[.int .i64 y, .int .i64 x] 58) = U at *
              have HUs : Hid (U.heap.size = wr.heap.size + 1) := by show _ = _; rw [← hU]; simp
              have HO : Hid (U.ownsRow (W4.heap.size + 1) 3 1 (.slice a2 m c2) m (vals (gm L Z r k r))) := by
                have := HFam2.out.own r hlt
                rw [HV.out, HM.out] at this
                exact this
              have HAp : Hid ((Value.slice a2 m c2).ownBlock ≠ some (W4.heap.size) ∧ (Value.slice a2 m c2).ownBlock ≠ some wr.heap.size) := by
                have h1 := HFam2.out.own r hlt
                rw [HV.out] at h1
                have h2 := ownBlock_own h1
                refine ⟨fun e => ?_, fun e => ?_⟩
                · have := (h1.lt _ e).1; omega
                · obtain ⟨c, hc⟩ := h2 _ e
                  have hn : U.heap[wr.heap.size]? = some (.cells #[.int .i64 y, .int .i64 x] 58) := by rw [← hU]; exact Go.Deep.blk_alloc_new _ _
                  rw [hn] at hc
                  simp at hc
              have hUlt : W4.heap.size < U.heap.size := by have := HUs.out; omega
              have hUlt2 : wr.heap.size < U.heap.size := by have := HUs.out; omega
              have hne1 : W4.heap.size ≠ wr.heap.size := by omega
              have hne2 : wr.heap.size ≠ W4.heap.size := by omega
              go_region_law
                ((refine step_append_lies _ (by rfl) _ _ _ (by rfl) (W4.heap.size + 1) 3 i0 _ 1 8 Try.underlying26 HI.out.1 HI.out.2.1 HI.out.2.2.1 HI.out.2.2.2 rfl (by omega) (.slice a2 m c2) m (vals (gm L Z r k r)) (by rfl) ((HO.out.alloc _).drew)
                    ⟨U.heap.size, 0, none⟩ 1 1 [.int .i64 x] (by rfl) (by rfl) (World.news_of_block (cs := #[.int .i64 x]) (t := 3) (fr := (0, 0)) (heap_alloc_new U _)) (by simp [Value.oneCell'])
                    (by omega) (by unfold maxLen; omega) (by omega) (by have := HUs.out; have := HSz.out; simp; omega) (U.heap.size + 1) (by simp) ?_; intro gg cap w1 hown1 hgrow hat hlt1; obtain ⟨g1, g2, H3⟩ := famApp HFam2.out hlt HM.out HV.out rfl hown1 hgrow hat; have g4 := grown_cell hgrow hf1 HAp.out.2))
              all_goals
                clear hown1 hgrow hat
                go_wp2
                go_roundw
                case rel => exact ⟨k + 1, by omega, by go_num, hid ⟨_, Fam.congr H3.out (fun j _ => gm_next L Z r k j HX.out)⟩⟩
                case measure => simp [intOf]; omega
            · obtain rfl : k = L r := by omega
              go_wp2
              go_roundw
              case rel => exact ⟨r + 1, by omega, by go_num, hid ⟨V, HFam.out.congr (fun j _ => gm_full L Z r j)⟩⟩
              case measure => simp [intOf]; omega
        · obtain rfl : r = G := by omega
          obtain ⟨V, hFam⟩ := hX.out
          obtain ⟨w5, e5⟩ : ∃ x, x = wr := ⟨_, rfl⟩
          subst e5
          have HB5 : Hid (Below W3.heap.size W3 w5) := HB4.out.trans (hFam.below.mono HB4.out.size)
          obtain ⟨U, eU⟩ : ∃ x, x = w5.alloc (.cells #[.int .i64 (a : Int)] 3) := ⟨_, rfl⟩
          have HEU : Hid (w5.alloc (.cells #[.int .i64 (a : Int)] 3) = U) := eU.symm
          have HBU : Hid (Below w5.heap.size w5 U) := by subst eU; exact box_below _ _
          have C7 : Hid (Calls Try.prog 19 #[.slice (some ⟨W4.heap.size, 0, none⟩) r r, .slice (some ⟨w5.heap.size, 0, none⟩) 1 1] U fun e w' => ∃ (b : Nat) (R : Nat → Bool), e = .returned (.tuple #[.slice (some ⟨b, 0, none⟩) r r, .int .i64 0]) ∧ Below U.heap.size U w' ∧ Rowb w' (some ⟨b, 0, none⟩) r R ∧ ∀ x, x < r → (R x = true ↔ RchG (Ego r L Z) a x)) := by
            have hrow : Row U (some ⟨w5.heap.size, 0, none⟩) 1 (fun _ => (a : Int)) := by subst eU; exact box_row w5 a
            refine (reach_ok _ r r L Z _ 1 1 (fun _ => (a : Int)) U (fun j hj => by have := HLe.out j hj; omega) (by omega) ((gm_gr hFam).below HBU.out) hrow (errF_one HErr.out haG)).mono ?_
            rintro e w' ⟨b, R, rfl, h1, _, h2, h3⟩
            exact ⟨b, R, rfl, h1, rowb_of_rowIs h2, fun x hx => by rw [h3 x hx, comes_one]⟩
          have HEnd : Hid (∃ k, k < r ∧ zB F (Y k) = true ∧ RchG (Ego r L Z) a k) := Classical.byContradiction (fun h => HNo.out a haG h)
          clear hX hFam eU s0 s1
          go_wp2_with fail
          rw [HEU.out]
          refine C7.out.mono ?_
          rintro e w6 ⟨rb, R, rfl, hb6, hrow, hR⟩
          have HB6 : Hid (Below W3.heap.size W3 w6) := by
            have h1 : Below W3.heap.size W3 U := HB5.out.trans (HBU.out.mono HB5.out.size)
            exact h1.trans (hb6.mono h1.size)
          have HF : Hid (Below w.heap.size w w6) := HBwW.out.trans (HB6.out.mono HBwW.out.size)
          obtain ⟨b2, o2, hra, hrc⟩ := hrow
          have hbo := hra (by omega)
          simp only [Option.some.injEq, Addr.mk.injEq] at hbo
          obtain ⟨rfl, rfl, _⟩ := hbo
          have HRc : Hid (∀ i, i < r → w6.cell? ⟨rb, 0 + i, none⟩ = some (.bool (R i))) := hrc
          have HRr : Hid (∀ x, x < r → (R x = true ↔ RchG (Ego r L Z) a x)) := hR
          obtain ⟨s0, s1⟩ := HSx.out w6 HB6.out
          have HM6 : Hid (∀ j, j < r → ∃ mb mo ra rc, ma = some ⟨mb, mo, none⟩ ∧ w6.cell? ⟨mb, mo + j, none⟩ = some (.slice ra F rc) ∧ Row w6 ra F (Y j)) := fun j hj => by
            obtain ⟨mb, mo, hma, hmc⟩ := HGs.out.1.below HB6.out
            obtain ⟨ra, rc, g1, g2⟩ := hmc j hj
            exact ⟨mb, mo, ra, rc, hma (by omega), g1, g2⟩
          clear hb6 hra hrc hR C7
          go_wp2
          go_loopw [119] (fun i wr => ∃ j : Nat, j ≤ r ∧ i = .int .i64 j ∧ Hid (∀ x, x < j → ¬ (R x = true ∧ zB F (Y x) = true)) ∧ wr = w6) (fun i _ => r - (intOf i).toNat)
          case atStart => exact ⟨0, Nat.zero_le _, rfl, hid (fun x hx => by omega), rfl⟩
          case round =>
            obtain ⟨j, hj, rfl, HJ, rfl⟩ := hrel
            by_cases hjr : j < r
            · have hjz : (j : Int) < r := by omega
              have hcj := HRc.out j hjr
              rw [Nat.zero_add] at hcj
              obtain ⟨mb, mo, ra, rc, rfl, hmj, hrj⟩ := HM6.out j hjr
              have CS : Hid (Calls Try.prog 15 #[.slice ra F rc] wr fun e w' => e = .returned (.int .i64 (sm (Y j) F)) ∧ w' = wr) := sumOf_any ra F rc (Y j) wr (by omega) (H9.out j hjr) hrj
              have HNx : Hid (¬ (R j = true ∧ zB F (Y j) = true) → ∀ x, x < j + 1 → ¬ (R x = true ∧ zB F (Y x) = true)) := fun hn x hx => by
                by_cases e : x = j
                · subst e; exact hn
                · exact HJ.out x (by omega)
              clear hrj
              cases hRj : R j
              · have HN : Hid (∀ x, x < j + 1 → ¬ (R x = true ∧ zB F (Y x) = true)) := HNx.out (fun h => by rw [hRj] at h; cases h.1)
                rw [hRj] at hcj
                clear hRj
                go_wp2
                go_roundw
                case rel => exact ⟨j + 1, by omega, by go_num, HN, trivial⟩
                case measure => simp [intOf]; omega
              · rw [hRj] at hcj
                cases hz : zB F (Y j)
                · have HN : Hid (∀ x, x < j + 1 → ¬ (R x = true ∧ zB F (Y x) = true)) := HNx.out (fun h => by rw [hz] at h; cases h.2)
                  have hpos := sm_pos (H9.out j hjr) hz
                  have hpz : (sm (Y j) F == 0) = false := by rw [beq_eq_false_iff_ne]; omega
                  generalize sm (Y j) F = sv at *
                  clear hRj hz hpos
                  go_wp2_with fail
                  refine CS.out.mono ?_
                  rintro e w8 ⟨rfl, rfl⟩
                  go_wp2
                  go_roundw
                  case rel => exact ⟨j + 1, by omega, by go_num, HN, trivial⟩
                  case measure => simp [intOf]; omega
                · rw [sm_zero hz] at CS
                  clear hRj hz
                  go_wp2_with fail
                  refine CS.out.mono ?_
                  rintro e w8 ⟨rfl, rfl⟩
                  go_wp2
                  go_ret
                  exact ⟨rfl, HF.out⟩
            · obtain rfl : j = r := by omega
              obtain ⟨k, h1, h2, h3⟩ := HEnd.out
              exact absurd ⟨(HRr.out k h1).2 h3, h2⟩ (HJ.out k h1)
    · have h0 : 0 ≤ r2 := by
        rcases HFd.out with ⟨h, _⟩ | ⟨k, _, h, _⟩
        · exact absurd h hr2
        · omega
      clear hr2 HFd
      go_upto_region 5 with fail
      rw [HEW1.out]
      go_wp2
      go_ret
      exact ⟨rfl, HBw1.out⟩

end Go.Proofs.Ytjenkhphngiphaa
