/- The law SoundSays, walked. -/
import Derived.Test.YtjenkhphngiphaaRefEx
import Derived.Test.YtjenkhphngiphaaRefFound
import Derived.Deep.CutRange
namespace Go.Proofs.Ytjenkhphngiphaa
open Go.RowKit Go.Maps

/-- Five rows of one finding. -/
theorem own_row {w : World} {base : Nat} {a : Option Addr} {c : Nat} {l : List Int} (h : w.ownsRow base 3 1 (.slice a l.length c) l.length (vals l)) : Row w a l.length (fun i => l.getD i 0) := by
  obtain ⟨a', c', e, hr⟩ := owns_row h
  cases e
  exact hr

theorem dead_len {N G : Nat} {L : Nat → Nat} {S : Nat → Nat → Int} {T : Nat → St3} {K : Nat → Int} {l : List Int} (h : DeadIs N G L S T K l) : l.length ≤ N := by
  obtain ⟨D, _, rfl⟩ := h
  rw [fl_len]
  exact tally_le _ _ _

set_option maxRecDepth 20000 in
set_option maxHeartbeats 4000000 in
theorem soundSays_walk {na fa : Option Addr} {N nc F fc : Nat} {M : Nat → ByteArray} {K A B : Nat → Int} {w : World} (hp : Prc w na N nc fa F M K A B) (hM : ∀ i, i < N → (M i).size ≤ maxLen) (tk st : Int) :
    Calls Try.prog 3 #[.agg #[.slice na N nc, .slice fa F fc], .int .i64 tk, .int .i64 st] w fun e w' => e = .returned (.bool true) ∧ Below w.heap.size w w' := by
  obtain ⟨e0, he⟩ := chk_ex N F M K A B
  obtain ⟨X, hX⟩ := xok_ex K A B F (stAll K A B F N)
  have HE : Hid (ChkIs N F M K A B e0) := he
  have HXo : Hid (XOk K A B F (stAll K A B F N) X) := hX
  have HMs : Hid (∀ i, i < N → (M i).size ≤ maxLen) := hM
  obtain ⟨W, eW⟩ : ∃ x, x = w.alloc (.cells #[.slice na N nc, .slice fa F fc] 25) := ⟨_, rfl⟩
  have HW : Hid (Below w.heap.size w W) := by subst eW; exact box_below _ _
  have HBx : Hid (∀ w1, Below W.heap.size W w1 → w1.cell? ⟨w.heap.size, 0, none⟩ = some (.slice na N nc) ∧ w1.cell? ⟨w.heap.size, 1, none⟩ = some (.slice fa F fc)) := fun w1 h => by
    subst eW
    exact ⟨new_alloc h rfl, new_alloc h rfl⟩
  have HEW : Hid (w.alloc (.cells #[.slice na N nc, .slice fa F fc] 25) = W) := eW.symm
  have HPW : Hid (Prc W na N nc fa F M K A B) := hp.below HW.out
  have C1 : Hid (Calls Try.prog 6 #[.agg #[.slice na N nc, .slice fa F fc], .int .i64 tk, .int .i64 st] W fun e w' => Below W.heap.size W w' ∧ LkIs W.heap.size (xE (spE e0 (stAll K A B F N).length) tk st (xall tk st K A B F (stAll K A B F N) X)) N F K (stAll K A B F N) (xM (spE e0 (stAll K A B F N).length) tk st (xall tk st K A B F (stAll K A B F N) X)) (xN (spE e0 (stAll K A B F N).length) tk st (xall tk st K A B F (stAll K A B F N) X)) e w') := look_any HPW.out HE.out tk st HXo.out
  have HSok : Hid (xE (spE e0 (stAll K A B F N).length) tk st (xall tk st K A B F (stAll K A B F N) X) = 0 → Sok N F (stAll K A B F N) (xM (spE e0 (stAll K A B F N).length) tk st (xall tk st K A B F (stAll K A B F N) X)) (xN (spE e0 (stAll K A B F N).length) tk st (xall tk st K A B F (stAll K A B F N) X)) ∧ e0 = 0) := fun h => ⟨sok_of HE.out HXo.out h, (spE_zero (x_ok h).1).1⟩
  clear eW hp he hX hM
  go_enter Try.func3, Try.ntmps3
  go_wp2_with fail
  rw [HEW.out]
  refine C1.out.mono ?_
  rintro e w1 ⟨hb1, a0, a3, a4, c0, c3, c4, d, r1, r2, l1, l2, rfl, ho0, ho3, ho4, hcase⟩
  have HB1 : Hid (Below W.heap.size W w1) := hb1
  generalize hM1 : xM (spE e0 (stAll K A B F N).length) tk st (xall tk st K A B F (stAll K A B F N) X) = M1 at *
  generalize hN1 : xN (spE e0 (stAll K A B F N).length) tk st (xall tk st K A B F (stAll K A B F N) X) = N1 at *
  generalize hy1 : xE (spE e0 (stAll K A B F N).length) tk st (xall tk st K A B F (stAll K A B F N) X) = y1 at *
  have HM1 : Hid (xM (spE e0 (stAll K A B F N).length) tk st (xall tk st K A B F (stAll K A B F N) X) = M1 ∧ xN (spE e0 (stAll K A B F N).length) tk st (xall tk st K A B F (stAll K A B F N) X) = N1 ∧ xE (spE e0 (stAll K A B F N).length) tk st (xall tk st K A B F (stAll K A B F N) X) = y1) := ⟨hM1, hN1, hy1⟩
  have HCs : Hid ((y1 ≠ 0 ∧ d = [] ∧ r1 = 0 ∧ r2 = 0 ∧ l1 = [] ∧ l2 = []) ∨ (y1 = 0 ∧ FdIs N F K (stAll K A B F N) M1 N1 d r1 r2 l1 l2)) := hcase
  have HRs : Hid (Row w1 a0 d.length (fun i => d.getD i 0) ∧ Row w1 a3 l1.length (fun i => l1.getD i 0) ∧ Row w1 a4 l2.length (fun i => l2.getD i 0)) := ⟨own_row ho0, own_row ho3, own_row ho4⟩
  obtain ⟨W1, eW1⟩ : ∃ x, x = w1.alloc (.cells #[.slice a0 d.length c0, .int .i64 r1, .int .i64 r2, .slice a3 l1.length c3, .slice a4 l2.length c4] 28) := ⟨_, rfl⟩
  have HB1' : Hid (Below W.heap.size W W1 ∧ Below w1.heap.size w1 W1) := by subst eW1; exact ⟨HB1.out.alloc HB1.out.size _, box_below _ _⟩
  have HBx1 : Hid (∀ u, Below W1.heap.size W1 u → u.cell? ⟨w1.heap.size, 0, none⟩ = some (.slice a0 d.length c0) ∧ u.cell? ⟨w1.heap.size, 1, none⟩ = some (.int .i64 r1) ∧ u.cell? ⟨w1.heap.size, 2, none⟩ = some (.int .i64 r2) ∧ u.cell? ⟨w1.heap.size, 3, none⟩ = some (.slice a3 l1.length c3) ∧ u.cell? ⟨w1.heap.size, 4, none⟩ = some (.slice a4 l2.length c4)) := fun u hu => by
    subst eW1
    exact ⟨new_alloc hu rfl, new_alloc hu rfl, new_alloc hu rfl, new_alloc hu rfl, new_alloc hu rfl⟩
  have HEW1 : Hid (w1.alloc (.cells #[.slice a0 d.length c0, .int .i64 r1, .int .i64 r2, .slice a3 l1.length c3, .slice a4 l2.length c4] 28) = W1) := eW1.symm
  obtain ⟨hc0, hc1⟩ := HBx.out w1 HB1.out
  have hsz1 : w.heap.size < w1.heap.size := World.block_lt_of_cell? _ _ hc0
  have C2 : Hid (Calls Try.prog 7 #[.agg #[.slice na N nc, .slice fa F fc], .int .i64 tk, .int .i64 st] W1 fun e w' => Below W1.heap.size W1 w' ∧ ExIs W1.heap.size (spE e0 (stAll K A B F N).length) tk st F (xall tk st K A B F (stAll K A B F N) X) e w') := explored_any (HPW.out.below HB1'.out.1) HMs.out HE.out tk st HXo.out
  clear hb1 ho0 ho3 ho4 hcase C1 eW1 hM1 hN1 hy1
  go_wp2_with fail
  rw [HEW1.out]
  refine C2.out.mono ?_
  rintro e w2 ⟨hb2, hs2⟩
  obtain ⟨mb, md, xb, xd, base2, ra, rc, _, rfl, HS2⟩ := ex_all hs2
  rw [HM1.out.1, HM1.out.2.1] at HS2
  rw [HM1.out.1, HM1.out.2.1, HM1.out.2.2]
  have HB2 : Hid (Below W.heap.size W w2 ∧ Below W1.heap.size W1 w2) := ⟨HB1'.out.1.trans (hb2.mono HB1'.out.1.size), hb2⟩
  have HSp : Hid (Spc w2 base2 (.slice mb M1.length md) (.slice xb N1.length xd) F M1 N1) := HS2.out.1
  have HRs2 : Hid (∀ u, Below w2.heap.size w2 u → Row u a0 d.length (fun i => d.getD i 0) ∧ Row u a3 l1.length (fun i => l1.getD i 0) ∧ Row u a4 l2.length (fun i => l2.getD i 0)) := fun u hu => by
    have hb : Below w1.heap.size w1 u := (HB1'.out.2.trans (hb2.mono HB1'.out.2.size)).trans (hu.mono (HB1'.out.2.trans (hb2.mono HB1'.out.2.size)).size)
    exact ⟨HRs.out.1.below hb, HRs.out.2.1.below hb, HRs.out.2.2.below hb⟩
  obtain ⟨k0, k1, k2, k3, k4⟩ := HBx1.out w2 hb2
  have hsz2 : w1.heap.size < w2.heap.size := World.block_lt_of_cell? _ _ k0
  generalize (xW (spE e0 (stAll K A B F N).length) tk st (xall tk st K A B F (stAll K A B F N) X)).length = wl at *
  have hbw : Below w.heap.size w w2 := HW.out.trans (HB2.out.1.mono HW.out.size)
  have HBw : Hid (Below w.heap.size w w2) := hbw
  clear hs2 C2 hc0 hc1 HS2 hbw
  rcases HCs.out with ⟨hy, rfl, rfl, rfl, rfl, rfl⟩ | ⟨rfl, hfd⟩
  · have hy' : (y1 != 0) = true := by rw [bne_iff_ne]; exact hy
    have hyy : (y1 == y1) = true := by simp
    have C3 : Hid (∀ u, Below w2.heap.size w2 u → Calls Try.prog 8 #[.agg #[.slice a0 0 c0, .int .i64 0, .int .i64 0, .slice a3 0 c3, .slice a4 0 c4], .agg #[.slice none 0 0, .int .i64 0, .int .i64 0, .slice none 0 0, .slice none 0 0]] u fun e w' => e = .returned (.bool true) ∧ Below u.heap.size u w') := fun u hu => by
      have hr : ∀ a, Row u a 0 (fun _ => (0 : Int)) := fun a => ⟨0, 0, fun h => (by omega), fun i hi => (by omega)⟩
      exact sameFinding_any (by omega) (by omega) (by omega) (hr _) (hr _) (hr _) (hr _) (hr _) (hr _)
    clear hy HCs hb2
    simp only [List.length_nil] at k0 k3 k4
    go_wp2_with fail
    refine (C3.out _ (box_below _ _)).mono ?_
    rintro e w3 ⟨rfl, hb3⟩
    have HF : Hid (Below w.heap.size w w3) := (HBw.out.alloc HBw.out.size _).trans (hb3.mono (by have := HBw.out.size; simp; omega))
    clear hb3 C3
    go_wp2
    go_ret
    exact ⟨rfl, HF.out⟩
  · obtain ⟨hsok, he0⟩ := HSok.out rfl
    subst he0
    have HFd : Hid (FdIs N F K (stAll K A B F N) M1 N1 d r1 r2 l1 l2) := hfd
    have HS : Hid (Sok N F (stAll K A B F N) M1 N1) := hsok
    have hlen := hsok.len
    rw [hlen] at HSp ⊢
    obtain ⟨W2, eW2⟩ : ∃ x, x = w2.alloc (.cells #[.slice mb M1.length md, .slice xb M1.length xd] 35) := ⟨_, rfl⟩
    have HEW2 : Hid (w2.alloc (.cells #[.slice mb M1.length md, .slice xb M1.length xd] 35) = W2) := eW2.symm
    have HB2' : Hid (Below w2.heap.size w2 W2 ∧ Below W.heap.size W W2) := by subst eW2; exact ⟨box_below _ _, HB2.out.1.alloc HB2.out.1.size _⟩
    have HBx2 : Hid (∀ u, Below W2.heap.size W2 u → u.cell? ⟨w2.heap.size, 0, none⟩ = some (.slice mb M1.length md) ∧ u.cell? ⟨w2.heap.size, 1, none⟩ = some (.slice xb M1.length xd)) := fun u hu => by
      subst eW2
      exact ⟨new_alloc hu rfl, new_alloc hu rfl⟩
    have C4 : Hid (∀ u, Below W2.heap.size W2 u → Calls Try.prog 9 #[.agg #[.slice na N nc, .slice fa F fc], .agg #[.slice mb M1.length md, .slice xb M1.length xd]] u fun e w' => Below u.heap.size u w' ∧ ∃ (b0 b3 b4 : Option Addr) (g0 g3 g4 : Nat), e = .returned (.agg #[.slice b0 d.length g0, .int .i64 r1, .int .i64 r2, .slice b3 l1.length g3, .slice b4 l2.length g4]) ∧
        Row w' b0 d.length (fun i => d.getD i 0) ∧ Row w' b3 l1.length (fun i => l1.getD i 0) ∧ Row w' b4 l2.length (fun i => l2.getD i 0)) := fun u hu => by
      have hbu : Below w2.heap.size w2 u := HB2'.out.1.trans (hu.mono HB2'.out.1.size)
      have hbW : Below W.heap.size W u := HB2'.out.2.trans (hu.mono HB2'.out.2.size)
      have hsp := HSp.out.below hbu
      exact found_any (HPW.out.below hbW) HMs.out HE.out HS.out.lfew HS.out.few HS.out.pos (mks_gr rfl hsp.1) (nxs_egs hlen.symm hsp.2) (fun r hr => Nat.le_trans (HS.out.small r hr) HS.out.lfew) HS.out.tos HS.out.stp HFd.out.dead HFd.out.still HFd.out.never HFd.out.toStill HFd.out.toNever
    have C5 : Hid (∀ u, Below w2.heap.size w2 u → ∀ (b0 b3 b4 : Option Addr) (g0 g3 g4 : Nat), (Row u b0 d.length (fun i => d.getD i 0) ∧ Row u b3 l1.length (fun i => l1.getD i 0) ∧ Row u b4 l2.length (fun i => l2.getD i 0)) → Calls Try.prog 8 #[.agg #[.slice a0 d.length c0, .int .i64 r1, .int .i64 r2, .slice a3 l1.length c3, .slice a4 l2.length c4], .agg #[.slice b0 d.length g0, .int .i64 r1, .int .i64 r2, .slice b3 l1.length g3, .slice b4 l2.length g4]] u fun e w' => e = .returned (.bool true) ∧ Below u.heap.size u w') := fun u hu b0 b3 b4 g0 g3 g4 hr => by
      obtain ⟨h1, h2, h3⟩ := HRs2.out u hu
      have q1 := dead_len HFd.out.dead
      have q2 := HFd.out.toStill.len
      have q3 := HFd.out.toNever.len
      have q4 := HS.out.N20
      have q5 := HS.out.few
      exact sameFinding_any (by omega) (by omega) (by omega) h1 hr.1 h2 hr.2.1 h3 hr.2.2
    have HBw2 : Hid (∀ u, Below W2.heap.size W2 u → Below w.heap.size w u) := fun u hu => by
      have hbW : Below W.heap.size W u := HB2'.out.2.trans (hu.mono HB2'.out.2.size)
      exact HW.out.trans (hbW.mono HW.out.size)
    have HBf : Hid (∀ u, Below W2.heap.size W2 u → (u.cell? ⟨w1.heap.size, 0, none⟩ = some (.slice a0 d.length c0) ∧ u.cell? ⟨w1.heap.size, 1, none⟩ = some (.int .i64 r1) ∧ u.cell? ⟨w1.heap.size, 2, none⟩ = some (.int .i64 r2) ∧ u.cell? ⟨w1.heap.size, 3, none⟩ = some (.slice a3 l1.length c3) ∧ u.cell? ⟨w1.heap.size, 4, none⟩ = some (.slice a4 l2.length c4)) ∧ (u.cell? ⟨w.heap.size, 0, none⟩ = some (.slice na N nc) ∧ u.cell? ⟨w.heap.size, 1, none⟩ = some (.slice fa F fc)) ∧ (u.cell? ⟨w2.heap.size, 0, none⟩ = some (.slice mb M1.length md) ∧ u.cell? ⟨w2.heap.size, 1, none⟩ = some (.slice xb M1.length xd))) := fun u hu => by
      have hbu : Below w2.heap.size w2 u := HB2'.out.1.trans (hu.mono HB2'.out.1.size)
      exact ⟨HBx1.out u (HB2.out.2.trans (hbu.mono HB2.out.2.size)), HBx.out u (HB2.out.1.trans (hbu.mono HB2.out.1.size)), HBx2.out u hu⟩
    have HLe : Hid (∀ u, Below W2.heap.size W2 u → Below w2.heap.size w2 u) := fun u hu => HB2'.out.1.trans (hu.mono HB2'.out.1.size)
    clear hsok hlen hfd HCs hb2 k0 k1 k2 k3 k4 eW2
    generalize M1.length = ml at *
    generalize d.length = dn at *
    generalize l1.length = ln1 at *
    generalize l2.length = ln2 at *
    obtain ⟨⟨k0, k1, k2, k3, k4⟩, ⟨p0, p1⟩, s0, s1⟩ := HBf.out W2 (Below.refl _ _)
    go_upto_region 5 with fail
    rw [HEW2.out]
    have hzz : ((0 : Int) == 0) = true := rfl
    go_cut [6] from 37 to 45 (fun v wc => v = .bool true ∧ Hid (Below W2.heap.size W2 wc))
    case first =>
      go_region_held3 (fun z => (z.cell? ⟨w1.heap.size, 0, none⟩ = some (.slice a0 dn c0) ∧ z.cell? ⟨w1.heap.size, 1, none⟩ = some (.int .i64 r1) ∧ z.cell? ⟨w1.heap.size, 2, none⟩ = some (.int .i64 r2) ∧ z.cell? ⟨w1.heap.size, 3, none⟩ = some (.slice a3 ln1 c3) ∧ z.cell? ⟨w1.heap.size, 4, none⟩ = some (.slice a4 ln2 c4)) ∧ (z.cell? ⟨w.heap.size, 0, none⟩ = some (.slice na N nc) ∧ z.cell? ⟨w.heap.size, 1, none⟩ = some (.slice fa F fc)) ∧ z.cell? ⟨w2.heap.size, 0, none⟩ = some (.slice mb ml md) ∧ z.cell? ⟨w2.heap.size, 1, none⟩ = some (.slice xb ml xd))
        (first | (with_reducible exact HY) | (with_reducible exact HX) | (with_reducible exact HBf.out _ (below_drew_iff.2 (Below.refl _ _))) | go_keep)
        (first
          | (go_at_call 9; refine (C4.out _ (below_drew_iff.2 (Below.refl _ _))).mono ?_; rintro e w5 ⟨hb5, b0, b3, b4, g0, g3, g4, rfl, hr5⟩; have hw5 : Below W2.heap.size W2 w5 := (below_drew_iff.2 (Below.refl _ _)).trans hb5; have HX := HBf.out w5 hw5; dsimp only)
          | (go_at_call 8; refine (C5.out _ (HLe.out _ hw5) b0 b3 b4 g0 g3 g4 hr5).mono ?_; rintro e w6 ⟨rfl, hb6⟩; have hw6 : Below W2.heap.size W2 w6 := hw5.trans (hb6.mono hw5.size); have HY := HBf.out w6 hw6; dsimp only)
          | fail)
      all_goals go_wp2_with fail
      all_goals go_meet
      all_goals exact ⟨rfl, hid hw6⟩
    obtain ⟨rfl, HC⟩ := hcut
    have HF : Hid (Below w.heap.size w wc) := HBw2.out wc HC.out
    go_wp2
    go_ret
    exact ⟨rfl, HF.out⟩

end Go.Proofs.Ytjenkhphngiphaa
