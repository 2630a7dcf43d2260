/- The document's Explored. -/
import Derived.Laws.OwnMore
import Derived.Test.YthpbgfodejoecaaRefEx1
namespace Go.Proofs.Ythpbgfodejoecaa
open Go.RowKit Go.Maps

theorem step_append_none {P : Program} {w : World} {ops : Array Oper} {o : Oper} {a : Act} {K : Act → World → Prop} {Q : Exit → Act → World → Prop} {E : Prop} (hgd : o.guard = none) (s x : Operand) (t : TypeId)
    (ho : o.op = .call { callee := .builtin .append, args := #[s, x], argTypes := #[t, t] }) (e : TypeId) (i : TypeInfo) (ht : P.underlying t = some (.slice e)) (hi : P.info? e = some i)
    (hs : a.eval s = .slice none 0 0) (hx : a.eval x = .slice none 0 0) (h : K (a.put o.dst (.slice none 0 0)) w) : if Region.wanted o (yielded ops a.tmps) = true then Oper.wp P o a w K Q else E := by
  have hw : Region.wanted o (yielded ops a.tmps) = true := by simp [Region.wanted, hgd]
  rw [if_pos hw]
  have hrun := run_append_owned_none (P := P) (w := w) 0 t o.type e i 1 ht hi (.slice none 0 0) 0 [] (World.ownsRow_nil _ _ _ _)
  unfold Oper.wp execOp
  simp only [ho, resolve, invoke, builtin, Sem.run_bind, Sem.run_pure, Result.andThen_ok, List.map_toArray, List.map_cons, List.map_nil, hs, hx, hrun]
  exact h

theorem two_set0 {w : World} {r : Nat} {a b a' : Value} (h : Two w r a b) : Two (w.setCell ⟨r, 0, none⟩ a') r a' b := by
  unfold Two at *
  simp [World.setCell, Array.getElem?_modify, h]

theorem two_set3 {w : World} {r : Nat} {a b a' b' : Value} (h : Two w r a b) : Two (((w.setCell ⟨r, 0, none⟩ a').setCell ⟨r, 0, none⟩ a').setCell ⟨r, 1, none⟩ b') r a' b' := two_set (two_set0 h)

set_option maxRecDepth 20000 in
set_option maxHeartbeats 8000000 in
theorem explored_any {na fa : Option Addr} {N nc F fc : Nat} {M : Nat → ByteArray} {K A B : Nat → Int} {e0 : Int} {w : World} (hp : Prc w na N nc fa F M K A B) (hM : ∀ i, i < N → (M i).size ≤ maxLen) (he : ChkIs N F M K A B e0) (tk st : Int) {X : List Int → Nat → Int} (hX : XOk K A B F (stAll K A B F N) X) :
    Calls Try.prog 7 #[.agg #[.slice na N nc, .slice fa F fc], .int .i64 tk, .int .i64 st] w fun e w' => Below w.heap.size w w' ∧ ExIs w.heap.size (spE e0 (stAll K A B F N).length) tk st F (xall tk st K A B F (stAll K A B F N) X) e w' := by
  have HP : Hid (Prc w na N nc fa F M K A B) := hp
  have HE : Hid (ChkIs N F M K A B e0) := he
  have HXo : Hid (XOk K A B F (stAll K A B F N) X) := hX
  obtain ⟨i0, hi, hz0, hz1, hz2⟩ := info_parts Try.info3
  have HI : Hid (Try.prog.info? 3 = some i0 ∧ i0.zero = some (.int .i64 0) ∧ i0.size = 1 ∧ i0.bytes = 8) := ⟨hi, hz0, hz1, hz2⟩
  clear hi hz0 hz1 hz2
  obtain ⟨i1, hi, hz0, hz1, hz2⟩ := info_parts Try.info26
  have HI1 : Hid (Try.prog.info? 26 = some i1 ∧ i1.zero = some (.slice none 0 0) ∧ i1.size = 1 ∧ i1.bytes = 24) := ⟨hi, hz0, hz1, hz2⟩
  clear hi hz0 hz1 hz2
  obtain ⟨i8, hi, hz0, hz1, hz2⟩ := info_parts Try.info31
  have HI8 : Hid (Try.prog.info? 31 = some i8 ∧ i8.zero = some (.slice none 0 0) ∧ i8.size = 1 ∧ i8.bytes = 24) := ⟨hi, hz0, hz1, hz2⟩
  clear hi hz0 hz1 hz2
  obtain ⟨i9, hi, hz0, hz1, hz2⟩ := info_parts Try.info44
  have HI9 : Hid (Try.prog.info? 44 = some i9 ∧ i9.zero = some (.agg #[.int .i64 0, .int .i64 0]) ∧ i9.size = 2 ∧ i9.bytes = 16) := ⟨hi, hz0, hz1, hz2⟩
  clear hi hz0 hz1 hz2
  obtain ⟨r, hr⟩ : ∃ r, r = w.heap.size + 1 := ⟨_, rfl⟩
  have HRr : Hid (w.heap.size + 1 = r) := hr.symm
  obtain ⟨W, eW⟩ : ∃ x, x = (w.alloc (.cells #[.slice na N nc, .slice fa F fc] 25)).alloc (.cells #[.slice none 0 0, .slice none 0 0] 37) := ⟨_, rfl⟩
  have HW : Hid (Below w.heap.size w W ∧ W.heap.size = r + 1 ∧ Two W r (.slice none 0 0) (.slice none 0 0)) := by
    subst eW
    have e1 : (w.alloc (.cells #[.slice na N nc, .slice fa F fc] 25)).heap.size = r := by simp [hr]
    refine ⟨(box_below _ _).trans ((box_below _ _).mono (by simp)), by simp [hr], ?_⟩
    unfold Two
    rw [← e1]
    exact Go.Deep.blk_alloc_new _ _
  have HBx : Hid (∀ u, Below r W u → u.cell? ⟨w.heap.size, 0, none⟩ = some (.slice na N nc) ∧ u.cell? ⟨w.heap.size, 1, none⟩ = some (.slice fa F fc)) := fun u hu => by
    have hc : ∀ i v, (#[Value.slice na N nc, .slice fa F fc])[i]? = some v → W.cell? ⟨w.heap.size, i, none⟩ = some v := fun i v hv => by
      subst eW
      have hb : Below (w.alloc (.cells #[.slice na N nc, .slice fa F fc] 25)).heap.size (w.alloc (.cells #[.slice na N nc, .slice fa F fc] 25)) ((w.alloc (.cells #[.slice na N nc, .slice fa F fc] 25)).alloc (.cells #[.slice none 0 0, .slice none 0 0] 37)) := box_below _ _
      exact new_alloc hb hv
    exact ⟨(hu.cell (p := ⟨w.heap.size, 0, none⟩) (by show w.heap.size < r; omega)).trans (hc 0 _ rfl), (hu.cell (p := ⟨w.heap.size, 1, none⟩) (by show w.heap.size < r; omega)).trans (hc 1 _ rfl)⟩
  have HEW : Hid ((w.alloc (.cells #[.slice na N nc, .slice fa F fc] 25)).alloc (.cells #[.slice none 0 0, .slice none 0 0] 37) = W) := eW.symm
  have C1 : Hid (Calls Try.prog 28 #[.agg #[.slice na N nc, .slice fa F fc]] W fun e w' => Below W.heap.size W w' ∧ SpIs e0 (stAll K A B F N) e w') := steps_any na fa N nc F fc M K A B e0 W (hp.below HW.out.1) hM he
  have hrw : w.heap.size ≤ r := by omega
  clear eW hp he hX hM hr
  go_enter Try.func7, Try.ntmps7
  go_wp2_with fail
  rw [HEW.out, HRr.out]
  refine C1.out.mono ?_
  rintro e w1 ⟨hb1, hs1⟩
  have HB1 : Hid (Below W.heap.size W w1) := hb1
  have HBw1 : Hid (Below w.heap.size w w1) := HW.out.1.trans (hb1.mono HW.out.1.size)
  have H2 : Hid (Two w1 r (.slice none 0 0) (.slice none 0 0)) := HW.out.2.2.below hb1 (by have := HW.out.2.1; omega)
  have hrl1 : r < w1.heap.size := by have := hb1.size; have := HW.out.2.1; omega
  obtain ⟨⟨q0, q1⟩, f0, f1⟩ := two_cells H2.out
  clear hb1 C1
  rcases spAns hs1 with ⟨h1, rfl⟩ | ⟨h1, sa, sc, rfl, hst⟩
  · generalize hEE : spE e0 (stAll K A B F N).length = E at *
    have hz' : (E != 0) = true := by rw [bne_iff_ne]; exact h1
    have HZ : Hid (E ≠ 0 ∧ spE e0 (stAll K A B F N).length = E) := ⟨h1, hEE⟩
    clear h1 hEE hs1
    go_wp2
    (try simp only [Exit.inBlock, Exit.then])
    refine bodyPost_ret (results_cell_tmp3 rfl _ _ r 37 #[.slice none 0 0, .slice none 0 0] (0, 0) _ rfl (two_set H2.out) Try.underlying37 rfl (by kernel_rfl)) rfl ?_
    exact ⟨(HBw1.out.setCell hrw _).setCell hrw _, Or.inl ⟨by rw [HZ.out.2]; exact HZ.out.1, by rw [HZ.out.2]; rfl⟩⟩
  · have HE0 : Hid (e0 = 0 ∧ (stAll K A B F N).length ≤ 60) := spE_zero h1
    have HEz : Hid (ChkIs N F M K A B 0) := by have := HE.out; rw [HE0.out.1] at this; exact this
    have hF30 : F ≤ 30 := (chk_zero HEz.out).1.2
    have hF0 : 0 < F := chk_some HEz.out
    have HEE : Hid (spE e0 (stAll K A B F N).length = 0) := h1
    obtain ⟨l, hl⟩ : ∃ l, l = stAll K A B F N := ⟨_, rfl⟩
    have HL : Hid (l = stAll K A B F N) := hl
    have hl60 : l.length ≤ 60 := by rw [hl]; exact HE0.out.2
    have HSt : Hid (Sts w1 sa l.length (fun i => l.getD i (0, 0, 0))) := by rw [hl]; exact hst
    rw [← hl] at HXo ⊢
    clear hs1 hst h1 hl
    by_cases hok : (1 ≤ tk ∧ tk ≤ 9) ∧ 1 ≤ st ∧ st ≤ 200
    · have HOk : Hid ((1 ≤ tk ∧ tk ≤ 9) ∧ 1 ≤ st ∧ st ≤ 200) := hok
      obtain ⟨q, rfl⟩ : ∃ q : Nat, st = q := ⟨st.toNat, by omega⟩
      have hk1 : ¬ tk < 1 := by omega
      have hk2 : ¬ 9 < tk := by omega
      have hk3 : ¬ (q : Int) < 1 := by omega
      have hk4 : ¬ 200 < (q : Int) := by omega
      have hq : q ≤ 200 := by omega
      have htk : tk ≤ 9 := by omega
      have HCt : Hid (∀ u nv, Blr w1 u r nv → Below w.heap.size w u ∧ (u.cell? ⟨w.heap.size, 0, none⟩ = some (.slice na N nc) ∧ u.cell? ⟨w.heap.size, 1, none⟩ = some (.slice fa F fc)) ∧ Prc u na N nc fa F M K A B ∧ Sts u sa l.length (fun i => l.getD i (0, 0, 0))) := fun u nv hu => by
        have h1 : Below w.heap.size w u := HBw1.out.trans (hu.below.mono hrw)
        refine ⟨h1, HBx.out u ((HB1.out.mono (by have := HW.out.2.1; omega)).trans hu.below), HP.out.below h1, hu.sts H2.out (fun _ h => by cases h) (fun _ h => by cases h) HSt.out⟩
      obtain ⟨R, hR⟩ : ∃ R, R = xall tk (q : Int) K A B F l X := ⟨_, rfl⟩
      have HR : Hid (R = xall tk (q : Int) K A B F l X) := hR
      obtain ⟨c0, c1⟩ := HBx.out w1 (HB1.out.mono (by have := HW.out.2.1; omega))
      have C3 : Hid (Calls Try.prog 29 #[.agg #[.slice na N nc, .slice fa F fc]] w1 fun e w' => Below w1.heap.size w1 w' ∧ ∃ g, e = .returned (.slice (some ⟨g, 0, none⟩) F F) ∧ Mk w' g F (bgn K A)) := beginRef_any (HP.out.below HBw1.out) HEz.out
      clear hR hok
      go_wp2_with fail
      refine C3.out.mono ?_
      rintro e w3 ⟨hb3, g0, rfl, hm3⟩
      have HS0 : Hid (Rx w1 ((w3.alloc (.cells #[.slice (some ⟨g0, 0, none⟩) F F] 26)).alloc (.cells #[.slice none 0 0] 26)) r tk q F (nxl K A B F l) (cnl X l.length) (lst F (bgn K A)) R (xstart (lst F (bgn K A))) 0 (.slice (some ⟨w3.heap.size, 0, none⟩) 1 1) (.slice (some ⟨w3.heap.size + 1, 0, none⟩) 1 1) (.slice none 0 0)) := by
        have hb : Below w1.heap.size w1 ((w3.alloc (.cells #[.slice (some ⟨g0, 0, none⟩) F F] 26)).alloc (.cells #[.slice none 0 0] 26)) := (hb3.alloc hb3.size _).alloc (by simp; have := hb3.size; omega) _
        refine ⟨⟨hb.mono (by omega), fun i hi _ => hb.block i hi, H2.out.below hb hrl1⟩, hb.size, ⟨201, rfl, ?_⟩, rfl, xinv_start ?_ (by omega), rfl, rmm_start hb3.size hm3 (fun i _ => bgn_ok K A i)⟩
        · rw [HR.out]
          unfold xall
          rw [Int.toNat_natCast]
        · cases ho : ovr tk (lst F (bgn K A))
          · rfl
          · obtain ⟨j, _, hj⟩ := ovr_lst.1 ho
            have : bgn K A j ≤ 1 := by unfold bgn; split <;> omega
            omega
      clear hb3 hm3 C3 q0 q1 f0 f1 c0 c1
      go_wp2
      go_loopw [10, 11, 12] (fun v10 v11 i wr => ∃ (k : Nat) (T : Xp) (mv wv nv : Value), i = .int .i64 k ∧ mv = v10 ∧ wv = v11 ∧ Hid (Rx w1 wr r tk q F (nxl K A B F l) (cnl X l.length) (lst F (bgn K A)) R T k mv wv nv)) (fun _ _ i _ => 202 - (intOf i).toNat)
      case atStart => exact ⟨0, _, _, _, _, rfl, rfl, rfl, HS0.out⟩
      case round =>
        obtain ⟨k, T, mv, wv, nv, rfl, rfl, rfl, HT⟩ := hrel
        clear HS0
        obtain ⟨n, hn⟩ : ∃ n, n = T.marks.length := ⟨_, rfl⟩
        have HN : Hid (n = T.marks.length ∧ T.nexts.length = k ∧ T.ways.length = n) := ⟨hn, HT.out.len, by rw [hn]; exact HT.out.inv.wlen⟩
        obtain ⟨ma, mc, hmv⟩ : ∃ ma mc, mv = .slice ma n mc := by
          obtain ⟨G, ⟨Vs, h1, _⟩, _⟩ := HT.out.mem.mks
          rw [hn]
          rcases h1.2 with ⟨rfl, h0⟩ | ⟨g, cap, cur, rfl, _⟩
          · exact ⟨none, 0, by rw [h0]⟩
          · exact ⟨_, _, rfl⟩
        subst hmv
        obtain ⟨xa, xc, hnv⟩ : ∃ xa xc, nv = .slice xa k xc := by
          obtain ⟨Vs, h1, _⟩ := HT.out.mem.nxs
          rw [HT.out.len] at h1
          rcases h1.2 with ⟨rfl, h0⟩ | ⟨g, cap, cur, rfl, _⟩
          · exact ⟨none, 0, by rw [h0]⟩
          · exact ⟨_, _, rfl⟩
        subst hnv
        have hnlen := HT.out.inv.nlen
        have hfew := HT.out.inv.few
        have hk200 : k ≤ 200 := by have := HT.out.len; omega
        have hn200 : n ≤ 200 := by omega
        obtain ⟨hbw, ⟨b0, b1⟩, _, _⟩ := HCt.out wr _ HT.out.blr
        clear hnlen hfew hn
        by_cases hlt : k < n
        · have hltI : (k : Int) < (n : Int) := by omega
          have hTl : T.nexts.length < T.marks.length := by have := HN.out; omega
          have HTl : Hid (T.nexts.length < T.marks.length) := hTl
          obtain ⟨gb, go, g, gc, rfl, hmc, hmk⟩ := mk_at HT.out.mem.mks hTl
          have HMk : Hid (Mk wr g F (fnl T.here)) := hmk
          rw [HT.out.len] at hmc
          have C4 : Hid (∀ u, Below wr.heap.size wr u → Calls Try.prog 30 #[.agg #[.slice na N nc, .slice fa F fc], .slice sa l.length sc, .slice (some ⟨g, 0, none⟩) F gc] u fun e w' => Below u.heap.size u w' ∧ ∃ a c, e = .returned (.slice a (tally (X T.here) 1 l.length) c) ∧ w'.ownsRow u.heap.size 3 1 (.slice a (tally (X T.here) 1 l.length) c) (tally (X T.here) 1 l.length) (vals (fl (X T.here) 1 l.length))) := fun u hu => by
            obtain ⟨_, _, h3, h4⟩ := HCt.out u _ (HT.out.blr.next hrl1 (hu.mono HT.out.big))
            have hm := (HMk.out.below hu).row
            have hx := HXo.out T.here
            rw [HL.out] at h4 hx hl60 ⊢
            exact enabledRef_own h3 HEz.out hl60 h4 hm (X T.here) (fun i _ => hx i)
          obtain ⟨cn, hcn⟩ : ∃ cn, cn = cnl X l.length T.here := ⟨_, rfl⟩
          have hcl : cn.length = tally (X T.here) 1 l.length := by rw [hcn]; exact fl_len _ _ _
          have HCn : Hid (cn = cnl X l.length T.here ∧ fl (X T.here) 1 l.length = cn ∧ tally (X T.here) 1 l.length = cn.length) := ⟨hcn, hcn.symm, hcl.symm⟩
          have hcn60 : cn.length ≤ 60 := by have := tally_le (X T.here) 1 l.length; omega
          obtain ⟨wo, ewo⟩ : ∃ x, x = wr := ⟨_, rfl⟩
          subst ewo
          clear hmk hTl hcn hcl
          go_wp2
          go_region_held3 (fun z => z.cell? ⟨w.heap.size, 0, none⟩ = some (.slice na N nc) ∧ z.cell? ⟨w.heap.size, 1, none⟩ = some (.slice fa F fc) ∧ z.cell? ⟨gb, go + k, none⟩ = some (.slice (some ⟨g, 0, none⟩) F gc))
            (first | (with_reducible exact ⟨x0, x1, xg⟩) | (exact ⟨b0, b1, hmc⟩))
            (first | (go_at_call 30; refine (C4.out _ (below_drew_iff.2 (Below.refl _ _))).mono ?_; rintro e w4 ⟨hb4, ea, ec, rfl, hrow⟩; have hb4' : Below wo.heap.size wo w4 := (below_drew_iff.2 (Below.refl _ _)).trans hb4; obtain ⟨x0, x1⟩ := (HCt.out w4 _ (HT.out.blr.next hrl1 (hb4'.mono HT.out.big))).2.1; have xg : w4.cell? ⟨gb, go + k, none⟩ = some (.slice (some ⟨g, 0, none⟩) F gc) := (hb4'.cell (p := ⟨gb, go + k, none⟩) (World.block_lt_of_cell? _ _ hmc)).trans hmc; have HRow : Hid (w4.ownsRow wo.heap.size 3 1 (.slice ea cn.length ec) cn.length (vals cn)) := (by have := hrow; rw [HCn.out.2.1, HCn.out.2.2] at this; exact this); clear hrow; dsimp only))
          rw [HCn.out.2.2]
          have HB4 : Hid (Below wo.heap.size wo w4) := hb4'
          have HW4 : Hid (w1.heap.size ≤ w4.heap.size) := Nat.le_trans HT.out.big hb4'.size
          have HS1 : Hid (Ri w1 w4 w4 r tk q F (nxl K A B F l) (cnl X l.length) (lst F (bgn K A)) T T 0 (.slice (some ⟨gb, go, none⟩) n mc) wv (.slice xa k xc) (.slice none 0 0)) := by
            have hm := HT.out.mem.below hb4'
            exact ⟨HT.out.blr.next hrl1 (hb4'.mono HT.out.big), Nat.le_refl _, Kp.refl _ _, rfl, HT.out.inv, rfl, rfl, HTl.out, hm, hm.nxs, by rw [HT.out.cur]; exact World.ownsRow_nil _ _ _ _⟩
          clear hmc xg x0 x1 b0 b1 hbw hb4 hb4' C4 HMk
          go_wp2
          go_loopw [10, 11, 14, 15] (fun v10 v11 v14 i wr => ∃ (k2 : Nat) (S : Xp) (mv wv : Value) (va : Option Addr) (vc : Nat), k2 ≤ cn.length ∧ i = .int .i64 k2 ∧ mv = v10 ∧ wv = v11 ∧ v14 = .slice va k2 vc ∧ Hid (Ri w1 w4 wr r tk q F (nxl K A B F l) (cnl X l.length) (lst F (bgn K A)) T S k2 mv wv (.slice xa k xc) (.slice va k2 vc))) (fun _ _ _ i _ => cn.length - (intOf i).toNat)
          case atStart => exact ⟨0, T, _, _, none, 0, Nat.zero_le _, rfl, rfl, rfl, rfl, HS1.out⟩
          case round =>
            obtain ⟨k2, S, mv, wv2, va, vc, hk2, rfl, rfl, rfl, rfl, HSi⟩ := hrel
            clear HS1
            by_cases hlt2 : k2 < cn.length
            · obtain ⟨eb, eo, hea, hec⟩ := owns_row' rfl (row_kp HRow.out HSi.out.kp (by decide))
              obtain rfl := hea (by omega)
              have hcell : wr.cell? ⟨eb, eo + k2, none⟩ = some (.int .i64 (cn.getD k2 0)) := hec k2 hlt2
              have hkI : (k2 : Int) < (cn.length : Int) := by omega
              have hmem : cn.getD k2 0 ∈ cnl X l.length T.here := by
                rw [← HCn.out.1, List.getD_eq_getElem?_getD, List.getElem?_eq_getElem hlt2]
                exact List.getElem_mem hlt2
              obtain ⟨s, hs1, hs2, hs3⟩ := (mem_cnl HXo.out).1 hmem
              rw [hs1] at hcell
              have HS : Hid (cn.getD k2 0 = (s : Int) ∧ s < l.length ∧ enb K A B F (fnl T.here) (l.getD s (0, 0, 0))) := ⟨hs1, hs2, hs3⟩
              have hsl : (s : Int) < (l.length : Int) := by omega
              have hSn : S.nexts.length = k := by rw [HSi.out.nex]; exact HN.out.2.1
              obtain ⟨n2, hn2⟩ : ∃ n2, n2 = S.marks.length := ⟨_, rfl⟩
              have HN2 : Hid (n2 = S.marks.length ∧ S.nexts.length = k ∧ S.ways.length = n2) := ⟨hn2, hSn, by rw [hn2]; exact HSi.out.inv.wlen⟩
              have hkn2 : k < n2 := by rw [hn2, ← hSn]; exact HSi.out.lt
              have hkn2I : (k : Int) < (n2 : Int) := by omega
              have hn2q : n2 ≤ q := by rw [hn2]; exact HSi.out.inv.few
              obtain ⟨ma2, mc2, hmv⟩ : ∃ ma mc, mv = .slice ma n2 mc := by
                obtain ⟨G, ⟨Vs, h1, _⟩, _⟩ := HSi.out.mem.mks
                rw [hn2]
                rcases h1.2 with ⟨rfl, h0⟩ | ⟨g, cap, cur, rfl, _⟩
                · exact ⟨none, 0, by rw [h0]⟩
                · exact ⟨_, _, rfl⟩
              subst hmv
              obtain ⟨wa2, wc2, hwv⟩ : ∃ wa wc, wv2 = .slice wa n2 wc := by
                obtain ⟨Vs, h1, _⟩ := HSi.out.mem.wys
                rw [HN2.out.2.2] at h1
                rcases h1.2 with ⟨rfl, h0⟩ | ⟨g, cap, cur, rfl, _⟩
                · exact ⟨none, 0, by rw [h0]⟩
                · exact ⟨_, _, rfl⟩
              subst hwv
              obtain ⟨gb2, go2, g2, gc2, rfl, hmc, hmk⟩ := mk_at HSi.out.mem.mks (i := k) (by omega)
              have hhere : S.marks.getD k [] = T.here := by rw [← HSi.out.her, ← hSn]; rfl
              rw [hhere] at hmk
              obtain ⟨yb, yo, ya, yc, rfl, hyc, hyo, hyn⟩ := wys_at HSi.out.mem.wys (i := k) (by rw [HN2.out.2.2]; exact hkn2)
              obtain ⟨wy, hwy⟩ : ∃ wy, wy = S.ways.getD k [] := ⟨_, rfl⟩
              obtain ⟨wn, hwn⟩ : ∃ wn, wn = wy.length := ⟨_, rfl⟩
              rw [← hwy] at hyo hyc hyn
              rw [← hwn] at hyo hyc
              have hwn200 : wn ≤ 200 := by
                have hkw : k < S.ways.length := by rw [HN2.out.2.2]; exact hkn2
                have := (HSi.out.inv.paths k (S.ways.getD k []) (S.marks.getD k []) (by rw [List.getD_eq_getElem?_getD, List.getElem?_eq_getElem hkw]; rfl) (by rw [List.getD_eq_getElem?_getD, List.getElem?_eq_getElem (by omega)]; rfl)).2
                rw [← hwy, ← hwn] at this
                omega
              have HWy : Hid (S.way (s : Int) = wy ++ [(s : Int)] ∧ wn = wy.length) := by
                refine ⟨?_, hwn⟩
                unfold Xp.way
                rw [hSn, hwy]
              have HMk : Hid (Mk wr g2 F (fnl T.here)) := hmk
              have HYo : Hid (wr.ownsRow w1.heap.size 3 1 (.slice ya wn yc) wn (vals wy)) := hyo
              have HBig : Hid (w1.heap.size ≤ wr.heap.size) := Nat.le_trans HW4.out HSi.out.size
              have HSu : Hid (∀ u, Below wr.heap.size wr u → u.cell? ⟨yb, yo + k, none⟩ = some (.slice ya wn yc) ∧ u.cell? ⟨eb, eo + k2, none⟩ = some (.int .i64 (s : Nat))) := fun u hu =>
                ⟨(hu.cell (p := ⟨yb, yo + k, none⟩) (World.block_lt_of_cell? _ _ hyc)).trans hyc, (hu.cell (p := ⟨eb, eo + k2, none⟩) (World.block_lt_of_cell? _ _ hcell)).trans hcell⟩
              clear hec hea hmem hs1 hs2 hs3 hmk hhere hSn hn2 hyo hwy hwn
              go_wp2
              go_cut [16] from 68 to 78 (fun v wc => ∃ (a : Option Addr) (c : Nat), v = .slice a (wn + 1) c ∧ Hid (Below wr.heap.size wr wc ∧ wc.ownsRow wr.heap.size 3 1 (.slice a (wn + 1) c) (wn + 1) (vals (wy ++ [(s : Int)]))))
              case first =>
                by_cases hw0 : wn = 0
                · have hwe : wy = [] := List.eq_nil_of_length_eq_zero (by rw [← HWy.out.2]; exact hw0)
                  obtain ⟨rfl, rfl⟩ := hyn hwe
                  subst hw0
                  subst hwe
                  have y1 := (HSu.out _ (Below.refl _ _)).1
                  have y2 := (HSu.out _ (Below.refl _ _)).2
                  go_region_held3 (fun u => u.cell? ⟨yb, yo + k, none⟩ = some (.slice none 0 0) ∧ u.cell? ⟨eb, eo + k2, none⟩ = some (.int .i64 (s : Nat)))
                    (first | exact HSu.out _ hb78 | exact HSu.out _ (below_drew_iff.2 (Below.refl _ _)) | exact HSu.out _ ((below_drew_iff.2 (Below.refl _ _)).alloc (Nat.le_refl _) _))
                    (first
                      | (refine step_append_none (by rfl) _ _ _ (by rfl) 3 i0 Try.underlying26 HI.out.1 (by rfl) (by rfl) ?_)
                      | (refine step_append_lies _ (by rfl) _ _ _ (by rfl) wr.heap.size 3 i0 _ 1 8 Try.underlying26 HI.out.1 HI.out.2.1 HI.out.2.2.1 HI.out.2.2.2 rfl (by omega) (.slice none 0 0) 0 [] (by rfl) (World.ownsRow_nil _ _ _ _) ⟨wr.heap.size, 0, none⟩ 1 1 [.int .i64 (s : Nat)] (by rfl) (by rfl) (cell_one_new _ _ _) (ints_oneCell .i64 [(s : Int)]) (by omega) (by unfold maxLen; omega) (by omega) (by simp) _ rfl ?_
                         intro gz cz wz hown hgrow _ _
                         have hb78 : Below wr.heap.size wr wz := Below.grown ((below_drew_iff.2 (Below.refl _ _)).alloc (Nat.le_refl _) _) hgrow (by simp) (fun b h => by cases h)
                         have HOz : Hid (wz.ownsRow wr.heap.size 3 1 (.slice (some ⟨gz, 0, none⟩) (0 + 1) cz) (0 + 1) [.int .i64 (s : Nat)]) := hown
                         clear hown hgrow))
                  all_goals go_wp2_with fail
                  all_goals go_meet
                  all_goals exact ⟨some ⟨gz, 0, none⟩, cz, rfl, hb78, HOz.out⟩
                · have hyc' : ∃ g, ya = some ⟨g, 0, none⟩ := by
                    rcases HYo.out.2 with ⟨_, h0⟩ | ⟨g, cap, cur, e, _⟩
                    · exact absurd h0 hw0
                    · cases e
                      exact ⟨g, rfl⟩
                  obtain ⟨yg, rfl⟩ := hyc'
                  have HYc : Hid (∀ u, Below wr.heap.size wr u → ∀ j v, (vals wy)[j]? = some v → u.cell? ((⟨yg, 0, none⟩ : Addr).add j) = some v) := fun u hu j v hv => (below_ownsRow HYo.out hu).cells (g := yg) rfl j v hv
                  have HVl : Hid ((vals wy).length = wn * 1 ∧ ∀ u ∈ vals wy, u.oneCell' = true) := ⟨by rw [vals_len, HWy.out.2]; omega, ints_oneCell .i64 wy⟩
                  have hwp : 0 < wn := by omega
                  have y1 := (HSu.out _ (Below.refl _ _)).1
                  have y2 := (HSu.out _ (Below.refl _ _)).2
                  go_region_held3 (fun u => u.cell? ⟨yb, yo + k, none⟩ = some (.slice (some ⟨yg, 0, none⟩) wn yc) ∧ u.cell? ⟨eb, eo + k2, none⟩ = some (.int .i64 (s : Nat)))
                    (first | exact HSu.out _ hb78 | exact HSu.out _ hb72 | exact HSu.out _ (hb72.alloc hb72.size _) | exact HSu.out _ (below_drew_iff.2 (Below.refl _ _)) | exact HSu.out _ ((below_drew_iff.2 (Below.refl _ _)).alloc (Nat.le_refl _) _))
                    (first
                      | (refine step_append_lies _ (by rfl) _ _ _ (by rfl) wr.heap.size 3 i0 _ 1 8 Try.underlying26 HI.out.1 HI.out.2.1 HI.out.2.2.1 HI.out.2.2.2 rfl (by omega) (.slice none 0 0) 0 [] (by rfl) (World.ownsRow_nil _ _ _ _) ⟨yg, 0, none⟩ wn yc (vals wy) (by rfl) HVl.out.1 (HYc.out _ (below_drew_iff.2 (Below.refl _ _))) HVl.out.2 hwp (by unfold maxLen; omega) (by omega) (Nat.le_refl _) _ rfl ?_
                         intro ga ca wa hown hgrow _ _
                         rw [Nat.zero_add, List.nil_append] at hown
                         rw [Nat.zero_add]
                         have hb72 : Below wr.heap.size wr wa := Below.grown (below_drew_iff.2 (Below.refl _ _)) hgrow (Nat.le_refl _) (fun b h => by cases h)
                         have HO72 : Hid (wa.ownsRow wr.heap.size 3 1 (.slice (some ⟨ga, 0, none⟩) wn ca) wn (vals wy)) := hown
                         have hsz72 : wr.heap.size ≤ wa.heap.size := hb72.size
                         clear hown hgrow)
                      | (refine step_append_lies _ (by rfl) _ _ _ (by rfl) wr.heap.size 3 i0 _ 1 8 Try.underlying26 HI.out.1 HI.out.2.1 HI.out.2.2.1 HI.out.2.2.2 rfl (by omega) (.slice none 0 0) 0 [] (by rfl) (World.ownsRow_nil _ _ _ _) ⟨yg, 0, none⟩ wn yc (vals wy) (by rfl) HVl.out.1 (HYc.out _ ((below_drew_iff.2 (Below.refl _ _)).alloc (Nat.le_refl _) _)) HVl.out.2 hwp (by unfold maxLen; omega) (by omega) (by simp) _ rfl ?_
                         intro ga ca wa hown hgrow _ _
                         rw [Nat.zero_add, List.nil_append] at hown
                         rw [Nat.zero_add]
                         have hb72 : Below wr.heap.size wr wa := Below.grown ((below_drew_iff.2 (Below.refl _ _)).alloc (Nat.le_refl _) _) hgrow (by simp) (fun b h => by cases h)
                         have HNw : Hid (∀ j u, [Value.int .i64 (s : Nat)][j]? = some u → wa.cell? ((⟨wr.heap.size, 0, none⟩ : Addr).add j) = some u) := World.news_of_block (w := wa) (B := wr.heap.size) (cs := #[.int .i64 (s : Nat)]) (t := 3) (fr := (0, 0)) ((hgrow.block wr.heap.size (by simp) (by simp [Value.ownBlock])).trans (heap_alloc_new wr.drew _))
                         have HO72 : Hid (wa.ownsRow wr.heap.size 3 1 (.slice (some ⟨ga, 0, none⟩) wn ca) wn (vals wy)) := hown
                         have hsz72 : wr.heap.size ≤ wa.heap.size := hb72.size
                         clear hown hgrow)
                      | (refine step_append_lies _ (by rfl) _ _ _ (by rfl) wr.heap.size 3 i0 _ 1 8 Try.underlying26 HI.out.1 HI.out.2.1 HI.out.2.2.1 HI.out.2.2.2 rfl (by omega) (.slice (some ⟨ga, 0, none⟩) wn ca) wn (vals wy) (by rfl) (HO72.out.alloc _) ⟨wa.heap.size, 0, none⟩ 1 1 [.int .i64 (s : Nat)] (by rfl) (by rfl) (cell_one_new _ _ _) (ints_oneCell .i64 [(s : Int)]) (by omega) (by unfold maxLen; omega) (by omega) (by simp; omega) _ rfl ?_
                         intro gz cz wz hown hgrow _ _
                         have hb78 : Below wr.heap.size wr wz := Below.grown (hb72.alloc hsz72 _) hgrow (by simp; omega) (fun b h => (HO72.out.lt b h).1)
                         have HOz : Hid (wz.ownsRow wr.heap.size 3 1 (.slice (some ⟨gz, 0, none⟩) (wn + 1) cz) (wn + 1) (vals wy ++ [.int .i64 (s : Nat)])) := hown
                         clear hown hgrow)
                      | (refine step_append_lies _ (by rfl) _ _ _ (by rfl) wr.heap.size 3 i0 _ 1 8 Try.underlying26 HI.out.1 HI.out.2.1 HI.out.2.2.1 HI.out.2.2.2 rfl (by omega) (.slice (some ⟨ga, 0, none⟩) wn ca) wn (vals wy) (by rfl) HO72.out ⟨wr.heap.size, 0, none⟩ 1 1 [.int .i64 (s : Nat)] (by rfl) (by rfl) HNw.out (ints_oneCell .i64 [(s : Int)]) (by omega) (by unfold maxLen; omega) (by omega) hsz72 _ rfl ?_
                         intro gz cz wz hown hgrow _ _
                         have hb78 : Below wr.heap.size wr wz := Below.grown hb72 hgrow hsz72 (fun b h => (HO72.out.lt b h).1)
                         have HOz : Hid (wz.ownsRow wr.heap.size 3 1 (.slice (some ⟨gz, 0, none⟩) (wn + 1) cz) (wn + 1) (vals wy ++ [.int .i64 (s : Nat)])) := hown
                         clear hown hgrow))
                  all_goals go_wp2_with fail
                  all_goals go_meet
                  all_goals exact ⟨some ⟨gz, 0, none⟩, cz, rfl, hb78, by rw [← vals_snoc]; exact HOz.out⟩
              case rest =>
                obtain ⟨pa, pc, rfl, HPw⟩ := hcut
                have HB5 : Hid (Below wr.heap.size wr wc) := HPw.out.1
                have HBl5 : Hid (Blr w1 wc r (.slice xa k xc)) := HSi.out.blr.next hrl1 (HPw.out.1.mono HBig.out)
                have HBig5 : Hid (w1.heap.size ≤ wc.heap.size) := Nat.le_trans HBig.out HPw.out.1.size
                obtain ⟨_, ⟨b0, b1⟩, _, hst5⟩ := HCt.out wc _ HBl5.out
                have hmc5 : wc.cell? ⟨gb2, go2 + k, none⟩ = some (.slice (some ⟨g2, 0, none⟩) F gc2) := (HB5.out.cell (p := ⟨gb2, go2 + k, none⟩) (World.block_lt_of_cell? _ _ hmc)).trans hmc
                have hcell5 := (HSu.out wc HB5.out).2
                have hsn := HS.out.2.1
                obtain ⟨sb, so, hsa, hsc⟩ := hst5
                obtain rfl := hsa (by omega)
                obtain ⟨d0, d1, d2⟩ := hsc s hsn
                have hs2 : s < (stAll K A B F N).length := by rw [← HL.out]; exact hsn
                obtain ⟨j, x, o, ht, _, hfire⟩ := ref_step HEz.out hs2
                rw [← HL.out] at ht hfire
                dsimp only at d0 d1 d2
                rw [ht] at d0 d1 d2
                dsimp only at d0 d1 d2
                have H9 : Hid (∀ i, i < F → 0 ≤ fnl T.here i ∧ fnl T.here i ≤ 9) := (HT.out.mem.shp T.here (List.mem_of_getElem? (xhere HTl.out))).2
                have C17 : Hid (∀ u, Below wc.heap.size wc u → Calls Try.prog 31 #[.agg #[.slice na N nc, .slice fa F fc], .slice (some ⟨g2, 0, none⟩) F gc2, .agg #[.int .i64 j, .int .i64 x, .int .i64 o]] u fun e w' => Below u.heap.size u w' ∧ RfIs K A B F (fnl T.here) (l.getD s (0, 0, 0)) e w') := fun u hu => hfire u na fa _ nc fc gc2 _ (HCt.out u _ (HBl5.out.next hrl1 (hu.mono HBig5.out))).2.2.1 ((HMk.out.below HB5.out).below hu).row H9.out
                have HLk : Hid (k2 < (cnl X l.length T.here).length ∧ (cnl X l.length T.here).getD k2 0 = (s : Int)) := ⟨by rw [← HCn.out.1]; exact hlt2, by rw [← HCn.out.1]; exact HS.out.1⟩
                have HFin : Hid (∀ (u : World) (c : Int), Blr w1 u r (.slice xa k xc) → u.ownsRow wr.heap.size 3 1 (.slice pa (wn + 1) pc) (wn + 1) (vals (wy ++ [(s : Int)])) → c ≠ 0 → xput tk q (nxl K A B F l) S (s : Int) = .inl (c, S.way (s : Int)) →
                    Hid (Two ((u.setCell ⟨r, 0, none⟩ (.slice none 0 0)).setCell ⟨r, 1, none⟩ (.slice none 0 0)) r (.slice none 0 0) (.slice none 0 0) ∧ Below w.heap.size w ((u.setCell ⟨r, 0, none⟩ (.slice none 0 0)).setCell ⟨r, 1, none⟩ (.slice none 0 0)) ∧
                      ExIs w.heap.size (spE e0 (stAll K A B F N).length) tk q F (xall tk q K A B F (stAll K A B F N) X) (.returned (.tuple #[.agg #[.slice none 0 0, .slice none 0 0], .slice pa (wn + 1) pc, .int .i64 c])) ((u.setCell ⟨r, 0, none⟩ (.slice none 0 0)).setCell ⟨r, 1, none⟩ (.slice none 0 0)))) := fun u c hu hy hc hput => by
                  have hlen : wn + 1 = (wy ++ [(s : Int)]).length := by rw [List.length_append, HWy.out.2]; rfl
                  obtain ⟨h5, h6⟩ := blr_ret HBw1.out hrw hu hlen hy
                  have hin := ri_stop HSi.out HLk.out.1 (by rw [HLk.out.2]; exact hput)
                  have hRe := rx_stop HT.out hq HTl.out hin
                  refine ⟨two_set hu.two, h5, Or.inr (Or.inr (Or.inl ⟨HEE.out, HOk.out, c, wy ++ [(s : Int)], pa, pc, ?_, hc, by rw [← hlen], by rw [← hlen]; exact h6⟩))⟩
                  rw [← HL.out, ← HR.out, hRe, HWy.out.1]
                have HCell : Hid (∀ u, Kp [some 3, some 31, some 44] w4 u → u.cell? ⟨eb, eo + k2, none⟩ = some (.int .i64 (s : Nat))) := fun u hu => by
                  obtain ⟨b', o', ha', hc'⟩ := owns_row' rfl (row_kp HRow.out hu (by decide))
                  cases ha' (by omega)
                  exact (hc' k2 hlt2).trans (by show some (Value.int .i64 (cn.getD k2 0)) = _; rw [HS.out.1])
                have HNx : Hid (nxl K A B F l (s : Int) S.here = lst F (frs K A B (l.getD s (0, 0, 0)) (fnl T.here))) := by
                  show _ = _
                  unfold nxl
                  rw [Int.toNat_natCast, HSi.out.her]
                obtain ⟨wi, ewi⟩ : ∃ x, x = wr := ⟨_, rfl⟩
                subst ewi
                obtain ⟨w5, ew5⟩ : ∃ x, x = wc := ⟨_, rfl⟩
                subst ew5
                clear hmc hcell hyc ht hfire hsc hsa hs2 hyn
                go_wp2
                go_region_held3 (fun u => u.cell? ⟨w.heap.size, 0, none⟩ = some (.slice na N nc) ∧ u.cell? ⟨w.heap.size, 1, none⟩ = some (.slice fa F fc) ∧ u.cell? ⟨gb2, go2 + k, none⟩ = some (.slice (some ⟨g2, 0, none⟩) F gc2) ∧ u.cell? ⟨eb, eo + k2, none⟩ = some (.int .i64 (s : Nat)) ∧ u.cell? ⟨sb, so + s * 3, none⟩ = some (.int .i64 j) ∧ u.cell? ⟨sb, so + s * 3 + 1, none⟩ = some (.int .i64 x) ∧ u.cell? ⟨sb, so + s * 3 + 2, none⟩ = some (.int .i64 o))
                  (first | (with_reducible exact ⟨x0, x1, x2, x3, x4, x5, x6⟩) | (exact ⟨b0, b1, hmc5, hcell5, d0, d1, d2⟩))
                  (first | (go_at_call 31; refine (C17.out _ (below_drew_iff.2 (Below.refl _ _))).mono ?_; rintro e w6 ⟨hb, hf⟩; obtain ⟨u1, u2, rfl⟩ := rf_tuple hf; have hb' : Below w5.heap.size w5 w6 := (below_drew_iff.2 (Below.refl _ _)).trans hb; obtain ⟨x0, x1⟩ := (HCt.out w6 _ (HBl5.out.next hrl1 (hb'.mono HBig5.out))).2.1; have x2 := (hb'.cell (p := ⟨gb2, go2 + k, none⟩) (World.block_lt_of_cell? _ _ hmc5)).trans hmc5; have x3 := (hb'.cell (p := ⟨eb, eo + k2, none⟩) (World.block_lt_of_cell? _ _ hcell5)).trans hcell5; have x4 := (hb'.cell (p := ⟨sb, so + s * 3, none⟩) (World.block_lt_of_cell? _ _ d0)).trans d0; have x5 := (hb'.cell (p := ⟨sb, so + s * 3 + 1, none⟩) (World.block_lt_of_cell? _ _ d1)).trans d1; have x6 := (hb'.cell (p := ⟨sb, so + s * 3 + 2, none⟩) (World.block_lt_of_cell? _ _ d2)).trans d2; dsimp only))
                have HB6 : Hid (Below wi.heap.size wi w6) := HB5.out.trans (hb'.mono HB5.out.size)
                have HBl6 : Hid (Blr w1 w6 r (.slice xa k xc)) := HBl5.out.next hrl1 (hb'.mono HBig5.out)
                have HBig6 : Hid (w1.heap.size ≤ w6.heap.size) := Nat.le_trans HBig5.out hb'.size
                have HYo6 : Hid (w6.ownsRow wi.heap.size 3 1 (.slice pa (wn + 1) pc) (wn + 1) (vals (wy ++ [(s : Int)]))) := below_ownsRow HPw.out.2 hb'
                have HKp6 : Hid (Kp [some 3, some 31, some 44] w4 w6) := HSi.out.kp.trans (kp_below HB6.out)
                have HSz6 : Hid (w4.heap.size ≤ w6.heap.size) := Nat.le_trans HSi.out.size HB6.out.size
                have HMem6 : Hid (Rmm w6 w1.heap.size F S.marks S.ways T.nexts (.slice (some ⟨gb2, go2, none⟩) n2 mc2) (.slice (some ⟨yb, yo, none⟩) n2 wc2) (.slice xa k xc)) := HSi.out.mem.below HB6.out
                have HEd6 : Hid (w6.ownsRow w4.heap.size 44 2 (.slice va k2 vc) k2 (pvals S.cur)) := below_ownsRow HSi.out.edg HB6.out
                clear hb hb' C17 b0 b1 hmc5 hcell5 d0 d1 d2 x0 x1 x2 x3 x4 x5 x6 HPw HYo HSu
                rcases hf with ⟨⟨jj, hjj, h9⟩, he⟩ | ⟨h9, g5, c5, he, hm5⟩
                · cases he
                  have HOv : Hid (ovr tk (lst F (frs K A B (l.getD s (0, 0, 0)) (fnl T.here))) = true) := ovr_lst.2 ⟨jj, hjj, by omega⟩
                  clear h9
                  have HG := HFin.out w6 7 HBl6.out HYo6.out (by decide) (put_over HNx.out HOv.out)
                  obtain ⟨⟨q0, q1⟩, f0, f1⟩ := two_cells HBl6.out.two
                  go_wp2
                  (try simp only [Exit.inBlock, Exit.then])
                  refine bodyPost_ret (results_cell_tmp3 rfl _ _ r 37 #[.slice none 0 0, .slice none 0 0] (0, 0) _ rfl HG.out.1 Try.underlying37 rfl (by kernel_rfl)) rfl ?_
                  exact HG.out.2
                · cases he
                  obtain ⟨Z, hZ⟩ : ∃ Z, Z = frs K A B (l.getD s (0, 0, 0)) (fnl T.here) := ⟨_, rfl⟩
                  have HZ9 : Hid (∀ i, i < F → 0 ≤ Z i ∧ Z i ≤ 9) := fun i hi => by rw [hZ]; exact ⟨frs_bound HS.out.2.2 H9.out i hi, h9 i hi⟩
                  rw [← hZ] at hm5 HNx
                  have HM5 : Hid (Mk w6 g5 F Z) := hm5
                  clear h9 hm5 hZ
                  go_wp2
                  go_loopw [19] (fun i wr => ∃ jf : Nat, jf ≤ F ∧ i = .int .i64 jf ∧ w6 = wr ∧ Hid (∀ y, y < jf → Z y ≤ tk)) (fun i _ => F - (intOf i).toNat)
                  case atStart => exact ⟨0, Nat.zero_le _, rfl, rfl, fun y hy => by omega⟩
                  case round =>
                    obtain ⟨jf, hjf, rfl, rfl, HJ⟩ := hrel
                    by_cases hjl : jf < F
                    · have hzc : w6.cell? ⟨g5, jf, none⟩ = some (.int .i64 (Z jf)) := HM5.out.cell hjl
                      have hjI : (jf : Int) < (F : Int) := by omega
                      by_cases hzt : tk < Z jf
                      · have HOv : Hid (ovr tk (lst F Z) = true) := ovr_lst.2 ⟨jf, hjl, hzt⟩
                        have HG := HFin.out w6 7 HBl6.out HYo6.out (by decide) (put_over HNx.out HOv.out)
                        obtain ⟨⟨q0, q1⟩, f0, f1⟩ := two_cells HBl6.out.two
                        go_wp2
                        (try simp only [Exit.inBlock, Exit.then])
                        refine bodyPost_ret (results_cell_tmp3 rfl _ _ r 37 #[.slice none 0 0, .slice none 0 0] (0, 0) _ rfl HG.out.1 Try.underlying37 rfl (by kernel_rfl)) rfl ?_
                        exact HG.out.2
                      · have HZj : Hid (Z jf ≤ tk) := Int.not_lt.1 hzt
                        go_wp2
                        go_roundw
                        case rel => exact ⟨jf + 1, by omega, by go_num, trivial, fun y hy => by
                          by_cases e : y = jf
                          · rw [e]; exact HZj.out
                          · exact HJ.out y (by omega)⟩
                        case measure => simp [intOf]; omega
                    · obtain rfl : F = jf := by omega
                      have HOv : Hid (ovr tk (lst F Z) = false) := by
                        cases ho : ovr tk (lst F Z)
                        · rfl
                        · obtain ⟨y, hy, h1⟩ := ovr_lst.1 ho
                          have := HJ.out y hy
                          omega
                      clear HJ
                      go_wp2
                      go_loopw [20] (fun i wr => ∃ ja qa : Nat, ja ≤ n2 ∧ i = .int .i64 ja ∧ wr = w6.drewN qa ∧ Hid (∀ y, y < ja → S.marks.getD y [] ≠ lst F Z)) (fun i _ => n2 - (intOf i).toNat)
                      case atStart => exact ⟨0, 0, Nat.zero_le _, rfl, rfl, fun y hy => by omega⟩
                      case round =>
                        obtain ⟨ja, qa, hja, rfl, rfl, HJa⟩ := hrel
                        have HB7 : Hid (Below w6.heap.size w6 (w6.drewN qa)) := below_drewn (Below.refl _ _) qa
                        by_cases hjn : ja < n2
                        · have hjI : (ja : Int) < (n2 : Int) := by omega
                          obtain ⟨b3, o3, g3, c3, e3, hm3, hk3⟩ := mk_at (HMem6.out.below HB7.out).mks (i := ja) (by have := HN2.out.1; omega)
                          cases e3
                          have hsh : Shp F (S.marks.getD ja []) := HSi.out.mem.shp _ (by rw [List.getD_eq_getElem?_getD, List.getElem?_eq_getElem (by have := HN2.out.1; omega)]; exact List.getElem_mem _)
                          have HSh : Hid (Shp F (S.marks.getD ja [])) := hsh
                          by_cases heq : S.marks.getD ja [] = lst F Z
                          · have C13 : Hid (Calls Try.prog 12 #[.slice (some ⟨g3, 0, none⟩) F c3, .slice (some ⟨g5, 0, none⟩) F c5] (w6.drewN qa) fun e w' => e = .returned (.bool true) ∧ ∃ q, w' = (w6.drewN qa).drewN q) := equal_marks hF30 hsh hk3.row (HM5.out.below HB7.out).row true ⟨fun _ => heq, fun _ => rfl⟩
                            have HPut : Hid (xput tk q (nxl K A B F l) S (s : Int) = .inr { S with cur := S.cur ++ [((s : Int), (ja : Int))] }) := put_found HNx.out HOv.out HSi.out.inv.nodup (by have := HN2.out.1; omega) heq
                            have hne : ((ja : Int) == (n2 : Int)) = false := beq_eq_false_iff_ne.2 (by omega)
                            clear heq hk3 hsh
                            go_wp2_with fail
                            refine C13.out.mono ?_
                            rintro e w7 ⟨rfl, q7, rfl⟩
                            have HB8 : Hid (Below w6.heap.size w6 ((w6.drewN qa).drewN q7)) := below_drewn HB7.out q7
                            generalize hw8 : (w6.drewN qa).drewN q7 = w8 at *
                            have hc8 := HCell.out w8 (HKp6.out.trans (kp_below HB8.out))
                            have HJ8 : Hid (Rj w1 w4 w8 r tk q F (nxl K A B F l) (cnl X l.length) T S { S with cur := S.cur ++ [((s : Int), (ja : Int))] } k2 (.slice (some ⟨gb2, go2, none⟩) n2 mc2) (.slice (some ⟨yb, yo, none⟩) n2 wc2) (.slice xa k xc) (.slice va k2 vc) (ja : Int)) :=
                              ⟨HBl6.out.next hrl1 (HB8.out.mono HBig6.out), Nat.le_trans HSz6.out HB8.out.size, HKp6.out.trans (kp_below HB8.out), by rw [HLk.out.2]; exact HPut.out, by rw [HLk.out.2], HMem6.out.below HB8.out, below_ownsRow HEd6.out HB8.out⟩
                            have HSz8 : Hid (w4.heap.size ≤ w8.heap.size) := HJ8.out.size
                            clear C13 hw8
                            go_wp2_with (at_builtin; refine wpList_append_own_at _ rfl _ _ 31 rfl w4.heap.size 44 i9 (.agg #[.int .i64 0, .int .i64 0]) 2 16 Try.underlying31 HI9.out.1 HI9.out.2.1 HI9.out.2.2.1 HI9.out.2.2.2 rfl (by decide) _ _ _ rfl (HJ8.out.edg.alloc _) ⟨w8.heap.size, 0, none⟩ 1 1 [.int .i64 (s : Nat), .int .i64 (ja : Nat)] rfl rfl (World.news_of_block (cs := #[.int .i64 (s : Nat), .int .i64 (ja : Nat)]) (t := 44) (fr := (0, 0)) (heap_alloc_new w8 _)) (by simp [Value.oneCell']) (by unfold maxLen; omega) (by omega) (by have := HJ8.out.size; simp; omega) ?_; intro vz wz hownz hgrowz _ _; obtain ⟨⟨az, cz, rfl⟩, HRz⟩ := Rj.app HSi.out HJ8.out HLk.out.1 hrl1 HW4.out (by rw [HLk.out.2]; exact hownz) hgrowz; clear hownz hgrowz)
                            go_roundw
                            case rel => exact ⟨k2 + 1, _, _, _, az, cz, by omega, by go_num, rfl, rfl, rfl, HRz.out⟩
                            case measure => simp [intOf]; omega
                          · have C13 : Hid (Calls Try.prog 12 #[.slice (some ⟨g3, 0, none⟩) F c3, .slice (some ⟨g5, 0, none⟩) F c5] (w6.drewN qa) fun e w' => e = .returned (.bool false) ∧ ∃ q, w' = (w6.drewN qa).drewN q) := equal_marks hF30 hsh hk3.row (HM5.out.below HB7.out).row false ⟨fun h => (by cases h), fun h => absurd h heq⟩
                            have HNe : Hid (S.marks.getD ja [] ≠ lst F Z) := heq
                            clear heq hk3 hsh
                            go_wp2_with fail
                            refine C13.out.mono ?_
                            rintro e w7 ⟨rfl, q7, rfl⟩
                            clear C13
                            go_wp2
                            go_roundw
                            case rel => exact ⟨ja + 1, _, by omega, by go_num, rfl, fun y hy => by
                              by_cases e : y = ja
                              · rw [e]; exact HNe.out
                              · exact HJa.out y (by omega)⟩
                            case measure => simp [intOf]; omega
                        · obtain rfl : n2 = ja := by omega
                          have HNo : Hid (∀ y, y < S.marks.length → S.marks.getD y [] ≠ lst F Z) := by rw [← HN2.out.1]; exact HJa.out
                          have hee : ((n2 : Int) == (n2 : Int)) = true := by simp
                          generalize hw7 : w6.drewN qa = w7 at *
                          have HBl7 : Hid (Blr w1 w7 r (.slice xa k xc)) := HBl6.out.next hrl1 (HB7.out.mono HBig6.out)
                          have HYo7 : Hid (w7.ownsRow wi.heap.size 3 1 (.slice pa (wn + 1) pc) (wn + 1) (vals (wy ++ [(s : Int)]))) := below_ownsRow HYo6.out HB7.out
                          clear hw7 HJa
                          by_cases hnq : n2 = q
                          · have hnq' : ((n2 : Int) == (q : Int)) = true := beq_iff_eq.2 (by omega)
                            have HQ : Hid (S.marks.length = q) := by rw [← HN2.out.1]; exact hnq
                            clear hnq
                            have HG := HFin.out w7 8 HBl7.out HYo7.out (by decide) (put_full HNx.out HOv.out HNo.out HQ.out)
                            obtain ⟨⟨q0, q1⟩, f0, f1⟩ := two_cells HBl7.out.two
                            go_wp2
                            (try simp only [Exit.inBlock, Exit.then])
                            refine bodyPost_ret (results_cell_tmp3 rfl _ _ r 37 #[.slice none 0 0, .slice none 0 0] (0, 0) _ rfl HG.out.1 Try.underlying37 rfl (by kernel_rfl)) rfl ?_
                            exact HG.out.2
                          · have hnq' : ((n2 : Int) == (q : Int)) = false := beq_eq_false_iff_ne.2 (by omega)
                            have hlen : (wy ++ [(s : Int)]).length = wn + 1 := by rw [List.length_append, HWy.out.2]; rfl
                            have HLen : Hid ((wy ++ [(s : Int)]).length = wn + 1 ∧ wy ++ [(s : Int)] ≠ []) := ⟨hlen, by simp⟩
                            have HPut : Hid (xput tk q (nxl K A B F l) S (s : Int) = .inr { S with marks := S.marks ++ [lst F Z], ways := S.ways ++ [wy ++ [(s : Int)]], cur := S.cur ++ [((s : Int), ((n2 : Nat) : Int))] }) := by
                              have := put_new HNx.out HOv.out HNo.out (q := q) (by rw [← HN2.out.1]; exact hnq)
                              rw [HWy.out.1, ← HN2.out.1] at this
                              exact this
                            have HMem7 : Hid (Rmm w7 w1.heap.size F S.marks S.ways T.nexts (.slice (some ⟨gb2, go2, none⟩) n2 mc2) (.slice (some ⟨yb, yo, none⟩) n2 wc2) (.slice xa k xc)) := HMem6.out.below HB7.out
                            have HM7 : Hid (Mk w7 g5 F Z) := HM5.out.below HB7.out
                            have HBig7 : Hid (w1.heap.size ≤ w7.heap.size) := Nat.le_trans HBig6.out HB7.out.size
                            have HKp7 : Hid (Kp [some 3, some 31, some 44] w4 w7) := HKp6.out.trans (kp_below HB7.out)
                            have HSz7 : Hid (w4.heap.size ≤ w7.heap.size) := Nat.le_trans HSz6.out HB7.out.size
                            have HEd7 : Hid (w7.ownsRow w4.heap.size 44 2 (.slice va k2 vc) k2 (pvals S.cur)) := below_ownsRow HEd6.out HB7.out
                            obtain ⟨G, hMr⟩ := HMem7.out.mks
                            rw [← HN2.out.1] at hMr
                            have HMr : Hid (Mrs w7 w1.heap.size (.slice (some ⟨gb2, go2, none⟩) n2 mc2) F n2 (fun i => fnl (S.marks.getD i [])) G) := hMr
                            obtain ⟨Vs, hVs⟩ := hMr.own
                            have HVs : Hid (w7.ownsRow w1.heap.size 26 1 (.slice (some ⟨gb2, go2, none⟩) n2 mc2) n2 Vs ∧ ∀ i, i < n2 → ∃ c, Vs[i]? = some (.slice (some ⟨G i, 0, none⟩) F c)) := hVs
                            clear hMr hVs hnq hlen
                            go_wp2_with (at_builtin; first
                              | (refine wpList_append_own_at _ rfl _ _ 27 rfl w1.heap.size 26 i1 (.slice none 0 0) 1 24 Try.underlying27 HI1.out.1 HI1.out.2.1 HI1.out.2.2.1 HI1.out.2.2.2 rfl (by decide) _ _ _ rfl (HVs.out.1.alloc _) ⟨w7.heap.size, 0, none⟩ 1 1 [.slice (some ⟨g5, 0, none⟩) F c5] rfl rfl (World.news_of_block (cs := #[.slice (some ⟨g5, 0, none⟩) F c5]) (t := 26) (fr := (0, 0)) (heap_alloc_new w7 _)) (by simp [Value.oneCell']) (by unfold maxLen; omega) (by omega) (by have := HBig7.out; simp; omega) ?_; intro v8 w8 hown8 hgrow8 _ hbl8; obtain ⟨⟨a8, c8, rfl⟩, HA8⟩ := Rmm.mark HMem7.out HN2.out.1 HBig7.out HM7.out HZ9.out HMr.out HVs.out hown8 hgrow8 hbl8; obtain ⟨Us, hUs⟩ := HA8.out.1.wys; rw [HN2.out.2.2] at hUs; have HUs : Hid (w8.ownsRow w1.heap.size 26 1 (.slice (some ⟨yb, yo, none⟩) n2 wc2) n2 Us ∧ ∀ i, i < n2 → ∃ v, Us[i]? = some v ∧ w8.ownsRow w1.heap.size 3 1 v (S.ways.getD i []).length (vals (S.ways.getD i [])) ∧ (S.ways.getD i [] = [] → v = .slice none 0 0)) := hUs; have HBig8 : Hid (w1.heap.size ≤ w8.heap.size) := Nat.le_trans HBig7.out HA8.out.2.1.size; have HY8 : Hid (w8.ownsRow wi.heap.size 3 1 (.slice pa (wn + 1) pc) (wy ++ [(s : Int)]).length (vals (wy ++ [(s : Int)]))) := (by rw [HLen.out.1]; exact row_kp HYo7.out HA8.out.2.2 (by decide)); clear hown8 hgrow8 hbl8 hUs)
                              | (refine wpList_append_own_at _ rfl _ _ 27 rfl w1.heap.size 26 i1 (.slice none 0 0) 1 24 Try.underlying27 HI1.out.1 HI1.out.2.1 HI1.out.2.2.1 HI1.out.2.2.2 rfl (by decide) _ _ _ rfl (HUs.out.1.alloc _) ⟨w8.heap.size, 0, none⟩ 1 1 [.slice pa (wn + 1) pc] rfl rfl (World.news_of_block (cs := #[.slice pa (wn + 1) pc]) (t := 26) (fr := (0, 0)) (heap_alloc_new w8 _)) (by simp [Value.oneCell']) (by unfold maxLen; omega) (by omega) (by have := HBig8.out; simp; omega) ?_; intro v9 w9 hown9 hgrow9 _ hbl9; obtain ⟨⟨a9, c9, rfl⟩, HA9⟩ := Rmm.wayApp HA8.out.1 HN2.out.2.2.symm HBig8.out HBig.out HY8.out HLen.out.2 HUs.out hown9 hgrow9 hbl9; have hc9 := HCell.out w9 ((HKp7.out.trans HA8.out.2.2).trans HA9.out.2.2); have HJ9 : Hid (Rj w1 w4 w9 r tk q F (nxl K A B F l) (cnl X l.length) T S { S with marks := S.marks ++ [lst F Z], ways := S.ways ++ [wy ++ [(s : Int)]], cur := S.cur ++ [((s : Int), ((n2 : Nat) : Int))] } k2 (.slice a8 (n2 + 1) c8) (.slice a9 (n2 + 1) c9) (.slice xa k xc) (.slice va k2 vc) ((n2 : Nat) : Int)) := ⟨(HBl7.out.next hrl1 HA8.out.2.1).next hrl1 HA9.out.2.1, Nat.le_trans HSz7.out (Nat.le_trans HA8.out.2.1.size HA9.out.2.1.size), (HKp7.out.trans HA8.out.2.2).trans HA9.out.2.2, (by rw [HLk.out.2]; exact HPut.out), (by rw [HLk.out.2]), HA9.out.1, row_kp (row_kp HEd7.out HA8.out.2.2 (by decide)) HA9.out.2.2 (by decide)⟩; clear hown9 hgrow9 hbl9)
                              | (refine wpList_append_own_at _ rfl _ _ 31 rfl w4.heap.size 44 i9 (.agg #[.int .i64 0, .int .i64 0]) 2 16 Try.underlying31 HI9.out.1 HI9.out.2.1 HI9.out.2.2.1 HI9.out.2.2.2 rfl (by decide) _ _ _ rfl (HJ9.out.edg.alloc _) ⟨w9.heap.size, 0, none⟩ 1 1 [.int .i64 (s : Nat), .int .i64 (n2 : Nat)] rfl rfl (World.news_of_block (cs := #[.int .i64 (s : Nat), .int .i64 (n2 : Nat)]) (t := 44) (fr := (0, 0)) (heap_alloc_new w9 _)) (by simp [Value.oneCell']) (by unfold maxLen; omega) (by omega) (by have := HJ9.out.size; simp; omega) ?_; intro vz wz hownz hgrowz _ _; obtain ⟨⟨az, cz, rfl⟩, HRz⟩ := Rj.app HSi.out HJ9.out HLk.out.1 hrl1 HW4.out (by rw [HLk.out.2]; exact hownz) hgrowz; clear hownz hgrowz))
                            go_roundw
                            case rel => exact ⟨k2 + 1, _, _, _, az, cz, by omega, by go_num, rfl, rfl, rfl, HRz.out⟩
                            case measure => simp [intOf]; omega
            · obtain rfl : cn.length = k2 := by omega
              obtain ⟨⟨q0, q1⟩, f0, f1⟩ := two_cells HSi.out.blr.two
              obtain ⟨Vs, hVs⟩ := HSi.out.mem.nxs
              rw [HN.out.2.1] at hVs
              have HVs : Hid (wr.ownsRow w1.heap.size 31 1 (.slice xa k xc) k Vs ∧ ∀ i, i < k → ∃ v, Vs[i]? = some v ∧ wr.ownsRow w1.heap.size 44 2 v (T.nexts.getD i []).length (pvals (T.nexts.getD i []))) := hVs
              have HSz : Hid (w1.heap.size ≤ wr.heap.size) := Nat.le_trans HW4.out HSi.out.size
              have HCl : Hid (cn.length = (cnl X l.length T.here).length) := congrArg List.length HCn.out.1
              clear hVs
              go_wp2_with (at_builtin; refine wpList_append_own_at _ rfl _ _ 35 rfl w1.heap.size 31 i8 (.slice none 0 0) 1 24 Try.underlying35 HI8.out.1 HI8.out.2.1 HI8.out.2.2.1 HI8.out.2.2.2 rfl (by decide) _ _ _ rfl (HVs.out.1.alloc _) ⟨wr.heap.size, 0, none⟩ 1 1 [.slice va cn.length vc] rfl rfl (World.news_of_block (cs := #[.slice va cn.length vc]) (t := 31) (fr := (0, 0)) (heap_alloc_new wr _)) (by simp [Value.oneCell']) (by unfold maxLen; omega) (by omega) (by have := HSz.out; simp; omega) ?_; intro v6 w6 hown6 hgrow6 _ _; obtain ⟨⟨a6, c6, rfl⟩, gf8, g8, H6⟩ := Ri.fin HT.out HSi.out HCl.out hq HTl.out hrl1 HW4.out HVs.out hown6 hgrow6; clear hown6 hgrow6)
              go_roundw
              case rel => exact ⟨k + 1, S.close, _, _, _, by go_num, rfl, rfl, H6.out⟩
              case measure => simp [intOf]; omega
        · have hltI : ¬ (k : Int) < (n : Int) := by omega
          have HRe : Hid (R = .inr T) := rx_end HT.out (by have := HN.out; omega)
          obtain ⟨⟨q0, q1⟩, f0, f1⟩ := two_cells HT.out.blr.two
          have hrr : r < wr.heap.size := Nat.lt_of_lt_of_le hrl1 HT.out.big
          go_wp2
          (try simp only [Exit.inBlock, Exit.then])
          refine bodyPost_ret (results_cell_tmp3 rfl _ _ r 37 #[.slice ma n mc, .slice xa k xc] (0, 0) _ rfl ?hh Try.underlying37 rfl (by kernel_rfl)) rfl ?_
          case hh => exact two_set3 HT.out.blr.two
          rw [← HL.out, ← HR.out]
          have kp : Kp [some 26, some 3, some 31, some 44] wr (((wr.setCell ⟨r, 0, none⟩ (.slice ma n mc)).setCell ⟨r, 0, none⟩ (.slice ma n mc)).setCell ⟨r, 1, none⟩ (.slice xa k xc)) := (kp_set (i := 0) HT.out.blr.two (by decide) _).trans (kp_two (two_set0 HT.out.blr.two) (by decide))
          have hb := (HCt.out wr _ HT.out.blr).1
          exact ⟨((hb.setCell hrw _).setCell hrw _).setCell hrw _, Or.inr (Or.inr (Or.inr ⟨by rw [HL.out]; exact HEE.out, HOk.out, T, _, _, w1.heap.size, HBw1.out.size, HRe.out, rfl, mks_kp HT.out.mem.mks kp (by decide) (by decide), nxs_kp HT.out.mem.nxs kp (by decide) (by decide)⟩))⟩
    · have HBad : Hid (¬ ((1 ≤ tk ∧ tk ≤ 9) ∧ 1 ≤ st ∧ st ≤ 200)) := hok
      have HF : Hid (Below w.heap.size w ((w1.setCell ⟨r, 0, none⟩ (.slice none 0 0)).setCell ⟨r, 1, none⟩ (.slice none 0 0)) ∧ ExIs w.heap.size (spE e0 l.length) tk st F (xall tk st K A B F l X) (.returned (.tuple #[.agg #[.slice none 0 0, .slice none 0 0], .slice none 0 0, .int .i64 1])) ((w1.setCell ⟨r, 0, none⟩ (.slice none 0 0)).setCell ⟨r, 1, none⟩ (.slice none 0 0))) := by
        refine ⟨(HBw1.out.setCell hrw _).setCell hrw _, Or.inr (Or.inl ⟨?_, hok, rfl⟩)⟩
        rw [HL.out]
        exact HEE.out
      have HU : Hid (Two ((w1.setCell ⟨r, 0, none⟩ (.slice none 0 0)).setCell ⟨r, 1, none⟩ (.slice none 0 0)) r (.slice none 0 0) (.slice none 0 0)) := two_set H2.out
      clear hok
      by_cases hk1 : tk < 1
      · go_wp2
        (try simp only [Exit.inBlock, Exit.then])
        refine bodyPost_ret (results_cell_tmp3 rfl _ _ r 37 #[.slice none 0 0, .slice none 0 0] (0, 0) _ rfl HU.out Try.underlying37 rfl (by kernel_rfl)) rfl ?_
        rw [← HL.out]
        exact HF.out
      · by_cases hk2 : 9 < tk
        · go_wp2
          (try simp only [Exit.inBlock, Exit.then])
          refine bodyPost_ret (results_cell_tmp3 rfl _ _ r 37 #[.slice none 0 0, .slice none 0 0] (0, 0) _ rfl HU.out Try.underlying37 rfl (by kernel_rfl)) rfl ?_
          rw [← HL.out]
          exact HF.out
        · by_cases hk3 : st < 1
          · go_wp2
            (try simp only [Exit.inBlock, Exit.then])
            refine bodyPost_ret (results_cell_tmp3 rfl _ _ r 37 #[.slice none 0 0, .slice none 0 0] (0, 0) _ rfl HU.out Try.underlying37 rfl (by kernel_rfl)) rfl ?_
            rw [← HL.out]
            exact HF.out
          · have hk4 : 200 < st := by have := HBad.out; omega
            go_wp2
            (try simp only [Exit.inBlock, Exit.then])
            refine bodyPost_ret (results_cell_tmp3 rfl _ _ r 37 #[.slice none 0 0, .slice none 0 0] (0, 0) _ rfl HU.out Try.underlying37 rfl (by kernel_rfl)) rfl ?_
            rw [← HL.out]
            exact HF.out

end Go.Proofs.Ythpbgfodejoecaa
