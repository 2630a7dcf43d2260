/- The document's Both. -/
import Derived.Test.YtdncjikmknkkpaaDoorBoQ
import Derived.Test.YtdncjikmknkkpaaDoorBotJ
namespace Go.Proofs.YtdncjikmknkkpaaDoor
open Go.RowKit Go.Shelf Go.Maps

theorem crs_raw_len (ok : Nat → Nat → Bool) (n m : Nat) (Z Y : Nat → Int) (hn : n ≤ 1048576) (hm : m ≤ 1048576) : (crs ok (raw n Z) (raw m Y)).length ≤ 1099511627776 := by
  have h1 := crs_len ok (raw m Y) (raw n Z)
  rw [raw_len, raw_len] at h1
  have h2 : n * m ≤ 1048576 * 1048576 := Nat.mul_le_mul hn hm
  omega

/-- What numbered answers to Both. -/
theorem nb_both {w : World} {A B : Ax} {e : Ending} {w' : World} (hA : chkA A = 0) (hB : chkA B = 0) (h : NbIs w (dBs A B) (eBx A B) e w') :
    (∃ (k : Nat) (pa : Option Addr) (pc : Nat) (fv tv : Value) (V : List Value), e = .returned (.tuple #[.slice pa k pc, fv, tv, .bool true]) ∧ Hid ((bL A B k).length = k ∧ k ≤ 2048 ∧ Below w.heap.size w w' ∧ w'.ownsRow w.heap.size 3 1 fv (cs ((bS A B).map fun p => ix p (bL A B k))).length (vals (cs ((bS A B).map fun p => ix p (bL A B k)))) ∧
      Rws2 w' w.heap.size tv k (fun i => (bX A B (nAt (bL A B k) i)).map fun p => ix p (bL A B k)) V ∧ Sp w' pa k (nAt (bL A B k)) ∧ ∀ p, pa = some p → p.block < w'.heap.size))
    ∨ (e = .returned (.tuple #[.slice none 0 0, .slice none 0 0, .slice none 0 0, .bool false]) ∧ Hid ((∃ k, 2048 < (bL A B k).length) ∧ Below w.heap.size w w')) := by
  rcases h with ⟨k, pa, pc, fv, tv, V, rfl, H⟩ | ⟨rfl, H⟩
  · obtain ⟨hk, hk2, hN⟩ := H.out
    rw [eQ_is] at hk hN
    have hf := hN.fro
    rw [dBs_nums] at hf
    refine Or.inl ⟨k, pa, pc, fv, tv, V, rfl, hid ⟨hk, hk2, hN.low, hf, ⟨hN.top, fun i hi => ?_⟩, ?_⟩⟩
    · obtain ⟨v, h1, h2⟩ := hN.row i hi
      rw [eBx_nums hA hB hi (by omega)] at h2
      exact ⟨v, h1, h2⟩
    · have ho := hN.own
      obtain ⟨_, h2, _⟩ := owns_at ho
      rw [hk] at h2
      refine ⟨h2, fun p hp => ?_⟩
      subst hp
      exact (ho.lt p.block rfl).2
  · refine Or.inr ⟨rfl, hid ⟨?_, H.out.2⟩⟩
    obtain ⟨k, hk⟩ := H.out.1
    exact ⟨k, by rw [← eQ_is]; exact hk⟩

set_option maxRecDepth 100000 in
set_option maxHeartbeats 16000000 in
theorem both15_any (A B : Ax) (w : World) (hA : Aw w A) (hB : Aw w B) (hA0 : chkA A = 0) (hB0 : chkA B = 0) (hsA : A.sn ≤ 1048576) (hsB : B.sn ≤ 1048576) (hLA : ∀ r, r < A.G → A.L r ≤ 1048576) (hLB : ∀ r, r < B.G → B.L r ≤ 1048576) : Calls Tryd.prog 15 #[A.val, B.val] w fun e w' => BoIs w A B e w' := by
  show Calls Tryd.prog 15 #[.agg #[.slice A.sa A.sn A.sc, .slice A.na A.G A.nc, .slice A.ma A.M A.mc, .slice A.oa A.O A.oc, .slice A.fa A.K A.fc], .agg #[.slice B.sa B.sn B.sc, .slice B.na B.G B.nc, .slice B.ma B.M B.mc, .slice B.oa B.O B.oc, .slice B.fa B.K B.fc]] w _
  obtain ⟨W1, hW1, hb1, hs1, hboA, hboB, hres⟩ := bo_world w A B
  obtain ⟨Wn, hWn, hbn, hsn, yn, yfn, hkn⟩ := box1 W1 .nilFunc 89
  obtain ⟨W2, hW2⟩ : ∃ W2, Wn.setCell ⟨W1.heap.size, 0, none⟩ (.func (.func 51) #[] #[.pointer (some ⟨w.heap.size, 0, none⟩), .pointer (some ⟨w.heap.size + 1, 0, none⟩)]) = W2 := ⟨_, rfl⟩
  have hbut : But W1.heap.size Wn W2 := by rw [← hW2]; exact (But.refl _ _).setCell 0 _
  have hb2 : Below W1.heap.size W1 W2 := hbn.trans (hbut.below (Nat.le_refl _) hbn.size)
  have y2 : W2.cell? ⟨W1.heap.size, 0, none⟩ = some (.func (.func 51) #[] #[.pointer (some ⟨w.heap.size, 0, none⟩), .pointer (some ⟨w.heap.size + 1, 0, none⟩)]) := by
    have h := blk_setCell (i := 0) (v := .func (.func 51) #[] #[.pointer (some ⟨w.heap.size, 0, none⟩), .pointer (some ⟨w.heap.size + 1, 0, none⟩)]) hkn
    rw [hW2] at h
    exact cell_of_cells h rfl
  have hs2 : W2.heap.size = W1.heap.size + 1 := by rw [← hW2, World.size_setCell, hsn]
  rw [hs1] at y2 hs2 hW2 yn yfn
  have HH := hid (And.intro hA (And.intro hB (And.intro hA0 (And.intro hB0 (And.intro hLA hLB)))))
  have HB2 : Hid (Below w.heap.size w W2) := hid (hb1.trans (hb2.mono hb1.size))
  have HBA2 := hid (hboA.below hb2)
  have HBB2 := hid (hboB.below hb2)
  have HRE2 : Hid (W2.heap[w.heap.size + 1 + 1]? = some (.cells nil5 26)) := hid ((hb2.block _ (by omega)).trans hres)
  have HS2 : Hid (W2.heap.size = w.heap.size + 4) := hid (by omega)
  obtain ⟨q0, _, _, _, _⟩ := HBA2.out
  obtain ⟨r0, _, _, _, _⟩ := HBB2.out
  have C51 : Hid (Calls Tryd.prog 51 #[.slice A.sa A.sn A.sc, .slice B.sa B.sn B.sc, .pointer (some ⟨w.heap.size, 0, none⟩), .pointer (some ⟨w.heap.size + 1, 0, none⟩)] W2 fun e w' => ∃ v, e = .returned v ∧ Hid (Below W2.heap.size W2 w' ∧ w'.ownsRow W2.heap.size 88 2 v (dBs A B).length (pcells (dBs A B)))) := hid (d51_any A B (w.heap.size) (w.heap.size + 1) A.sa B.sa A.sn A.sc B.sn B.sc A.S B.S W2 (hA.below HB2.out) (hB.below HB2.out) hA0 hB0 HBA2.out HBB2.out ((hA.below HB2.out).start) ((hB.below HB2.out).start) (fun i hi => (chkA_ok hA0).2.2.2.2.1 i hi) (fun i hi => (chkA_ok hB0).2.2.2.2.1 i hi) hsA hsB)
  have hKA : A.K ≤ 80 := (chkA_ok hA0).2.1
  have hKB : B.K ≤ 80 := (chkA_ok hB0).2.1
  have HLN : Hid ((dBs A B).length ≤ 1099511627776) := hid (crs_raw_len _ _ _ _ _ hsA hsB)
  have HY2 := hid y2
  have hmf : ∀ (fn : Fn) (first cap : Array Value) (w : World), (Instr.makeFunc fn first cap).run Tryd.prog w = .ok (.func fn first cap) w := fun _ _ _ _ => rfl
  have hst : Sem.run Tryd.prog (store (⟨w.heap.size + 3, 0, none⟩ : Addr) (.func (.func 51) #[] #[.pointer (some ⟨w.heap.size, 0, none⟩), .pointer (some ⟨w.heap.size + 1, 0, none⟩)])) Wn = .ok () W2 := by
    unfold store Sem.run
    simp only [yn, yfn, hW2]
    rfl
  clear hA hB hA0 hB0 hsA hsB hLA hLB hb1 hboA hboB hres hb2 hbut hbn hkn hsn
  go_enter Tryd.func15, Tryd.ntmps15
  go_wp2_with fail
  refine C51.out.mono ?_
  rintro e W3 ⟨v, rfl, HV⟩
  obtain ⟨va, vc, hv⟩ := owns_sl HV.out.2
  subst hv
  obtain ⟨vn, hvn⟩ : ∃ vn, (dBs A B).length = vn := ⟨_, rfl⟩
  have HB3 : Hid (Below w.heap.size w W3) := hid (HB2.out.trans (HV.out.1.mono HB2.out.size))
  have HBA3 := hid (HBA2.out.below HV.out.1)
  have HBB3 := hid (HBB2.out.below HV.out.1)
  have HRE3 : Hid (W3.heap[w.heap.size + 1 + 1]? = some (.cells nil5 26)) := hid ((HV.out.1.block _ (Array.getElem?_eq_some_iff.1 HRE2.out).1).trans HRE2.out)
  have HY3 : Hid (W3.cell? ⟨w.heap.size + 3, 0, none⟩ = some (.func (.func 51) #[] #[.pointer (some ⟨w.heap.size, 0, none⟩), .pointer (some ⟨w.heap.size + 1, 0, none⟩)])) := hid (below_cell HV.out.1 (Nat.le_refl _) HY2.out)
  have HS3 : Hid (w.heap.size + 4 ≤ W3.heap.size) := hid (by have h1 := HS2.out; have h2 := HV.out.1.size; omega)
  rw [hvn]
  have C52 : Hid (Calls Tryd.prog 52 #[.slice va vn vc, .func (.func 53) #[] #[.pointer (some ⟨w.heap.size + 3, 0, none⟩), .pointer (some ⟨w.heap.size, 0, none⟩), .pointer (some ⟨w.heap.size + 1, 0, none⟩)]] W3 fun e w' => NbIs W3 (dBs A B) (eBx A B) e w') := hid (by
    obtain ⟨_, h2, _⟩ := owns_at HV.out.2
    rw [hvn] at h2
    exact numbered_any va vn vc (dBs A B) (eBx A B) (bP A B) _ _ _ W3 hvn.symm h2 (fun p hp => by subst hp; exact (HV.out.2.lt p.block rfl).2) (dBs_ok HH.out.2.2.1 HH.out.2.2.2.1) (eBx_ok HH.out.2.2.1 HH.out.2.2.2.1) (fun p hp => bP_sml HH.out.2.2.1 HH.out.2.2.2.1 hp) (by rw [← hvn]; exact HLN.out) (fun p hp => by rw [eBx_is hp]; exact crs_raw_len _ _ _ _ _ (HH.out.2.2.2.2.1 _ hp.1) (HH.out.2.2.2.2.2 _ hp.2))
      (fun p u hu hp => by rw [eBx_is hp]; exact d53_any A B (w.heap.size + 3) (w.heap.size) (w.heap.size + 1) p W3 u (HH.out.1.below HB3.out) (HH.out.2.1.below HB3.out) HH.out.2.2.1 HH.out.2.2.2.1 HH.out.2.2.2.2.1 HH.out.2.2.2.2.2 HY3.out HBA3.out HBB3.out hu hp))
  clear q0 r0 y2 yn yfn hst C51 HBA2 HBB2 HRE2 HB2 HY2 hvn HV HLN
  go_wp2_with fail
  refine C52.out.mono ?_
  rintro e w11 hN
  rcases nb_both HH.out.2.2.1 HH.out.2.2.2.1 hN with ⟨k, pa, pc, fv, tv, V2, rfl, HG⟩ | ⟨rfl, HG⟩
  · clear hN C52
    have HB11 : Hid (Below w.heap.size w w11) := hid (HB3.out.trans (HG.out.2.2.1.mono HB3.out.size))
    have HRE11 : Hid (w11.heap[w.heap.size + 1 + 1]? = some (.cells nil5 26)) := hid ((HG.out.2.2.1.block _ (Array.getElem?_eq_some_iff.1 HRE3.out).1).trans HRE3.out)
    have HBA11 := hid (HBA3.out.below HG.out.2.2.1)
    have HBB11 := hid (HBB3.out.below HG.out.2.2.1)
    have s4 := HBA11.out.r4
    have s5 := HBB11.out.r4
    by_cases hK : 80 < A.K + B.K
    · have hK2 : (80 : Int) < (A.K : Nat) + (B.K : Nat) := by omega
      obtain ⟨⟨y0, y1, y2, y3, y4⟩, yf⟩ := five_cells HRE11.out
      have f0 := yf 0
      have f1 := yf 1
      have f2 := yf 2
      have f3 := yf 3
      have f4 := yf 4
      obtain ⟨X, hX⟩ : ∃ X, (((((w11.setCell ⟨w.heap.size + 1 + 1, 0, none⟩ (.slice none 0 0)).setCell ⟨w.heap.size + 1 + 1, 1, none⟩ (.slice none 0 0)).setCell ⟨w.heap.size + 1 + 1, 2, none⟩ (.slice none 0 0)).setCell ⟨w.heap.size + 1 + 1, 3, none⟩ (.slice none 0 0)).setCell ⟨w.heap.size + 1 + 1, 4, none⟩ (.slice none 0 0)) = X := ⟨_, rfl⟩
      obtain ⟨hx5, hxb⟩ := set5 _ _ _ _ _ HRE11.out hX
      obtain ⟨⟨k0, k1, k2, k3, k4⟩, _⟩ := five_cells hx5
      have HF : Hid (BoIs w A B (.returned (.tuple #[.agg nil5, .int .i64 2])) X) := hid (Or.inr (Or.inr (Or.inl ⟨HH.out.2.2.1, HH.out.2.2.2.1, Or.inl hK, rfl, HB11.out.trans (hxb.below (by omega) HB11.out.size)⟩)))
      clear yf hxb hx5
      go_wp2
      refine ⟨rfl, .tuple #[.agg nil5, .int .i64 2], by simp [results, Tryd.f15, go_sem, k0, k1, k2, k3, k4], ?_⟩
      exact HF.out
    · have hK2 : ¬ (80 : Int) < (A.K : Nat) + (B.K : Nat) := by omega
      obtain ⟨sa1, sc1, hsv⟩ := owns_sl HG.out.2.2.2.1
      obtain ⟨na1, nc1, hnv⟩ := owns_sl HG.out.2.2.2.2.1.top
      obtain ⟨sn1, hsn1⟩ : ∃ n, (cs ((bS A B).map fun p => ix p (bL A B k))).length = n := ⟨_, rfl⟩
      rw [hsn1] at hsv
      clear hsn1
      subst hsv
      subst hnv
      obtain ⟨Mf, hMf⟩ : ∃ Mf : Nat → Nat, (fun i => A.Mu (nAt (bL A B k) i).1 ||| B.Mu (nAt (bL A B k) i).2) = Mf := ⟨_, rfl⟩
      obtain ⟨Nf, hNf⟩ : ∃ Nf : Nat → Nat, (fun i => A.No (nAt (bL A B k) i).1 ||| B.No (nAt (bL A B k) i).2) = Nf := ⟨_, rfl⟩
      have HMN := hid (And.intro hMf hNf)
      have hk2 := HG.out.2.1
      obtain ⟨z5, hz5, hb5⟩ : ∃ z5, w11.alloc (.cells (two5 (.slice sa1 sn1 sc1) (.slice na1 k nc1)) 26) = z5 ∧ Below w11.heap.size w11 z5 := ⟨_, rfl, box_below _ _⟩
      have haut : z5.heap[w11.heap.size]? = some (.cells (two5 (.slice sa1 sn1 sc1) (.slice na1 k nc1)) 26) := by rw [← hz5]; exact Go.Deep.blk_alloc_new _ _
      have HAUT := hid haut
      have HZS : Hid (w11.heap.size + 1 = z5.heap.size) := hid (by rw [← hz5]; simp)
      have HB5 := hid hb5
      have HL5 : Hid (Below w.heap.size w z5) := hid (HB11.out.trans (hb5.mono HB11.out.size))
      have HBA5 := hid (HBA11.out.below hb5)
      have HBB5 := hid (HBB11.out.below hb5)
      have HRE5 : Hid (z5.heap[w.heap.size + 1 + 1]? = some (.cells nil5 26)) := hid ((hb5.block _ (Array.getElem?_eq_some_iff.1 HRE11.out).1).trans HRE11.out)
      have HSP : Hid (Sp z5 pa k (nAt (bL A B k))) := hid (HG.out.2.2.2.2.2.1.below hb5)
      have HPN : Hid (∀ p, pa = some p → p.block < w11.heap.size) := hid HG.out.2.2.2.2.2.2
      have HSZ : Hid (w.heap.size + 3 < w11.heap.size) := hid (by have h1 := HS3.out; have h2 := HG.out.2.2.1.size; omega)
      have HSV := hid (owns_below HG.out.2.2.2.1 hb5)
      have HNV : Hid (Rws2 z5 W3.heap.size (.slice na1 k nc1) k (fun i => (bX A B (nAt (bL A B k) i)).map fun p => ix p (bL A B k)) V2) := hid ⟨owns_below HG.out.2.2.2.2.1.top hb5, fun i hi => by obtain ⟨v, g1, g2⟩ := HG.out.2.2.2.2.1.row i hi; exact ⟨v, g1, owns_below g2 hb5⟩⟩
      have HLS := hid (lb_start (ab := w11.heap.size) (w0 := z5) (sv := .slice sa1 sn1 sc1) (nv := .slice na1 k nc1) (fv := .slice none 0 0) Mf Nf haut)
      obtain ⟨iu, hi, hz0, hz1, hz2⟩ := info_parts Tryd.info51
      have HU : Hid (Tryd.prog.info? 51 = some iu ∧ iu.zero = some (.int .u64 0) ∧ iu.size = 1 ∧ iu.bytes = 8) := ⟨hi, hz0, hz1, hz2⟩
      clear hi hz0 hz1 hz2
      obtain ⟨iv, hi, hz0, hz1, hz2⟩ := info_parts Tryd.info22
      have HVV : Hid (Tryd.prog.info? 22 = some iv ∧ iv.zero = some (.slice none 0 0) ∧ iv.size = 1 ∧ iv.bytes = 24) := ⟨hi, hz0, hz1, hz2⟩
      clear hi hz0 hz1 hz2
      obtain ⟨i0, hi, hz0, hz1, hz2⟩ := info_parts Tryd.info3
      have HI : Hid (Tryd.prog.info? 3 = some i0 ∧ i0.zero = some (.int .i64 0) ∧ i0.size = 1 ∧ i0.bytes = 8) := ⟨hi, hz0, hz1, hz2⟩
      have HZ5 := hid hz5
      clear hz5
      clear hi hz0 hz1 hz2 hMf hNf haut hb5 HBA3 HBB3 HRE3 HB3 HY3
      go_wp2
      clear s4 s5
      obtain ⟨b11, hb11⟩ : ∃ b11, w11.heap.size = b11 := ⟨_, rfl⟩
      rw [HZ5.out]
      clear HZ5
      (try rw [hb11])
      rw [hb11] at HLS HPN HSZ HAUT HZS
      have hbz : b11 < z5.heap.size := by have := HZS.out; omega
      go_loopw [12] (fun i wr => ∃ (j : Nat) (mv ov : Value), j ≤ k ∧ i = .int .i64 j ∧ Hid (Lb b11 z5 (.slice sa1 sn1 sc1) (.slice na1 k nc1) mv ov (.slice none 0 0) Mf Nf j j wr)) (fun i _ => k - (intOf i).toNat)
      case atStart => exact ⟨0, _, _, Nat.zero_le _, rfl, HLS⟩
      case round =>
        obtain ⟨j, mv, ov, hj, rfl, HLq⟩ := hrel
        clear HLS
        obtain ⟨⟨m1, hmv⟩, ⟨m2, hov⟩⟩ := And.intro (owns_sl HLq.out.ms) (owns_sl HLq.out.os)
        obtain ⟨c1, hmv⟩ := hmv
        obtain ⟨c2, hov⟩ := hov
        subst hmv
        subst hov
        obtain ⟨pb, hpa, hpc⟩ := HSP.out
        by_cases hlt : j < k
        · obtain rfl := hpa (by omega)
          obtain ⟨z1, z2⟩ := hpc j hlt
          have hP : bP A B (nAt (bL A B k) j) := bL_all HH.out.2.2.1 HH.out.2.2.2.1 k _ (nAt_mem (by have := HG.out.1; omega))
          have hMj : Mf j = A.Mu (nAt (bL A B k) j).1 ||| B.Mu (nAt (bL A B k) j).2 := by rw [← HMN.out.1]
          have hNj : Nf j = A.No (nAt (bL A B k) j).1 ||| B.No (nAt (bL A B k) j).2 := by rw [← HMN.out.2]
          obtain ⟨mb1, mo1, hma1, hmc1⟩ := HH.out.1.must
          obtain ⟨mb2, mo2, hma2, hmc2⟩ := HH.out.2.1.must
          obtain ⟨nb1, no1, hna1, hnc1⟩ := HH.out.1.nots
          obtain ⟨nb2, no2, hna2, hnc2⟩ := HH.out.2.1.nots
          obtain ⟨_, _, hMA, hOA, _⟩ := chkA_ok HH.out.2.2.1
          obtain ⟨_, _, hMB, hOB, _⟩ := chkA_ok HH.out.2.2.2.1
          obtain ⟨hp1, hp2⟩ := hP
          have hx1 : (nAt (bL A B k) j).1 < A.M := by omega
          have hx2 : (nAt (bL A B k) j).1 < A.O := by omega
          have hx3 : (nAt (bL A B k) j).2 < B.M := by omega
          have hx4 : (nAt (bL A B k) j).2 < B.O := by omega
          have zm1 := hmc1 _ hx1
          have zm2 := hmc2 _ hx3
          have zn1 := hnc1 _ hx2
          have zn2 := hnc2 _ hx4
          (try dsimp only at zm1 zm2 zn1 zn2)
          have lm1 := HH.out.1.mu _ hx1
          have lm2 := HH.out.2.1.mu _ hx3
          have ln1 := HH.out.1.no _ hx2
          have ln2 := HH.out.2.1.no _ hx4
          have b12 := HBA5.out.r2
          have b22 := HBB5.out.r2
          have b13 := HBA5.out.r3
          have b23 := HBB5.out.r3
          rw [hma1 (by omega)] at b12
          rw [hma2 (by omega)] at b22
          rw [hna1 (by omega)] at b13
          rw [hna2 (by omega)] at b23
          clear hma1 hma2 hna1 hna2 hmc1 hmc2 hnc1 hnc2 hMA hOA hMB hOB
          generalize A.Mu (nAt (bL A B k) j).1 = am at *
          generalize B.Mu (nAt (bL A B k) j).2 = bm at *
          generalize A.No (nAt (bL A B k) j).1 = an at *
          generalize B.No (nAt (bL A B k) j).2 = bn at *
          generalize (nAt (bL A B k) j).1 = px at *
          generalize (nAt (bL A B k) j).2 = py at *
          have E1 := hid (bits_or_u64_nat am bm lm1 lm2)
          have E2 := hid (bits_or_u64_nat an bn ln1 ln2)
          rw [← hMj] at E1
          rw [← hNj] at E2
          have hab1 : b11 ≠ w.heap.size := by have h1 := HSZ.out; omega
          have hab2 : b11 ≠ w.heap.size + 1 := by have h1 := HSZ.out; omega
          have old1 : ∀ {p : Addr} {v : Value}, w.cell? p = some v → z5.cell? p = some v ∧ p.block ≠ b11 := fun {p v} hc => ⟨below_cell HL5.out (Nat.le_refl _) hc, by have h1 := World.block_lt_of_cell? _ _ hc; have h2 := HSZ.out; omega⟩
          have HZ := hid (And.intro (old1 zm1) (And.intro (old1 zm2) (And.intro (old1 zn1) (old1 zn2))))
          have HBX := hid (And.intro b12 (And.intro b22 (And.intro b13 b23)))
          have hpl : pb < b11 := HPN.out _ rfl
          have hpb : pb ≠ b11 := by omega
          have hpz : pb < z5.heap.size := by omega
          have HZZ := hid (And.intro z1 z2)
          have HLW := HLq
          obtain ⟨WW, hWW⟩ : ∃ WW, wr = WW := ⟨_, rfl⟩
          subst hWW
          have x0 := HLW.out.old z1 hpb
          have x1 := HLW.out.old z2 hpb
          have hc2 : wr.cell? ⟨b11, 2, none⟩ = some (.slice m1 j c1) := cell_of_cells HLW.out.aut rfl
          have k12 := HLW.out.old b12 (Ne.symm hab1)
          have k22 := HLW.out.old b22 (Ne.symm hab2)
          have km1 := HLW.out.old HZ.out.1.1 HZ.out.1.2
          have km2 := HLW.out.old HZ.out.2.1.1 HZ.out.2.1.2
          have hzl : w.heap.size + 1 < z5.heap.size := World.block_lt_of_cell? _ _ b22
          have hlm1 := World.block_lt_of_cell? _ _ HZ.out.1.1
          have hlm2 := World.block_lt_of_cell? _ _ HZ.out.2.1.1
          have hln1 := World.block_lt_of_cell? _ _ HZ.out.2.2.1.1
          have hln2 := World.block_lt_of_cell? _ _ HZ.out.2.2.2.1
          dsimp only at hlm1 hlm2 hln1 hln2
          have hsW2 : z5.heap.size ≤ wr.heap.size := HLW.out.fr.size
          have hUb : (wr.alloc (.cells #[.int .u64 ((Mf j : Nat) : Int)] 51)).heap[wr.heap.size]? = some (.cells #[.int .u64 ((Mf j : Nat) : Int)] 51) := Go.Deep.blk_alloc_new _ _
          have HOW : Hid (((wr.alloc (.cells #[.int .u64 ((Mf j : Nat) : Int)] 51)).drew).ownsRow z5.heap.size 51 1 (.slice m1 j c1) j (vu Mf j)) := hid ((HLW.out.ms.alloc _).drew)
          have hS0 : (fun z : World => z.cell? ⟨b11, 2, none⟩ = some (.slice m1 j c1) ∧ z.cell? ⟨w.heap.size, 2, none⟩ = some (.slice (some ⟨mb1, mo1, none⟩) A.M A.mc) ∧ z.cell? ⟨pb, j * 2, none⟩ = some (.int .i64 (px : Nat)) ∧ z.cell? ⟨mb1, mo1 + px, none⟩ = some (.int .u64 ((am : Nat) : Int)) ∧ z.cell? ⟨w.heap.size + 1, 2, none⟩ = some (.slice (some ⟨mb2, mo2, none⟩) B.M B.mc) ∧ z.cell? ⟨pb, j * 2 + 1, none⟩ = some (.int .i64 (py : Nat)) ∧ z.cell? ⟨mb2, mo2 + py, none⟩ = some (.int .u64 ((bm : Nat) : Int))) wr.drew := ⟨hc2, k12, x0, km1, k22, x1, km2⟩
          have hS1 : (fun z : World => z.cell? ⟨b11, 2, none⟩ = some (.slice m1 j c1) ∧ z.cell? ⟨w.heap.size, 2, none⟩ = some (.slice (some ⟨mb1, mo1, none⟩) A.M A.mc) ∧ z.cell? ⟨pb, j * 2, none⟩ = some (.int .i64 (px : Nat)) ∧ z.cell? ⟨mb1, mo1 + px, none⟩ = some (.int .u64 ((am : Nat) : Int)) ∧ z.cell? ⟨w.heap.size + 1, 2, none⟩ = some (.slice (some ⟨mb2, mo2, none⟩) B.M B.mc) ∧ z.cell? ⟨pb, j * 2 + 1, none⟩ = some (.int .i64 (py : Nat)) ∧ z.cell? ⟨mb2, mo2 + py, none⟩ = some (.int .u64 ((bm : Nat) : Int))) (wr.alloc (.cells #[.int .u64 ((Mf j : Nat) : Int)] 51)).drew := ⟨cell_alloc1 _ hc2, cell_alloc1 _ k12, cell_alloc1 _ x0, cell_alloc1 _ km1, cell_alloc1 _ k22, cell_alloc1 _ x1, cell_alloc1 _ km2⟩
          clear z1 z2 hpc hMj hNj zm1 zm2 zn1 zn2 hpa old1 b12 b22 b13 b23 lm1 lm2 ln1 ln2
          go_wp2_with fail
          refine G_region (fun z : World => z.cell? ⟨b11, 2, none⟩ = some (.slice m1 j c1) ∧ z.cell? ⟨w.heap.size, 2, none⟩ = some (.slice (some ⟨mb1, mo1, none⟩) A.M A.mc) ∧ z.cell? ⟨pb, j * 2, none⟩ = some (.int .i64 (px : Nat)) ∧ z.cell? ⟨mb1, mo1 + px, none⟩ = some (.int .u64 ((am : Nat) : Int)) ∧ z.cell? ⟨w.heap.size + 1, 2, none⟩ = some (.slice (some ⟨mb2, mo2, none⟩) B.M B.mc) ∧ z.cell? ⟨pb, j * 2 + 1, none⟩ = some (.int .i64 (py : Nat)) ∧ z.cell? ⟨mb2, mo2 + py, none⟩ = some (.int .u64 ((bm : Nat) : Int))) (fun i => i == 24) (by kernel_rfl) hS0 (fun _ => ?_)
          refine G_take (i := 0) (oi := { dst := some 52, op := Op.fieldAddr 26 (Operand.tmp 11) 2, type := 0, pos := _, after := #[], guard := none }) (v := .pointer (some ⟨b11, 2, none⟩)) rfl (by kernel_rfl) (by kernel_rfl) (by kernel_rfl) (by kernel_rfl) (fun _ _ _ h => h) (by rfl) (fun u hu => ?_) hS0 ?_
          · (try dsimp only at hu); go_simp
          (try simp only [Act.put, List.setIfInBounds_toArray, List.set_cons_zero, List.set_cons_succ])
          refine G_take (i := 1) (oi := { dst := some 53, op := Op.load 24 (Operand.tmp 52), type := 24, pos := _, after := #[{ on := 0, ground := Ground.data }], guard := none }) (v := .slice m1 j c1) rfl (by kernel_rfl) (by kernel_rfl) (by kernel_rfl) (by kernel_rfl) (fun _ _ _ h => h) (by rfl) (fun u hu => ?_) hS0 ?_
          · (try dsimp only at hu); go_simp
          (try simp only [Act.put, List.setIfInBounds_toArray, List.set_cons_zero, List.set_cons_succ])
          refine G_take (i := 2) (oi := { dst := some 54, op := Op.fieldAddr 26 (Operand.tmp 2) 2, type := 0, pos := _, after := #[], guard := none }) (v := .pointer (some ⟨w.heap.size, 2, none⟩)) rfl (by kernel_rfl) (by kernel_rfl) (by kernel_rfl) (by kernel_rfl) (fun _ _ _ h => h) (by rfl) (fun u hu => ?_) hS0 ?_
          · (try dsimp only at hu); go_simp
          (try simp only [Act.put, List.setIfInBounds_toArray, List.set_cons_zero, List.set_cons_succ])
          refine G_take (i := 3) (oi := { dst := some 55, op := Op.load 24 (Operand.tmp 54), type := 24, pos := _, after := #[{ on := 2, ground := Ground.data }], guard := none }) (v := .slice (some ⟨mb1, mo1, none⟩) A.M A.mc) rfl (by kernel_rfl) (by kernel_rfl) (by kernel_rfl) (by kernel_rfl) (fun _ _ _ h => h) (by rfl) (fun u hu => ?_) hS0 ?_
          · (try dsimp only at hu); go_simp
          (try simp only [Act.put, List.setIfInBounds_toArray, List.set_cons_zero, List.set_cons_succ])
          refine G_take (i := 4) (oi := { dst := some 56, op := Op.move (Operand.tmp 7), type := 87, pos := _, after := #[], guard := none }) (v := .slice (some ⟨pb, 0, none⟩) k pc) rfl (by kernel_rfl) (by kernel_rfl) (by kernel_rfl) (by kernel_rfl) (fun _ _ _ h => h) (by rfl) (fun u hu => ?_) hS0 ?_
          · (try dsimp only at hu); go_simp
          (try simp only [Act.put, List.setIfInBounds_toArray, List.set_cons_zero, List.set_cons_succ])
          refine G_take (i := 5) (oi := { dst := some 57, op := Op.move (Operand.tmp 12), type := 3, pos := _, after := #[], guard := none }) (v := .int .i64 (j : Nat)) rfl (by kernel_rfl) (by kernel_rfl) (by kernel_rfl) (by kernel_rfl) (fun _ _ _ h => h) (by rfl) (fun u hu => ?_) hS0 ?_
          · (try dsimp only at hu); go_simp
          (try simp only [Act.put, List.setIfInBounds_toArray, List.set_cons_zero, List.set_cons_succ])
          refine G_take (i := 6) (oi := { dst := some 58, op := Op.indexAddr 87 (Operand.tmp 56) (Operand.tmp 57), type := 0, pos := _, after := #[{ on := 4, ground := Ground.data }, { on := 5, ground := Ground.data }], guard := none }) (v := .pointer (some ⟨pb, j * 2, none⟩)) rfl (by kernel_rfl) (by kernel_rfl) (by kernel_rfl) (by kernel_rfl) (fun _ _ _ h => h) (by rfl) (fun u hu => ?_) hS0 ?_
          · (try dsimp only at hu); go_simp
          (try simp only [Act.put, List.setIfInBounds_toArray, List.set_cons_zero, List.set_cons_succ])
          refine G_take (i := 7) (oi := { dst := some 59, op := Op.indexAddr 88 (Operand.tmp 58) (Operand.const (Value.int IntKind.i64 0)), type := 0, pos := _, after := #[{ on := 6, ground := Ground.data }], guard := none }) (v := .pointer (some ⟨pb, j * 2, none⟩)) rfl (by kernel_rfl) (by kernel_rfl) (by kernel_rfl) (by kernel_rfl) (fun _ _ _ h => h) (by rfl) (fun u hu => ?_) hS0 ?_
          · (try dsimp only at hu); go_simp
          (try simp only [Act.put, List.setIfInBounds_toArray, List.set_cons_zero, List.set_cons_succ])
          refine G_take (i := 8) (oi := { dst := some 60, op := Op.load 3 (Operand.tmp 59), type := 3, pos := _, after := #[{ on := 7, ground := Ground.data }], guard := none }) (v := .int .i64 (px : Nat)) rfl (by kernel_rfl) (by kernel_rfl) (by kernel_rfl) (by kernel_rfl) (fun _ _ _ h => h) (by rfl) (fun u hu => ?_) hS0 ?_
          · (try dsimp only at hu); go_simp
          (try simp only [Act.put, List.setIfInBounds_toArray, List.set_cons_zero, List.set_cons_succ])
          refine G_take (i := 9) (oi := { dst := some 61, op := Op.indexAddr 24 (Operand.tmp 55) (Operand.tmp 60), type := 0, pos := _, after := #[{ on := 3, ground := Ground.data }, { on := 8, ground := Ground.data }], guard := none }) (v := .pointer (some ⟨mb1, mo1 + px, none⟩)) rfl (by kernel_rfl) (by kernel_rfl) (by kernel_rfl) (by kernel_rfl) (fun _ _ _ h => h) (by rfl) (fun u hu => ?_) hS0 ?_
          · (try dsimp only at hu); go_simp
          (try simp only [Act.put, List.setIfInBounds_toArray, List.set_cons_zero, List.set_cons_succ])
          refine G_take (i := 10) (oi := { dst := some 62, op := Op.load 51 (Operand.tmp 61), type := 51, pos := _, after := #[{ on := 9, ground := Ground.data }], guard := none }) (v := .int .u64 ((am : Nat) : Int)) rfl (by kernel_rfl) (by kernel_rfl) (by kernel_rfl) (by kernel_rfl) (fun _ _ _ h => h) (by rfl) (fun u hu => ?_) hS0 ?_
          · (try dsimp only at hu); go_simp
          (try simp only [Act.put, List.setIfInBounds_toArray, List.set_cons_zero, List.set_cons_succ])
          refine G_take (i := 11) (oi := { dst := some 63, op := Op.fieldAddr 26 (Operand.tmp 3) 2, type := 0, pos := _, after := #[], guard := none }) (v := .pointer (some ⟨w.heap.size + 1, 2, none⟩)) rfl (by kernel_rfl) (by kernel_rfl) (by kernel_rfl) (by kernel_rfl) (fun _ _ _ h => h) (by rfl) (fun u hu => ?_) hS0 ?_
          · (try dsimp only at hu); go_simp
          (try simp only [Act.put, List.setIfInBounds_toArray, List.set_cons_zero, List.set_cons_succ])
          refine G_take (i := 12) (oi := { dst := some 64, op := Op.load 24 (Operand.tmp 63), type := 24, pos := _, after := #[{ on := 11, ground := Ground.data }], guard := none }) (v := .slice (some ⟨mb2, mo2, none⟩) B.M B.mc) rfl (by kernel_rfl) (by kernel_rfl) (by kernel_rfl) (by kernel_rfl) (fun _ _ _ h => h) (by rfl) (fun u hu => ?_) hS0 ?_
          · (try dsimp only at hu); go_simp
          (try simp only [Act.put, List.setIfInBounds_toArray, List.set_cons_zero, List.set_cons_succ])
          refine G_take (i := 13) (oi := { dst := some 65, op := Op.move (Operand.tmp 7), type := 87, pos := _, after := #[], guard := none }) (v := .slice (some ⟨pb, 0, none⟩) k pc) rfl (by kernel_rfl) (by kernel_rfl) (by kernel_rfl) (by kernel_rfl) (fun _ _ _ h => h) (by rfl) (fun u hu => ?_) hS0 ?_
          · (try dsimp only at hu); go_simp
          (try simp only [Act.put, List.setIfInBounds_toArray, List.set_cons_zero, List.set_cons_succ])
          refine G_take (i := 14) (oi := { dst := some 66, op := Op.move (Operand.tmp 12), type := 3, pos := _, after := #[], guard := none }) (v := .int .i64 (j : Nat)) rfl (by kernel_rfl) (by kernel_rfl) (by kernel_rfl) (by kernel_rfl) (fun _ _ _ h => h) (by rfl) (fun u hu => ?_) hS0 ?_
          · (try dsimp only at hu); go_simp
          (try simp only [Act.put, List.setIfInBounds_toArray, List.set_cons_zero, List.set_cons_succ])
          refine G_take (i := 15) (oi := { dst := some 67, op := Op.indexAddr 87 (Operand.tmp 65) (Operand.tmp 66), type := 0, pos := _, after := #[{ on := 13, ground := Ground.data }, { on := 14, ground := Ground.data }], guard := none }) (v := .pointer (some ⟨pb, j * 2, none⟩)) rfl (by kernel_rfl) (by kernel_rfl) (by kernel_rfl) (by kernel_rfl) (fun _ _ _ h => h) (by rfl) (fun u hu => ?_) hS0 ?_
          · (try dsimp only at hu); go_simp
          (try simp only [Act.put, List.setIfInBounds_toArray, List.set_cons_zero, List.set_cons_succ])
          refine G_take (i := 16) (oi := { dst := some 68, op := Op.indexAddr 88 (Operand.tmp 67) (Operand.const (Value.int IntKind.i64 1)), type := 0, pos := _, after := #[{ on := 15, ground := Ground.data }], guard := none }) (v := .pointer (some ⟨pb, j * 2 + 1, none⟩)) rfl (by kernel_rfl) (by kernel_rfl) (by kernel_rfl) (by kernel_rfl) (fun _ _ _ h => h) (by rfl) (fun u hu => ?_) hS0 ?_
          · (try dsimp only at hu); go_simp
          (try simp only [Act.put, List.setIfInBounds_toArray, List.set_cons_zero, List.set_cons_succ])
          refine G_take (i := 17) (oi := { dst := some 69, op := Op.load 3 (Operand.tmp 68), type := 3, pos := _, after := #[{ on := 16, ground := Ground.data }], guard := none }) (v := .int .i64 (py : Nat)) rfl (by kernel_rfl) (by kernel_rfl) (by kernel_rfl) (by kernel_rfl) (fun _ _ _ h => h) (by rfl) (fun u hu => ?_) hS0 ?_
          · (try dsimp only at hu); go_simp
          (try simp only [Act.put, List.setIfInBounds_toArray, List.set_cons_zero, List.set_cons_succ])
          refine G_take (i := 18) (oi := { dst := some 70, op := Op.indexAddr 24 (Operand.tmp 64) (Operand.tmp 69), type := 0, pos := _, after := #[{ on := 12, ground := Ground.data }, { on := 17, ground := Ground.data }], guard := none }) (v := .pointer (some ⟨mb2, mo2 + py, none⟩)) rfl (by kernel_rfl) (by kernel_rfl) (by kernel_rfl) (by kernel_rfl) (fun _ _ _ h => h) (by rfl) (fun u hu => ?_) hS0 ?_
          · (try dsimp only at hu); go_simp
          (try simp only [Act.put, List.setIfInBounds_toArray, List.set_cons_zero, List.set_cons_succ])
          refine G_take (i := 19) (oi := { dst := some 71, op := Op.load 51 (Operand.tmp 70), type := 51, pos := _, after := #[{ on := 18, ground := Ground.data }], guard := none }) (v := .int .u64 ((bm : Nat) : Int)) rfl (by kernel_rfl) (by kernel_rfl) (by kernel_rfl) (by kernel_rfl) (fun _ _ _ h => h) (by rfl) (fun u hu => ?_) hS0 ?_
          · (try dsimp only at hu); go_simp
          (try simp only [Act.put, List.setIfInBounds_toArray, List.set_cons_zero, List.set_cons_succ])
          refine G_take (i := 20) (oi := { dst := some 72, op := Op.binOp BinOp.or 51 (Operand.tmp 62) (Operand.tmp 71) 51, type := 51, pos := _, after := #[{ on := 10, ground := Ground.data }, { on := 19, ground := Ground.data }], guard := none }) (v := .int .u64 ((Mf j : Nat) : Int)) rfl (by kernel_rfl) (by kernel_rfl) (by kernel_rfl) (by kernel_rfl) (fun _ _ _ h => h) (by rfl) (fun u hu => ?_) hS0 ?_
          · (try dsimp only at hu); go_simp; rw [E1.out]
          (try simp only [Act.put, List.setIfInBounds_toArray, List.set_cons_zero, List.set_cons_succ])
          refine G_step (i := 21) (o := { dst := some 73, op := Op.buildSlice 24 1 #[(0, Operand.tmp 72)], type := 24, pos := _, after := #[{ on := 20, ground := Ground.data }], guard := none }) (by kernel_rfl) rfl (fun K' hK => ?_)
          go_simp
          refine hK.out _ _ (fun _ => hS1) (fun _ => ?_)
          (try simp only [Act.put, List.setIfInBounds_toArray, List.set_cons_zero, List.set_cons_succ])
          refine G_step (i := 22) (o := { dst := some 74, op := Op.call { callee := Callee.builtin Builtin.append, args := #[Operand.tmp 53, Operand.tmp 73], argTypes := #[24, 24] }, type := 24, pos := _, after := #[{ on := 1, ground := Ground.data }, { on := 21, ground := Ground.data }], guard := none }) (by kernel_rfl) rfl (fun K' hK => ?_)
          refine step_append_lies _ (by rfl) _ _ _ (by rfl) z5.heap.size 51 iu _ 1 8 Tryd.underlying24 HU.out.1 HU.out.2.1 HU.out.2.2.1 HU.out.2.2.2 rfl (by omega) (.slice m1 j c1) j (vu Mf j) (by rfl) (HOW.out) ⟨wr.heap.size, 0, none⟩ 1 1 [.int .u64 ((Mf j : Nat) : Int)] (by rfl) (by rfl) (World.news_of_block (w := (wr.alloc (.cells #[.int .u64 ((Mf j : Nat) : Int)] 51)).drew) (cs := #[.int .u64 ((Mf j : Nat) : Int)]) (t := 51) (fr := (0, 0)) hUb) (by simp [Value.oneCell']) (by omega) (by unfold maxLen; omega) (by omega) (by simp; omega) (wr.heap.size + 1) (by simp) ?_
          intro g cap w4 hown4 hgrow4 hat4 hlt4
          have hgr : (wr.alloc (.cells #[.int .u64 ((Mf j : Nat) : Int)] 51)).grownBy w4 (Value.slice m1 j c1).ownBlock := ⟨hgrow4.os, hgrow4.tape, hgrow4.output, hgrow4.size, hgrow4.block⟩
          obtain ⟨hoth, hfz, HL4', hbut⟩ := HLW.out.must (mv' := .slice (some ⟨g, 0, none⟩) (j + 1) cap) hown4 hgr (hat4.imp (fun e => by rw [e]; simp [Value.ownBlock]) (fun e => by rw [e]; simp [Value.ownBlock]))
          have s4 : (fun z : World => z.cell? ⟨b11, 2, none⟩ = some (.slice m1 j c1) ∧ z.cell? ⟨w.heap.size, 2, none⟩ = some (.slice (some ⟨mb1, mo1, none⟩) A.M A.mc) ∧ z.cell? ⟨pb, j * 2, none⟩ = some (.int .i64 (px : Nat)) ∧ z.cell? ⟨mb1, mo1 + px, none⟩ = some (.int .u64 ((am : Nat) : Int)) ∧ z.cell? ⟨w.heap.size + 1, 2, none⟩ = some (.slice (some ⟨mb2, mo2, none⟩) B.M B.mc) ∧ z.cell? ⟨pb, j * 2 + 1, none⟩ = some (.int .i64 (py : Nat)) ∧ z.cell? ⟨mb2, mo2 + py, none⟩ = some (.int .u64 ((bm : Nat) : Int))) w4 := ⟨oth_cellB hoth (Or.inr ⟨_, _, _, HLW.out.aut, by decide⟩) hc2, oth_cellB hoth (Or.inl (by dsimp only; omega)) k12, oth_cellB hoth (Or.inl hpz) x0, oth_cellB hoth (Or.inl hlm1) km1, oth_cellB hoth (Or.inl hzl) k22, oth_cellB hoth (Or.inl hpz) x1, oth_cellB hoth (Or.inl hlm2) km2⟩
          have HL6 := hid HL4'
          have hs4 := s4.1
          clear hown4 hgrow4 hgr hat4 hlt4 hoth HL4' hUb HOW hS1
          refine hK.out _ _ (fun _ => s4) (fun _ => ?_)
          (try simp only [Act.put, List.setIfInBounds_toArray, List.set_cons_zero, List.set_cons_succ])
          refine G_step (i := 23) (o := { dst := some 75, op := Op.fieldAddr 26 (Operand.tmp 11) 2, type := 0, pos := _, after := #[{ on := 0, ground := Ground.phase }, { on := 1, ground := Ground.phase }, { on := 2, ground := Ground.phase }, { on := 3, ground := Ground.phase }, { on := 4, ground := Ground.phase }, { on := 5, ground := Ground.phase }, { on := 6, ground := Ground.phase }, { on := 7, ground := Ground.phase }, { on := 8, ground := Ground.phase }, { on := 9, ground := Ground.phase }, { on := 10, ground := Ground.phase }, { on := 11, ground := Ground.phase }, { on := 12, ground := Ground.phase }, { on := 13, ground := Ground.phase }, { on := 14, ground := Ground.phase }, { on := 15, ground := Ground.phase }, { on := 16, ground := Ground.phase }, { on := 17, ground := Ground.phase }, { on := 18, ground := Ground.phase }, { on := 19, ground := Ground.phase }, { on := 20, ground := Ground.phase }, { on := 21, ground := Ground.phase }, { on := 22, ground := Ground.phase }], guard := none }) (by kernel_rfl) rfl (fun K' hK => ?_)
          go_simp
          refine hK.out _ _ (fun _ => s4) (fun _ => ?_)
          (try simp only [Act.put, List.setIfInBounds_toArray, List.set_cons_zero, List.set_cons_succ])
          refine G_step (i := 24) (o := { dst := none, op := Op.store 24 (Operand.tmp 75) (Operand.tmp 74), type := 0, pos := _, after := #[{ on := 23, ground := Ground.data }, { on := 22, ground := Ground.data }, { on := 22, ground := Ground.chain }, { on := 0, ground := Ground.phase }, { on := 1, ground := Ground.phase }, { on := 2, ground := Ground.phase }, { on := 3, ground := Ground.phase }, { on := 4, ground := Ground.phase }, { on := 5, ground := Ground.phase }, { on := 6, ground := Ground.phase }, { on := 7, ground := Ground.phase }, { on := 8, ground := Ground.phase }, { on := 9, ground := Ground.phase }, { on := 10, ground := Ground.phase }, { on := 11, ground := Ground.phase }, { on := 12, ground := Ground.phase }, { on := 13, ground := Ground.phase }, { on := 14, ground := Ground.phase }, { on := 15, ground := Ground.phase }, { on := 16, ground := Ground.phase }, { on := 17, ground := Ground.phase }, { on := 18, ground := Ground.phase }, { on := 19, ground := Ground.phase }, { on := 20, ground := Ground.phase }, { on := 21, ground := Ground.phase }, { on := 22, ground := Ground.phase }], guard := none }) (by kernel_rfl) rfl (fun K' hK => ?_)
          go_simp
          refine hK.out _ _ (fun h => absurd h (by decide)) (fun _ => ?_)
          (try simp only [Act.put, List.setIfInBounds_toArray, List.set_cons_zero, List.set_cons_succ])
          refine G_done (by kernel_rfl) ?_ _
          (try dsimp only [Exit.then])
          clear s4 hs4 hfz hS0 hc2 x0 x1 k12 k22 km1 km2 hbut HLW HLq
          generalize w4.setCell ⟨b11, 2, none⟩ (.slice (some ⟨g, 0, none⟩) (j + 1) cap) = W5' at *
          have x0 := HL6.out.old HZZ.out.1 hpb
          have x1 := HL6.out.old HZZ.out.2 hpb
          have hc3 : W5'.cell? ⟨b11, 3, none⟩ = some (.slice m2 j c2) := cell_of_cells HL6.out.aut rfl
          have k13 := HL6.out.old HBX.out.2.2.1 (Ne.symm hab1)
          have k23 := HL6.out.old HBX.out.2.2.2 (Ne.symm hab2)
          have kn1 := HL6.out.old HZ.out.2.2.1.1 HZ.out.2.2.1.2
          have kn2 := HL6.out.old HZ.out.2.2.2.1 HZ.out.2.2.2.2
          have hs5 : z5.heap.size ≤ W5'.heap.size := HL6.out.fr.size
          have hUb : (W5'.alloc (.cells #[.int .u64 ((Nf j : Nat) : Int)] 51)).heap[W5'.heap.size]? = some (.cells #[.int .u64 ((Nf j : Nat) : Int)] 51) := Go.Deep.blk_alloc_new _ _
          have HOW : Hid (((W5'.alloc (.cells #[.int .u64 ((Nf j : Nat) : Int)] 51)).drew).ownsRow z5.heap.size 51 1 (.slice m2 j c2) j (vu Nf j)) := hid ((HL6.out.os.alloc _).drew)
          have hS0 : (fun z : World => z.cell? ⟨b11, 3, none⟩ = some (.slice m2 j c2) ∧ z.cell? ⟨w.heap.size, 3, none⟩ = some (.slice (some ⟨nb1, no1, none⟩) A.O A.oc) ∧ z.cell? ⟨pb, j * 2, none⟩ = some (.int .i64 (px : Nat)) ∧ z.cell? ⟨nb1, no1 + px, none⟩ = some (.int .u64 ((an : Nat) : Int)) ∧ z.cell? ⟨w.heap.size + 1, 3, none⟩ = some (.slice (some ⟨nb2, no2, none⟩) B.O B.oc) ∧ z.cell? ⟨pb, j * 2 + 1, none⟩ = some (.int .i64 (py : Nat)) ∧ z.cell? ⟨nb2, no2 + py, none⟩ = some (.int .u64 ((bn : Nat) : Int))) W5'.drew := ⟨hc3, k13, x0, kn1, k23, x1, kn2⟩
          have hS1 : (fun z : World => z.cell? ⟨b11, 3, none⟩ = some (.slice m2 j c2) ∧ z.cell? ⟨w.heap.size, 3, none⟩ = some (.slice (some ⟨nb1, no1, none⟩) A.O A.oc) ∧ z.cell? ⟨pb, j * 2, none⟩ = some (.int .i64 (px : Nat)) ∧ z.cell? ⟨nb1, no1 + px, none⟩ = some (.int .u64 ((an : Nat) : Int)) ∧ z.cell? ⟨w.heap.size + 1, 3, none⟩ = some (.slice (some ⟨nb2, no2, none⟩) B.O B.oc) ∧ z.cell? ⟨pb, j * 2 + 1, none⟩ = some (.int .i64 (py : Nat)) ∧ z.cell? ⟨nb2, no2 + py, none⟩ = some (.int .u64 ((bn : Nat) : Int))) (W5'.alloc (.cells #[.int .u64 ((Nf j : Nat) : Int)] 51)).drew := ⟨cell_alloc1 _ hc3, cell_alloc1 _ k13, cell_alloc1 _ x0, cell_alloc1 _ kn1, cell_alloc1 _ k23, cell_alloc1 _ x1, cell_alloc1 _ kn2⟩
          go_wp2_with fail
          refine G_region (fun z : World => z.cell? ⟨b11, 3, none⟩ = some (.slice m2 j c2) ∧ z.cell? ⟨w.heap.size, 3, none⟩ = some (.slice (some ⟨nb1, no1, none⟩) A.O A.oc) ∧ z.cell? ⟨pb, j * 2, none⟩ = some (.int .i64 (px : Nat)) ∧ z.cell? ⟨nb1, no1 + px, none⟩ = some (.int .u64 ((an : Nat) : Int)) ∧ z.cell? ⟨w.heap.size + 1, 3, none⟩ = some (.slice (some ⟨nb2, no2, none⟩) B.O B.oc) ∧ z.cell? ⟨pb, j * 2 + 1, none⟩ = some (.int .i64 (py : Nat)) ∧ z.cell? ⟨nb2, no2 + py, none⟩ = some (.int .u64 ((bn : Nat) : Int))) (fun i => i == 24) (by kernel_rfl) hS0 (fun _ => ?_)
          refine G_take (i := 0) (oi := { dst := some 76, op := Op.fieldAddr 26 (Operand.tmp 11) 3, type := 0, pos := _, after := #[], guard := none }) (v := .pointer (some ⟨b11, 3, none⟩)) rfl (by kernel_rfl) (by kernel_rfl) (by kernel_rfl) (by kernel_rfl) (fun _ _ _ h => h) (by rfl) (fun u hu => ?_) hS0 ?_
          · (try dsimp only at hu); go_simp
          (try simp only [Act.put, List.setIfInBounds_toArray, List.set_cons_zero, List.set_cons_succ])
          refine G_take (i := 1) (oi := { dst := some 77, op := Op.load 24 (Operand.tmp 76), type := 24, pos := _, after := #[{ on := 0, ground := Ground.data }], guard := none }) (v := .slice m2 j c2) rfl (by kernel_rfl) (by kernel_rfl) (by kernel_rfl) (by kernel_rfl) (fun _ _ _ h => h) (by rfl) (fun u hu => ?_) hS0 ?_
          · (try dsimp only at hu); go_simp
          (try simp only [Act.put, List.setIfInBounds_toArray, List.set_cons_zero, List.set_cons_succ])
          refine G_take (i := 2) (oi := { dst := some 78, op := Op.fieldAddr 26 (Operand.tmp 2) 3, type := 0, pos := _, after := #[], guard := none }) (v := .pointer (some ⟨w.heap.size, 3, none⟩)) rfl (by kernel_rfl) (by kernel_rfl) (by kernel_rfl) (by kernel_rfl) (fun _ _ _ h => h) (by rfl) (fun u hu => ?_) hS0 ?_
          · (try dsimp only at hu); go_simp
          (try simp only [Act.put, List.setIfInBounds_toArray, List.set_cons_zero, List.set_cons_succ])
          refine G_take (i := 3) (oi := { dst := some 79, op := Op.load 24 (Operand.tmp 78), type := 24, pos := _, after := #[{ on := 2, ground := Ground.data }], guard := none }) (v := .slice (some ⟨nb1, no1, none⟩) A.O A.oc) rfl (by kernel_rfl) (by kernel_rfl) (by kernel_rfl) (by kernel_rfl) (fun _ _ _ h => h) (by rfl) (fun u hu => ?_) hS0 ?_
          · (try dsimp only at hu); go_simp
          (try simp only [Act.put, List.setIfInBounds_toArray, List.set_cons_zero, List.set_cons_succ])
          refine G_take (i := 4) (oi := { dst := some 80, op := Op.move (Operand.tmp 7), type := 87, pos := _, after := #[], guard := none }) (v := .slice (some ⟨pb, 0, none⟩) k pc) rfl (by kernel_rfl) (by kernel_rfl) (by kernel_rfl) (by kernel_rfl) (fun _ _ _ h => h) (by rfl) (fun u hu => ?_) hS0 ?_
          · (try dsimp only at hu); go_simp
          (try simp only [Act.put, List.setIfInBounds_toArray, List.set_cons_zero, List.set_cons_succ])
          refine G_take (i := 5) (oi := { dst := some 81, op := Op.move (Operand.tmp 12), type := 3, pos := _, after := #[], guard := none }) (v := .int .i64 (j : Nat)) rfl (by kernel_rfl) (by kernel_rfl) (by kernel_rfl) (by kernel_rfl) (fun _ _ _ h => h) (by rfl) (fun u hu => ?_) hS0 ?_
          · (try dsimp only at hu); go_simp
          (try simp only [Act.put, List.setIfInBounds_toArray, List.set_cons_zero, List.set_cons_succ])
          refine G_take (i := 6) (oi := { dst := some 82, op := Op.indexAddr 87 (Operand.tmp 80) (Operand.tmp 81), type := 0, pos := _, after := #[{ on := 4, ground := Ground.data }, { on := 5, ground := Ground.data }], guard := none }) (v := .pointer (some ⟨pb, j * 2, none⟩)) rfl (by kernel_rfl) (by kernel_rfl) (by kernel_rfl) (by kernel_rfl) (fun _ _ _ h => h) (by rfl) (fun u hu => ?_) hS0 ?_
          · (try dsimp only at hu); go_simp
          (try simp only [Act.put, List.setIfInBounds_toArray, List.set_cons_zero, List.set_cons_succ])
          refine G_take (i := 7) (oi := { dst := some 83, op := Op.indexAddr 88 (Operand.tmp 82) (Operand.const (Value.int IntKind.i64 0)), type := 0, pos := _, after := #[{ on := 6, ground := Ground.data }], guard := none }) (v := .pointer (some ⟨pb, j * 2, none⟩)) rfl (by kernel_rfl) (by kernel_rfl) (by kernel_rfl) (by kernel_rfl) (fun _ _ _ h => h) (by rfl) (fun u hu => ?_) hS0 ?_
          · (try dsimp only at hu); go_simp
          (try simp only [Act.put, List.setIfInBounds_toArray, List.set_cons_zero, List.set_cons_succ])
          refine G_take (i := 8) (oi := { dst := some 84, op := Op.load 3 (Operand.tmp 83), type := 3, pos := _, after := #[{ on := 7, ground := Ground.data }], guard := none }) (v := .int .i64 (px : Nat)) rfl (by kernel_rfl) (by kernel_rfl) (by kernel_rfl) (by kernel_rfl) (fun _ _ _ h => h) (by rfl) (fun u hu => ?_) hS0 ?_
          · (try dsimp only at hu); go_simp
          (try simp only [Act.put, List.setIfInBounds_toArray, List.set_cons_zero, List.set_cons_succ])
          refine G_take (i := 9) (oi := { dst := some 85, op := Op.indexAddr 24 (Operand.tmp 79) (Operand.tmp 84), type := 0, pos := _, after := #[{ on := 3, ground := Ground.data }, { on := 8, ground := Ground.data }], guard := none }) (v := .pointer (some ⟨nb1, no1 + px, none⟩)) rfl (by kernel_rfl) (by kernel_rfl) (by kernel_rfl) (by kernel_rfl) (fun _ _ _ h => h) (by rfl) (fun u hu => ?_) hS0 ?_
          · (try dsimp only at hu); go_simp
          (try simp only [Act.put, List.setIfInBounds_toArray, List.set_cons_zero, List.set_cons_succ])
          refine G_take (i := 10) (oi := { dst := some 86, op := Op.load 51 (Operand.tmp 85), type := 51, pos := _, after := #[{ on := 9, ground := Ground.data }], guard := none }) (v := .int .u64 ((an : Nat) : Int)) rfl (by kernel_rfl) (by kernel_rfl) (by kernel_rfl) (by kernel_rfl) (fun _ _ _ h => h) (by rfl) (fun u hu => ?_) hS0 ?_
          · (try dsimp only at hu); go_simp
          (try simp only [Act.put, List.setIfInBounds_toArray, List.set_cons_zero, List.set_cons_succ])
          refine G_take (i := 11) (oi := { dst := some 87, op := Op.fieldAddr 26 (Operand.tmp 3) 3, type := 0, pos := _, after := #[], guard := none }) (v := .pointer (some ⟨w.heap.size + 1, 3, none⟩)) rfl (by kernel_rfl) (by kernel_rfl) (by kernel_rfl) (by kernel_rfl) (fun _ _ _ h => h) (by rfl) (fun u hu => ?_) hS0 ?_
          · (try dsimp only at hu); go_simp
          (try simp only [Act.put, List.setIfInBounds_toArray, List.set_cons_zero, List.set_cons_succ])
          refine G_take (i := 12) (oi := { dst := some 88, op := Op.load 24 (Operand.tmp 87), type := 24, pos := _, after := #[{ on := 11, ground := Ground.data }], guard := none }) (v := .slice (some ⟨nb2, no2, none⟩) B.O B.oc) rfl (by kernel_rfl) (by kernel_rfl) (by kernel_rfl) (by kernel_rfl) (fun _ _ _ h => h) (by rfl) (fun u hu => ?_) hS0 ?_
          · (try dsimp only at hu); go_simp
          (try simp only [Act.put, List.setIfInBounds_toArray, List.set_cons_zero, List.set_cons_succ])
          refine G_take (i := 13) (oi := { dst := some 89, op := Op.move (Operand.tmp 7), type := 87, pos := _, after := #[], guard := none }) (v := .slice (some ⟨pb, 0, none⟩) k pc) rfl (by kernel_rfl) (by kernel_rfl) (by kernel_rfl) (by kernel_rfl) (fun _ _ _ h => h) (by rfl) (fun u hu => ?_) hS0 ?_
          · (try dsimp only at hu); go_simp
          (try simp only [Act.put, List.setIfInBounds_toArray, List.set_cons_zero, List.set_cons_succ])
          refine G_take (i := 14) (oi := { dst := some 90, op := Op.move (Operand.tmp 12), type := 3, pos := _, after := #[], guard := none }) (v := .int .i64 (j : Nat)) rfl (by kernel_rfl) (by kernel_rfl) (by kernel_rfl) (by kernel_rfl) (fun _ _ _ h => h) (by rfl) (fun u hu => ?_) hS0 ?_
          · (try dsimp only at hu); go_simp
          (try simp only [Act.put, List.setIfInBounds_toArray, List.set_cons_zero, List.set_cons_succ])
          refine G_take (i := 15) (oi := { dst := some 91, op := Op.indexAddr 87 (Operand.tmp 89) (Operand.tmp 90), type := 0, pos := _, after := #[{ on := 13, ground := Ground.data }, { on := 14, ground := Ground.data }], guard := none }) (v := .pointer (some ⟨pb, j * 2, none⟩)) rfl (by kernel_rfl) (by kernel_rfl) (by kernel_rfl) (by kernel_rfl) (fun _ _ _ h => h) (by rfl) (fun u hu => ?_) hS0 ?_
          · (try dsimp only at hu); go_simp
          (try simp only [Act.put, List.setIfInBounds_toArray, List.set_cons_zero, List.set_cons_succ])
          refine G_take (i := 16) (oi := { dst := some 92, op := Op.indexAddr 88 (Operand.tmp 91) (Operand.const (Value.int IntKind.i64 1)), type := 0, pos := _, after := #[{ on := 15, ground := Ground.data }], guard := none }) (v := .pointer (some ⟨pb, j * 2 + 1, none⟩)) rfl (by kernel_rfl) (by kernel_rfl) (by kernel_rfl) (by kernel_rfl) (fun _ _ _ h => h) (by rfl) (fun u hu => ?_) hS0 ?_
          · (try dsimp only at hu); go_simp
          (try simp only [Act.put, List.setIfInBounds_toArray, List.set_cons_zero, List.set_cons_succ])
          refine G_take (i := 17) (oi := { dst := some 93, op := Op.load 3 (Operand.tmp 92), type := 3, pos := _, after := #[{ on := 16, ground := Ground.data }], guard := none }) (v := .int .i64 (py : Nat)) rfl (by kernel_rfl) (by kernel_rfl) (by kernel_rfl) (by kernel_rfl) (fun _ _ _ h => h) (by rfl) (fun u hu => ?_) hS0 ?_
          · (try dsimp only at hu); go_simp
          (try simp only [Act.put, List.setIfInBounds_toArray, List.set_cons_zero, List.set_cons_succ])
          refine G_take (i := 18) (oi := { dst := some 94, op := Op.indexAddr 24 (Operand.tmp 88) (Operand.tmp 93), type := 0, pos := _, after := #[{ on := 12, ground := Ground.data }, { on := 17, ground := Ground.data }], guard := none }) (v := .pointer (some ⟨nb2, no2 + py, none⟩)) rfl (by kernel_rfl) (by kernel_rfl) (by kernel_rfl) (by kernel_rfl) (fun _ _ _ h => h) (by rfl) (fun u hu => ?_) hS0 ?_
          · (try dsimp only at hu); go_simp
          (try simp only [Act.put, List.setIfInBounds_toArray, List.set_cons_zero, List.set_cons_succ])
          refine G_take (i := 19) (oi := { dst := some 95, op := Op.load 51 (Operand.tmp 94), type := 51, pos := _, after := #[{ on := 18, ground := Ground.data }], guard := none }) (v := .int .u64 ((bn : Nat) : Int)) rfl (by kernel_rfl) (by kernel_rfl) (by kernel_rfl) (by kernel_rfl) (fun _ _ _ h => h) (by rfl) (fun u hu => ?_) hS0 ?_
          · (try dsimp only at hu); go_simp
          (try simp only [Act.put, List.setIfInBounds_toArray, List.set_cons_zero, List.set_cons_succ])
          refine G_take (i := 20) (oi := { dst := some 96, op := Op.binOp BinOp.or 51 (Operand.tmp 86) (Operand.tmp 95) 51, type := 51, pos := _, after := #[{ on := 10, ground := Ground.data }, { on := 19, ground := Ground.data }], guard := none }) (v := .int .u64 ((Nf j : Nat) : Int)) rfl (by kernel_rfl) (by kernel_rfl) (by kernel_rfl) (by kernel_rfl) (fun _ _ _ h => h) (by rfl) (fun u hu => ?_) hS0 ?_
          · (try dsimp only at hu); go_simp; rw [E2.out]
          (try simp only [Act.put, List.setIfInBounds_toArray, List.set_cons_zero, List.set_cons_succ])
          refine G_step (i := 21) (o := { dst := some 97, op := Op.buildSlice 24 1 #[(0, Operand.tmp 96)], type := 24, pos := _, after := #[{ on := 20, ground := Ground.data }], guard := none }) (by kernel_rfl) rfl (fun K' hKB => ?_)
          go_simp
          refine hKB.out _ _ (fun _ => hS1) (fun _ => ?_)
          (try simp only [Act.put, List.setIfInBounds_toArray, List.set_cons_zero, List.set_cons_succ])
          refine G_step (i := 22) (o := { dst := some 98, op := Op.call { callee := Callee.builtin Builtin.append, args := #[Operand.tmp 77, Operand.tmp 97], argTypes := #[24, 24] }, type := 24, pos := _, after := #[{ on := 1, ground := Ground.data }, { on := 21, ground := Ground.data }], guard := none }) (by kernel_rfl) rfl (fun K' hKB => ?_)
          refine step_append_lies _ (by rfl) _ _ _ (by rfl) z5.heap.size 51 iu _ 1 8 Tryd.underlying24 HU.out.1 HU.out.2.1 HU.out.2.2.1 HU.out.2.2.2 rfl (by omega) (.slice m2 j c2) j (vu Nf j) (by rfl) (HOW.out) ⟨W5'.heap.size, 0, none⟩ 1 1 [.int .u64 ((Nf j : Nat) : Int)] (by rfl) (by rfl) (World.news_of_block (w := (W5'.alloc (.cells #[.int .u64 ((Nf j : Nat) : Int)] 51)).drew) (cs := #[.int .u64 ((Nf j : Nat) : Int)]) (t := 51) (fr := (0, 0)) hUb) (by simp [Value.oneCell']) (by omega) (by unfold maxLen; omega) (by omega) (by simp; omega) (W5'.heap.size + 1) (by simp) ?_
          intro g2 cap2 w6 hown4 hgrow4 hat4 hlt4
          have hgr : (W5'.alloc (.cells #[.int .u64 ((Nf j : Nat) : Int)] 51)).grownBy w6 (Value.slice m2 j c2).ownBlock := ⟨hgrow4.os, hgrow4.tape, hgrow4.output, hgrow4.size, hgrow4.block⟩
          obtain ⟨hoth, hfz, HL7, _⟩ := HL6.out.nots (ov' := .slice (some ⟨g2, 0, none⟩) (j + 1) cap2) hown4 hgr (hat4.imp (fun e => by rw [e]; simp [Value.ownBlock]) (fun e => by rw [e]; simp [Value.ownBlock]))
          have s4 : (fun z : World => z.cell? ⟨b11, 3, none⟩ = some (.slice m2 j c2) ∧ z.cell? ⟨w.heap.size, 3, none⟩ = some (.slice (some ⟨nb1, no1, none⟩) A.O A.oc) ∧ z.cell? ⟨pb, j * 2, none⟩ = some (.int .i64 (px : Nat)) ∧ z.cell? ⟨nb1, no1 + px, none⟩ = some (.int .u64 ((an : Nat) : Int)) ∧ z.cell? ⟨w.heap.size + 1, 3, none⟩ = some (.slice (some ⟨nb2, no2, none⟩) B.O B.oc) ∧ z.cell? ⟨pb, j * 2 + 1, none⟩ = some (.int .i64 (py : Nat)) ∧ z.cell? ⟨nb2, no2 + py, none⟩ = some (.int .u64 ((bn : Nat) : Int))) w6 := ⟨oth_cellB hoth (Or.inr ⟨_, _, _, HL6.out.aut, by decide⟩) hc3, oth_cellB hoth (Or.inl (by dsimp only; omega)) k13, oth_cellB hoth (Or.inl hpz) x0, oth_cellB hoth (Or.inl hln1) kn1, oth_cellB hoth (Or.inl hzl) k23, oth_cellB hoth (Or.inl hpz) x1, oth_cellB hoth (Or.inl hln2) kn2⟩
          have HL7' := hid HL7
          have hs4 := s4.1
          clear hown4 hgrow4 hgr hat4 hlt4 hoth HL7 hUb HOW hS1
          refine hKB.out _ _ (fun _ => s4) (fun _ => ?_)
          (try simp only [Act.put, List.setIfInBounds_toArray, List.set_cons_zero, List.set_cons_succ])
          refine G_step (i := 23) (o := { dst := some 99, op := Op.fieldAddr 26 (Operand.tmp 11) 3, type := 0, pos := _, after := #[{ on := 0, ground := Ground.phase }, { on := 1, ground := Ground.phase }, { on := 2, ground := Ground.phase }, { on := 3, ground := Ground.phase }, { on := 4, ground := Ground.phase }, { on := 5, ground := Ground.phase }, { on := 6, ground := Ground.phase }, { on := 7, ground := Ground.phase }, { on := 8, ground := Ground.phase }, { on := 9, ground := Ground.phase }, { on := 10, ground := Ground.phase }, { on := 11, ground := Ground.phase }, { on := 12, ground := Ground.phase }, { on := 13, ground := Ground.phase }, { on := 14, ground := Ground.phase }, { on := 15, ground := Ground.phase }, { on := 16, ground := Ground.phase }, { on := 17, ground := Ground.phase }, { on := 18, ground := Ground.phase }, { on := 19, ground := Ground.phase }, { on := 20, ground := Ground.phase }, { on := 21, ground := Ground.phase }, { on := 22, ground := Ground.phase }], guard := none }) (by kernel_rfl) rfl (fun K' hKB => ?_)
          go_simp
          refine hKB.out _ _ (fun _ => s4) (fun _ => ?_)
          (try simp only [Act.put, List.setIfInBounds_toArray, List.set_cons_zero, List.set_cons_succ])
          refine G_step (i := 24) (o := { dst := none, op := Op.store 24 (Operand.tmp 99) (Operand.tmp 98), type := 0, pos := _, after := #[{ on := 23, ground := Ground.data }, { on := 22, ground := Ground.data }, { on := 22, ground := Ground.chain }, { on := 0, ground := Ground.phase }, { on := 1, ground := Ground.phase }, { on := 2, ground := Ground.phase }, { on := 3, ground := Ground.phase }, { on := 4, ground := Ground.phase }, { on := 5, ground := Ground.phase }, { on := 6, ground := Ground.phase }, { on := 7, ground := Ground.phase }, { on := 8, ground := Ground.phase }, { on := 9, ground := Ground.phase }, { on := 10, ground := Ground.phase }, { on := 11, ground := Ground.phase }, { on := 12, ground := Ground.phase }, { on := 13, ground := Ground.phase }, { on := 14, ground := Ground.phase }, { on := 15, ground := Ground.phase }, { on := 16, ground := Ground.phase }, { on := 17, ground := Ground.phase }, { on := 18, ground := Ground.phase }, { on := 19, ground := Ground.phase }, { on := 20, ground := Ground.phase }, { on := 21, ground := Ground.phase }, { on := 22, ground := Ground.phase }], guard := none }) (by kernel_rfl) rfl (fun K' hKB => ?_)
          go_simp
          refine hKB.out _ _ (fun h => absurd h (by decide)) (fun _ => ?_)
          (try simp only [Act.put, List.setIfInBounds_toArray, List.set_cons_zero, List.set_cons_succ])
          refine G_done (by kernel_rfl) ?_ _
          (try dsimp only [Exit.then])
          clear s4 hs4 hfz hS0 hc3 x0 x1 kn1 kn2 k13 k23 HL6
          generalize w6.setCell ⟨b11, 3, none⟩ (.slice (some ⟨g2, 0, none⟩) (j + 1) cap2) = W7' at *
          go_wp2
          go_roundw
          case rel => exact ⟨j + 1, _, _, by omega, by go_num, HL7'⟩
          case measure => simp [intOf]; omega
        · have HJE : Hid (j = k) := hid (by omega)
          have HLe := HLq
          rw [HJE.out] at HLe
          have HLF := hid (lf_start (bFS A B k) HLe.out)
          have HPA := hid hpa
          have HPC := hid hpc
          have hab1 : w.heap.size ≠ b11 := by have h1 := HSZ.out; omega
          have hab2 : w.heap.size + 1 ≠ b11 := by have h1 := HSZ.out; omega
          have k4 := HLF.out.l.old HBA5.out.r4 hab1
          have k5 := HLF.out.l.old HBB5.out.r4 hab2
          rw [HJE.out]
          clear HLq HLe HJE hj hpa hpc hlt
          clear k4 k5
          go_wp2
          go_loopw [13] (fun i wr => ∃ (J : Nat) (fv : Value) (V : List Value), J ≤ A.K + B.K ∧ i = .int .i64 J ∧ Hid (Lf b11 z5 (.slice sa1 sn1 sc1) (.slice na1 k nc1) (.slice m1 k c1) (.slice m2 k c2) fv Mf Nf k (bFS A B k) J V wr)) (fun i _ => A.K + B.K - (intOf i).toNat)
          case atStart => exact ⟨0, _, _, Nat.zero_le _, rfl, HLF⟩
          case round =>
            obtain ⟨J, fv, V, hJ, rfl, HLx⟩ := hrel
            clear HLF
            have k4 := HLx.out.l.old HBA5.out.r4 hab1
            have k5 := HLx.out.l.old HBB5.out.r4 hab2
            obtain ⟨g1, g3, hfv⟩ := owns_sl HLx.out.r.top
            subst hfv
            by_cases hJt : J < A.K + B.K
            · obtain ⟨Pf, hPf⟩ : ∃ Pf : Nat → Bool, (fun r => bFr A B J (nAt (bL A B k) r)) = Pf := ⟨_, rfl⟩
              have HPF := hid hPf
              have hJt2 : ((J : Nat) : Int) < (A.K : Nat) + (B.K : Nat) := by omega
              obtain ⟨u0, hu0⟩ : ∃ u0, u0 = wr := ⟨_, rfl⟩
              subst hu0
              have HK45 := hid (And.intro k4 k5)
              have hzu : z5.heap.size ≤ u0.heap.size := HLx.out.l.fr.size
              clear hPf
              go_wp2
              clear k4 k5
              go_loopw [14, 15] (fun gv i wr => ∃ j : Nat, j ≤ k ∧ i = .int .i64 j ∧ Hid (Below u0.heap.size u0 wr ∧ wr.ownsRow u0.heap.size 3 1 gv (cs (whN Pf j)).length (vals (cs (whN Pf j))))) (fun _ i _ => k - (intOf i).toNat)
              case atStart => exact ⟨0, by omega, rfl, hid ⟨Below.refl _ _, World.ownsRow_nil _ _ _ _⟩⟩
              case round =>
                obtain ⟨j, hj, rfl, HJ⟩ := hrel
                obtain ⟨g0, gc, hgv⟩ := owns_sl HJ.out.2
                obtain ⟨gn, hgn⟩ : ∃ n, (cs (whN Pf j)).length = n := ⟨_, rfl⟩
                rw [hgn] at hgv
                subst hgv
                by_cases hlt : j < k
                · obtain rfl := HPA.out (by omega)
                  obtain ⟨z1, z2⟩ := HPC.out j hlt
                  have hpl : pb < b11 := HPN.out _ rfl
                  have hpb : pb ≠ b11 := by omega
                  have hP : bP A B (nAt (bL A B k) j) := bL_all HH.out.2.2.1 HH.out.2.2.2.1 k _ (nAt_mem (by have := HG.out.1; omega))
                  have hPj : Pf j = bFr A B J (nAt (bL A B k) j) := by rw [← HPF.out]
                  have x0 := below_cell HJ.out.1 (Nat.le_refl _) (HLx.out.l.old z1 hpb)
                  have x1 := below_cell HJ.out.1 (Nat.le_refl _) (HLx.out.l.old z2 hpb)
                  have t4 := below_cell HJ.out.1 (Nat.le_refl _) HK45.out.1
                  have t5 := below_cell HJ.out.1 (Nat.le_refl _) HK45.out.2
                  have HPJ := hid hPj
                  have HGN := hid hgn
                  have hgl : gn ≤ 2048 := by rw [← hgn, cs_len]; have := whN_len Pf j; omega
                  have hwi := HJ.out.1.size
                  have hwu := whN_succ Pf j
                  have HWt : Hid (Pf j = true → whN Pf (j + 1) = whN Pf j ++ [j]) := hid (fun h => by rw [hwu, if_pos h])
                  have HWf : Hid (Pf j = false → whN Pf (j + 1) = whN Pf j) := hid (fun h => by rw [hwu, if_neg (by rw [h]; simp)])
                  have HLW : Hid (Below w.heap.size w wr) := hid ((HLx.out.l.fr.below HL5.out (fun b hb e => by have h1 := HSZ.out; omega)).trans (HJ.out.1.mono (by have h1 := HL5.out.size; omega)))
                  obtain ⟨hp1, hp2⟩ := hP
                  clear z1 z2 hPj hgn hwu
                  generalize nAt (bL A B k) j = pp at *
                  obtain ⟨px, py⟩ := pp
                  dsimp only at x0 x1 hp1 hp2
                  by_cases hJA : J < A.K
                  · have hJK : J < A.K := by omega
                    obtain ⟨fb, fo, hfa, hfc⟩ := (HH.out.1.below HLW.out).fair
                    obtain ⟨ra, rc, hfk, hrow⟩ := hfc J hJK
                    have hrow2 := hrow.below (show Below wr.heap.size wr wr.drew from (Below.refl _ _).drew)
                    have hfa2 := hfa (by omega)
                    rw [hfa2] at t4
                    clear hfa2
                    obtain ⟨fq, hfq⟩ : ∃ fq, aFr A J px = fq := ⟨_, rfl⟩
                    have CI : Hid (Calls Tryd.prog 54 #[.slice ra (A.FL J) rc, .int .i64 ((px : Nat) : Int)] wr.drew fun e w' => e = .returned (.bool fq) ∧ w' = wr.drew) := hid (by
                      rw [← hfq]
                      exact conI ra (A.FL J) rc (A.FZ J) (px : Nat) wr.drew (HH.out.1.f47 J hJK) hrow2)
                    have HPE : Hid (Pf j = fq) := hid (by rw [HPJ.out, ← hfq]; unfold bFr; rw [if_pos hJA])
                    have hJA2 : ((J : Nat) : Int) < ((A.K : Nat) : Int) := by omega
                    skip
                    have hJA3 : ¬ ((A.K : Nat) : Int) ≤ ((J : Nat) : Int) := by omega
                    have hS0 : (fun z : World => z.cell? ⟨w.heap.size, 4, none⟩ = some (.slice (some ⟨fb, fo, none⟩) A.K A.fc) ∧ z.cell? ⟨w.heap.size + 1, 4, none⟩ = some (.slice B.fa B.K B.fc) ∧ z.cell? ⟨pb, j * 2, none⟩ = some (.int .i64 (px : Nat)) ∧ z.cell? ⟨pb, j * 2 + 1, none⟩ = some (.int .i64 (py : Nat)) ∧ z.cell? ⟨fb, fo + J, none⟩ = some (.slice ra (A.FL J) rc)) wr.drew := ⟨t4, t5, x0, x1, hfk⟩
                    clear hfc hfk hrow hrow2 hfq hfa
                    cases fq
                    · go_wp2_with fail
                      refine G_region (fun z : World => z.cell? ⟨w.heap.size, 4, none⟩ = some (.slice (some ⟨fb, fo, none⟩) A.K A.fc) ∧ z.cell? ⟨w.heap.size + 1, 4, none⟩ = some (.slice B.fa B.K B.fc) ∧ z.cell? ⟨pb, j * 2, none⟩ = some (.int .i64 (px : Nat)) ∧ z.cell? ⟨pb, j * 2 + 1, none⟩ = some (.int .i64 (py : Nat)) ∧ z.cell? ⟨fb, fo + J, none⟩ = some (.slice ra (A.FL J) rc)) (fun _ => false) (by kernel_rfl) hS0 (fun _ => ?_)
                      refine G_take (i := 0) (oi := { dst := some 117, op := Op.move (Operand.tmp 13), type := 3, pos := _, after := #[], guard := none }) (v := .int .i64 (J : Nat)) rfl (by kernel_rfl) (by kernel_rfl) (by kernel_rfl) (by kernel_rfl) (fun _ _ _ h => h) (by rfl) (fun u hu => ?_) hS0 ?_
                      · (try dsimp only at hu); go_simp
                      (try simp only [Act.put, List.setIfInBounds_toArray, List.set_cons_zero, List.set_cons_succ])
                      refine G_take (i := 1) (oi := { dst := some 118, op := Op.fieldAddr 26 (Operand.tmp 2) 4, type := 0, pos := _, after := #[], guard := none }) (v := .pointer (some ⟨w.heap.size, 4, none⟩)) rfl (by kernel_rfl) (by kernel_rfl) (by kernel_rfl) (by kernel_rfl) (fun _ _ _ h => h) (by rfl) (fun u hu => ?_) hS0 ?_
                      · (try dsimp only at hu); go_simp
                      (try simp only [Act.put, List.setIfInBounds_toArray, List.set_cons_zero, List.set_cons_succ])
                      refine G_take (i := 2) (oi := { dst := some 119, op := Op.load 23 (Operand.tmp 118), type := 23, pos := _, after := #[{ on := 1, ground := Ground.data }], guard := none }) (v := .slice (some ⟨fb, fo, none⟩) A.K A.fc) rfl (by kernel_rfl) (by kernel_rfl) (by kernel_rfl) (by kernel_rfl) (fun _ _ _ h => h) (by rfl) (fun u hu => ?_) hS0 ?_
                      · (try dsimp only at hu); go_simp
                      (try simp only [Act.put, List.setIfInBounds_toArray, List.set_cons_zero, List.set_cons_succ])
                      refine G_take (i := 3) (oi := { dst := some 120, op := Op.call { callee := Callee.builtin Builtin.len, args := #[Operand.tmp 119], argTypes := #[23] }, type := 3, pos := _, after := #[{ on := 2, ground := Ground.data }], guard := none }) (v := .int .i64 (A.K : Nat)) rfl (by kernel_rfl) (by kernel_rfl) (by kernel_rfl) (by kernel_rfl) (fun _ _ _ h => h) (by rfl) (fun u hu => ?_) hS0 ?_
                      · (try dsimp only at hu); go_simp
                      (try simp only [Act.put, List.setIfInBounds_toArray, List.set_cons_zero, List.set_cons_succ])
                      refine G_take (i := 4) (oi := { dst := some 121, op := Op.binOp BinOp.lss 3 (Operand.tmp 117) (Operand.tmp 120) 3, type := 4, pos := _, after := #[{ on := 0, ground := Ground.data }, { on := 3, ground := Ground.data }], guard := none }) (v := .bool true) rfl (by kernel_rfl) (by kernel_rfl) (by kernel_rfl) (by kernel_rfl) (fun _ _ _ h => h) (by rfl) (fun u hu => ?_) hS0 ?_
                      · (try dsimp only at hu); go_simp
                      (try simp only [Act.put, List.setIfInBounds_toArray, List.set_cons_zero, List.set_cons_succ])
                      refine G_take (i := 5) (oi := { dst := some 122, op := Op.move (Operand.tmp 121), type := 4, pos := _, after := #[{ on := 4, ground := Ground.data }], guard := none }) (v := .bool true) rfl (by kernel_rfl) (by kernel_rfl) (by kernel_rfl) (by kernel_rfl) (fun _ _ _ h => h) (by rfl) (fun u hu => ?_) hS0 ?_
                      · (try dsimp only at hu); go_simp
                      (try simp only [Act.put, List.setIfInBounds_toArray, List.set_cons_zero, List.set_cons_succ])
                      refine G_take (i := 6) (oi := { dst := some 123, op := Op.fieldAddr 26 (Operand.tmp 2) 4, type := 0, pos := _, after := #[{ on := 5, ground := Ground.guard }], guard := some (5, true) }) (v := .pointer (some ⟨w.heap.size, 4, none⟩)) rfl (by kernel_rfl) (by kernel_rfl) (by kernel_rfl) (by kernel_rfl) (fun _ _ _ h => h) (by rfl) (fun u hu => ?_) hS0 ?_
                      · (try dsimp only at hu); go_simp
                      (try simp only [Act.put, List.setIfInBounds_toArray, List.set_cons_zero, List.set_cons_succ])
                      refine G_take (i := 7) (oi := { dst := some 124, op := Op.load 23 (Operand.tmp 123), type := 23, pos := _, after := #[{ on := 6, ground := Ground.data }, { on := 5, ground := Ground.guard }], guard := some (5, true) }) (v := .slice (some ⟨fb, fo, none⟩) A.K A.fc) rfl (by kernel_rfl) (by kernel_rfl) (by kernel_rfl) (by kernel_rfl) (fun _ _ _ h => h) (by rfl) (fun u hu => ?_) hS0 ?_
                      · (try dsimp only at hu); go_simp
                      (try simp only [Act.put, List.setIfInBounds_toArray, List.set_cons_zero, List.set_cons_succ])
                      refine G_take (i := 8) (oi := { dst := some 125, op := Op.move (Operand.tmp 13), type := 3, pos := _, after := #[{ on := 5, ground := Ground.guard }], guard := some (5, true) }) (v := .int .i64 (J : Nat)) rfl (by kernel_rfl) (by kernel_rfl) (by kernel_rfl) (by kernel_rfl) (fun _ _ _ h => h) (by rfl) (fun u hu => ?_) hS0 ?_
                      · (try dsimp only at hu); go_simp
                      (try simp only [Act.put, List.setIfInBounds_toArray, List.set_cons_zero, List.set_cons_succ])
                      refine G_take (i := 9) (oi := { dst := some 126, op := Op.indexAddr 23 (Operand.tmp 124) (Operand.tmp 125), type := 0, pos := _, after := #[{ on := 7, ground := Ground.data }, { on := 8, ground := Ground.data }, { on := 5, ground := Ground.guard }], guard := some (5, true) }) (v := .pointer (some ⟨fb, fo + J, none⟩)) rfl (by kernel_rfl) (by kernel_rfl) (by kernel_rfl) (by kernel_rfl) (fun _ _ _ h => h) (by rfl) (fun u hu => ?_) hS0 ?_
                      · (try dsimp only at hu); go_simp
                      (try simp only [Act.put, List.setIfInBounds_toArray, List.set_cons_zero, List.set_cons_succ])
                      refine G_take (i := 10) (oi := { dst := some 127, op := Op.load 22 (Operand.tmp 126), type := 22, pos := _, after := #[{ on := 9, ground := Ground.data }, { on := 5, ground := Ground.guard }], guard := some (5, true) }) (v := .slice ra (A.FL J) rc) rfl (by kernel_rfl) (by kernel_rfl) (by kernel_rfl) (by kernel_rfl) (fun _ _ _ h => h) (by rfl) (fun u hu => ?_) hS0 ?_
                      · (try dsimp only at hu); go_simp
                      (try simp only [Act.put, List.setIfInBounds_toArray, List.set_cons_zero, List.set_cons_succ])
                      refine G_take (i := 11) (oi := { dst := some 128, op := Op.move (Operand.tmp 7), type := 87, pos := _, after := #[{ on := 5, ground := Ground.guard }], guard := some (5, true) }) (v := .slice (some ⟨pb, 0, none⟩) k pc) rfl (by kernel_rfl) (by kernel_rfl) (by kernel_rfl) (by kernel_rfl) (fun _ _ _ h => h) (by rfl) (fun u hu => ?_) hS0 ?_
                      · (try dsimp only at hu); go_simp
                      (try simp only [Act.put, List.setIfInBounds_toArray, List.set_cons_zero, List.set_cons_succ])
                      refine G_take (i := 12) (oi := { dst := some 129, op := Op.move (Operand.tmp 15), type := 3, pos := _, after := #[{ on := 5, ground := Ground.guard }], guard := some (5, true) }) (v := .int .i64 (j : Nat)) rfl (by kernel_rfl) (by kernel_rfl) (by kernel_rfl) (by kernel_rfl) (fun _ _ _ h => h) (by rfl) (fun u hu => ?_) hS0 ?_
                      · (try dsimp only at hu); go_simp
                      (try simp only [Act.put, List.setIfInBounds_toArray, List.set_cons_zero, List.set_cons_succ])
                      refine G_take (i := 13) (oi := { dst := some 130, op := Op.indexAddr 87 (Operand.tmp 128) (Operand.tmp 129), type := 0, pos := _, after := #[{ on := 11, ground := Ground.data }, { on := 12, ground := Ground.data }, { on := 5, ground := Ground.guard }], guard := some (5, true) }) (v := .pointer (some ⟨pb, j * 2, none⟩)) rfl (by kernel_rfl) (by kernel_rfl) (by kernel_rfl) (by kernel_rfl) (fun _ _ _ h => h) (by rfl) (fun u hu => ?_) hS0 ?_
                      · (try dsimp only at hu); go_simp
                      (try simp only [Act.put, List.setIfInBounds_toArray, List.set_cons_zero, List.set_cons_succ])
                      refine G_take (i := 14) (oi := { dst := some 131, op := Op.indexAddr 88 (Operand.tmp 130) (Operand.const (Value.int IntKind.i64 0)), type := 0, pos := _, after := #[{ on := 13, ground := Ground.data }, { on := 5, ground := Ground.guard }], guard := some (5, true) }) (v := .pointer (some ⟨pb, j * 2, none⟩)) rfl (by kernel_rfl) (by kernel_rfl) (by kernel_rfl) (by kernel_rfl) (fun _ _ _ h => h) (by rfl) (fun u hu => ?_) hS0 ?_
                      · (try dsimp only at hu); go_simp
                      (try simp only [Act.put, List.setIfInBounds_toArray, List.set_cons_zero, List.set_cons_succ])
                      refine G_take (i := 15) (oi := { dst := some 132, op := Op.load 3 (Operand.tmp 131), type := 3, pos := _, after := #[{ on := 14, ground := Ground.data }, { on := 5, ground := Ground.guard }], guard := some (5, true) }) (v := .int .i64 (px : Nat)) rfl (by kernel_rfl) (by kernel_rfl) (by kernel_rfl) (by kernel_rfl) (fun _ _ _ h => h) (by rfl) (fun u hu => ?_) hS0 ?_
                      · (try dsimp only at hu); go_simp
                      (try simp only [Act.put, List.setIfInBounds_toArray, List.set_cons_zero, List.set_cons_succ])
                      refine G_step (i := 16) (o := { dst := some 133, op := Op.call { callee := Callee.value (Operand.func 54), args := #[Operand.tmp 127, Operand.tmp 132], argTypes := #[22, 3] }, type := 4, pos := _, after := #[{ on := 10, ground := Ground.data }, { on := 15, ground := Ground.data }, { on := 5, ground := Ground.chain }, { on := 5, ground := Ground.guard }], guard := some (5, true) }) (by kernel_rfl) rfl (fun K' hK => ?_)
                      go_simp
                      refine CI.out.mono ?_
                      rintro e z1 ⟨rfl, hq⟩
                      obtain rfl := hq.symm
                      dsimp only
                      refine hK.out _ _ (fun _ => hS0) (fun _ => ?_)
                      (try simp only [Act.put, List.setIfInBounds_toArray, List.set_cons_zero, List.set_cons_succ])
                      refine G_take (i := 17) (oi := { dst := some 134, op := Op.pick (Operand.tmp 122) (Operand.tmp 133) (Operand.const (Value.bool false)), type := 4, pos := _, after := #[{ on := 5, ground := Ground.data }, { on := 16, ground := Ground.data }], guard := none }) (v := .bool false) rfl (by kernel_rfl) (by kernel_rfl) (by kernel_rfl) (by kernel_rfl) (fun _ _ _ h => h) (by rfl) (fun u hu => ?_) hS0 ?_
                      · (try dsimp only at hu); go_simp
                      (try simp only [Act.put, List.setIfInBounds_toArray, List.set_cons_zero, List.set_cons_succ])
                      refine G_take (i := 18) (oi := { dst := some 135, op := Op.move (Operand.tmp 134), type := 4, pos := _, after := #[{ on := 17, ground := Ground.data }, { on := 16, ground := Ground.chain }], guard := none }) (v := .bool false) rfl (by kernel_rfl) (by kernel_rfl) (by kernel_rfl) (by kernel_rfl) (fun _ _ _ h => h) (by rfl) (fun u hu => ?_) hS0 ?_
                      · (try dsimp only at hu); go_simp
                      (try simp only [Act.put, List.setIfInBounds_toArray, List.set_cons_zero, List.set_cons_succ])
                      refine G_take (i := 19) (oi := { dst := some 136, op := Op.move (Operand.tmp 13), type := 3, pos := _, after := #[{ on := 18, ground := Ground.guard }], guard := some (18, false) }) (v := .int .i64 (J : Nat)) rfl (by kernel_rfl) (by kernel_rfl) (by kernel_rfl) (by kernel_rfl) (fun _ _ _ h => h) (by rfl) (fun u hu => ?_) hS0 ?_
                      · (try dsimp only at hu); go_simp
                      (try simp only [Act.put, List.setIfInBounds_toArray, List.set_cons_zero, List.set_cons_succ])
                      refine G_take (i := 20) (oi := { dst := some 137, op := Op.fieldAddr 26 (Operand.tmp 2) 4, type := 0, pos := _, after := #[{ on := 18, ground := Ground.guard }], guard := some (18, false) }) (v := .pointer (some ⟨w.heap.size, 4, none⟩)) rfl (by kernel_rfl) (by kernel_rfl) (by kernel_rfl) (by kernel_rfl) (fun _ _ _ h => h) (by rfl) (fun u hu => ?_) hS0 ?_
                      · (try dsimp only at hu); go_simp
                      (try simp only [Act.put, List.setIfInBounds_toArray, List.set_cons_zero, List.set_cons_succ])
                      refine G_take (i := 21) (oi := { dst := some 138, op := Op.load 23 (Operand.tmp 137), type := 23, pos := _, after := #[{ on := 20, ground := Ground.data }, { on := 18, ground := Ground.guard }], guard := some (18, false) }) (v := .slice (some ⟨fb, fo, none⟩) A.K A.fc) rfl (by kernel_rfl) (by kernel_rfl) (by kernel_rfl) (by kernel_rfl) (fun _ _ _ h => h) (by rfl) (fun u hu => ?_) hS0 ?_
                      · (try dsimp only at hu); go_simp
                      (try simp only [Act.put, List.setIfInBounds_toArray, List.set_cons_zero, List.set_cons_succ])
                      refine G_take (i := 22) (oi := { dst := some 139, op := Op.call { callee := Callee.builtin Builtin.len, args := #[Operand.tmp 138], argTypes := #[23] }, type := 3, pos := _, after := #[{ on := 21, ground := Ground.data }, { on := 18, ground := Ground.guard }], guard := some (18, false) }) (v := .int .i64 (A.K : Nat)) rfl (by kernel_rfl) (by kernel_rfl) (by kernel_rfl) (by kernel_rfl) (fun _ _ _ h => h) (by rfl) (fun u hu => ?_) hS0 ?_
                      · (try dsimp only at hu); go_simp
                      (try simp only [Act.put, List.setIfInBounds_toArray, List.set_cons_zero, List.set_cons_succ])
                      refine G_take (i := 23) (oi := { dst := some 140, op := Op.binOp BinOp.geq 3 (Operand.tmp 136) (Operand.tmp 139) 3, type := 4, pos := _, after := #[{ on := 19, ground := Ground.data }, { on := 22, ground := Ground.data }, { on := 18, ground := Ground.guard }], guard := some (18, false) }) (v := .bool false) rfl (by kernel_rfl) (by kernel_rfl) (by kernel_rfl) (by kernel_rfl) (fun _ _ _ h => h) (by rfl) (fun u hu => ?_) hS0 ?_
                      · (try dsimp only at hu); go_simp
                      (try simp only [Act.put, List.setIfInBounds_toArray, List.set_cons_zero, List.set_cons_succ])
                      refine G_take (i := 24) (oi := { dst := some 141, op := Op.move (Operand.tmp 140), type := 4, pos := _, after := #[{ on := 23, ground := Ground.data }, { on := 18, ground := Ground.chain }, { on := 18, ground := Ground.guard }], guard := some (18, false) }) (v := .bool false) rfl (by kernel_rfl) (by kernel_rfl) (by kernel_rfl) (by kernel_rfl) (fun _ _ _ h => h) (by rfl) (fun u hu => ?_) hS0 ?_
                      · (try dsimp only at hu); go_simp
                      (try simp only [Act.put, List.setIfInBounds_toArray, List.set_cons_zero, List.set_cons_succ])
                      refine G_skip (i := 25) (oi := { dst := some 142, op := Op.fieldAddr 26 (Operand.tmp 3) 4, type := 0, pos := _, after := #[{ on := 24, ground := Ground.guard }], guard := some (24, true) }) rfl (by kernel_rfl) (by kernel_rfl) (by kernel_rfl) (by kernel_rfl) (fun _ _ _ h => h) (by rfl) hS0 ?_
                      (try simp only [Act.put, List.setIfInBounds_toArray, List.set_cons_zero, List.set_cons_succ])
                      refine G_skip (i := 26) (oi := { dst := some 143, op := Op.load 23 (Operand.tmp 142), type := 23, pos := _, after := #[{ on := 25, ground := Ground.data }, { on := 24, ground := Ground.guard }], guard := some (24, true) }) rfl (by kernel_rfl) (by kernel_rfl) (by kernel_rfl) (by kernel_rfl) (fun _ _ _ h => h) (by rfl) hS0 ?_
                      (try simp only [Act.put, List.setIfInBounds_toArray, List.set_cons_zero, List.set_cons_succ])
                      refine G_skip (i := 27) (oi := { dst := some 144, op := Op.move (Operand.tmp 13), type := 3, pos := _, after := #[{ on := 24, ground := Ground.guard }], guard := some (24, true) }) rfl (by kernel_rfl) (by kernel_rfl) (by kernel_rfl) (by kernel_rfl) (fun _ _ _ h => h) (by rfl) hS0 ?_
                      (try simp only [Act.put, List.setIfInBounds_toArray, List.set_cons_zero, List.set_cons_succ])
                      refine G_skip (i := 28) (oi := { dst := some 145, op := Op.fieldAddr 26 (Operand.tmp 2) 4, type := 0, pos := _, after := #[{ on := 24, ground := Ground.guard }], guard := some (24, true) }) rfl (by kernel_rfl) (by kernel_rfl) (by kernel_rfl) (by kernel_rfl) (fun _ _ _ h => h) (by rfl) hS0 ?_
                      (try simp only [Act.put, List.setIfInBounds_toArray, List.set_cons_zero, List.set_cons_succ])
                      refine G_skip (i := 29) (oi := { dst := some 146, op := Op.load 23 (Operand.tmp 145), type := 23, pos := _, after := #[{ on := 28, ground := Ground.data }, { on := 24, ground := Ground.guard }], guard := some (24, true) }) rfl (by kernel_rfl) (by kernel_rfl) (by kernel_rfl) (by kernel_rfl) (fun _ _ _ h => h) (by rfl) hS0 ?_
                      (try simp only [Act.put, List.setIfInBounds_toArray, List.set_cons_zero, List.set_cons_succ])
                      refine G_skip (i := 30) (oi := { dst := some 147, op := Op.call { callee := Callee.builtin Builtin.len, args := #[Operand.tmp 146], argTypes := #[23] }, type := 3, pos := _, after := #[{ on := 29, ground := Ground.data }, { on := 24, ground := Ground.guard }], guard := some (24, true) }) rfl (by kernel_rfl) (by kernel_rfl) (by kernel_rfl) (by kernel_rfl) (fun _ _ _ h => h) (by rfl) hS0 ?_
                      (try simp only [Act.put, List.setIfInBounds_toArray, List.set_cons_zero, List.set_cons_succ])
                      refine G_skip (i := 31) (oi := { dst := some 148, op := Op.binOp BinOp.sub 3 (Operand.tmp 144) (Operand.tmp 147) 3, type := 3, pos := _, after := #[{ on := 27, ground := Ground.data }, { on := 30, ground := Ground.data }, { on := 24, ground := Ground.guard }], guard := some (24, true) }) rfl (by kernel_rfl) (by kernel_rfl) (by kernel_rfl) (by kernel_rfl) (fun _ _ _ h => h) (by rfl) hS0 ?_
                      (try simp only [Act.put, List.setIfInBounds_toArray, List.set_cons_zero, List.set_cons_succ])
                      refine G_skip (i := 32) (oi := { dst := some 149, op := Op.indexAddr 23 (Operand.tmp 143) (Operand.tmp 148), type := 0, pos := _, after := #[{ on := 26, ground := Ground.data }, { on := 31, ground := Ground.data }, { on := 24, ground := Ground.guard }], guard := some (24, true) }) rfl (by kernel_rfl) (by kernel_rfl) (by kernel_rfl) (by kernel_rfl) (fun _ _ _ h => h) (by rfl) hS0 ?_
                      (try simp only [Act.put, List.setIfInBounds_toArray, List.set_cons_zero, List.set_cons_succ])
                      refine G_skip (i := 33) (oi := { dst := some 150, op := Op.load 22 (Operand.tmp 149), type := 22, pos := _, after := #[{ on := 32, ground := Ground.data }, { on := 24, ground := Ground.guard }], guard := some (24, true) }) rfl (by kernel_rfl) (by kernel_rfl) (by kernel_rfl) (by kernel_rfl) (fun _ _ _ h => h) (by rfl) hS0 ?_
                      (try simp only [Act.put, List.setIfInBounds_toArray, List.set_cons_zero, List.set_cons_succ])
                      refine G_skip (i := 34) (oi := { dst := some 151, op := Op.move (Operand.tmp 7), type := 87, pos := _, after := #[{ on := 24, ground := Ground.guard }], guard := some (24, true) }) rfl (by kernel_rfl) (by kernel_rfl) (by kernel_rfl) (by kernel_rfl) (fun _ _ _ h => h) (by rfl) hS0 ?_
                      (try simp only [Act.put, List.setIfInBounds_toArray, List.set_cons_zero, List.set_cons_succ])
                      refine G_skip (i := 35) (oi := { dst := some 152, op := Op.move (Operand.tmp 15), type := 3, pos := _, after := #[{ on := 24, ground := Ground.guard }], guard := some (24, true) }) rfl (by kernel_rfl) (by kernel_rfl) (by kernel_rfl) (by kernel_rfl) (fun _ _ _ h => h) (by rfl) hS0 ?_
                      (try simp only [Act.put, List.setIfInBounds_toArray, List.set_cons_zero, List.set_cons_succ])
                      refine G_skip (i := 36) (oi := { dst := some 153, op := Op.indexAddr 87 (Operand.tmp 151) (Operand.tmp 152), type := 0, pos := _, after := #[{ on := 34, ground := Ground.data }, { on := 35, ground := Ground.data }, { on := 24, ground := Ground.guard }], guard := some (24, true) }) rfl (by kernel_rfl) (by kernel_rfl) (by kernel_rfl) (by kernel_rfl) (fun _ _ _ h => h) (by rfl) hS0 ?_
                      (try simp only [Act.put, List.setIfInBounds_toArray, List.set_cons_zero, List.set_cons_succ])
                      refine G_skip (i := 37) (oi := { dst := some 154, op := Op.indexAddr 88 (Operand.tmp 153) (Operand.const (Value.int IntKind.i64 1)), type := 0, pos := _, after := #[{ on := 36, ground := Ground.data }, { on := 24, ground := Ground.guard }], guard := some (24, true) }) rfl (by kernel_rfl) (by kernel_rfl) (by kernel_rfl) (by kernel_rfl) (fun _ _ _ h => h) (by rfl) hS0 ?_
                      (try simp only [Act.put, List.setIfInBounds_toArray, List.set_cons_zero, List.set_cons_succ])
                      refine G_skip (i := 38) (oi := { dst := some 155, op := Op.load 3 (Operand.tmp 154), type := 3, pos := _, after := #[{ on := 37, ground := Ground.data }, { on := 24, ground := Ground.guard }], guard := some (24, true) }) rfl (by kernel_rfl) (by kernel_rfl) (by kernel_rfl) (by kernel_rfl) (fun _ _ _ h => h) (by rfl) hS0 ?_
                      (try simp only [Act.put, List.setIfInBounds_toArray, List.set_cons_zero, List.set_cons_succ])
                      refine G_skip (i := 39) (oi := { dst := some 156, op := Op.call { callee := Callee.value (Operand.func 54), args := #[Operand.tmp 150, Operand.tmp 155], argTypes := #[22, 3] }, type := 4, pos := _, after := #[{ on := 33, ground := Ground.data }, { on := 38, ground := Ground.data }, { on := 24, ground := Ground.chain }, { on := 24, ground := Ground.guard }], guard := some (24, true) }) rfl (by kernel_rfl) (by kernel_rfl) (by kernel_rfl) (by kernel_rfl) (fun _ _ _ h => h) (by rfl) hS0 ?_
                      (try simp only [Act.put, List.setIfInBounds_toArray, List.set_cons_zero, List.set_cons_succ])
                      refine G_take (i := 40) (oi := { dst := some 157, op := Op.pick (Operand.tmp 141) (Operand.tmp 156) (Operand.const (Value.bool false)), type := 4, pos := _, after := #[{ on := 24, ground := Ground.data }, { on := 39, ground := Ground.data }, { on := 18, ground := Ground.guard }], guard := some (18, false) }) (v := .bool false) rfl (by kernel_rfl) (by kernel_rfl) (by kernel_rfl) (by kernel_rfl) (fun _ _ _ h => h) (by rfl) (fun u hu => ?_) hS0 ?_
                      · (try dsimp only at hu); go_simp
                      (try simp only [Act.put, List.setIfInBounds_toArray, List.set_cons_zero, List.set_cons_succ])
                      refine G_take (i := 41) (oi := { dst := some 158, op := Op.pick (Operand.tmp 135) (Operand.const (Value.bool true)) (Operand.tmp 157), type := 4, pos := _, after := #[{ on := 18, ground := Ground.data }, { on := 40, ground := Ground.data }], guard := none }) (v := .bool false) rfl (by kernel_rfl) (by kernel_rfl) (by kernel_rfl) (by kernel_rfl) (fun _ _ _ h => h) (by rfl) (fun u hu => ?_) hS0 ?_
                      · (try dsimp only at hu); go_simp
                      (try simp only [Act.put, List.setIfInBounds_toArray, List.set_cons_zero, List.set_cons_succ])
                      refine G_done (by kernel_rfl) ?_ _
                      (try dsimp only [Exit.then])
                      go_wp2
                      go_roundw
                      case rel => exact ⟨j + 1, by omega, by go_num, hid ⟨HJ.out.1.drew, by rw [HWf.out HPE.out]; have h := (HJ.out.2).drew; exact h⟩⟩
                      case measure => simp [intOf]; omega
                    · go_wp2_with fail
                      refine G_region (fun z : World => z.cell? ⟨w.heap.size, 4, none⟩ = some (.slice (some ⟨fb, fo, none⟩) A.K A.fc) ∧ z.cell? ⟨w.heap.size + 1, 4, none⟩ = some (.slice B.fa B.K B.fc) ∧ z.cell? ⟨pb, j * 2, none⟩ = some (.int .i64 (px : Nat)) ∧ z.cell? ⟨pb, j * 2 + 1, none⟩ = some (.int .i64 (py : Nat)) ∧ z.cell? ⟨fb, fo + J, none⟩ = some (.slice ra (A.FL J) rc)) (fun _ => false) (by kernel_rfl) hS0 (fun _ => ?_)
                      refine G_take (i := 0) (oi := { dst := some 117, op := Op.move (Operand.tmp 13), type := 3, pos := _, after := #[], guard := none }) (v := .int .i64 (J : Nat)) rfl (by kernel_rfl) (by kernel_rfl) (by kernel_rfl) (by kernel_rfl) (fun _ _ _ h => h) (by rfl) (fun u hu => ?_) hS0 ?_
                      · (try dsimp only at hu); go_simp
                      (try simp only [Act.put, List.setIfInBounds_toArray, List.set_cons_zero, List.set_cons_succ])
                      refine G_take (i := 1) (oi := { dst := some 118, op := Op.fieldAddr 26 (Operand.tmp 2) 4, type := 0, pos := _, after := #[], guard := none }) (v := .pointer (some ⟨w.heap.size, 4, none⟩)) rfl (by kernel_rfl) (by kernel_rfl) (by kernel_rfl) (by kernel_rfl) (fun _ _ _ h => h) (by rfl) (fun u hu => ?_) hS0 ?_
                      · (try dsimp only at hu); go_simp
                      (try simp only [Act.put, List.setIfInBounds_toArray, List.set_cons_zero, List.set_cons_succ])
                      refine G_take (i := 2) (oi := { dst := some 119, op := Op.load 23 (Operand.tmp 118), type := 23, pos := _, after := #[{ on := 1, ground := Ground.data }], guard := none }) (v := .slice (some ⟨fb, fo, none⟩) A.K A.fc) rfl (by kernel_rfl) (by kernel_rfl) (by kernel_rfl) (by kernel_rfl) (fun _ _ _ h => h) (by rfl) (fun u hu => ?_) hS0 ?_
                      · (try dsimp only at hu); go_simp
                      (try simp only [Act.put, List.setIfInBounds_toArray, List.set_cons_zero, List.set_cons_succ])
                      refine G_take (i := 3) (oi := { dst := some 120, op := Op.call { callee := Callee.builtin Builtin.len, args := #[Operand.tmp 119], argTypes := #[23] }, type := 3, pos := _, after := #[{ on := 2, ground := Ground.data }], guard := none }) (v := .int .i64 (A.K : Nat)) rfl (by kernel_rfl) (by kernel_rfl) (by kernel_rfl) (by kernel_rfl) (fun _ _ _ h => h) (by rfl) (fun u hu => ?_) hS0 ?_
                      · (try dsimp only at hu); go_simp
                      (try simp only [Act.put, List.setIfInBounds_toArray, List.set_cons_zero, List.set_cons_succ])
                      refine G_take (i := 4) (oi := { dst := some 121, op := Op.binOp BinOp.lss 3 (Operand.tmp 117) (Operand.tmp 120) 3, type := 4, pos := _, after := #[{ on := 0, ground := Ground.data }, { on := 3, ground := Ground.data }], guard := none }) (v := .bool true) rfl (by kernel_rfl) (by kernel_rfl) (by kernel_rfl) (by kernel_rfl) (fun _ _ _ h => h) (by rfl) (fun u hu => ?_) hS0 ?_
                      · (try dsimp only at hu); go_simp
                      (try simp only [Act.put, List.setIfInBounds_toArray, List.set_cons_zero, List.set_cons_succ])
                      refine G_take (i := 5) (oi := { dst := some 122, op := Op.move (Operand.tmp 121), type := 4, pos := _, after := #[{ on := 4, ground := Ground.data }], guard := none }) (v := .bool true) rfl (by kernel_rfl) (by kernel_rfl) (by kernel_rfl) (by kernel_rfl) (fun _ _ _ h => h) (by rfl) (fun u hu => ?_) hS0 ?_
                      · (try dsimp only at hu); go_simp
                      (try simp only [Act.put, List.setIfInBounds_toArray, List.set_cons_zero, List.set_cons_succ])
                      refine G_take (i := 6) (oi := { dst := some 123, op := Op.fieldAddr 26 (Operand.tmp 2) 4, type := 0, pos := _, after := #[{ on := 5, ground := Ground.guard }], guard := some (5, true) }) (v := .pointer (some ⟨w.heap.size, 4, none⟩)) rfl (by kernel_rfl) (by kernel_rfl) (by kernel_rfl) (by kernel_rfl) (fun _ _ _ h => h) (by rfl) (fun u hu => ?_) hS0 ?_
                      · (try dsimp only at hu); go_simp
                      (try simp only [Act.put, List.setIfInBounds_toArray, List.set_cons_zero, List.set_cons_succ])
                      refine G_take (i := 7) (oi := { dst := some 124, op := Op.load 23 (Operand.tmp 123), type := 23, pos := _, after := #[{ on := 6, ground := Ground.data }, { on := 5, ground := Ground.guard }], guard := some (5, true) }) (v := .slice (some ⟨fb, fo, none⟩) A.K A.fc) rfl (by kernel_rfl) (by kernel_rfl) (by kernel_rfl) (by kernel_rfl) (fun _ _ _ h => h) (by rfl) (fun u hu => ?_) hS0 ?_
                      · (try dsimp only at hu); go_simp
                      (try simp only [Act.put, List.setIfInBounds_toArray, List.set_cons_zero, List.set_cons_succ])
                      refine G_take (i := 8) (oi := { dst := some 125, op := Op.move (Operand.tmp 13), type := 3, pos := _, after := #[{ on := 5, ground := Ground.guard }], guard := some (5, true) }) (v := .int .i64 (J : Nat)) rfl (by kernel_rfl) (by kernel_rfl) (by kernel_rfl) (by kernel_rfl) (fun _ _ _ h => h) (by rfl) (fun u hu => ?_) hS0 ?_
                      · (try dsimp only at hu); go_simp
                      (try simp only [Act.put, List.setIfInBounds_toArray, List.set_cons_zero, List.set_cons_succ])
                      refine G_take (i := 9) (oi := { dst := some 126, op := Op.indexAddr 23 (Operand.tmp 124) (Operand.tmp 125), type := 0, pos := _, after := #[{ on := 7, ground := Ground.data }, { on := 8, ground := Ground.data }, { on := 5, ground := Ground.guard }], guard := some (5, true) }) (v := .pointer (some ⟨fb, fo + J, none⟩)) rfl (by kernel_rfl) (by kernel_rfl) (by kernel_rfl) (by kernel_rfl) (fun _ _ _ h => h) (by rfl) (fun u hu => ?_) hS0 ?_
                      · (try dsimp only at hu); go_simp
                      (try simp only [Act.put, List.setIfInBounds_toArray, List.set_cons_zero, List.set_cons_succ])
                      refine G_take (i := 10) (oi := { dst := some 127, op := Op.load 22 (Operand.tmp 126), type := 22, pos := _, after := #[{ on := 9, ground := Ground.data }, { on := 5, ground := Ground.guard }], guard := some (5, true) }) (v := .slice ra (A.FL J) rc) rfl (by kernel_rfl) (by kernel_rfl) (by kernel_rfl) (by kernel_rfl) (fun _ _ _ h => h) (by rfl) (fun u hu => ?_) hS0 ?_
                      · (try dsimp only at hu); go_simp
                      (try simp only [Act.put, List.setIfInBounds_toArray, List.set_cons_zero, List.set_cons_succ])
                      refine G_take (i := 11) (oi := { dst := some 128, op := Op.move (Operand.tmp 7), type := 87, pos := _, after := #[{ on := 5, ground := Ground.guard }], guard := some (5, true) }) (v := .slice (some ⟨pb, 0, none⟩) k pc) rfl (by kernel_rfl) (by kernel_rfl) (by kernel_rfl) (by kernel_rfl) (fun _ _ _ h => h) (by rfl) (fun u hu => ?_) hS0 ?_
                      · (try dsimp only at hu); go_simp
                      (try simp only [Act.put, List.setIfInBounds_toArray, List.set_cons_zero, List.set_cons_succ])
                      refine G_take (i := 12) (oi := { dst := some 129, op := Op.move (Operand.tmp 15), type := 3, pos := _, after := #[{ on := 5, ground := Ground.guard }], guard := some (5, true) }) (v := .int .i64 (j : Nat)) rfl (by kernel_rfl) (by kernel_rfl) (by kernel_rfl) (by kernel_rfl) (fun _ _ _ h => h) (by rfl) (fun u hu => ?_) hS0 ?_
                      · (try dsimp only at hu); go_simp
                      (try simp only [Act.put, List.setIfInBounds_toArray, List.set_cons_zero, List.set_cons_succ])
                      refine G_take (i := 13) (oi := { dst := some 130, op := Op.indexAddr 87 (Operand.tmp 128) (Operand.tmp 129), type := 0, pos := _, after := #[{ on := 11, ground := Ground.data }, { on := 12, ground := Ground.data }, { on := 5, ground := Ground.guard }], guard := some (5, true) }) (v := .pointer (some ⟨pb, j * 2, none⟩)) rfl (by kernel_rfl) (by kernel_rfl) (by kernel_rfl) (by kernel_rfl) (fun _ _ _ h => h) (by rfl) (fun u hu => ?_) hS0 ?_
                      · (try dsimp only at hu); go_simp
                      (try simp only [Act.put, List.setIfInBounds_toArray, List.set_cons_zero, List.set_cons_succ])
                      refine G_take (i := 14) (oi := { dst := some 131, op := Op.indexAddr 88 (Operand.tmp 130) (Operand.const (Value.int IntKind.i64 0)), type := 0, pos := _, after := #[{ on := 13, ground := Ground.data }, { on := 5, ground := Ground.guard }], guard := some (5, true) }) (v := .pointer (some ⟨pb, j * 2, none⟩)) rfl (by kernel_rfl) (by kernel_rfl) (by kernel_rfl) (by kernel_rfl) (fun _ _ _ h => h) (by rfl) (fun u hu => ?_) hS0 ?_
                      · (try dsimp only at hu); go_simp
                      (try simp only [Act.put, List.setIfInBounds_toArray, List.set_cons_zero, List.set_cons_succ])
                      refine G_take (i := 15) (oi := { dst := some 132, op := Op.load 3 (Operand.tmp 131), type := 3, pos := _, after := #[{ on := 14, ground := Ground.data }, { on := 5, ground := Ground.guard }], guard := some (5, true) }) (v := .int .i64 (px : Nat)) rfl (by kernel_rfl) (by kernel_rfl) (by kernel_rfl) (by kernel_rfl) (fun _ _ _ h => h) (by rfl) (fun u hu => ?_) hS0 ?_
                      · (try dsimp only at hu); go_simp
                      (try simp only [Act.put, List.setIfInBounds_toArray, List.set_cons_zero, List.set_cons_succ])
                      refine G_step (i := 16) (o := { dst := some 133, op := Op.call { callee := Callee.value (Operand.func 54), args := #[Operand.tmp 127, Operand.tmp 132], argTypes := #[22, 3] }, type := 4, pos := _, after := #[{ on := 10, ground := Ground.data }, { on := 15, ground := Ground.data }, { on := 5, ground := Ground.chain }, { on := 5, ground := Ground.guard }], guard := some (5, true) }) (by kernel_rfl) rfl (fun K' hK => ?_)
                      go_simp
                      refine CI.out.mono ?_
                      rintro e z1 ⟨rfl, hq⟩
                      obtain rfl := hq.symm
                      dsimp only
                      refine hK.out _ _ (fun _ => hS0) (fun _ => ?_)
                      (try simp only [Act.put, List.setIfInBounds_toArray, List.set_cons_zero, List.set_cons_succ])
                      refine G_take (i := 17) (oi := { dst := some 134, op := Op.pick (Operand.tmp 122) (Operand.tmp 133) (Operand.const (Value.bool false)), type := 4, pos := _, after := #[{ on := 5, ground := Ground.data }, { on := 16, ground := Ground.data }], guard := none }) (v := .bool true) rfl (by kernel_rfl) (by kernel_rfl) (by kernel_rfl) (by kernel_rfl) (fun _ _ _ h => h) (by rfl) (fun u hu => ?_) hS0 ?_
                      · (try dsimp only at hu); go_simp
                      (try simp only [Act.put, List.setIfInBounds_toArray, List.set_cons_zero, List.set_cons_succ])
                      refine G_take (i := 18) (oi := { dst := some 135, op := Op.move (Operand.tmp 134), type := 4, pos := _, after := #[{ on := 17, ground := Ground.data }, { on := 16, ground := Ground.chain }], guard := none }) (v := .bool true) rfl (by kernel_rfl) (by kernel_rfl) (by kernel_rfl) (by kernel_rfl) (fun _ _ _ h => h) (by rfl) (fun u hu => ?_) hS0 ?_
                      · (try dsimp only at hu); go_simp
                      (try simp only [Act.put, List.setIfInBounds_toArray, List.set_cons_zero, List.set_cons_succ])
                      refine G_skip (i := 19) (oi := { dst := some 136, op := Op.move (Operand.tmp 13), type := 3, pos := _, after := #[{ on := 18, ground := Ground.guard }], guard := some (18, false) }) rfl (by kernel_rfl) (by kernel_rfl) (by kernel_rfl) (by kernel_rfl) (fun _ _ _ h => h) (by rfl) hS0 ?_
                      (try simp only [Act.put, List.setIfInBounds_toArray, List.set_cons_zero, List.set_cons_succ])
                      refine G_skip (i := 20) (oi := { dst := some 137, op := Op.fieldAddr 26 (Operand.tmp 2) 4, type := 0, pos := _, after := #[{ on := 18, ground := Ground.guard }], guard := some (18, false) }) rfl (by kernel_rfl) (by kernel_rfl) (by kernel_rfl) (by kernel_rfl) (fun _ _ _ h => h) (by rfl) hS0 ?_
                      (try simp only [Act.put, List.setIfInBounds_toArray, List.set_cons_zero, List.set_cons_succ])
                      refine G_skip (i := 21) (oi := { dst := some 138, op := Op.load 23 (Operand.tmp 137), type := 23, pos := _, after := #[{ on := 20, ground := Ground.data }, { on := 18, ground := Ground.guard }], guard := some (18, false) }) rfl (by kernel_rfl) (by kernel_rfl) (by kernel_rfl) (by kernel_rfl) (fun _ _ _ h => h) (by rfl) hS0 ?_
                      (try simp only [Act.put, List.setIfInBounds_toArray, List.set_cons_zero, List.set_cons_succ])
                      refine G_skip (i := 22) (oi := { dst := some 139, op := Op.call { callee := Callee.builtin Builtin.len, args := #[Operand.tmp 138], argTypes := #[23] }, type := 3, pos := _, after := #[{ on := 21, ground := Ground.data }, { on := 18, ground := Ground.guard }], guard := some (18, false) }) rfl (by kernel_rfl) (by kernel_rfl) (by kernel_rfl) (by kernel_rfl) (fun _ _ _ h => h) (by rfl) hS0 ?_
                      (try simp only [Act.put, List.setIfInBounds_toArray, List.set_cons_zero, List.set_cons_succ])
                      refine G_skip (i := 23) (oi := { dst := some 140, op := Op.binOp BinOp.geq 3 (Operand.tmp 136) (Operand.tmp 139) 3, type := 4, pos := _, after := #[{ on := 19, ground := Ground.data }, { on := 22, ground := Ground.data }, { on := 18, ground := Ground.guard }], guard := some (18, false) }) rfl (by kernel_rfl) (by kernel_rfl) (by kernel_rfl) (by kernel_rfl) (fun _ _ _ h => h) (by rfl) hS0 ?_
                      (try simp only [Act.put, List.setIfInBounds_toArray, List.set_cons_zero, List.set_cons_succ])
                      refine G_skip (i := 24) (oi := { dst := some 141, op := Op.move (Operand.tmp 140), type := 4, pos := _, after := #[{ on := 23, ground := Ground.data }, { on := 18, ground := Ground.chain }, { on := 18, ground := Ground.guard }], guard := some (18, false) }) rfl (by kernel_rfl) (by kernel_rfl) (by kernel_rfl) (by kernel_rfl) (fun _ _ _ h => h) (by rfl) hS0 ?_
                      (try simp only [Act.put, List.setIfInBounds_toArray, List.set_cons_zero, List.set_cons_succ])
                      refine G_skip (i := 25) (oi := { dst := some 142, op := Op.fieldAddr 26 (Operand.tmp 3) 4, type := 0, pos := _, after := #[{ on := 24, ground := Ground.guard }], guard := some (24, true) }) rfl (by kernel_rfl) (by kernel_rfl) (by kernel_rfl) (by kernel_rfl) (fun _ _ _ h => h) (by rfl) hS0 ?_
                      (try simp only [Act.put, List.setIfInBounds_toArray, List.set_cons_zero, List.set_cons_succ])
                      refine G_skip (i := 26) (oi := { dst := some 143, op := Op.load 23 (Operand.tmp 142), type := 23, pos := _, after := #[{ on := 25, ground := Ground.data }, { on := 24, ground := Ground.guard }], guard := some (24, true) }) rfl (by kernel_rfl) (by kernel_rfl) (by kernel_rfl) (by kernel_rfl) (fun _ _ _ h => h) (by rfl) hS0 ?_
                      (try simp only [Act.put, List.setIfInBounds_toArray, List.set_cons_zero, List.set_cons_succ])
                      refine G_skip (i := 27) (oi := { dst := some 144, op := Op.move (Operand.tmp 13), type := 3, pos := _, after := #[{ on := 24, ground := Ground.guard }], guard := some (24, true) }) rfl (by kernel_rfl) (by kernel_rfl) (by kernel_rfl) (by kernel_rfl) (fun _ _ _ h => h) (by rfl) hS0 ?_
                      (try simp only [Act.put, List.setIfInBounds_toArray, List.set_cons_zero, List.set_cons_succ])
                      refine G_skip (i := 28) (oi := { dst := some 145, op := Op.fieldAddr 26 (Operand.tmp 2) 4, type := 0, pos := _, after := #[{ on := 24, ground := Ground.guard }], guard := some (24, true) }) rfl (by kernel_rfl) (by kernel_rfl) (by kernel_rfl) (by kernel_rfl) (fun _ _ _ h => h) (by rfl) hS0 ?_
                      (try simp only [Act.put, List.setIfInBounds_toArray, List.set_cons_zero, List.set_cons_succ])
                      refine G_skip (i := 29) (oi := { dst := some 146, op := Op.load 23 (Operand.tmp 145), type := 23, pos := _, after := #[{ on := 28, ground := Ground.data }, { on := 24, ground := Ground.guard }], guard := some (24, true) }) rfl (by kernel_rfl) (by kernel_rfl) (by kernel_rfl) (by kernel_rfl) (fun _ _ _ h => h) (by rfl) hS0 ?_
                      (try simp only [Act.put, List.setIfInBounds_toArray, List.set_cons_zero, List.set_cons_succ])
                      refine G_skip (i := 30) (oi := { dst := some 147, op := Op.call { callee := Callee.builtin Builtin.len, args := #[Operand.tmp 146], argTypes := #[23] }, type := 3, pos := _, after := #[{ on := 29, ground := Ground.data }, { on := 24, ground := Ground.guard }], guard := some (24, true) }) rfl (by kernel_rfl) (by kernel_rfl) (by kernel_rfl) (by kernel_rfl) (fun _ _ _ h => h) (by rfl) hS0 ?_
                      (try simp only [Act.put, List.setIfInBounds_toArray, List.set_cons_zero, List.set_cons_succ])
                      refine G_skip (i := 31) (oi := { dst := some 148, op := Op.binOp BinOp.sub 3 (Operand.tmp 144) (Operand.tmp 147) 3, type := 3, pos := _, after := #[{ on := 27, ground := Ground.data }, { on := 30, ground := Ground.data }, { on := 24, ground := Ground.guard }], guard := some (24, true) }) rfl (by kernel_rfl) (by kernel_rfl) (by kernel_rfl) (by kernel_rfl) (fun _ _ _ h => h) (by rfl) hS0 ?_
                      (try simp only [Act.put, List.setIfInBounds_toArray, List.set_cons_zero, List.set_cons_succ])
                      refine G_skip (i := 32) (oi := { dst := some 149, op := Op.indexAddr 23 (Operand.tmp 143) (Operand.tmp 148), type := 0, pos := _, after := #[{ on := 26, ground := Ground.data }, { on := 31, ground := Ground.data }, { on := 24, ground := Ground.guard }], guard := some (24, true) }) rfl (by kernel_rfl) (by kernel_rfl) (by kernel_rfl) (by kernel_rfl) (fun _ _ _ h => h) (by rfl) hS0 ?_
                      (try simp only [Act.put, List.setIfInBounds_toArray, List.set_cons_zero, List.set_cons_succ])
                      refine G_skip (i := 33) (oi := { dst := some 150, op := Op.load 22 (Operand.tmp 149), type := 22, pos := _, after := #[{ on := 32, ground := Ground.data }, { on := 24, ground := Ground.guard }], guard := some (24, true) }) rfl (by kernel_rfl) (by kernel_rfl) (by kernel_rfl) (by kernel_rfl) (fun _ _ _ h => h) (by rfl) hS0 ?_
                      (try simp only [Act.put, List.setIfInBounds_toArray, List.set_cons_zero, List.set_cons_succ])
                      refine G_skip (i := 34) (oi := { dst := some 151, op := Op.move (Operand.tmp 7), type := 87, pos := _, after := #[{ on := 24, ground := Ground.guard }], guard := some (24, true) }) rfl (by kernel_rfl) (by kernel_rfl) (by kernel_rfl) (by kernel_rfl) (fun _ _ _ h => h) (by rfl) hS0 ?_
                      (try simp only [Act.put, List.setIfInBounds_toArray, List.set_cons_zero, List.set_cons_succ])
                      refine G_skip (i := 35) (oi := { dst := some 152, op := Op.move (Operand.tmp 15), type := 3, pos := _, after := #[{ on := 24, ground := Ground.guard }], guard := some (24, true) }) rfl (by kernel_rfl) (by kernel_rfl) (by kernel_rfl) (by kernel_rfl) (fun _ _ _ h => h) (by rfl) hS0 ?_
                      (try simp only [Act.put, List.setIfInBounds_toArray, List.set_cons_zero, List.set_cons_succ])
                      refine G_skip (i := 36) (oi := { dst := some 153, op := Op.indexAddr 87 (Operand.tmp 151) (Operand.tmp 152), type := 0, pos := _, after := #[{ on := 34, ground := Ground.data }, { on := 35, ground := Ground.data }, { on := 24, ground := Ground.guard }], guard := some (24, true) }) rfl (by kernel_rfl) (by kernel_rfl) (by kernel_rfl) (by kernel_rfl) (fun _ _ _ h => h) (by rfl) hS0 ?_
                      (try simp only [Act.put, List.setIfInBounds_toArray, List.set_cons_zero, List.set_cons_succ])
                      refine G_skip (i := 37) (oi := { dst := some 154, op := Op.indexAddr 88 (Operand.tmp 153) (Operand.const (Value.int IntKind.i64 1)), type := 0, pos := _, after := #[{ on := 36, ground := Ground.data }, { on := 24, ground := Ground.guard }], guard := some (24, true) }) rfl (by kernel_rfl) (by kernel_rfl) (by kernel_rfl) (by kernel_rfl) (fun _ _ _ h => h) (by rfl) hS0 ?_
                      (try simp only [Act.put, List.setIfInBounds_toArray, List.set_cons_zero, List.set_cons_succ])
                      refine G_skip (i := 38) (oi := { dst := some 155, op := Op.load 3 (Operand.tmp 154), type := 3, pos := _, after := #[{ on := 37, ground := Ground.data }, { on := 24, ground := Ground.guard }], guard := some (24, true) }) rfl (by kernel_rfl) (by kernel_rfl) (by kernel_rfl) (by kernel_rfl) (fun _ _ _ h => h) (by rfl) hS0 ?_
                      (try simp only [Act.put, List.setIfInBounds_toArray, List.set_cons_zero, List.set_cons_succ])
                      refine G_skip (i := 39) (oi := { dst := some 156, op := Op.call { callee := Callee.value (Operand.func 54), args := #[Operand.tmp 150, Operand.tmp 155], argTypes := #[22, 3] }, type := 4, pos := _, after := #[{ on := 33, ground := Ground.data }, { on := 38, ground := Ground.data }, { on := 24, ground := Ground.chain }, { on := 24, ground := Ground.guard }], guard := some (24, true) }) rfl (by kernel_rfl) (by kernel_rfl) (by kernel_rfl) (by kernel_rfl) (fun _ _ _ h => h) (by rfl) hS0 ?_
                      (try simp only [Act.put, List.setIfInBounds_toArray, List.set_cons_zero, List.set_cons_succ])
                      refine G_skip (i := 40) (oi := { dst := some 157, op := Op.pick (Operand.tmp 141) (Operand.tmp 156) (Operand.const (Value.bool false)), type := 4, pos := _, after := #[{ on := 24, ground := Ground.data }, { on := 39, ground := Ground.data }, { on := 18, ground := Ground.guard }], guard := some (18, false) }) rfl (by kernel_rfl) (by kernel_rfl) (by kernel_rfl) (by kernel_rfl) (fun _ _ _ h => h) (by rfl) hS0 ?_
                      (try simp only [Act.put, List.setIfInBounds_toArray, List.set_cons_zero, List.set_cons_succ])
                      refine G_take (i := 41) (oi := { dst := some 158, op := Op.pick (Operand.tmp 135) (Operand.const (Value.bool true)) (Operand.tmp 157), type := 4, pos := _, after := #[{ on := 18, ground := Ground.data }, { on := 40, ground := Ground.data }], guard := none }) (v := .bool true) rfl (by kernel_rfl) (by kernel_rfl) (by kernel_rfl) (by kernel_rfl) (fun _ _ _ h => h) (by rfl) (fun u hu => ?_) hS0 ?_
                      · (try dsimp only at hu); go_simp
                      (try simp only [Act.put, List.setIfInBounds_toArray, List.set_cons_zero, List.set_cons_succ])
                      refine G_done (by kernel_rfl) ?_ _
                      (try dsimp only [Exit.then])
                      have HON : Hid (wr.drew.ownsRow u0.heap.size 3 1 (.slice g0 gn gc) gn (vals (cs (whN Pf j)))) := hid (by have h := (HJ.out.2).drew; rw [HGN.out] at h; exact h)
                      have HBB : Hid (Below u0.heap.size u0 wr.drew) := hid HJ.out.1.drew
                      have hds : wr.drew.heap.size = wr.heap.size := rfl
                      go_wp2_with (at_builtin; refine wpList_append_own_at _ rfl _ _ 22 rfl u0.heap.size 3 i0 (.int .i64 0) 1 8 Tryd.underlying22 HI.out.1 HI.out.2.1 HI.out.2.2.1 HI.out.2.2.2 rfl (by decide) _ _ _ rfl (HON.out.alloc _) ⟨wr.heap.size, 0, none⟩ 1 1 [.int .i64 (j : Nat)] rfl rfl (cell_one_new _ _ _) (ints_oneCell .i64 [(j : Int)]) (by unfold maxLen; omega) (by omega) (by simp; omega) ?_; intro v' w3 hown' hgrow hnil hloc; have G := hid (ints_grow HBB.out (Nat.le_refl _) (show wr.drew.ownsRow u0.heap.size 3 1 (.slice g0 gn gc) (cs (whN Pf j)).length (vals (cs (whN Pf j))) by rw [HGN.out]; exact HON.out) (by rw [HGN.out]; exact hown') hgrow); clear hown' hgrow hnil hloc)
                      go_roundw
                      case rel => exact ⟨j + 1, by omega, by go_num, hid ⟨G.out.1, by rw [HWt.out HPE.out, cs_snoc]; exact G.out.2.1⟩⟩
                      case measure => simp [intOf]; omega
                  · have hJK : (J - A.K) < B.K := by omega
                    obtain ⟨fb, fo, hfa, hfc⟩ := (HH.out.2.1.below HLW.out).fair
                    obtain ⟨ra, rc, hfk, hrow⟩ := hfc (J - A.K) hJK
                    have hrow2 := hrow.below (show Below wr.heap.size wr wr.drew from (Below.refl _ _).drew)
                    have hfa2 := hfa (by omega)
                    rw [hfa2] at t5
                    clear hfa2
                    obtain ⟨fq, hfq⟩ : ∃ fq, aFr B (J - A.K) py = fq := ⟨_, rfl⟩
                    have CI : Hid (Calls Tryd.prog 54 #[.slice ra (B.FL (J - A.K)) rc, .int .i64 ((py : Nat) : Int)] wr.drew fun e w' => e = .returned (.bool fq) ∧ w' = wr.drew) := hid (by
                      rw [← hfq]
                      exact conI ra (B.FL (J - A.K)) rc (B.FZ (J - A.K)) (py : Nat) wr.drew (HH.out.2.1.f47 (J - A.K) hJK) hrow2)
                    have HPE : Hid (Pf j = fq) := hid (by rw [HPJ.out, ← hfq]; unfold bFr; rw [if_neg hJA])
                    have ESB : Hid (IntKind.i64.wrap (((J : Nat) : Int) - ((A.K : Nat) : Int)) = ((J - A.K : Nat) : Int)) := hid (by rw [IntKind.wrap_i64]; omega)
                    have hJA2 : ¬ ((J : Nat) : Int) < ((A.K : Nat) : Int) := by omega
                    have hJA3 : ((A.K : Nat) : Int) ≤ ((J : Nat) : Int) := by omega
                    have hS0 : (fun z : World => z.cell? ⟨w.heap.size, 4, none⟩ = some (.slice A.fa A.K A.fc) ∧ z.cell? ⟨w.heap.size + 1, 4, none⟩ = some (.slice (some ⟨fb, fo, none⟩) B.K B.fc) ∧ z.cell? ⟨pb, j * 2, none⟩ = some (.int .i64 (px : Nat)) ∧ z.cell? ⟨pb, j * 2 + 1, none⟩ = some (.int .i64 (py : Nat)) ∧ z.cell? ⟨fb, fo + (J - A.K), none⟩ = some (.slice ra (B.FL (J - A.K)) rc)) wr.drew := ⟨t4, t5, x0, x1, hfk⟩
                    clear hfc hfk hrow hrow2 hfq hfa
                    cases fq
                    · go_wp2_with fail
                      refine G_region (fun z : World => z.cell? ⟨w.heap.size, 4, none⟩ = some (.slice A.fa A.K A.fc) ∧ z.cell? ⟨w.heap.size + 1, 4, none⟩ = some (.slice (some ⟨fb, fo, none⟩) B.K B.fc) ∧ z.cell? ⟨pb, j * 2, none⟩ = some (.int .i64 (px : Nat)) ∧ z.cell? ⟨pb, j * 2 + 1, none⟩ = some (.int .i64 (py : Nat)) ∧ z.cell? ⟨fb, fo + (J - A.K), none⟩ = some (.slice ra (B.FL (J - A.K)) rc)) (fun _ => false) (by kernel_rfl) hS0 (fun _ => ?_)
                      refine G_take (i := 0) (oi := { dst := some 117, op := Op.move (Operand.tmp 13), type := 3, pos := _, after := #[], guard := none }) (v := .int .i64 (J : Nat)) rfl (by kernel_rfl) (by kernel_rfl) (by kernel_rfl) (by kernel_rfl) (fun _ _ _ h => h) (by rfl) (fun u hu => ?_) hS0 ?_
                      · (try dsimp only at hu); go_simp
                      (try simp only [Act.put, List.setIfInBounds_toArray, List.set_cons_zero, List.set_cons_succ])
                      refine G_take (i := 1) (oi := { dst := some 118, op := Op.fieldAddr 26 (Operand.tmp 2) 4, type := 0, pos := _, after := #[], guard := none }) (v := .pointer (some ⟨w.heap.size, 4, none⟩)) rfl (by kernel_rfl) (by kernel_rfl) (by kernel_rfl) (by kernel_rfl) (fun _ _ _ h => h) (by rfl) (fun u hu => ?_) hS0 ?_
                      · (try dsimp only at hu); go_simp
                      (try simp only [Act.put, List.setIfInBounds_toArray, List.set_cons_zero, List.set_cons_succ])
                      refine G_take (i := 2) (oi := { dst := some 119, op := Op.load 23 (Operand.tmp 118), type := 23, pos := _, after := #[{ on := 1, ground := Ground.data }], guard := none }) (v := .slice A.fa A.K A.fc) rfl (by kernel_rfl) (by kernel_rfl) (by kernel_rfl) (by kernel_rfl) (fun _ _ _ h => h) (by rfl) (fun u hu => ?_) hS0 ?_
                      · (try dsimp only at hu); go_simp
                      (try simp only [Act.put, List.setIfInBounds_toArray, List.set_cons_zero, List.set_cons_succ])
                      refine G_take (i := 3) (oi := { dst := some 120, op := Op.call { callee := Callee.builtin Builtin.len, args := #[Operand.tmp 119], argTypes := #[23] }, type := 3, pos := _, after := #[{ on := 2, ground := Ground.data }], guard := none }) (v := .int .i64 (A.K : Nat)) rfl (by kernel_rfl) (by kernel_rfl) (by kernel_rfl) (by kernel_rfl) (fun _ _ _ h => h) (by rfl) (fun u hu => ?_) hS0 ?_
                      · (try dsimp only at hu); go_simp
                      (try simp only [Act.put, List.setIfInBounds_toArray, List.set_cons_zero, List.set_cons_succ])
                      refine G_take (i := 4) (oi := { dst := some 121, op := Op.binOp BinOp.lss 3 (Operand.tmp 117) (Operand.tmp 120) 3, type := 4, pos := _, after := #[{ on := 0, ground := Ground.data }, { on := 3, ground := Ground.data }], guard := none }) (v := .bool false) rfl (by kernel_rfl) (by kernel_rfl) (by kernel_rfl) (by kernel_rfl) (fun _ _ _ h => h) (by rfl) (fun u hu => ?_) hS0 ?_
                      · (try dsimp only at hu); go_simp
                      (try simp only [Act.put, List.setIfInBounds_toArray, List.set_cons_zero, List.set_cons_succ])
                      refine G_take (i := 5) (oi := { dst := some 122, op := Op.move (Operand.tmp 121), type := 4, pos := _, after := #[{ on := 4, ground := Ground.data }], guard := none }) (v := .bool false) rfl (by kernel_rfl) (by kernel_rfl) (by kernel_rfl) (by kernel_rfl) (fun _ _ _ h => h) (by rfl) (fun u hu => ?_) hS0 ?_
                      · (try dsimp only at hu); go_simp
                      (try simp only [Act.put, List.setIfInBounds_toArray, List.set_cons_zero, List.set_cons_succ])
                      refine G_skip (i := 6) (oi := { dst := some 123, op := Op.fieldAddr 26 (Operand.tmp 2) 4, type := 0, pos := _, after := #[{ on := 5, ground := Ground.guard }], guard := some (5, true) }) rfl (by kernel_rfl) (by kernel_rfl) (by kernel_rfl) (by kernel_rfl) (fun _ _ _ h => h) (by rfl) hS0 ?_
                      (try simp only [Act.put, List.setIfInBounds_toArray, List.set_cons_zero, List.set_cons_succ])
                      refine G_skip (i := 7) (oi := { dst := some 124, op := Op.load 23 (Operand.tmp 123), type := 23, pos := _, after := #[{ on := 6, ground := Ground.data }, { on := 5, ground := Ground.guard }], guard := some (5, true) }) rfl (by kernel_rfl) (by kernel_rfl) (by kernel_rfl) (by kernel_rfl) (fun _ _ _ h => h) (by rfl) hS0 ?_
                      (try simp only [Act.put, List.setIfInBounds_toArray, List.set_cons_zero, List.set_cons_succ])
                      refine G_skip (i := 8) (oi := { dst := some 125, op := Op.move (Operand.tmp 13), type := 3, pos := _, after := #[{ on := 5, ground := Ground.guard }], guard := some (5, true) }) rfl (by kernel_rfl) (by kernel_rfl) (by kernel_rfl) (by kernel_rfl) (fun _ _ _ h => h) (by rfl) hS0 ?_
                      (try simp only [Act.put, List.setIfInBounds_toArray, List.set_cons_zero, List.set_cons_succ])
                      refine G_skip (i := 9) (oi := { dst := some 126, op := Op.indexAddr 23 (Operand.tmp 124) (Operand.tmp 125), type := 0, pos := _, after := #[{ on := 7, ground := Ground.data }, { on := 8, ground := Ground.data }, { on := 5, ground := Ground.guard }], guard := some (5, true) }) rfl (by kernel_rfl) (by kernel_rfl) (by kernel_rfl) (by kernel_rfl) (fun _ _ _ h => h) (by rfl) hS0 ?_
                      (try simp only [Act.put, List.setIfInBounds_toArray, List.set_cons_zero, List.set_cons_succ])
                      refine G_skip (i := 10) (oi := { dst := some 127, op := Op.load 22 (Operand.tmp 126), type := 22, pos := _, after := #[{ on := 9, ground := Ground.data }, { on := 5, ground := Ground.guard }], guard := some (5, true) }) rfl (by kernel_rfl) (by kernel_rfl) (by kernel_rfl) (by kernel_rfl) (fun _ _ _ h => h) (by rfl) hS0 ?_
                      (try simp only [Act.put, List.setIfInBounds_toArray, List.set_cons_zero, List.set_cons_succ])
                      refine G_skip (i := 11) (oi := { dst := some 128, op := Op.move (Operand.tmp 7), type := 87, pos := _, after := #[{ on := 5, ground := Ground.guard }], guard := some (5, true) }) rfl (by kernel_rfl) (by kernel_rfl) (by kernel_rfl) (by kernel_rfl) (fun _ _ _ h => h) (by rfl) hS0 ?_
                      (try simp only [Act.put, List.setIfInBounds_toArray, List.set_cons_zero, List.set_cons_succ])
                      refine G_skip (i := 12) (oi := { dst := some 129, op := Op.move (Operand.tmp 15), type := 3, pos := _, after := #[{ on := 5, ground := Ground.guard }], guard := some (5, true) }) rfl (by kernel_rfl) (by kernel_rfl) (by kernel_rfl) (by kernel_rfl) (fun _ _ _ h => h) (by rfl) hS0 ?_
                      (try simp only [Act.put, List.setIfInBounds_toArray, List.set_cons_zero, List.set_cons_succ])
                      refine G_skip (i := 13) (oi := { dst := some 130, op := Op.indexAddr 87 (Operand.tmp 128) (Operand.tmp 129), type := 0, pos := _, after := #[{ on := 11, ground := Ground.data }, { on := 12, ground := Ground.data }, { on := 5, ground := Ground.guard }], guard := some (5, true) }) rfl (by kernel_rfl) (by kernel_rfl) (by kernel_rfl) (by kernel_rfl) (fun _ _ _ h => h) (by rfl) hS0 ?_
                      (try simp only [Act.put, List.setIfInBounds_toArray, List.set_cons_zero, List.set_cons_succ])
                      refine G_skip (i := 14) (oi := { dst := some 131, op := Op.indexAddr 88 (Operand.tmp 130) (Operand.const (Value.int IntKind.i64 0)), type := 0, pos := _, after := #[{ on := 13, ground := Ground.data }, { on := 5, ground := Ground.guard }], guard := some (5, true) }) rfl (by kernel_rfl) (by kernel_rfl) (by kernel_rfl) (by kernel_rfl) (fun _ _ _ h => h) (by rfl) hS0 ?_
                      (try simp only [Act.put, List.setIfInBounds_toArray, List.set_cons_zero, List.set_cons_succ])
                      refine G_skip (i := 15) (oi := { dst := some 132, op := Op.load 3 (Operand.tmp 131), type := 3, pos := _, after := #[{ on := 14, ground := Ground.data }, { on := 5, ground := Ground.guard }], guard := some (5, true) }) rfl (by kernel_rfl) (by kernel_rfl) (by kernel_rfl) (by kernel_rfl) (fun _ _ _ h => h) (by rfl) hS0 ?_
                      (try simp only [Act.put, List.setIfInBounds_toArray, List.set_cons_zero, List.set_cons_succ])
                      refine G_skip (i := 16) (oi := { dst := some 133, op := Op.call { callee := Callee.value (Operand.func 54), args := #[Operand.tmp 127, Operand.tmp 132], argTypes := #[22, 3] }, type := 4, pos := _, after := #[{ on := 10, ground := Ground.data }, { on := 15, ground := Ground.data }, { on := 5, ground := Ground.chain }, { on := 5, ground := Ground.guard }], guard := some (5, true) }) rfl (by kernel_rfl) (by kernel_rfl) (by kernel_rfl) (by kernel_rfl) (fun _ _ _ h => h) (by rfl) hS0 ?_
                      (try simp only [Act.put, List.setIfInBounds_toArray, List.set_cons_zero, List.set_cons_succ])
                      refine G_take (i := 17) (oi := { dst := some 134, op := Op.pick (Operand.tmp 122) (Operand.tmp 133) (Operand.const (Value.bool false)), type := 4, pos := _, after := #[{ on := 5, ground := Ground.data }, { on := 16, ground := Ground.data }], guard := none }) (v := .bool false) rfl (by kernel_rfl) (by kernel_rfl) (by kernel_rfl) (by kernel_rfl) (fun _ _ _ h => h) (by rfl) (fun u hu => ?_) hS0 ?_
                      · (try dsimp only at hu); go_simp
                      (try simp only [Act.put, List.setIfInBounds_toArray, List.set_cons_zero, List.set_cons_succ])
                      refine G_take (i := 18) (oi := { dst := some 135, op := Op.move (Operand.tmp 134), type := 4, pos := _, after := #[{ on := 17, ground := Ground.data }, { on := 16, ground := Ground.chain }], guard := none }) (v := .bool false) rfl (by kernel_rfl) (by kernel_rfl) (by kernel_rfl) (by kernel_rfl) (fun _ _ _ h => h) (by rfl) (fun u hu => ?_) hS0 ?_
                      · (try dsimp only at hu); go_simp
                      (try simp only [Act.put, List.setIfInBounds_toArray, List.set_cons_zero, List.set_cons_succ])
                      refine G_take (i := 19) (oi := { dst := some 136, op := Op.move (Operand.tmp 13), type := 3, pos := _, after := #[{ on := 18, ground := Ground.guard }], guard := some (18, false) }) (v := .int .i64 (J : Nat)) rfl (by kernel_rfl) (by kernel_rfl) (by kernel_rfl) (by kernel_rfl) (fun _ _ _ h => h) (by rfl) (fun u hu => ?_) hS0 ?_
                      · (try dsimp only at hu); go_simp
                      (try simp only [Act.put, List.setIfInBounds_toArray, List.set_cons_zero, List.set_cons_succ])
                      refine G_take (i := 20) (oi := { dst := some 137, op := Op.fieldAddr 26 (Operand.tmp 2) 4, type := 0, pos := _, after := #[{ on := 18, ground := Ground.guard }], guard := some (18, false) }) (v := .pointer (some ⟨w.heap.size, 4, none⟩)) rfl (by kernel_rfl) (by kernel_rfl) (by kernel_rfl) (by kernel_rfl) (fun _ _ _ h => h) (by rfl) (fun u hu => ?_) hS0 ?_
                      · (try dsimp only at hu); go_simp
                      (try simp only [Act.put, List.setIfInBounds_toArray, List.set_cons_zero, List.set_cons_succ])
                      refine G_take (i := 21) (oi := { dst := some 138, op := Op.load 23 (Operand.tmp 137), type := 23, pos := _, after := #[{ on := 20, ground := Ground.data }, { on := 18, ground := Ground.guard }], guard := some (18, false) }) (v := .slice A.fa A.K A.fc) rfl (by kernel_rfl) (by kernel_rfl) (by kernel_rfl) (by kernel_rfl) (fun _ _ _ h => h) (by rfl) (fun u hu => ?_) hS0 ?_
                      · (try dsimp only at hu); go_simp
                      (try simp only [Act.put, List.setIfInBounds_toArray, List.set_cons_zero, List.set_cons_succ])
                      refine G_take (i := 22) (oi := { dst := some 139, op := Op.call { callee := Callee.builtin Builtin.len, args := #[Operand.tmp 138], argTypes := #[23] }, type := 3, pos := _, after := #[{ on := 21, ground := Ground.data }, { on := 18, ground := Ground.guard }], guard := some (18, false) }) (v := .int .i64 (A.K : Nat)) rfl (by kernel_rfl) (by kernel_rfl) (by kernel_rfl) (by kernel_rfl) (fun _ _ _ h => h) (by rfl) (fun u hu => ?_) hS0 ?_
                      · (try dsimp only at hu); go_simp
                      (try simp only [Act.put, List.setIfInBounds_toArray, List.set_cons_zero, List.set_cons_succ])
                      refine G_take (i := 23) (oi := { dst := some 140, op := Op.binOp BinOp.geq 3 (Operand.tmp 136) (Operand.tmp 139) 3, type := 4, pos := _, after := #[{ on := 19, ground := Ground.data }, { on := 22, ground := Ground.data }, { on := 18, ground := Ground.guard }], guard := some (18, false) }) (v := .bool true) rfl (by kernel_rfl) (by kernel_rfl) (by kernel_rfl) (by kernel_rfl) (fun _ _ _ h => h) (by rfl) (fun u hu => ?_) hS0 ?_
                      · (try dsimp only at hu); go_simp
                      (try simp only [Act.put, List.setIfInBounds_toArray, List.set_cons_zero, List.set_cons_succ])
                      refine G_take (i := 24) (oi := { dst := some 141, op := Op.move (Operand.tmp 140), type := 4, pos := _, after := #[{ on := 23, ground := Ground.data }, { on := 18, ground := Ground.chain }, { on := 18, ground := Ground.guard }], guard := some (18, false) }) (v := .bool true) rfl (by kernel_rfl) (by kernel_rfl) (by kernel_rfl) (by kernel_rfl) (fun _ _ _ h => h) (by rfl) (fun u hu => ?_) hS0 ?_
                      · (try dsimp only at hu); go_simp
                      (try simp only [Act.put, List.setIfInBounds_toArray, List.set_cons_zero, List.set_cons_succ])
                      refine G_take (i := 25) (oi := { dst := some 142, op := Op.fieldAddr 26 (Operand.tmp 3) 4, type := 0, pos := _, after := #[{ on := 24, ground := Ground.guard }], guard := some (24, true) }) (v := .pointer (some ⟨w.heap.size + 1, 4, none⟩)) rfl (by kernel_rfl) (by kernel_rfl) (by kernel_rfl) (by kernel_rfl) (fun _ _ _ h => h) (by rfl) (fun u hu => ?_) hS0 ?_
                      · (try dsimp only at hu); go_simp
                      (try simp only [Act.put, List.setIfInBounds_toArray, List.set_cons_zero, List.set_cons_succ])
                      refine G_take (i := 26) (oi := { dst := some 143, op := Op.load 23 (Operand.tmp 142), type := 23, pos := _, after := #[{ on := 25, ground := Ground.data }, { on := 24, ground := Ground.guard }], guard := some (24, true) }) (v := .slice (some ⟨fb, fo, none⟩) B.K B.fc) rfl (by kernel_rfl) (by kernel_rfl) (by kernel_rfl) (by kernel_rfl) (fun _ _ _ h => h) (by rfl) (fun u hu => ?_) hS0 ?_
                      · (try dsimp only at hu); go_simp
                      (try simp only [Act.put, List.setIfInBounds_toArray, List.set_cons_zero, List.set_cons_succ])
                      refine G_take (i := 27) (oi := { dst := some 144, op := Op.move (Operand.tmp 13), type := 3, pos := _, after := #[{ on := 24, ground := Ground.guard }], guard := some (24, true) }) (v := .int .i64 (J : Nat)) rfl (by kernel_rfl) (by kernel_rfl) (by kernel_rfl) (by kernel_rfl) (fun _ _ _ h => h) (by rfl) (fun u hu => ?_) hS0 ?_
                      · (try dsimp only at hu); go_simp
                      (try simp only [Act.put, List.setIfInBounds_toArray, List.set_cons_zero, List.set_cons_succ])
                      refine G_take (i := 28) (oi := { dst := some 145, op := Op.fieldAddr 26 (Operand.tmp 2) 4, type := 0, pos := _, after := #[{ on := 24, ground := Ground.guard }], guard := some (24, true) }) (v := .pointer (some ⟨w.heap.size, 4, none⟩)) rfl (by kernel_rfl) (by kernel_rfl) (by kernel_rfl) (by kernel_rfl) (fun _ _ _ h => h) (by rfl) (fun u hu => ?_) hS0 ?_
                      · (try dsimp only at hu); go_simp
                      (try simp only [Act.put, List.setIfInBounds_toArray, List.set_cons_zero, List.set_cons_succ])
                      refine G_take (i := 29) (oi := { dst := some 146, op := Op.load 23 (Operand.tmp 145), type := 23, pos := _, after := #[{ on := 28, ground := Ground.data }, { on := 24, ground := Ground.guard }], guard := some (24, true) }) (v := .slice A.fa A.K A.fc) rfl (by kernel_rfl) (by kernel_rfl) (by kernel_rfl) (by kernel_rfl) (fun _ _ _ h => h) (by rfl) (fun u hu => ?_) hS0 ?_
                      · (try dsimp only at hu); go_simp
                      (try simp only [Act.put, List.setIfInBounds_toArray, List.set_cons_zero, List.set_cons_succ])
                      refine G_take (i := 30) (oi := { dst := some 147, op := Op.call { callee := Callee.builtin Builtin.len, args := #[Operand.tmp 146], argTypes := #[23] }, type := 3, pos := _, after := #[{ on := 29, ground := Ground.data }, { on := 24, ground := Ground.guard }], guard := some (24, true) }) (v := .int .i64 (A.K : Nat)) rfl (by kernel_rfl) (by kernel_rfl) (by kernel_rfl) (by kernel_rfl) (fun _ _ _ h => h) (by rfl) (fun u hu => ?_) hS0 ?_
                      · (try dsimp only at hu); go_simp
                      (try simp only [Act.put, List.setIfInBounds_toArray, List.set_cons_zero, List.set_cons_succ])
                      refine G_take (i := 31) (oi := { dst := some 148, op := Op.binOp BinOp.sub 3 (Operand.tmp 144) (Operand.tmp 147) 3, type := 3, pos := _, after := #[{ on := 27, ground := Ground.data }, { on := 30, ground := Ground.data }, { on := 24, ground := Ground.guard }], guard := some (24, true) }) (v := .int .i64 (((J - A.K : Nat)) : Int)) rfl (by kernel_rfl) (by kernel_rfl) (by kernel_rfl) (by kernel_rfl) (fun _ _ _ h => h) (by rfl) (fun u hu => ?_) hS0 ?_
                      · (try dsimp only at hu); go_simp; rw [ESB.out]
                      (try simp only [Act.put, List.setIfInBounds_toArray, List.set_cons_zero, List.set_cons_succ])
                      refine G_take (i := 32) (oi := { dst := some 149, op := Op.indexAddr 23 (Operand.tmp 143) (Operand.tmp 148), type := 0, pos := _, after := #[{ on := 26, ground := Ground.data }, { on := 31, ground := Ground.data }, { on := 24, ground := Ground.guard }], guard := some (24, true) }) (v := .pointer (some ⟨fb, fo + (J - A.K), none⟩)) rfl (by kernel_rfl) (by kernel_rfl) (by kernel_rfl) (by kernel_rfl) (fun _ _ _ h => h) (by rfl) (fun u hu => ?_) hS0 ?_
                      · (try dsimp only at hu); go_simp
                      (try simp only [Act.put, List.setIfInBounds_toArray, List.set_cons_zero, List.set_cons_succ])
                      refine G_take (i := 33) (oi := { dst := some 150, op := Op.load 22 (Operand.tmp 149), type := 22, pos := _, after := #[{ on := 32, ground := Ground.data }, { on := 24, ground := Ground.guard }], guard := some (24, true) }) (v := .slice ra (B.FL (J - A.K)) rc) rfl (by kernel_rfl) (by kernel_rfl) (by kernel_rfl) (by kernel_rfl) (fun _ _ _ h => h) (by rfl) (fun u hu => ?_) hS0 ?_
                      · (try dsimp only at hu); go_simp
                      (try simp only [Act.put, List.setIfInBounds_toArray, List.set_cons_zero, List.set_cons_succ])
                      refine G_take (i := 34) (oi := { dst := some 151, op := Op.move (Operand.tmp 7), type := 87, pos := _, after := #[{ on := 24, ground := Ground.guard }], guard := some (24, true) }) (v := .slice (some ⟨pb, 0, none⟩) k pc) rfl (by kernel_rfl) (by kernel_rfl) (by kernel_rfl) (by kernel_rfl) (fun _ _ _ h => h) (by rfl) (fun u hu => ?_) hS0 ?_
                      · (try dsimp only at hu); go_simp
                      (try simp only [Act.put, List.setIfInBounds_toArray, List.set_cons_zero, List.set_cons_succ])
                      refine G_take (i := 35) (oi := { dst := some 152, op := Op.move (Operand.tmp 15), type := 3, pos := _, after := #[{ on := 24, ground := Ground.guard }], guard := some (24, true) }) (v := .int .i64 (j : Nat)) rfl (by kernel_rfl) (by kernel_rfl) (by kernel_rfl) (by kernel_rfl) (fun _ _ _ h => h) (by rfl) (fun u hu => ?_) hS0 ?_
                      · (try dsimp only at hu); go_simp
                      (try simp only [Act.put, List.setIfInBounds_toArray, List.set_cons_zero, List.set_cons_succ])
                      refine G_take (i := 36) (oi := { dst := some 153, op := Op.indexAddr 87 (Operand.tmp 151) (Operand.tmp 152), type := 0, pos := _, after := #[{ on := 34, ground := Ground.data }, { on := 35, ground := Ground.data }, { on := 24, ground := Ground.guard }], guard := some (24, true) }) (v := .pointer (some ⟨pb, j * 2, none⟩)) rfl (by kernel_rfl) (by kernel_rfl) (by kernel_rfl) (by kernel_rfl) (fun _ _ _ h => h) (by rfl) (fun u hu => ?_) hS0 ?_
                      · (try dsimp only at hu); go_simp
                      (try simp only [Act.put, List.setIfInBounds_toArray, List.set_cons_zero, List.set_cons_succ])
                      refine G_take (i := 37) (oi := { dst := some 154, op := Op.indexAddr 88 (Operand.tmp 153) (Operand.const (Value.int IntKind.i64 1)), type := 0, pos := _, after := #[{ on := 36, ground := Ground.data }, { on := 24, ground := Ground.guard }], guard := some (24, true) }) (v := .pointer (some ⟨pb, j * 2 + 1, none⟩)) rfl (by kernel_rfl) (by kernel_rfl) (by kernel_rfl) (by kernel_rfl) (fun _ _ _ h => h) (by rfl) (fun u hu => ?_) hS0 ?_
                      · (try dsimp only at hu); go_simp
                      (try simp only [Act.put, List.setIfInBounds_toArray, List.set_cons_zero, List.set_cons_succ])
                      refine G_take (i := 38) (oi := { dst := some 155, op := Op.load 3 (Operand.tmp 154), type := 3, pos := _, after := #[{ on := 37, ground := Ground.data }, { on := 24, ground := Ground.guard }], guard := some (24, true) }) (v := .int .i64 (py : Nat)) rfl (by kernel_rfl) (by kernel_rfl) (by kernel_rfl) (by kernel_rfl) (fun _ _ _ h => h) (by rfl) (fun u hu => ?_) hS0 ?_
                      · (try dsimp only at hu); go_simp
                      (try simp only [Act.put, List.setIfInBounds_toArray, List.set_cons_zero, List.set_cons_succ])
                      refine G_step (i := 39) (o := { dst := some 156, op := Op.call { callee := Callee.value (Operand.func 54), args := #[Operand.tmp 150, Operand.tmp 155], argTypes := #[22, 3] }, type := 4, pos := _, after := #[{ on := 33, ground := Ground.data }, { on := 38, ground := Ground.data }, { on := 24, ground := Ground.chain }, { on := 24, ground := Ground.guard }], guard := some (24, true) }) (by kernel_rfl) rfl (fun K' hK => ?_)
                      go_simp
                      refine CI.out.mono ?_
                      rintro e z1 ⟨rfl, hq⟩
                      obtain rfl := hq.symm
                      dsimp only
                      refine hK.out _ _ (fun _ => hS0) (fun _ => ?_)
                      (try simp only [Act.put, List.setIfInBounds_toArray, List.set_cons_zero, List.set_cons_succ])
                      refine G_take (i := 40) (oi := { dst := some 157, op := Op.pick (Operand.tmp 141) (Operand.tmp 156) (Operand.const (Value.bool false)), type := 4, pos := _, after := #[{ on := 24, ground := Ground.data }, { on := 39, ground := Ground.data }, { on := 18, ground := Ground.guard }], guard := some (18, false) }) (v := .bool false) rfl (by kernel_rfl) (by kernel_rfl) (by kernel_rfl) (by kernel_rfl) (fun _ _ _ h => h) (by rfl) (fun u hu => ?_) hS0 ?_
                      · (try dsimp only at hu); go_simp
                      (try simp only [Act.put, List.setIfInBounds_toArray, List.set_cons_zero, List.set_cons_succ])
                      refine G_take (i := 41) (oi := { dst := some 158, op := Op.pick (Operand.tmp 135) (Operand.const (Value.bool true)) (Operand.tmp 157), type := 4, pos := _, after := #[{ on := 18, ground := Ground.data }, { on := 40, ground := Ground.data }], guard := none }) (v := .bool false) rfl (by kernel_rfl) (by kernel_rfl) (by kernel_rfl) (by kernel_rfl) (fun _ _ _ h => h) (by rfl) (fun u hu => ?_) hS0 ?_
                      · (try dsimp only at hu); go_simp
                      (try simp only [Act.put, List.setIfInBounds_toArray, List.set_cons_zero, List.set_cons_succ])
                      refine G_done (by kernel_rfl) ?_ _
                      (try dsimp only [Exit.then])
                      go_wp2
                      go_roundw
                      case rel => exact ⟨j + 1, by omega, by go_num, hid ⟨HJ.out.1.drew, by rw [HWf.out HPE.out]; have h := (HJ.out.2).drew; exact h⟩⟩
                      case measure => simp [intOf]; omega
                    · go_wp2_with fail
                      refine G_region (fun z : World => z.cell? ⟨w.heap.size, 4, none⟩ = some (.slice A.fa A.K A.fc) ∧ z.cell? ⟨w.heap.size + 1, 4, none⟩ = some (.slice (some ⟨fb, fo, none⟩) B.K B.fc) ∧ z.cell? ⟨pb, j * 2, none⟩ = some (.int .i64 (px : Nat)) ∧ z.cell? ⟨pb, j * 2 + 1, none⟩ = some (.int .i64 (py : Nat)) ∧ z.cell? ⟨fb, fo + (J - A.K), none⟩ = some (.slice ra (B.FL (J - A.K)) rc)) (fun _ => false) (by kernel_rfl) hS0 (fun _ => ?_)
                      refine G_take (i := 0) (oi := { dst := some 117, op := Op.move (Operand.tmp 13), type := 3, pos := _, after := #[], guard := none }) (v := .int .i64 (J : Nat)) rfl (by kernel_rfl) (by kernel_rfl) (by kernel_rfl) (by kernel_rfl) (fun _ _ _ h => h) (by rfl) (fun u hu => ?_) hS0 ?_
                      · (try dsimp only at hu); go_simp
                      (try simp only [Act.put, List.setIfInBounds_toArray, List.set_cons_zero, List.set_cons_succ])
                      refine G_take (i := 1) (oi := { dst := some 118, op := Op.fieldAddr 26 (Operand.tmp 2) 4, type := 0, pos := _, after := #[], guard := none }) (v := .pointer (some ⟨w.heap.size, 4, none⟩)) rfl (by kernel_rfl) (by kernel_rfl) (by kernel_rfl) (by kernel_rfl) (fun _ _ _ h => h) (by rfl) (fun u hu => ?_) hS0 ?_
                      · (try dsimp only at hu); go_simp
                      (try simp only [Act.put, List.setIfInBounds_toArray, List.set_cons_zero, List.set_cons_succ])
                      refine G_take (i := 2) (oi := { dst := some 119, op := Op.load 23 (Operand.tmp 118), type := 23, pos := _, after := #[{ on := 1, ground := Ground.data }], guard := none }) (v := .slice A.fa A.K A.fc) rfl (by kernel_rfl) (by kernel_rfl) (by kernel_rfl) (by kernel_rfl) (fun _ _ _ h => h) (by rfl) (fun u hu => ?_) hS0 ?_
                      · (try dsimp only at hu); go_simp
                      (try simp only [Act.put, List.setIfInBounds_toArray, List.set_cons_zero, List.set_cons_succ])
                      refine G_take (i := 3) (oi := { dst := some 120, op := Op.call { callee := Callee.builtin Builtin.len, args := #[Operand.tmp 119], argTypes := #[23] }, type := 3, pos := _, after := #[{ on := 2, ground := Ground.data }], guard := none }) (v := .int .i64 (A.K : Nat)) rfl (by kernel_rfl) (by kernel_rfl) (by kernel_rfl) (by kernel_rfl) (fun _ _ _ h => h) (by rfl) (fun u hu => ?_) hS0 ?_
                      · (try dsimp only at hu); go_simp
                      (try simp only [Act.put, List.setIfInBounds_toArray, List.set_cons_zero, List.set_cons_succ])
                      refine G_take (i := 4) (oi := { dst := some 121, op := Op.binOp BinOp.lss 3 (Operand.tmp 117) (Operand.tmp 120) 3, type := 4, pos := _, after := #[{ on := 0, ground := Ground.data }, { on := 3, ground := Ground.data }], guard := none }) (v := .bool false) rfl (by kernel_rfl) (by kernel_rfl) (by kernel_rfl) (by kernel_rfl) (fun _ _ _ h => h) (by rfl) (fun u hu => ?_) hS0 ?_
                      · (try dsimp only at hu); go_simp
                      (try simp only [Act.put, List.setIfInBounds_toArray, List.set_cons_zero, List.set_cons_succ])
                      refine G_take (i := 5) (oi := { dst := some 122, op := Op.move (Operand.tmp 121), type := 4, pos := _, after := #[{ on := 4, ground := Ground.data }], guard := none }) (v := .bool false) rfl (by kernel_rfl) (by kernel_rfl) (by kernel_rfl) (by kernel_rfl) (fun _ _ _ h => h) (by rfl) (fun u hu => ?_) hS0 ?_
                      · (try dsimp only at hu); go_simp
                      (try simp only [Act.put, List.setIfInBounds_toArray, List.set_cons_zero, List.set_cons_succ])
                      refine G_skip (i := 6) (oi := { dst := some 123, op := Op.fieldAddr 26 (Operand.tmp 2) 4, type := 0, pos := _, after := #[{ on := 5, ground := Ground.guard }], guard := some (5, true) }) rfl (by kernel_rfl) (by kernel_rfl) (by kernel_rfl) (by kernel_rfl) (fun _ _ _ h => h) (by rfl) hS0 ?_
                      (try simp only [Act.put, List.setIfInBounds_toArray, List.set_cons_zero, List.set_cons_succ])
                      refine G_skip (i := 7) (oi := { dst := some 124, op := Op.load 23 (Operand.tmp 123), type := 23, pos := _, after := #[{ on := 6, ground := Ground.data }, { on := 5, ground := Ground.guard }], guard := some (5, true) }) rfl (by kernel_rfl) (by kernel_rfl) (by kernel_rfl) (by kernel_rfl) (fun _ _ _ h => h) (by rfl) hS0 ?_
                      (try simp only [Act.put, List.setIfInBounds_toArray, List.set_cons_zero, List.set_cons_succ])
                      refine G_skip (i := 8) (oi := { dst := some 125, op := Op.move (Operand.tmp 13), type := 3, pos := _, after := #[{ on := 5, ground := Ground.guard }], guard := some (5, true) }) rfl (by kernel_rfl) (by kernel_rfl) (by kernel_rfl) (by kernel_rfl) (fun _ _ _ h => h) (by rfl) hS0 ?_
                      (try simp only [Act.put, List.setIfInBounds_toArray, List.set_cons_zero, List.set_cons_succ])
                      refine G_skip (i := 9) (oi := { dst := some 126, op := Op.indexAddr 23 (Operand.tmp 124) (Operand.tmp 125), type := 0, pos := _, after := #[{ on := 7, ground := Ground.data }, { on := 8, ground := Ground.data }, { on := 5, ground := Ground.guard }], guard := some (5, true) }) rfl (by kernel_rfl) (by kernel_rfl) (by kernel_rfl) (by kernel_rfl) (fun _ _ _ h => h) (by rfl) hS0 ?_
                      (try simp only [Act.put, List.setIfInBounds_toArray, List.set_cons_zero, List.set_cons_succ])
                      refine G_skip (i := 10) (oi := { dst := some 127, op := Op.load 22 (Operand.tmp 126), type := 22, pos := _, after := #[{ on := 9, ground := Ground.data }, { on := 5, ground := Ground.guard }], guard := some (5, true) }) rfl (by kernel_rfl) (by kernel_rfl) (by kernel_rfl) (by kernel_rfl) (fun _ _ _ h => h) (by rfl) hS0 ?_
                      (try simp only [Act.put, List.setIfInBounds_toArray, List.set_cons_zero, List.set_cons_succ])
                      refine G_skip (i := 11) (oi := { dst := some 128, op := Op.move (Operand.tmp 7), type := 87, pos := _, after := #[{ on := 5, ground := Ground.guard }], guard := some (5, true) }) rfl (by kernel_rfl) (by kernel_rfl) (by kernel_rfl) (by kernel_rfl) (fun _ _ _ h => h) (by rfl) hS0 ?_
                      (try simp only [Act.put, List.setIfInBounds_toArray, List.set_cons_zero, List.set_cons_succ])
                      refine G_skip (i := 12) (oi := { dst := some 129, op := Op.move (Operand.tmp 15), type := 3, pos := _, after := #[{ on := 5, ground := Ground.guard }], guard := some (5, true) }) rfl (by kernel_rfl) (by kernel_rfl) (by kernel_rfl) (by kernel_rfl) (fun _ _ _ h => h) (by rfl) hS0 ?_
                      (try simp only [Act.put, List.setIfInBounds_toArray, List.set_cons_zero, List.set_cons_succ])
                      refine G_skip (i := 13) (oi := { dst := some 130, op := Op.indexAddr 87 (Operand.tmp 128) (Operand.tmp 129), type := 0, pos := _, after := #[{ on := 11, ground := Ground.data }, { on := 12, ground := Ground.data }, { on := 5, ground := Ground.guard }], guard := some (5, true) }) rfl (by kernel_rfl) (by kernel_rfl) (by kernel_rfl) (by kernel_rfl) (fun _ _ _ h => h) (by rfl) hS0 ?_
                      (try simp only [Act.put, List.setIfInBounds_toArray, List.set_cons_zero, List.set_cons_succ])
                      refine G_skip (i := 14) (oi := { dst := some 131, op := Op.indexAddr 88 (Operand.tmp 130) (Operand.const (Value.int IntKind.i64 0)), type := 0, pos := _, after := #[{ on := 13, ground := Ground.data }, { on := 5, ground := Ground.guard }], guard := some (5, true) }) rfl (by kernel_rfl) (by kernel_rfl) (by kernel_rfl) (by kernel_rfl) (fun _ _ _ h => h) (by rfl) hS0 ?_
                      (try simp only [Act.put, List.setIfInBounds_toArray, List.set_cons_zero, List.set_cons_succ])
                      refine G_skip (i := 15) (oi := { dst := some 132, op := Op.load 3 (Operand.tmp 131), type := 3, pos := _, after := #[{ on := 14, ground := Ground.data }, { on := 5, ground := Ground.guard }], guard := some (5, true) }) rfl (by kernel_rfl) (by kernel_rfl) (by kernel_rfl) (by kernel_rfl) (fun _ _ _ h => h) (by rfl) hS0 ?_
                      (try simp only [Act.put, List.setIfInBounds_toArray, List.set_cons_zero, List.set_cons_succ])
                      refine G_skip (i := 16) (oi := { dst := some 133, op := Op.call { callee := Callee.value (Operand.func 54), args := #[Operand.tmp 127, Operand.tmp 132], argTypes := #[22, 3] }, type := 4, pos := _, after := #[{ on := 10, ground := Ground.data }, { on := 15, ground := Ground.data }, { on := 5, ground := Ground.chain }, { on := 5, ground := Ground.guard }], guard := some (5, true) }) rfl (by kernel_rfl) (by kernel_rfl) (by kernel_rfl) (by kernel_rfl) (fun _ _ _ h => h) (by rfl) hS0 ?_
                      (try simp only [Act.put, List.setIfInBounds_toArray, List.set_cons_zero, List.set_cons_succ])
                      refine G_take (i := 17) (oi := { dst := some 134, op := Op.pick (Operand.tmp 122) (Operand.tmp 133) (Operand.const (Value.bool false)), type := 4, pos := _, after := #[{ on := 5, ground := Ground.data }, { on := 16, ground := Ground.data }], guard := none }) (v := .bool false) rfl (by kernel_rfl) (by kernel_rfl) (by kernel_rfl) (by kernel_rfl) (fun _ _ _ h => h) (by rfl) (fun u hu => ?_) hS0 ?_
                      · (try dsimp only at hu); go_simp
                      (try simp only [Act.put, List.setIfInBounds_toArray, List.set_cons_zero, List.set_cons_succ])
                      refine G_take (i := 18) (oi := { dst := some 135, op := Op.move (Operand.tmp 134), type := 4, pos := _, after := #[{ on := 17, ground := Ground.data }, { on := 16, ground := Ground.chain }], guard := none }) (v := .bool false) rfl (by kernel_rfl) (by kernel_rfl) (by kernel_rfl) (by kernel_rfl) (fun _ _ _ h => h) (by rfl) (fun u hu => ?_) hS0 ?_
                      · (try dsimp only at hu); go_simp
                      (try simp only [Act.put, List.setIfInBounds_toArray, List.set_cons_zero, List.set_cons_succ])
                      refine G_take (i := 19) (oi := { dst := some 136, op := Op.move (Operand.tmp 13), type := 3, pos := _, after := #[{ on := 18, ground := Ground.guard }], guard := some (18, false) }) (v := .int .i64 (J : Nat)) rfl (by kernel_rfl) (by kernel_rfl) (by kernel_rfl) (by kernel_rfl) (fun _ _ _ h => h) (by rfl) (fun u hu => ?_) hS0 ?_
                      · (try dsimp only at hu); go_simp
                      (try simp only [Act.put, List.setIfInBounds_toArray, List.set_cons_zero, List.set_cons_succ])
                      refine G_take (i := 20) (oi := { dst := some 137, op := Op.fieldAddr 26 (Operand.tmp 2) 4, type := 0, pos := _, after := #[{ on := 18, ground := Ground.guard }], guard := some (18, false) }) (v := .pointer (some ⟨w.heap.size, 4, none⟩)) rfl (by kernel_rfl) (by kernel_rfl) (by kernel_rfl) (by kernel_rfl) (fun _ _ _ h => h) (by rfl) (fun u hu => ?_) hS0 ?_
                      · (try dsimp only at hu); go_simp
                      (try simp only [Act.put, List.setIfInBounds_toArray, List.set_cons_zero, List.set_cons_succ])
                      refine G_take (i := 21) (oi := { dst := some 138, op := Op.load 23 (Operand.tmp 137), type := 23, pos := _, after := #[{ on := 20, ground := Ground.data }, { on := 18, ground := Ground.guard }], guard := some (18, false) }) (v := .slice A.fa A.K A.fc) rfl (by kernel_rfl) (by kernel_rfl) (by kernel_rfl) (by kernel_rfl) (fun _ _ _ h => h) (by rfl) (fun u hu => ?_) hS0 ?_
                      · (try dsimp only at hu); go_simp
                      (try simp only [Act.put, List.setIfInBounds_toArray, List.set_cons_zero, List.set_cons_succ])
                      refine G_take (i := 22) (oi := { dst := some 139, op := Op.call { callee := Callee.builtin Builtin.len, args := #[Operand.tmp 138], argTypes := #[23] }, type := 3, pos := _, after := #[{ on := 21, ground := Ground.data }, { on := 18, ground := Ground.guard }], guard := some (18, false) }) (v := .int .i64 (A.K : Nat)) rfl (by kernel_rfl) (by kernel_rfl) (by kernel_rfl) (by kernel_rfl) (fun _ _ _ h => h) (by rfl) (fun u hu => ?_) hS0 ?_
                      · (try dsimp only at hu); go_simp
                      (try simp only [Act.put, List.setIfInBounds_toArray, List.set_cons_zero, List.set_cons_succ])
                      refine G_take (i := 23) (oi := { dst := some 140, op := Op.binOp BinOp.geq 3 (Operand.tmp 136) (Operand.tmp 139) 3, type := 4, pos := _, after := #[{ on := 19, ground := Ground.data }, { on := 22, ground := Ground.data }, { on := 18, ground := Ground.guard }], guard := some (18, false) }) (v := .bool true) rfl (by kernel_rfl) (by kernel_rfl) (by kernel_rfl) (by kernel_rfl) (fun _ _ _ h => h) (by rfl) (fun u hu => ?_) hS0 ?_
                      · (try dsimp only at hu); go_simp
                      (try simp only [Act.put, List.setIfInBounds_toArray, List.set_cons_zero, List.set_cons_succ])
                      refine G_take (i := 24) (oi := { dst := some 141, op := Op.move (Operand.tmp 140), type := 4, pos := _, after := #[{ on := 23, ground := Ground.data }, { on := 18, ground := Ground.chain }, { on := 18, ground := Ground.guard }], guard := some (18, false) }) (v := .bool true) rfl (by kernel_rfl) (by kernel_rfl) (by kernel_rfl) (by kernel_rfl) (fun _ _ _ h => h) (by rfl) (fun u hu => ?_) hS0 ?_
                      · (try dsimp only at hu); go_simp
                      (try simp only [Act.put, List.setIfInBounds_toArray, List.set_cons_zero, List.set_cons_succ])
                      refine G_take (i := 25) (oi := { dst := some 142, op := Op.fieldAddr 26 (Operand.tmp 3) 4, type := 0, pos := _, after := #[{ on := 24, ground := Ground.guard }], guard := some (24, true) }) (v := .pointer (some ⟨w.heap.size + 1, 4, none⟩)) rfl (by kernel_rfl) (by kernel_rfl) (by kernel_rfl) (by kernel_rfl) (fun _ _ _ h => h) (by rfl) (fun u hu => ?_) hS0 ?_
                      · (try dsimp only at hu); go_simp
                      (try simp only [Act.put, List.setIfInBounds_toArray, List.set_cons_zero, List.set_cons_succ])
                      refine G_take (i := 26) (oi := { dst := some 143, op := Op.load 23 (Operand.tmp 142), type := 23, pos := _, after := #[{ on := 25, ground := Ground.data }, { on := 24, ground := Ground.guard }], guard := some (24, true) }) (v := .slice (some ⟨fb, fo, none⟩) B.K B.fc) rfl (by kernel_rfl) (by kernel_rfl) (by kernel_rfl) (by kernel_rfl) (fun _ _ _ h => h) (by rfl) (fun u hu => ?_) hS0 ?_
                      · (try dsimp only at hu); go_simp
                      (try simp only [Act.put, List.setIfInBounds_toArray, List.set_cons_zero, List.set_cons_succ])
                      refine G_take (i := 27) (oi := { dst := some 144, op := Op.move (Operand.tmp 13), type := 3, pos := _, after := #[{ on := 24, ground := Ground.guard }], guard := some (24, true) }) (v := .int .i64 (J : Nat)) rfl (by kernel_rfl) (by kernel_rfl) (by kernel_rfl) (by kernel_rfl) (fun _ _ _ h => h) (by rfl) (fun u hu => ?_) hS0 ?_
                      · (try dsimp only at hu); go_simp
                      (try simp only [Act.put, List.setIfInBounds_toArray, List.set_cons_zero, List.set_cons_succ])
                      refine G_take (i := 28) (oi := { dst := some 145, op := Op.fieldAddr 26 (Operand.tmp 2) 4, type := 0, pos := _, after := #[{ on := 24, ground := Ground.guard }], guard := some (24, true) }) (v := .pointer (some ⟨w.heap.size, 4, none⟩)) rfl (by kernel_rfl) (by kernel_rfl) (by kernel_rfl) (by kernel_rfl) (fun _ _ _ h => h) (by rfl) (fun u hu => ?_) hS0 ?_
                      · (try dsimp only at hu); go_simp
                      (try simp only [Act.put, List.setIfInBounds_toArray, List.set_cons_zero, List.set_cons_succ])
                      refine G_take (i := 29) (oi := { dst := some 146, op := Op.load 23 (Operand.tmp 145), type := 23, pos := _, after := #[{ on := 28, ground := Ground.data }, { on := 24, ground := Ground.guard }], guard := some (24, true) }) (v := .slice A.fa A.K A.fc) rfl (by kernel_rfl) (by kernel_rfl) (by kernel_rfl) (by kernel_rfl) (fun _ _ _ h => h) (by rfl) (fun u hu => ?_) hS0 ?_
                      · (try dsimp only at hu); go_simp
                      (try simp only [Act.put, List.setIfInBounds_toArray, List.set_cons_zero, List.set_cons_succ])
                      refine G_take (i := 30) (oi := { dst := some 147, op := Op.call { callee := Callee.builtin Builtin.len, args := #[Operand.tmp 146], argTypes := #[23] }, type := 3, pos := _, after := #[{ on := 29, ground := Ground.data }, { on := 24, ground := Ground.guard }], guard := some (24, true) }) (v := .int .i64 (A.K : Nat)) rfl (by kernel_rfl) (by kernel_rfl) (by kernel_rfl) (by kernel_rfl) (fun _ _ _ h => h) (by rfl) (fun u hu => ?_) hS0 ?_
                      · (try dsimp only at hu); go_simp
                      (try simp only [Act.put, List.setIfInBounds_toArray, List.set_cons_zero, List.set_cons_succ])
                      refine G_take (i := 31) (oi := { dst := some 148, op := Op.binOp BinOp.sub 3 (Operand.tmp 144) (Operand.tmp 147) 3, type := 3, pos := _, after := #[{ on := 27, ground := Ground.data }, { on := 30, ground := Ground.data }, { on := 24, ground := Ground.guard }], guard := some (24, true) }) (v := .int .i64 (((J - A.K : Nat)) : Int)) rfl (by kernel_rfl) (by kernel_rfl) (by kernel_rfl) (by kernel_rfl) (fun _ _ _ h => h) (by rfl) (fun u hu => ?_) hS0 ?_
                      · (try dsimp only at hu); go_simp; rw [ESB.out]
                      (try simp only [Act.put, List.setIfInBounds_toArray, List.set_cons_zero, List.set_cons_succ])
                      refine G_take (i := 32) (oi := { dst := some 149, op := Op.indexAddr 23 (Operand.tmp 143) (Operand.tmp 148), type := 0, pos := _, after := #[{ on := 26, ground := Ground.data }, { on := 31, ground := Ground.data }, { on := 24, ground := Ground.guard }], guard := some (24, true) }) (v := .pointer (some ⟨fb, fo + (J - A.K), none⟩)) rfl (by kernel_rfl) (by kernel_rfl) (by kernel_rfl) (by kernel_rfl) (fun _ _ _ h => h) (by rfl) (fun u hu => ?_) hS0 ?_
                      · (try dsimp only at hu); go_simp
                      (try simp only [Act.put, List.setIfInBounds_toArray, List.set_cons_zero, List.set_cons_succ])
                      refine G_take (i := 33) (oi := { dst := some 150, op := Op.load 22 (Operand.tmp 149), type := 22, pos := _, after := #[{ on := 32, ground := Ground.data }, { on := 24, ground := Ground.guard }], guard := some (24, true) }) (v := .slice ra (B.FL (J - A.K)) rc) rfl (by kernel_rfl) (by kernel_rfl) (by kernel_rfl) (by kernel_rfl) (fun _ _ _ h => h) (by rfl) (fun u hu => ?_) hS0 ?_
                      · (try dsimp only at hu); go_simp
                      (try simp only [Act.put, List.setIfInBounds_toArray, List.set_cons_zero, List.set_cons_succ])
                      refine G_take (i := 34) (oi := { dst := some 151, op := Op.move (Operand.tmp 7), type := 87, pos := _, after := #[{ on := 24, ground := Ground.guard }], guard := some (24, true) }) (v := .slice (some ⟨pb, 0, none⟩) k pc) rfl (by kernel_rfl) (by kernel_rfl) (by kernel_rfl) (by kernel_rfl) (fun _ _ _ h => h) (by rfl) (fun u hu => ?_) hS0 ?_
                      · (try dsimp only at hu); go_simp
                      (try simp only [Act.put, List.setIfInBounds_toArray, List.set_cons_zero, List.set_cons_succ])
                      refine G_take (i := 35) (oi := { dst := some 152, op := Op.move (Operand.tmp 15), type := 3, pos := _, after := #[{ on := 24, ground := Ground.guard }], guard := some (24, true) }) (v := .int .i64 (j : Nat)) rfl (by kernel_rfl) (by kernel_rfl) (by kernel_rfl) (by kernel_rfl) (fun _ _ _ h => h) (by rfl) (fun u hu => ?_) hS0 ?_
                      · (try dsimp only at hu); go_simp
                      (try simp only [Act.put, List.setIfInBounds_toArray, List.set_cons_zero, List.set_cons_succ])
                      refine G_take (i := 36) (oi := { dst := some 153, op := Op.indexAddr 87 (Operand.tmp 151) (Operand.tmp 152), type := 0, pos := _, after := #[{ on := 34, ground := Ground.data }, { on := 35, ground := Ground.data }, { on := 24, ground := Ground.guard }], guard := some (24, true) }) (v := .pointer (some ⟨pb, j * 2, none⟩)) rfl (by kernel_rfl) (by kernel_rfl) (by kernel_rfl) (by kernel_rfl) (fun _ _ _ h => h) (by rfl) (fun u hu => ?_) hS0 ?_
                      · (try dsimp only at hu); go_simp
                      (try simp only [Act.put, List.setIfInBounds_toArray, List.set_cons_zero, List.set_cons_succ])
                      refine G_take (i := 37) (oi := { dst := some 154, op := Op.indexAddr 88 (Operand.tmp 153) (Operand.const (Value.int IntKind.i64 1)), type := 0, pos := _, after := #[{ on := 36, ground := Ground.data }, { on := 24, ground := Ground.guard }], guard := some (24, true) }) (v := .pointer (some ⟨pb, j * 2 + 1, none⟩)) rfl (by kernel_rfl) (by kernel_rfl) (by kernel_rfl) (by kernel_rfl) (fun _ _ _ h => h) (by rfl) (fun u hu => ?_) hS0 ?_
                      · (try dsimp only at hu); go_simp
                      (try simp only [Act.put, List.setIfInBounds_toArray, List.set_cons_zero, List.set_cons_succ])
                      refine G_take (i := 38) (oi := { dst := some 155, op := Op.load 3 (Operand.tmp 154), type := 3, pos := _, after := #[{ on := 37, ground := Ground.data }, { on := 24, ground := Ground.guard }], guard := some (24, true) }) (v := .int .i64 (py : Nat)) rfl (by kernel_rfl) (by kernel_rfl) (by kernel_rfl) (by kernel_rfl) (fun _ _ _ h => h) (by rfl) (fun u hu => ?_) hS0 ?_
                      · (try dsimp only at hu); go_simp
                      (try simp only [Act.put, List.setIfInBounds_toArray, List.set_cons_zero, List.set_cons_succ])
                      refine G_step (i := 39) (o := { dst := some 156, op := Op.call { callee := Callee.value (Operand.func 54), args := #[Operand.tmp 150, Operand.tmp 155], argTypes := #[22, 3] }, type := 4, pos := _, after := #[{ on := 33, ground := Ground.data }, { on := 38, ground := Ground.data }, { on := 24, ground := Ground.chain }, { on := 24, ground := Ground.guard }], guard := some (24, true) }) (by kernel_rfl) rfl (fun K' hK => ?_)
                      go_simp
                      refine CI.out.mono ?_
                      rintro e z1 ⟨rfl, hq⟩
                      obtain rfl := hq.symm
                      dsimp only
                      refine hK.out _ _ (fun _ => hS0) (fun _ => ?_)
                      (try simp only [Act.put, List.setIfInBounds_toArray, List.set_cons_zero, List.set_cons_succ])
                      refine G_take (i := 40) (oi := { dst := some 157, op := Op.pick (Operand.tmp 141) (Operand.tmp 156) (Operand.const (Value.bool false)), type := 4, pos := _, after := #[{ on := 24, ground := Ground.data }, { on := 39, ground := Ground.data }, { on := 18, ground := Ground.guard }], guard := some (18, false) }) (v := .bool true) rfl (by kernel_rfl) (by kernel_rfl) (by kernel_rfl) (by kernel_rfl) (fun _ _ _ h => h) (by rfl) (fun u hu => ?_) hS0 ?_
                      · (try dsimp only at hu); go_simp
                      (try simp only [Act.put, List.setIfInBounds_toArray, List.set_cons_zero, List.set_cons_succ])
                      refine G_take (i := 41) (oi := { dst := some 158, op := Op.pick (Operand.tmp 135) (Operand.const (Value.bool true)) (Operand.tmp 157), type := 4, pos := _, after := #[{ on := 18, ground := Ground.data }, { on := 40, ground := Ground.data }], guard := none }) (v := .bool true) rfl (by kernel_rfl) (by kernel_rfl) (by kernel_rfl) (by kernel_rfl) (fun _ _ _ h => h) (by rfl) (fun u hu => ?_) hS0 ?_
                      · (try dsimp only at hu); go_simp
                      (try simp only [Act.put, List.setIfInBounds_toArray, List.set_cons_zero, List.set_cons_succ])
                      refine G_done (by kernel_rfl) ?_ _
                      (try dsimp only [Exit.then])
                      have HON : Hid (wr.drew.ownsRow u0.heap.size 3 1 (.slice g0 gn gc) gn (vals (cs (whN Pf j)))) := hid (by have h := (HJ.out.2).drew; rw [HGN.out] at h; exact h)
                      have HBB : Hid (Below u0.heap.size u0 wr.drew) := hid HJ.out.1.drew
                      have hds : wr.drew.heap.size = wr.heap.size := rfl
                      go_wp2_with (at_builtin; refine wpList_append_own_at _ rfl _ _ 22 rfl u0.heap.size 3 i0 (.int .i64 0) 1 8 Tryd.underlying22 HI.out.1 HI.out.2.1 HI.out.2.2.1 HI.out.2.2.2 rfl (by decide) _ _ _ rfl (HON.out.alloc _) ⟨wr.heap.size, 0, none⟩ 1 1 [.int .i64 (j : Nat)] rfl rfl (cell_one_new _ _ _) (ints_oneCell .i64 [(j : Int)]) (by unfold maxLen; omega) (by omega) (by simp; omega) ?_; intro v' w3 hown' hgrow hnil hloc; have G := hid (ints_grow HBB.out (Nat.le_refl _) (show wr.drew.ownsRow u0.heap.size 3 1 (.slice g0 gn gc) (cs (whN Pf j)).length (vals (cs (whN Pf j))) by rw [HGN.out]; exact HON.out) (by rw [HGN.out]; exact hown') hgrow); clear hown' hgrow hnil hloc)
                      go_roundw
                      case rel => exact ⟨j + 1, by omega, by go_num, hid ⟨G.out.1, by rw [HWt.out HPE.out, cs_snoc]; exact G.out.2.1⟩⟩
                      case measure => simp [intOf]; omega
                · have HJE : Hid (j = k) := hid (by omega)
                  have HSET : Hid (wr.ownsRow z5.heap.size 3 1 (.slice g0 gn gc) (cs (bFS A B k J)).length (vals (cs (bFS A B k J)))) := hid (by
                    have h := owns_mono HJ.out.2 hzu
                    rw [HJE.out, ← HPF.out] at h
                    rw [hgn, HJE.out, ← HPF.out] at *
                    first | exact h | (unfold bFS; exact h))
                  have HLy := hid (HLx.out.below HJ.out.1)
                  have HOW : Hid ((wr.alloc (.cells #[.slice g0 gn gc] 22)).ownsRow z5.heap.size 22 1 (.slice g1 J g3) J V) := hid (HLy.out.r.top.alloc _)
                  have hc4 : wr.cell? ⟨b11, 4, none⟩ = some (.slice g1 J g3) := cell_of_cells HLy.out.l.aut rfl
                  have hzw : z5.heap.size ≤ wr.heap.size := HLy.out.l.fr.size
                  have hlt2 : J ≤ 80 := by omega
                  clear HJ
                  go_wp2_with (at_builtin; refine wpList_append_own_at _ rfl _ _ 23 rfl z5.heap.size 22 iv (.slice none 0 0) 1 24 Tryd.underlying23 HVV.out.1 HVV.out.2.1 HVV.out.2.2.1 HVV.out.2.2.2 rfl (by decide) _ _ _ rfl HOW.out ⟨wr.heap.size, 0, none⟩ 1 1 [.slice g0 gn gc] rfl rfl (cell_one_new _ _ _) (by simp [Value.oneCell']) (by unfold maxLen; omega) (by omega) (by simp; omega) ?_; intro v' w3 hown' hgrow hnil hloc; obtain ⟨va', vc', hve⟩ := owns_sl hown'; subst hve; obtain ⟨hs4, hfz, HL6⟩ := HLy.out.app (v := .slice g0 gn gc) HSET.out hown' hgrow; clear hown' hgrow hnil hloc)
                  go_roundw
                  case rel => exact ⟨J + 1, _, _, by omega, by go_num, HL6⟩
                  case measure => simp [intOf]; omega
            · have HJE : Hid (J = A.K + B.K) := hid (by omega)
              have hJt2 : ¬ ((J : Nat) : Int) < (A.K : Nat) + (B.K : Nat) := by omega
              have HLF3 := HLx
              rw [HJE.out] at HLF3
              have hBne : w.heap.size + 1 + 1 ≠ b11 := by have h1 := HSZ.out; omega
              have hres : wr.heap[w.heap.size + 1 + 1]? = some (.cells nil5 26) := (HLx.out.l.fr.block _ (Array.getElem?_eq_some_iff.1 HRE5.out).1 hBne).trans HRE5.out
              obtain ⟨⟨u0, u1, u2, u3, u4⟩, _⟩ := five_cells HLx.out.l.aut
              obtain ⟨⟨y0, y1, y2, y3, y4⟩, yf⟩ := five_cells hres
              have g0 := yf 0
              have gg1 := yf 1
              have gg2 := yf 2
              have gg3 := yf 3
              have gg4 := yf 4
              obtain ⟨X, hX⟩ : ∃ X, (((((wr.setCell ⟨w.heap.size + 1 + 1, 0, none⟩ (.slice sa1 sn1 sc1)).setCell ⟨w.heap.size + 1 + 1, 1, none⟩ (.slice na1 k nc1)).setCell ⟨w.heap.size + 1 + 1, 2, none⟩ (.slice m1 k c1)).setCell ⟨w.heap.size + 1 + 1, 3, none⟩ (.slice m2 k c2)).setCell ⟨w.heap.size + 1 + 1, 4, none⟩ (.slice g1 J g3)) = X := ⟨_, rfl⟩
              obtain ⟨hx5, hxb⟩ := set5 _ _ _ _ _ hres hX
              obtain ⟨⟨k0, k1, k2, k3, k4'⟩, _⟩ := five_cells hx5
              have HF : Hid (BoIs w A B (.returned (.tuple #[.agg #[.slice sa1 sn1 sc1, .slice na1 k nc1, .slice m1 k c1, .slice m2 k c2, .slice g1 J g3], .int .i64 0])) X) := hid (by
                rw [HJE.out]
                exact bo_end HH.out.2.2.1 HH.out.2.2.2.1 hK HL5.out (by have h1 := HSZ.out; omega) HAUT.out HLF3.out hres hxb (by omega) (by have h1 := HS3.out; omega) HSV.out HNV.out HMN.out.1 HMN.out.2 HG.out.1 HG.out.2.1)
              clear yf hxb hx5 hres HLF3
              go_wp2
              refine ⟨rfl, .tuple #[.agg #[.slice sa1 sn1 sc1, .slice na1 k nc1, .slice m1 k c1, .slice m2 k c2, .slice g1 J g3], .int .i64 0], by simp [results, Tryd.f15, go_sem, k0, k1, k2, k3, k4'], ?_⟩
              exact HF.out
  · clear hN C52
    have HB11 : Hid (Below w.heap.size w w11) := hid (HB3.out.trans (HG.out.2.mono HB3.out.size))
    have HRE11 : Hid (w11.heap[w.heap.size + 1 + 1]? = some (.cells nil5 26)) := hid ((HG.out.2.block _ (Array.getElem?_eq_some_iff.1 HRE3.out).1).trans HRE3.out)
    obtain ⟨⟨y0, y1, y2, y3, y4⟩, yf⟩ := five_cells HRE11.out
    have f0 := yf 0
    have f1 := yf 1
    have f2 := yf 2
    have f3 := yf 3
    have f4 := yf 4
    obtain ⟨X, hX⟩ : ∃ X, (((((w11.setCell ⟨w.heap.size + 1 + 1, 0, none⟩ (.slice none 0 0)).setCell ⟨w.heap.size + 1 + 1, 1, none⟩ (.slice none 0 0)).setCell ⟨w.heap.size + 1 + 1, 2, none⟩ (.slice none 0 0)).setCell ⟨w.heap.size + 1 + 1, 3, none⟩ (.slice none 0 0)).setCell ⟨w.heap.size + 1 + 1, 4, none⟩ (.slice none 0 0)) = X := ⟨_, rfl⟩
    obtain ⟨hx5, hxb⟩ := set5 _ _ _ _ _ HRE11.out hX
    obtain ⟨⟨k0, k1, k2, k3, k4⟩, _⟩ := five_cells hx5
    have HF : Hid (BoIs w A B (.returned (.tuple #[.agg nil5, .int .i64 2])) X) := hid (Or.inr (Or.inr (Or.inl ⟨HH.out.2.2.1, HH.out.2.2.2.1, Or.inr HG.out.1, rfl, HB11.out.trans (hxb.below (by omega) HB11.out.size)⟩)))
    clear yf hxb hx5
    go_wp2
    refine ⟨rfl, .tuple #[.agg nil5, .int .i64 2], by simp [results, Tryd.f15, go_sem, k0, k1, k2, k3, k4], ?_⟩
    exact HF.out
end Go.Proofs.YtdncjikmknkkpaaDoor

