/- The document's Accepts, walked. -/
import Derived.Test.YtdncjikmknkkpaaDoorRacP
import Derived.Test.YtdncjikmknkkpaaDoorCls
import Derived.Test.YtdncjikmknkkpaaDoorAcc
import Derived.Test.YtdncjikmknkkpaaDoorWyw
namespace Go.Proofs.YtdncjikmknkkpaaDoor
open Go.RowKit

theorem Fam.later {w wr wz : World} {G : Nat} {T : Nat → List Int} {V : Nat → Value} (h : Fam w wr G T V) (hb : Below wr.heap.size wr wz) : Fam w wz G T V :=
  ⟨h.below.trans (hb.mono (by have := h.size; omega)), h.top.of_block (hb.block _ h.top.lt), fun j hj => owns_below (h.own j hj) hb, h.apart⟩

theorem Tryd.info67 : (Tryd.prog.info? 67).map (fun i => (i.zero, i.size, i.bytes)) = some (some (.slice none 0 0), 1, 24) := by kernel_rfl

/-- Lists of bools while they are made: v is the list of the first k of them. -/
structure Sq (U wi : World) (v : Value) (k N : Nat) (sf : Nat → Nat → Bool) (bk : Nat → Nat) : Prop where
  below : Below U.heap.size U wi
  own : wi.ownsRow U.heap.size 67 1 v k ((List.range k).map (fun j => .slice (some ⟨bk j, 0, none⟩) N N))
  row : ∀ j, j < k → bk j < wi.heap.size ∧ wi.rowIs (bk j) 4 N (fun x => .bool (sf j x)) ∧ v.ownBlock ≠ some (bk j)

theorem Sq.later {U wi wz : World} {v : Value} {k N : Nat} {sf : Nat → Nat → Bool} {bk : Nat → Nat} (h : Sq U wi v k N sf bk) (hb : Below wi.heap.size wi wz) : Sq U wz v k N sf bk :=
  ⟨h.below.trans (hb.mono h.below.size), owns_below h.own hb, fun j hj => ⟨Nat.lt_of_lt_of_le (h.row j hj).1 hb.size, (h.row j hj).2.1.of_block (hb.block _ (h.row j hj).1), (h.row j hj).2.2⟩⟩

theorem Sq.sets {U wi : World} {v : Value} {k N : Nat} {sf : Nat → Nat → Bool} {bk : Nat → Nat} (h : Sq U wi v k N sf bk) : ∃ a c, v = .slice a k c ∧ Sets wi a k N sf := by
  rcases h.own.2 with ⟨rfl, h0⟩ | ⟨g, cap, cur, rfl, hb, hg, _⟩
  · subst h0
    exact ⟨none, 0, rfl, 0, 0, fun hh => absurd hh (Nat.lt_irrefl _), fun i hi => absurd hi (Nat.not_lt_zero _)⟩
  · refine ⟨some ⟨g, 0, none⟩, cap, rfl, g, 0, fun _ => rfl, fun i hi => ⟨some ⟨bk i, 0, none⟩, N, ?_, rowIs_rowB (h.row i hi).2.1⟩⟩
    have := h.own.cells (g := g) rfl i (.slice (some ⟨bk i, 0, none⟩) N N) (by simp [hi])
    rwa [addr_none] at this

theorem Sq.step {U wi wz w2 : World} {v v' : Value} {k N : Nat} {sf : Nat → Nat → Bool} {bk : Nat → Nat} {b : Nat} {o : Obj} (h : Sq U wi v k N sf bk) (hz : Below wi.heap.size wi wz) (hb : wi.heap.size ≤ b) (hbz : b < wz.heap.size) (hr : wz.rowIs b 4 N (fun x => .bool (sf k x)))
    (hown : w2.ownsRow U.heap.size 67 1 v' (k + 1) ((List.range k).map (fun j => .slice (some ⟨bk j, 0, none⟩) N N) ++ [.slice (some ⟨b, 0, none⟩) N N])) (hgrow : (wz.alloc o).grownBy w2 v.ownBlock)
    (hloc : v'.ownBlock = v.ownBlock ∨ v'.ownBlock = some (wz.alloc o).heap.size) : (∃ a c, v' = .slice a (k + 1) c) ∧ Hid (Sq U w2 v' (k + 1) N sf (fun j => if j = k then b else bk j)) := by
  have hg : wz.grownBy w2 v.ownBlock := (World.grownBy_alloc _ _ _).trans hgrow
  have hvlt : ∀ q, v.ownBlock = some q → U.heap.size ≤ q ∧ q < wi.heap.size := h.own.lt
  have hzs := h.below.size
  have hzi := hz.size
  refine ⟨?_, ⟨?_, ?_, fun j hj => ?_⟩⟩
  · rcases hown.2 with ⟨_, h0⟩ | ⟨g, cap, cur, rfl, _⟩
    · omega
    · exact ⟨_, _, rfl⟩
  · exact (h.below.trans (hz.mono hzs)).grown hg (by omega) (fun q hq => (hvlt q hq).1)
  · have e : (List.range (k + 1)).map (fun j => (Value.slice (some ⟨if j = k then b else bk j, 0, none⟩) N N)) = (List.range k).map (fun j => .slice (some ⟨bk j, 0, none⟩) N N) ++ [.slice (some ⟨b, 0, none⟩) N N] := by
      rw [List.range_succ, List.map_append]
      congr 1
      · apply List.map_congr_left
        intro j hj
        have := List.mem_range.1 hj
        rw [if_neg (by omega)]
      · simp
    show w2.ownsRow U.heap.size 67 1 v' (k + 1) ((List.range (k + 1)).map (fun j => (Value.slice (some ⟨if j = k then b else bk j, 0, none⟩) N N)))
    rw [e]; exact hown
  · have hnew : (wz.alloc o).heap.size = wz.heap.size + 1 := by simp
    by_cases e : j = k
    · subst e
      show (if j = j then b else bk j) < _ ∧ w2.rowIs (if j = j then b else bk j) 4 N _ ∧ v'.ownBlock ≠ some (if j = j then b else bk j)
      rw [if_pos rfl]
      refine ⟨Nat.lt_of_lt_of_le hbz hg.size, hr.of_block (hg.block _ hbz (fun ee => by have := hvlt _ ee.symm; omega)), fun ee => ?_⟩
      rcases hloc with hl | hl
      · rw [hl] at ee; have := hvlt _ ee; omega
      · rw [hl, hnew] at ee; have := Option.some.inj ee; omega
    · have hjk : j < k := by omega
      obtain ⟨h1, h2, h3⟩ := h.row j hjk
      show (if j = k then b else bk j) < _ ∧ w2.rowIs (if j = k then b else bk j) 4 N _ ∧ v'.ownBlock ≠ some (if j = k then b else bk j)
      rw [if_neg e]
      refine ⟨Nat.lt_of_lt_of_le h1 (Nat.le_trans hzi hg.size), (h2.of_block (hz.block _ h1)).of_block (hg.block _ (by omega) (fun ee => h3 ee.symm)), fun ee => ?_⟩
      rcases hloc with hl | hl
      · exact h3 (by rw [← hl]; exact ee)
      · rw [hl, hnew] at ee; have := Option.some.inj ee; omega

set_option maxRecDepth 100000 in
set_option maxHeartbeats 8000000 in
theorem rac_any (A : Ax) (wsa : Option Addr) (s wsc : Nat) (wla : Option Addr) (m wlc : Nat) (S' L' : Nat → Int) (w : World) (h : Aw w A) (hw : Wd w wsa s wla m S' L') (h0 : chkA A = 0) (h1 : wchk s m = 0) (hN : A.G * (s + m) ≤ 3000) (hL8 : ∀ r, r < A.G → A.L r * 8 ≤ 140737488355328) :
    Calls Tryd.prog 12 #[A.val, .agg #[.slice wsa s wsc, .slice wla m wlc]] w fun e w' => ∃ b, e = .returned (.bool b) ∧ (b = true ↔ (autA A).Acc (ltr s m S' L')) ∧ Below w.heap.size w w' := by
  obtain ⟨hG, hK80, hM, hO, hS, hZ, hFZ, hok⟩ := chkA_ok h0
  obtain ⟨hsm, hm0⟩ := wchk_ok h1
  obtain ⟨mm, hmm⟩ : ∃ mm, mm = s + m := ⟨_, rfl⟩
  rw [← hmm] at hN
  obtain ⟨N, hNN⟩ : ∃ N, N = A.G * mm := ⟨_, rfl⟩
  rw [← hNN] at hN
  have HACC := hid (rac_acc A s m S' L' hm0 mm N hmm hNN hZ)
  have hmk := run_make_row' (P := Tryd.prog) 23 22 (.slice none 0 0) 24 Tryd.underlying23 Tryd.info22 rfl .i64 .i64 N (by omega) (by omega)
  obtain ⟨i0, hi, hz0, hz1, hz2⟩ := info_parts Tryd.info3
  have HI : Hid (Tryd.prog.info? 3 = some i0 ∧ i0.zero = some (.int .i64 0) ∧ i0.size = 1 ∧ i0.bytes = 8) := ⟨hi, hz0, hz1, hz2⟩
  clear hi hz0 hz1 hz2
  obtain ⟨fit, hfit⟩ : ∃ fit, fit = fitA A s m S' L' := ⟨_, rfl⟩
  have C33 := hid (fun (q p : Nat) (hq : q < A.G) (z : World) (hz : Below w.heap.size w z) => (show Calls Tryd.prog 33 #[A.val, .int .i64 q, .int .u64 (ltr s m S' L' p)] z fun e w' => e = .returned (.bool (fit q p)) ∧ Below z.heap.size z w' from by
    obtain ⟨l1, l2⟩ := hw.lu64 hm0 p
    obtain ⟨l, hl⟩ : ∃ l : Nat, ltr s m S' L' p = l := ⟨(ltr s m S' L' p).toNat, by omega⟩
    have := letterRef_any A q l z (h.below hz) (by omega) (by omega) (by omega)
    rw [hfit]
    unfold fitA
    rw [hl]
    rw [Int.toNat_natCast]
    exact this))
  have C34 := hid (fun (p : Nat) (hp : p ≤ 1000) (z : World) (hz : Below w.heap.size w z) => atRef_any (sc := wsc) (lc := wlc) (hw.below hz) hsm hm0 p (by omega))
  have HFIT := hid hfit
  have H := hid h
  obtain ⟨W0, hW1, hb1, hs1, hbo, hc0, hc1⟩ := ac_world w A wsa s wsc wla m wlc
  obtain ⟨pn, hpn⟩ : ∃ pn, pn = pnx s m := ⟨_, rfl⟩
  have hpl : ∀ p, p < mm → pn p < mm := fun p hp => by rw [hpn]; unfold pnx; split <;> omega
  have HPL := hid hpl
  have hpe : ∀ p, pn p = if p + 1 < mm then p + 1 else s := fun p => by rw [hpn, hmm]; rfl
  have HPE := hid hpe
  have HPN := hid hpn
  rw [← hfit, ← hpn] at HACC
  have HS := hid hS
  have HZ := hid hZ
  have HFA0 := hid (fun r (hr : r < A.K) => allIn_yes (hFZ r hr))
  clear hok
  have HL8 := hid hL8
  have hk47 := h.k47
  have hs47 := h.s47
  have HL47 := hid h.l47
  have HF47 := hid h.f47
  have HB0 := hid hb1
  clear h hw hb1 hpl hpe hpn hfit h0 h1 hS hZ hL8
  obtain ⟨q0, q1, q2, q3, q4⟩ := hbo
  have e1 : (s : Int) + (m : Int) = (mm : Int) := by omega
  have e2 : (A.G : Int) * (mm : Int) = (N : Int) := by rw [hNN]; push_cast; rfl
  have hmm0 : 0 < mm := by omega
  have HNN := hid hNN
  have HMM := hid hmm
  have hmm60 : mm ≤ 60 := by omega
  have HMO := hid (And.intro hM hO)
  clear hM hO hNN hmm
  generalize hAA : A = AA at *
  obtain ⟨sa, sn, sc, na, G, nc, ma, M, mc, oa, O, oc, fa, K, fc, S, L, Z, Mu, No, FL, FZ⟩ := A
  subst hAA
  dsimp only [Ax.val] at *
  have k0 := fun z : Cls W0 => z.cell q0
  have k1 := fun z : Cls W0 => z.cell q1
  have k2 := fun z : Cls W0 => z.cell q2
  have k3 := fun z : Cls W0 => z.cell q3
  have k4 := fun z : Cls W0 => z.cell q4
  have k5 := fun z : Cls W0 => z.cell hc0
  have k6 := fun z : Cls W0 => z.cell hc1
  have _hne := cls_some W0
  clear q0 q1 q2 q3 q4 hc0 hc1
  go_enter Tryd.func12, Tryd.ntmps12
  go_wp2
  refine wp_region_cls (by kernel_rfl) (by kernel_rfl) ?_
  repeat (go_big_quiet_step (fail))
  refine wpQuiet_nil ?_
  rintro _ ⟨z, rfl⟩
  have q0 := k0 z
  have q1 := k1 z
  have q2 := k2 z
  have q3 := k3 z
  have q4 := k4 z
  have c0 := k5 z
  have c1 := k6 z
  have HB1 := hid (HB0.out.trans (z.h.mono HB0.out.size))
  have hs1' : w.heap.size + 2 ≤ z.u.heap.size := by have := z.h.size; omega
  generalize z.u = W1 at *
  clear k0 k1 k2 k3 k4 k5 k6 _hne HB0 hs1 hW1
  have HNX := hid (H.out.next.below HB1.out)
  have HFA := hid (H.out.fair.below HB1.out)
  have HST := hid (H.out.start.below HB1.out)
  obtain ⟨nb, no, hna, hnc⟩ := HNX.out
  have HNC := hid hnc
  clear hnc
  go_wp2
  clear hmk
  go_loopw [8] (fun iv wi => ∃ i : Nat, i ≤ mm ∧ iv = .int .i64 i ∧ ∃ V, Hid (Fam W1 wi N (gT mm fit pn L Z i 0 0) V)) (fun iv _ => mm - (intOf iv).toNat)
  case atStart => exact ⟨0, Nat.zero_le _, rfl, _, hid (fam_start W1 N _ (fun j _ => gT_start j))⟩
  case round =>
    obtain ⟨i, hi, rfl, V, HF⟩ := hrel
    by_cases hlt : i < mm
    · have r1 := below_cell HF.out.below (Nat.le_refl _) c0
      go_upto_if 43 with fail
      go_cut [9] from 41 to 47 (fun v wc => v = .int .i64 (pn i) ∧ wc = wr)
      case first =>
        by_cases g1 : i + 1 < mm
        · have g2 : (((i : Int) + 1) == (mm : Int)) = false := beq_eq_false_iff_ne.2 (by omega)
          go_wp2
          go_meet
          rw [HPE.out i, if_pos g1]
          exact ⟨by push_cast; rfl, rfl⟩
        · have g2 : (((i : Int) + 1) == (mm : Int)) = true := beq_iff_eq.2 (by omega)
          go_wp2
          go_meet
          rw [HPE.out i, if_neg g1]
          exact ⟨rfl, rfl⟩
      case rest =>
        obtain ⟨rfl, rfl⟩ := hcut
        have HF0 := HF
        have hpi := HPL.out i hlt
        clear r1 HF
        go_wp2
        go_loopw [10] (fun sv wi => ∃ sq : Nat, sq ≤ G ∧ sv = .int .i64 sq ∧ ∃ V, Hid (Fam W1 wi N (gT mm fit pn L Z i sq 0) V)) (fun sv _ => G - (intOf sv).toNat)
        case atStart => exact ⟨0, Nat.zero_le _, rfl, V, HF0⟩
        case round =>
          obtain ⟨sq, hsq, rfl, V1, HF⟩ := hrel
          by_cases hls : sq < G
          · obtain rfl := hna (by omega)
            have HF1 := HF
            have hL8 := HL8.out sq hls
            clear HF HF0
            obtain ⟨jj, hjj⟩ : ∃ jj, jj = sq * mm + i := ⟨_, rfl⟩
            have hjN : jj < N := by
              have h1 : (sq + 1) * mm ≤ G * mm := Nat.mul_le_mul_right _ (by omega)
              rw [Nat.add_mul] at h1
              have := HNN.out
              omega
            obtain ⟨sm, hsm1⟩ : ∃ sm, sm = sq * mm := ⟨_, rfl⟩
            have e3 : (sq : Int) * (mm : Int) = (sm : Int) := by rw [hsm1]; push_cast; rfl
            have e4 : (sm : Int) + (i : Int) = (jj : Int) := by omega
            have HJ := hid hjj
            clear hjj hsm1
            go_wp2
            go_loopw [11] (fun kv wi => ∃ k : Nat, k ≤ L sq ∧ kv = .int .i64 k ∧ ∃ V, Hid (Fam W1 wi N (gT mm fit pn L Z i sq k) V)) (fun kv _ => L sq - (intOf kv).toNat)
            case atStart => exact ⟨0, Nat.zero_le _, rfl, V1, HF1⟩
            case round =>
              obtain ⟨k, hk, rfl, V2, HF⟩ := hrel
              clear HF1
              have HB := hid HF.out.below
              have r0 := below_cell HB.out (Nat.le_refl _) q0
              have r1 := below_cell HB.out (Nat.le_refl _) q1
              have r2 := below_cell HB.out (Nat.le_refl _) q2
              have r3 := below_cell HB.out (Nat.le_refl _) q3
              have r4 := below_cell HB.out (Nat.le_refl _) q4
              have d0 := below_cell HB.out (Nat.le_refl _) c0
              have d1 := below_cell HB.out (Nat.le_refl _) c1
              obtain ⟨ka, kc, hck0, hrk0⟩ := HNC.out sq hls
              have hck := below_cell HB.out (Nat.le_refl _) hck0
              have HRK := hid hrk0
              have hsz : w.heap.size + 2 ≤ wr.heap.size := by have := HB.out.size; omega
              have HBw := hid (HB1.out.trans (HB.out.mono HB1.out.size))
              have D34 := hid (fun (z : Cls wr) => (C34.out i (by omega) z.u (HBw.out.trans (z.h.mono HBw.out.size))).mono fun _ w' ⟨he, hb⟩ => (show _ ∧ Below wr.heap.size wr w' from ⟨he, z.h.trans (hb.mono z.h.size)⟩))
              have D33 := hid (fun (z : Cls wr) => (C33.out sq i hls z.u (HBw.out.trans (z.h.mono HBw.out.size))).mono fun _ w' ⟨he, hb⟩ => (show _ ∧ Below wr.heap.size wr w' from ⟨he, z.h.trans (hb.mono z.h.size)⟩))
              have k0 := fun z : Cls wr => z.cell r0
              have k1 := fun z : Cls wr => z.cell r1
              have k2 := fun z : Cls wr => z.cell r2
              have k3 := fun z : Cls wr => z.cell r3
              have k4 := fun z : Cls wr => z.cell r4
              have k5 := fun z : Cls wr => z.cell d0
              have k6 := fun z : Cls wr => z.cell d1
              have k7 := fun z : Cls wr => z.cell hck
              have _hne := cls_some wr
              clear hck0 hrk0 r0 r1 r2 r3 r4 d0 d1 hck
              by_cases hkl : k < L sq
              · cases hf : fit sq i
                · have HF2 := hid (gT_next (L := L) (Z := Z) (mm := mm) (pn := pn) (fit := fit) (i := i) (sq := sq) (k := k) ((gk_no hf k).trans (gk_no hf _).symm))
                  rw [hf] at D33
                  clear hf
                  go_wp2
                  refine wp_region_cls (by kernel_rfl) (by kernel_rfl) ?_
                  repeat (go_big_quiet_step (first | exact Cls.calls (D34.out _) | exact Cls.calls (D33.out _)))
                  refine wpQuiet_nil ?_
                  rintro _ ⟨z, rfl⟩
                  have HFz := hid (HF.out.later z.h)
                  generalize z.u = w5 at *
                  clear k0 k1 k2 k3 k4 k5 k6 k7 D33 D34 _hne
                  go_wp2
                  go_roundw
                  case rel => exact ⟨sq + 1, by omega, by go_num, V2, hid (HFz.out.congr (fun j _ => HF2.out j))⟩
                  case measure => simp [intOf]; omega
                · have HFt := hid hf
                  rw [hf] at D33
                  clear hf
                  go_wp2
                  refine wp_region_cls (by kernel_rfl) (by kernel_rfl) ?_
                  repeat (go_big_quiet_step (first | exact Cls.calls (D34.out _) | exact Cls.calls (D33.out _)))
                  refine wpQuiet_nil ?_
                  rintro _ ⟨z, rfl⟩
                  have HFz := hid (HF.out.later z.h)
                  have r1 := k1 z
                  have hck := k7 z
                  obtain ⟨kb, ko, hka, hkc⟩ := HRK.out
                  obtain rfl := hka (by omega)
                  have hzt := HZ.out sq hls k hkl
                  obtain ⟨t, ht⟩ : ∃ t : Nat, Z sq k = t := ⟨(Z sq k).toNat, by omega⟩
                  have htG : t < G := by omega
                  have hct0 := below_cell HFz.out.below (Nat.le_refl _) (hkc k hkl)
                  rw [ht] at hct0
                  have HT := hid ht
                  generalize z.u = w5 at *
                  clear k0 k1 k2 k3 k4 k5 k6 k7 D33 D34 _hne hka hkc hzt ht HF
                  have HB5 := hid HFz.out.below
                  have r0 := below_cell HB5.out (Nat.le_refl _) q0
                  have r2 := below_cell HB5.out (Nat.le_refl _) q2
                  have r3 := below_cell HB5.out (Nat.le_refl _) q3
                  have r4 := below_cell HB5.out (Nat.le_refl _) q4
                  have d0 := below_cell HB5.out (Nat.le_refl _) c0
                  have d1 := below_cell HB5.out (Nat.le_refl _) c1
                  have hsz5 : w.heap.size + 2 ≤ w5.heap.size := by have := HB5.out.size; omega
                  have HBw5 := hid (HB1.out.trans (HB5.out.mono HB1.out.size))
                  have D34 := hid (fun (z : Cls w5) => (C34.out (pn i) (by omega) z.u (HBw5.out.trans (z.h.mono HBw5.out.size))).mono fun _ w' ⟨he, hb⟩ => (show _ ∧ Below w5.heap.size w5 w' from ⟨he, z.h.trans (hb.mono z.h.size)⟩))
                  have D33 := hid (fun (z : Cls w5) => (C33.out t (pn i) htG z.u (HBw5.out.trans (z.h.mono HBw5.out.size))).mono fun _ w' ⟨he, hb⟩ => (show _ ∧ Below w5.heap.size w5 w' from ⟨he, z.h.trans (hb.mono z.h.size)⟩))
                  have k0 := fun z : Cls w5 => z.cell r0
                  have k1 := fun z : Cls w5 => z.cell r1
                  have k2 := fun z : Cls w5 => z.cell r2
                  have k3 := fun z : Cls w5 => z.cell r3
                  have k4 := fun z : Cls w5 => z.cell r4
                  have k5 := fun z : Cls w5 => z.cell d0
                  have k6 := fun z : Cls w5 => z.cell d1
                  have _hne := cls_some w5
                  clear r0 r2 r3 r4 d0 d1
                  cases hf : fit t (pn i)
                  · have HF2 := hid (gT_skip (L := L) (Z := Z) (mm := mm) (pn := pn) (fit := fit) (i := i) (sq := sq) (k := k) (k' := k + 1) (gk_miss (by rw [HT.out, Int.toNat_natCast]; exact hf)))
                    rw [hf] at D33
                    clear hf
                    go_wp2
                    refine wp_region_cls (by kernel_rfl) (by kernel_rfl) ?_
                    repeat (go_big_quiet_step (first | exact Cls.calls (D34.out _) | exact Cls.calls (D33.out _)))
                    refine wpQuiet_nil ?_
                    rintro _ ⟨z, rfl⟩
                    have HFy := hid (HFz.out.later z.h)
                    generalize z.u = w6 at *
                    clear k0 k1 k2 k3 k4 k5 k6 D33 D34 _hne
                    go_wp2
                    go_roundw
                    case rel => exact ⟨k + 1, by omega, by go_num, V2, hid (HFy.out.congr (fun j _ => HF2.out j))⟩
                    case measure => simp [intOf]; omega
                  · have hhit := gk_hit (mm := mm) (Z := Z) HFt.out (k := k) (by rw [HT.out, Int.toNat_natCast]; exact hf)
                    rw [HT.out] at hhit
                    obtain ⟨tm, htm⟩ : ∃ tm, tm = t * mm := ⟨_, rfl⟩
                    have e5 : (t : Int) * (mm : Int) = (tm : Int) := by rw [htm]; push_cast; rfl
                    have htm2 : tm ≤ 3000 := by
                      have h1 : t * mm ≤ G * mm := Nat.mul_le_mul_right _ (by omega)
                      have := HNN.out
                      omega
                    obtain ⟨xx, hxx⟩ : ∃ xx, xx = tm + pn i := ⟨_, rfl⟩
                    have e6 : (tm : Int) + (pn i : Int) = (xx : Int) := by omega
                    rw [e5, e6] at hhit
                    have HF2 := hid (gT_add (L := L) hlt hhit)
                    have hlen := gk_le (mm := mm) (fit := fit) (pn := pn) (Z := Z) sq i k
                    have hglen : (gT mm fit pn L Z i sq k jj).length ≤ k := by rw [HJ.out, gT_at sq k hlt]; exact hlen
                    rw [hf] at D33
                    clear hf htm hxx hhit hlen
                    go_wp2
                    refine wp_region_cls (by kernel_rfl) (by kernel_rfl) ?_
                    repeat (go_big_quiet_step (first | exact Cls.calls (D34.out _) | exact Cls.calls (D33.out _)))
                    refine wpQuiet_nil ?_
                    rintro _ ⟨z, rfl⟩
                    have HFy := hid (HFz.out.later z.h)
                    generalize z.u = w6 at *
                    clear k0 k1 k2 k3 k4 k5 k6 D33 D34 _hne r1 hck hct0
                    obtain ⟨a2, c2, hv, _⟩ := owns_row (HFy.out.own jj hjN)
                    have hown := HFy.out.own jj hjN
                    have htop := HFy.out.top.cell hjN
                    rw [hv] at hown htop
                    have HV := hid hv
                    have HO := hid hown
                    have hsize := HFy.out.size
                    clear hv hown
                    generalize hn : (gT mm fit pn L Z i sq k jj).length = n at *
                    have HNl := hid hn
                    clear hn
                    go_wp2_with (at_builtin; refine wpList_append_own_at _ rfl _ _ 22 rfl (W1.heap.size + 1) 3 i0 (.int .i64 0) 1 8 Tryd.underlying22 HI.out.1 HI.out.2.1 HI.out.2.2.1 HI.out.2.2.2 rfl (by decide) _ _ _ rfl (HO.out.alloc _) ⟨w6.heap.size, 0, none⟩ 1 1 [.int .i64 xx] rfl rfl (cell_one_new _ _ _) (ints_oneCell .i64 [(xx : Int)]) (by unfold maxLen; omega) (by omega) (by simp; omega) ?_; intro v' w2 hown' hgrow hnil hloc; obtain ⟨⟨a3, c3, rfl⟩, g1, g2, G3⟩ := Fam.step' HFy.out hjN HNl.out HV.out hown' hgrow hloc; clear hown' hgrow hnil hloc)
                    go_roundw
                    case rel => exact ⟨k + 1, by omega, by go_num, _, hid (G3.out.congr (fun j _ => by rw [HJ.out]; exact HF2.out j))⟩
                    case measure => simp [intOf]; omega
              · obtain rfl : k = L sq := by omega
                go_wp2
                refine wp_region_cls (by kernel_rfl) (by kernel_rfl) ?_
                repeat (go_big_quiet_step (fail))
                refine wpQuiet_nil ?_
                rintro _ ⟨z, rfl⟩
                have HFz := hid (HF.out.later z.h)
                generalize z.u = w5 at *
                clear k0 k1 k2 k3 k4 k5 k6 k7 D33 D34 _hne
                go_wp2
                go_roundw
                case rel => exact ⟨sq + 1, by omega, by go_num, V2, hid (HFz.out.congr (fun j _ => gT_next rfl j))⟩
                case measure => simp [intOf]; omega
          · obtain rfl : sq = G := by omega
            go_wp2
            go_roundw
            case rel => exact ⟨i + 1, by omega, by go_num, V1, hid (HF.out.congr (fun j hj => gT_row (by have := HNN.out; omega)))⟩
            case measure => simp [intOf]; omega
    · obtain rfl : i = mm := by omega
      have HG := hid (HF.out.gr)
      have HB := hid HF.out.below
      clear HF HNC hna
      have hmk := run_make_row' (P := Tryd.prog) 67 4 (.bool false) 1 Tryd.underlying67 Tryd.info4 rfl .i64 .i64 N (by omega) (by omega)
      obtain ⟨i7, hi7, hz70, hz71, hz72⟩ := info_parts Tryd.info67
      have HI7 : Hid (Tryd.prog.info? 67 = some i7 ∧ i7.zero = some (.slice none 0 0) ∧ i7.size = 1 ∧ i7.bytes = 24) := ⟨hi7, hz70, hz71, hz72⟩
      clear hi7 hz70 hz71 hz72
      obtain ⟨U, rfl⟩ : ∃ U, U = wr := ⟨_, rfl⟩
      obtain ⟨fb, fo, hfa, hfc⟩ := HFA.out
      have HFC := hid hfc
      have hszU := HB.out.size
      clear hfc
      go_wp2
      go_loopw [13, 14] (fun vv kv wi => ∃ (k : Nat) (v : Value) (bk : Nat → Nat), k ≤ K ∧ vv = v ∧ kv = .int .i64 k ∧ Hid (Sq U wi v k N (fun k j => has (FL k) (FZ k) (j / i : Nat)) bk)) (fun _ kv _ => K - (intOf kv).toNat)
      case atStart => exact ⟨0, _, fun _ => 0, Nat.zero_le _, rfl, rfl, hid ⟨Below.refl _ _, World.ownsRow_nil _ _ _ _, fun j hj => absurd hj (Nat.not_lt_zero _)⟩⟩
      case round =>
        obtain ⟨k, v, bk, hk, rfl, rfl, HQ⟩ := hrel
        have HBr := hid (HB.out.trans (HQ.out.below.mono HB.out.size))
        have r4 := below_cell HBr.out (Nat.le_refl _) q4
        by_cases hkK : k < K
        · obtain rfl := hfa (by omega)
          obtain ⟨ka, kc, hck0, hrk0⟩ := HFC.out k hkK
          have hck := below_cell HBr.out (Nat.le_refl _) hck0
          have C35 := hid (markedRef_any ka (FL k) kc (FZ k) G wr (HF47.out k hkK) (hrk0.below HBr.out) (by omega) (HFA0.out k hkK))
          clear hck0 hrk0
          go_wp2_with fail
          refine C35.out.mono ?_
          rintro e w5 ⟨rfl, hrow, hb5⟩
          have HR5 := hid hrow
          have HB5 := hid hb5
          have hs5 : wr.heap.size < w5.heap.size := hrow.lt
          clear hrow hb5 C35
          go_wp2
          go_loopw [17] (fun iv wi => ∃ x : Nat, x ≤ N ∧ iv = .int .i64 x ∧ Hid (Below w5.heap.size w5 wi ∧ wi.rowIs w5.heap.size 4 N (fun y => .bool (decide (y < x) && has (FL k) (FZ k) (y / i : Nat))))) (fun iv _ => N - (intOf iv).toNat)
          case atStart => exact ⟨0, Nat.zero_le _, rfl, hid ⟨box_below _ _, (World.rowIs_made w5 (.bool false) N 4).congr (fun i _ => by simp)⟩⟩
          case round =>
            obtain ⟨x, hx, rfl, HX⟩ := hrel
            by_cases hxN : x < N
            · obtain ⟨d, hd⟩ : ∃ d, d = x / i := ⟨_, rfl⟩
              have hdG : d < G := by rw [hd]; exact Nat.div_lt_of_lt_mul (by have := HNN.out; rw [Nat.mul_comm]; omega)
              have f1 : (x : Int) / (i : Int) = (d : Int) := by rw [hd]; rfl
              have f2 : (x : Int).tdiv (i : Int) = (d : Int) := by rw [Int.tdiv_eq_ediv_of_nonneg (by omega)]; exact f1
              have hmz : ¬ i = 0 := by omega
              have hcd := (HR5.out.of_block (HX.out.1.block _ hs5)).cell hdG
              have hc := HX.out.2.cell hxN
              have hz := HX.out.2.frozen x
              have HD := hid hd
              clear hd
              go_wp2
              go_roundw
              case rel =>
                refine ⟨x + 1, by omega, by go_num, hid ⟨HX.out.1.setCell (Nat.le_refl _) _, (HX.out.2.set x _).congr (fun y hy => ?_)⟩⟩
                by_cases e : y = x
                · subst e; rw [if_pos rfl, HD.out]; simp
                · rw [if_neg e]
                  congr 2
                  simp only [decide_eq_decide]
                  omega
              case measure => simp [intOf]; omega
            · obtain rfl : x = N := by omega
              have hzw := HB5.out.trans (HX.out.1.mono HB5.out.size)
              have HZW := hid hzw
              have HRX := hid (HX.out.2.congr (g := fun y => .bool (has (FL k) (FZ k) (y / i : Nat))) (fun y hy => by simp [hy]))
              have hlt5 : w5.heap.size < wr.heap.size := HX.out.2.lt
              have HO := hid ((HQ.out.later hzw).own)
              have hUs : U.heap.size ≤ wr.heap.size := (HQ.out.later hzw).below.size
              clear hzw
              go_wp2_with (at_builtin; refine wpList_append_own_at _ rfl _ _ 66 rfl U.heap.size 67 i7 (.slice none 0 0) 1 24 Tryd.underlying66 HI7.out.1 HI7.out.2.1 HI7.out.2.2.1 HI7.out.2.2.2 rfl (by decide) _ _ _ rfl (HO.out.alloc _) ⟨wr.heap.size, 0, none⟩ 1 1 [.slice (some ⟨w5.heap.size, 0, none⟩) x x] rfl rfl (cell_one_new _ _ _) (by intro u hu; simp at hu; subst hu; rfl) (by unfold maxLen; omega) (by omega) (by simp; omega) ?_; intro v' w2 hown' hgrow hnil hloc; obtain ⟨⟨a3, c3, rfl⟩, G3⟩ := Sq.step (sf := fun k j => has (FL k) (FZ k) (j / i : Nat)) HQ.out HZW.out (Nat.le_of_lt hs5) hlt5 HRX.out hown' hgrow hloc; clear hown' hgrow hnil hloc)
              go_roundw
              case rel => exact ⟨k + 1, _, _, by omega, rfl, by go_num, G3⟩
              case measure => simp [intOf]; omega
        · obtain rfl : k = K := by omega
          obtain ⟨sv, sc', rfl, hsets⟩ := HQ.out.sets
          have HSE := hid hsets
          have HGr := hid (HG.out.below (HQ.out.below))
          have C36 := hid (ways_any (some ⟨W1.heap.size, 0, none⟩) N N (fun j => (gT i fit pn L Z i 0 0 j).length) (fun j y => (gT i fit pn L Z i 0 0 j).getD y 0) sv k sc' (fun k j => has (FL k) (FZ k) (j / i : Nat)) wr hN hK80 HGr.out
            (fun r hr => by
              rw [gT_end hmm0]
              have hq : r / i < G := Nat.div_lt_of_lt_mul (by have := HNN.out; rw [Nat.mul_comm]; omega)
              have h1 := gk_le (mm := i) (fit := fit) (pn := pn) (Z := Z) (r / i) (r % i) (L (r / i))
              have h2 := HL8.out _ hq
              omega)
            (fun r hr => by
              have hq : r / i < G := Nat.div_lt_of_lt_mul (by have := HNN.out; rw [Nat.mul_comm]; omega)
              refine allIn_yes (fun y hy => ?_)
              have hmem : (gT i fit pn L Z i 0 0 r).getD y 0 ∈ gT i fit pn L Z i 0 0 r := by rw [List.getD_eq_getElem?_getD, List.getElem?_eq_getElem hy]; exact List.getElem_mem _
              generalize (gT i fit pn L Z i 0 0 r).getD y 0 = g at hmem
              rw [gT_end hmm0, gk_mem] at hmem
              obtain ⟨_, x, hx, _, rfl⟩ := hmem
              have hz := HZ.out _ hq x hx
              have hp := HPL.out (r % i) (Nat.mod_lt _ hmm0)
              obtain ⟨t, ht⟩ : ∃ t : Nat, Z (r / i) x = t := ⟨(Z (r / i) x).toNat, by omega⟩
              rw [ht] at hz ⊢
              have h1 : (t + 1) * i ≤ G * i := Nat.mul_le_mul_right _ (by omega)
              rw [Nat.add_mul] at h1
              have h2 := HNN.out
              have h3 : (t : Int) * (i : Int) = ((t * i : Nat) : Int) := by push_cast; rfl
              rw [h3]
              omega) hsets)
          clear hsets hmk HI7 HFC hfa HQ
          go_wp2_with fail
          refine C36.out.mono ?_
          rintro e w5 ⟨z, rfl, hrow, hzz, hb5⟩
          have HB5 := hid (HBr.out.trans (hb5.mono HBr.out.size))
          have HZZ := hid hzz
          have HRZ := hid hrow
          clear hb5 hzz C36 r4
          obtain ⟨ya, hya⟩ : ∃ ya, ya = wr.heap.size := ⟨_, rfl⟩
          rw [← hya] at hrow HRZ ⊢
          clear hya
          go_wp2
          go_loopw [19] (fun iv wi => ∃ x : Nat, x ≤ sn ∧ iv = .int .i64 x ∧ Hid (Below w5.heap.size w5 wi ∧ ∀ y, y < x → ¬ (fit (S y).toNat 0 = true ∧ z ((S y).toNat * i) = true))) (fun iv _ => sn - (intOf iv).toNat)
          case atStart => exact ⟨0, Nat.zero_le _, rfl, hid ⟨Below.refl _ _, fun y hy => absurd hy (Nat.not_lt_zero _)⟩⟩
          case round =>
            obtain ⟨x, hx, rfl, HX⟩ := hrel
            have HBx := hid (HB5.out.trans (HX.out.1.mono HB5.out.size))
            have r0 := below_cell HBx.out (Nat.le_refl _) q0
            by_cases hxs : x < sn
            · obtain ⟨sb, so, hsa, hsc⟩ := HST.out
              obtain rfl := hsa (by omega)
              have hzt := HS.out x hxs
              obtain ⟨t, ht⟩ : ∃ t : Nat, S x = t := ⟨(S x).toNat, by omega⟩
              have htG : t < G := by omega
              have hct := below_cell HBx.out (Nat.le_refl _) (hsc x hxs)
              rw [ht] at hct
              have HT := hid ht
              obtain ⟨tm, htm⟩ : ∃ tm, tm = t * i := ⟨_, rfl⟩
              have e5 : (t : Int) * (i : Int) = (tm : Int) := by rw [htm]; push_cast; rfl
              have htm2 : tm < N := by
                have h1 : (t + 1) * i ≤ G * i := Nat.mul_le_mul_right _ (by omega)
                rw [Nat.add_mul] at h1
                have := HNN.out
                omega
              have hcz := (HRZ.out.of_block (HX.out.1.block _ hrow.lt)).cell htm2
              have HTM := hid htm
              have hsz : w.heap.size + 2 ≤ wr.heap.size := by have := HBx.out.size; omega
              have HBw := hid (HB1.out.trans (HBx.out.mono HB1.out.size))
              have D34 := hid (fun (z : Cls wr) => (C34.out 0 (by omega) z.u (HBw.out.trans (z.h.mono HBw.out.size))).mono fun _ w' ⟨he, hb⟩ => (show _ ∧ Below wr.heap.size wr w' from ⟨he, z.h.trans (hb.mono z.h.size)⟩))
              have D33 := hid (fun (z : Cls wr) => (C33.out t 0 htG z.u (HBw.out.trans (z.h.mono HBw.out.size))).mono fun _ w' ⟨he, hb⟩ => (show _ ∧ Below wr.heap.size wr w' from ⟨he, z.h.trans (hb.mono z.h.size)⟩))
              have k0 := fun z : Cls wr => z.cell r0
              have k1 := fun z : Cls wr => z.cell (below_cell HBx.out (Nat.le_refl _) q1)
              have k2 := fun z : Cls wr => z.cell (below_cell HBx.out (Nat.le_refl _) q2)
              have k3 := fun z : Cls wr => z.cell (below_cell HBx.out (Nat.le_refl _) q3)
              have k4 := fun z : Cls wr => z.cell (below_cell HBx.out (Nat.le_refl _) q4)
              have k5 := fun z : Cls wr => z.cell (below_cell HBx.out (Nat.le_refl _) c0)
              have k6 := fun z : Cls wr => z.cell (below_cell HBx.out (Nat.le_refl _) c1)
              have k7 := fun z : Cls wr => z.cell hct
              have k8 := fun y : Cls wr => y.cell hcz
              have _hne := cls_some wr
              clear ht htm hzt hsa hsc hct hcz
              have hmiss : ¬ (fit t 0 = true ∧ z tm = true) → Hid (∀ y, y < x + 1 → ¬ (fit (S y).toNat 0 = true ∧ z ((S y).toNat * i) = true)) := fun hh y hy => by
                by_cases e : y = x
                · subst e; rw [HT.out, Int.toNat_natCast, ← HTM.out]; exact hh
                · exact HX.out.2 y (by omega)
              cases hf : fit t 0
              · have HM := hmiss (fun hh => by rw [hf] at hh; cases hh.1)
                rw [hf] at D33
                clear hf hmiss k8
                go_wp2
                refine wp_region_cls (by kernel_rfl) (by kernel_rfl) ?_
                repeat (go_big_quiet_step (first | exact Cls.calls (D34.out _) | exact Cls.calls (D33.out _)))
                refine wpQuiet_nil ?_
                rintro _ ⟨y, rfl⟩
                have HY := hid (HX.out.1.trans (y.h.mono HX.out.1.size))
                generalize y.u = w6 at *
                clear k0 k1 k2 k3 k4 k5 k6 k7 D33 D34 _hne
                go_wp2
                go_roundw
                case rel => exact ⟨x + 1, by omega, by go_num, hid ⟨HY.out, HM.out⟩⟩
                case measure => simp [intOf]; omega
              · cases hz : z tm
                · have HM := hmiss (fun hh => by rw [hz] at hh; cases hh.2)
                  rw [hf] at D33
                  rw [hz] at k8
                  clear hf hmiss hz
                  go_wp2
                  refine wp_region_cls (by kernel_rfl) (by kernel_rfl) ?_
                  repeat (go_big_quiet_step (first | exact Cls.calls (D34.out _) | exact Cls.calls (D33.out _)))
                  refine wpQuiet_nil ?_
                  rintro _ ⟨y, rfl⟩
                  have HY := hid (HX.out.1.trans (y.h.mono HX.out.1.size))
                  generalize y.u = w6 at *
                  clear k0 k1 k2 k3 k4 k5 k6 k7 k8 D33 D34 _hne
                  go_wp2
                  go_roundw
                  case rel => exact ⟨x + 1, by omega, by go_num, hid ⟨HY.out, HM.out⟩⟩
                  case measure => simp [intOf]; omega
                · have HYES := hid (HACC.out.2 ⟨t, has_yes x hxs HT.out, htG, hf, by have := (HZZ.out tm htm2).1 hz; rw [HTM.out] at this; exact this⟩)
                  rw [hf] at D33
                  rw [hz] at k8
                  clear hf hmiss hz
                  go_wp2
                  refine wp_region_cls (by kernel_rfl) (by kernel_rfl) ?_
                  repeat (go_big_quiet_step (first | exact Cls.calls (D34.out _) | exact Cls.calls (D33.out _)))
                  refine wpQuiet_nil ?_
                  rintro _ ⟨y, rfl⟩
                  have HY := hid (HBw.out.trans (y.h.mono HBw.out.size))
                  generalize y.u = w6 at *
                  clear k0 k1 k2 k3 k4 k5 k6 k7 k8 D33 D34 _hne
                  go_wp2
                  go_ret
                  exact ⟨true, rfl, ⟨fun _ => HYES.out, fun _ => rfl⟩, HY.out⟩
            · obtain rfl : x = sn := by omega
              go_wp2
              go_ret
              refine ⟨false, rfl, ⟨fun hh => (by cases hh), fun hh => ?_⟩, HB1.out.trans (HBx.out.mono HB1.out.size)⟩
              obtain ⟨q, h1, h2, h3, h4⟩ := HACC.out.1 hh
              unfold has at h1
              rw [decide_eq_true_eq] at h1
              obtain ⟨y, h5, h6⟩ := h1
              have hq : q * i < N := by
                have h1 : (q + 1) * i ≤ G * i := Nat.mul_le_mul_right _ (by omega)
                rw [Nat.add_mul] at h1
                have := HNN.out
                omega
              exact absurd ⟨by rw [h6, Int.toNat_natCast]; exact h3, by rw [h6, Int.toNat_natCast]; exact (HZZ.out _ hq).2 h4⟩ (HX.out.2 y h5)

end Go.Proofs.YtdncjikmknkkpaaDoor
