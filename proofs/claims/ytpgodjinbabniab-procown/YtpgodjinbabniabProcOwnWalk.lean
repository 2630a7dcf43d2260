/- The law ProcOwn, walked. -/
import Derived.Test.YtpgodjinbabniabOwn4
namespace Go.Proofs.Ytpgodjinbabniab
open Go.RowKit Go.Maps

set_option maxRecDepth 20000 in
set_option maxHeartbeats 8000000 in
theorem procOwn_walk {na fa : Option Addr} {N nc F fc : Nat} {M : Nat → ByteArray} {K A B : Nat → Int} {w : World} (hp : Prc w na N nc fa F M K A B) (hN24 : N * 24 ≤ 140737488351232) (hF16 : F * 16 ≤ 140737488351232) (hnn : na = none → N = 0 ∧ nc = 0) (hfn : fa = none → F = 0 ∧ fc = 0)
    {ma : Option Addr} {n mc : Nat} {m : Nat → Int} (hm : Row w ma n m) (hmn : ma = none → n = 0 ∧ mc = 0) (hn8 : n * 8 ≤ 140737488351232) :
    Calls Try.prog 8 #[.agg #[.slice na N nc, .slice fa F fc], .slice ma n mc] w fun e w' => e = .returned (.bool true) ∧ Below w.heap.size w w' := by
  obtain ⟨e0, he⟩ := chk_ex N F M K A B
  obtain ⟨X, hX⟩ := xok_ex K A B F (stAll K A B F N)
  obtain ⟨X1, hX1⟩ := enb_ex K A B F (stAll K A B F N) m
  have HE : Hid (ChkIs N F M K A B e0) := he
  have HXo : Hid (XOk K A B F (stAll K A B F N) X) := hX
  have HX1 : Hid (∀ i, X1 i = 1 ↔ enb K A B F m ((stAll K A B F N).getD i (0, 0, 0))) := hX1
  have hNN := hp.nN
  have hFF := hp.nF
  have hn48 : n ≤ 17592186043904 := by omega
  obtain ⟨W, eW⟩ : ∃ x, x = w.alloc (.cells #[.slice na N nc, .slice fa F fc] 25) := ⟨_, rfl⟩
  have HW : Hid (Below w.heap.size w W ∧ W.heap.size = w.heap.size + 1) := by subst eW; exact ⟨box_below _ _, by simp⟩
  have HBx : Hid (∀ w1, Below W.heap.size W w1 → w1.cell? ⟨w.heap.size, 0, none⟩ = some (.slice na N nc) ∧ w1.cell? ⟨w.heap.size, 1, none⟩ = some (.slice fa F fc)) := fun w1 h => by
    subst eW
    exact ⟨new_alloc h rfl, new_alloc h rfl⟩
  have HEW : Hid (w.alloc (.cells #[.slice na N nc, .slice fa F fc] 25) = W) := eW.symm
  have HPW : Hid (Prc W na N nc fa F M K A B) := hp.below HW.out.1
  have HMW : Hid (Row W ma n m) := hm.below HW.out.1
  have HNn : Hid ((na = none → N = 0 ∧ nc = 0) ∧ (fa = none → F = 0 ∧ fc = 0) ∧ (ma = none → n = 0 ∧ mc = 0)) := ⟨hnn, hfn, hmn⟩
  have C1 : Hid (Calls Try.prog 10 #[] W fun e w' => (∃ na fa, e = .returned (.agg #[.slice na 3 3, .slice fa 2 2]) ∧ Prc w' na 3 3 fa 2 sMs sKs sAs sBs) ∧ Below W.heap.size W w') := straight_any W
  have hws : w.heap.size < W.heap.size := by have := HW.out.2; omega
  clear eW hp he hX hX1 hm hnn hfn hmn
  go_enter Try.func8, Try.ntmps8
  go_wp2_with fail
  rw [HEW.out]
  refine C1.out.mono ?_
  rintro e w1 ⟨⟨na', fa', rfl, hp1⟩, hb1⟩
  have HB1 : Hid (Below W.heap.size W w1) := hb1
  have C2 : Hid (Calls Try.prog 30 #[.agg #[.slice na' 3 3, .slice fa' 2 2], .int .i64 0] w1 fun e w' => Below w1.heap.size w1 w' ∧ FlIs 3 2 sAs 0 0 e w') := outs_any _ _ _ _ _ _ _ _ _ _ _ _ _ hp1 straight_chk
  clear hb1 hp1 C1
  go_wp2_with fail
  refine C2.out.mono ?_
  rintro e w2 ⟨hb2, hfl⟩
  rcases hfl with ⟨h, _⟩ | ⟨_, h, _⟩ | ⟨_, _, oa, oc, rfl, _⟩
  · exact absurd rfl h
  · exact absurd ⟨by decide, by decide⟩ h
  have HB2 : Hid (Below W.heap.size W w2) := HB1.out.trans (hb2.mono HB1.out.size)
  have hw2 : W.heap.size ≤ w2.heap.size := HB2.out.size
  have ht1 : tally sAs 0 2 = 1 := by decide
  rw [ht1]
  obtain ⟨c0, c1⟩ := HBx.out w2 HB2.out
  have C3 : Hid (∀ u, Below w2.heap.size w2 u → Calls Try.prog 31 #[.slice na N nc, .agg #[.string ByteArray.empty, .int .i64 9]] u fun e w' => ∃ gn cn, e = .returned (.slice (some ⟨gn, 0, none⟩) N cn) ∧ Rp w' u.heap.size 68 (.slice (some ⟨gn, 0, none⟩) N cn) N (fun i => .string (M i)) (fun i => .int .i64 (K i)) (.string ByteArray.empty) (.int .i64 9) ∧ Below u.heap.size u w') := fun u hu =>
    (roomyN_any hN24 ((HPW.out.below HB2.out).below hu).nds HNn.out.1 (fun _ => rfl) (fun _ => rfl)).mono fun e w' ⟨v, h1, h2, h3⟩ => by
      obtain ⟨gn, cn, rfl, _⟩ := h2.cells
      exact ⟨gn, cn, h1, h2, h3⟩
  have C4 : Hid (∀ u, Below w2.heap.size w2 u → Calls Try.prog 32 #[.slice fa F fc, .agg #[.int .i64 0, .int .i64 99]] u fun e w' => ∃ gf cf, e = .returned (.slice (some ⟨gf, 0, none⟩) F cf) ∧ Rp w' u.heap.size 71 (.slice (some ⟨gf, 0, none⟩) F cf) F (fun i => .int .i64 (A i)) (fun i => .int .i64 (B i)) (.int .i64 0) (.int .i64 99) ∧ Below u.heap.size u w') := fun u hu =>
    (roomyF_any hF16 ((HPW.out.below HB2.out).below hu).fls HNn.out.2.1 (fun _ => rfl) (fun _ => rfl)).mono fun e w' ⟨v, h1, h2, h3⟩ => by
      obtain ⟨gn, cn, rfl, _⟩ := h2.cells
      exact ⟨gn, cn, h1, h2, h3⟩
  have HBa : Hid (Below w2.heap.size w2 (w2.alloc (.cells #[.slice none 0 0, .slice none 0 0] 25))) := box_below _ _
  have hne1 : w.heap.size ≠ w2.heap.size := by omega
  have hsz2 : w.heap.size < w2.heap.size := by omega
  clear hb2 C2 ht1
  go_upto_region 4 with fail
  go_cut [7] from 37 to 45 (fun p wc => ∃ b vn vf, p = .pointer (some ⟨b, 0, none⟩) ∧ Hid (QIs w2 wc b vn vf N F M K A B))
  case first =>
    go_region_held3 (fun z => z.cell? ⟨w.heap.size, 0, none⟩ = some (.slice na N nc) ∧ z.cell? ⟨w.heap.size, 1, none⟩ = some (.slice fa F fc))
      (first | (with_reducible exact ⟨y0, y1⟩) | (with_reducible exact ⟨x0, x1⟩) | (with_reducible exact ⟨(set_other2 ⟨w.heap.size, 0, none⟩ hne5).trans y0, (set_other2 ⟨w.heap.size, 1, none⟩ hne5).trans y1⟩) | (with_reducible exact ⟨(set_other2 ⟨w.heap.size, 0, none⟩ hne1).trans y0, (set_other2 ⟨w.heap.size, 1, none⟩ hne1).trans y1⟩) | (with_reducible exact ⟨keep_alloc (Below.refl _ _) y0, keep_alloc (Below.refl _ _) y1⟩) | (with_reducible exact ⟨keep_alloc (Below.refl _ _) x0, keep_alloc (Below.refl _ _) x1⟩) | (with_reducible exact ⟨(World.cell?_drew _ _).trans c0, (World.cell?_drew _ _).trans c1⟩) | (with_reducible exact ⟨keep_alloc (Below.refl _ _).drew c0, keep_alloc (Below.refl _ _).drew c1⟩) | go_keep)
      (first
        | (go_at_call 31; refine (C3.out _ (by with_reducible first | exact below_drew_iff.2 (Below.refl _ _) | exact below_drew_iff.2 HBa.out | exact HBa.out)).mono ?_; rintro e w5 ⟨gn, cn, rfl, hrn, hb5⟩; have hw5 : Below w2.heap.size w2 w5 := Below.trans (by with_reducible first | exact below_drew_iff.2 (Below.refl _ _) | exact below_drew_iff.2 HBa.out | exact HBa.out) (hb5.mono (by simp)); have hne5 : w.heap.size ≠ w5.heap.size := (by have := hw5.size; omega); have hN5 : Hid (Rp w5 w2.heap.size 68 (.slice (some ⟨gn, 0, none⟩) N cn) N (fun i => .string (M i)) (fun i => .int .i64 (K i)) (.string ByteArray.empty) (.int .i64 9)) := rp_base hrn (by simp); obtain ⟨x0, x1⟩ := HBx.out w5 (HB2.out.trans (hw5.mono HB2.out.size)); (first | (have hf5 : Tw25 w5 w2.heap.size (.slice none 0 0) (.slice none 0 0) := (by with_reducible first | exact (tw_new w2 _ _).below hb5 | exact (tw_new_drew w2 _ _).below hb5 | exact (tw_drew_new w2 _ _).below hb5)) | skip); clear hrn; dsimp only)
        | (go_at_call 32; refine (C4.out _ (by with_reducible first | exact hw5 | exact hw5.alloc hw5.size _)).mono ?_; rintro e w6 ⟨gf, cf, rfl, hrf, hb6⟩; have hw6 : Below w2.heap.size w2 w6 := Below.trans (by with_reducible first | exact hw5 | exact hw5.alloc hw5.size _) (hb6.mono (by with_reducible first | exact hw5.size | exact (hw5.alloc hw5.size _).size)); have hF6 : Hid (Rp w6 w2.heap.size 71 (.slice (some ⟨gf, 0, none⟩) F cf) F (fun i => .int .i64 (A i)) (fun i => .int .i64 (B i)) (.int .i64 0) (.int .i64 99)) := rp_base hrf (by with_reducible first | exact hw5.size | exact (hw5.alloc hw5.size _).size); have hN6 : Hid (Rp w6 w2.heap.size 68 (.slice (some ⟨gn, 0, none⟩) N cn) N (fun i => .string (M i)) (fun i => .int .i64 (K i)) (.string ByteArray.empty) (.int .i64 9)) := hN5.out.below (Below.trans (by with_reducible first | exact Below.refl _ _ | exact box_below _ _) (hb6.mono (by simp))); obtain ⟨y0, y1⟩ := HBx.out w6 (HB2.out.trans (hw6.mono HB2.out.size)); (first | (have hf6 : Hid (Tw25 w6 w2.heap.size (.slice none 0 0) (.slice none 0 0)) := (by with_reducible exact hid (hf5.below hb6)); obtain ⟨⟨q0, q1⟩, ⟨f0, f1⟩⟩ := tw_cells hf6.out) | (have hf6 : Hid (Tw25 w6 w5.heap.size (.slice none 0 0) (.slice none 0 0)) := (by with_reducible exact hid ((tw_new w5 _ _).below hb6)); obtain ⟨⟨q0, q1⟩, ⟨f0, f1⟩⟩ := tw_cells hf6.out) | skip); clear hrf; dsimp only))
    all_goals go_wp2_with fail
    all_goals go_meet
    all_goals (first
      | exact ⟨_, _, _, rfl, hid (q_new hw6 hN6.out hF6.out)⟩
      | exact ⟨_, _, _, rfl, hid (q_set hw6 hw5.size hf6.out hN6.out hF6.out)⟩
      | exact ⟨_, _, _, rfl, hid (q_set hw6 (Nat.le_refl _) hf6.out hN6.out hF6.out)⟩)
  case rest =>
    obtain ⟨b, vn, vf, rfl, HQ⟩ := hcut
    obtain ⟨gn, cn, gf, cf, rfl, rfl, HQp⟩ := HQ.out.prc hNN hFF
    obtain ⟨w3, ew3⟩ : ∃ x, x = wc := ⟨_, rfl⟩
    subst ew3
    have HB3 : Hid (Below W.heap.size W w3) := HB2.out.trans (HQ.out.below.mono hw2)
    have C5 : Hid (Calls Try.prog 33 #[.slice ma n mc, .int .i64 77] w3 fun e w' => ∃ am cm, e = .returned (.slice am n cm) ∧ Rm w' w3.heap.size (.slice am n cm) n m ∧ Row w' am n m ∧ Below w3.heap.size w3 w') := (roomy_any ma n mc m w3 hn48 (HMW.out.below HB3.out) HNn.out.2.2).mono fun e w' ⟨v, h1, h2, h3⟩ => by
      obtain ⟨am, cm, rfl, h4⟩ := h2.row
      exact ⟨am, cm, h1, h2, h4, h3⟩
    clear C3 C4 HBa c0 c1
    go_wp2_with fail
    refine C5.out.mono ?_
    rintro e w4 ⟨am, cm, rfl, hrm4, hrow4, hb4⟩
    have HM4 : Hid (Rm w4 w3.heap.size (.slice am n cm) n m ∧ Row w4 am n m) := ⟨hrm4, hrow4⟩
    have HB34 : Hid (Below w3.heap.size w3 w4) := hb4
    have HB4 : Hid (Below W.heap.size W w4) := HB3.out.trans (hb4.mono HB3.out.size)
    obtain ⟨⟨c0, c1⟩, _⟩ := HQp.out w4 hb4
    obtain ⟨Ee, hEe⟩ : ∃ x, x = mkE (spE e0 (stAll K A B F N).length) (mkOk F n m) := ⟨_, rfl⟩
    obtain ⟨cl, hcl⟩ : ∃ x, x = eL Ee (fl X1 1 (stAll K A B F N).length) := ⟨_, rfl⟩
    have hcl60 : cl.length ≤ 60 := by rw [hcl, hEe]; exact eL_small (fun h => (spE_zero h).2)
    have HEn : Hid (∀ (u : World) (na fa ma : Option Addr) (nc fc mc : Nat), Prc u na N nc fa F M K A B → Row u ma n m → Calls Try.prog 14 #[.agg #[.slice na N nc, .slice fa F fc], .slice ma n mc] u fun e w' => Below u.heap.size u w' ∧ ∃ a c, e = .returned (.tuple #[.slice a cl.length c, .int .i64 Ee]) ∧ w'.ownsRow u.heap.size 3 1 (.slice a cl.length c) cl.length (vals cl)) := fun u na fa ma nc fc mc h1 h2 => by
      rw [hcl, hEe]
      exact (enabledF_own h1 HE.out (by omega) h2 X1 (fun i _ => HX1.out i)).mono fun e w' hh => ⟨hh.1, en_all (fl_len _ _ _).symm hh.2⟩
    have C6 := hid (HEn.out w4 _ _ _ cn cf cm (HQp.out w4 hb4).2.1 hrow4)
    clear C5 hb4 hrm4 hrow4 hEe hcl
    go_wp2_with fail
    refine C6.out.mono ?_
    rintro e w5 ⟨hb5, ca, cc, rfl, hco⟩
    have HCo : Hid (w5.ownsRow w4.heap.size 3 1 (.slice ca cl.length cc) cl.length (vals cl)) := hco
    have HB45 : Hid (Below w4.heap.size w4 w5) := hb5
    have HB35 : Hid (Below w3.heap.size w3 w5) := HB34.out.trans (hb5.mono HB34.out.size)
    have HB5 : Hid (Below W.heap.size W w5) := HB4.out.trans (hb5.mono HB4.out.size)
    clear c0 c1
    obtain ⟨⟨c0, c1⟩, _⟩ := HQp.out w5 HB35.out
    have hbl5 : b < w5.heap.size := World.block_lt_of_cell? _ _ c0
    clear hb5 hco C6
    go_upto_if 56 with fail
    go_cut [9] from 54 to 62 (fun v wc => v = .slice ca cl.length cc ∧ Hid (Below w5.heap.size w5 wc))
    case first =>
      by_cases h0 : 0 < cl.length
      · have h0I : (0 : Int) < (cl.length : Int) := by omega
        obtain ⟨eb, eo, hea, hec⟩ := owns_row' rfl HCo.out
        obtain rfl := hea h0
        have hcell := hec 0 h0
        rw [Nat.add_zero] at hcell
        generalize (fun i => cl.getD i 0) 0 = s at hcell
        have C7 : Hid (∀ u, Below w5.heap.size w5 u → Calls Try.prog 16 #[.agg #[.slice (some ⟨gn, 0, none⟩) N cn, .slice (some ⟨gf, 0, none⟩) F cf], .slice am n cm, .int .i64 s] u fun e w' => Below u.heap.size u w' ∧ ∃ v1 v2, e = .returned (.tuple #[v1, v2])) := fun u hu =>
          (fireF_any (HQp.out u (HB35.out.trans (hu.mono HB35.out.size))).2.1 HE.out (by omega) ((HM4.out.2.below HB45.out).below hu) s).mono fun e w' hh => ⟨hh.1, fi_ret hh.2⟩
        clear hec hea
        go_wp2
        go_region_held3 (fun z => z.cell? ⟨b, 0, none⟩ = some (.slice (some ⟨gn, 0, none⟩) N cn) ∧ z.cell? ⟨b, 1, none⟩ = some (.slice (some ⟨gf, 0, none⟩) F cf) ∧ z.cell? ⟨eb, eo, none⟩ = some (.int .i64 s))
          (first | (with_reducible exact ⟨x0, x1, xg⟩) | (exact ⟨c0, c1, hcell⟩))
          (first | (go_at_call 16; refine (C7.out _ (below_drew_iff.2 (Below.refl _ _))).mono ?_; rintro e w6 ⟨hb6, v1, v2, rfl⟩; have hb6' : Below w5.heap.size w5 w6 := (below_drew_iff.2 (Below.refl _ _)).trans hb6; obtain ⟨⟨x0, x1⟩, _⟩ := HQp.out w6 (HB35.out.trans (hb6'.mono HB35.out.size)); have xg : w6.cell? ⟨eb, eo, none⟩ = some (.int .i64 s) := (hb6'.cell (p := ⟨eb, eo, none⟩) (World.block_lt_of_cell? _ _ hcell)).trans hcell; dsimp only))
        go_wp2_with fail
        go_meet
        exact ⟨rfl, hb6'⟩
      · have h0I : ¬ (0 : Int) < (cl.length : Int) := by omega
        go_wp2
        go_meet
        exact ⟨rfl, Below.refl _ _⟩
    case rest =>
      obtain ⟨rfl, HB56⟩ := hcut
      obtain ⟨w6, ew6⟩ : ∃ x, x = wc := ⟨_, rfl⟩
      subst ew6
      have HB36 : Hid (Below w3.heap.size w3 w6) := HB35.out.trans (HB56.out.mono HB35.out.size)
      have HB6 : Hid (Below W.heap.size W w6) := HB5.out.trans (HB56.out.mono HB5.out.size)
      obtain ⟨M1, hM1⟩ : ∃ x, x = xM (spE e0 (stAll K A B F N).length) 2 50 (xall 2 50 K A B F (stAll K A B F N) X) := ⟨_, rfl⟩
      obtain ⟨N1, hN1⟩ : ∃ x, x = xN (spE e0 (stAll K A B F N).length) 2 50 (xall 2 50 K A B F (stAll K A B F N) X) := ⟨_, rfl⟩
      obtain ⟨y1, hy1⟩ : ∃ x, x = xE (spE e0 (stAll K A B F N).length) 2 50 (xall 2 50 K A B F (stAll K A B F N) X) := ⟨_, rfl⟩
      have hsm := x_small (E := spE e0 (stAll K A B F N).length) (a := 2) (b := 50) (K := K) (A := A) (B := B) (F := F) (l := stAll K A B F N) (X := X)
      rw [← hM1, ← hN1] at hsm
      have hM200 : M1.length ≤ 200 := hsm.1
      have hN200 : N1.length ≤ 200 := hsm.2.1
      have HF30 : Hid (M1 = [] ∨ F ≤ 30) := by
        by_cases h : y1 = 0
        · obtain ⟨hE, _⟩ := x_ok (by rw [← hy1]; exact h)
          have h6 := spE_zero hE
          have := HE.out
          rw [h6.1] at this
          exact Or.inr (chk_zero this).1.2
        · exact Or.inl (by rw [hM1]; exact xM_nil (by rw [← hy1]; exact h))
      have H60 : Hid (∀ i, i < N1.length → (N1.getD i []).length ≤ 60) := fun i hi => by
        by_cases h : y1 = 0
        · obtain ⟨hE, _⟩ := x_ok (by rw [← hy1]; exact h)
          exact Nat.le_trans (hsm.2.2 i hi) (spE_zero hE).2
        · have h0 : N1 = [] := by rw [hN1]; exact xN_nil (by rw [← hy1]; exact h)
          rw [h0] at hi
          exact absurd hi (Nat.not_lt_zero _)
      have HEx : Hid (∀ (u : World) (na fa : Option Addr) (nc fc : Nat), Prc u na N nc fa F M K A B → Calls Try.prog 18 #[.agg #[.slice na N nc, .slice fa F fc], .int .i64 2, .int .i64 50] u fun e w' => Below u.heap.size u w' ∧ ∃ (ma : Option Addr) (mc : Nat) (xa : Option Addr) (xc base : Nat), u.heap.size ≤ base ∧ e = .returned (.tuple #[.agg #[.slice ma M1.length mc, .slice xa N1.length xc], .int .i64 y1]) ∧ Spc w' base (.slice ma M1.length mc) (.slice xa N1.length xc) F M1 N1) := fun u na fa nc fc h1 => by
        rw [hM1, hN1, hy1]
        exact exploreF_any h1 HE.out 2 50 HXo.out
      have C8 := hid (HEx.out w6 _ _ cn cf (HQp.out w6 HB36.out).2.1)
      clear c0 c1 hM1 hN1 hy1 hsm
      obtain ⟨⟨c0, c1⟩, _⟩ := HQp.out w6 HB36.out
      go_wp2_with fail
      refine C8.out.mono ?_
      rintro e w7 ⟨hb7, sma, smc, sxa, sxc, sb, hsb, rfl, hs7⟩
      have HB67 : Hid (Below w6.heap.size w6 w7) := hb7
      have HSp7 : Hid (Spc w7 sb (.slice sma M1.length smc) (.slice sxa N1.length sxc) F M1 N1 ∧ w6.heap.size ≤ sb) := ⟨hs7, hsb⟩
      have HB37 : Hid (Below w3.heap.size w3 w7) := HB36.out.trans (hb7.mono HB36.out.size)
      have HB7 : Hid (Below W.heap.size W w7) := HB6.out.trans (hb7.mono HB6.out.size)
      obtain ⟨W7, eW7⟩ : ∃ x, x = w7.alloc (.cells #[.slice sma M1.length smc, .slice sxa N1.length sxc] 46) := ⟨_, rfl⟩
      have HW7 : Hid (Below w7.heap.size w7 W7) := by subst eW7; exact box_below _ _
      have HSb : Hid (W7.heap[w7.heap.size]? = some (.cells #[.slice sma M1.length smc, .slice sxa N1.length sxc] 46 (0, 0))) := by subst eW7; exact heap_alloc_new _ _
      have HEW7 : Hid (w7.alloc (.cells #[.slice sma M1.length smc, .slice sxa N1.length sxc] 46) = W7) := eW7.symm
      have HB3W : Hid (Below w3.heap.size w3 W7) := HB37.out.trans (HW7.out.mono HB37.out.size)
      have HBW7 : Hid (Below W.heap.size W W7) := HB7.out.trans (HW7.out.mono HB7.out.size)
      clear c0 c1
      obtain ⟨⟨c0, c1⟩, _⟩ := HQp.out w7 HB37.out
      obtain ⟨p0, p1⟩ := HBx.out w7 HB7.out
      have hz1 : w.heap.size < w7.heap.size := World.block_lt_of_cell? _ _ p0
      have hz2 : b < w7.heap.size := World.block_lt_of_cell? _ _ c0
      have C9 : Hid (Calls Try.prog 34 #[.agg #[.slice na N nc, .slice fa F fc], .agg #[.slice (some ⟨gn, 0, none⟩) N cn, .slice (some ⟨gf, 0, none⟩) F cf]] W7 fun e w' => e = .returned (.bool true) ∧ Below W7.heap.size W7 w') := by
        have h1 := HPW.out.below HBW7.out
        have h2 := (HQp.out W7 HB3W.out).2.1
        exact sameProc_any na fa _ _ N nc F fc cn cf M K A B W7 hNN hFF h1.nds h2.nds h1.fls h2.fls
      clear hb7 hs7 hsb C8 eW7
      go_wp2_with fail
      rw [HEW7.out]
      refine C9.out.mono ?_
      rintro e w8 ⟨rfl, hb8⟩
      have HB78 : Hid (Below W7.heap.size W7 w8) := hb8
      have HB48 : Hid (Below w4.heap.size w4 w8) := HB45.out.trans (((HB56.out.trans (HB67.out.mono HB56.out.size)).trans ((HW7.out.trans (hb8.mono HW7.out.size)).mono (Nat.le_trans HB56.out.size HB67.out.size))).mono HB45.out.size)
      have C10 : Hid (Calls Try.prog 11 #[.slice am n cm, .slice ma n mc] w8 fun e w' => e = .returned (.bool true) ∧ Below w8.heap.size w8 w') := equal_true (by omega) (HM4.out.2.below HB48.out) (HMW.out.below (HBW7.out.trans (hb8.mono HBW7.out.size))) (fun _ _ => rfl)
      clear hb8 C9 c0 c1 p0 p1
      go_wp2_with fail
      refine C10.out.mono ?_
      rintro e w9 ⟨rfl, hb9⟩
      have HB79 : Hid (Below W7.heap.size W7 w9) := HB78.out.trans (hb9.mono HB78.out.size)
      have HB39 : Hid (Below w3.heap.size w3 w9) := HB3W.out.trans (HB79.out.mono HB3W.out.size)
      have HB49 : Hid (Below w4.heap.size w4 w9) := HB48.out.trans (hb9.mono HB48.out.size)
      obtain ⟨⟨c0, c1⟩, _, hk1, _⟩ := HQp.out w9 HB39.out
      have C11 : Hid (Calls Try.prog 35 #[.slice (some ⟨gn, 0, none⟩) N cn, .agg #[.string ByteArray.empty, .int .i64 9]] w9 fun e w' => e = .returned (.bool true) ∧ Below w9.heap.size w9 w') := hk1
      clear hb9 C10 hk1
      go_wp2_with fail
      refine C11.out.mono ?_
      rintro e w10 ⟨rfl, hb10⟩
      have HB710 : Hid (Below W7.heap.size W7 w10) := HB79.out.trans (hb10.mono HB79.out.size)
      have HB310 : Hid (Below w3.heap.size w3 w10) := HB3W.out.trans (HB710.out.mono HB3W.out.size)
      have HB410 : Hid (Below w4.heap.size w4 w10) := HB49.out.trans (hb10.mono HB49.out.size)
      clear c0 c1
      obtain ⟨⟨c0, c1⟩, _, _, hk2⟩ := HQp.out w10 HB310.out
      have C12 : Hid (Calls Try.prog 36 #[.slice (some ⟨gf, 0, none⟩) F cf, .agg #[.int .i64 0, .int .i64 99]] w10 fun e w' => e = .returned (.bool true) ∧ Below w10.heap.size w10 w') := hk2
      clear hb10 C11 hk2
      go_wp2_with fail
      refine C12.out.mono ?_
      rintro e w11 ⟨rfl, hb11⟩
      have HB711 : Hid (Below W7.heap.size W7 w11) := HB710.out.trans (hb11.mono HB710.out.size)
      have HB411 : Hid (Below w4.heap.size w4 w11) := HB410.out.trans (hb11.mono HB410.out.size)
      have C13 : Hid (Calls Try.prog 37 #[.slice am n cm, .int .i64 77] w11 fun e w' => e = .returned (.bool true) ∧ w' = w11) := (HM4.out.1.below HB411.out).kept hn48
      clear hb11 C12 c0 c1
      go_wp2_with fail
      refine C13.out.mono ?_
      rintro e w12 ⟨rfl, hw12⟩
      subst hw12
      have HB12 : Hid (Below W.heap.size W w12) := HBW7.out.trans (HB711.out.mono HBW7.out.size)
      obtain ⟨p0, p1⟩ := HBx.out w12 HB12.out
      have C14 := hid (HEx.out w12 _ _ nc fc (HPW.out.below HB12.out))
      clear C13
      go_wp2_with fail
      refine C14.out.mono ?_
      rintro e w13 ⟨hb13, tma, tmc, txa, txc, tb, htb, rfl, hs13⟩
      have HB713 : Hid (Below W7.heap.size W7 w13) := HB711.out.trans (hb13.mono HB711.out.size)
      have HB13 : Hid (Below W.heap.size W w13) := HB12.out.trans (hb13.mono HB12.out.size)
      obtain ⟨W13, eW13⟩ : ∃ x, x = w13.alloc (.cells #[.slice tma M1.length tmc, .slice txa N1.length txc] 46) := ⟨_, rfl⟩
      have HW13 : Hid (Below w13.heap.size w13 W13) := by subst eW13; exact box_below _ _
      have HTb : Hid (W13.heap[w13.heap.size]? = some (.cells #[.slice tma M1.length tmc, .slice txa N1.length txc] 46 (0, 0))) := by subst eW13; exact heap_alloc_new _ _
      have HEW13 : Hid (w13.alloc (.cells #[.slice tma M1.length tmc, .slice txa N1.length txc] 46) = W13) := eW13.symm
      have HB7W : Hid (Below W7.heap.size W7 W13) := HB713.out.trans (HW13.out.mono HB713.out.size)
      have HB77 : Hid (Below w7.heap.size w7 W13) := HW7.out.trans (HB7W.out.mono HW7.out.size)
      have HBW13 : Hid (Below W.heap.size W W13) := HB13.out.trans (HW13.out.mono HB13.out.size)
      have HSpT : Hid (Spc W13 tb (.slice tma M1.length tmc) (.slice txa N1.length txc) F M1 N1 ∧ w7.heap.size ≤ tb ∧ w5.heap.size ≤ tb) := ⟨hs13.below HW13.out, by have h1 := HB711.out.size; have h2 := HW7.out.size; omega, by have h1 := HB711.out.size; have h2 := HW7.out.size; have h3 := HB56.out.size; have h4 := HB67.out.size; omega⟩
      have HSbB : Hid (W13.heap[w7.heap.size]? = some (.cells #[.slice sma M1.length smc, .slice sxa N1.length sxc] 46 (0, 0))) := below_blk HB7W.out HSb.out
      have HLo : Hid (w5.heap.size ≤ sb ∧ W.heap.size ≤ sb ∧ w7.heap.size ≤ w13.heap.size ∧ w5.heap.size ≤ w13.heap.size ∧ w7.heap.size < W13.heap.size) := ⟨Nat.le_trans HB56.out.size HSp7.out.2, Nat.le_trans HB6.out.size HSp7.out.2, by have h1 := HB713.out.size; have h2 := HW7.out.size; omega, by have h1 := HB713.out.size; have h2 := HW7.out.size; have h3 := HB56.out.size; have h4 := HB67.out.size; omega, (Array.getElem?_eq_some_iff.1 HSbB.out).1⟩
      have hb1 : w13.cell? ⟨w7.heap.size, 0, none⟩ = some (.slice sma M1.length smc) := cell_of_block (below_blk HB713.out HSb.out) rfl
      have hz3 : w7.heap.size < w13.heap.size := World.block_lt_of_cell? _ _ hb1
      clear hb13 htb hs13 C14 eW13 p0 p1
      go_wp2
      rw [HEW13.out]
      go_loopw [105] (fun i wr => ∃ k : Nat, k ≤ M1.length ∧ i = .int .i64 k ∧ Hid (Spx 3 sb w7.heap.size W13 wr)) (fun i _ => M1.length - (intOf i).toNat)
      case atStart => exact ⟨0, Nat.zero_le _, rfl, Spx.refl _ _ _ _⟩
      case round =>
        obtain ⟨k, hk, rfl, HS⟩ := hrel
        by_cases hlt : k < M1.length
        · obtain ⟨rb, ro, rv, rfl, hrc, ⟨rd, hrd⟩, hsv⟩ := mark_row HSp7.out.1.1 hlt
          have hkI : (k : Int) < (M1.length : Int) := by omega
          have hrc2 : wr.cell? ⟨rb, ro + k, none⟩ = some rv := (HS.out.cell_other (below_blk HB77.out hrd) (by decide)).trans ((HB77.out.cell (p := ⟨rb, ro + k, none⟩) (World.block_lt_of_cell? _ _ hrc)).trans hrc)
          have C15 : Hid (Calls Try.prog 38 #[rv, .int .i64 5] wr fun e w' => e = .returned (.tuple #[]) ∧ Spx 3 sb w7.heap.size wr w') := spoilI_any ((hsv.spx (t' := 52) (lo' := 0) (hi' := 0) (Spx.of_below HB77.out)).spx HS.out)
          clear hrc hrd hsv
          go_wp2_with fail
          refine C15.out.mono ?_
          rintro e w' ⟨rfl, hs'⟩
          have HS2 : Hid (Spx 3 sb w7.heap.size W13 w') := HS.out.trans hs'
          clear hs' C15
          go_wp2
          go_roundw
          case rel => exact ⟨k + 1, by omega, by go_num, HS2.out⟩
          case measure => simp [intOf]; omega
        · obtain rfl : M1.length = k := by omega
          obtain ⟨w14, ew14⟩ : ∃ x, x = wr := ⟨_, rfl⟩
          subst ew14
          have HSb14 : Hid (w14.heap[w7.heap.size]? = some (.cells #[.slice sma M1.length smc, .slice sxa N1.length sxc] 46 (0, 0))) := HS.out.blk_other HSbB.out (by decide)
          have hb2 : w14.cell? ⟨w7.heap.size, 1, none⟩ = some (.slice sxa N1.length sxc) := cell_of_block HSb14.out rfl
          go_wp2
          go_loopw [115] (fun i wr => ∃ k : Nat, k ≤ N1.length ∧ i = .int .i64 k ∧ Hid (Spx 52 sb w7.heap.size w14 wr)) (fun i _ => N1.length - (intOf i).toNat)
          case atStart => exact ⟨0, Nat.zero_le _, rfl, Spx.refl _ _ _ _⟩
          case round =>
            obtain ⟨k, hk, rfl, HR⟩ := hrel
            by_cases hlt : k < N1.length
            · obtain ⟨rb, ro, rv, rfl, hrc, ⟨rd, hrd⟩, hsv⟩ := edge_row HSp7.out.1.2 hlt
              have hkI : (k : Int) < (N1.length : Int) := by omega
              have hrd13 := below_blk HB77.out hrd
              have hrc2 : wr.cell? ⟨rb, ro + k, none⟩ = some rv := (HR.out.cell_other (HS.out.blk_other hrd13 (by decide)) (by decide)).trans ((HS.out.cell_other hrd13 (by decide)).trans ((HB77.out.cell (p := ⟨rb, ro + k, none⟩) (World.block_lt_of_cell? _ _ hrc)).trans hrc))
              have C16 : Hid (Calls Try.prog 39 #[rv, .agg #[.int .i64 0, .int .i64 0]] wr fun e w' => e = .returned (.tuple #[]) ∧ Spx 52 sb w7.heap.size wr w') := spoilE_any (Nat.le_trans (Nat.le_of_lt HLo.out.2.2.2.2) (Nat.le_trans HS.out.size HR.out.size)) (((hsv.spx (t' := 3) (lo' := 0) (hi' := 0) (Spx.of_below HB77.out)).spx HS.out).spx HR.out)
              clear hrc hrd hsv hrd13
              go_wp2_with fail
              refine C16.out.mono ?_
              rintro e w' ⟨rfl, hs'⟩
              have HR2 : Hid (Spx 52 sb w7.heap.size w14 w') := HR.out.trans hs'
              clear hs' C16
              go_wp2
              go_roundw
              case rel => exact ⟨k + 1, by omega, by go_num, HR2.out⟩
              case measure => simp [intOf]; omega
            · obtain rfl : N1.length = k := by omega
              obtain ⟨w15, ew15⟩ : ∃ x, x = wr := ⟨_, rfl⟩
              subst ew15
              have HO15 : Hid (Otr sb w7.heap.size W13 w15) := HS.out.otr.trans HR.out.otr
              have HB15 : Hid (Below W.heap.size W w15) := HBW13.out.trans (HO15.out.below HLo.out.2.1 HBW13.out.size)
              have HT15 : Hid (Spc w15 tb (.slice tma M1.length tmc) (.slice txa N1.length txc) F M1 N1) := spc_otr HO15.out HSpT.out.1 HSpT.out.2.1
              have HTb15 : Hid (w15.heap[w13.heap.size]? = some (.cells #[.slice tma M1.length tmc, .slice txa N1.length txc] 46 (0, 0))) := HO15.out.blk HTb.out (Or.inr HLo.out.2.2.1)
              have HCv15 : Hid (Spv 3 1 w15 w4.heap.size w5.heap.size (.slice ca cl.length cc)) := by
                have h1 : Spv 3 1 w7 w4.heap.size w5.heap.size (.slice ca cl.length cc) := (spv_owns HCo.out).spx (t' := 52) (lo' := 0) (hi' := 0) (Spx.of_below (HB56.out.trans (HB67.out.mono HB56.out.size)))
                exact ((h1.spx (t' := 52) (lo' := 0) (hi' := 0) (Spx.of_below HB77.out)).spx HS.out).spx HR.out
              have hbig15 : Hid (w13.heap.size < w15.heap.size) := (Array.getElem?_eq_some_iff.1 HTb15.out).1
              obtain ⟨p0, p1⟩ := HBx.out w15 HB15.out
              have C17 := hid (HEx.out w15 _ _ nc fc (HPW.out.below HB15.out))
              clear hb1 hb2
              go_wp2_with fail
              refine C17.out.mono ?_
              rintro e w16 ⟨hb16, uma, umc, uxa, uxc, ub, hub, rfl, hs16⟩
              obtain ⟨W16, eW16⟩ : ∃ x, x = w16.alloc (.cells #[.slice uma M1.length umc, .slice uxa N1.length uxc] 46) := ⟨_, rfl⟩
              have HW16 : Hid (Below w15.heap.size w15 W16) := by subst eW16; exact hb16.alloc hb16.size _
              have HUb : Hid (W16.heap[w16.heap.size]? = some (.cells #[.slice uma M1.length umc, .slice uxa N1.length uxc] 46 (0, 0)) ∧ w15.heap.size ≤ w16.heap.size) := by subst eW16; exact ⟨heap_alloc_new _ _, hb16.size⟩
              have HEW16 : Hid (w16.alloc (.cells #[.slice uma M1.length umc, .slice uxa N1.length uxc] 46) = W16) := eW16.symm
              have HSpU : Hid (Spc W16 ub (.slice uma M1.length umc) (.slice uxa N1.length uxc) F M1 N1 ∧ w15.heap.size ≤ ub) := by subst eW16; exact ⟨hs16.below (box_below _ _), hub⟩
              have HB16 : Hid (Below W.heap.size W w16) := HB15.out.trans (hb16.mono HB15.out.size)
              have HBW16 : Hid (Below W.heap.size W W16) := HB15.out.trans (HW16.out.mono HB15.out.size)
              clear p0 p1
              obtain ⟨p0, p1⟩ := HBx.out w16 HB16.out
              have hz4 : w.heap.size < w16.heap.size := World.block_lt_of_cell? _ _ p0
              have C18 := hid (HEn.out W16 _ _ _ nc fc mc (HPW.out.below HBW16.out) (HMW.out.below HBW16.out))
              clear hb16 hub hs16 C17 eW16
              go_wp2_with fail
              rw [HEW16.out]
              refine C18.out.mono ?_
              rintro e w17 ⟨hb17, ra, rc, rfl, hro⟩
              have HB1617 : Hid (Below W16.heap.size W16 w17) := hb17
              have HB1517 : Hid (Below w15.heap.size w15 w17) := HW16.out.trans (hb17.mono HW16.out.size)
              have HRo : Hid (w17.ownsRow W16.heap.size 3 1 (.slice ra cl.length rc) cl.length (vals cl)) := hro
              have HB17 : Hid (Below W.heap.size W w17) := HBW16.out.trans (hb17.mono HBW16.out.size)
              have C19 : Hid (Calls Try.prog 38 #[.slice ca cl.length cc, .int .i64 (-1)] w17 fun e w' => e = .returned (.tuple #[]) ∧ Spx 3 w4.heap.size w5.heap.size w17 w') := spoilI_any (HCv15.out.spx (t' := 52) (lo' := 0) (hi' := 0) (Spx.of_below HB1517.out))
              clear hb17 hro C18 p0 p1
              go_wp2_with fail
              refine C19.out.mono ?_
              rintro e w18 ⟨rfl, hs18⟩
              have HO18 : Hid (Otr w4.heap.size w5.heap.size w17 w18) := hs18.otr
              have HB18 : Hid (Below W.heap.size W w18) := HB17.out.trans (hs18.otr.below HB4.out.size HB17.out.size)
              have HLo2 : Hid (w5.heap.size ≤ w13.heap.size ∧ w5.heap.size ≤ w15.heap.size ∧ w5.heap.size ≤ w16.heap.size ∧ w5.heap.size ≤ W16.heap.size ∧ w5.heap.size ≤ ub) := by
                have h1 := HLo.out.2.2.2.1
                have h2 := hbig15.out
                have h3 := HUb.out.2
                have h4 := HW16.out.size
                have h5 := HSpU.out.2
                refine ⟨h1, ?_, ?_, ?_, ?_⟩ <;> omega
              have HT18 : Hid (Spc w18 tb (.slice tma M1.length tmc) (.slice txa N1.length txc) F M1 N1) := spc_otr HO18.out (HT15.out.below HB1517.out) HSpT.out.2.2
              have HU18 : Hid (Spc w18 ub (.slice uma M1.length umc) (.slice uxa N1.length uxc) F M1 N1) := spc_otr HO18.out (HSpU.out.1.below HB1617.out) HLo2.out.2.2.2.2
              have HTb18 : Hid (w18.heap[w13.heap.size]? = some (.cells #[.slice tma M1.length tmc, .slice txa N1.length txc] 46 (0, 0))) := HO18.out.blk (below_blk HB1517.out HTb15.out) (Or.inr HLo2.out.1)
              have HUb18 : Hid (w18.heap[w16.heap.size]? = some (.cells #[.slice uma M1.length umc, .slice uxa N1.length uxc] 46 (0, 0))) := HO18.out.blk (below_blk HB1617.out HUb.out.1) (Or.inr HLo2.out.2.2.1)
              have HR18 : Hid (w18.ownsRow W16.heap.size 3 1 (.slice ra cl.length rc) cl.length (vals cl)) := owns_otr HO18.out HRo.out HLo2.out.2.2.2.1
              obtain ⟨p0, p1⟩ := HBx.out w18 HB18.out
              have C20 := hid (HEn.out w18 _ _ _ nc fc mc (HPW.out.below HB18.out) (HMW.out.below HB18.out))
              clear hs18 C19
              go_wp2_with fail
              refine C20.out.mono ?_
              rintro e w19 ⟨hb19, va, vc, rfl, hvo⟩
              have HB1819 : Hid (Below w18.heap.size w18 w19) := hb19
              have HB19 : Hid (Below W.heap.size W w19) := HB18.out.trans (hb19.mono HB18.out.size)
              have HVo : Hid (w19.ownsRow w18.heap.size 3 1 (.slice va cl.length vc) cl.length (vals cl)) := hvo
              have hT19 := below_blk hb19 HTb18.out
              have hU19 := below_blk hb19 HUb18.out
              have t0 : w19.cell? ⟨w13.heap.size, 0, none⟩ = some (.slice tma M1.length tmc) := cell_of_block hT19 rfl
              have t1 : w19.cell? ⟨w13.heap.size, 1, none⟩ = some (.slice txa N1.length txc) := cell_of_block hT19 rfl
              have u0 : w19.cell? ⟨w16.heap.size, 0, none⟩ = some (.slice uma M1.length umc) := cell_of_block hU19 rfl
              have u1 : w19.cell? ⟨w16.heap.size, 1, none⟩ = some (.slice uxa N1.length uxc) := cell_of_block hU19 rfl
              have C21 : Hid (Calls Try.prog 26 #[.agg #[.slice tma M1.length tmc, .slice txa N1.length txc], .agg #[.slice uma M1.length umc, .slice uxa N1.length uxc]] w19 fun e w' => e = .returned (.bool true) ∧ Below w19.heap.size w19 w') := by
                rcases HF30.out with h | h
                · exact sameSpace_any (F := 0) rfl rfl (by omega) (by omega) (by omega) (spc_any (HT18.out.below hb19) h 0) (spc_any (HU18.out.below hb19) h 0) (fun i hi => by have := H60.out i hi; omega)
                · exact sameSpace_any rfl rfl (by omega) (by omega) (by omega) (HT18.out.below hb19) (HU18.out.below hb19) (fun i hi => by have := H60.out i hi; omega)
              have hEq : (Ee == Ee) = true := by simp
              clear hb19 hvo hT19 hU19 C20 p0 p1
              go_wp2_with fail
              refine C21.out.mono ?_
              rintro e w20 ⟨rfl, hb20⟩
              have HB20 : Hid (Below W.heap.size W w20) := HB19.out.trans (hb20.mono HB19.out.size)
              have C22 : Hid (Calls Try.prog 11 #[.slice ra cl.length rc, .slice va cl.length vc] w20 fun e w' => e = .returned (.bool true) ∧ Below w20.heap.size w20 w') := equal_true (by omega) (((owns_row' rfl HR18.out).below HB1819.out).below hb20) ((owns_row' rfl HVo.out).below hb20) (fun _ _ => rfl)
              clear hb20 C21 t0 t1 u0 u1
              go_wp2_with fail
              refine C22.out.mono ?_
              rintro e w21 ⟨rfl, hb21⟩
              have HF : Hid (Below w.heap.size w w21) := HW.out.1.trans ((HB20.out.trans (hb21.mono HB20.out.size)).mono HW.out.1.size)
              clear hb21 C22
              go_wp2
              go_ret
              exact ⟨rfl, HF.out⟩

end Go.Proofs.Ytpgodjinbabniab
