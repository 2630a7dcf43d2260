/- The law GameSays, walked. -/
import Derived.Test.YtpgodjinbabniaaRefStep
import Derived.Deep.RegionHeld3
namespace Go.Proofs.Ytpgodjinbabniaa
open Go.RowKit

set_option maxRecDepth 20000 in
set_option maxHeartbeats 8000000 in
theorem gameSays_walk {na fa : Option Addr} {N nc F fc : Nat} {M : Nat → ByteArray} {K A B : Nat → Int} {w : World} (hp : Prc w na N nc fa F M K A B) (hM : ∀ i, i < N → (M i).size ≤ maxLen) {ma : Option Addr} {n mc : Nat} {m : Nat → Int} (hn : n ≤ 140737488355328) (hm : Row w ma n m) (step : Int) :
    Calls Try.prog 3 #[.agg #[.slice na N nc, .slice fa F fc], .slice ma n mc, .int .i64 step] w fun e w' => e = .returned (.bool true) ∧ Below w.heap.size w w' := by
  obtain ⟨e0, he⟩ := chk_ex N F M K A B
  have HMr : Hid (Row w ma n m) := hm
  have HE : Hid (ChkIs N F M K A B e0) := he
  obtain ⟨W, eW⟩ : ∃ x, x = w.alloc (.cells #[.slice na N nc, .slice fa F fc] 25) := ⟨_, rfl⟩
  have HW : Hid (Below w.heap.size w W ∧ W.heap.size = w.heap.size + 1) := by subst eW; exact ⟨box_below _ _, by simp⟩
  have HBx : Hid (∀ w1, Below W.heap.size W w1 → w1.cell? ⟨w.heap.size, 0, none⟩ = some (.slice na N nc) ∧ w1.cell? ⟨w.heap.size, 1, none⟩ = some (.slice fa F fc)) := fun w1 h => by
    subst eW
    exact ⟨new_alloc h rfl, new_alloc h rfl⟩
  have HEW : Hid (w.alloc (.cells #[.slice na N nc, .slice fa F fc] 25) = W) := eW.symm
  have HPW : Hid (Prc W na N nc fa F M K A B) := hp.below HW.out.1
  have C1 : Hid (Calls Try.prog 9 #[.agg #[.slice na N nc, .slice fa F fc]] W fun e w' => Below W.heap.size W w' ∧ SpIs e0 (stAll K A B F N) e w') := steps_any na fa N nc F fc M K A B e0 W HPW.out hM HE.out
  obtain ⟨X, hX⟩ : ∃ X : Nat → Int, ∀ i, X i = 1 ↔ enb K A B F m ((stAll K A B F N).getD i (0, 0, 0)) := ⟨fun i => @ite Int (enb K A B F m ((stAll K A B F N).getD i (0, 0, 0))) (Classical.propDecidable _) 1 0, fun i => by simp⟩
  have HX : Hid (∀ i, X i = 1 ↔ enb K A B F m ((stAll K A B F N).getD i (0, 0, 0))) := hX
  clear eW hp hM he hm hX
  go_enter Try.func3, Try.ntmps3
  go_wp2_with fail
  rw [HEW.out]
  refine C1.out.mono ?_
  rintro e w1 ⟨hb1, hs1⟩
  have HB1 : Hid (Below W.heap.size W w1) := hb1
  obtain ⟨hc0, hc1⟩ := HBx.out w1 hb1
  have C2 : Hid (Calls Try.prog 10 #[.agg #[.slice na N nc, .slice fa F fc]] w1 fun e w' => Below w1.heap.size w1 w' ∧ Ans (spE e0 (stAll K A B F N).length) (Mrk F (bgn K A)) e w') := beginF_any (HPW.out.below hb1) HE.out
  have C3 : Hid (∀ u, Below W.heap.size W u → Calls Try.prog 11 #[.agg #[.slice na N nc, .slice fa F fc], .slice ma n mc] u fun e w' => Below u.heap.size u w' ∧ Ans (mkE (spE e0 (stAll K A B F N).length) (mkOk F n m)) (Lst (tally X 1 (stAll K A B F N).length) (fun i => (fl X 1 (stAll K A B F N).length).getD i 0)) e w') := fun u hu => enabledF_any (HPW.out.below hu) HE.out hn (HMr.out.below (HW.out.1.trans (hu.mono HW.out.1.size))) X (fun i _ => HX.out i)
  have C4 : Hid (∀ u, Below W.heap.size W u → Calls Try.prog 12 #[.agg #[.slice na N nc, .slice fa F fc], .slice ma n mc, .int .i64 step] u fun e w' => Below u.heap.size u w' ∧ Ans (mkE (spE e0 (stAll K A B F N).length) (mkOk F n m)) (FiIs u.heap.size K A B F (stAll K A B F N) m step) e w') := fun u hu => fireF_any (HPW.out.below hu) HE.out hn (HMr.out.below (HW.out.1.trans (hu.mono HW.out.1.size))) step
  clear C1
  rcases spAns hs1 with ⟨hE, rfl⟩ | ⟨hE, la, lc, rfl, hst⟩
  · have HE2 : Hid (mkE (spE e0 (stAll K A B F N).length) (mkOk F n m) = spE e0 (stAll K A B F N).length) := mkE_bad hE
    rw [HE2.out] at C3 C4
    generalize hEE : spE e0 (stAll K A B F N).length = E at *
    have hE' : (E != 0) = true := by rw [bne_iff_ne]; exact hE
    have hEq : (E == E) = true := by simp
    clear hEE hs1 hb1 HE2
    go_wp2_with fail
    refine C2.out.mono ?_
    rintro e w2 ⟨hb2, hs2⟩
    rcases ans_cases hs2 with ⟨_, rfl⟩ | ⟨h, _⟩
    rotate_left
    · exact absurd h hE
    have HB2 : Hid (Below W.heap.size W w2) := HB1.out.trans (hb2.mono HB1.out.size)
    clear hb2 hs2 C2 hc0 hc1
    obtain ⟨hc0, hc1⟩ := HBx.out w2 HB2.out
    go_wp2_with fail
    refine (C3.out w2 HB2.out).mono ?_
    rintro e w3 ⟨hb3, hs3⟩
    rcases ans_cases hs3 with ⟨_, rfl⟩ | ⟨h, _⟩
    rotate_left
    · exact absurd h hE
    have HB3 : Hid (Below W.heap.size W w3) := HB2.out.trans (hb3.mono HB2.out.size)
    clear hb3 hs3 C3 hc0 hc1
    obtain ⟨hc0, hc1⟩ := HBx.out w3 HB3.out
    go_wp2_with fail
    refine (C4.out w3 HB3.out).mono ?_
    rintro e w4 ⟨hb4, hs4⟩
    rcases ans_cases hs4 with ⟨_, rfl⟩ | ⟨h, _⟩
    rotate_left
    · exact absurd h hE
    have HB4 : Hid (Below w.heap.size w w4) := HW.out.1.trans ((HB3.out.trans (hb4.mono HB3.out.size)).mono HW.out.1.size)
    clear hb4 hs4 C4 hE
    go_wp2
    go_ret
    exact ⟨rfl, HB4.out⟩
  · have HE0 : Hid (e0 = 0 ∧ (stAll K A B F N).length ≤ 60) := spE_zero hE
    have HEz : Hid (ChkIs N F M K A B 0) := by have := HE.out; rw [HE0.out.1] at this; exact this
    have hF30 : F ≤ 30 := (chk_zero HEz.out).1.2
    have hF0 : 0 < F := chk_some HEz.out
    have hl60 : (stAll K A B F N).length ≤ 60 := HE0.out.2
    have HSt : Hid (Sts w1 la (stAll K A B F N).length (fun i => (stAll K A B F N).getD i (0, 0, 0))) := hst
    rw [hE] at C2 C3 C4
    clear hst hs1 hb1 hE
    go_wp2_with fail
    refine C2.out.mono ?_
    rintro e w2 ⟨hb2, hs2⟩
    obtain ⟨g2, c2, rfl, hmk2⟩ := hs2.ok rfl
    have HB2 : Hid (Below W.heap.size W w2) := HB1.out.trans (hb2.mono HB1.out.size)
    have HB12 : Hid (Below w1.heap.size w1 w2) := hb2
    have HM2 : Hid (Row w2 (some ⟨g2, 0, none⟩) F (bgn K A)) := hmk2.row
    clear hb2 hs2 hmk2 C2 hc0 hc1
    obtain ⟨hc0, hc1⟩ := HBx.out w2 HB2.out
    go_wp2_with fail
    refine (C3.out w2 HB2.out).mono ?_
    rintro e w3 ⟨hb3, hs3⟩
    have HB3 : Hid (Below W.heap.size W w3) := HB2.out.trans (hb3.mono HB2.out.size)
    have HB23 : Hid (Below w2.heap.size w2 w3) := hb3
    clear hb3 C3 hc0 hc1
    obtain ⟨hc0, hc1⟩ := HBx.out w3 HB3.out
    have C5 : Hid (∀ u, Below W.heap.size W u → Calls Try.prog 14 #[.agg #[.slice na N nc, .slice fa F fc]] u fun e w' => Below u.heap.size u w' ∧ ∃ g, e = .returned (.slice (some ⟨g, 0, none⟩) F F) ∧ Mk w' g F (bgn K A)) := fun u hu => beginRef_any (HPW.out.below hu) HEz.out
    have C6 : Hid (∀ u, Below W.heap.size W u → Calls Try.prog 15 #[.agg #[.slice na N nc, .slice fa F fc], .slice ma n mc] u fun e w' => e = .returned (.bool (mkOk F n m)) ∧ Below u.heap.size u w') := fun u hu => markRef_any hn (HMr.out.below (HW.out.1.trans (hu.mono HW.out.1.size)))
    by_cases hok : mkOk F n m = true
    · obtain ⟨hnF, h9⟩ := mkOk_all hok
      rw [hok] at hs3 C4 C6
      have hFn : F = n := hnF.symm
      subst hFn
      have H9 : Hid (∀ i, i < F → 0 ≤ m i ∧ m i ≤ 9) := h9
      obtain ⟨a3, c3, rfl, hr3⟩ := hs3.ok rfl
      have HR3 : Hid (Row w3 a3 (tally X 1 (stAll K A B F N).length) (fun i => (fl X 1 (stAll K A B F N).length).getD i 0)) := hr3
      clear hs3 hok hnF hr3 h9
      go_wp2_with fail
      refine (C4.out w3 HB3.out).mono ?_
      rintro e w4 ⟨hb4, hs4⟩
      have hf4 := hs4.ok rfl
      obtain ⟨v1, v2, rfl⟩ := fi_tuple hf4
      have HF4 : Hid (FiIs w3.heap.size K A B F (stAll K A B F N) m step (.returned (.tuple #[v1, v2])) w4) := hf4
      have HB4 : Hid (Below W.heap.size W w4) := HB3.out.trans (hb4.mono HB3.out.size)
      have HB14 : Hid (Below w1.heap.size w1 w4) := HB12.out.trans ((HB23.out.trans (hb4.mono HB23.out.size)).mono HB12.out.size)
      have HM4 : Hid (Row w4 (some ⟨g2, 0, none⟩) F (bgn K A)) := (HM2.out.below HB23.out).below hb4
      have HR4 : Hid (Row w4 a3 (tally X 1 (stAll K A B F N).length) (fun i => (fl X 1 (stAll K A B F N).length).getD i 0)) := HR3.out.below hb4
      clear hb4 hs4 hf4 C4 hc0 hc1
      obtain ⟨hc0, hc1⟩ := HBx.out w4 HB4.out
      go_wp2_with fail
      refine (C5.out w4 HB4.out).mono ?_
      rintro e w5 ⟨hb5, g5, rfl, hm5⟩
      have HB5 : Hid (Below W.heap.size W w5) := HB4.out.trans (hb5.mono HB4.out.size)
      have HB45 : Hid (Below w4.heap.size w4 w5) := hb5
      have C7 : Hid (Calls Try.prog 13 #[.slice (some ⟨g2, 0, none⟩) F c2, .slice (some ⟨g5, 0, none⟩) F F] w5 fun e w' => e = .returned (.bool true) ∧ Below w5.heap.size w5 w') := equal_true (by omega) (HM4.out.below hb5) hm5.row (fun _ _ => rfl)
      clear hb5 hm5 C5
      go_wp2_with fail
      refine C7.out.mono ?_
      rintro e w6 ⟨rfl, hb6⟩
      have HB6 : Hid (Below W.heap.size W w6) := HB5.out.trans (hb6.mono HB5.out.size)
      have HB46 : Hid (Below w4.heap.size w4 w6) := HB45.out.trans (hb6.mono HB45.out.size)
      clear hb6 C7 hc0 hc1
      obtain ⟨hc0, hc1⟩ := HBx.out w6 HB6.out
      go_wp2_with fail
      refine (C6.out w6 HB6.out).mono ?_
      rintro e w7 ⟨rfl, hb7⟩
      have HB7 : Hid (Below W.heap.size W w7) := HB6.out.trans (hb7.mono HB6.out.size)
      have HB47 : Hid (Below w4.heap.size w4 w7) := HB46.out.trans (hb7.mono HB46.out.size)
      have HS7 : Hid (Sts w7 la (stAll K A B F N).length (fun i => (stAll K A B F N).getD i (0, 0, 0))) := HSt.out.below (HB14.out.trans (HB47.out.mono HB14.out.size))
      have C8 : Hid (Calls Try.prog 16 #[.agg #[.slice na N nc, .slice fa F fc], .slice la (stAll K A B F N).length lc, .slice ma F mc] w7 fun e w' => Below w7.heap.size w7 w' ∧ ∃ a c, e = .returned (.slice a (tally X 1 (stAll K A B F N).length) c) ∧ Row w' a (tally X 1 (stAll K A B F N).length) (fun i => (fl X 1 (stAll K A B F N).length).getD i 0)) := enabledRef_any (HPW.out.below HB7.out) HEz.out hl60 HS7.out (HMr.out.below (HW.out.1.trans (HB7.out.mono HW.out.1.size))) X (fun i _ => HX.out i)
      clear hb7 C6 hc0 hc1
      obtain ⟨hc0, hc1⟩ := HBx.out w7 HB7.out
      have htl := tally_le X 1 (stAll K A B F N).length
      go_wp2_with fail
      refine C8.out.mono ?_
      rintro e w8 ⟨hb8, a8, c8, rfl, hr8⟩
      have HB8 : Hid (Below W.heap.size W w8) := HB7.out.trans (hb8.mono HB7.out.size)
      have HB78 : Hid (Below w7.heap.size w7 w8) := hb8
      have C9 : Hid (Calls Try.prog 13 #[.slice a3 (tally X 1 (stAll K A B F N).length) c3, .slice a8 (tally X 1 (stAll K A B F N).length) c8] w8 fun e w' => e = .returned (.bool true) ∧ Below w8.heap.size w8 w') := equal_true (by omega) ((HR4.out.below HB47.out).below hb8) hr8 (fun _ _ => rfl)
      clear hb8 hr8 C8
      go_wp2_with fail
      refine C9.out.mono ?_
      rintro e w9 ⟨rfl, hb9⟩
      have HB9 : Hid (Below W.heap.size W w9) := HB8.out.trans (hb9.mono HB8.out.size)
      have HB79 : Hid (Below w7.heap.size w7 w9) := HB78.out.trans (hb9.mono HB78.out.size)
      have HB49 : Hid (Below w4.heap.size w4 w9) := HB47.out.trans (HB79.out.mono HB47.out.size)
      have HBw9 : Hid (Below w.heap.size w w9) := HW.out.1.trans (HB9.out.mono HW.out.1.size)
      have HS9 : Hid (Sts w9 la (stAll K A B F N).length (fun i => (stAll K A B F N).getD i (0, 0, 0))) := HS7.out.below HB79.out
      clear hb9 C9 hc0 hc1 HX
      obtain ⟨hc0, hc1⟩ := HBx.out w9 HB9.out
      by_cases hs : 0 ≤ step ∧ step < (stAll K A B F N).length
      · obtain ⟨s, rfl⟩ : ∃ s : Nat, step = s := ⟨step.toNat, by omega⟩
        have hsl : s < (stAll K A B F N).length := by omega
        obtain ⟨sb, so, hsa, hsc⟩ := HS9.out
        obtain rfl := hsa (by omega)
        obtain ⟨d0, d1, d2⟩ := Sts.at hsc (Below.refl _ _) hsl
        obtain ⟨j, x, o, ht, hmay, hfire⟩ := ref_step HEz.out hsl
        have HFr : Hid (FrIs w3.heap.size K A B F m ((stAll K A B F N).getD s (0, 0, 0)) (.returned (.tuple #[v1, v2])) w4) := by
          rcases HF4.out with ⟨h, _⟩ | ⟨_, h⟩
          · exact absurd hs h
          · rw [Int.toNat_natCast] at h; exact h
        rw [ht] at d0 d1 d2
        simp only at d0 d1 d2
        generalize hls : stAll K A B F N = ls at *
        generalize htt : ls.getD s (0, 0, 0) = t at *
        have hkl : (s : Int) < ls.length := by omega
        have hs0 : ¬ ((s : Int) < 0) := by omega
        have hge : ¬ ((s : Int) ≥ ls.length) := by omega
        by_cases hen : enb K A B F m t
        · have C10 : Hid (∀ u, Below w9.heap.size w9 u → Calls Try.prog 17 #[.agg #[.slice na N nc, .slice fa F fc], .slice ma F mc, .agg #[.int .i64 j, .int .i64 x, .int .i64 o]] u fun e w' => e = .returned (.bool true) ∧ Below u.heap.size u w') := fun u hu => hmay u na fa ma nc fc mc m true ((HPW.out.below HB9.out).below hu) ((HMr.out.below HBw9.out).below hu) (by simp [hen])
          have C11 : Hid (∀ u, Below w9.heap.size w9 u → Calls Try.prog 18 #[.agg #[.slice na N nc, .slice fa F fc], .slice ma F mc, .agg #[.int .i64 j, .int .i64 x, .int .i64 o]] u fun e w' => Below u.heap.size u w' ∧ RfIs K A B F m t e w') := fun u hu => hfire u na fa ma nc fc mc m ((HPW.out.below HB9.out).below hu) ((HMr.out.below HBw9.out).below hu) H9.out
          have HEn : Hid (enb K A B F m t) := hen
          clear ht hls htt hmay hfire hsc hsa hs hsl hen
          go_wp2
          go_region_held3 (fun u => u.cell? ⟨w.heap.size, 0, none⟩ = some (.slice na N nc) ∧ u.cell? ⟨w.heap.size, 1, none⟩ = some (.slice fa F fc) ∧ u.cell? ⟨sb, so + s * 3, none⟩ = some (.int .i64 j) ∧ u.cell? ⟨sb, so + s * 3 + 1, none⟩ = some (.int .i64 x) ∧ u.cell? ⟨sb, so + s * 3 + 2, none⟩ = some (.int .i64 o))
            (first | (exact ⟨by assumption, by assumption, by assumption, by assumption, by assumption⟩) | go_keep)
            (first | (go_at_call 17; refine (C10.out _ (below_drew_iff.2 (Below.refl _ _))).mono ?_; rintro e w10 ⟨rfl, hb⟩; have hb' : Below w9.heap.size w9 w10 := (below_drew_iff.2 (Below.refl _ _)).trans hb; obtain ⟨x0, x1⟩ := HBx.out w10 (HB9.out.trans (hb'.mono HB9.out.size)); have x3 := (hb'.cell (p := ⟨sb, so + s * 3, none⟩) (World.block_lt_of_cell? _ _ d0)).trans d0; have x4 := (hb'.cell (p := ⟨sb, so + s * 3 + 1, none⟩) (World.block_lt_of_cell? _ _ d1)).trans d1; have x5 := (hb'.cell (p := ⟨sb, so + s * 3 + 2, none⟩) (World.block_lt_of_cell? _ _ d2)).trans d2; dsimp only))
          have HB910 : Hid (Below w9.heap.size w9 w10) := hb'
          have HB10 : Hid (Below W.heap.size W w10) := HB9.out.trans (hb'.mono HB9.out.size)
          clear hb hb' C10 hc0 hc1 d0 d1 d2
          have d0 := x3
          have d1 := x4
          have d2 := x5
          have hc0 := x0
          have hc1 := x1
          clear x0 x1 x3 x4 x5
          have C12 : Hid (∀ u, Below w10.heap.size w10 u → Calls Try.prog 18 #[.agg #[.slice na N nc, .slice fa F fc], .slice ma F mc, .agg #[.int .i64 j, .int .i64 x, .int .i64 o]] u fun e w' => Below u.heap.size u w' ∧ RfIs K A B F m t e w') := fun u hu => C11.out u (HB910.out.trans (hu.mono HB910.out.size))
          clear C11
          go_wp2
          go_region_held3 (fun u => u.cell? ⟨w.heap.size, 0, none⟩ = some (.slice na N nc) ∧ u.cell? ⟨w.heap.size, 1, none⟩ = some (.slice fa F fc) ∧ u.cell? ⟨sb, so + s * 3, none⟩ = some (.int .i64 j) ∧ u.cell? ⟨sb, so + s * 3 + 1, none⟩ = some (.int .i64 x) ∧ u.cell? ⟨sb, so + s * 3 + 2, none⟩ = some (.int .i64 o))
            (first | (exact ⟨by assumption, by assumption, by assumption, by assumption, by assumption⟩) | go_keep)
            (first | (go_at_call 18; refine (C12.out _ (below_drew_iff.2 (Below.refl _ _))).mono ?_; rintro e w11 ⟨hb, hf⟩; obtain ⟨u1, u2, rfl⟩ := rf_tuple hf; have hb' : Below w10.heap.size w10 w11 := (below_drew_iff.2 (Below.refl _ _)).trans hb; obtain ⟨x0, x1⟩ := HBx.out w11 (HB10.out.trans (hb'.mono HB10.out.size)); have x3 := (hb'.cell (p := ⟨sb, so + s * 3, none⟩) (World.block_lt_of_cell? _ _ d0)).trans d0; have x4 := (hb'.cell (p := ⟨sb, so + s * 3 + 1, none⟩) (World.block_lt_of_cell? _ _ d1)).trans d1; have x5 := (hb'.cell (p := ⟨sb, so + s * 3 + 2, none⟩) (World.block_lt_of_cell? _ _ d2)).trans d2; dsimp only))
          have HB11 : Hid (Below w4.heap.size w4 w11) := HB49.out.trans ((HB910.out.trans (hb'.mono HB910.out.size)).mono HB49.out.size)
          have HBw11 : Hid (Below w.heap.size w w11) := HBw9.out.trans ((HB910.out.trans (hb'.mono HB910.out.size)).mono HBw9.out.size)
          clear hb hb' C12 hc0 hc1 d0 d1 d2 x0 x1 x3 x4 x5
          rcases HFr.out with ⟨h, _⟩ | ⟨_, h7, he⟩ | ⟨_, h8, g, c, _, he, hmk⟩
          · exact absurd HEn.out h
          · cases he
            rcases hf with ⟨_, he⟩ | ⟨h8, _⟩
            rotate_left
            · obtain ⟨q, hq, h7⟩ := h7
              have := h8 q hq
              omega
            · cases he
              have C13 : Hid (Calls Try.prog 13 #[.slice none 0 0, .slice none 0 0] w11 fun e w' => e = .returned (.bool true) ∧ Below w11.heap.size w11 w') := equal_true (Y := fun _ => 0) (Z := fun _ => 0) (by omega) ⟨0, 0, fun h => by omega, fun i hi => by omega⟩ ⟨0, 0, fun h => by omega, fun i hi => by omega⟩ (fun _ _ => rfl)
              clear h7 HF4 HFr
              go_wp2_with fail
              refine C13.out.mono ?_
              rintro e w12 ⟨rfl, hb12⟩
              have HBw12 : Hid (Below w.heap.size w w12) := HBw11.out.trans (hb12.mono HBw11.out.size)
              clear hb12 C13
              go_wp2
              go_ret
              exact ⟨rfl, HBw12.out⟩
          · cases he
            rcases hf with ⟨h7, _⟩ | ⟨_, g', c', he, hmk'⟩
            · obtain ⟨q, hq, h7⟩ := h7
              have := h8 q hq
              omega
            · cases he
              have C13 : Hid (Calls Try.prog 13 #[.slice (some ⟨g, 0, none⟩) F c, .slice (some ⟨g', 0, none⟩) F c'] w11 fun e w' => e = .returned (.bool true) ∧ Below w11.heap.size w11 w') := equal_true (by omega) (hmk.row.below HB11.out) hmk'.row (fun _ _ => rfl)
              clear h8 HF4 HFr hmk hmk'
              go_wp2_with fail
              refine C13.out.mono ?_
              rintro e w12 ⟨rfl, hb12⟩
              have HBw12 : Hid (Below w.heap.size w w12) := HBw11.out.trans (hb12.mono HBw11.out.size)
              clear hb12 C13
              go_wp2
              go_ret
              exact ⟨rfl, HBw12.out⟩
        · have C10 : Hid (∀ u, Below w9.heap.size w9 u → Calls Try.prog 17 #[.agg #[.slice na N nc, .slice fa F fc], .slice ma F mc, .agg #[.int .i64 j, .int .i64 x, .int .i64 o]] u fun e w' => e = .returned (.bool false) ∧ Below u.heap.size u w') := fun u hu => hmay u na fa ma nc fc mc m false ((HPW.out.below HB9.out).below hu) ((HMr.out.below HBw9.out).below hu) (by simp [hen])
          rcases HFr.out with ⟨_, he⟩ | ⟨h, _⟩ | ⟨h, _⟩
          rotate_left
          · exact absurd h hen
          · exact absurd h hen
          cases he
          clear ht hls htt hmay hfire hsc hsa hs hsl hen HFr HF4
          go_wp2
          go_region_held3 (fun u => u.cell? ⟨w.heap.size, 0, none⟩ = some (.slice na N nc) ∧ u.cell? ⟨w.heap.size, 1, none⟩ = some (.slice fa F fc) ∧ u.cell? ⟨sb, so + s * 3, none⟩ = some (.int .i64 j) ∧ u.cell? ⟨sb, so + s * 3 + 1, none⟩ = some (.int .i64 x) ∧ u.cell? ⟨sb, so + s * 3 + 2, none⟩ = some (.int .i64 o))
            (first | (exact ⟨by assumption, by assumption, by assumption, by assumption, by assumption⟩) | go_keep)
            (first | (go_at_call 17; refine (C10.out _ (below_drew_iff.2 (Below.refl _ _))).mono ?_; rintro e w10 ⟨rfl, hb⟩; have hb' : Below w9.heap.size w9 w10 := (below_drew_iff.2 (Below.refl _ _)).trans hb; obtain ⟨x0, x1⟩ := HBx.out w10 (HB9.out.trans (hb'.mono HB9.out.size)); have x3 := (hb'.cell (p := ⟨sb, so + s * 3, none⟩) (World.block_lt_of_cell? _ _ d0)).trans d0; have x4 := (hb'.cell (p := ⟨sb, so + s * 3 + 1, none⟩) (World.block_lt_of_cell? _ _ d1)).trans d1; have x5 := (hb'.cell (p := ⟨sb, so + s * 3 + 2, none⟩) (World.block_lt_of_cell? _ _ d2)).trans d2; dsimp only))
          have HBw10 : Hid (Below w.heap.size w w10) := HBw9.out.trans (hb'.mono HBw9.out.size)
          clear hb hb' C10 hc0 hc1 d0 d1 d2 x0 x1 x3 x4 x5
          go_wp2
          go_ret
          exact ⟨rfl, HBw10.out⟩
      · rcases HF4.out with ⟨_, he⟩ | ⟨h, _⟩
        rotate_left
        · exact absurd h hs
        cases he
        clear HF4
        by_cases h0 : step < 0
        · clear hs
          go_wp2
          go_ret
          exact ⟨rfl, HBw9.out⟩
        · have hge : step ≥ ((stAll K A B F N).length : Int) := by omega
          clear hs
          go_wp2
          go_ret
          exact ⟨rfl, HBw9.out⟩
    · have hok' : mkOk F n m = false := by simpa using hok
      rw [hok'] at hs3 C4 C6
      rcases ans_cases hs3 with ⟨_, rfl⟩ | ⟨h, _⟩
      rotate_left
      · exact absurd h (by decide)
      clear hs3 hok hok'
      go_wp2_with fail
      refine (C4.out w3 HB3.out).mono ?_
      rintro e w4 ⟨hb4, hs4⟩
      rcases ans_cases hs4 with ⟨_, rfl⟩ | ⟨h, _⟩
      rotate_left
      · exact absurd h (by decide)
      have HB4 : Hid (Below W.heap.size W w4) := HB3.out.trans (hb4.mono HB3.out.size)
      have HM4 : Hid (Row w4 (some ⟨g2, 0, none⟩) F (bgn K A)) := (HM2.out.below HB23.out).below hb4
      clear hb4 hs4 C4 hc0 hc1
      obtain ⟨hc0, hc1⟩ := HBx.out w4 HB4.out
      simp only [mkE_no]
      go_wp2_with fail
      refine (C5.out w4 HB4.out).mono ?_
      rintro e w5 ⟨hb5, g5, rfl, hm5⟩
      have HB5 : Hid (Below W.heap.size W w5) := HB4.out.trans (hb5.mono HB4.out.size)
      have C7 : Hid (Calls Try.prog 13 #[.slice (some ⟨g2, 0, none⟩) F c2, .slice (some ⟨g5, 0, none⟩) F F] w5 fun e w' => e = .returned (.bool true) ∧ Below w5.heap.size w5 w') := equal_true (by omega) (HM4.out.below hb5) hm5.row (fun _ _ => rfl)
      clear hb5 hm5 C5
      go_wp2_with fail
      refine C7.out.mono ?_
      rintro e w6 ⟨rfl, hb6⟩
      have HB6 : Hid (Below W.heap.size W w6) := HB5.out.trans (hb6.mono HB5.out.size)
      clear hb6 C7 hc0 hc1
      obtain ⟨hc0, hc1⟩ := HBx.out w6 HB6.out
      go_wp2_with fail
      refine (C6.out w6 HB6.out).mono ?_
      rintro e w7 ⟨rfl, hb7⟩
      have HBw7 : Hid (Below w.heap.size w w7) := HW.out.1.trans ((HB6.out.trans (hb7.mono HB6.out.size)).mono HW.out.1.size)
      clear hb7 C6
      go_wp2
      go_ret
      exact ⟨rfl, HBw7.out⟩

end Go.Proofs.Ytpgodjinbabniaa
