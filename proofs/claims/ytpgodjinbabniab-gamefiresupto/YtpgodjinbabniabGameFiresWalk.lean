/- The law GameFires, walked. -/
import Derived.Test.YtpgodjinbabniabGamePlay
import Derived.Test.YtpgodjinbabniabFiLeaf
import Derived.Test.YtpgodjinbabniabGameLeaf
namespace Go.Proofs.Ytpgodjinbabniab
open Go.RowKit

/-- Fire at a marking, with the number of a step. -/
theorem fire_step {na fa : Option Addr} {N nc F fc : Nat} {M : Nat → ByteArray} {K A B : Nat → Int} {w : World} (hp : Prc w na N nc fa F M K A B) (he : ChkIs N F M K A B 0) (hl : (stAll K A B F N).length ≤ 60) {ma : Option Addr} {mc : Nat} {m : Nat → Int} (hm : Row w ma F m) (h9 : ∀ i, i < F → 0 ≤ m i ∧ m i ≤ 9) {s : Nat} (hs : s < (stAll K A B F N).length) :
    Calls Try.prog 16 #[.agg #[.slice na N nc, .slice fa F fc], .slice ma F mc, .int .i64 (s : Nat)] w fun e w' => Below w.heap.size w w' ∧ FrIs w.heap.size K A B F m ((stAll K A B F N).getD s (0, 0, 0)) e w' := by
  refine (fireF_any hp he (mc := mc) (by have := hp.nF; omega) hm (s : Nat)).mono fun e w' hh => ⟨hh.1, ?_⟩
  have h := hh.2.ok (by rw [spE_ok hl, mkOk_yes h9]; rfl)
  rcases h with ⟨h1, _⟩ | ⟨_, h1⟩
  · exact absurd ⟨by omega, by omega⟩ h1
  · rw [Int.toNat_natCast] at h1
    exact h1

/-- Two walks along the same steps. -/
theorem pth_same {K A B : Nat → Int} {F : Nat} {l : List St3} {n k : Nat} {Ms Ns : Nat → Nat → Int} {S T : Nat → Nat} (h : Pth K A B F l n Ms S) (h' : Pth K A B F l k Ns T) (hk : k ≤ n) (hS : ∀ i, i < k → S i = T i) : ∀ i, i ≤ k → Ms i = Ns i
  | 0, _ => h.zero.trans h'.zero.symm
  | i + 1, hi => by
    have ih := pth_same h h' hk hS i (by omega)
    rw [(h.step i (by omega)).2.2, (h'.step i (by omega)).2.2, hS i (by omega), ih]

/-- What is walked can be played. -/
theorem play_walked {K A B : Nat → Int} {F : Nat} {l : List St3} {n : Nat} {Ms : Nat → Nat → Int} {S : Nat → Nat} (h : Pth K A B F l n Ms S) {e : Ending} {w : World} (hp : PyIs 0 K A B F l n (fun i => (S i : Int)) e w) (hn : n ≤ 500) :
    ∃ ga gc Ns, e = .returned (.tuple #[.slice ga (n + 1) gc, .int .i64 (n : Nat), .int .i64 0]) ∧ Gr w ga (n + 1) (fun _ => F) Ns ∧ ∀ i, i ≤ n → Ns i = Ms i := by
  rcases hp with ⟨h1, _⟩ | ⟨_, h1, _⟩ | ⟨_, _, k, Ns, ga, gc, y, hk, hpos, hpth, hgr, rfl, hy⟩
  · exact absurd rfl h1
  · omega
  · have hS : ∀ i, S i = ((S i : Int)).toNat := fun i => by simp
    have hsame := pth_same h hpth hk (fun i _ => hS i)
    rcases hy with ⟨rfl, rfl⟩ | ⟨hlt, hf⟩
    · exact ⟨ga, gc, Ns, rfl, hgr, fun i hi => (hsame i hi).symm⟩
    · exfalso
      obtain ⟨h1, h2, h3⟩ := h.step k hlt
      rw [← hsame k (Nat.le_refl _)] at hf
      unfold FErr at hf
      dsimp only at hf
      rcases hf with ⟨hf, _⟩ | ⟨_, hf, _⟩ | ⟨_, _, ⟨j, hj, hf⟩, _⟩
      · exact hf ⟨by omega, by omega⟩
      · exact hf (by rw [← hS]; exact h2)
      · rw [← hS, ← h3] at hf
        have := (h.ok (k + 1) (by omega) j hj).2
        omega

theorem straight_play {na fa ma : Option Addr} {mc : Nat} {w : World} (hp : Prc w na 3 3 fa 2 sMs sKs sAs sBs) (hm : Row w ma 2 (fun i => if i = 0 then 0 else 1)) :
    Calls Try.prog 9 #[.agg #[.slice na 3 3, .slice fa 2 2], .slice ma 2 mc] w fun e w' => Below w.heap.size w w' ∧ ∃ ga gc Ns, e = .returned (.tuple #[.slice ga 3 gc, .int .i64 2, .int .i64 0]) ∧ Gr w' ga 3 (fun _ => 2) Ns ∧ ∀ j, j < 2 → Ns 2 j = 0 := by
  refine (play_any hp straight_chk (dc := mc) (by omega) hm).mono fun e w' hh => ⟨hh.1, ?_⟩
  have h := hh.2
  rw [straight_E, straight_steps] at h
  let Ms : Nat → Nat → Int := fun i => if i = 0 then bgn sKs sAs else if i = 1 then frs sKs sAs sBs (1, 0, 1) (bgn sKs sAs) else frs sKs sAs sBs (2, 1, 0) (frs sKs sAs sBs (1, 0, 1) (bgn sKs sAs))
  have hpth : Pth sKs sAs sBs 2 [(1, 0, 1), (2, 1, 0)] 2 Ms (fun i => if i = 0 then 0 else 1) := by
    refine ⟨rfl, fun i hi j hj => ?_, fun i hi => ?_⟩
    · match i, hi, j, hj with
      | 0, _, 0, _ => decide
      | 0, _, 1, _ => decide
      | 1, _, 0, _ => decide
      | 1, _, 1, _ => decide
      | 2, _, 0, _ => decide
      | 2, _, 1, _ => decide
    · match i, hi with
      | 0, _ => exact ⟨by decide, Or.inl ⟨by decide, by decide⟩, rfl⟩
      | 1, _ => exact ⟨by decide, Or.inl ⟨by decide, by decide⟩, rfl⟩
  have e1 : (fun i : Nat => if i = 0 then (0 : Int) else 1) = fun i => (((if i = 0 then 0 else 1 : Nat)) : Int) := by
    funext i
    by_cases e : i = 0 <;> simp [e]
  rw [e1] at h
  obtain ⟨ga, gc, Ns, rfl, hgr, hN⟩ := play_walked hpth h (by omega)
  refine ⟨ga, gc, Ns, rfl, hgr, fun j hj => ?_⟩
  rw [hN 2 (Nat.le_refl _)]
  match j, hj with
  | 0, _ => decide
  | 1, _ => decide

set_option maxRecDepth 20000 in
set_option maxHeartbeats 8000000 in
theorem gameFires_walk {na fa : Option Addr} {N nc F fc : Nat} {M : Nat → ByteArray} {K A B : Nat → Int} {w : World} (hp : Prc w na N nc fa F M K A B) {da : Option Addr} {D dc : Nat} {d : Nat → Int} (hD : D ≤ 1048576) (hd : Row w da D d) :
    Calls Try.prog 3 #[.agg #[.slice na N nc, .slice fa F fc], .slice da D dc] w fun e w' => e = .returned (.bool true) ∧ Below w.heap.size w w' := by
  obtain ⟨e0, he⟩ := chk_ex N F M K A B
  have HP : Hid (Prc w na N nc fa F M K A B) := hp
  have HD : Hid (Row w da D d) := hd
  have HE : Hid (ChkIs N F M K A B e0) := he
  obtain ⟨W, eW⟩ : ∃ x, x = w.alloc (.cells #[.slice na N nc, .slice fa F fc] 25) := ⟨_, rfl⟩
  have HW : Hid (Below w.heap.size w W ∧ W.heap.size = w.heap.size + 1) := by subst eW; exact ⟨box_below _ _, by simp⟩
  have HBx : Hid (∀ w1, Below W.heap.size W w1 → w1.cell? ⟨w.heap.size, 0, none⟩ = some (.slice na N nc) ∧ w1.cell? ⟨w.heap.size, 1, none⟩ = some (.slice fa F fc)) := fun w1 h => by
    subst eW
    exact ⟨new_alloc h rfl, new_alloc h rfl⟩
  have HEW : Hid (w.alloc (.cells #[.slice na N nc, .slice fa F fc] 25) = W) := eW.symm
  have HPW : Hid (Prc W na N nc fa F M K A B) := hp.below HW.out.1
  have C1 : Hid (Calls Try.prog 10 #[] W fun e w' => (∃ na fa, e = .returned (.agg #[.slice na 3 3, .slice fa 2 2]) ∧ Prc w' na 3 3 fa 2 sMs sKs sAs sBs) ∧ Below W.heap.size W w') := straight_any W
  clear eW hp hd he
  go_enter Try.func3, Try.ntmps3
  go_wp2_with fail
  rw [HEW.out]
  refine C1.out.mono ?_
  rintro e w1 ⟨⟨na', fa', rfl, hp1⟩, hb1⟩
  have HB1 : Hid (Below W.heap.size W w1) := hb1
  have C2 : Hid (Calls Try.prog 9 #[.agg #[.slice na' 3 3, .slice fa' 2 2], .slice (some ⟨w1.heap.size, 0, none⟩) 2 2] (w1.alloc (.cells #[.int .i64 0, .int .i64 1] 3)) fun e w' => Below (w1.alloc (.cells #[.int .i64 0, .int .i64 1] 3)).heap.size (w1.alloc (.cells #[.int .i64 0, .int .i64 1] 3)) w' ∧ ∃ ga gc Ns, e = .returned (.tuple #[.slice ga 3 gc, .int .i64 2, .int .i64 0]) ∧ Gr w' ga 3 (fun _ => 2) Ns ∧ ∀ j, j < 2 → Ns 2 j = 0) := straight_play (hp1.below (box_below _ _)) (two_row w1 0 1)
  clear hb1 hp1 C1
  go_wp2_with fail
  refine C2.out.mono ?_
  rintro e w2 ⟨hb2, ga, gc, Ns, rfl, hgr2, hN2⟩
  have HB2 : Hid (Below W.heap.size W w2) := (HB1.out.alloc HB1.out.size _).trans (hb2.mono (by have := HB1.out.size; simp; omega))
  obtain ⟨gb, go, hga, hgc⟩ := hgr2
  obtain rfl := hga (by omega)
  obtain ⟨ra, rc, hg2, hr2⟩ := hgc 2 (by omega)
  have hgl : gb < w2.heap.size := World.block_lt_of_cell? _ _ hg2
  have C3 : Hid (Calls Try.prog 11 #[.slice ra 2 rc, .slice (some ⟨w2.heap.size, 0, none⟩) 2 2] (w2.alloc (.cells #[.int .i64 0, .int .i64 0] 3)) fun e w' => e = .returned (.bool true) ∧ ∃ q, w' = (w2.alloc (.cells #[.int .i64 0, .int .i64 0] 3)).drewN q) := by
    have := equal_any ra (some ⟨w2.heap.size, 0, none⟩) 2 rc 2 2 _ _ (w2.alloc (.cells #[.int .i64 0, .int .i64 0] 3)) (by omega) (hr2.below (box_below _ _)) (two_row w2 0 0)
    rwa [same_yes rfl (fun i hi => by rw [hN2 i hi]; split <;> rfl)] at this
  clear hb2 hr2 hgc hga hN2 C2
  go_wp2_with fail
  refine C3.out.mono ?_
  rintro e w3 ⟨rfl, q3, hw3⟩
  have HB3 : Hid (Below W.heap.size W w3) := by subst hw3; exact below_drewn (HB2.out.alloc HB2.out.size _) _
  have HBw3 : Hid (Below w.heap.size w w3) := HW.out.1.trans (HB3.out.mono HW.out.1.size)
  obtain ⟨hc0, hc1⟩ := HBx.out w3 HB3.out
  have C4 : Hid (Calls Try.prog 12 #[.agg #[.slice na N nc, .slice fa F fc], .slice da D dc] w3 fun e w' => Below w3.heap.size w3 w' ∧ WdIs (spE e0 (stAll K A B F N).length) K A B F (stAll K A B F N) D e w') := walked_any (HPW.out.below HB3.out) HE.out hD (HD.out.below HBw3.out)
  clear hw3 C3 hg2 hgl
  go_wp2_with fail
  refine C4.out.mono ?_
  rintro e w4 ⟨hb4, hw4⟩
  have HB4 : Hid (Below W.heap.size W w4) := HB3.out.trans (hb4.mono HB3.out.size)
  have HBw4 : Hid (Below w.heap.size w w4) := HW.out.1.trans (HB4.out.mono HW.out.1.size)
  clear hc0 hc1
  obtain ⟨hc0, hc1⟩ := HBx.out w4 HB4.out
  clear hb4 C4
  rcases hw4 with ⟨h1, rfl⟩ | ⟨h1, n, Ms, S, ga, gc, sa, sc, hn, rfl, hgr, hrow, hpth⟩
  · have C5 : Hid (Calls Try.prog 9 #[.agg #[.slice na N nc, .slice fa F fc], .slice none 0 0] w4 fun e w' => Below w4.heap.size w4 w' ∧ PyIs (spE e0 (stAll K A B F N).length) K A B F (stAll K A B F N) 0 (fun _ => 0) e w') := play_any (HPW.out.below HB4.out) HE.out (by omega) (row_zero _ _ _)
    generalize hEE : spE e0 (stAll K A B F N).length = E at *
    have hE' : (E != 0) = true := by rw [bne_iff_ne]; exact h1
    clear hEE
    go_wp2_with fail
    refine C5.out.mono ?_
    rintro e w5 ⟨hb5, hp5⟩
    have HBw5 : Hid (Below w.heap.size w w5) := HBw4.out.trans (hb5.mono HBw4.out.size)
    rcases hp5 with ⟨_, rfl⟩ | ⟨h2, _⟩ | ⟨h2, _⟩
    · clear hb5 C5 h1
      go_wp2
      go_ret
      exact ⟨rfl, HBw5.out⟩
    · exact absurd h2 h1
    · exact absurd h2 h1
  · have HGr : Hid (Gr w4 ga (n + 1) (fun _ => F) Ms) := hgr
    have HPth : Hid (Pth K A B F (stAll K A B F N) n Ms S) := hpth
    have H9 : Hid (∀ i, i < F → 0 ≤ Ms n i ∧ Ms n i ≤ 9) := hpth.ok n (Nat.le_refl _)
    have HE0 : Hid (e0 = 0 ∧ (stAll K A B F N).length ≤ 60) := spE_zero h1
    have HEz : Hid (ChkIs N F M K A B 0) := by have := HE.out; rw [HE0.out.1] at this; exact this
    have hF30 : F ≤ 30 := (chk_zero HEz.out).1.2
    have hl60 : (stAll K A B F N).length ≤ 60 := HE0.out.2
    have C5 : Hid (Calls Try.prog 9 #[.agg #[.slice na N nc, .slice fa F fc], .slice sa n sc] w4 fun e w' => Below w4.heap.size w4 w' ∧ PyIs 0 K A B F (stAll K A B F N) n (fun i => (S i : Int)) e w') := by
      have := play_any (HPW.out.below HB4.out) HE.out (dc := sc) (fc := fc) (by omega) hrow
      rwa [h1] at this
    have hnz : (((n : Int) + 1) == 0) = false := beq_eq_false_iff_ne.2 (by omega)
    have hn1 : IntKind.i64.wrap ((n : Int) + 1 - 1) = n := by rw [IntKind.wrap_i64]; omega
    clear hgr hrow hpth
    go_wp2_with fail
    refine C5.out.mono ?_
    rintro e w5 ⟨hb5, hp5⟩
    have HB5 : Hid (Below w4.heap.size w4 w5) := hb5
    have HB5W : Hid (Below W.heap.size W w5) := HB4.out.trans (hb5.mono HB4.out.size)
    by_cases h500 : n ≤ 500
    · obtain ⟨pa, pc, Ns, rfl, hgrN, hNs⟩ := play_walked HPth.out hp5 h500
      have h5i : (n : Int) ≤ 500 := by omega
      have C6 : Hid (Calls Try.prog 13 #[.slice pa (n + 1) pc, .slice ga (n + 1) gc] w5 fun e w' => e = .returned (.bool true) ∧ ∃ q, w' = w5.drewN q) := by
        have := listsK_any pa ga (n + 1) pc (n + 1) gc (fun _ => F) (fun _ => F) Ns Ms w5 (by omega) (fun _ _ => by omega) hgrN (HGr.out.below hb5)
        rwa [sameG_yes rfl (fun r hr => same_yes rfl (fun i _ => by rw [hNs r (by omega)]))] at this
      clear hb5 hp5 hgrN hNs C5 hc0 hc1 h500
      go_wp2_with fail
      refine C6.out.mono ?_
      rintro e w6 ⟨rfl, q6, hw6⟩
      have HB6 : Hid (Below w4.heap.size w4 w6) := by subst hw6; exact below_drewn HB5.out _
      clear hw6 C6
      have HT4 : Hid (Below w4.heap.size w4 w6) := HB6.out
      have HTW : Hid (Below W.heap.size W w6) := HB4.out.trans (HB6.out.mono HB4.out.size)
      obtain ⟨hc0, hc1⟩ := HBx.out w6 HTW.out
      obtain ⟨gb, go, hga, hgc⟩ := HGr.out
      obtain rfl := hga (by omega)
      obtain ⟨ma, mc, hgn, hrn⟩ := hgc n (by omega)
      have hgn' : w6.cell? ⟨gb, go + n, none⟩ = some (.slice ma F mc) := (HT4.out.cell (p := ⟨gb, go + n, none⟩) (World.block_lt_of_cell? _ _ hgn)).trans hgn
      have HRn : Hid (Row w6 ma F (Ms n)) := hrn.below HT4.out
      generalize hmm : Ms n = m at *
      obtain ⟨X, hX⟩ : ∃ X : Nat → Int, ∀ i, X i = 1 ↔ enb K A B F m ((stAll K A B F N).getD i (0, 0, 0)) := ⟨fun i => @ite Int (enb K A B F m ((stAll K A B F N).getD i (0, 0, 0))) (Classical.propDecidable _) 1 0, fun i => by simp⟩
      have HX : Hid (∀ i, X i = 1 ↔ enb K A B F m ((stAll K A B F N).getD i (0, 0, 0))) := hX
      have C7 : Hid (Calls Try.prog 14 #[.agg #[.slice na N nc, .slice fa F fc], .slice ma F mc] w6 fun e w' => Below w6.heap.size w6 w' ∧ Lst (tally X 1 (stAll K A B F N).length) (fun i => (fl X 1 (stAll K A B F N).length).getD i 0) e w') := by
        refine (enabledF_any (HPW.out.below HTW.out) HE.out (mc := mc) (by omega) HRn.out X (fun i _ => HX.out i)).mono fun e w' hh => ⟨hh.1, hh.2.ok ?_⟩
        rw [h1, mkOk_yes H9.out]; rfl
      clear hX hgc hga hrn hgn hmm
      go_wp2_with fail
      refine C7.out.mono ?_
      rintro e w7 ⟨hb7, ca, cc, rfl, hcan⟩
      have HB7 : Hid (Below W.heap.size W w7) := HTW.out.trans (hb7.mono HTW.out.size)
      have HR7 : Hid (Row w7 ma F m) := HRn.out.below hb7
      have HCan : Hid (Row w7 ca (tally X 1 (stAll K A B F N).length) (fun i => (fl X 1 (stAll K A B F N).length).getD i 0)) := hcan
      clear hc0 hc1 hgn'
      obtain ⟨hc0, hc1⟩ := HBx.out w7 HB7.out
      have C8 : Hid (Calls Try.prog 15 #[.agg #[.slice na N nc, .slice fa F fc]] w7 fun e w' => Below w7.heap.size w7 w' ∧ SpIs e0 (stAll K A B F N) e w') := of_any na fa N nc F fc M K A B e0 w7 (HPW.out.below HB7.out) HE.out
      clear hb7 hcan C7
      go_wp2_with fail
      refine C8.out.mono ?_
      rintro e w8 ⟨hb8, hs8⟩
      have HB8 : Hid (Below W.heap.size W w8) := HB7.out.trans (hb8.mono HB7.out.size)
      have HB78 : Hid (Below w7.heap.size w7 w8) := hb8
      rcases sp_ans hs8 with ⟨h2, _⟩ | ⟨_, aa, ac, rfl, _⟩
      · exact absurd h1 h2
      have htl := tally_le X 1 (stAll K A B F N).length
      clear hc0 hc1 hb8 hs8 C8 h1
      go_wp2
      go_loopw [116] (fun i wr => ∃ k : Nat, k ≤ (stAll K A B F N).length ∧ i = .int .i64 k ∧ Hid (Below w8.heap.size w8 wr)) (fun i _ => (stAll K A B F N).length - (intOf i).toNat)
      case atStart => exact ⟨0, Nat.zero_le _, rfl, Below.refl _ _⟩
      case round =>
        obtain ⟨k, hk, rfl, HBr⟩ := hrel
        have HBr7 : Hid (Below w7.heap.size w7 wr) := HB78.out.trans (HBr.out.mono HB78.out.size)
        have HBrW : Hid (Below W.heap.size W wr) := HB8.out.trans (HBr.out.mono HB8.out.size)
        have HBrw : Hid (Below w.heap.size w wr) := HW.out.1.trans (HBrW.out.mono HW.out.1.size)
        by_cases hlt : k < (stAll K A B F N).length
        · obtain ⟨hc0, hc1⟩ := HBx.out wr HBrW.out
          have C9 : Hid (Calls Try.prog 16 #[.agg #[.slice na N nc, .slice fa F fc], .slice ma F mc, .int .i64 (k : Nat)] wr fun e w' => Below wr.heap.size wr w' ∧ FrIs wr.heap.size K A B F m ((stAll K A B F N).getD k (0, 0, 0)) e w') := fire_step (HPW.out.below HBrW.out) HEz.out hl60 (HR7.out.below HBr7.out) H9.out hlt
          go_wp2_with fail
          refine C9.out.mono ?_
          rintro e w9 ⟨hb9, hf9⟩
          have HB9 : Hid (Below w8.heap.size w8 w9) := HBr.out.trans (hb9.mono HBr.out.size)
          have C10 : Hid (Calls Try.prog 17 #[.slice ca (tally X 1 (stAll K A B F N).length) cc, .int .i64 (k : Nat)] w9 fun e w' => e = .returned (.bool (has (tally X 1 (stAll K A B F N).length) (fun i => (fl X 1 (stAll K A B F N).length).getD i 0) (k : Nat))) ∧ w' = w9) := contains_any ca _ cc _ _ w9 (by omega) ((HCan.out.below HBr7.out).below hb9)
          have hhas : has (tally X 1 (stAll K A B F N).length) (fun i => (fl X 1 (stAll K A B F N).length).getD i 0) (k : Nat) = true ↔ enb K A B F m ((stAll K A B F N).getD k (0, 0, 0)) := by
            rw [has_fl, ← HX.out k]
            constructor
            · rintro ⟨j, hj, _, hx⟩
              obtain rfl : k = j := by omega
              exact hx
            · intro hx
              exact ⟨k, rfl, hlt, hx⟩
          rcases hf9 with ⟨hen, rfl⟩ | ⟨hen, _, rfl⟩ | ⟨hen, _, g9, c9, _, rfl, _⟩
          · have hh : has (tally X 1 (stAll K A B F N).length) (fun i => (fl X 1 (stAll K A B F N).length).getD i 0) (k : Nat) = false := by
              cases hq : has (tally X 1 (stAll K A B F N).length) (fun i => (fl X 1 (stAll K A B F N).length).getD i 0) (k : Nat)
              · rfl
              · exact absurd (hhas.1 hq) hen
            rw [hh] at C10
            clear hh hhas hen hb9 C9 hc0 hc1
            go_wp2_with fail
            refine C10.out.mono ?_
            rintro e w10 ⟨rfl, rfl⟩
            clear C10
            go_wp2
            go_roundw
            case rel => exact ⟨k + 1, by omega, by go_num, HB9.out⟩
            case measure => simp [intOf]; omega
          all_goals
            rw [hhas.2 hen] at C10
            clear hhas hen hb9 C9 hc0 hc1
            go_wp2_with fail
            refine C10.out.mono ?_
            rintro e w10 ⟨rfl, rfl⟩
            clear C10
            go_wp2
            go_roundw
            case rel => exact ⟨k + 1, by omega, by go_num, HB9.out⟩
            case measure => simp [intOf]; omega
        · go_wp2
          go_ret
          exact ⟨rfl, HBrw.out⟩
    · have h5i : ¬ (n : Int) ≤ 500 := by omega
      rcases hp5 with ⟨h2, _⟩ | ⟨_, _, rfl⟩ | ⟨_, h2, _⟩
      · exact absurd rfl h2
      · have HB6 : Hid (Below w4.heap.size w4 w5) := HB5.out
        clear hb5 C5 hc0 hc1 h500
        have HT4 : Hid (Below w4.heap.size w4 w5) := HB6.out
        have HTW : Hid (Below W.heap.size W w5) := HB4.out.trans (HB6.out.mono HB4.out.size)
        obtain ⟨hc0, hc1⟩ := HBx.out w5 HTW.out
        obtain ⟨gb, go, hga, hgc⟩ := HGr.out
        obtain rfl := hga (by omega)
        obtain ⟨ma, mc, hgn, hrn⟩ := hgc n (by omega)
        have hgn' : w5.cell? ⟨gb, go + n, none⟩ = some (.slice ma F mc) := (HT4.out.cell (p := ⟨gb, go + n, none⟩) (World.block_lt_of_cell? _ _ hgn)).trans hgn
        have HRn : Hid (Row w5 ma F (Ms n)) := hrn.below HT4.out
        generalize hmm : Ms n = m at *
        obtain ⟨X, hX⟩ : ∃ X : Nat → Int, ∀ i, X i = 1 ↔ enb K A B F m ((stAll K A B F N).getD i (0, 0, 0)) := ⟨fun i => @ite Int (enb K A B F m ((stAll K A B F N).getD i (0, 0, 0))) (Classical.propDecidable _) 1 0, fun i => by simp⟩
        have HX : Hid (∀ i, X i = 1 ↔ enb K A B F m ((stAll K A B F N).getD i (0, 0, 0))) := hX
        have C7 : Hid (Calls Try.prog 14 #[.agg #[.slice na N nc, .slice fa F fc], .slice ma F mc] w5 fun e w' => Below w5.heap.size w5 w' ∧ Lst (tally X 1 (stAll K A B F N).length) (fun i => (fl X 1 (stAll K A B F N).length).getD i 0) e w') := by
          refine (enabledF_any (HPW.out.below HTW.out) HE.out (mc := mc) (by omega) HRn.out X (fun i _ => HX.out i)).mono fun e w' hh => ⟨hh.1, hh.2.ok ?_⟩
          rw [h1, mkOk_yes H9.out]; rfl
        clear hX hgc hga hrn hgn hmm
        go_wp2_with fail
        refine C7.out.mono ?_
        rintro e w7 ⟨hb7, ca, cc, rfl, hcan⟩
        have HB7 : Hid (Below W.heap.size W w7) := HTW.out.trans (hb7.mono HTW.out.size)
        have HR7 : Hid (Row w7 ma F m) := HRn.out.below hb7
        have HCan : Hid (Row w7 ca (tally X 1 (stAll K A B F N).length) (fun i => (fl X 1 (stAll K A B F N).length).getD i 0)) := hcan
        clear hc0 hc1 hgn'
        obtain ⟨hc0, hc1⟩ := HBx.out w7 HB7.out
        have C8 : Hid (Calls Try.prog 15 #[.agg #[.slice na N nc, .slice fa F fc]] w7 fun e w' => Below w7.heap.size w7 w' ∧ SpIs e0 (stAll K A B F N) e w') := of_any na fa N nc F fc M K A B e0 w7 (HPW.out.below HB7.out) HE.out
        clear hb7 hcan C7
        go_wp2_with fail
        refine C8.out.mono ?_
        rintro e w8 ⟨hb8, hs8⟩
        have HB8 : Hid (Below W.heap.size W w8) := HB7.out.trans (hb8.mono HB7.out.size)
        have HB78 : Hid (Below w7.heap.size w7 w8) := hb8
        rcases sp_ans hs8 with ⟨h2, _⟩ | ⟨_, aa, ac, rfl, _⟩
        · exact absurd h1 h2
        have htl := tally_le X 1 (stAll K A B F N).length
        clear hc0 hc1 hb8 hs8 C8 h1
        go_wp2
        go_loopw [116] (fun i wr => ∃ k : Nat, k ≤ (stAll K A B F N).length ∧ i = .int .i64 k ∧ Hid (Below w8.heap.size w8 wr)) (fun i _ => (stAll K A B F N).length - (intOf i).toNat)
        case atStart => exact ⟨0, Nat.zero_le _, rfl, Below.refl _ _⟩
        case round =>
          obtain ⟨k, hk, rfl, HBr⟩ := hrel
          have HBr7 : Hid (Below w7.heap.size w7 wr) := HB78.out.trans (HBr.out.mono HB78.out.size)
          have HBrW : Hid (Below W.heap.size W wr) := HB8.out.trans (HBr.out.mono HB8.out.size)
          have HBrw : Hid (Below w.heap.size w wr) := HW.out.1.trans (HBrW.out.mono HW.out.1.size)
          by_cases hlt : k < (stAll K A B F N).length
          · obtain ⟨hc0, hc1⟩ := HBx.out wr HBrW.out
            have C9 : Hid (Calls Try.prog 16 #[.agg #[.slice na N nc, .slice fa F fc], .slice ma F mc, .int .i64 (k : Nat)] wr fun e w' => Below wr.heap.size wr w' ∧ FrIs wr.heap.size K A B F m ((stAll K A B F N).getD k (0, 0, 0)) e w') := fire_step (HPW.out.below HBrW.out) HEz.out hl60 (HR7.out.below HBr7.out) H9.out hlt
            go_wp2_with fail
            refine C9.out.mono ?_
            rintro e w9 ⟨hb9, hf9⟩
            have HB9 : Hid (Below w8.heap.size w8 w9) := HBr.out.trans (hb9.mono HBr.out.size)
            have C10 : Hid (Calls Try.prog 17 #[.slice ca (tally X 1 (stAll K A B F N).length) cc, .int .i64 (k : Nat)] w9 fun e w' => e = .returned (.bool (has (tally X 1 (stAll K A B F N).length) (fun i => (fl X 1 (stAll K A B F N).length).getD i 0) (k : Nat))) ∧ w' = w9) := contains_any ca _ cc _ _ w9 (by omega) ((HCan.out.below HBr7.out).below hb9)
            have hhas : has (tally X 1 (stAll K A B F N).length) (fun i => (fl X 1 (stAll K A B F N).length).getD i 0) (k : Nat) = true ↔ enb K A B F m ((stAll K A B F N).getD k (0, 0, 0)) := by
              rw [has_fl, ← HX.out k]
              constructor
              · rintro ⟨j, hj, _, hx⟩
                obtain rfl : k = j := by omega
                exact hx
              · intro hx
                exact ⟨k, rfl, hlt, hx⟩
            rcases hf9 with ⟨hen, rfl⟩ | ⟨hen, _, rfl⟩ | ⟨hen, _, g9, c9, _, rfl, _⟩
            · have hh : has (tally X 1 (stAll K A B F N).length) (fun i => (fl X 1 (stAll K A B F N).length).getD i 0) (k : Nat) = false := by
                cases hq : has (tally X 1 (stAll K A B F N).length) (fun i => (fl X 1 (stAll K A B F N).length).getD i 0) (k : Nat)
                · rfl
                · exact absurd (hhas.1 hq) hen
              rw [hh] at C10
              clear hh hhas hen hb9 C9 hc0 hc1
              go_wp2_with fail
              refine C10.out.mono ?_
              rintro e w10 ⟨rfl, rfl⟩
              clear C10
              go_wp2
              go_roundw
              case rel => exact ⟨k + 1, by omega, by go_num, HB9.out⟩
              case measure => simp [intOf]; omega
            all_goals
              rw [hhas.2 hen] at C10
              clear hhas hen hb9 C9 hc0 hc1
              go_wp2_with fail
              refine C10.out.mono ?_
              rintro e w10 ⟨rfl, rfl⟩
              clear C10
              go_wp2
              go_roundw
              case rel => exact ⟨k + 1, by omega, by go_num, HB9.out⟩
              case measure => simp [intOf]; omega
          · go_wp2
            go_ret
            exact ⟨rfl, HBrw.out⟩
      · omega

end Go.Proofs.Ytpgodjinbabniab
