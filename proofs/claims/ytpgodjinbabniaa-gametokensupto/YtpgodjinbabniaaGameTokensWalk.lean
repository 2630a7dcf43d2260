/- The law GameTokens, walked. -/
import Derived.Test.YtpgodjinbabniaaGameTok
namespace Go.Proofs.Ytpgodjinbabniaa
open Go.RowKit

/-- What steps.Of answers, by its error. -/
theorem sp_ans {e0 : Int} {l : List St3} {e : Ending} {w : World} (h : SpIs e0 l e w) :
    (spE e0 l.length ≠ 0 ∧ e = .returned (.tuple #[.slice none 0 0, .int .i64 (spE e0 l.length)])) ∨ (spE e0 l.length = 0 ∧ ∃ a c, e = .returned (.tuple #[.slice a l.length c, .int .i64 0]) ∧ Sts w a l.length (fun i => l.getD i (0, 0, 0))) := by
  rcases h with ⟨h1, rfl⟩ | ⟨rfl, h2, rfl⟩ | ⟨rfl, h2, a, c, rfl, _, h4⟩
  · rw [spE_bad h1]; exact Or.inl ⟨h1, rfl⟩
  · rw [spE_many h2]; exact Or.inl ⟨by decide, rfl⟩
  · rw [spE_ok h2]; exact Or.inr ⟨rfl, a, c, rfl, h4⟩

set_option maxRecDepth 20000 in
set_option maxHeartbeats 8000000 in
theorem gameTokens_walk {na fa : Option Addr} {N nc F fc : Nat} {M : Nat → ByteArray} {K A B : Nat → Int} {w : World} (hp : Prc w na N nc fa F M K A B) {da : Option Addr} {D dc : Nat} {d : Nat → Int} (hD : D ≤ 1048576) (hd : Row w da D d) :
    Calls Try.prog 7 #[.agg #[.slice na N nc, .slice fa F fc], .slice da D dc] w fun e w' => e = .returned (.bool true) ∧ Below w.heap.size w w' := by
  obtain ⟨e0, he⟩ := chk_ex N F M K A B
  have HP : Hid (Prc w na N nc fa F M K A B) := hp
  have HD : Hid (Row w da D d) := hd
  have HE : Hid (ChkIs N F M K A B e0) := he
  obtain ⟨W, eW⟩ : ∃ x, x = w.alloc (.cells #[.slice na N nc, .slice fa F fc] 25) := ⟨_, rfl⟩
  have HW : Hid (Below w.heap.size w W ∧ W.heap.size = w.heap.size + 1) := by subst eW; exact ⟨box_below _ _, by simp⟩
  have HBx : Hid (∀ w1, Below W.heap.size W w1 → w1.cell? ⟨w.heap.size, 0, none⟩ = some (.slice na N nc) ∧ w1.cell? ⟨w.heap.size, 1, none⟩ = some (.slice fa F fc)) := fun w1 h => by
    subst eW
    exact ⟨new_alloc h rfl, new_alloc h rfl⟩
  have HEW : Hid (w.alloc (.cells #[.slice na N nc, .slice fa F fc] 25) = W) := eW.symm
  have HPW : Hid (Prc W na N nc fa F M K A B) := hp.below HW.out.1
  have C1 : Hid (Calls Try.prog 25 #[] W fun e w' => (∃ na fa, e = .returned (.agg #[.slice na 3 3, .slice fa 2 2]) ∧ Prc w' na 3 3 fa 2 sMs sKs sAs sBs) ∧ Below W.heap.size W w') := straight_any W
  clear eW hp hd he
  go_enter Try.func7, Try.ntmps7
  go_wp2_with fail
  rw [HEW.out]
  refine C1.out.mono ?_
  rintro e w1 ⟨⟨na', fa', rfl, hp1⟩, hb1⟩
  have HB1 : Hid (Below W.heap.size W w1) := hb1
  have C2 : Hid (Calls Try.prog 12 #[.agg #[.slice na' 3 3, .slice fa' 2 2], .slice (some ⟨w1.heap.size, 0, none⟩) 2 2, .int .i64 0] (w1.alloc (.cells #[.int .i64 1, .int .i64 0] 3)) fun e w' => Below (w1.alloc (.cells #[.int .i64 1, .int .i64 0] 3)).heap.size (w1.alloc (.cells #[.int .i64 1, .int .i64 0] 3)) w' ∧ ∃ g c, e = .returned (.tuple #[.slice (some ⟨g, 0, none⟩) 2 c, .int .i64 0]) ∧ Row w' (some ⟨g, 0, none⟩) 2 (fun i => if i = 0 then 0 else 1)) := straight_fire (hp1.below (box_below _ _)) (two_row w1 1 0)
  clear hb1 hp1 C1
  go_wp2_with fail
  refine C2.out.mono ?_
  rintro e w2 ⟨hb2, g, c, rfl, hr2⟩
  have HB2 : Hid (Below W.heap.size W w2) := (HB1.out.alloc HB1.out.size _).trans (hb2.mono (by have := HB1.out.size; simp; omega))
  have C3 : Hid (Calls Try.prog 13 #[.slice (some ⟨g, 0, none⟩) 2 c, .slice (some ⟨w2.heap.size, 0, none⟩) 2 2] (w2.alloc (.cells #[.int .i64 0, .int .i64 1] 3)) fun e w' => e = .returned (.bool true) ∧ ∃ q, w' = (w2.alloc (.cells #[.int .i64 0, .int .i64 1] 3)).drewN q) := by
    have := equal_any (some ⟨g, 0, none⟩) (some ⟨w2.heap.size, 0, none⟩) 2 c 2 2 _ _ (w2.alloc (.cells #[.int .i64 0, .int .i64 1] 3)) (by omega) (hr2.below (box_below _ _)) (two_row w2 0 1)
    rwa [same_yes rfl (fun _ _ => rfl)] at this
  clear hb2 hr2 C2
  go_wp2_with fail
  refine C3.out.mono ?_
  rintro e w3 ⟨rfl, q3, hw3⟩
  have HB3 : Hid (Below W.heap.size W w3) := by subst hw3; exact below_drewn (HB2.out.alloc HB2.out.size _) _
  have HBw3 : Hid (Below w.heap.size w w3) := HW.out.1.trans (HB3.out.mono HW.out.1.size)
  obtain ⟨hc0, hc1⟩ := HBx.out w3 HB3.out
  have C4 : Hid (Calls Try.prog 26 #[.agg #[.slice na N nc, .slice fa F fc], .slice da D dc] w3 fun e w' => Below w3.heap.size w3 w' ∧ WdIs (spE e0 (stAll K A B F N).length) K A B F (stAll K A B F N) D e w') := walked_any (HPW.out.below HB3.out) HE.out hD (HD.out.below HBw3.out)
  clear hw3 C3
  go_wp2_with fail
  refine C4.out.mono ?_
  rintro e w4 ⟨hb4, hw4⟩
  have HB4 : Hid (Below W.heap.size W w4) := HB3.out.trans (hb4.mono HB3.out.size)
  have HBw4 : Hid (Below w.heap.size w w4) := HW.out.1.trans (HB4.out.mono HW.out.1.size)
  clear hc0 hc1
  obtain ⟨hc0, hc1⟩ := HBx.out w4 HB4.out
  have C5 : Hid (Calls Try.prog 27 #[.agg #[.slice na N nc, .slice fa F fc]] w4 fun e w' => Below w4.heap.size w4 w' ∧ SpIs e0 (stAll K A B F N) e w') := of_any na fa N nc F fc M K A B e0 w4 (HPW.out.below HB4.out) HE.out
  clear hb4 C4
  rcases hw4 with ⟨h1, rfl⟩ | ⟨h1, n, Ms, S, ga, gc, sa, sc, hn, rfl, hgr, hrow, hpth⟩
  · go_wp2_with fail
    refine C5.out.mono ?_
    rintro e w5 ⟨hb5, hs5⟩
    have HBw5 : Hid (Below w.heap.size w w5) := HBw4.out.trans (hb5.mono HBw4.out.size)
    rcases sp_ans hs5 with ⟨_, rfl⟩ | ⟨h2, _⟩
    · clear hb5 hs5 C5 h1
      go_wp2
      go_loop [48] (fun i => i = .int .i64 0) (fun _ => 0)
      case atStart => rfl
      case round =>
        subst hrel
        go_wp2
        go_ret
        exact ⟨rfl, HBw5.out⟩
    · exact absurd h2 h1
  · have HGr : Hid (Gr w4 ga (n + 1) (fun _ => F) Ms) := hgr
    have HRow : Hid (Row w4 sa n (fun i => (S i : Int))) := hrow
    have HPth : Hid (Pth K A B F (stAll K A B F N) n Ms S) := hpth
    have HE0 : Hid (e0 = 0 ∧ (stAll K A B F N).length ≤ 60) := spE_zero h1
    clear hgr hrow hpth
    go_wp2_with fail
    refine C5.out.mono ?_
    rintro e w5 ⟨hb5, hs5⟩
    have HB5 : Hid (Below w4.heap.size w4 w5) := hb5
    have HBW5 : Hid (Below W.heap.size W w5) := HB4.out.trans (hb5.mono HB4.out.size)
    rcases sp_ans hs5 with ⟨h2, _⟩ | ⟨_, aa, ac, rfl, hst⟩
    · exact absurd h1 h2
    · have HSt : Hid (Sts w5 aa (stAll K A B F N).length (fun i => (stAll K A B F N).getD i (0, 0, 0))) := hst
      have HEz : Hid (ChkIs N F M K A B 0) := by have := HE.out; rw [HE0.out.1] at this; exact this
      have hF30 : F ≤ 30 := (chk_zero HEz.out).1.2
      have hl60 : (stAll K A B F N).length ≤ 60 := HE0.out.2
      have HMem : Hid (∀ i, i < (stAll K A B F N).length → (stAll K A B F N).getD i (0, 0, 0) ∈ stAll K A B F N) := fun i hi => getD3_mem hi
      obtain ⟨la, hla⟩ : ∃ q, q = stAll K A B F N := ⟨_, rfl⟩
      have HLa : Hid (la = stAll K A B F N) := hla
      rw [← hla] at HSt hl60 HPth HMem ⊢
      clear hla hb5 hs5 C5 hst h1 hc0 hc1
      go_wp2
      go_loopw [48] (fun i wr => ∃ k : Nat, k ≤ n ∧ i = .int .i64 k ∧ Hid (Below w5.heap.size w5 wr)) (fun i _ => n - (intOf i).toNat)
      case atStart => exact ⟨0, Nat.zero_le _, rfl, Below.refl _ _⟩
      case round =>
        obtain ⟨k, hk, rfl, HBr⟩ := hrel
        have HBrW : Hid (Below W.heap.size W wr) := HBW5.out.trans (HBr.out.mono HBW5.out.size)
        have HBr4 : Hid (Below w4.heap.size w4 wr) := HB5.out.trans (HBr.out.mono HB5.out.size)
        have HBrw : Hid (Below w.heap.size w wr) := HW.out.1.trans (HBrW.out.mono HW.out.1.size)
        by_cases hlt : k < n
        · obtain ⟨sb, so, hsa, hsc⟩ := HRow.out
          obtain rfl := hsa (by omega)
          have hsk := row_at hsc HBr4.out hlt
          obtain ⟨hp1, hp2, hp3⟩ := HPth.out.step k hlt
          obtain ⟨ab, ao, haa, hac⟩ := HSt.out
          obtain rfl := haa (by omega)
          obtain ⟨hq0, hq1, hq2⟩ := Sts.at hac HBr.out hp1
          have hmem := HMem.out (S k) hp1
          have hmem2 := hmem
          rw [HLa.out] at hmem2
          obtain ⟨j, hj, ht1, ht2, ht4, ht5, ht6⟩ := step_kind hmem2
          rw [← HLa.out] at ht1 ht2 ht4 ht5 ht6
          have HTok : Hid (K j ≠ 3 → K j ≠ 7 → sm (Ms (k + 1)) F = sm (Ms k) F - (if K j = 6 then (tally B j F : Int) else 1) + pt (la.getD (S k) (0, 0, 0)).2.2 (tally A j F)) := fun h3 h7 => by rw [hp3]; exact tokens (by rw [HLa.out] at hmem ⊢; exact hmem) ht1 h3 h7 hp2
          have HS0 : Hid (∀ i, i < F → 0 ≤ Ms k i ∧ Ms k i ≤ 9) := HPth.out.ok k (by omega)
          have HS1 : Hid (∀ i, i < F → 0 ≤ Ms (k + 1) i ∧ Ms (k + 1) i ≤ 9) := HPth.out.ok (k + 1) (by omega)
          obtain ⟨t, ht⟩ : ∃ t, t = la.getD (S k) (0, 0, 0) := ⟨_, rfl⟩
          rw [← ht] at ht1 ht2 ht4 ht5 ht6 HTok hq0 hq1 hq2
          clear ht hmem hmem2 hp2 hp3 hac haa hsc hsa
          obtain ⟨t1, x, o⟩ := t
          simp only at ht1 ht2 ht4 ht5 ht6 hq0 hq1 hq2
          subst ht1
          generalize hSk : S k = s at *
          have hal : ab < wr.heap.size := World.block_lt_of_cell? _ _ hq0
          obtain ⟨hc0, hc1⟩ := HBx.out wr HBrW.out
          have hwl : w.heap.size < wr.heap.size := by have := HBrW.out.size; have := HW.out.2; omega
          have hsl : (s : Int) < la.length := by omega
          obtain ⟨U, eU⟩ : ∃ u, u = wr.alloc (.cells #[.int .i64 j, .int .i64 x, .int .i64 o] 41) := ⟨_, rfl⟩
          have HU : Hid (Below wr.heap.size wr U ∧ U.heap.size = wr.heap.size + 1) := by subst eU; exact ⟨box_below _ _, by simp⟩
          have HEU : Hid (wr.alloc (.cells #[.int .i64 j, .int .i64 x, .int .i64 o] 41) = U) := eU.symm
          have HBu : Hid (∀ v, Below U.heap.size U v → v.cell? ⟨wr.heap.size, 0, none⟩ = some (.int .i64 j) ∧ v.cell? ⟨wr.heap.size, 2, none⟩ = some (.int .i64 o)) := fun v hv => by
            subst eU
            exact ⟨new_alloc hv rfl, new_alloc hv rfl⟩
          have HBUW : Hid (Below W.heap.size W U) := HBrW.out.trans (HU.out.1.mono HBrW.out.size)
          have C6 : Hid (Calls Try.prog 28 #[.agg #[.slice na N nc, .slice fa F fc], .int .i64 j] U fun e w' => Below U.heap.size U w' ∧ FlIs N F B 0 j e w') := ins_any na fa N nc F fc M K A B 0 j U (HPW.out.below HBUW.out) HEz.out
          clear eU ht2 ht4
          go_wp2_with fail
          rw [HEU.out]
          refine C6.out.mono ?_
          rintro e w6 ⟨hb6, hf6⟩
          rcases hf6 with ⟨h, _⟩ | ⟨_, h, _⟩ | ⟨_, _, ia, ic, rfl, _⟩
          · exact absurd rfl h
          · exact absurd ⟨by omega, by omega⟩ h
          have HB6 : Hid (Below U.heap.size U w6) := hb6
          have HB6W : Hid (Below W.heap.size W w6) := HBUW.out.trans (hb6.mono HBUW.out.size)
          obtain ⟨hu0, hu2⟩ := HBu.out w6 hb6
          clear hc0 hc1
          obtain ⟨hc0, hc1⟩ := HBx.out w6 HB6W.out
          have C7 : Hid (Calls Try.prog 29 #[.agg #[.slice na N nc, .slice fa F fc], .int .i64 j] w6 fun e w' => Below w6.heap.size w6 w' ∧ FlIs N F A 0 j e w') := outs_any na fa N nc F fc M K A B 0 j w6 (HPW.out.below HB6W.out) HEz.out
          clear hb6 C6 hq0 hq1 hq2
          go_wp2_with fail
          refine C7.out.mono ?_
          rintro e w7 ⟨hb7, hf7⟩
          rcases hf7 with ⟨h, _⟩ | ⟨_, h, _⟩ | ⟨_, _, oa, oc, rfl, _⟩
          · exact absurd rfl h
          · exact absurd ⟨by omega, by omega⟩ h
          have HB7 : Hid (Below U.heap.size U w7) := HB6.out.trans (hb7.mono HB6.out.size)
          have HB7W : Hid (Below W.heap.size W w7) := HBUW.out.trans (HB7.out.mono HBUW.out.size)
          have HB7r : Hid (Below wr.heap.size wr w7) := HU.out.1.trans (HB7.out.mono HU.out.1.size)
          clear hu0 hu2 hc0 hc1
          obtain ⟨hu0, hu2⟩ := HBu.out w7 HB7.out
          obtain ⟨hc0, hc1⟩ := HBx.out w7 HB7W.out
          obtain ⟨nb, no, hna, hnc⟩ := (HPW.out.below HB7W.out).nds
          obtain rfl := hna (by omega)
          have hkj := (hnc j hj).2
          have hjN : (j : Int) < N := by omega
          have htA := tally_le A j F
          have htB := tally_le B j F
          clear hb7 C7 hna hnc
          by_cases hk7 : K j = 7
          · have q6 : (K j == 6) = false := beq_eq_false_iff_ne.2 (by omega)
            have q7 : (K j == 7) = true := beq_iff_eq.2 hk7
            clear hk7
            go_wp2
            go_roundw
            case rel => exact ⟨k + 1, by omega, by go_num, HBr.out.trans (HB7r.out.mono HBr.out.size)⟩
            case measure => simp [intOf]; omega
          · by_cases hk3 : K j = 3
            · have q6 : (K j == 6) = false := beq_eq_false_iff_ne.2 (by omega)
              have q7 : (K j == 7) = false := beq_eq_false_iff_ne.2 hk7
              have q3 : (K j == 3) = true := beq_iff_eq.2 hk3
              clear hk7 hk3
              go_wp2
              go_roundw
              case rel => exact ⟨k + 1, by omega, by go_num, HBr.out.trans (HB7r.out.mono HBr.out.size)⟩
              case measure => simp [intOf]; omega
            · have HT2 := HTok.out hk3 hk7
              clear HTok
              by_cases hk6 : K j = 6
              · have q6 : (K j == 6) = true := beq_iff_eq.2 hk6
                have q7 : (K j == 7) = false := beq_eq_false_iff_ne.2 hk7
                have q3 : (K j == 3) = false := beq_eq_false_iff_ne.2 hk3
                have HT3 : Hid (sm (Ms (k + 1)) F = sm (Ms k) F - ((tally B j F : Nat) : Int) + pt o (tally A j F)) := by have := HT2; rw [if_pos hk6] at this; exact this
                clear hk7 hk3 hk6 HT2
                go_wp2
                go_loop [19, 87] (fun s i => ∃ b : Nat, b ≤ tally A j F ∧ i = .int .i64 b ∧ s = .int .i64 (pt o b)) (fun _ i => tally A j F - (intOf i).toNat)
                case atStart => exact ⟨0, Nat.zero_le _, rfl, rfl⟩
                case round =>
                  obtain ⟨b, hb, rfl, rfl⟩ := hrel
                  have hpb := pt_bound o b
                  by_cases hbl : b < tally A j F
                  · have hp := two_pos b
                    have hq1 : 0 ≤ o / 2 ^ b := Int.ediv_nonneg ht5 (by omega)
                    have hq2 : o / 2 ^ b ≤ 1073741824 := by have := Int.ediv_le_self (2 ^ b) ht5; have := pow_le (o := tally A j F) (by omega); omega
                    have hand := and_one hq1 hq2
                    have hmod : 0 ≤ o / 2 ^ b % 2 ∧ o / 2 ^ b % 2 ≤ 1 := by omega
                    have HPt : Hid (pt o (b + 1) = pt o b + o / 2 ^ b % 2) := rfl
                    clear hp hq1 hq2 ht6
                    generalize pt o b = pb at *
                    go_wp2
                    go_round
                    case rel => exact ⟨b + 1, by omega, by go_num, by rw [HPt.out]⟩
                    case measure => simp [intOf]; omega
                  · obtain rfl : tally A j F = b := by omega
                    obtain ⟨gb, go, hga, hgc⟩ := HGr.out
                    obtain rfl := hga (by omega)
                    obtain ⟨x0, c0, hg0, hr0⟩ := hgc k (by omega)
                    obtain ⟨x1, c1, hg1, hr1⟩ := hgc (k + 1) (by omega)
                    have HB74 : Hid (Below w4.heap.size w4 w7) := HBr4.out.trans (HB7r.out.mono HBr4.out.size)
                    have hh0 : w7.cell? ⟨gb, go + k, none⟩ = some (.slice x0 F c0) := by rw [HB74.out.cell (p := ⟨gb, go + k, none⟩) (World.block_lt_of_cell? _ _ hg0)]; exact hg0
                    have hh1 : w7.cell? ⟨gb, go + (k + 1), none⟩ = some (.slice x1 F c1) := by rw [HB74.out.cell (p := ⟨gb, go + (k + 1), none⟩) (World.block_lt_of_cell? _ _ hg1)]; exact hg1
                    have D0 : Hid (∀ q, Calls Try.prog 30 #[.slice x0 F c0] (w7.drewN q) fun e w' => e = .returned (.int .i64 (sm (Ms k) F)) ∧ w' = w7.drewN q) := fun q => sumOf_any x0 F c0 (Ms k) _ (by omega) HS0.out ((hr0.below HB74.out).below (below_drewn (Below.refl _ _) q))
                    have D1 : Hid (∀ q, Calls Try.prog 30 #[.slice x1 F c1] (w7.drewN q) fun e w' => e = .returned (.int .i64 (sm (Ms (k + 1)) F)) ∧ w' = w7.drewN q) := fun q => sumOf_any x1 F c1 (Ms (k + 1)) _ (by omega) HS1.out ((hr1.below HB74.out).below (below_drewn (Below.refl _ _) q))
                    have hb0 := sm_bound HS0.out
                    generalize sm (Ms k) F = s0 at *
                    generalize sm (Ms (k + 1)) F = s1 at *
                    generalize pt o (tally A j F) = pp at *
                    have hwk : IntKind.i64.wrap ((k : Int) + 1) = (k : Int) + 1 := by rw [IntKind.wrap_i64]; omega
                    have hw1 : IntKind.i64.wrap (s0 - ((tally B j F : Nat) : Int)) = s0 - ((tally B j F : Nat) : Int) := by rw [IntKind.wrap_i64]; omega
                    have hw2 : IntKind.i64.wrap (s0 - ((tally B j F : Nat) : Int) + pp) = s0 - ((tally B j F : Nat) : Int) + pp := by rw [IntKind.wrap_i64]; omega
                    have hne : (s1 != s0 - ((tally B j F : Nat) : Int) + pp) = false := by rw [HT3.out]; simp
                    have hk1 : (k : Int) + 1 < (n : Int) + 1 := by omega
                    have hk0 : (k : Int) < (n : Int) + 1 := by omega
                    have htn : ((k : Int) + 1).toNat = k + 1 := by omega
                    clear hg0 hg1 hr0 hr1 hgc hga HT3 hb0 hpb
                    go_wp2
                    go_quiet (first | (go_at_call_of 30 (Value.slice x0 F c0); exact Calls.quiet_of_same (D0.out _)) | (go_at_call_of 30 (Value.slice x1 F c1); exact Calls.quiet_of_same (D1.out _)))
                    go_wp2
                    go_roundw
                    case rel => exact ⟨k + 1, by omega, by go_num, below_drewn (HBr.out.trans (HB7r.out.mono HBr.out.size)) _⟩
                    case measure => simp [intOf]; omega
              · have q6 : (K j == 6) = false := beq_eq_false_iff_ne.2 hk6
                have q7 : (K j == 7) = false := beq_eq_false_iff_ne.2 hk7
                have q3 : (K j == 3) = false := beq_eq_false_iff_ne.2 hk3
                have HT3 : Hid (sm (Ms (k + 1)) F = sm (Ms k) F - 1 + pt o (tally A j F)) := by have := HT2; rw [if_neg hk6] at this; exact this
                clear hk7 hk3 hk6 HT2
                go_wp2
                go_loop [19, 87] (fun s i => ∃ b : Nat, b ≤ tally A j F ∧ i = .int .i64 b ∧ s = .int .i64 (pt o b)) (fun _ i => tally A j F - (intOf i).toNat)
                case atStart => exact ⟨0, Nat.zero_le _, rfl, rfl⟩
                case round =>
                  obtain ⟨b, hb, rfl, rfl⟩ := hrel
                  have hpb := pt_bound o b
                  by_cases hbl : b < tally A j F
                  · have hp := two_pos b
                    have hq1 : 0 ≤ o / 2 ^ b := Int.ediv_nonneg ht5 (by omega)
                    have hq2 : o / 2 ^ b ≤ 1073741824 := by have := Int.ediv_le_self (2 ^ b) ht5; have := pow_le (o := tally A j F) (by omega); omega
                    have hand := and_one hq1 hq2
                    have hmod : 0 ≤ o / 2 ^ b % 2 ∧ o / 2 ^ b % 2 ≤ 1 := by omega
                    have HPt : Hid (pt o (b + 1) = pt o b + o / 2 ^ b % 2) := rfl
                    clear hp hq1 hq2 ht6
                    generalize pt o b = pb at *
                    go_wp2
                    go_round
                    case rel => exact ⟨b + 1, by omega, by go_num, by rw [HPt.out]⟩
                    case measure => simp [intOf]; omega
                  · obtain rfl : tally A j F = b := by omega
                    obtain ⟨gb, go, hga, hgc⟩ := HGr.out
                    obtain rfl := hga (by omega)
                    obtain ⟨x0, c0, hg0, hr0⟩ := hgc k (by omega)
                    obtain ⟨x1, c1, hg1, hr1⟩ := hgc (k + 1) (by omega)
                    have HB74 : Hid (Below w4.heap.size w4 w7) := HBr4.out.trans (HB7r.out.mono HBr4.out.size)
                    have hh0 : w7.cell? ⟨gb, go + k, none⟩ = some (.slice x0 F c0) := by rw [HB74.out.cell (p := ⟨gb, go + k, none⟩) (World.block_lt_of_cell? _ _ hg0)]; exact hg0
                    have hh1 : w7.cell? ⟨gb, go + (k + 1), none⟩ = some (.slice x1 F c1) := by rw [HB74.out.cell (p := ⟨gb, go + (k + 1), none⟩) (World.block_lt_of_cell? _ _ hg1)]; exact hg1
                    have D0 : Hid (∀ q, Calls Try.prog 30 #[.slice x0 F c0] (w7.drewN q) fun e w' => e = .returned (.int .i64 (sm (Ms k) F)) ∧ w' = w7.drewN q) := fun q => sumOf_any x0 F c0 (Ms k) _ (by omega) HS0.out ((hr0.below HB74.out).below (below_drewn (Below.refl _ _) q))
                    have D1 : Hid (∀ q, Calls Try.prog 30 #[.slice x1 F c1] (w7.drewN q) fun e w' => e = .returned (.int .i64 (sm (Ms (k + 1)) F)) ∧ w' = w7.drewN q) := fun q => sumOf_any x1 F c1 (Ms (k + 1)) _ (by omega) HS1.out ((hr1.below HB74.out).below (below_drewn (Below.refl _ _) q))
                    have hb0 := sm_bound HS0.out
                    generalize sm (Ms k) F = s0 at *
                    generalize sm (Ms (k + 1)) F = s1 at *
                    generalize pt o (tally A j F) = pp at *
                    have hwk : IntKind.i64.wrap ((k : Int) + 1) = (k : Int) + 1 := by rw [IntKind.wrap_i64]; omega
                    have hw1 : IntKind.i64.wrap (s0 - 1) = s0 - 1 := by rw [IntKind.wrap_i64]; omega
                    have hw2 : IntKind.i64.wrap (s0 - 1 + pp) = s0 - 1 + pp := by rw [IntKind.wrap_i64]; omega
                    have hne : (s1 != s0 - 1 + pp) = false := by rw [HT3.out]; simp
                    have hk1 : (k : Int) + 1 < (n : Int) + 1 := by omega
                    have hk0 : (k : Int) < (n : Int) + 1 := by omega
                    have htn : ((k : Int) + 1).toNat = k + 1 := by omega
                    clear hg0 hg1 hr0 hr1 hgc hga HT3 hb0 hpb
                    go_wp2
                    go_quiet (first | (go_at_call_of 30 (Value.slice x0 F c0); exact Calls.quiet_of_same (D0.out _)) | (go_at_call_of 30 (Value.slice x1 F c1); exact Calls.quiet_of_same (D1.out _)))
                    go_wp2
                    go_roundw
                    case rel => exact ⟨k + 1, by omega, by go_num, below_drewn (HBr.out.trans (HB7r.out.mono HBr.out.size)) _⟩
                    case measure => simp [intOf]; omega
        · go_wp2
          go_ret
          exact ⟨rfl, HBrw.out⟩

end Go.Proofs.Ytpgodjinbabniaa
