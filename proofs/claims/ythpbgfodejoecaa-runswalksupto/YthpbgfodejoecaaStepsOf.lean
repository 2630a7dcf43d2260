/- ofNode, Of. -/
import Derived.Test.YthpbgfodejoecaaStepsLeaf
namespace Go.Proofs.Ythpbgfodejoecaa
open Go.RowKit

theorem owns_base {w : World} {b b' e s n : Nat} {v : Value} {xs : List Value} (h : w.ownsRow b' e s v n xs) (hb : b ≤ b') : w.ownsRow b e s v n xs := by
  refine ⟨h.1, ?_⟩
  rcases h.2 with h0 | ⟨g, cap, cur, h1, h2, h3⟩
  · exact Or.inl h0
  · exact Or.inr ⟨g, cap, cur, h1, Nat.le_trans hb h2, h3⟩

/-- A list of steps is answered that nothing else holds. -/
def StOwn (B : Nat) (l : List St3) (e : Ending) (w : World) : Prop :=
  ∃ a c, e = .returned (.slice a l.length c) ∧ w.ownsRow B 66 3 (.slice a l.length c) l.length (vals3 l)

theorem pairs_own {n : Int} {a1 a2 : Option Addr} {c1 c2 : Nat} {L1 L2 : List Int} {n1 n2 : Nat} {w : World} {b : Nat} (e1 : n1 = L1.length) (e2 : n2 = L2.length) (hl1 : n1 ≤ 30) (hl2 : n2 ≤ 1073741824) (h1 : Row w a1 n1 (fun i => L1.getD i 0)) (h2 : Row w a2 n2 (fun i => L2.getD i 0)) (hb : b ≤ w.heap.size) {l : List St3} (hl : prs n L1 L2 = l) :
    Calls Try.prog 84 #[.int .i64 n, .slice a1 n1 c1, .slice a2 n2 c2] w fun e w' => Below w.heap.size w w' ∧ StOwn b l e w' := by
  subst hl
  refine (pairs_any n a1 a2 c1 c2 L1 L2 n1 n2 w e1 e2 hl1 hl2 h1 h2).mono ?_
  rintro e w' ⟨h, a, c, rfl, ho⟩
  have e : (prs n L1 L2).length = n1 * n2 := by rw [prs_len, e1, e2]
  exact ⟨h, a, c, by rw [e], by rw [e]; exact owns_base ho hb⟩

theorem one_row' (w : World) (r : Int) (t : TypeId) : Row (w.alloc (.cells #[.int .i64 r] t)) (some ⟨w.heap.size, 0, none⟩) 1 (fun i => [r].getD i 0) :=
  ⟨w.heap.size, 0, fun _ => rfl, fun i hi => by
    obtain rfl : i = 0 := by omega
    exact cell_of_alloc rfl⟩

theorem stK_xor {n k : Int} {ins : List Int} {o : Nat} (h : k = 4 ∨ k = 5) : prs n ins (sng o) = stK n k ins o := by unfold stK; rw [if_pos h]
theorem stK_and {n : Int} {ins : List Int} {o : Nat} : prs n [-1] [2 ^ o - 1] = stK n 6 ins o := by unfold stK; rw [if_neg (by decide), if_pos rfl]
theorem stK_or {n : Int} {ins : List Int} {o : Nat} : prs n [-1] (upTo (2 ^ o - 1)) = stK n 7 ins o := by unfold stK; rw [if_neg (by decide), if_neg (by decide), if_pos rfl]
theorem stK_end {n k : Int} {ins : List Int} {o : Nat} (h : k = 2 ∨ k = 3) : prs n ins [0] = stK n k ins o := by unfold stK; rw [if_neg (by omega), if_neg (by omega), if_neg (by omega), if_pos h]
theorem stK_no {n k : Int} {ins : List Int} {o : Nat} (h4 : k ≠ 4) (h5 : k ≠ 5) (h6 : k ≠ 6) (h7 : k ≠ 7) (h2 : k ≠ 2) (h3 : k ≠ 3) : stK n k ins o = [] := by unfold stK; rw [if_neg (by omega), if_neg (by omega), if_neg (by omega), if_neg (by omega)]

set_option maxHeartbeats 4000000 in
theorem ofNode_aux (na fa : Option Addr) (N nc F fc : Nat) (M : Nat → ByteArray) (K A B : Nat → Int) (k : Nat) (w : World) (hp : Prc w na N nc fa F M K A B) (he : ChkIs N F M K A B 0) (hk : k < N) (κ : Int) (oA oB : Nat) (lB : List Int) (hκ : K k = κ) (hoA : tally A k F = oA) (hoB : tally B k F = oB) (hlB : fl B k F = lB) :
    Calls Try.prog 50 #[.agg #[.slice na N nc, .slice fa F fc], .int .i64 k] w fun e w' => Below w.heap.size w w' ∧ StOwn w.heap.size (stK k κ lB oA) e w' := by
  have HEq : Hid (K k = κ ∧ tally A k F = oA ∧ tally B k F = oB ∧ fl B k F = lB) := ⟨hκ, hoA, hoB, hlB⟩
  have htB : oB ≤ 30 := by have := tally_le B k F; have := (chk_zero he).1.2; omega
  have htA : oA ≤ 30 := by have := tally_le A k F; have := (chk_zero he).1.2; omega
  clear hκ hoA hoB hlB
  have HE : Hid (ChkIs N F M K A B 0) := he
  have HP : Hid (Prc w na N nc fa F M K A B) := hp
  have hN20 : N ≤ 20 := (chk_zero he).1.1
  have hF30 : F ≤ 30 := (chk_zero he).1.2
  clear he hp
  obtain ⟨W, eW⟩ : ∃ x, x = w.alloc (.cells #[.slice na N nc, .slice fa F fc] 25) := ⟨_, rfl⟩
  have HW : Hid (Below w.heap.size w W ∧ W.heap.size = w.heap.size + 1) := by subst eW; exact ⟨box_below _ _, by simp⟩
  have HBx : Hid (∀ w1, Below W.heap.size W w1 → w1.cell? ⟨w.heap.size, 0, none⟩ = some (.slice na N nc) ∧ w1.cell? ⟨w.heap.size, 1, none⟩ = some (.slice fa F fc)) := fun w1 h => by
    have h' : Below (w.heap.size + 1) (w.alloc (.cells #[.slice na N nc, .slice fa F fc] 25)) w1 := by rw [← HW.out.2, ← eW]; exact h
    exact ⟨box_keep h' rfl, box_keep h' rfl⟩
  have HEW : Hid (w.alloc (.cells #[.slice na N nc, .slice fa F fc] 25) = W) := eW.symm
  have HPW : Hid (Prc W na N nc fa F M K A B) := HP.out.below HW.out.1
  clear eW
  have C1 : Hid (Calls Try.prog 82 #[.agg #[.slice na N nc, .slice fa F fc], .int .i64 k] W fun e w' => ∃ a c, e = .returned (.tuple #[.slice a oB c, .int .i64 0]) ∧ Row w' a oB (fun i => lB.getD i 0) ∧ Below W.heap.size W w') := by
    rw [← HEq.out.2.2.1, ← HEq.out.2.2.2]
    refine (ins_any na fa N nc F fc M K A B 0 k W HPW.out HE.out).mono ?_
    rintro e w' ⟨h1, ⟨h2, _⟩ | ⟨_, h2, _⟩ | ⟨_, _, a, c, rfl, hr⟩⟩
    · exact absurd rfl h2
    · exact absurd ⟨by omega, by omega⟩ h2
    · exact ⟨a, c, rfl, hr, h1⟩
  go_enter Try.func50, Try.ntmps50
  go_wp2_with fail
  rw [HEW.out]
  refine C1.out.mono ?_
  rintro e w1 ⟨a1, c1, rfl, hr1, hb1⟩
  have HB1 : Hid (Below W.heap.size W w1) := hb1
  obtain ⟨hc0, hc1⟩ := HBx.out w1 hb1
  have HP1 : Hid (Prc w1 na N nc fa F M K A B) := HPW.out.below hb1
  have C2 : Hid (Calls Try.prog 83 #[.agg #[.slice na N nc, .slice fa F fc], .int .i64 k] w1 fun e w' => ∃ a c, e = .returned (.tuple #[.slice a oA c, .int .i64 0]) ∧ Row w' a oA (fun i => (fl A k F).getD i 0) ∧ Below w1.heap.size w1 w') := by
    rw [← HEq.out.2.1]
    refine (outs_any na fa N nc F fc M K A B 0 k w1 HP1.out HE.out).mono ?_
    rintro e w' ⟨h1, ⟨h2, _⟩ | ⟨_, h2, _⟩ | ⟨_, _, a, c, rfl, hr⟩⟩
    · exact absurd rfl h2
    · exact absurd ⟨by omega, by omega⟩ h2
    · exact ⟨a, c, rfl, hr, h1⟩
  have HR1 : Hid (Row w1 a1 oB (fun i => lB.getD i 0)) := hr1
  clear hb1 hr1 C1
  go_wp2_with fail
  refine C2.out.mono ?_
  rintro e w2 ⟨a2, c2, rfl, hr2, hb2⟩
  have HB2 : Hid (Below W.heap.size W w2) := HB1.out.trans (hb2.mono HB1.out.size)
  have HBw2 : Hid (Below w.heap.size w w2) := HW.out.1.trans (HB2.out.mono HW.out.1.size)
  have HSz2 : Hid (w.heap.size ≤ w2.heap.size) := HBw2.out.size
  have HR2 : Hid (Row w2 a1 oB (fun i => lB.getD i 0)) := HR1.out.below hb2
  clear hc0 hc1 hr2
  obtain ⟨hc0, hc1⟩ := HBx.out w2 HB2.out
  obtain ⟨bn, on, han, hcn⟩ := HP1.out.nds.below hb2
  obtain rfl := han (by omega)
  obtain ⟨hn1, hn2⟩ := hcn k hk
  have HLB : Hid (oB = lB.length) := by rw [← HEq.out.2.2.1, ← HEq.out.2.2.2]; exact (fl_len B k F).symm
  rw [HEq.out.1] at hn2
  clear hb2 C2 HB1 HB2 HP1 HPW HP HBx HEW hcn han HE HR1
  by_cases h45 : κ = 4 ∨ κ = 5
  · have HG : Hid (Calls Try.prog 85 #[.int .i64 oA] w2 fun e w' => Below w2.heap.size w2 w' ∧ ∃ a c, e = .returned (.slice a oA c) ∧ Row w' a oA (fun i => (sng oA).getD i 0)) := singles_any oA w2 htA
    have HL : Hid (prs k lB (sng oA) = stK k κ lB oA) := stK_xor h45
    rcases h45 with rfl | rfl
    · go_wp2_with fail
      refine HG.out.mono ?_
      rintro e w3 ⟨hb3, a3, c3, rfl, hr3⟩
      have HB3 : Hid (Below w.heap.size w w3) := HBw2.out.trans (hb3.mono HBw2.out.size)
      have C4 : Hid (Calls Try.prog 84 #[.int .i64 k, .slice a1 oB c1, .slice a3 oA c3] w3 fun e w' => Below w3.heap.size w3 w' ∧ StOwn w.heap.size (stK k 4 lB oA) e w') := pairs_own HLB.out (sng_len oA).symm htB (by omega) (HR2.out.below hb3) hr3 HB3.out.size HL.out
      clear hb3 hr3 HG
      go_wp2_with fail
      refine C4.out.mono ?_
      rintro e w4 ⟨hb4, a4, c4, rfl, ho4⟩
      have HF : Hid (Below w.heap.size w w4 ∧ w4.ownsRow w.heap.size 66 3 (.slice a4 (stK k 4 lB oA).length c4) (stK k 4 lB oA).length (vals3 (stK k 4 lB oA))) := ⟨HB3.out.trans (hb4.mono HB3.out.size), ho4⟩
      clear hb4 ho4 C4
      go_wp2
      go_ret
      exact ⟨HF.out.1, _, _, rfl, HF.out.2⟩
    · go_wp2_with fail
      refine HG.out.mono ?_
      rintro e w3 ⟨hb3, a3, c3, rfl, hr3⟩
      have HB3 : Hid (Below w.heap.size w w3) := HBw2.out.trans (hb3.mono HBw2.out.size)
      have C4 : Hid (Calls Try.prog 84 #[.int .i64 k, .slice a1 oB c1, .slice a3 oA c3] w3 fun e w' => Below w3.heap.size w3 w' ∧ StOwn w.heap.size (stK k 5 lB oA) e w') := pairs_own HLB.out (sng_len oA).symm htB (by omega) (HR2.out.below hb3) hr3 HB3.out.size HL.out
      clear hb3 hr3 HG
      go_wp2_with fail
      refine C4.out.mono ?_
      rintro e w4 ⟨hb4, a4, c4, rfl, ho4⟩
      have HF : Hid (Below w.heap.size w w4 ∧ w4.ownsRow w.heap.size 66 3 (.slice a4 (stK k 5 lB oA).length c4) (stK k 5 lB oA).length (vals3 (stK k 5 lB oA))) := ⟨HB3.out.trans (hb4.mono HB3.out.size), ho4⟩
      clear hb4 ho4 C4
      go_wp2
      go_ret
      exact ⟨HF.out.1, _, _, rfl, HF.out.2⟩
  · by_cases h6 : κ = 6
    · subst h6
      clear h45
      have HA : Hid (∀ w, Calls Try.prog 86 #[.int .i64 oA] w fun e w' => e = .returned (.int .i64 (2 ^ oA - 1)) ∧ w' = w) := fun w => allBits_any oA w htA
      obtain ⟨U, eU⟩ : ∃ x, x = w2.alloc (.cells #[.int .i64 (-1)] 3) := ⟨_, rfl⟩
      have HU : Hid (Row U (some ⟨w2.heap.size, 0, none⟩) 1 (fun i => [(-1 : Int)].getD i 0) ∧ Below w.heap.size w U) := by subst eU; exact ⟨one_row' _ _ _, HBw2.out.alloc HBw2.out.size _⟩
      have HUe : Hid (w2.alloc (.cells #[.int .i64 (-1)] 3) = U) := eU.symm
      clear eU
      go_wp2_with fail
      rw [HUe.out]
      refine (HA.out U).mono ?_
      rintro e w3 ⟨rfl, rfl⟩
      have C4 : Hid (Calls Try.prog 84 #[.int .i64 k, .slice (some ⟨w2.heap.size, 0, none⟩) 1 1, .slice (some ⟨w3.heap.size, 0, none⟩) 1 1] (w3.alloc (.cells #[.int .i64 (2 ^ oA - 1)] 3)) fun e w' => Below w.heap.size w w' ∧ StOwn w.heap.size (stK k 6 lB oA) e w') := by
        have hb : Below w.heap.size w (w3.alloc (.cells #[.int .i64 (2 ^ oA - 1)] 3)) := HU.out.2.alloc HU.out.2.size _
        refine (pairs_own (l := stK k 6 lB oA) (L1 := [-1]) (L2 := [2 ^ oA - 1]) rfl rfl (by simp) (by simp) (HU.out.1.below (box_below _ _)) (one_row' _ _ _) hb.size stK_and).mono ?_
        rintro e w' ⟨h1, h2⟩
        exact ⟨hb.trans (h1.mono hb.size), h2⟩
      clear HA
      go_wp2_with fail
      refine C4.out.mono ?_
      rintro e w4 ⟨hb4, a4, c4, rfl, ho4⟩
      have HF : Hid (Below w.heap.size w w4 ∧ w4.ownsRow w.heap.size 66 3 (.slice a4 (stK k 6 lB oA).length c4) (stK k 6 lB oA).length (vals3 (stK k 6 lB oA))) := ⟨hb4, ho4⟩
      clear hb4 ho4 C4
      go_wp2
      go_ret
      exact ⟨HF.out.1, _, _, rfl, HF.out.2⟩
    · by_cases h7 : κ = 7
      · subst h7
        clear h45 h6
        obtain ⟨U, eU⟩ : ∃ x, x = w2.alloc (.cells #[.int .i64 (-1)] 3) := ⟨_, rfl⟩
        have HU : Hid (Row U (some ⟨w2.heap.size, 0, none⟩) 1 (fun i => [(-1 : Int)].getD i 0) ∧ Below w.heap.size w U) := by subst eU; exact ⟨one_row' _ _ _, HBw2.out.alloc HBw2.out.size _⟩
        have HUe : Hid (w2.alloc (.cells #[.int .i64 (-1)] 3) = U) := eU.symm
        clear eU
        have HG : Hid (Calls Try.prog 87 #[.int .i64 oA] U fun e w' => Below U.heap.size U w' ∧ ∃ a c, e = .returned (.slice a (2 ^ oA - 1 : Nat) c) ∧ Row w' a (2 ^ oA - 1) (fun i => (upTo (2 ^ oA - 1)).getD i 0)) := choices_any oA U htA
        go_wp2_with fail
        rw [HUe.out]
        refine HG.out.mono ?_
        rintro e w3 ⟨hb3, a3, c3, rfl, hr3⟩
        have HB3 : Hid (Below w.heap.size w w3) := HU.out.2.trans (hb3.mono HU.out.2.size)
        have C4 : Hid (Calls Try.prog 84 #[.int .i64 k, .slice (some ⟨w2.heap.size, 0, none⟩) 1 1, .slice a3 (2 ^ oA - 1) c3] w3 fun e w' => Below w3.heap.size w3 w' ∧ StOwn w.heap.size (stK k 7 lB oA) e w') :=
          pairs_own (L1 := [-1]) rfl (upTo_len _).symm (by simp) (by have := two_pow_le htA; omega) (HU.out.1.below hb3) hr3 HB3.out.size stK_or
        clear hb3 hr3 HG
        go_wp2_with fail
        refine C4.out.mono ?_
        rintro e w4 ⟨hb4, a4, c4, rfl, ho4⟩
        have HF : Hid (Below w.heap.size w w4 ∧ w4.ownsRow w.heap.size 66 3 (.slice a4 (stK k 7 lB oA).length c4) (stK k 7 lB oA).length (vals3 (stK k 7 lB oA))) := ⟨HB3.out.trans (hb4.mono HB3.out.size), ho4⟩
        clear hb4 ho4 C4
        go_wp2
        go_ret
        exact ⟨HF.out.1, _, _, rfl, HF.out.2⟩
      · by_cases h23 : κ = 2 ∨ κ = 3
        · have C4 : Hid (Calls Try.prog 84 #[.int .i64 k, .slice a1 oB c1, .slice (some ⟨w2.heap.size, 0, none⟩) 1 1] (w2.alloc (.cells #[.int .i64 0] 3)) fun e w' => Below w.heap.size w w' ∧ StOwn w.heap.size (stK k κ lB oA) e w') := by
            have hb : Below w.heap.size w (w2.alloc (.cells #[.int .i64 0] 3)) := HBw2.out.alloc HBw2.out.size _
            refine (pairs_own (l := stK k κ lB oA) (L2 := [0]) HLB.out rfl htB (by simp) (HR2.out.below (box_below _ _)) (one_row' _ _ _) hb.size (stK_end h23)).mono ?_
            rintro e w' ⟨h1, h2⟩
            exact ⟨hb.trans (h1.mono hb.size), h2⟩
          clear h45 h6 h7
          rcases h23 with rfl | rfl
          · go_wp2_with fail
            refine C4.out.mono ?_
            rintro e w4 ⟨hb4, a4, c4, rfl, ho4⟩
            have HF : Hid (Below w.heap.size w w4 ∧ w4.ownsRow w.heap.size 66 3 (.slice a4 (stK k 2 lB oA).length c4) (stK k 2 lB oA).length (vals3 (stK k 2 lB oA))) := ⟨hb4, ho4⟩
            clear hb4 ho4 C4
            go_wp2
            go_ret
            exact ⟨HF.out.1, _, _, rfl, HF.out.2⟩
          · go_wp2_with fail
            refine C4.out.mono ?_
            rintro e w4 ⟨hb4, a4, c4, rfl, ho4⟩
            have HF : Hid (Below w.heap.size w w4 ∧ w4.ownsRow w.heap.size 66 3 (.slice a4 (stK k 3 lB oA).length c4) (stK k 3 lB oA).length (vals3 (stK k 3 lB oA))) := ⟨hb4, ho4⟩
            clear hb4 ho4 C4
            go_wp2
            go_ret
            exact ⟨HF.out.1, _, _, rfl, HF.out.2⟩
        · have HL : Hid (stK k κ lB oA = []) := stK_no (by omega) (by omega) h6 h7 (by omega) (by omega)
          have q4 : (κ == 4) = false := beq_eq_false_iff_ne.2 (by omega)
          have q5 : (κ == 5) = false := beq_eq_false_iff_ne.2 (by omega)
          have q6 : (κ == 6) = false := beq_eq_false_iff_ne.2 (by omega)
          have q7 : (κ == 7) = false := beq_eq_false_iff_ne.2 (by omega)
          have q2 : (κ == 2) = false := beq_eq_false_iff_ne.2 (by omega)
          have q3 : (κ == 3) = false := beq_eq_false_iff_ne.2 (by omega)
          clear h45 h6 h7 h23
          go_wp2
          go_ret
          exact ⟨HBw2.out, none, 0, by rw [HL.out]; rfl, by rw [HL.out]; exact World.ownsRow_nil _ _ _ _⟩

theorem ofNode_any (na fa : Option Addr) (N nc F fc : Nat) (M : Nat → ByteArray) (K A B : Nat → Int) (k : Nat) (w : World) (hp : Prc w na N nc fa F M K A B) (he : ChkIs N F M K A B 0) (hk : k < N) :
    Calls Try.prog 50 #[.agg #[.slice na N nc, .slice fa F fc], .int .i64 k] w fun e w' => Below w.heap.size w w' ∧ StOwn w.heap.size (stK k (K k) (fl B k F) (tally A k F)) e w' :=
  ofNode_aux na fa N nc F fc M K A B k w hp he hk _ _ _ _ rfl rfl rfl rfl

end Go.Proofs.Ythpbgfodejoecaa
