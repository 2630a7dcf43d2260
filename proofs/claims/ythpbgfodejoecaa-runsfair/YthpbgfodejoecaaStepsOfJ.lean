/- ofNode, Of. Of. -/
import Derived.Test.YthpbgfodejoecaaStepsLeaf
namespace Go.Proofs.Ythpbgfodejoecaa
open Go.RowKit

theorem owns_base {w : World} {b b' e s n : Nat} {v : Value} {xs : List Value} (h : w.ownsRow b' e s v n xs) (hb : b ≤ b') : w.ownsRow b e s v n xs := by
  refine ⟨h.1, ?_⟩
  rcases h.2 with h0 | ⟨g, cap, cur, h1, h2, h3⟩
  · exact Or.inl h0
  · exact Or.inr ⟨g, cap, cur, h1, Nat.le_trans hb h2, h3⟩

/-- A list of steps is answered that nothing else holds. -/
def StOwn (B : Nat) (l : List St3) (e : Ending) (w : World) : Prop :=
  ∃ a c, e = .returned (.slice a l.length c) ∧ w.ownsRow B 66 3 (.slice a l.length c) l.length (vals3 l)

theorem pairs_own {n : Int} {a1 a2 : Option Addr} {c1 c2 : Nat} {L1 L2 : List Int} {n1 n2 : Nat} {w : World} {b : Nat} (e1 : n1 = L1.length) (e2 : n2 = L2.length) (hl1 : n1 ≤ 30) (hl2 : n2 ≤ 1073741824) (h1 : Row w a1 n1 (fun i => L1.getD i 0)) (h2 : Row w a2 n2 (fun i => L2.getD i 0)) (hb : b ≤ w.heap.size) {l : List St3} (hl : prs n L1 L2 = l) :
    Calls Try.prog 84 #[.int .i64 n, .slice a1 n1 c1, .slice a2 n2 c2] w fun e w' => Below w.heap.size w w' ∧ StOwn b l e w' := by
  subst hl
  refine (pairs_any n a1 a2 c1 c2 L1 L2 n1 n2 w e1 e2 hl1 hl2 h1 h2).mono ?_
  rintro e w' ⟨h, a, c, rfl, ho⟩
  have e : (prs n L1 L2).length = n1 * n2 := by rw [prs_len, e1, e2]
  exact ⟨h, a, c, by rw [e], by rw [e]; exact owns_base ho hb⟩

theorem one_row' (w : World) (r : Int) (t : TypeId) : Row (w.alloc (.cells #[.int .i64 r] t)) (some ⟨w.heap.size, 0, none⟩) 1 (fun i => [r].getD i 0) :=
  ⟨w.heap.size, 0, fun _ => rfl, fun i hi => by
    obtain rfl : i = 0 := by omega
    exact cell_of_alloc rfl⟩

theorem stK_xor {n k : Int} {ins : List Int} {o : Nat} (h : k = 4 ∨ k = 5) : prs n ins (sng o) = stK n k ins o := by unfold stK; rw [if_pos h]
theorem stK_and {n : Int} {ins : List Int} {o : Nat} : prs n [-1] [2 ^ o - 1] = stK n 6 ins o := by unfold stK; rw [if_neg (by decide), if_pos rfl]
theorem stK_or {n : Int} {ins : List Int} {o : Nat} : prs n [-1] (upTo (2 ^ o - 1)) = stK n 7 ins o := by unfold stK; rw [if_neg (by decide), if_neg (by decide), if_pos rfl]
theorem stK_end {n k : Int} {ins : List Int} {o : Nat} (h : k = 2 ∨ k = 3) : prs n ins [0] = stK n k ins o := by unfold stK; rw [if_neg (by omega), if_neg (by omega), if_neg (by omega), if_pos h]
theorem stK_no {n k : Int} {ins : List Int} {o : Nat} (h4 : k ≠ 4) (h5 : k ≠ 5) (h6 : k ≠ 6) (h7 : k ≠ 7) (h2 : k ≠ 2) (h3 : k ≠ 3) : stK n k ins o = [] := by unfold stK; rw [if_neg (by omega), if_neg (by omega), if_neg (by omega), if_neg (by omega)]

set_option maxHeartbeats 4000000 in
theorem ofNode_aux (na fa : Option Addr) (N nc F fc : Nat) (M : Nat → ByteArray) (K A B : Nat → Int) (k : Nat) (w : World) (hp : Prc w na N nc fa F M K A B) (he : ChkIs N F M K A B 0) (hk : k < N) (κ : Int) (oA oB : Nat) (lB : List Int) (hκ : K k = κ) (hoA : tally A k F = oA) (hoB : tally B k F = oB) (hlB : fl B k F = lB) :
    Calls Try.prog 50 #[.agg #[.slice na N nc, .slice fa F fc], .int .i64 k] w fun e w' => Below w.heap.size w w' ∧ StOwn w.heap.size (stK k κ lB oA) e w' := by
  have HEq : Hid (K k = κ ∧ tally A k F = oA ∧ tally B k F = oB ∧ fl B k F = lB) := ⟨hκ, hoA, hoB, hlB⟩
  have htB : oB ≤ 30 := by have := tally_le B k F; have := (chk_zero he).1.2; omega
  have htA : oA ≤ 30 := by have := tally_le A k F; have := (chk_zero he).1.2; omega
  clear hκ hoA hoB hlB
  have HE : Hid (ChkIs N F M K A B 0) := he
  have HP : Hid (Prc w na N nc fa F M K A B) := hp
  have hN20 : N ≤ 20 := (chk_zero he).1.1
  have hF30 : F ≤ 30 := (chk_zero he).1.2
  clear he hp
  obtain ⟨W, eW⟩ : ∃ x, x = w.alloc (.cells #[.slice na N nc, .slice fa F fc] 25) := ⟨_, rfl⟩
  have HW : Hid (Below w.heap.size w W ∧ W.heap.size = w.heap.size + 1) := by subst eW; exact ⟨box_below _ _, by simp⟩
  have HBx : Hid (∀ w1, Below W.heap.size W w1 → w1.cell? ⟨w.heap.size, 0, none⟩ = some (.slice na N nc) ∧ w1.cell? ⟨w.heap.size, 1, none⟩ = some (.slice fa F fc)) := fun w1 h => by
    have h' : Below (w.heap.size + 1) (w.alloc (.cells #[.slice na N nc, .slice fa F fc] 25)) w1 := by rw [← HW.out.2, ← eW]; exact h
    exact ⟨box_keep h' rfl, box_keep h' rfl⟩
  have HEW : Hid (w.alloc (.cells #[.slice na N nc, .slice fa F fc] 25) = W) := eW.symm
  have HPW : Hid (Prc W na N nc fa F M K A B) := HP.out.below HW.out.1
  clear eW
  have C1 : Hid (Calls Try.prog 82 #[.agg #[.slice na N nc, .slice fa F fc], .int .i64 k] W fun e w' => ∃ a c, e = .returned (.tuple #[.slice a oB c, .int .i64 0]) ∧ Row w' a oB (fun i => lB.getD i 0) ∧ Below W.heap.size W w') := by
    rw [← HEq.out.2.2.1, ← HEq.out.2.2.2]
    refine (ins_any na fa N nc F fc M K A B 0 k W HPW.out HE.out).mono ?_
    rintro e w' ⟨h1, ⟨h2, _⟩ | ⟨_, h2, _⟩ | ⟨_, _, a, c, rfl, hr⟩⟩
    · exact absurd rfl h2
    · exact absurd ⟨by omega, by omega⟩ h2
    · exact ⟨a, c, rfl, hr, h1⟩
  go_enter Try.func50, Try.ntmps50
  go_wp2_with fail
  rw [HEW.out]
  refine C1.out.mono ?_
  rintro e w1 ⟨a1, c1, rfl, hr1, hb1⟩
  have HB1 : Hid (Below W.heap.size W w1) := hb1
  obtain ⟨hc0, hc1⟩ := HBx.out w1 hb1
  have HP1 : Hid (Prc w1 na N nc fa F M K A B) := HPW.out.below hb1
  have C2 : Hid (Calls Try.prog 83 #[.agg #[.slice na N nc, .slice fa F fc], .int .i64 k] w1 fun e w' => ∃ a c, e = .returned (.tuple #[.slice a oA c, .int .i64 0]) ∧ Row w' a oA (fun i => (fl A k F).getD i 0) ∧ Below w1.heap.size w1 w') := by
    rw [← HEq.out.2.1]
    refine (outs_any na fa N nc F fc M K A B 0 k w1 HP1.out HE.out).mono ?_
    rintro e w' ⟨h1, ⟨h2, _⟩ | ⟨_, h2, _⟩ | ⟨_, _, a, c, rfl, hr⟩⟩
    · exact absurd rfl h2
    · exact absurd ⟨by omega, by omega⟩ h2
    · exact ⟨a, c, rfl, hr, h1⟩
  have HR1 : Hid (Row w1 a1 oB (fun i => lB.getD i 0)) := hr1
  clear hb1 hr1 C1
  go_wp2_with fail
  refine C2.out.mono ?_
  rintro e w2 ⟨a2, c2, rfl, hr2, hb2⟩
  have HB2 : Hid (Below W.heap.size W w2) := HB1.out.trans (hb2.mono HB1.out.size)
  have HBw2 : Hid (Below w.heap.size w w2) := HW.out.1.trans (HB2.out.mono HW.out.1.size)
  have HSz2 : Hid (w.heap.size ≤ w2.heap.size) := HBw2.out.size
  have HR2 : Hid (Row w2 a1 oB (fun i => lB.getD i 0)) := HR1.out.below hb2
  clear hc0 hc1 hr2
  obtain ⟨hc0, hc1⟩ := HBx.out w2 HB2.out
  obtain ⟨bn, on, han, hcn⟩ := HP1.out.nds.below hb2
  obtain rfl := han (by omega)
  obtain ⟨hn1, hn2⟩ := hcn k hk
  have HLB : Hid (oB = lB.length) := by rw [← HEq.out.2.2.1, ← HEq.out.2.2.2]; exact (fl_len B k F).symm
  rw [HEq.out.1] at hn2
  clear hb2 C2 HB1 HB2 HP1 HPW HP HBx HEW hcn han HE HR1
  by_cases h45 : κ = 4 ∨ κ = 5
  · have HG : Hid (Calls Try.prog 85 #[.int .i64 oA] w2 fun e w' => Below w2.heap.size w2 w' ∧ ∃ a c, e = .returned (.slice a oA c) ∧ Row w' a oA (fun i => (sng oA).getD i 0)) := singles_any oA w2 htA
    have HL : Hid (prs k lB (sng oA) = stK k κ lB oA) := stK_xor h45
    rcases h45 with rfl | rfl
    · go_wp2_with fail
      refine HG.out.mono ?_
      rintro e w3 ⟨hb3, a3, c3, rfl, hr3⟩
      have HB3 : Hid (Below w.heap.size w w3) := HBw2.out.trans (hb3.mono HBw2.out.size)
      have C4 : Hid (Calls Try.prog 84 #[.int .i64 k, .slice a1 oB c1, .slice a3 oA c3] w3 fun e w' => Below w3.heap.size w3 w' ∧ StOwn w.heap.size (stK k 4 lB oA) e w') := pairs_own HLB.out (sng_len oA).symm htB (by omega) (HR2.out.below hb3) hr3 HB3.out.size HL.out
      clear hb3 hr3 HG
      go_wp2_with fail
      refine C4.out.mono ?_
      rintro e w4 ⟨hb4, a4, c4, rfl, ho4⟩
      have HF : Hid (Below w.heap.size w w4 ∧ w4.ownsRow w.heap.size 66 3 (.slice a4 (stK k 4 lB oA).length c4) (stK k 4 lB oA).length (vals3 (stK k 4 lB oA))) := ⟨HB3.out.trans (hb4.mono HB3.out.size), ho4⟩
      clear hb4 ho4 C4
      go_wp2
      go_ret
      exact ⟨HF.out.1, _, _, rfl, HF.out.2⟩
    · go_wp2_with fail
      refine HG.out.mono ?_
      rintro e w3 ⟨hb3, a3, c3, rfl, hr3⟩
      have HB3 : Hid (Below w.heap.size w w3) := HBw2.out.trans (hb3.mono HBw2.out.size)
      have C4 : Hid (Calls Try.prog 84 #[.int .i64 k, .slice a1 oB c1, .slice a3 oA c3] w3 fun e w' => Below w3.heap.size w3 w' ∧ StOwn w.heap.size (stK k 5 lB oA) e w') := pairs_own HLB.out (sng_len oA).symm htB (by omega) (HR2.out.below hb3) hr3 HB3.out.size HL.out
      clear hb3 hr3 HG
      go_wp2_with fail
      refine C4.out.mono ?_
      rintro e w4 ⟨hb4, a4, c4, rfl, ho4⟩
      have HF : Hid (Below w.heap.size w w4 ∧ w4.ownsRow w.heap.size 66 3 (.slice a4 (stK k 5 lB oA).length c4) (stK k 5 lB oA).length (vals3 (stK k 5 lB oA))) := ⟨HB3.out.trans (hb4.mono HB3.out.size), ho4⟩
      clear hb4 ho4 C4
      go_wp2
      go_ret
      exact ⟨HF.out.1, _, _, rfl, HF.out.2⟩
  · by_cases h6 : κ = 6
    · subst h6
      clear h45
      have HA : Hid (∀ w, Calls Try.prog 86 #[.int .i64 oA] w fun e w' => e = .returned (.int .i64 (2 ^ oA - 1)) ∧ w' = w) := fun w => allBits_any oA w htA
      obtain ⟨U, eU⟩ : ∃ x, x = w2.alloc (.cells #[.int .i64 (-1)] 3) := ⟨_, rfl⟩
      have HU : Hid (Row U (some ⟨w2.heap.size, 0, none⟩) 1 (fun i => [(-1 : Int)].getD i 0) ∧ Below w.heap.size w U) := by subst eU; exact ⟨one_row' _ _ _, HBw2.out.alloc HBw2.out.size _⟩
      have HUe : Hid (w2.alloc (.cells #[.int .i64 (-1)] 3) = U) := eU.symm
      clear eU
      go_wp2_with fail
      rw [HUe.out]
      refine (HA.out U).mono ?_
      rintro e w3 ⟨rfl, rfl⟩
      have C4 : Hid (Calls Try.prog 84 #[.int .i64 k, .slice (some ⟨w2.heap.size, 0, none⟩) 1 1, .slice (some ⟨w3.heap.size, 0, none⟩) 1 1] (w3.alloc (.cells #[.int .i64 (2 ^ oA - 1)] 3)) fun e w' => Below w.heap.size w w' ∧ StOwn w.heap.size (stK k 6 lB oA) e w') := by
        have hb : Below w.heap.size w (w3.alloc (.cells #[.int .i64 (2 ^ oA - 1)] 3)) := HU.out.2.alloc HU.out.2.size _
        refine (pairs_own (l := stK k 6 lB oA) (L1 := [-1]) (L2 := [2 ^ oA - 1]) rfl rfl (by simp) (by simp) (HU.out.1.below (box_below _ _)) (one_row' _ _ _) hb.size stK_and).mono ?_
        rintro e w' ⟨h1, h2⟩
        exact ⟨hb.trans (h1.mono hb.size), h2⟩
      clear HA
      go_wp2_with fail
      refine C4.out.mono ?_
      rintro e w4 ⟨hb4, a4, c4, rfl, ho4⟩
      have HF : Hid (Below w.heap.size w w4 ∧ w4.ownsRow w.heap.size 66 3 (.slice a4 (stK k 6 lB oA).length c4) (stK k 6 lB oA).length (vals3 (stK k 6 lB oA))) := ⟨hb4, ho4⟩
      clear hb4 ho4 C4
      go_wp2
      go_ret
      exact ⟨HF.out.1, _, _, rfl, HF.out.2⟩
    · by_cases h7 : κ = 7
      · subst h7
        clear h45 h6
        obtain ⟨U, eU⟩ : ∃ x, x = w2.alloc (.cells #[.int .i64 (-1)] 3) := ⟨_, rfl⟩
        have HU : Hid (Row U (some ⟨w2.heap.size, 0, none⟩) 1 (fun i => [(-1 : Int)].getD i 0) ∧ Below w.heap.size w U) := by subst eU; exact ⟨one_row' _ _ _, HBw2.out.alloc HBw2.out.size _⟩
        have HUe : Hid (w2.alloc (.cells #[.int .i64 (-1)] 3) = U) := eU.symm
        clear eU
        have HG : Hid (Calls Try.prog 87 #[.int .i64 oA] U fun e w' => Below U.heap.size U w' ∧ ∃ a c, e = .returned (.slice a (2 ^ oA - 1 : Nat) c) ∧ Row w' a (2 ^ oA - 1) (fun i => (upTo (2 ^ oA - 1)).getD i 0)) := choices_any oA U htA
        go_wp2_with fail
        rw [HUe.out]
        refine HG.out.mono ?_
        rintro e w3 ⟨hb3, a3, c3, rfl, hr3⟩
        have HB3 : Hid (Below w.heap.size w w3) := HU.out.2.trans (hb3.mono HU.out.2.size)
        have C4 : Hid (Calls Try.prog 84 #[.int .i64 k, .slice (some ⟨w2.heap.size, 0, none⟩) 1 1, .slice a3 (2 ^ oA - 1) c3] w3 fun e w' => Below w3.heap.size w3 w' ∧ StOwn w.heap.size (stK k 7 lB oA) e w') :=
          pairs_own (L1 := [-1]) rfl (upTo_len _).symm (by simp) (by have := two_pow_le htA; omega) (HU.out.1.below hb3) hr3 HB3.out.size stK_or
        clear hb3 hr3 HG
        go_wp2_with fail
        refine C4.out.mono ?_
        rintro e w4 ⟨hb4, a4, c4, rfl, ho4⟩
        have HF : Hid (Below w.heap.size w w4 ∧ w4.ownsRow w.heap.size 66 3 (.slice a4 (stK k 7 lB oA).length c4) (stK k 7 lB oA).length (vals3 (stK k 7 lB oA))) := ⟨HB3.out.trans (hb4.mono HB3.out.size), ho4⟩
        clear hb4 ho4 C4
        go_wp2
        go_ret
        exact ⟨HF.out.1, _, _, rfl, HF.out.2⟩
      · by_cases h23 : κ = 2 ∨ κ = 3
        · have C4 : Hid (Calls Try.prog 84 #[.int .i64 k, .slice a1 oB c1, .slice (some ⟨w2.heap.size, 0, none⟩) 1 1] (w2.alloc (.cells #[.int .i64 0] 3)) fun e w' => Below w.heap.size w w' ∧ StOwn w.heap.size (stK k κ lB oA) e w') := by
            have hb : Below w.heap.size w (w2.alloc (.cells #[.int .i64 0] 3)) := HBw2.out.alloc HBw2.out.size _
            refine (pairs_own (l := stK k κ lB oA) (L2 := [0]) HLB.out rfl htB (by simp) (HR2.out.below (box_below _ _)) (one_row' _ _ _) hb.size (stK_end h23)).mono ?_
            rintro e w' ⟨h1, h2⟩
            exact ⟨hb.trans (h1.mono hb.size), h2⟩
          clear h45 h6 h7
          rcases h23 with rfl | rfl
          · go_wp2_with fail
            refine C4.out.mono ?_
            rintro e w4 ⟨hb4, a4, c4, rfl, ho4⟩
            have HF : Hid (Below w.heap.size w w4 ∧ w4.ownsRow w.heap.size 66 3 (.slice a4 (stK k 2 lB oA).length c4) (stK k 2 lB oA).length (vals3 (stK k 2 lB oA))) := ⟨hb4, ho4⟩
            clear hb4 ho4 C4
            go_wp2
            go_ret
            exact ⟨HF.out.1, _, _, rfl, HF.out.2⟩
          · go_wp2_with fail
            refine C4.out.mono ?_
            rintro e w4 ⟨hb4, a4, c4, rfl, ho4⟩
            have HF : Hid (Below w.heap.size w w4 ∧ w4.ownsRow w.heap.size 66 3 (.slice a4 (stK k 3 lB oA).length c4) (stK k 3 lB oA).length (vals3 (stK k 3 lB oA))) := ⟨hb4, ho4⟩
            clear hb4 ho4 C4
            go_wp2
            go_ret
            exact ⟨HF.out.1, _, _, rfl, HF.out.2⟩
        · have HL : Hid (stK k κ lB oA = []) := stK_no (by omega) (by omega) h6 h7 (by omega) (by omega)
          have q4 : (κ == 4) = false := beq_eq_false_iff_ne.2 (by omega)
          have q5 : (κ == 5) = false := beq_eq_false_iff_ne.2 (by omega)
          have q6 : (κ == 6) = false := beq_eq_false_iff_ne.2 (by omega)
          have q7 : (κ == 7) = false := beq_eq_false_iff_ne.2 (by omega)
          have q2 : (κ == 2) = false := beq_eq_false_iff_ne.2 (by omega)
          have q3 : (κ == 3) = false := beq_eq_false_iff_ne.2 (by omega)
          clear h45 h6 h7 h23
          go_wp2
          go_ret
          exact ⟨HBw2.out, none, 0, by rw [HL.out]; rfl, by rw [HL.out]; exact World.ownsRow_nil _ _ _ _⟩

theorem ofNode_any (na fa : Option Addr) (N nc F fc : Nat) (M : Nat → ByteArray) (K A B : Nat → Int) (k : Nat) (w : World) (hp : Prc w na N nc fa F M K A B) (he : ChkIs N F M K A B 0) (hk : k < N) :
    Calls Try.prog 50 #[.agg #[.slice na N nc, .slice fa F fc], .int .i64 k] w fun e w' => Below w.heap.size w w' ∧ StOwn w.heap.size (stK k (K k) (fl B k F) (tally A k F)) e w' :=
  ofNode_aux na fa N nc F fc M K A B k w hp he hk _ _ _ _ rfl rfl rfl rfl

end Go.Proofs.Ythpbgfodejoecaa

namespace Go.Proofs.Ythpbgfodejoecaa
open Go.RowKit

/-- What Of answers: Check's error, or too many, or the steps. -/
def SpIs (e0 : Int) (l : List St3) (e : Ending) (w : World) : Prop :=
  (e0 ≠ 0 ∧ e = .returned (.tuple #[.slice none 0 0, .int .i64 e0])) ∨ (e0 = 0 ∧ 60 < l.length ∧ e = .returned (.tuple #[.slice none 0 0, .int .i64 2])) ∨
    (e0 = 0 ∧ l.length ≤ 60 ∧ ∃ a c, e = .returned (.tuple #[.slice a l.length c, .int .i64 0]) ∧ l.length ≤ c ∧ Sts w a l.length (fun i => l.getD i (0, 0, 0)))

theorem owns_cap {w : World} {b e s n c : Nat} {a : Option Addr} {xs : List Value} (h : w.ownsRow b e s (.slice a n c) n xs) : n ≤ c := by
  rcases h.2 with ⟨h1, h2⟩ | ⟨g, cap, cur, h1, _, _, h2, _⟩
  · omega
  · cases h1; exact h2

/-- 'all = append(all, l...)', l a list of steps that is not nil. -/
theorem sts_join {w0 wr w1 : World} {v v' : Value} {l m : List St3} (hb : Below w0.heap.size w0 wr) (ho : wr.ownsRow w0.heap.size 66 3 v l.length (vals3 l))
    (hown : w1.ownsRow w0.heap.size 66 3 v' (l.length + m.length) (vals3 l ++ vals3 m)) (hgrow : wr.grownBy w1 v.ownBlock) :
    ∃ a c, v' = .slice a (l ++ m).length c ∧ Hid (Below w0.heap.size w0 w1 ∧ w1.ownsRow w0.heap.size 66 3 (.slice a (l ++ m).length c) (l ++ m).length (vals3 (l ++ m))) := by
  have h : w1.ownsRow w0.heap.size 66 3 v' (l ++ m).length (vals3 (l ++ m)) := by rw [List.length_append, ← vals3_append]; exact hown
  obtain ⟨a, c, rfl, _⟩ := owns_sts h
  exact ⟨a, c, rfl, hid ⟨hb.grown hgrow hb.size (fun b h => (ho.lt b h).1), h⟩⟩

theorem join_cells {w : World} {b n c : Nat} {l : List St3} {x : Addr} (h : w.ownsRow b 66 3 (.slice (some x) n c) n (vals3 l)) : ∀ j u, (vals3 l)[j]? = some u → w.cell? (x.add j) = some u := by
  rcases h.2 with ⟨h1, _⟩ | ⟨g, cap, cur, h1, _⟩
  · cases h1
  · cases h1
    exact fun j u hj => h.cells (g := g) rfl j u hj

theorem none_nil {w : World} {b n c : Nat} {l : List St3} (h : w.ownsRow b 66 3 (.slice none n c) n (vals3 l)) : n = 0 ∧ c = 0 := by
  rcases h.2 with ⟨h1, h2⟩ | ⟨g, cap, cur, h1, _⟩
  · cases h1; exact ⟨rfl, rfl⟩
  · cases h1

set_option maxHeartbeats 4000000 in
theorem of_any (na fa : Option Addr) (N nc F fc : Nat) (M : Nat → ByteArray) (K A B : Nat → Int) (e0 : Int) (w : World) (hp : Prc w na N nc fa F M K A B) (he : ChkIs N F M K A B e0) :
    Calls Try.prog 19 #[.agg #[.slice na N nc, .slice fa F fc]] w fun e w' => Below w.heap.size w w' ∧ SpIs e0 (stAll K A B F N) e w' := by
  have HE : Hid (ChkIs N F M K A B e0) := he
  have HP : Hid (Prc w na N nc fa F M K A B) := hp
  have hNN := hp.nN
  clear he hp
  obtain ⟨i0, hi, hz0, hz1, hz2⟩ := info_parts Try.info66
  have HI : Hid (Try.prog.info? 66 = some i0 ∧ i0.zero = some (.agg #[.int .i64 0, .int .i64 0, .int .i64 0]) ∧ i0.size = 3 ∧ i0.bytes = 24) := ⟨hi, hz0, hz1, hz2⟩
  clear hi hz0 hz1 hz2
  obtain ⟨W, eW⟩ : ∃ x, x = w.alloc (.cells #[.slice na N nc, .slice fa F fc] 25) := ⟨_, rfl⟩
  have HW : Hid (Below w.heap.size w W ∧ W.heap.size = w.heap.size + 1) := by subst eW; exact ⟨box_below _ _, by simp⟩
  have HBx : Hid (∀ w1, Below W.heap.size W w1 → w1.cell? ⟨w.heap.size, 0, none⟩ = some (.slice na N nc) ∧ w1.cell? ⟨w.heap.size, 1, none⟩ = some (.slice fa F fc)) := fun w1 h => by
    have h' : Below (w.heap.size + 1) (w.alloc (.cells #[.slice na N nc, .slice fa F fc] 25)) w1 := by rw [← HW.out.2, ← eW]; exact h
    exact ⟨box_keep h' rfl, box_keep h' rfl⟩
  have HEW : Hid (w.alloc (.cells #[.slice na N nc, .slice fa F fc] 25) = W) := eW.symm
  have HPW : Hid (Prc W na N nc fa F M K A B) := HP.out.below HW.out.1
  clear eW
  have C1 : Hid (Calls Try.prog 49 #[.agg #[.slice na N nc, .slice fa F fc]] W fun e w' => e = .returned (.int .i64 e0) ∧ Below W.heap.size W w') := procCheck_any na fa N nc F fc M K A B e0 W HPW.out HE.out
  go_enter Try.func19, Try.ntmps19
  go_wp2_with fail
  rw [HEW.out]
  refine C1.out.mono ?_
  rintro e w1 ⟨rfl, hb1⟩
  have HB1 : Hid (Below W.heap.size W w1) := hb1
  obtain ⟨hc0, hc1⟩ := HBx.out w1 hb1
  clear hb1 C1
  by_cases hz : e0 = 0
  · subst hz
    have hN20 : N ≤ 20 := (chk_zero HE.out).1.1
    have hF30 : F ≤ 30 := (chk_zero HE.out).1.2
    go_wp2
    go_loopw [5, 15] (fun v i wr => ∃ (k : Nat) (va : Option Addr) (vc : Nat), k ≤ N ∧ i = .int .i64 k ∧ v = .slice va (stAll K A B F k).length vc ∧ Hid (Below W.heap.size W wr ∧ wr.ownsRow W.heap.size 66 3 (.slice va (stAll K A B F k).length vc) (stAll K A B F k).length (vals3 (stAll K A B F k)))) (fun _ i _ => N - (intOf i).toNat)
    case atStart => exact ⟨0, none, 0, Nat.zero_le _, rfl, rfl, hid ⟨HB1.out, World.ownsRow_nil _ _ _ _⟩⟩
    case round =>
      obtain ⟨k, va, vc, hk, rfl, rfl, HS⟩ := hrel
      clear hc0 hc1
      obtain ⟨hc0, hc1⟩ := HBx.out wr HS.out.1
      by_cases hlt : k < N
      · have C2 : Hid (Calls Try.prog 50 #[.agg #[.slice na N nc, .slice fa F fc], .int .i64 k] wr fun e w' => Below wr.heap.size wr w' ∧ StOwn wr.heap.size (stK k (K k) (fl B k F) (tally A k F)) e w') := ofNode_any na fa N nc F fc M K A B k wr (HPW.out.below HS.out.1) HE.out hlt
        have HL1 : Hid ((stAll K A B F k).length ≤ 21474836480) := by have := stAll_len (K := K) (A := A) (B := B) hF30 k; show _ ≤ _; omega
        have HL2 : Hid ((stK k (K k) (fl B k F) (tally A k F)).length ≤ 1073741824) := stK_len (by rw [fl_len]; have := tally_le B k F; omega) (by have := tally_le A k F; omega)
        have HNx : Hid (stAll K A B F (k + 1) = stAll K A B F k ++ stK k (K k) (fl B k F) (tally A k F)) := rfl
        generalize hlk : stK k (K k) (fl B k F) (tally A k F) = lk at *
        generalize hla : stAll K A B F k = la at *
        clear hlk hla
        go_wp2_with fail
        refine C2.out.mono ?_
        rintro e w3 ⟨hb3, a3, c3, rfl, ho3⟩
        have HB3 : Hid (Below W.heap.size W w3) := HS.out.1.trans (hb3.mono HS.out.1.size)
        have HO3 : Hid (w3.ownsRow W.heap.size 66 3 (.slice va la.length vc) la.length (vals3 la)) := below_ownsRow HS.out.2 hb3
        have HL3 : Hid (w3.ownsRow wr.heap.size 66 3 (.slice a3 lk.length c3) lk.length (vals3 lk)) := ho3
        clear hb3 ho3 C2
        cases a3 with
        | none =>
          obtain ⟨h0, rfl⟩ := none_nil HL3.out
          have e0 : lk = [] := List.length_eq_zero_iff.1 h0
          subst e0
          have HNx' : Hid (stAll K A B F (k + 1) = la) := by have := HNx.out; rw [List.append_nil] at this; exact this
          go_wp2_with (at_builtin; refine wpList_append_own_none rfl _ _ 60 rfl W.heap.size 66 i0 3 Try.underlying60 HI.out.1 _ _ _ rfl HO3.out rfl ?_)
          go_roundw
          case rel => exact ⟨k + 1, va, vc, by omega, by go_num, by rw [HNx'.out], hid (by rw [HNx'.out]; exact ⟨HB3.out, HO3.out⟩)⟩
          case measure => simp [intOf]; omega
        | some x =>
          go_wp2_with (at_builtin; refine wpList_append_own_at _ rfl _ _ 60 rfl W.heap.size 66 i0 (.agg #[.int .i64 0, .int .i64 0, .int .i64 0]) 3 24 Try.underlying60 HI.out.1 HI.out.2.1 HI.out.2.2.1 HI.out.2.2.2 rfl (by decide) _ _ _ rfl HO3.out x lk.length c3 (vals3 lk) rfl (vals3_len lk) (join_cells HL3.out) (vals3_one lk) (by have := HL1.out; have := HL2.out; unfold maxLen; omega) (by have := HL1.out; have := HL2.out; omega) HB3.out.size ?_; intro v' w4 hown hgrow _ _; obtain ⟨a4, c4, rfl, H4⟩ := sts_join HB3.out HO3.out hown hgrow; clear hown hgrow)
          go_roundw
          case rel => exact ⟨k + 1, a4, c4, by omega, by go_num, by rw [HNx.out, List.length_append], hid (by rw [HNx.out]; exact H4.out)⟩
          case measure => simp [intOf]; omega
      · obtain rfl : N = k := by omega
        have HBw : Hid (Below w.heap.size w wr) := HW.out.1.trans (HS.out.1.mono HW.out.1.size)
        have HL1 : Hid ((stAll K A B F N).length ≤ 21474836480) := by have := stAll_len (K := K) (A := A) (B := B) hF30 N; show _ ≤ _; omega
        generalize hla : stAll K A B F N = la at *
        by_cases h60 : 60 < la.length
        · go_wp2
          go_ret2
          exact ⟨HBw.out, by rw [hla]; exact Or.inr (Or.inl ⟨rfl, h60, rfl⟩)⟩
        · go_wp2
          go_ret2
          exact ⟨HBw.out, by rw [hla]; exact Or.inr (Or.inr ⟨rfl, by omega, va, vc, rfl, owns_cap HS.out.2, owns_sts' rfl HS.out.2⟩)⟩
  · have hz' : (e0 != 0) = true := by rw [bne_iff_ne]; exact hz
    have HZ : Hid (e0 ≠ 0) := hz
    have HB2 : Hid (Below w.heap.size w w1) := HW.out.1.trans (HB1.out.mono HW.out.1.size)
    clear hz
    go_wp2
    go_ret2
    exact ⟨HB2.out, Or.inl ⟨HZ.out, rfl⟩⟩

end Go.Proofs.Ythpbgfodejoecaa
