/- The law SpaceSays, walked. -/
import Derived.Test.YtpgodjinbabniaaRefEx
import Derived.Test.YtpgodjinbabniaaSpLaw
namespace Go.Proofs.Ytpgodjinbabniaa
open Go.RowKit Go.Maps

/-- What is told is small. -/
theorem x_small {E a b : Int} {K A B : Nat → Int} {F : Nat} {l : List St3} {X : List Int → Nat → Int} :
    (xM E a b (xall a b K A B F l X)).length ≤ 200 ∧ (xN E a b (xall a b K A B F l X)).length ≤ 200 ∧ ∀ i, i < (xN E a b (xall a b K A B F l X)).length → ((xN E a b (xall a b K A B F l X)).getD i []).length ≤ l.length := by
  by_cases h : xE E a b (xall a b K A B F l X) = 0
  · obtain ⟨_, hb, T, h3, h4, h5, h6, h7⟩ := x_ok h
    have hb' := bnd_all hb
    have hf := h6.few
    rw [h4, h5]
    exact ⟨by omega, by omega, xinv_small h6 h7⟩
  · rw [xM_nil h, xN_nil h]
    exact ⟨Nat.zero_le _, Nat.zero_le _, fun i hi => absurd hi (Nat.not_lt_zero _)⟩

/-- No marking has any length. -/
theorem spc_any {w : World} {base F : Nat} {mv nv : Value} {marks : List (List Int)} {nexts : List (List (Int × Int))} (h : Spc w base mv nv F marks nexts) (h0 : marks = []) (F' : Nat) : Spc w base mv nv F' marks nexts := by
  subst h0
  obtain ⟨⟨G, ⟨Vs, h1, _⟩, _⟩, h2⟩ := h
  exact ⟨⟨G, ⟨Vs, h1, fun i hi => absurd hi (Nat.not_lt_zero _)⟩, fun i hi => absurd hi (Nat.not_lt_zero _)⟩, h2⟩

set_option maxRecDepth 20000 in
set_option maxHeartbeats 4000000 in
theorem spaceSays_walk {na fa : Option Addr} {N nc F fc : Nat} {M : Nat → ByteArray} {K A B : Nat → Int} {w : World} (hp : Prc w na N nc fa F M K A B) (hM : ∀ i, i < N → (M i).size ≤ maxLen) (tk st : Int) :
    Calls Try.prog 5 #[.agg #[.slice na N nc, .slice fa F fc], .int .i64 tk, .int .i64 st] w fun e w' => e = .returned (.bool true) ∧ Below w.heap.size w w' := by
  obtain ⟨e0, he⟩ := chk_ex N F M K A B
  obtain ⟨X, hX⟩ := xok_ex K A B F (stAll K A B F N)
  have HE : Hid (ChkIs N F M K A B e0) := he
  have HXo : Hid (XOk K A B F (stAll K A B F N) X) := hX
  have HMs : Hid (∀ i, i < N → (M i).size ≤ maxLen) := hM
  obtain ⟨W, eW⟩ : ∃ x, x = w.alloc (.cells #[.slice na N nc, .slice fa F fc] 25) := ⟨_, rfl⟩
  have HW : Hid (Below w.heap.size w W) := by subst eW; exact box_below _ _
  have HBx : Hid (∀ w1, Below W.heap.size W w1 → w1.cell? ⟨w.heap.size, 0, none⟩ = some (.slice na N nc) ∧ w1.cell? ⟨w.heap.size, 1, none⟩ = some (.slice fa F fc)) := fun w1 h => by
    subst eW
    exact ⟨new_alloc h rfl, new_alloc h rfl⟩
  have HEW : Hid (w.alloc (.cells #[.slice na N nc, .slice fa F fc] 25) = W) := eW.symm
  have HPW : Hid (Prc W na N nc fa F M K A B) := hp.below HW.out
  have C1 : Hid (Calls Try.prog 21 #[.agg #[.slice na N nc, .slice fa F fc], .int .i64 tk, .int .i64 st] W fun e w' => Below W.heap.size W w' ∧ EpIs W.heap.size (spE e0 (stAll K A B F N).length) tk st F (xall tk st K A B F (stAll K A B F N) X) e w') := exploreF_any HPW.out HE.out tk st HXo.out
  have HF60 : Hid (xM (spE e0 (stAll K A B F N).length) tk st (xall tk st K A B F (stAll K A B F N) X) = [] ∨ F ≤ 30) := by
    by_cases h : xE (spE e0 (stAll K A B F N).length) tk st (xall tk st K A B F (stAll K A B F N) X) = 0
    · obtain ⟨hE, _⟩ := x_ok h
      have h6 := spE_zero hE
      rw [h6.1] at he
      exact Or.inr (chk_zero he).1.2
    · exact Or.inl (xM_nil h)
  have HSm : Hid ((stAll K A B F N).length ≤ 60 ∨ xN (spE e0 (stAll K A B F N).length) tk st (xall tk st K A B F (stAll K A B F N) X) = []) := by
    by_cases h : xE (spE e0 (stAll K A B F N).length) tk st (xall tk st K A B F (stAll K A B F N) X) = 0
    · obtain ⟨hE, _⟩ := x_ok h
      exact Or.inl (spE_zero hE).2
    · exact Or.inr (xN_nil h)
  clear eW hp he hX hM
  go_enter Try.func5, Try.ntmps5
  go_wp2_with fail
  rw [HEW.out]
  refine C1.out.mono ?_
  rintro e w1 ⟨hb1, ma, mc, xa, xc, base1, _, rfl, hs1⟩
  obtain ⟨g1, g2, g3⟩ := x_small (E := spE e0 (stAll K A B F N).length) (a := tk) (b := st) (K := K) (A := A) (B := B) (F := F) (l := stAll K A B F N) (X := X)
  have HB1 : Hid (Below W.heap.size W w1) := hb1
  generalize hM1 : xM (spE e0 (stAll K A B F N).length) tk st (xall tk st K A B F (stAll K A B F N) X) = M1 at *
  generalize hN1 : xN (spE e0 (stAll K A B F N).length) tk st (xall tk st K A B F (stAll K A B F N) X) = N1 at *
  generalize hy1 : xE (spE e0 (stAll K A B F N).length) tk st (xall tk st K A B F (stAll K A B F N) X) = y1 at *
  have HM1 : Hid (xM (spE e0 (stAll K A B F N).length) tk st (xall tk st K A B F (stAll K A B F N) X) = M1 ∧ xN (spE e0 (stAll K A B F N).length) tk st (xall tk st K A B F (stAll K A B F N) X) = N1 ∧ xE (spE e0 (stAll K A B F N).length) tk st (xall tk st K A B F (stAll K A B F N) X) = y1) := ⟨hM1, hN1, hy1⟩
  have H3 : Hid (∀ i, i < N1.length → (N1.getD i []).length ≤ 60) := fun i hi => by
    rcases HSm.out with h | h
    · exact Nat.le_trans (g3 i hi) h
    · rw [h] at hi
      exact absurd hi (Nat.not_lt_zero _)
  obtain ⟨W1, eW1⟩ : ∃ x, x = w1.alloc (.cells #[.slice ma M1.length mc, .slice xa N1.length xc] 50) := ⟨_, rfl⟩
  have HB1' : Hid (Below W.heap.size W W1) := by subst eW1; exact HB1.out.alloc HB1.out.size _
  have HS1 : Hid (Spc W1 base1 (.slice ma M1.length mc) (.slice xa N1.length xc) F M1 N1) := by subst eW1; exact hs1.below (box_below _ _)
  have HBx1 : Hid (∀ u, Below W1.heap.size W1 u → u.cell? ⟨w1.heap.size, 0, none⟩ = some (.slice ma M1.length mc) ∧ u.cell? ⟨w1.heap.size, 1, none⟩ = some (.slice xa N1.length xc)) := fun u hu => by
    subst eW1
    exact ⟨new_alloc hu rfl, new_alloc hu rfl⟩
  have HEW1 : Hid (w1.alloc (.cells #[.slice ma M1.length mc, .slice xa N1.length xc] 50) = W1) := eW1.symm
  obtain ⟨hc0, hc1⟩ := HBx.out w1 HB1.out
  have hsz1 : w.heap.size < w1.heap.size := World.block_lt_of_cell? _ _ hc0
  have C2 : Hid (Calls Try.prog 22 #[.agg #[.slice na N nc, .slice fa F fc], .int .i64 tk, .int .i64 st] W1 fun e w' => Below W1.heap.size W1 w' ∧ ExIs W1.heap.size (spE e0 (stAll K A B F N).length) tk st F (xall tk st K A B F (stAll K A B F N) X) e w') := explored_any (HPW.out.below HB1'.out) HMs.out HE.out tk st HXo.out
  clear hb1 hs1 C1 eW1 hM1 hN1 hy1 g3
  go_wp2_with fail
  rw [HEW1.out]
  refine C2.out.mono ?_
  rintro e w2 ⟨hb2, hs2⟩
  obtain ⟨mb, md, xb, xd, base2, ra, rc, _, rfl, HS2⟩ := ex_all hs2
  rw [HM1.out.1, HM1.out.2.1] at HS2
  rw [HM1.out.1, HM1.out.2.1, HM1.out.2.2]
  have HB2 : Hid (Below W.heap.size W w2) := HB1'.out.trans (hb2.mono HB1'.out.size)
  have HS3 : Hid (Spc w2 base1 (.slice ma M1.length mc) (.slice xa N1.length xc) F M1 N1 ∧ Spc w2 base2 (.slice mb M1.length md) (.slice xb N1.length xd) F M1 N1) := ⟨HS1.out.below hb2, HS2.out.1⟩
  obtain ⟨p0, p1⟩ := HBx1.out w2 hb2
  have hsz2 : w1.heap.size < w2.heap.size := World.block_lt_of_cell? _ _ p0
  have hyy : (y1 == y1) = true := by simp
  have C3 : Hid (∀ u, Below w2.heap.size w2 u → Calls Try.prog 23 #[.agg #[.slice ma M1.length mc, .slice xa N1.length xc], .agg #[.slice mb M1.length md, .slice xb N1.length xd]] u fun e w' => e = .returned (.bool true) ∧ Below u.heap.size u w') := fun u hu => by
    rcases HF60.out with h | h
    · exact sameSpace_any (F := 0) rfl rfl (by omega) (by omega) (by omega) (spc_any (HS3.out.1.below hu) h 0) (spc_any (HS3.out.2.below hu) h 0) (fun i hi => by have := H3.out i hi; omega)
    · exact sameSpace_any rfl rfl (by omega) (by omega) (by omega) (HS3.out.1.below hu) (HS3.out.2.below hu) (fun i hi => by have := H3.out i hi; omega)
  generalize (xW (spE e0 (stAll K A B F N).length) tk st (xall tk st K A B F (stAll K A B F N) X)).length = wl at *
  clear hb2 hs2 C2 hc0 hc1 HS2
  go_wp2_with fail
  refine (C3.out _ (box_below _ _)).mono ?_
  rintro e w3 ⟨rfl, hb3⟩
  have HF : Hid (Below w.heap.size w w3) := HW.out.trans (((HB2.out.alloc HB2.out.size _).trans (hb3.mono (by have := HB2.out.size; simp; omega))).mono HW.out.size)
  clear hb3 C3
  go_wp2
  go_ret
  exact ⟨rfl, HF.out⟩

end Go.Proofs.Ytpgodjinbabniaa
