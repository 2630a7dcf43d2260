/- The law SpaceRoutes, walked. -/
import Derived.Test.YtpgodjinbabniaaRefEx
import Derived.Test.YtpgodjinbabniaaSpLaw
namespace Go.Proofs.Ytpgodjinbabniaa
open Go.RowKit Go.Maps

/-- What is told is short. -/
theorem xW_small {E a b : Int} {K A B : Nat → Int} {F : Nat} {l : List St3} {X : List Int → Nat → Int} : (xW E a b (xall a b K A B F l X)).length ≤ 201 := by
  unfold xW
  by_cases h1 : E ≠ 0
  · rw [if_pos h1]
    exact Nat.zero_le _
  · rw [if_neg h1]
    by_cases h2 : bndOk a b = true
    · rw [if_pos h2]
      have hb := bnd_all h2
      rcases xall_ends (K := K) (A := A) (B := B) (F := F) (l := l) (X := X) h2 with ⟨r, h3, h4⟩ | ⟨T, h3, _⟩
      · rw [h3]
        obtain ⟨w, m, s, P, h5, _, _, h6, _⟩ := h4
        show r.2.length ≤ 201
        rw [h5, List.length_append, List.length_singleton]
        omega
      · rw [h3]
        exact Nat.zero_le _
    · rw [if_neg h2]
      exact Nat.zero_le _

set_option maxRecDepth 20000 in
set_option maxHeartbeats 4000000 in
theorem spaceRoutes_walk {na fa : Option Addr} {N nc F fc : Nat} {M : Nat → ByteArray} {K A B : Nat → Int} {w : World} (hp : Prc w na N nc fa F M K A B) (hM : ∀ i, i < N → (M i).size ≤ maxLen) (tk st : Int) :
    Calls Try.prog 6 #[.agg #[.slice na N nc, .slice fa F fc], .int .i64 tk, .int .i64 st] w fun e w' => e = .returned (.bool true) ∧ Below w.heap.size w w' := by
  obtain ⟨e0, he⟩ := chk_ex N F M K A B
  obtain ⟨X, hX⟩ := xok_ex K A B F (stAll K A B F N)
  have HE : Hid (ChkIs N F M K A B e0) := he
  have HXo : Hid (XOk K A B F (stAll K A B F N) X) := hX
  have HMs : Hid (∀ i, i < N → (M i).size ≤ maxLen) := hM
  obtain ⟨W, eW⟩ : ∃ x, x = w.alloc (.cells #[.slice na N nc, .slice fa F fc] 25) := ⟨_, rfl⟩
  have HW : Hid (Below w.heap.size w W) := by subst eW; exact box_below _ _
  have HBx : Hid (∀ w1, Below W.heap.size W w1 → w1.cell? ⟨w.heap.size, 0, none⟩ = some (.slice na N nc) ∧ w1.cell? ⟨w.heap.size, 1, none⟩ = some (.slice fa F fc)) := fun w1 h => by
    subst eW
    exact ⟨new_alloc h rfl, new_alloc h rfl⟩
  have HEW : Hid (w.alloc (.cells #[.slice na N nc, .slice fa F fc] 25) = W) := eW.symm
  have HPW : Hid (Prc W na N nc fa F M K A B) := hp.below HW.out
  obtain ⟨L, hL⟩ : ∃ L, L = xW (spE e0 (stAll K A B F N).length) tk st (xall tk st K A B F (stAll K A B F N) X) := ⟨_, rfl⟩
  have hL201 : L.length ≤ 201 := by rw [hL]; exact xW_small
  have HL : Hid (L = xW (spE e0 (stAll K A B F N).length) tk st (xall tk st K A B F (stAll K A B F N) X)) := hL
  have C1 : Hid (Calls Try.prog 24 #[.agg #[.slice na N nc, .slice fa F fc], .int .i64 tk, .int .i64 st] W fun e w' => Below W.heap.size W w' ∧ ∃ a c, e = .returned (.tuple #[.slice a L.length c, .int .i64 (xE (spE e0 (stAll K A B F N).length) tk st (xall tk st K A B F (stAll K A B F N) X))]) ∧ Row w' a L.length (fun i => L.getD i 0)) := routeF_any HPW.out HE.out tk st HXo.out hL
  clear eW hp he hX hM hL
  go_enter Try.func6, Try.ntmps6
  go_wp2_with fail
  rw [HEW.out]
  refine C1.out.mono ?_
  rintro e w1 ⟨hb1, a1, c1, rfl, hr1⟩
  have HB1 : Hid (Below W.heap.size W w1 ∧ Row w1 a1 L.length (fun i => L.getD i 0)) := ⟨hb1, hr1⟩
  obtain ⟨hc0, hc1⟩ := HBx.out w1 hb1
  have C2 : Hid (Calls Try.prog 22 #[.agg #[.slice na N nc, .slice fa F fc], .int .i64 tk, .int .i64 st] w1 fun e w' => Below w1.heap.size w1 w' ∧ ExIs w1.heap.size (spE e0 (stAll K A B F N).length) tk st F (xall tk st K A B F (stAll K A B F N) X) e w') := explored_any (HPW.out.below hb1) HMs.out HE.out tk st HXo.out
  clear hb1 hr1 C1
  go_wp2_with fail
  refine C2.out.mono ?_
  rintro e w2 ⟨hb2, hs2⟩
  obtain ⟨mb, md, xb, xd, base2, ra, rc, _, rfl, HS2⟩ := ex_all hs2
  rw [← HL.out] at HS2 ⊢
  have HB2 : Hid (Below W.heap.size W w2) := HB1.out.1.trans (hb2.mono HB1.out.1.size)
  have C3 : Hid (∀ u, Below w2.heap.size w2 u → Calls Try.prog 13 #[.slice a1 L.length c1, .slice ra L.length rc] u fun e w' => e = .returned (.bool true) ∧ Below u.heap.size u w') := fun u hu =>
    equal_true (by omega) ((HB1.out.2.below hb2).below hu) (HS2.out.2.below hu) (fun _ _ => rfl)
  generalize xE (spE e0 (stAll K A B F N).length) tk st (xall tk st K A B F (stAll K A B F N) X) = y1 at *
  generalize (xM (spE e0 (stAll K A B F N).length) tk st (xall tk st K A B F (stAll K A B F N) X)).length = ml at *
  generalize (xN (spE e0 (stAll K A B F N).length) tk st (xall tk st K A B F (stAll K A B F N) X)).length = nl at *
  have hyy : (y1 == y1) = true := by simp
  clear hs2 C2 hc0 hc1 HS2 hb2
  go_wp2_with fail
  refine (C3.out _ (box_below _ _)).mono ?_
  rintro e w3 ⟨rfl, hb3⟩
  have HF : Hid (Below w.heap.size w w3) := HW.out.trans (((HB2.out.alloc HB2.out.size _).trans (hb3.mono (by have := HB2.out.size; simp; omega))).mono HW.out.size)
  clear hb3 C3
  go_wp2
  go_ret
  exact ⟨rfl, HF.out⟩

end Go.Proofs.Ytpgodjinbabniaa
