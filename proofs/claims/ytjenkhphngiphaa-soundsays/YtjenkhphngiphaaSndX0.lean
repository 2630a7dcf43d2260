/- What holds of a space that is all there. -/
import Derived.Test.YtjenkhphngiphaaSpLaw
namespace Go.Proofs.Ytjenkhphngiphaa
open Go.RowKit Go.Maps

theorem steps_lt {N F : Nat} {M : Nat → ByteArray} {K A B : Nat → Int} (he : ChkIs N F M K A B 0) : ∀ j, j < (stAll K A B F N).length → ((stAll K A B F N).getD j (0, 0, 0)).2.1 < F := by
  intro j hj
  have h0 := chk_some he
  obtain ⟨n, _, _, h, _⟩ := step_facts (getD3_mem hj)
  rcases h with h | ⟨q, h1, h2, _⟩ <;> omega

/-- The markings of a space are markings. -/
theorem x_shp {tk : Int} {q : Nat} {K A B : Nat → Int} {F : Nat} {l : List St3} {X : List Int → Nat → Int} (hX : XOk K A B F l X) (hl : ∀ j, j < l.length → (l.getD j (0, 0, 0)).2.1 < F) (htk : tk ≤ 9) {T : Xp} (h : XInv tk q (nxl K A B F l) (cnl X l.length) (lst F (bgn K A)) T []) {m : List Int} (hm : m ∈ T.marks) : Shp F m := by
  obtain ⟨w, hg⟩ := xinv_goes h hm
  obtain ⟨Ms, hp, rfl, _, _⟩ := goes_pth (P := fun x => x ∈ T.marks) hX hl htk (hg.mono (fun x hx => ⟨hx, h.low x hx⟩))
  exact shp_lst (fun i hi => hp.ok w.length (Nat.le_refl _) i hi)

/-- What the counts want of a space that is all there. -/
theorem x_counts {E a b : Int} {K A B : Nat → Int} {F : Nat} {l : List St3} {X : List Int → Nat → Int} (hX : XOk K A B F l X) (hl : E = 0 → ∀ j, j < l.length → (l.getD j (0, 0, 0)).2.1 < F) (h : xE E a b (xall a b K A B F l X) = 0) :
    E = 0 ∧ ∃ T : Xp, xM E a b (xall a b K A B F l X) = T.marks ∧ xN E a b (xall a b K A B F l X) = T.nexts ∧ T.nexts.length = T.marks.length ∧ T.marks.length ≤ 200 ∧ (T.marks.length : Int) ≤ b ∧ 0 < T.marks.length ∧ T.marks.Nodup ∧ (∀ m, m ∈ T.marks → Shp F m ∧ ovr a m = false) ∧ (∀ i, i < T.nexts.length → (T.nexts.getD i []).length ≤ l.length) ∧
      (∀ i, i < T.nexts.length → ∀ e, e ∈ T.nexts.getD i [] → ∃ k : Nat, e.2 = k ∧ k < T.marks.length) ∧ (∀ k, 0 < k → k < T.marks.length → ∃ n e, n < k ∧ e ∈ T.nexts.getD n [] ∧ e.2 = (k : Int)) := by
  obtain ⟨h0, hb, T, h3, h4, h5, h6, h7⟩ := x_ok h
  have hb' := bnd_all hb
  have hf := h6.few
  refine ⟨h0, T, h4, h5, h7, by omega, by omega, ?_, h6.nodup, fun m hm => ⟨x_shp hX (hl h0) hb'.1.2 h6 hm, h6.low m hm⟩, xinv_small h6 h7, ?_, ?_⟩
  · exact (List.getElem?_eq_some_iff.1 h6.first).1
  · intro i hi e he
    have hi2 : i < T.marks.length := by omega
    obtain ⟨k, hk1, hk2⟩ := (h6.edges i (T.nexts.getD i []) (T.marks.getD i []) (by rw [List.getD_eq_getElem?_getD, List.getElem?_eq_getElem hi]; rfl) (by rw [List.getD_eq_getElem?_getD, List.getElem?_eq_getElem hi2]; rfl)).2 e he
    exact ⟨k, hk1, (List.getElem?_eq_some_iff.1 hk2).1⟩
  · intro k h0 hk
    obtain ⟨n, l', e, h8, h9, h10, h11⟩ := xinv_led h6 h0 hk
    exact ⟨n, e, h8, by rw [List.getD_eq_getElem?_getD, h9]; exact h10, h11⟩

theorem getD2_mem {C : List (Int × Int)} {j : Nat} (h : j < C.length) : C.getD j (0, 0) ∈ C := by
  rw [List.getD_eq_getElem?_getD, List.getElem?_eq_getElem h]
  exact List.getElem_mem h

theorem gr_take {w : World} {a : Option Addr} {n k : Nat} {L : Nat → Nat} {Y : Nat → Nat → Int} (h : Gr w a n L Y) (hk : k ≤ n) : Gr w a k L Y := by
  obtain ⟨b, o, h1, h2⟩ := h
  exact ⟨b, o, fun h => h1 (by omega), fun r hr => h2 r (by omega)⟩

theorem marks_ne {F : Nat} {marks : List (List Int)} (hn : marks.Nodup) (hs : ∀ m, m ∈ marks → Shp F m) {i n : Nat} (hi : i < n) (hl : n < marks.length) : same F F (fnl (marks.getD i [])) (fnl (marks.getD n [])) = false := by
  have hi2 : i < marks.length := by omega
  have e1 : marks.getD i [] = marks[i] := by simp [hi2]
  have e2 : marks.getD n [] = marks[n] := by simp [hl]
  unfold same
  rw [decide_eq_false_iff_not]
  rintro ⟨_, h⟩
  have h3 : marks.getD i [] = marks.getD n [] := shp_ext (hs _ (by rw [e1]; exact List.getElem_mem hi2)) (hs _ (by rw [e2]; exact List.getElem_mem hl)) h
  rw [e1, e2] at h3
  exact List.pairwise_iff_getElem.1 (List.nodup_iff_pairwise_ne.1 hn) i n hi2 hl hi h3

/-- What is told is small. -/
theorem x_small {E a b : Int} {K A B : Nat → Int} {F : Nat} {l : List St3} {X : List Int → Nat → Int} :
    (xM E a b (xall a b K A B F l X)).length ≤ 200 ∧ (xN E a b (xall a b K A B F l X)).length ≤ 200 ∧ ∀ i, i < (xN E a b (xall a b K A B F l X)).length → ((xN E a b (xall a b K A B F l X)).getD i []).length ≤ l.length := by
  by_cases h : xE E a b (xall a b K A B F l X) = 0
  · obtain ⟨_, hb, T, h3, h4, h5, h6, h7⟩ := x_ok h
    have hb' := bnd_all hb
    have hf := h6.few
    rw [h4, h5]
    exact ⟨by omega, by omega, xinv_small h6 h7⟩
  · rw [xM_nil h, xN_nil h]
    exact ⟨Nat.zero_le _, Nat.zero_le _, fun i hi => absurd hi (Nat.not_lt_zero _)⟩

/-- No marking has any length. -/
theorem spc_any {w : World} {base F : Nat} {mv nv : Value} {marks : List (List Int)} {nexts : List (List (Int × Int))} (h : Spc w base mv nv F marks nexts) (h0 : marks = []) (F' : Nat) : Spc w base mv nv F' marks nexts := by
  subst h0
  obtain ⟨⟨G, ⟨Vs, h1, _⟩, _⟩, h2⟩ := h
  exact ⟨⟨G, ⟨Vs, h1, fun i hi => absurd hi (Nat.not_lt_zero _)⟩, fun i hi => absurd hi (Nat.not_lt_zero _)⟩, h2⟩

end Go.Proofs.Ytjenkhphngiphaa
