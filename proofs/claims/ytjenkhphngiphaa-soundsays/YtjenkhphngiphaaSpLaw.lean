/- What is told, by the reckoning; the straight process. -/
import Derived.Test.YtjenkhphngiphaaSpFaceJ
import Derived.Test.YtjenkhphngiphaaProc8
namespace Go.Proofs.Ytjenkhphngiphaa
open Go.RowKit Go.Maps

theorem xM_nil {E tk st : Int} {R : Sum (Int × List Int) Xp} (h : xE E tk st R ≠ 0) : xM E tk st R = [] := by
  unfold xE at h
  unfold xM
  by_cases h1 : E ≠ 0
  · rw [if_pos h1]
  · rw [if_neg h1] at h ⊢
    by_cases h2 : bndOk tk st = true
    · rw [if_pos h2] at h ⊢
      cases R with
      | inl r => rfl
      | inr T => exact absurd rfl h
    · rw [if_neg h2]

theorem xN_nil {E tk st : Int} {R : Sum (Int × List Int) Xp} (h : xE E tk st R ≠ 0) : xN E tk st R = [] := by
  unfold xE at h
  unfold xN
  by_cases h1 : E ≠ 0
  · rw [if_pos h1]
  · rw [if_neg h1] at h ⊢
    by_cases h2 : bndOk tk st = true
    · rw [if_pos h2] at h ⊢
      cases R with
      | inl r => rfl
      | inr T => exact absurd rfl h
    · rw [if_neg h2]

theorem xW_nil {E tk st : Int} {R : Sum (Int × List Int) Xp} (h : xE E tk st R = 0) (hc : ∀ r, R = .inl r → r.1 ≠ 0) : xW E tk st R = [] := by
  unfold xE at h
  unfold xW
  by_cases h1 : E ≠ 0
  · rw [if_pos h1]
  · rw [if_neg h1] at h ⊢
    by_cases h2 : bndOk tk st = true
    · rw [if_pos h2] at h ⊢
      cases R with
      | inl r => exact absurd h (hc r rfl)
      | inr T => rfl
    · rw [if_neg h2]

/-- What the reckoning comes to. -/
theorem xall_ends {tk st : Int} {K A B : Nat → Int} {F : Nat} {l : List St3} {X : List Int → Nat → Int} (hb : bndOk tk st = true) :
    (∃ r, xall tk st K A B F l X = .inl r ∧ XBad tk st.toNat (nxl K A B F l) (cnl X l.length) (lst F (bgn K A)) r) ∨
      (∃ T, xall tk st K A B F l X = .inr T ∧ XInv tk st.toNat (nxl K A B F l) (cnl X l.length) (lst F (bgn K A)) T [] ∧ T.nexts.length = T.marks.length) := by
  have h := bnd_all hb
  refine xouter_inv (xinv_start ?_ (by omega)) (by show st.toNat ≤ 0 + 201; omega)
  cases ho : ovr tk (lst F (bgn K A))
  · rfl
  · obtain ⟨j, _, hj⟩ := ovr_lst.1 ho
    have : bgn K A j ≤ 1 := by unfold bgn; split <;> omega
    omega

theorem xbad_code {tk : Int} {q : Nat} {nx : Int → List Int → List Int} {cn : List Int → List Int} {m0 : List Int} {r : Int × List Int} (h : XBad tk q nx cn m0 r) : r.1 = 7 ∨ r.1 = 8 := by
  obtain ⟨_, _, _, _, _, _, _, _, h1 | h1⟩ := h
  · exact Or.inl h1.1
  · exact Or.inr h1.1

/-- A space that is all there. -/
theorem x_ok {E tk st : Int} {K A B : Nat → Int} {F : Nat} {l : List St3} {X : List Int → Nat → Int} (h : xE E tk st (xall tk st K A B F l X) = 0) :
    E = 0 ∧ bndOk tk st = true ∧ ∃ T, xall tk st K A B F l X = .inr T ∧ xM E tk st (xall tk st K A B F l X) = T.marks ∧ xN E tk st (xall tk st K A B F l X) = T.nexts ∧
      XInv tk st.toNat (nxl K A B F l) (cnl X l.length) (lst F (bgn K A)) T [] ∧ T.nexts.length = T.marks.length := by
  have h0 := h
  unfold xE at h
  by_cases h1 : E ≠ 0
  · rw [if_pos h1] at h
    exact absurd h h1
  · rw [if_neg h1] at h
    by_cases h2 : bndOk tk st = true
    · rw [if_pos h2] at h
      rcases xall_ends (K := K) (A := A) (B := B) (F := F) (l := l) (X := X) h2 with ⟨r, h3, h4⟩ | ⟨T, h3, h4, h5⟩
      · rw [h3] at h
        have h6 : r.1 = 0 := h
        rcases xbad_code h4 with h7 | h7 <;> omega
      · refine ⟨by omega, h2, T, h3, ?_, ?_, h4, h5⟩
        · unfold xM
          rw [if_neg h1, if_pos h2, h3]
        · unfold xN
          rw [if_neg h1, if_pos h2, h3]
    · rw [if_neg h2] at h
      cases h

theorem xinv_small {tk : Int} {q : Nat} {nx : Int → List Int → List Int} {X : List Int → Nat → Int} {n : Nat} {m0 : List Int} {T : Xp} (h : XInv tk q nx (cnl X n) m0 T []) (hl : T.nexts.length = T.marks.length) : ∀ i, i < T.nexts.length → (T.nexts.getD i []).length ≤ n := by
  intro i hi
  have hi2 : i < T.marks.length := by omega
  have h1 := (h.edges i (T.nexts.getD i []) (T.marks.getD i []) (by rw [List.getD_eq_getElem?_getD, List.getElem?_eq_getElem hi]; rfl) (by rw [List.getD_eq_getElem?_getD, List.getElem?_eq_getElem hi2]; rfl)).1
  have h2 := congrArg List.length h1
  rw [List.length_map] at h2
  rw [h2]
  unfold cnl
  rw [fl_len]
  exact tally_le _ _ _

/-! ### The straight process -/
theorem st_steps : stAll sKs sAs sBs 2 3 = [(1, 0, 1), (2, 1, 0)] := by decide
theorem st_E : spE 0 (stAll sKs sAs sBs 2 3).length = 0 := by rw [st_steps]; rfl
theorem st_begin : lst 2 (bgn sKs sAs) = [1, 0] := by decide

theorem st_X {X : List Int → Nat → Int} (hX : XOk sKs sAs sBs 2 [(1, 0, 1), (2, 1, 0)] X) (m : List Int) : (X m 0 = 1 ↔ 0 < fnl m 0) ∧ (X m 1 = 1 ↔ 0 < fnl m 1) := by
  have h0 := hX m 0
  have h1 := hX m 1
  exact ⟨h0.trans (enb_one (n := 1) (y := 0) (o := 1)), h1.trans (enb_one (n := 2) (y := 1) (o := 0))⟩

theorem fl_two {Z : Nat → Int} : fl Z 1 2 = (if Z 0 = 1 then [0] else []) ++ (if Z 1 = 1 then [1] else []) := by
  by_cases h0 : Z 0 = 1
  · by_cases h1 : Z 1 = 1
    · simp [fl, h0, h1]
    · simp [fl, h0, h1]
  · by_cases h1 : Z 1 = 1
    · simp [fl, h0, h1]
    · simp [fl, h0, h1]

theorem st_cn {X : List Int → Nat → Int} (hX : XOk sKs sAs sBs 2 [(1, 0, 1), (2, 1, 0)] X) : cnl X 2 [1, 0] = [0] ∧ cnl X 2 [0, 1] = [1] ∧ cnl X 2 [0, 0] = [] := by
  refine ⟨?_, ?_, ?_⟩
  · have h := st_X hX [1, 0]
    unfold cnl
    rw [fl_two, if_pos (h.1.2 (by decide)), if_neg (fun hh => absurd (h.2.1 hh) (by decide))]
    rfl
  · have h := st_X hX [0, 1]
    unfold cnl
    rw [fl_two, if_neg (fun hh => absurd (h.1.1 hh) (by decide)), if_pos (h.2.2 (by decide))]
    rfl
  · have h := st_X hX [0, 0]
    unfold cnl
    rw [fl_two, if_neg (fun hh => absurd (h.1.1 hh) (by decide)), if_neg (fun hh => absurd (h.2.1 hh) (by decide))]
    rfl

theorem st_nx0 : nxl sKs sAs sBs 2 [(1, 0, 1), (2, 1, 0)] 0 [1, 0] = [0, 1] := by decide
theorem st_nx1 : nxl sKs sAs sBs 2 [(1, 0, 1), (2, 1, 0)] 1 [0, 1] = [0, 0] := by decide

theorem st_ovr {tk : Int} (h : 1 ≤ tk) : ovr tk [0, 1] = false ∧ ovr tk [0, 0] = false := by
  unfold ovr
  simp
  omega

/-- All there. -/
theorem st_all {X : List Int → Nat → Int} (hX : XOk sKs sAs sBs 2 [(1, 0, 1), (2, 1, 0)] X) {tk : Int} {q : Nat} (ht : 1 ≤ tk) (hq : 3 ≤ q) :
    xouter tk q (nxl sKs sAs sBs 2 [(1, 0, 1), (2, 1, 0)]) (cnl X 2) 201 (xstart [1, 0]) = .inr { marks := [[1, 0], [0, 1], [0, 0]], ways := [[], [0], [0, 1]], nexts := [[(0, 1)], [(1, 2)], []], cur := [] } := by
  obtain ⟨c0, c1, c2⟩ := st_cn hX
  obtain ⟨o1, o2⟩ := st_ovr ht
  have p0 : xput tk q (nxl sKs sAs sBs 2 [(1, 0, 1), (2, 1, 0)]) (xstart [1, 0]) 0 = .inr { marks := [[1, 0], [0, 1]], ways := [[], [0]], nexts := [], cur := [(0, 1)] } := by
    unfold xput
    have e : (xstart [1, 0]).here = [1, 0] := rfl
    rw [e, st_nx0, o1, if_neg (by decide), if_neg (by decide), if_neg (by show ¬ 1 = q; omega)]
    rfl
  have p1 : xput tk q (nxl sKs sAs sBs 2 [(1, 0, 1), (2, 1, 0)]) { marks := [[1, 0], [0, 1]], ways := [[], [0]], nexts := [[(0, 1)]], cur := [] } 1 = .inr { marks := [[1, 0], [0, 1], [0, 0]], ways := [[], [0], [0, 1]], nexts := [[(0, 1)]], cur := [(1, 2)] } := by
    unfold xput
    have e : (Xp.mk [[1, 0], [0, 1]] [[], [0]] [[(0, 1)]] []).here = [0, 1] := rfl
    rw [e, st_nx1, o2, if_neg (by decide), if_neg (by decide), if_neg (by show ¬ 2 = q; omega)]
    rfl
  unfold xouter
  rw [if_pos (by decide), show (xstart [1, 0]).here = [1, 0] from rfl, c0, xinner_go p0]
  show xouter tk q _ _ 200 (Xp.mk [[1, 0], [0, 1]] [[], [0]] [[(0, 1)]] []) = _
  unfold xouter
  rw [if_pos (by decide), show (Xp.mk [[1, 0], [0, 1]] [[], [0]] [[(0, 1)]] []).here = [0, 1] from rfl, c1, xinner_go p1]
  show xouter tk q _ _ 199 (Xp.mk [[1, 0], [0, 1], [0, 0]] [[], [0], [0, 1]] [[(0, 1)], [(1, 2)]] []) = _
  unfold xouter
  rw [if_pos (by decide), show (Xp.mk [[1, 0], [0, 1], [0, 0]] [[], [0], [0, 1]] [[(0, 1)], [(1, 2)]] []).here = [0, 0] from rfl, c2]
  show xouter tk q _ _ 198 (Xp.mk [[1, 0], [0, 1], [0, 0]] [[], [0], [0, 1]] [[(0, 1)], [(1, 2)], []] []) = _
  unfold xouter
  rw [if_neg (by decide)]

/-- Two markings are too few. -/
theorem st_two {X : List Int → Nat → Int} (hX : XOk sKs sAs sBs 2 [(1, 0, 1), (2, 1, 0)] X) {tk : Int} (ht : 1 ≤ tk) :
    xouter tk 2 (nxl sKs sAs sBs 2 [(1, 0, 1), (2, 1, 0)]) (cnl X 2) 201 (xstart [1, 0]) = .inl (8, [0, 1]) := by
  obtain ⟨c0, c1, c2⟩ := st_cn hX
  obtain ⟨o1, o2⟩ := st_ovr ht
  have p0 : xput tk 2 (nxl sKs sAs sBs 2 [(1, 0, 1), (2, 1, 0)]) (xstart [1, 0]) 0 = .inr { marks := [[1, 0], [0, 1]], ways := [[], [0]], nexts := [], cur := [(0, 1)] } := by
    unfold xput
    have e : (xstart [1, 0]).here = [1, 0] := rfl
    rw [e, st_nx0, o1, if_neg (by decide), if_neg (by decide), if_neg (by decide)]
    rfl
  have p1 : xput tk 2 (nxl sKs sAs sBs 2 [(1, 0, 1), (2, 1, 0)]) { marks := [[1, 0], [0, 1]], ways := [[], [0]], nexts := [[(0, 1)]], cur := [] } 1 = .inl (8, [0, 1]) := by
    unfold xput
    have e : (Xp.mk [[1, 0], [0, 1]] [[], [0]] [[(0, 1)]] []).here = [0, 1] := rfl
    rw [e, st_nx1, o2, if_neg (by decide), if_neg (by decide), if_pos (by decide)]
    rfl
  unfold xouter
  rw [if_pos (by decide), show (xstart [1, 0]).here = [1, 0] from rfl, c0, xinner_go p0]
  show xouter tk 2 _ _ 200 (Xp.mk [[1, 0], [0, 1]] [[], [0]] [[(0, 1)]] []) = _
  unfold xouter
  rw [if_pos (by decide), show (Xp.mk [[1, 0], [0, 1]] [[], [0]] [[(0, 1)]] []).here = [0, 1] from rfl, c1, xinner_stop p1]

end Go.Proofs.Ytjenkhphngiphaa
