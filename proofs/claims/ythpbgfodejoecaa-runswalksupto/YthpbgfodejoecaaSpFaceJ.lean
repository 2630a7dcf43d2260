/- Explore, Route. What is told, by the reckoning; the straight process. What holds of a space that is all there. -/
import Derived.Test.YthpbgfodejoecaaSpExpl
import Derived.Test.YthpbgfodejoecaaProc7
namespace Go.Proofs.Ythpbgfodejoecaa
open Go.RowKit Go.Maps

/-- The bounds. -/
def bndOk (tk st : Int) : Bool := decide ((1 ≤ tk ∧ tk ≤ 9) ∧ 1 ≤ st ∧ st ≤ 200)

/-- The error that is told. -/
def xE (E tk st : Int) (R : Sum (Int × List Int) Xp) : Int := if E ≠ 0 then E else if bndOk tk st = true then (match R with | .inl r => r.1 | .inr _ => 0) else 1
/-- The markings, the edges and the steps that are told. -/
def xM (E tk st : Int) (R : Sum (Int × List Int) Xp) : List (List Int) := if E ≠ 0 then [] else if bndOk tk st = true then (match R with | .inl _ => [] | .inr T => T.marks) else []
def xN (E tk st : Int) (R : Sum (Int × List Int) Xp) : List (List (Int × Int)) := if E ≠ 0 then [] else if bndOk tk st = true then (match R with | .inl _ => [] | .inr T => T.nexts) else []
def xW (E tk st : Int) (R : Sum (Int × List Int) Xp) : List Int := if E ≠ 0 then [] else if bndOk tk st = true then (match R with | .inl r => r.2 | .inr _ => []) else []

theorem bnd_yes {tk st : Int} (h : (1 ≤ tk ∧ tk ≤ 9) ∧ 1 ≤ st ∧ st ≤ 200) : bndOk tk st = true := by unfold bndOk; rw [decide_eq_true_eq]; exact h
theorem bnd_no {tk st : Int} (h : ¬ ((1 ≤ tk ∧ tk ≤ 9) ∧ 1 ≤ st ∧ st ≤ 200)) : bndOk tk st = false := by unfold bndOk; rw [decide_eq_false_iff_not]; exact h
theorem bnd_all {tk st : Int} (h : bndOk tk st = true) : (1 ≤ tk ∧ tk ≤ 9) ∧ 1 ≤ st ∧ st ≤ 200 := by unfold bndOk at h; rwa [decide_eq_true_eq] at h

theorem spc_nil {w : World} {base F : Nat} : Spc w base (.slice none 0 0) (.slice none 0 0) F [] [] :=
  ⟨⟨fun _ => 0, ⟨[], World.ownsRow_nil _ _ _ _, fun i hi => by simp at hi⟩, fun i hi => by simp at hi⟩, ⟨[], World.ownsRow_nil _ _ _ _, fun i hi => by simp at hi⟩⟩

theorem spc_kp {L : List (Option TypeId)} {w w' : World} {base F : Nat} {mv nv : Value} {marks : List (List Int)} {nexts : List (List (Int × Int))} (h : Spc w base mv nv F marks nexts) (hk : Kp L w w') (hL : ∀ t, t ∈ [some 26, some 3, some 31, some 44] → t ∈ L) : Spc w' base mv nv F marks nexts :=
  ⟨mks_kp h.1 hk (hL _ (by simp)) (hL _ (by simp)), nxs_kp h.2 hk (hL _ (by simp)) (hL _ (by simp))⟩

theorem Spc.below {w w' : World} {base F : Nat} {mv nv : Value} {marks : List (List Int)} {nexts : List (List (Int × Int))} (h : Spc w base mv nv F marks nexts) (hb : Below w.heap.size w w') : Spc w' base mv nv F marks nexts :=
  spc_kp (L := [some 26, some 3, some 31, some 44]) h (kp_below hb) (fun _ h => h)

theorem spc_vals {w : World} {base F : Nat} {mv nv : Value} {marks : List (List Int)} {nexts : List (List (Int × Int))} (h : Spc w base mv nv F marks nexts) : ∃ ma mc xa xc, mv = .slice ma marks.length mc ∧ nv = .slice xa nexts.length xc := by
  obtain ⟨⟨G, ⟨Vs, h1, _⟩, _⟩, ⟨Us, h2, _⟩⟩ := h
  have e1 : ∃ ma mc, mv = .slice ma marks.length mc := by
    rcases h1.2 with ⟨rfl, h0⟩ | ⟨g, cap, cur, rfl, _⟩
    · exact ⟨none, 0, by rw [h0]⟩
    · exact ⟨_, _, rfl⟩
  have e2 : ∃ xa xc, nv = .slice xa nexts.length xc := by
    rcases h2.2 with ⟨rfl, h0⟩ | ⟨g, cap, cur, rfl, _⟩
    · exact ⟨none, 0, by rw [h0]⟩
    · exact ⟨_, _, rfl⟩
  obtain ⟨ma, mc, rfl⟩ := e1
  obtain ⟨xa, xc, rfl⟩ := e2
  exact ⟨ma, mc, xa, xc, rfl, rfl⟩

/-- All that explore tells. -/
theorem ex_all {b0 : Nat} {E tk st : Int} {F : Nat} {R : Sum (Int × List Int) Xp} {e : Ending} {w : World} (h : ExIs b0 E tk st F R e w) :
    ∃ (ma : Option Addr) (mc : Nat) (xa : Option Addr) (xc base : Nat) (a : Option Addr) (c : Nat), b0 ≤ base ∧ e = .returned (.tuple #[.agg #[.slice ma (xM E tk st R).length mc, .slice xa (xN E tk st R).length xc], .slice a (xW E tk st R).length c, .int .i64 (xE E tk st R)]) ∧
      Hid (Spc w base (.slice ma (xM E tk st R).length mc) (.slice xa (xN E tk st R).length xc) F (xM E tk st R) (xN E tk st R) ∧ Row w a (xW E tk st R).length (fun i => (xW E tk st R).getD i 0)) := by
  have hrow : ∀ a, Row w a 0 (fun i => ([] : List Int).getD i 0) := fun a => ⟨0, 0, fun h => by omega, fun i hi => by omega⟩
  rcases h with ⟨h1, rfl⟩ | ⟨h1, h2, rfl⟩ | ⟨h1, h2, c, way, a, cp, h3, h4, rfl, h5⟩ | ⟨h1, h2, T, mv, nv, base, hb, h3, rfl, h4⟩
  · unfold xM xN xW xE
    simp only [if_pos h1]
    exact ⟨none, 0, none, 0, b0, none, 0, Nat.le_refl _, rfl, spc_nil, hrow _⟩
  · unfold xM xN xW xE
    simp only [h1, bnd_no h2]
    exact ⟨none, 0, none, 0, b0, none, 0, Nat.le_refl _, rfl, spc_nil, hrow _⟩
  · unfold xM xN xW xE
    simp only [h1, bnd_yes h2, h3]
    exact ⟨none, 0, none, 0, b0, a, cp, Nat.le_refl _, rfl, spc_nil, h5⟩
  · unfold xM xN xW xE
    simp only [h1, bnd_yes h2, h3]
    obtain ⟨ma, mc, xa, xc, rfl, rfl⟩ := spc_vals h4
    exact ⟨ma, mc, xa, xc, base, none, 0, hb, rfl, h4, hrow _⟩

/-- What Explore answers. -/
def EpIs (b0 : Nat) (E tk st : Int) (F : Nat) (R : Sum (Int × List Int) Xp) (e : Ending) (w : World) : Prop :=
  ∃ (ma : Option Addr) (mc : Nat) (xa : Option Addr) (xc base : Nat), b0 ≤ base ∧ e = .returned (.tuple #[.agg #[.slice ma (xM E tk st R).length mc, .slice xa (xN E tk st R).length xc], .int .i64 (xE E tk st R)]) ∧
    Spc w base (.slice ma (xM E tk st R).length mc) (.slice xa (xN E tk st R).length xc) F (xM E tk st R) (xN E tk st R)

set_option maxHeartbeats 1000000 in
theorem exploreF_any {na fa : Option Addr} {N nc F fc : Nat} {M : Nat → ByteArray} {K A B : Nat → Int} {e0 : Int} {w : World} (hp : Prc w na N nc fa F M K A B) (he : ChkIs N F M K A B e0) (tk st : Int) {X : List Int → Nat → Int} (hX : XOk K A B F (stAll K A B F N) X) :
    Calls Try.prog 14 #[.agg #[.slice na N nc, .slice fa F fc], .int .i64 tk, .int .i64 st] w fun e w' => Below w.heap.size w w' ∧ EpIs w.heap.size (spE e0 (stAll K A B F N).length) tk st F (xall tk st K A B F (stAll K A B F N) X) e w' := by
  obtain ⟨W, eW⟩ : ∃ x, x = (w.alloc (.cells #[.slice na N nc, .slice fa F fc] 25)).alloc (.cells #[.slice none 0 0, .slice none 0 0] 37) := ⟨_, rfl⟩
  have HW : Hid (Below w.heap.size w W ∧ W.heap.size = w.heap.size + 1 + 1 ∧ Two W (w.heap.size + 1) (.slice none 0 0) (.slice none 0 0)) := by
    subst eW
    have e1 : (w.alloc (.cells #[.slice na N nc, .slice fa F fc] 25)).heap.size = w.heap.size + 1 := by simp
    refine ⟨(box_below _ _).trans ((box_below _ _).mono (by simp)), by simp, ?_⟩
    unfold Two
    rw [← e1]
    exact Go.Deep.blk_alloc_new _ _
  have HEW : Hid ((w.alloc (.cells #[.slice na N nc, .slice fa F fc] 25)).alloc (.cells #[.slice none 0 0, .slice none 0 0] 37) = W) := eW.symm
  have C1 : Hid (Calls Try.prog 41 #[.agg #[.slice na N nc, .slice fa F fc], .int .i64 tk, .int .i64 st] W fun e w' => Below W.heap.size W w' ∧ ExIs W.heap.size (spE e0 (stAll K A B F N).length) tk st F (xall tk st K A B F (stAll K A B F N) X) e w') := explore_any (hp.below HW.out.1) he tk st hX
  clear eW hp he hX
  generalize hEE : spE e0 (stAll K A B F N).length = E at *
  generalize hRR : xall tk st K A B F (stAll K A B F N) X = R at *
  clear hEE hRR
  go_enter Try.func14, Try.ntmps14
  go_wp2_with fail
  rw [HEW.out]
  refine C1.out.mono ?_
  rintro e w1 ⟨hb1, hs1⟩
  obtain ⟨ma, mc, xa, xc, base, a, c, hbase, rfl, HS⟩ := ex_all hs1
  have HB1 : Hid (Below w.heap.size w w1 ∧ w.heap.size ≤ base) := ⟨HW.out.1.trans (hb1.mono HW.out.1.size), by have := HW.out.2.1; omega⟩
  have H2 : Hid (Two w1 (w.heap.size + 1) (.slice none 0 0) (.slice none 0 0)) := HW.out.2.2.below hb1 (by have := HW.out.2.1; omega)
  have hsz1 : w.heap.size + 1 < w1.heap.size := by have := hb1.size; have := HW.out.2.1; omega
  obtain ⟨⟨q0, q1⟩, f0, f1⟩ := two_cells H2.out
  generalize hm : (xM E tk st R).length = ml at *
  generalize hx : (xN E tk st R).length = xl at *
  generalize hww : (xW E tk st R).length = wl at *
  generalize hee : xE E tk st R = y at *
  have HG : Hid ((xM E tk st R).length = ml ∧ (xN E tk st R).length = xl ∧ xE E tk st R = y) := ⟨hm, hx, hee⟩
  clear hb1 hs1 C1 hbase hm hx hww hee
  go_wp2
  (try simp only [Exit.inBlock, Exit.then])
  refine bodyPost_ret (results_cell_tmp1 rfl _ _ (w.heap.size + 1) 37 #[.slice ma ml mc, .slice xa xl xc] (0, 0) _ rfl (two_new H2.out) Try.underlying37 rfl (by kernel_rfl)) rfl ?_
  refine ⟨two_below HB1.out.1 (by omega), ma, mc, xa, xc, base, HB1.out.2, ?_, ?_⟩
  · rw [HG.out.1, HG.out.2.1, HG.out.2.2]
    rfl
  · rw [HG.out.1, HG.out.2.1]
    exact (spc_kp HS.out.1 (kp_two (L := [some 26, some 3, some 31, some 44]) H2.out (by decide)) (fun _ h => h)).below (box_below _ _)

end Go.Proofs.Ythpbgfodejoecaa

namespace Go.Proofs.Ythpbgfodejoecaa
open Go.RowKit Go.Maps

/-- What the reckoning comes to. -/
theorem xall_ends {tk st : Int} {K A B : Nat → Int} {F : Nat} {l : List St3} {X : List Int → Nat → Int} (hb : bndOk tk st = true) :
    (∃ r, xall tk st K A B F l X = .inl r ∧ XBad tk st.toNat (nxl K A B F l) (cnl X l.length) (lst F (bgn K A)) r) ∨
      (∃ T, xall tk st K A B F l X = .inr T ∧ XInv tk st.toNat (nxl K A B F l) (cnl X l.length) (lst F (bgn K A)) T [] ∧ T.nexts.length = T.marks.length) := by
  have h := bnd_all hb
  refine xouter_inv (xinv_start ?_ (by omega)) (by show st.toNat ≤ 0 + 201; omega)
  cases ho : ovr tk (lst F (bgn K A))
  · rfl
  · obtain ⟨j, _, hj⟩ := ovr_lst.1 ho
    have : bgn K A j ≤ 1 := by unfold bgn; split <;> omega
    omega

theorem xbad_code {tk : Int} {q : Nat} {nx : Int → List Int → List Int} {cn : List Int → List Int} {m0 : List Int} {r : Int × List Int} (h : XBad tk q nx cn m0 r) : r.1 = 7 ∨ r.1 = 8 := by
  obtain ⟨_, _, _, _, _, _, _, _, h1 | h1⟩ := h
  · exact Or.inl h1.1
  · exact Or.inr h1.1

/-- A space that is all there. -/
theorem x_ok {E tk st : Int} {K A B : Nat → Int} {F : Nat} {l : List St3} {X : List Int → Nat → Int} (h : xE E tk st (xall tk st K A B F l X) = 0) :
    E = 0 ∧ bndOk tk st = true ∧ ∃ T, xall tk st K A B F l X = .inr T ∧ xM E tk st (xall tk st K A B F l X) = T.marks ∧ xN E tk st (xall tk st K A B F l X) = T.nexts ∧
      XInv tk st.toNat (nxl K A B F l) (cnl X l.length) (lst F (bgn K A)) T [] ∧ T.nexts.length = T.marks.length := by
  have h0 := h
  unfold xE at h
  by_cases h1 : E ≠ 0
  · rw [if_pos h1] at h
    exact absurd h h1
  · rw [if_neg h1] at h
    by_cases h2 : bndOk tk st = true
    · rw [if_pos h2] at h
      rcases xall_ends (K := K) (A := A) (B := B) (F := F) (l := l) (X := X) h2 with ⟨r, h3, h4⟩ | ⟨T, h3, h4, h5⟩
      · rw [h3] at h
        have h6 : r.1 = 0 := h
        rcases xbad_code h4 with h7 | h7 <;> omega
      · refine ⟨by omega, h2, T, h3, ?_, ?_, h4, h5⟩
        · unfold xM
          rw [if_neg h1, if_pos h2, h3]
        · unfold xN
          rw [if_neg h1, if_pos h2, h3]
    · rw [if_neg h2] at h
      cases h

theorem xinv_small {tk : Int} {q : Nat} {nx : Int → List Int → List Int} {X : List Int → Nat → Int} {n : Nat} {m0 : List Int} {T : Xp} (h : XInv tk q nx (cnl X n) m0 T []) (hl : T.nexts.length = T.marks.length) : ∀ i, i < T.nexts.length → (T.nexts.getD i []).length ≤ n := by
  intro i hi
  have hi2 : i < T.marks.length := by omega
  have h1 := (h.edges i (T.nexts.getD i []) (T.marks.getD i []) (by rw [List.getD_eq_getElem?_getD, List.getElem?_eq_getElem hi]; rfl) (by rw [List.getD_eq_getElem?_getD, List.getElem?_eq_getElem hi2]; rfl)).1
  have h2 := congrArg List.length h1
  rw [List.length_map] at h2
  rw [h2]
  unfold cnl
  rw [fl_len]
  exact tally_le _ _ _

/-! ### The straight process -/
end Go.Proofs.Ythpbgfodejoecaa

namespace Go.Proofs.Ythpbgfodejoecaa
open Go.RowKit Go.Maps

theorem steps_lt {N F : Nat} {M : Nat → ByteArray} {K A B : Nat → Int} (he : ChkIs N F M K A B 0) : ∀ j, j < (stAll K A B F N).length → ((stAll K A B F N).getD j (0, 0, 0)).2.1 < F := by
  intro j hj
  have h0 := chk_some he
  obtain ⟨n, _, _, h, _⟩ := step_facts (getD3_mem hj)
  rcases h with h | ⟨q, h1, h2, _⟩ <;> omega

/-- The markings of a space are markings. -/
theorem x_shp {tk : Int} {q : Nat} {K A B : Nat → Int} {F : Nat} {l : List St3} {X : List Int → Nat → Int} (hX : XOk K A B F l X) (hl : ∀ j, j < l.length → (l.getD j (0, 0, 0)).2.1 < F) (htk : tk ≤ 9) {T : Xp} (h : XInv tk q (nxl K A B F l) (cnl X l.length) (lst F (bgn K A)) T []) {m : List Int} (hm : m ∈ T.marks) : Shp F m := by
  obtain ⟨w, hg⟩ := xinv_goes h hm
  obtain ⟨Ms, hp, rfl, _, _⟩ := goes_pth (P := fun x => x ∈ T.marks) hX hl htk (hg.mono (fun x hx => ⟨hx, h.low x hx⟩))
  exact shp_lst (fun i hi => hp.ok w.length (Nat.le_refl _) i hi)

/-- What the counts want of a space that is all there. -/
theorem x_counts {E a b : Int} {K A B : Nat → Int} {F : Nat} {l : List St3} {X : List Int → Nat → Int} (hX : XOk K A B F l X) (hl : E = 0 → ∀ j, j < l.length → (l.getD j (0, 0, 0)).2.1 < F) (h : xE E a b (xall a b K A B F l X) = 0) :
    E = 0 ∧ ∃ T : Xp, xM E a b (xall a b K A B F l X) = T.marks ∧ xN E a b (xall a b K A B F l X) = T.nexts ∧ T.nexts.length = T.marks.length ∧ T.marks.length ≤ 200 ∧ (T.marks.length : Int) ≤ b ∧ 0 < T.marks.length ∧ T.marks.Nodup ∧ (∀ m, m ∈ T.marks → Shp F m ∧ ovr a m = false) ∧ (∀ i, i < T.nexts.length → (T.nexts.getD i []).length ≤ l.length) ∧
      (∀ i, i < T.nexts.length → ∀ e, e ∈ T.nexts.getD i [] → ∃ k : Nat, e.2 = k ∧ k < T.marks.length) ∧ (∀ k, 0 < k → k < T.marks.length → ∃ n e, n < k ∧ e ∈ T.nexts.getD n [] ∧ e.2 = (k : Int)) := by
  obtain ⟨h0, hb, T, h3, h4, h5, h6, h7⟩ := x_ok h
  have hb' := bnd_all hb
  have hf := h6.few
  refine ⟨h0, T, h4, h5, h7, by omega, by omega, ?_, h6.nodup, fun m hm => ⟨x_shp hX (hl h0) hb'.1.2 h6 hm, h6.low m hm⟩, xinv_small h6 h7, ?_, ?_⟩
  · exact (List.getElem?_eq_some_iff.1 h6.first).1
  · intro i hi e he
    have hi2 : i < T.marks.length := by omega
    obtain ⟨k, hk1, hk2⟩ := (h6.edges i (T.nexts.getD i []) (T.marks.getD i []) (by rw [List.getD_eq_getElem?_getD, List.getElem?_eq_getElem hi]; rfl) (by rw [List.getD_eq_getElem?_getD, List.getElem?_eq_getElem hi2]; rfl)).2 e he
    exact ⟨k, hk1, (List.getElem?_eq_some_iff.1 hk2).1⟩
  · intro k h0 hk
    obtain ⟨n, l', e, h8, h9, h10, h11⟩ := xinv_led h6 h0 hk
    exact ⟨n, e, h8, by rw [List.getD_eq_getElem?_getD, h9]; exact h10, h11⟩

theorem getD2_mem {C : List (Int × Int)} {j : Nat} (h : j < C.length) : C.getD j (0, 0) ∈ C := by
  rw [List.getD_eq_getElem?_getD, List.getElem?_eq_getElem h]
  exact List.getElem_mem h

theorem marks_ne {F : Nat} {marks : List (List Int)} (hn : marks.Nodup) (hs : ∀ m, m ∈ marks → Shp F m) {i n : Nat} (hi : i < n) (hl : n < marks.length) : same F F (fnl (marks.getD i [])) (fnl (marks.getD n [])) = false := by
  have hi2 : i < marks.length := by omega
  have e1 : marks.getD i [] = marks[i] := by simp [hi2]
  have e2 : marks.getD n [] = marks[n] := by simp [hl]
  unfold same
  rw [decide_eq_false_iff_not]
  rintro ⟨_, h⟩
  have h3 : marks.getD i [] = marks.getD n [] := shp_ext (hs _ (by rw [e1]; exact List.getElem_mem hi2)) (hs _ (by rw [e2]; exact List.getElem_mem hl)) h
  rw [e1, e2] at h3
  exact List.pairwise_iff_getElem.1 (List.nodup_iff_pairwise_ne.1 hn) i n hi2 hl hi h3

end Go.Proofs.Ythpbgfodejoecaa
