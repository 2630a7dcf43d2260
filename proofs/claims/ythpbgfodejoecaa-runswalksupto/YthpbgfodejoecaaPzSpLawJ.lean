/-  The straight process's world; Contains. Whatever is done is a way of the world. -/
import Derived.RegionTactic
import Derived.ChangeAlike
import Derived.Deep.RegionHeld3
import Derived.Deep.AppendLies
import Derived.Maps.OwnSet
import Derived.Maps.OwnOps
import Derived.Deep.MidRow
import Derived.WideKeyArr2
import Derived.Laws.CopyOwn
import Derived.WalkKit
import Derived.WalkSpells
import Derived.WalkLawsBesides
import Derived.Deep.QuietTactic
import Derived.BigQuiet
import Derived.Deep.Cut
import Derived.Laws.BitsLemmas
import Derived.Laws.AppendOwnNone
import Derived.Deep.RegionLaw
import Derived.Deep.OwnRows
import Derived.Maps.AppendAt
import Derived.Deep.Quiet
import Derived.Deep.RegionHeld
import Derived.Test.YthpbgfodejoecaaBfs
import Derived.Test.YthpbgfodejoecaaTurnJ
import Derived.Test.YthpbgfodejoecaaDist2
import Derived.Test.YthpbgfodejoecaaExpl
import Derived.Test.YthpbgfodejoecaaExpl2
import Derived.Test.YthpbgfodejoecaaLeafJ
import Derived.Test.YthpbgfodejoecaaGame
import Derived.Test.YthpbgfodejoecaaHeldJ
import Derived.Test.YthpbgfodejoecaaGameEnJ
import Derived.Test.YthpbgfodejoecaaGameFace
import Derived.Test.YthpbgfodejoecaaGameFire
import Derived.Test.YthpbgfodejoecaaGameLay
import Derived.Test.YthpbgfodejoecaaGameMay
import Derived.Test.YthpbgfodejoecaaGameStep
import Derived.Test.YthpbgfodejoecaaGameWalk
import Derived.Test.YthpbgfodejoecaaLast
import Derived.Test.YthpbgfodejoecaaReachJ
import Derived.Test.YthpbgfodejoecaaWScNumberJ
import Derived.Test.YthpbgfodejoecaaProc
import Derived.Test.YthpbgfodejoecaaProc2
import Derived.Test.YthpbgfodejoecaaProc3
import Derived.Test.YthpbgfodejoecaaProc4
import Derived.Test.YthpbgfodejoecaaProc5
import Derived.Test.YthpbgfodejoecaaSndLeafJ
import Derived.Test.YthpbgfodejoecaaProc7
import Derived.Test.YthpbgfodejoecaaSpExpl
import Derived.Test.YthpbgfodejoecaaSpFaceJ
import Derived.Test.YthpbgfodejoecaaSpKey
import Derived.Test.YthpbgfodejoecaaSpMem
import Derived.Test.YthpbgfodejoecaaSpRev
import Derived.Test.YthpbgfodejoecaaSpSpread
import Derived.Test.YthpbgfodejoecaaSteps
import Derived.Test.YthpbgfodejoecaaStepsLeaf
import Derived.Test.YthpbgfodejoecaaStepsOf
import Derived.Test.YthpbgfodejoecaaStepsOf2
import Derived.Test.YthpbgfodejoecaaPzGameWalk
import Derived.Test.YthpbgfodejoecaaPzProc8J
/- What is told, by the reckoning; the straight process. -/
namespace Go.Proofs.Ythpbgfodejoecaa
open Go.RowKit Go.Maps

/-! ### The straight process -/
theorem st_steps : stAll sKs sAs sBs 2 3 = [(1, 0, 1), (2, 1, 0)] := by decide
theorem st_E : spE 0 (stAll sKs sAs sBs 2 3).length = 0 := by rw [st_steps]; rfl
theorem st_begin : lst 2 (bgn sKs sAs) = [1, 0] := by decide

theorem st_X {X : List Int → Nat → Int} (hX : XOk sKs sAs sBs 2 [(1, 0, 1), (2, 1, 0)] X) (m : List Int) : (X m 0 = 1 ↔ 0 < fnl m 0) ∧ (X m 1 = 1 ↔ 0 < fnl m 1) := by
  have h0 := hX m 0
  have h1 := hX m 1
  exact ⟨h0.trans (enb_one (n := 1) (y := 0) (o := 1)), h1.trans (enb_one (n := 2) (y := 1) (o := 0))⟩

theorem fl_two {Z : Nat → Int} : fl Z 1 2 = (if Z 0 = 1 then [0] else []) ++ (if Z 1 = 1 then [1] else []) := by
  by_cases h0 : Z 0 = 1
  · by_cases h1 : Z 1 = 1
    · simp [fl, h0, h1]
    · simp [fl, h0, h1]
  · by_cases h1 : Z 1 = 1
    · simp [fl, h0, h1]
    · simp [fl, h0, h1]

theorem st_cn {X : List Int → Nat → Int} (hX : XOk sKs sAs sBs 2 [(1, 0, 1), (2, 1, 0)] X) : cnl X 2 [1, 0] = [0] ∧ cnl X 2 [0, 1] = [1] ∧ cnl X 2 [0, 0] = [] := by
  refine ⟨?_, ?_, ?_⟩
  · have h := st_X hX [1, 0]
    unfold cnl
    rw [fl_two, if_pos (h.1.2 (by decide)), if_neg (fun hh => absurd (h.2.1 hh) (by decide))]
    rfl
  · have h := st_X hX [0, 1]
    unfold cnl
    rw [fl_two, if_neg (fun hh => absurd (h.1.1 hh) (by decide)), if_pos (h.2.2 (by decide))]
    rfl
  · have h := st_X hX [0, 0]
    unfold cnl
    rw [fl_two, if_neg (fun hh => absurd (h.1.1 hh) (by decide)), if_neg (fun hh => absurd (h.2.1 hh) (by decide))]
    rfl

theorem st_nx0 : nxl sKs sAs sBs 2 [(1, 0, 1), (2, 1, 0)] 0 [1, 0] = [0, 1] := by decide
theorem st_nx1 : nxl sKs sAs sBs 2 [(1, 0, 1), (2, 1, 0)] 1 [0, 1] = [0, 0] := by decide

theorem st_ovr {tk : Int} (h : 1 ≤ tk) : ovr tk [0, 1] = false ∧ ovr tk [0, 0] = false := by
  unfold ovr
  simp
  omega

/-- All there. -/
theorem st_all {X : List Int → Nat → Int} (hX : XOk sKs sAs sBs 2 [(1, 0, 1), (2, 1, 0)] X) {tk : Int} {q : Nat} (ht : 1 ≤ tk) (hq : 3 ≤ q) :
    xouter tk q (nxl sKs sAs sBs 2 [(1, 0, 1), (2, 1, 0)]) (cnl X 2) 201 (xstart [1, 0]) = .inr { marks := [[1, 0], [0, 1], [0, 0]], ways := [[], [0], [0, 1]], nexts := [[(0, 1)], [(1, 2)], []], cur := [] } := by
  obtain ⟨c0, c1, c2⟩ := st_cn hX
  obtain ⟨o1, o2⟩ := st_ovr ht
  have p0 : xput tk q (nxl sKs sAs sBs 2 [(1, 0, 1), (2, 1, 0)]) (xstart [1, 0]) 0 = .inr { marks := [[1, 0], [0, 1]], ways := [[], [0]], nexts := [], cur := [(0, 1)] } := by
    unfold xput
    have e : (xstart [1, 0]).here = [1, 0] := rfl
    rw [e, st_nx0, o1, if_neg (by decide), if_neg (by decide), if_neg (by show ¬ 1 = q; omega)]
    rfl
  have p1 : xput tk q (nxl sKs sAs sBs 2 [(1, 0, 1), (2, 1, 0)]) { marks := [[1, 0], [0, 1]], ways := [[], [0]], nexts := [[(0, 1)]], cur := [] } 1 = .inr { marks := [[1, 0], [0, 1], [0, 0]], ways := [[], [0], [0, 1]], nexts := [[(0, 1)]], cur := [(1, 2)] } := by
    unfold xput
    have e : (Xp.mk [[1, 0], [0, 1]] [[], [0]] [[(0, 1)]] []).here = [0, 1] := rfl
    rw [e, st_nx1, o2, if_neg (by decide), if_neg (by decide), if_neg (by show ¬ 2 = q; omega)]
    rfl
  unfold xouter
  rw [if_pos (by decide), show (xstart [1, 0]).here = [1, 0] from rfl, c0, xinner_go p0]
  show xouter tk q _ _ 200 (Xp.mk [[1, 0], [0, 1]] [[], [0]] [[(0, 1)]] []) = _
  unfold xouter
  rw [if_pos (by decide), show (Xp.mk [[1, 0], [0, 1]] [[], [0]] [[(0, 1)]] []).here = [0, 1] from rfl, c1, xinner_go p1]
  show xouter tk q _ _ 199 (Xp.mk [[1, 0], [0, 1], [0, 0]] [[], [0], [0, 1]] [[(0, 1)], [(1, 2)]] []) = _
  unfold xouter
  rw [if_pos (by decide), show (Xp.mk [[1, 0], [0, 1], [0, 0]] [[], [0], [0, 1]] [[(0, 1)], [(1, 2)]] []).here = [0, 0] from rfl, c2]
  show xouter tk q _ _ 198 (Xp.mk [[1, 0], [0, 1], [0, 0]] [[], [0], [0, 1]] [[(0, 1)], [(1, 2)], []] []) = _
  unfold xouter
  rw [if_neg (by decide)]

end Go.Proofs.Ythpbgfodejoecaa

namespace Go.Proofs.Ythpbgfodejoecaa
open Go.RowKit Go.Maps

theorem st_x {X : List Int → Nat → Int} (hX : XOk sKs sAs sBs 2 (stAll sKs sAs sBs 2 3) X) : xall 1 9 sKs sAs sBs 2 (stAll sKs sAs sBs 2 3) X = .inr { marks := [[1, 0], [0, 1], [0, 0]], ways := [[], [0], [0, 1]], nexts := [[(0, 1)], [(1, 2)], []], cur := [] } := by
  rw [st_steps] at hX ⊢
  unfold xall
  rw [st_begin]
  exact st_all hX (by decide) (by decide)

/-- Of of the straight process. -/
theorem st_of {na fa : Option Addr} {w : World} (hp : Prc w na 3 3 fa 2 sMs sKs sAs sBs) :
    Calls Try.prog 6 #[.agg #[.slice na 3 3, .slice fa 2 2], .int .i64 1, .int .i64 9] w fun e w' => Below w.heap.size w w' ∧ ∃ (sa na' la fa' oa : Option Addr) (sc nc lc fc oc : Nat) (X Y : Nat → Int) (U : Nat → Int), e = .returned (.tuple #[.agg #[.slice sa 1 sc, .slice na' 3 nc, .slice la 3 lc, .slice fa' 2 fc], .slice oa 3 oc, .int .i64 0]) ∧ Hid (Row w' sa 1 (fun _ => 0) ∧ Fls w' oa 3 X Y ∧ X 2 = -1 ∧ RowU w' la 3 U ∧ U 0 = 2) := by
  obtain ⟨X, hX⟩ := xok_ex sKs sAs sBs 2 (stAll sKs sAs sBs 2 3)
  refine (runsOf_any hp straight_chk 1 9 hX).mono ?_
  rintro e w' ⟨hb, h⟩
  refine ⟨hb, ?_⟩
  rw [st_x hX, st_E] at h
  have e1 : ∀ T : Xp, xE 0 1 9 (.inr T : Sum (Int × List Int) Xp) = 0 := fun T => rfl
  have e2 : ∀ T : Xp, xN 0 1 9 (.inr T : Sum (Int × List Int) Xp) = T.nexts := fun T => rfl
  have e3 : ∀ T : Xp, xM 0 1 9 (.inr T : Sum (Int × List Int) Xp) = T.marks := fun T => rfl
  rw [e1, e2, e3, st_steps] at h
  rcases h with ⟨h1, _⟩ | ⟨_, A, oa, oc, rfl, h2⟩
  · exact absurd (by decide) h1
  · obtain ⟨hA, hW, hF⟩ := h2.out
    have hsn : A.sn = 1 := hA.sn.trans (by decide)
    have hG : A.G = 3 := hA.G.trans (by decide)
    have hM : A.M = 3 := hA.M.trans (by decide)
    have hK : A.K = 2 := hA.K.trans (by decide)
    refine ⟨A.sa, A.na, A.la, A.fa, oa, A.sc, A.nc, A.lc, A.fc, oc, _, _, fun i => (A.Lb i : Int), ?_, hid ⟨?_, hF, by decide, ?_, ?_⟩⟩
    · show Ending.returned (.tuple #[.agg #[.slice A.sa A.sn A.sc, .slice A.na A.G A.nc, .slice A.la A.M A.lc, .slice A.fa A.K A.fc], _, _]) = _
      rw [hsn, hG, hM, hK]
      rfl
    · have := hW.start
      rw [hsn] at this
      obtain ⟨b, o, h3, h4⟩ := this
      refine ⟨b, o, h3, fun i hi => ?_⟩
      rw [h4 i hi, hA.S]
      obtain rfl : i = 0 := by omega
      rfl
    · have := hW.label
      rw [hM] at this
      exact this
    · rw [hA.Lb]
      rfl

end Go.Proofs.Ythpbgfodejoecaa

namespace Go.Proofs.Ythpbgfodejoecaa
open Go.RowKit Go.Maps

theorem xinv_edge {tk : Int} {q : Nat} {nx : Int → List Int → List Int} {cn : List Int → List Int} {m0 : List Int} {T : Xp} (h : XInv tk q nx cn m0 T []) (hn : T.nexts.length = T.marks.length) {k : Nat} {m : List Int} (hm : T.marks[k]? = some m) :
    ∃ L, T.nexts[k]? = some L ∧ L.map Prod.fst = cn m ∧ ∀ e, e ∈ L → ∃ j : Nat, e.2 = j ∧ T.marks[j]? = some (nx e.1 m) := by
  have hk : k < T.nexts.length := by rw [hn]; exact (List.getElem?_eq_some_iff.1 hm).1
  have h1 : T.nexts[k]? = some T.nexts[k] := List.getElem?_eq_getElem hk
  obtain ⟨h2, h3⟩ := h.edges k _ m h1 hm
  exact ⟨_, h1, h2, h3⟩

/-- One step along the space. -/
theorem sk_step {K A B : Nat → Int} {F : Nat} {l : List St3} {X : List Int → Nat → Int} (hX : XOk K A B F l X) (hl : ∀ j, j < l.length → (l.getD j (0, 0, 0)).2.1 < F) {tk : Int} {q : Nat} {m0 : List Int} {T : Xp}
    (h : XInv tk q (nxl K A B F l) (cnl X l.length) m0 T []) (hn : T.nexts.length = T.marks.length) {k s : Nat} {m : Nat → Int} (hk : k < T.marks.length) (hm : T.marks.getD k [] = lst F m) (hs : s < l.length) (he : enb K A B F m (l.getD s (0, 0, 0))) :
    k < T.nexts.length ∧ (∃ i, i < (T.nexts.getD k []).length ∧ ((T.nexts.getD k []).getD i (0, 0)).1 = s) ∧
      ∀ i, i < (T.nexts.getD k []).length → ((T.nexts.getD k []).getD i (0, 0)).1 = s → ∃ k2 : Nat, ((T.nexts.getD k []).getD i (0, 0)).2 = k2 ∧ k2 < T.marks.length ∧ T.marks.getD k2 [] = lst F (frs K A B (l.getD s (0, 0, 0)) m) := by
  have hm' : T.marks[k]? = some (lst F m) := by
    rw [List.getElem?_eq_getElem hk, ← hm, List.getD_eq_getElem?_getD, List.getElem?_eq_getElem hk]; rfl
  obtain ⟨L, h1, h2, h3⟩ := xinv_edge h hn hm'
  have e : T.nexts.getD k [] = L := by rw [List.getD_eq_getElem?_getD, h1]; rfl
  rw [e]
  have hag : ∀ i, i < F → fnl (lst F m) i = m i := fun i hi => fnl_lst hi
  refine ⟨by omega, ?_, fun i hi hi1 => ?_⟩
  · have hmem : (s : Int) ∈ cnl X l.length (lst F m) := (mem_cnl hX).2 ⟨s, rfl, hs, (enb_congr hag (hl s hs)).2 he⟩
    rw [← h2] at hmem
    obtain ⟨p, hp, hp1⟩ := List.mem_map.1 hmem
    obtain ⟨i, hi, hip⟩ := List.getElem_of_mem hp
    refine ⟨i, hi, ?_⟩
    rw [List.getD_eq_getElem?_getD, List.getElem?_eq_getElem hi, hip]
    exact hp1
  · have hmem : L.getD i (0, 0) ∈ L := by
      rw [List.getD_eq_getElem?_getD, List.getElem?_eq_getElem hi]
      exact List.getElem_mem hi
    obtain ⟨k2, e1, e2⟩ := h3 _ hmem
    refine ⟨k2, e1, (List.getElem?_eq_some_iff.1 e2).1, ?_⟩
    rw [List.getD_eq_getElem?_getD, e2, hi1]
    show nxl K A B F l (s : Int) (lst F m) = _
    unfold nxl
    rw [Int.toNat_natCast]
    exact lst_congr (fun j hj => frs_congr (hag j hj))

/-- One step along the world: some state of the marking does it, and each such state leads on. -/
theorem rw_step {E tk st : Int} {K A B : Nat → Int} {F : Nat} {l : List St3} {X : List Int → Nat → Int} (hX : XOk K A B F l X) (hl : ∀ j, j < l.length → (l.getD j (0, 0, 0)).2.1 < F) (h : xE E tk st (xall tk st K A B F l X) = 0)
    {marks : List (List Int)} {nx : List (List (Int × Int))} (hmk : xM E tk st (xall tk st K A B F l X) = marks) (hnx : xN E tk st (xall tk st K A B F l X) = nx) {k s : Nat} {m : Nat → Int} (hk : k < marks.length) (hm : marks.getD k [] = lst F m) (hs : s < l.length) (he : enb K A B F m (l.getD s (0, 0, 0))) :
    (∃ i, i < (dgs nx marks.length).length ∧ (rnT nx marks.length i).1 = k ∧ (rnT nx marks.length i).2.1 = s) ∧
      ∀ i, i < (dgs nx marks.length).length → (rnT nx marks.length i).1 = k → (rnT nx marks.length i).2.1 = s → ∃ k2 : Nat, (rnT nx marks.length i).2.2 = k2 ∧ k2 < marks.length ∧ marks.getD k2 [] = lst F (frs K A B (l.getD s (0, 0, 0)) m) := by
  obtain ⟨_, _, T, _, h4, h5, h6, h7⟩ := x_ok h
  rw [h4] at hmk
  rw [h5] at hnx
  subst hmk hnx
  obtain ⟨h8, ⟨j, h9, h10⟩, h11⟩ := sk_step hX hl h6 h7 hk hm hs he
  refine ⟨?_, fun i hi h12 h13 => ?_⟩
  · have h0 : (T.nexts.getD k []).length ≠ 0 := by omega
    have hmem : ((k : Int), (s : Int), ((T.nexts.getD k []).getD j (0, 0)).2) ∈ dgL k (T.nexts.getD k []) := by
      rw [dgL_some h0]
      unfold dgE
      refine List.mem_map.2 ⟨(T.nexts.getD k []).getD j (0, 0), getD2_mem h9, ?_⟩
      rw [h10]
    obtain ⟨i, h12, h13⟩ := dgL_at hmem hk
    exact ⟨i, h12, by rw [h13], by rw [h13]⟩
  · obtain ⟨r, hr, hr2⟩ := dgs_mem (rnT_mem hi)
    obtain ⟨h14, h15⟩ := dgL_mem hr2
    obtain rfl : r = k := by omega
    rcases h15 with ⟨h16, _⟩ | ⟨e, he2, h16, h17⟩
    · omega
    · obtain ⟨y, hy, ey⟩ := List.mem_iff_getElem.1 he2
      have hge : (T.nexts.getD r []).getD y (0, 0) = e := by rw [List.getD_eq_getElem?_getD (l := T.nexts.getD r []), List.getElem?_eq_getElem hy, ey]; rfl
      obtain ⟨k2, g1, g2, g3⟩ := h11 y hy (by rw [hge, ← h16]; exact h13)
      rw [hge] at g1
      exact ⟨k2, by rw [h17]; exact g1, g2, g3⟩

/-- The first marking. -/
theorem rw_first {E tk st : Int} {K A B : Nat → Int} {F : Nat} {l : List St3} {X : List Int → Nat → Int} (h : xE E tk st (xall tk st K A B F l X) = 0) : 0 < (xM E tk st (xall tk st K A B F l X)).length ∧ (xM E tk st (xall tk st K A B F l X)).getD 0 [] = lst F (bgn K A) := by
  obtain ⟨_, _, T, _, h4, _, h6, _⟩ := x_ok h
  rw [h4]
  have h1 := h6.first
  exact ⟨(List.getElem?_eq_some_iff.1 h1).1, by rw [List.getD_eq_getElem?_getD, h1]; rfl⟩

/-- A state of the marking's list, by its place. -/
theorem rnM_at {nx : List (List (Int × Int))} {G k y : Nat} (hy : y < (rnM nx G k).length) : ∃ i : Nat, (rnM nx G k).getD y 0 = i ∧ i < (dgs nx G).length ∧ (rnT nx G i).1 = k := by
  have hm : (rnM nx G k).getD y 0 ∈ rnM nx G k := by
    rw [List.getD_eq_getElem?_getD, List.getElem?_eq_getElem hy]
    exact List.getElem_mem hy
  unfold rnM at hm
  obtain ⟨i, h1, h2, h3⟩ := mem_fl hm
  exact ⟨i, h1, h2, h3⟩

theorem rnM_has {nx : List (List (Int × Int))} {G k i : Nat} (hi : i < (dgs nx G).length) (h : (rnT nx G i).1 = k) : ∃ y, y < (rnM nx G k).length ∧ (rnM nx G k).getD y 0 = i := by
  have hm : (i : Int) ∈ rnM nx G k := by unfold rnM; exact fl_mem h hi
  obtain ⟨y, h1, h2⟩ := List.mem_iff_getElem.1 hm
  exact ⟨y, h1, by rw [List.getD_eq_getElem?_getD, List.getElem?_eq_getElem h1, h2]; rfl⟩

end Go.Proofs.Ythpbgfodejoecaa
