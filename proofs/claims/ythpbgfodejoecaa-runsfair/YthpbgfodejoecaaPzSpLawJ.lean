/-  The straight process's world; Contains. The law RunsSays, walked. -/
import Derived.RegionTactic
import Derived.ChangeAlike
import Derived.Deep.RegionHeld3
import Derived.Deep.AppendLies
import Derived.Maps.OwnSet
import Derived.Maps.OwnOps
import Derived.Deep.MidRow
import Derived.WideKeyArr2
import Derived.Laws.CopyOwn
import Derived.WalkKit
import Derived.WalkSpells
import Derived.WalkLawsBesides
import Derived.Deep.QuietTactic
import Derived.BigQuiet
import Derived.Deep.Cut
import Derived.Laws.BitsLemmas
import Derived.Laws.AppendOwnNone
import Derived.Deep.RegionLaw
import Derived.Deep.OwnRows
import Derived.Maps.AppendAt
import Derived.Deep.Quiet
import Derived.Deep.RegionHeld
import Derived.Test.YthpbgfodejoecaaBfsJ
import Derived.Test.YthpbgfodejoecaaDistJ
import Derived.Test.YthpbgfodejoecaaDist2J
import Derived.Test.YthpbgfodejoecaaExpl
import Derived.Test.YthpbgfodejoecaaGameFaceJ
import Derived.Test.YthpbgfodejoecaaLeafJ
import Derived.Test.YthpbgfodejoecaaGame
import Derived.Test.YthpbgfodejoecaaHeldJ
import Derived.Test.YthpbgfodejoecaaGameEnJ
import Derived.Test.YthpbgfodejoecaaGameFire
import Derived.Test.YthpbgfodejoecaaGameLay
import Derived.Test.YthpbgfodejoecaaGameMay
import Derived.Test.YthpbgfodejoecaaGameStep
import Derived.Test.YthpbgfodejoecaaWFapJ
import Derived.Test.YthpbgfodejoecaaProc
import Derived.Test.YthpbgfodejoecaaProc2
import Derived.Test.YthpbgfodejoecaaProc3
import Derived.Test.YthpbgfodejoecaaProc4
import Derived.Test.YthpbgfodejoecaaProc5J
import Derived.Test.YthpbgfodejoecaaProc6
import Derived.Test.YthpbgfodejoecaaProc7
import Derived.Test.YthpbgfodejoecaaSpExpl
import Derived.Test.YthpbgfodejoecaaSpFaceJ
import Derived.Test.YthpbgfodejoecaaSpKey
import Derived.Test.YthpbgfodejoecaaSpMem
import Derived.Test.YthpbgfodejoecaaSpRev
import Derived.Test.YthpbgfodejoecaaSpSpread
import Derived.Test.YthpbgfodejoecaaSteps
import Derived.Test.YthpbgfodejoecaaStepsLeaf
import Derived.Test.YthpbgfodejoecaaStepsOfJ
import Derived.Test.YthpbgfodejoecaaPzProc8J
import Derived.Laws.EntriesVeiled
import Derived.Laws.OwnMore
import Derived.Deep.CutRange
import Derived.Test.YthpbgfodejoecaaRof
import Derived.Test.YthpbgfodejoecaaWFaiJ
/- What is told, by the reckoning; the straight process. -/
namespace Go.Proofs.Ythpbgfodejoecaa
open Go.RowKit Go.Maps

/-! ### The straight process -/
theorem st_steps : stAll sKs sAs sBs 2 3 = [(1, 0, 1), (2, 1, 0)] := by decide
theorem st_E : spE 0 (stAll sKs sAs sBs 2 3).length = 0 := by rw [st_steps]; rfl
theorem st_begin : lst 2 (bgn sKs sAs) = [1, 0] := by decide

theorem st_X {X : List Int → Nat → Int} (hX : XOk sKs sAs sBs 2 [(1, 0, 1), (2, 1, 0)] X) (m : List Int) : (X m 0 = 1 ↔ 0 < fnl m 0) ∧ (X m 1 = 1 ↔ 0 < fnl m 1) := by
  have h0 := hX m 0
  have h1 := hX m 1
  exact ⟨h0.trans (enb_one (n := 1) (y := 0) (o := 1)), h1.trans (enb_one (n := 2) (y := 1) (o := 0))⟩

theorem fl_two {Z : Nat → Int} : fl Z 1 2 = (if Z 0 = 1 then [0] else []) ++ (if Z 1 = 1 then [1] else []) := by
  by_cases h0 : Z 0 = 1
  · by_cases h1 : Z 1 = 1
    · simp [fl, h0, h1]
    · simp [fl, h0, h1]
  · by_cases h1 : Z 1 = 1
    · simp [fl, h0, h1]
    · simp [fl, h0, h1]

theorem st_cn {X : List Int → Nat → Int} (hX : XOk sKs sAs sBs 2 [(1, 0, 1), (2, 1, 0)] X) : cnl X 2 [1, 0] = [0] ∧ cnl X 2 [0, 1] = [1] ∧ cnl X 2 [0, 0] = [] := by
  refine ⟨?_, ?_, ?_⟩
  · have h := st_X hX [1, 0]
    unfold cnl
    rw [fl_two, if_pos (h.1.2 (by decide)), if_neg (fun hh => absurd (h.2.1 hh) (by decide))]
    rfl
  · have h := st_X hX [0, 1]
    unfold cnl
    rw [fl_two, if_neg (fun hh => absurd (h.1.1 hh) (by decide)), if_pos (h.2.2 (by decide))]
    rfl
  · have h := st_X hX [0, 0]
    unfold cnl
    rw [fl_two, if_neg (fun hh => absurd (h.1.1 hh) (by decide)), if_neg (fun hh => absurd (h.2.1 hh) (by decide))]
    rfl

theorem st_nx0 : nxl sKs sAs sBs 2 [(1, 0, 1), (2, 1, 0)] 0 [1, 0] = [0, 1] := by decide
theorem st_nx1 : nxl sKs sAs sBs 2 [(1, 0, 1), (2, 1, 0)] 1 [0, 1] = [0, 0] := by decide

theorem st_ovr {tk : Int} (h : 1 ≤ tk) : ovr tk [0, 1] = false ∧ ovr tk [0, 0] = false := by
  unfold ovr
  simp
  omega

/-- All there. -/
theorem st_all {X : List Int → Nat → Int} (hX : XOk sKs sAs sBs 2 [(1, 0, 1), (2, 1, 0)] X) {tk : Int} {q : Nat} (ht : 1 ≤ tk) (hq : 3 ≤ q) :
    xouter tk q (nxl sKs sAs sBs 2 [(1, 0, 1), (2, 1, 0)]) (cnl X 2) 201 (xstart [1, 0]) = .inr { marks := [[1, 0], [0, 1], [0, 0]], ways := [[], [0], [0, 1]], nexts := [[(0, 1)], [(1, 2)], []], cur := [] } := by
  obtain ⟨c0, c1, c2⟩ := st_cn hX
  obtain ⟨o1, o2⟩ := st_ovr ht
  have p0 : xput tk q (nxl sKs sAs sBs 2 [(1, 0, 1), (2, 1, 0)]) (xstart [1, 0]) 0 = .inr { marks := [[1, 0], [0, 1]], ways := [[], [0]], nexts := [], cur := [(0, 1)] } := by
    unfold xput
    have e : (xstart [1, 0]).here = [1, 0] := rfl
    rw [e, st_nx0, o1, if_neg (by decide), if_neg (by decide), if_neg (by show ¬ 1 = q; omega)]
    rfl
  have p1 : xput tk q (nxl sKs sAs sBs 2 [(1, 0, 1), (2, 1, 0)]) { marks := [[1, 0], [0, 1]], ways := [[], [0]], nexts := [[(0, 1)]], cur := [] } 1 = .inr { marks := [[1, 0], [0, 1], [0, 0]], ways := [[], [0], [0, 1]], nexts := [[(0, 1)]], cur := [(1, 2)] } := by
    unfold xput
    have e : (Xp.mk [[1, 0], [0, 1]] [[], [0]] [[(0, 1)]] []).here = [0, 1] := rfl
    rw [e, st_nx1, o2, if_neg (by decide), if_neg (by decide), if_neg (by show ¬ 2 = q; omega)]
    rfl
  unfold xouter
  rw [if_pos (by decide), show (xstart [1, 0]).here = [1, 0] from rfl, c0, xinner_go p0]
  show xouter tk q _ _ 200 (Xp.mk [[1, 0], [0, 1]] [[], [0]] [[(0, 1)]] []) = _
  unfold xouter
  rw [if_pos (by decide), show (Xp.mk [[1, 0], [0, 1]] [[], [0]] [[(0, 1)]] []).here = [0, 1] from rfl, c1, xinner_go p1]
  show xouter tk q _ _ 199 (Xp.mk [[1, 0], [0, 1], [0, 0]] [[], [0], [0, 1]] [[(0, 1)], [(1, 2)]] []) = _
  unfold xouter
  rw [if_pos (by decide), show (Xp.mk [[1, 0], [0, 1], [0, 0]] [[], [0], [0, 1]] [[(0, 1)], [(1, 2)]] []).here = [0, 0] from rfl, c2]
  show xouter tk q _ _ 198 (Xp.mk [[1, 0], [0, 1], [0, 0]] [[], [0], [0, 1]] [[(0, 1)], [(1, 2)], []] []) = _
  unfold xouter
  rw [if_neg (by decide)]

end Go.Proofs.Ythpbgfodejoecaa

namespace Go.Proofs.Ythpbgfodejoecaa
open Go.RowKit Go.Maps

theorem has_yes {n : Nat} {Z : Nat → Int} {x : Int} (k : Nat) (hk : k < n) (e : Z k = x) : has n Z x = true := decide_eq_true ⟨k, hk, e⟩

set_option maxHeartbeats 400000 in
theorem index_any (a : Option Addr) (n c : Nat) (Z : Nat → Int) (x : Int) (w : World) (hn : n ≤ 140737488355328) (h : Row w a n Z) :
    Calls Try.prog 45 #[.slice a n c, .int .i64 x] w fun e w' => (∃ y : Int, e = .returned (.int .i64 y) ∧ has n Z x = decide (0 ≤ y)) ∧ w' = w := by
  obtain ⟨b, o, ha, hc⟩ := h
  go_enter Try.func45, Try.ntmps45
  go_wp2
  go_loop [8] (fun i => ∃ k : Nat, k ≤ n ∧ i = .int .i64 k ∧ Hid (∀ j, j < k → Z j ≠ x)) (fun i => n - (intOf i).toNat)
  case atStart => exact ⟨0, Nat.zero_le _, rfl, hid (fun j hj => absurd hj (Nat.not_lt_zero _))⟩
  case round =>
    obtain ⟨k, hk, rfl, H⟩ := hrel
    by_cases hlt : k < n
    · obtain rfl := ha (by omega)
      have hck := hc k hlt
      by_cases h1 : x = Z k
      · have E : Hid (Z k = x) := h1.symm
        have hb : (x == Z k) = true := beq_iff_eq.2 h1
        clear h1
        go_wp2
        go_ret
        exact ⟨⟨_, rfl, by rw [has_yes k hlt E.out]; symm; rw [decide_eq_true_eq]; omega⟩, rfl⟩
      · have hb : (x == Z k) = false := beq_eq_false_iff_ne.2 h1
        have E : Hid (Z k ≠ x) := fun e => h1 e.symm
        clear h1
        go_wp2
        go_round
        case rel => exact ⟨k + 1, by omega, by go_num, hid (snoc_all H.out E.out)⟩
        case measure => simp [intOf]; omega
    · go_wp2
      go_ret
      exact ⟨⟨_, rfl, by rw [has_no (fun i hi => H.out i (by omega))]; symm; rw [decide_eq_false_iff_not]; omega⟩, rfl⟩

set_option maxHeartbeats 400000 in
theorem contains_any (a : Option Addr) (n c : Nat) (Z : Nat → Int) (x : Int) (w : World) (hn : n ≤ 140737488355328) (h : Row w a n Z) :
    Calls Try.prog 17 #[.slice a n c, .int .i64 x] w fun e w' => e = .returned (.bool (has n Z x)) ∧ w' = w := by
  have HR : Hid (Row w a n Z) := h
  clear h
  go_enter Try.func17, Try.ntmps17
  go_wp2_with fail
  refine (index_any a n c Z x _ hn HR.out).mono ?_
  rintro e w' ⟨⟨y, rfl, hy⟩, rfl⟩
  have E : Hid (has n Z x = decide (0 ≤ y)) := hy
  clear hy
  go_wp2
  go_ret
  exact ⟨ret_bool E.out.symm, rfl⟩

theorem st_x {X : List Int → Nat → Int} (hX : XOk sKs sAs sBs 2 (stAll sKs sAs sBs 2 3) X) : xall 1 9 sKs sAs sBs 2 (stAll sKs sAs sBs 2 3) X = .inr { marks := [[1, 0], [0, 1], [0, 0]], ways := [[], [0], [0, 1]], nexts := [[(0, 1)], [(1, 2)], []], cur := [] } := by
  rw [st_steps] at hX ⊢
  unfold xall
  rw [st_begin]
  exact st_all hX (by decide) (by decide)

/-- Of of the straight process. -/
theorem st_of {na fa : Option Addr} {w : World} (hp : Prc w na 3 3 fa 2 sMs sKs sAs sBs) :
    Calls Try.prog 6 #[.agg #[.slice na 3 3, .slice fa 2 2], .int .i64 1, .int .i64 9] w fun e w' => Below w.heap.size w w' ∧ ∃ (sa na' la fa' oa : Option Addr) (sc nc lc fc oc : Nat) (X Y : Nat → Int) (U : Nat → Int), e = .returned (.tuple #[.agg #[.slice sa 1 sc, .slice na' 3 nc, .slice la 3 lc, .slice fa' 2 fc], .slice oa 3 oc, .int .i64 0]) ∧ Hid (Row w' sa 1 (fun _ => 0) ∧ Fls w' oa 3 X Y ∧ X 2 = -1 ∧ RowU w' la 3 U ∧ U 0 = 2) := by
  obtain ⟨X, hX⟩ := xok_ex sKs sAs sBs 2 (stAll sKs sAs sBs 2 3)
  refine (runsOf_any hp straight_chk 1 9 hX).mono ?_
  rintro e w' ⟨hb, h⟩
  refine ⟨hb, ?_⟩
  rw [st_x hX, st_E] at h
  have e1 : ∀ T : Xp, xE 0 1 9 (.inr T : Sum (Int × List Int) Xp) = 0 := fun T => rfl
  have e2 : ∀ T : Xp, xN 0 1 9 (.inr T : Sum (Int × List Int) Xp) = T.nexts := fun T => rfl
  have e3 : ∀ T : Xp, xM 0 1 9 (.inr T : Sum (Int × List Int) Xp) = T.marks := fun T => rfl
  rw [e1, e2, e3, st_steps] at h
  rcases h with ⟨h1, _⟩ | ⟨_, A, oa, oc, rfl, h2⟩
  · exact absurd (by decide) h1
  · obtain ⟨hA, hW, hF⟩ := h2.out
    have hsn : A.sn = 1 := hA.sn.trans (by decide)
    have hG : A.G = 3 := hA.G.trans (by decide)
    have hM : A.M = 3 := hA.M.trans (by decide)
    have hK : A.K = 2 := hA.K.trans (by decide)
    refine ⟨A.sa, A.na, A.la, A.fa, oa, A.sc, A.nc, A.lc, A.fc, oc, _, _, fun i => (A.Lb i : Int), ?_, hid ⟨?_, hF, by decide, ?_, ?_⟩⟩
    · show Ending.returned (.tuple #[.agg #[.slice A.sa A.sn A.sc, .slice A.na A.G A.nc, .slice A.la A.M A.lc, .slice A.fa A.K A.fc], _, _]) = _
      rw [hsn, hG, hM, hK]
      rfl
    · have := hW.start
      rw [hsn] at this
      obtain ⟨b, o, h3, h4⟩ := this
      refine ⟨b, o, h3, fun i hi => ?_⟩
      rw [h4 i hi, hA.S]
      obtain rfl : i = 0 := by omega
      rfl
    · have := hW.label
      rw [hM] at this
      exact this
    · rw [hA.Lb]
      rfl

end Go.Proofs.Ythpbgfodejoecaa

namespace Go.Proofs.Ythpbgfodejoecaa
open Go.RowKit Go.Maps

/-- The world of nothing. -/
def zw : Wx := ⟨none, 0, 0, none, 0, 0, none, 0, 0, none, 0, 0, fun _ => 0, fun _ => 0, fun _ _ => 0, fun _ => 0, fun _ => 0, fun _ _ => 0⟩
theorem zw_ww (w : World) : Ww w zw :=
  ⟨⟨0, 0, fun h => absurd h (Nat.lt_irrefl 0), fun i hi => absurd hi (Nat.not_lt_zero i)⟩, ⟨0, 0, fun h => absurd h (Nat.lt_irrefl 0), fun i hi => absurd hi (Nat.not_lt_zero i)⟩, ⟨0, 0, fun h => absurd h (Nat.lt_irrefl 0), fun i hi => absurd hi (Nat.not_lt_zero i)⟩, ⟨0, 0, fun h => absurd h (Nat.lt_irrefl 0), fun i hi => absurd hi (Nat.not_lt_zero i)⟩, Nat.zero_le _, Nat.zero_le _, fun r hr => absurd hr (Nat.not_lt_zero r), Nat.zero_le _, Nat.zero_le _, fun r hr => absurd hr (Nat.not_lt_zero r), fun i hi => absurd hi (Nat.not_lt_zero i)⟩

/-- What is told, at once. -/
def RnS (A : Wx) (n : Nat) (X Y : Nat → Int) (E : Int) (nx : List (List (Int × Int))) (G : Nat) (l : List St3) : Prop :=
  (rnE E nx G ≠ 0 ∧ A = zw ∧ n = 0 ∧ X = (fun _ => 0) ∧ Y = fun _ => 0) ∨ (rnE E nx G = 0 ∧ RnA A nx G l ∧ n = (dgs nx G).length ∧ X = (fun i => (rnT nx G i).2.1) ∧ Y = fun i => (rnT nx G i).1)

theorem rn_all {E : Int} {nx : List (List (Int × Int))} {G : Nat} {l : List St3} {e : Ending} {w : World} (h : RnIs E nx G l e w) :
    ∃ (A : Wx) (oa : Option Addr) (oc n : Nat) (X Y : Nat → Int), e = .returned (.tuple #[.agg #[.slice A.sa A.sn A.sc, .slice A.na A.G A.nc, .slice A.la A.M A.lc, .slice A.fa A.K A.fc], .slice oa n oc, .int .i64 (rnE E nx G)]) ∧ Hid (Ww w A ∧ Fls w oa n X Y ∧ RnS A n X Y E nx G l) := by
  rcases h with ⟨h1, rfl⟩ | ⟨h1, A, oa, oc, rfl, h2⟩
  · exact ⟨zw, none, 0, 0, fun _ => 0, fun _ => 0, rfl, zw_ww w, ⟨0, 0, fun h => absurd h (Nat.lt_irrefl 0), fun i hi => absurd hi (Nat.not_lt_zero i)⟩, Or.inl ⟨h1, rfl, rfl, rfl, rfl⟩⟩
  · exact ⟨A, oa, oc, _, _, _, by rw [h1]; rfl, h2.out.2.1, h2.out.2.2, Or.inr ⟨h1, h2.out.1, rfl, rfl, rfl⟩⟩

theorem rns_small {A : Wx} {n : Nat} {X Y : Nat → Int} {E : Int} {nx : List (List (Int × Int))} {G : Nat} {l : List St3} (h : RnS A n X Y E nx G l) : n ≤ 600 := by
  rcases h with ⟨h1, rfl, rfl, rfl, rfl⟩ | ⟨h1, h2, rfl, rfl, rfl⟩
  · omega
  · unfold rnE at h1
    by_cases hE : E ≠ 0
    · rw [if_pos hE] at h1; exact absurd h1 hE
    · rw [if_neg hE] at h1
      by_cases h6 : 600 < (dgs nx G).length
      · rw [if_pos h6] at h1; cases h1
      · omega

end Go.Proofs.Ythpbgfodejoecaa
