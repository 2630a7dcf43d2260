/- Small functions, by their contracts. The steps that are told, played; the straight process. What SoundWays wants of what is found. -/
import Derived.Test.YtjenkhphngiphaaSndXJ
import Derived.Test.YtjenkhphngiphaaGamePlay
namespace Go.Proofs.Ytjenkhphngiphaa
open Go.RowKit Go.Maps

theorem pth_eq {K A B : Nat → Int} {F : Nat} {l : List St3} {n k : Nat} {Ms Ns : Nat → Nat → Int} {S T : Nat → Nat} (h : Pth K A B F l n Ms S) (h' : Pth K A B F l k Ns T) (hk : k ≤ n) (hS : ∀ i, i < k → S i = T i) : ∀ i, i ≤ k → Ms i = Ns i
  | 0, _ => h.zero.trans h'.zero.symm
  | i + 1, hi => by
    have ih := pth_eq h h' hk hS i (by omega)
    rw [(h.step i (by omega)).2.2, (h'.step i (by omega)).2.2, hS i (by omega), ih]

theorem ferr_not {K A B : Nat → Int} {F : Nat} {l : List St3} {m : Nat → Int} {step y : Int} (h : FErr K A B F l m step y) (h1 : 0 ≤ step) (h2 : step.toNat < l.length) (h3 : enb K A B F m (l.getD step.toNat (0, 0, 0))) (h4 : ∀ j, j < F → frs K A B (l.getD step.toNat (0, 0, 0)) m j ≤ 9) : False := by
  rcases h with ⟨a, _⟩ | ⟨_, a, _⟩ | ⟨_, _, ⟨j, hj, a⟩, _⟩
  · exact a ⟨h1, by omega⟩
  · exact a h3
  · have := h4 j hj
    omega

/-- What Play found. -/
def PyD (K A B : Nat → Int) (F : Nat) (l : List St3) (n : Nat) (d : Nat → Int) (k : Nat) (Ms : Nat → Nat → Int) (y : Int) : Prop :=
  k ≤ n ∧ (∀ i, i < k → 0 ≤ d i) ∧ Pth K A B F l k Ms (fun i => (d i).toNat) ∧ ((k = n ∧ y = 0) ∨ (k < n ∧ FErr K A B F l (Ms k) (d k) y))

theorem py_not {K A B : Nat → Int} {F : Nat} {l : List St3} {n : Nat} {d : Nat → Int} {k kk : Nat} {Ms Ns : Nat → Nat → Int} {y : Int} (hpos : ∀ i, i < k → 0 ≤ d i) (hp : Pth K A B F l k Ms (fun i => (d i).toNat)) (hk : k ≤ n) (h : PyD K A B F l n d kk Ns y) : ¬ kk < k := fun hlt => by
  obtain ⟨_, _, h3, h4⟩ := h
  have hs := pth_eq hp h3 (by omega) (fun _ _ => rfl)
  rcases h4 with ⟨h5, _⟩ | ⟨_, h5⟩
  · omega
  · rw [← hs kk (Nat.le_refl _)] at h5
    obtain ⟨s1, s2, s3⟩ := hp.step kk hlt
    exact ferr_not h5 (hpos kk hlt) s1 s2 (fun j hj => by rw [← s3]; exact (hp.ok (kk + 1) (by omega) j hj).2)

theorem py_end {K A B : Nat → Int} {F : Nat} {l : List St3} {n : Nat} {d : Nat → Int} {kk : Nat} {Ms Ns : Nat → Nat → Int} {y : Int} (hpos : ∀ i, i < n → 0 ≤ d i) (hp : Pth K A B F l n Ms (fun i => (d i).toNat)) (h : PyD K A B F l n d kk Ns y) :
    kk = n ∧ y = 0 ∧ ∀ i, i ≤ n → Ns i = Ms i := by
  have hno := py_not hpos hp (Nat.le_refl _) h
  obtain ⟨h1, _, h3, h4⟩ := h
  obtain rfl : kk = n := by omega
  refine ⟨rfl, ?_, pth_eq h3 hp (Nat.le_refl _) (fun _ _ => rfl)⟩
  rcases h4 with ⟨_, h5⟩ | ⟨h5, _⟩
  · exact h5
  · omega

end Go.Proofs.Ytjenkhphngiphaa

namespace Go.Proofs.Ytjenkhphngiphaa
open Go.RowKit Go.Maps

/-- What is found of the straight process. -/
theorem st_fd {d l1 l2 : List Int} {r1 r2 : Int} (h : FdIs 3 2 sKs [(1, 0, 1), (2, 1, 0)] [[1, 0], [0, 1], [0, 0]] [[(0, 1)], [(1, 2)], []] d r1 r2 l1 l2) : d = [] ∧ r1 = -1 ∧ r2 = -1 := by
  refine ⟨?_, ?_, ?_⟩
  · obtain ⟨D, hD, rfl⟩ := h.dead
    have d1 : D 1 = true := (hD 1 (by omega)).2 ⟨0, 0, by decide, Or.inl (by decide), by decide⟩
    have d2 : D 2 = true := (hD 2 (by omega)).2 ⟨1, 0, by decide, Or.inl (by decide), by decide⟩
    have m0 : ddX D sKs 0 ≠ 1 := by unfold ddX; rw [if_pos (Or.inr (by decide))]; decide
    have m1 : ddX D sKs 1 ≠ 1 := by unfold ddX; rw [if_pos (Or.inl d1)]; decide
    have m2 : ddX D sKs 2 ≠ 1 := by unfold ddX; rw [if_pos (Or.inl d2)]; decide
    rw [fl_miss m2, fl_miss m1, fl_miss m0]
    rfl
  · refine h.still.uniq (.no (fun i hi => ?_))
    match i, hi with
    | 0, _ => exact fun hh => absurd hh.1 (by decide)
    | 1, _ => exact fun hh => absurd hh.1 (by decide)
    | 2, _ => exact fun hh => absurd hh.2 (by decide)
  · have e01 : Ego 3 (snL [[(0, 1)], [(1, 2)], []]) (snZ [[(0, 1)], [(1, 2)], []]) 0 1 := ⟨by omega, 0, by decide, by decide⟩
    have e12 : Ego 3 (snL [[(0, 1)], [(1, 2)], []]) (snZ [[(0, 1)], [(1, 2)], []]) 1 2 := ⟨by omega, 0, by decide, by decide⟩
    refine h.never.uniq (.no (fun i hi hn => hn ⟨2, by decide, by decide, ?_⟩))
    match i, hi with
    | 0, _ => exact (RchG.edge e01).on e12
    | 1, _ => exact RchG.edge e12
    | 2, _ => exact RchG.refl _

/-- Look at the straight process. -/
theorem st_look {na fa : Option Addr} {w : World} (hp : Prc w na 3 3 fa 2 sMs sKs sAs sBs) :
    Calls Try.prog 6 #[.agg #[.slice na 3 3, .slice fa 2 2], .int .i64 1, .int .i64 9] w fun e w' => Below w.heap.size w w' ∧ ∃ (a0 a3 a4 : Option Addr) (c0 c3 c4 n3 n4 : Nat), e = .returned (.tuple #[.agg #[.slice a0 0 c0, .int .i64 (-1), .int .i64 (-1), .slice a3 n3 c3, .slice a4 n4 c4], .int .i64 0]) := by
  obtain ⟨X, hX⟩ := xok_ex sKs sAs sBs 2 (stAll sKs sAs sBs 2 3)
  refine (look_any hp straight_chk 1 9 hX).mono fun e w' hh => ⟨hh.1, ?_⟩
  have hb : bndOk 1 9 = true := by decide
  have h := hh.2
  have hx : xall 1 9 sKs sAs sBs 2 (stAll sKs sAs sBs 2 3) X = .inr { marks := [[1, 0], [0, 1], [0, 0]], ways := [[], [0], [0, 1]], nexts := [[(0, 1)], [(1, 2)], []], cur := [] } := by
    rw [st_steps] at hX ⊢
    unfold xall
    rw [st_begin]
    exact st_all hX (by omega) (by decide)
  rw [hx, st_E, st_steps] at h
  unfold xM xN xE at h
  simp only [hb] at h
  obtain ⟨a0, a3, a4, c0, c3, c4, d, r1, r2, l1, l2, rfl, _, _, _, h1 | h1⟩ := h
  · exact absurd rfl h1.1
  · obtain ⟨rfl, rfl, rfl⟩ := st_fd h1.2
    exact ⟨a0, a3, a4, c0, c3, c4, _, _, rfl⟩

/-- Each node of the way has an edge to the next one. -/
theorem way_edge2 {G : Nat} {L : Nat → Nat} {Z : Nat → Nat → Int} {m len : Nat} {d x y : Nat} (hx : wyN G L Z m len d = x) (hy : wyN G L Z m len (d + 1) = y) : ∃ i, i < L x ∧ Z x i = y := by
  have e : wyN G L Z m len (d + 1) = best (byLev G L Z (tgB m) len (d + 1)) (Z (wyN G L Z m len d).toNat) (L (wyN G L Z m len d).toNat) := rfl
  rw [hx, hy, Int.toNat_natCast] at e
  obtain ⟨i, h1, h2, _⟩ := best_some (p := byLev G L Z (tgB m) len (d + 1)) (Y := Z x) (L x) (by rw [← e]; omega)
  exact ⟨i, h1, by rw [← h2, ← e]⟩

theorem fzE_ex2 {Z : Nat → Int} {t : Int} {n i : Nat} (hi : i < n) (h : Z i = t) : ∃ k, k < n ∧ Z k = t ∧ ∀ j, j < k → Z j ≠ t := by
  induction i using Nat.strongRecOn with
  | ind i ih =>
    by_cases e : ∃ j, j < i ∧ Z j = t
    · obtain ⟨j, h1, h2⟩ := e
      exact ih j h1 (by omega) h2
    · exact ⟨i, hi, h, fun j hj hz => e ⟨j, hj, hz⟩⟩

/-- The steps that are told lead along the space. -/
theorem way_goes {tk : Int} {q : Nat} {nx : Int → List Int → List Int} {cn : List Int → List Int} {m0 : List Int} {T : Xp} (h : XInv tk q nx cn m0 T []) (hl : T.nexts.length = T.marks.length) {m : Nat} {l : List Int}
    (hto : ToIs T.marks.length (snL T.nexts) (snS T.nexts) (snZ T.nexts) m l) : Goes nx cn m0 (fun x => x ∈ T.marks) l (T.marks.getD m []) := by
  rcases hto with ⟨h1, _⟩ | ⟨m', D, len, h1, hmG, hN, rfl⟩
  · omega
  · obtain rfl : m = m' := by omega
    have hmem : ∀ i, i < T.marks.length → T.marks.getD i [] ∈ T.marks := fun i hi => by
      rw [List.getD_eq_getElem?_getD, List.getElem?_eq_getElem hi]
      exact List.getElem_mem hi
    refine ⟨fun i => T.marks.getD (wyN T.marks.length (snL T.nexts) (snZ T.nexts) m len i).toNat [], ?_, ?_, ?_, ?_⟩
    · obtain ⟨x, hx, _⟩ := way_node hN (d := 0) (Nat.zero_le _)
      have e : wyN T.marks.length (snL T.nexts) (snZ T.nexts) m len 0 = best (byLev T.marks.length (snL T.nexts) (snZ T.nexts) (tgB m) len 0) (fun _ => 0) 1 := rfl
      rw [hx] at e
      obtain ⟨i, _, h2, _⟩ := best_some (p := byLev T.marks.length (snL T.nexts) (snZ T.nexts) (tgB m) len 0) (Y := fun _ => (0 : Int)) 1 (by rw [← e]; omega)
      rw [← e] at h2
      have hx0 : x = 0 := by omega
      simp only [hx, hx0]
      have := h.first
      rw [List.getD_eq_getElem?_getD]
      show (T.marks[0]?).getD [] = m0
      rw [this]
      rfl
    · rw [stpL_len]
      obtain ⟨_, x, hx, hxG, _, hlev⟩ := hN.nodes len (Nat.le_refl _)
      have h2 : lev (snL T.nexts) (snZ T.nexts) (tgB m) T.marks.length x = ((0 : Nat) : Int) + 1 := by rw [hlev]; omega
      have h3 := (lev_iff hN.hZ hxG (Nat.zero_le _)).1 h2
      have h4 : tgB m x = true := h3.1
      unfold tgB at h4
      rw [decide_eq_true_eq] at h4
      have hx' : wyN T.marks.length (snL T.nexts) (snZ T.nexts) m len len = x := hx
      simp only [hx', Int.toNat_natCast, h4]
    · intro i hi
      rw [stpL_len] at hi
      obtain ⟨x, hx, hxG⟩ := way_node hN hi
      simp only [hx, Int.toNat_natCast]
      exact hmem x hxG
    · intro i hi
      rw [stpL_len] at hi
      obtain ⟨x, hx, hxG⟩ := way_node hN (d := i) (by omega)
      obtain ⟨y, hy, hyG⟩ := way_node hN (d := i + 1) (by omega)
      obtain ⟨j, hj, hz⟩ := way_edge2 (d := i) hx hy
      obtain ⟨k0, hk0, hz0, hj0⟩ := fzE_ex2 hj hz
      have hs : (stpL (snL T.nexts) (snS T.nexts) (snZ T.nexts) (wyN T.marks.length (snL T.nexts) (snZ T.nexts) m len) len).getD i 0 = snS T.nexts x k0 := by
        unfold stpL
        rw [lst_getD _ _ _ hi, hx, hy, Int.toNat_natCast, lsE_hit hk0 hz0 hj0]
      have hxn : x < T.nexts.length := by omega
      obtain ⟨h2, h3⟩ := h.edges x (T.nexts.getD x []) (T.marks.getD x []) (by rw [List.getD_eq_getElem?_getD, List.getElem?_eq_getElem hxn]; rfl) (by rw [List.getD_eq_getElem?_getD, List.getElem?_eq_getElem hxG]; rfl)
      simp only [hs, hx, hy, Int.toNat_natCast]
      refine ⟨?_, ?_⟩
      · rw [← h2]
        exact List.mem_map.2 ⟨_, getD2_mem hk0, rfl⟩
      · obtain ⟨k, h4, h5⟩ := h3 _ (getD2_mem hk0)
        have h6 : snZ T.nexts x k0 = (k : Int) := h4
        have : k = y := by omega
        subst this
        rw [List.getD_eq_getElem?_getD, h5]
        rfl

end Go.Proofs.Ytjenkhphngiphaa

namespace Go.Proofs.Ytjenkhphngiphaa
open Go.RowKit Go.Maps

set_option maxHeartbeats 400000 in
/-- Steps that can be done, played. -/
theorem play_goes {na fa la : Option Addr} {N nc F fc lc n : Nat} {M : Nat → ByteArray} {K A B : Nat → Int} {w : World} (hp : Prc w na N nc fa F M K A B) (he : ChkIs N F M K A B 0) (hfew : (stAll K A B F N).length ≤ 60) {l : List Int} (hn : l.length = n) (hl : n ≤ 500) {Ms : Nat → Nat → Int} (hpos : ∀ i, i < n → 0 ≤ l.getD i 0)
    (hpth : Pth K A B F (stAll K A B F N) n Ms (fun i => (l.getD i 0).toNat)) (hd : Row w la n (fun i => l.getD i 0)) :
    Calls Try.prog 12 #[.agg #[.slice na N nc, .slice fa F fc], .slice la n lc] w fun e w' => Below w.heap.size w w' ∧ ∃ (ga : Option Addr) (gc : Nat) (Ns : Nat → Nat → Int), e = .returned (.tuple #[.slice ga (n + 1) gc, .int .i64 (n : Nat), .int .i64 0]) ∧ Gr w' ga (n + 1) (fun _ => F) Ns ∧ Ns n = Ms n := by
  refine (play_any hp he (by omega) hd).mono fun e w' hh => ⟨hh.1, ?_⟩
  have hE : spE 0 (stAll K A B F N).length = 0 := by
    unfold spE
    (repeat' split) <;> first | rfl | omega
  rcases hh.2 with ⟨h1, _⟩ | ⟨_, h1, _⟩ | ⟨_, _, k, Ns, ga, gc, y, h1, h2, h3, h4, h5, h6⟩
  · exact absurd hE h1
  · omega
  · obtain ⟨rfl, rfl, h7⟩ := py_end hpos hpth ⟨h1, h2, h3, h6⟩
    exact ⟨ga, gc, Ns, h5, h4, h7 _ (Nat.le_refl _)⟩

/-- The steps that are told can be done, and lead there. -/
theorem told_pth {N F : Nat} {M : Nat → ByteArray} {K A B : Nat → Int} {tk st : Int} {X : List Int → Nat → Int} (he : ChkIs N F M K A B 0) (hX : XOk K A B F (stAll K A B F N) X) {E : Int} (h : xE E tk st (xall tk st K A B F (stAll K A B F N) X) = 0) {mk : Int} {l : List Int}
    (hto : ToIs (xM E tk st (xall tk st K A B F (stAll K A B F N) X)).length (snL (xN E tk st (xall tk st K A B F (stAll K A B F N) X))) (snS (xN E tk st (xall tk st K A B F (stAll K A B F N) X))) (snZ (xN E tk st (xall tk st K A B F (stAll K A B F N) X))) mk l) :
    ∃ Ms, (∀ i, i < l.length → 0 ≤ l.getD i 0) ∧ Pth K A B F (stAll K A B F N) l.length Ms (fun i => (l.getD i 0).toNat) ∧ ∀ m : Nat, mk = m → ∀ j, j < F → Ms l.length j = mY (xM E tk st (xall tk st K A B F (stAll K A B F N) X)) m j := by
  obtain ⟨_, hb, T, h3, h4, h5, h6, h7⟩ := x_ok h
  rw [h4, h5] at hto
  rw [h4]
  by_cases hm : mk = -1
  · rcases hto with ⟨_, rfl⟩ | ⟨m, _, _, h1, _⟩
    · exact ⟨fun _ => bgn K A, fun i hi => absurd hi (Nat.not_lt_zero _), pth_zero K A B F _ _, fun m h1 => by omega⟩
    · omega
  · obtain ⟨m, rfl⟩ : ∃ m : Nat, mk = m := by
      rcases hto with ⟨h1, _⟩ | ⟨m, _, _, h1, _⟩
      · exact absurd h1 hm
      · exact ⟨m, h1⟩
    obtain ⟨Ms, g1, g2, g3, _⟩ := goes_pth (P := fun x => x ∈ T.marks) hX (steps_lt he) (bnd_all hb).1.2 ((way_goes h6 h7 hto).mono (fun x hx => ⟨hx, h6.low x hx⟩))
    refine ⟨Ms, g3, g1, fun m' e j hj => ?_⟩
    obtain rfl : m = m' := by omega
    unfold mY
    rw [g2, fnl_lst hj]

/-- What stands still never ends. -/
theorem still_never {G F : Nat} {L : Nat → Nat} {Z Y : Nat → Nat → Int} {r1 r2 : Int} (h1 : FstIs (fun i => L i = 0 ∧ zB F (Y i) = false) G r1) (h2 : FstIs (NvP G F L Z Y) G r2) {m : Nat} (hm : r1 = m) : 0 ≤ r2 ∧ m < G ∧ L m = 0 ∧ zB F (Y m) = false := by
  rcases h1 with ⟨g1, _⟩ | ⟨k, g1, g2, ⟨g3, g4⟩, _⟩
  · omega
  · obtain rfl : k = m := by omega
    refine ⟨?_, g1, g3, g4⟩
    rcases h2 with ⟨_, q2⟩ | ⟨j, _, q2, _⟩
    · refine absurd ?_ (q2 k g1)
      rintro ⟨x, _, hz, hr⟩
      have : x = k := hr.stay (P := fun y => y = k) (fun a b ha hab => by
        subst ha
        obtain ⟨_, i, hi, _⟩ := hab
        omega) rfl
      subst this
      rw [g4] at hz
      cases hz
    · omega

theorem sm_pos {Y : Nat → Int} : ∀ {n}, (∀ i, i < n → 0 ≤ Y i ∧ Y i ≤ 9) → zB n Y = false → 0 < sm Y n
  | 0, _, h => by
    rw [zB_iff.2 (fun i hi => absurd hi (Nat.not_lt_zero _))] at h
    cases h
  | n + 1, h9, h => by
    have hb := sm_bound (Z := Y) (n := n) (fun i hi => h9 i (by omega))
    have hn := h9 n (by omega)
    show 0 < sm Y n + Y n
    by_cases hz : Y n = 0
    · have : zB n Y = false := by
        cases e : zB n Y
        · rfl
        · rw [zB_iff.2 (fun i hi => by
            by_cases e2 : i = n
            · subst e2; exact hz
            · exact zB_iff.1 e i (by omega))] at h
          cases h
      have := sm_pos (n := n) (fun i hi => h9 i (by omega)) this
      omega
    · omega

/-- At a marking without edges nothing is enabled. -/
theorem still_none {N F : Nat} {M : Nat → ByteArray} {K A B : Nat → Int} {tk st : Int} {X : List Int → Nat → Int} (he : ChkIs N F M K A B 0) (hX : XOk K A B F (stAll K A B F N) X) {E : Int} (h : xE E tk st (xall tk st K A B F (stAll K A B F N) X) = 0) {m : Nat} (hm : m < (xM E tk st (xall tk st K A B F (stAll K A B F N) X)).length) :
    (snL (xN E tk st (xall tk st K A B F (stAll K A B F N) X)) m = 0 → tally (X ((xM E tk st (xall tk st K A B F (stAll K A B F N) X)).getD m [])) 1 (stAll K A B F N).length = 0) ∧ ∀ j, j < F → 0 ≤ mY (xM E tk st (xall tk st K A B F (stAll K A B F N) X)) m j ∧ mY (xM E tk st (xall tk st K A B F (stAll K A B F N) X)) m j ≤ 9 := by
  obtain ⟨_, hb, T, h3, h4, h5, h6, h7⟩ := x_ok h
  rw [h4] at hm ⊢
  rw [h5]
  have hmem : T.marks.getD m [] ∈ T.marks := by
    rw [List.getD_eq_getElem?_getD, List.getElem?_eq_getElem hm]
    exact List.getElem_mem hm
  have hn : m < T.nexts.length := by omega
  refine ⟨fun hl => ?_, (x_shp hX (steps_lt he) (bnd_all hb).1.2 h6 hmem).2⟩
  obtain ⟨h8, _⟩ := h6.edges m (T.nexts.getD m []) (T.marks.getD m []) (by rw [List.getD_eq_getElem?_getD, List.getElem?_eq_getElem hn]; rfl) (by rw [List.getD_eq_getElem?_getD, List.getElem?_eq_getElem hm]; rfl)
  have h9 := congrArg List.length h8
  rw [List.length_map] at h9
  unfold cnl at h9
  rw [fl_len] at h9
  exact h9.symm.trans hl

end Go.Proofs.Ytjenkhphngiphaa
