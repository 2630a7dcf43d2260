/- Small functions of the law SpaceRoute, and what it says. -/
import Derived.Test.YtpgodjinbabniabSpLaw
import Derived.Test.YtpgodjinbabniabGamePlay
namespace Go.Proofs.Ytpgodjinbabniab
open Go.RowKit Go.Maps

theorem pth_eq {K A B : Nat → Int} {F : Nat} {l : List St3} {n k : Nat} {Ms Ns : Nat → Nat → Int} {S T : Nat → Nat} (h : Pth K A B F l n Ms S) (h' : Pth K A B F l k Ns T) (hk : k ≤ n) (hS : ∀ i, i < k → S i = T i) : ∀ i, i ≤ k → Ms i = Ns i
  | 0, _ => h.zero.trans h'.zero.symm
  | i + 1, hi => by
    have ih := pth_eq h h' hk hS i (by omega)
    rw [(h.step i (by omega)).2.2, (h'.step i (by omega)).2.2, hS i (by omega), ih]

theorem ferr_not {K A B : Nat → Int} {F : Nat} {l : List St3} {m : Nat → Int} {step y : Int} (h : FErr K A B F l m step y) (h1 : 0 ≤ step) (h2 : step.toNat < l.length) (h3 : enb K A B F m (l.getD step.toNat (0, 0, 0))) (h4 : ∀ j, j < F → frs K A B (l.getD step.toNat (0, 0, 0)) m j ≤ 9) : False := by
  rcases h with ⟨a, _⟩ | ⟨_, a, _⟩ | ⟨_, _, ⟨j, hj, a⟩, _⟩
  · exact a ⟨h1, by omega⟩
  · exact a h3
  · have := h4 j hj
    omega

theorem ferr_one {K A B : Nat → Int} {F : Nat} {l : List St3} {m : Nat → Int} {step y y' : Int} (h : FErr K A B F l m step y) (h' : FErr K A B F l m step y') : y = y' := by
  rcases h with ⟨a, rfl⟩ | ⟨a, b, rfl⟩ | ⟨a, b, c, rfl⟩ <;> rcases h' with ⟨a', rfl⟩ | ⟨a', b', rfl⟩ | ⟨a', b', c', rfl⟩ <;> first | rfl | exact absurd a' a | exact absurd a a' | exact absurd b' b | exact absurd b b'

/-- What Play found. -/
def PyD (K A B : Nat → Int) (F : Nat) (l : List St3) (n : Nat) (d : Nat → Int) (k : Nat) (Ms : Nat → Nat → Int) (y : Int) : Prop :=
  k ≤ n ∧ (∀ i, i < k → 0 ≤ d i) ∧ Pth K A B F l k Ms (fun i => (d i).toNat) ∧ ((k = n ∧ y = 0) ∨ (k < n ∧ FErr K A B F l (Ms k) (d k) y))

theorem py_not {K A B : Nat → Int} {F : Nat} {l : List St3} {n : Nat} {d : Nat → Int} {k kk : Nat} {Ms Ns : Nat → Nat → Int} {y : Int} (hpos : ∀ i, i < k → 0 ≤ d i) (hp : Pth K A B F l k Ms (fun i => (d i).toNat)) (hk : k ≤ n) (h : PyD K A B F l n d kk Ns y) : ¬ kk < k := fun hlt => by
  obtain ⟨_, _, h3, h4⟩ := h
  have hs := pth_eq hp h3 (by omega) (fun _ _ => rfl)
  rcases h4 with ⟨h5, _⟩ | ⟨_, h5⟩
  · omega
  · rw [← hs kk (Nat.le_refl _)] at h5
    obtain ⟨s1, s2, s3⟩ := hp.step kk hlt
    exact ferr_not h5 (hpos kk hlt) s1 s2 (fun j hj => by rw [← s3]; exact (hp.ok (kk + 1) (by omega) j hj).2)

theorem py_stop {K A B : Nat → Int} {F : Nat} {l : List St3} {n : Nat} {d : Nat → Int} {k kk : Nat} {Ms Ns : Nat → Nat → Int} {y y0 : Int} (hpos : ∀ i, i < k → 0 ≤ d i) (hp : Pth K A B F l k Ms (fun i => (d i).toNat)) (hk : k < n) (hf : FErr K A B F l (Ms k) (d k) y0) (h : PyD K A B F l n d kk Ns y) :
    kk = k ∧ y = y0 ∧ ∀ i, i ≤ k → Ns i = Ms i := by
  have hno := py_not hpos hp (by omega) h
  obtain ⟨h1, h2, h3, h4⟩ := h
  have hno2 : ¬ k < kk := py_not h2 h3 h1 ⟨by omega, hpos, hp, Or.inr ⟨hk, hf⟩⟩
  obtain rfl : kk = k := by omega
  have hs := pth_eq h3 hp (Nat.le_refl _) (fun _ _ => rfl)
  refine ⟨rfl, ?_, hs⟩
  rcases h4 with ⟨h5, _⟩ | ⟨_, h5⟩
  · omega
  · rw [hs kk (Nat.le_refl _)] at h5
    exact ferr_one h5 hf

theorem py_end {K A B : Nat → Int} {F : Nat} {l : List St3} {n : Nat} {d : Nat → Int} {kk : Nat} {Ms Ns : Nat → Nat → Int} {y : Int} (hpos : ∀ i, i < n → 0 ≤ d i) (hp : Pth K A B F l n Ms (fun i => (d i).toNat)) (h : PyD K A B F l n d kk Ns y) :
    kk = n ∧ y = 0 ∧ ∀ i, i ≤ n → Ns i = Ms i := by
  have hno := py_not hpos hp (Nat.le_refl _) h
  obtain ⟨h1, _, h3, h4⟩ := h
  obtain rfl : kk = n := by omega
  refine ⟨rfl, ?_, pth_eq h3 hp (Nat.le_refl _) (fun _ _ => rfl)⟩
  rcases h4 with ⟨_, h5⟩ | ⟨h5, _⟩
  · exact h5
  · omega

theorem rt_lt {N F : Nat} {M : Nat → ByteArray} {K A B : Nat → Int} (he : ChkIs N F M K A B 0) : ∀ j, j < (stAll K A B F N).length → ((stAll K A B F N).getD j (0, 0, 0)).2.1 < F := by
  intro j hj
  have h0 := chk_some he
  obtain ⟨n, _, _, h, _⟩ := step_facts (getD3_mem hj)
  rcases h with h | ⟨q, h1, h2, _⟩ <;> omega

theorem rt_x2 {X : List Int → Nat → Int} (hX : XOk sKs sAs sBs 2 (stAll sKs sAs sBs 2 3) X) {tk : Int} (ht : 1 ≤ tk) : xall tk 2 sKs sAs sBs 2 (stAll sKs sAs sBs 2 3) X = .inl (8, [0, 1]) := by
  rw [st_steps] at hX ⊢
  unfold xall
  rw [st_begin]
  exact st_two hX ht

theorem rt_row (w : World) (a b : Int) : Row (w.alloc (.cells #[.int .i64 a, .int .i64 b] 3)) (some ⟨w.heap.size, 0, none⟩) 2 (fun i => if i = 0 then a else b) :=
  ⟨w.heap.size, 0, fun _ => rfl, fun i hi => by
    match i, hi with
    | 0, _ => exact cell_of_alloc rfl
    | 1, _ => exact cell_of_alloc rfl⟩

set_option maxHeartbeats 400000 in
theorem rtEqFn {w : World} {b : Nat} {a a' : Option Addr} {n c c' : Nat} {Y Z : Nat → Int} (hn : n ≤ 1000) (h : w.cell? ⟨b, 0, none⟩ = some (.slice a' n c')) (h1 : Row w a n Y) (h2 : Row w a' n Z) :
    Calls Try.prog 29 #[.slice a n c, .pointer (some ⟨b, 0, none⟩)] w fun e w' => e = .returned (.bool (same n n Y Z)) ∧ ∃ q, w' = w.drewN q := by
  have C1 : Hid (Calls Try.prog 11 #[.slice a n c, .slice a' n c'] w fun e w' => e = .returned (.bool (same n n Y Z)) ∧ ∃ q, w' = w.drewN q) := equal_any a a' n c n c' Y Z w (by omega) h1 h2
  clear h1 h2
  go_enter Try.func29, Try.ntmps29
  go_wp2_with fail
  refine C1.out.mono ?_
  rintro e w1 ⟨rfl, q, rfl⟩
  go_wp2
  go_ret
  exact ⟨rfl, q, rfl⟩

set_option maxHeartbeats 1000000 in
theorem rtEqIdx {w : World} {b : Nat} {a a' : Option Addr} {n c F c' : Nat} {Y : Nat → Nat → Int} {Z : Nat → Int} (hF : F ≤ 1000) (hn : n ≤ 1000) (h : w.cell? ⟨b, 0, none⟩ = some (.slice a' F c')) (h1 : Gr w a n (fun _ => F) Y) (h2 : Row w a' F Z) (hne : ∀ i, i < n → same F F (Y i) Z = false) :
    Calls Try.prog 52 #[.slice a n c, .func (Fn.func 29) #[] #[.pointer (some ⟨b, 0, none⟩)]] w fun e w' => e = .returned (.int .i64 (-1)) ∧ ∃ q, w' = w.drewN q := by
  obtain ⟨gb, go, ha, hc⟩ := h1
  have HC : Hid (∀ r, r < n → ∃ a c, w.cell? ⟨gb, go + r, none⟩ = some (.slice a F c) ∧ Row w a F (Y r)) := hc
  have HR : Hid (Row w a' F Z) := h2
  have HNe : Hid (∀ i, i < n → same F F (Y i) Z = false) := hne
  clear hc h2 hne
  go_enter Try.func52, Try.ntmps52
  go_wp2
  go_loopw [8] (fun i wr => ∃ k : Nat, k ≤ n ∧ i = .int .i64 k ∧ ∃ q, wr = w.drewN q) (fun i _ => n - (intOf i).toNat)
  case atStart => exact ⟨0, Nat.zero_le _, rfl, 0, rfl⟩
  case round =>
    obtain ⟨k, hk, rfl, q, rfl⟩ := hrel
    by_cases hlt : k < n
    · obtain rfl := ha (by omega)
      obtain ⟨ra, rc, hck, hrow⟩ := HC.out k hlt
      have hzk : (k : Int) < n := by omega
      have C1 : Hid (Calls Try.prog 29 #[.slice ra F rc, .pointer (some ⟨b, 0, none⟩)] (w.drewN q) fun e w' => e = .returned (.bool false) ∧ ∃ q2, w' = (w.drewN q).drewN q2) := by
        have := rtEqFn (w := w.drewN q) (c := rc) hF h (hrow.below (below_drewn (Below.refl _ _) q)) (HR.out.below (below_drewn (Below.refl _ _) q))
        rwa [HNe.out k hlt] at this
      clear hrow
      go_wp2_with fail
      refine C1.out.mono ?_
      rintro e w1 ⟨rfl, q2, rfl⟩
      go_wp2
      go_roundw
      case rel => exact ⟨k + 1, by omega, by go_num, _, rfl⟩
      case measure => simp [intOf]; omega
    · go_wp2
      go_ret
      exact ⟨rfl, q, rfl⟩

set_option maxHeartbeats 400000 in
theorem rtEqNone {w : World} {b : Nat} {a a' : Option Addr} {n c F c' : Nat} {Y : Nat → Nat → Int} {Z : Nat → Int} (hF : F ≤ 1000) (hn : n ≤ 1000) (h : w.cell? ⟨b, 0, none⟩ = some (.slice a' F c')) (h1 : Gr w a n (fun _ => F) Y) (h2 : Row w a' F Z) (hne : ∀ i, i < n → same F F (Y i) Z = false) :
    Calls Try.prog 23 #[.slice a n c, .func (Fn.func 29) #[] #[.pointer (some ⟨b, 0, none⟩)]] w fun e w' => e = .returned (.bool false) ∧ ∃ q, w' = w.drewN q := by
  have C1 : Hid (Calls Try.prog 52 #[.slice a n c, .func (Fn.func 29) #[] #[.pointer (some ⟨b, 0, none⟩)]] w fun e w' => e = .returned (.int .i64 (-1)) ∧ ∃ q, w' = w.drewN q) := rtEqIdx hF hn h h1 h2 hne
  clear h h1 h2 hne
  go_enter Try.func23, Try.ntmps23
  go_wp2_with fail
  refine C1.out.mono ?_
  rintro e w1 ⟨rfl, q, rfl⟩
  go_wp2
  go_ret
  exact ⟨rfl, q, rfl⟩

set_option maxHeartbeats 400000 in
theorem rtFn {w : World} {b : Nat} {tk z : Int} (h : w.cell? ⟨b, 0, none⟩ = some (.int .i64 tk)) : Calls Try.prog 28 #[.int .i64 z, .pointer (some ⟨b, 0, none⟩)] w fun e w' => e = .returned (.bool (decide (tk < z))) ∧ w' = w := by
  go_enter Try.func28, Try.ntmps28
  by_cases hz : tk < z
  · have hd : decide (tk < z) = true := by simp [hz]
    go_wp2
    go_ret
    exact ⟨by rw [hd]; rfl, rfl⟩
  · have hd : decide (tk < z) = false := by simp [hz]
    go_wp2
    go_ret
    exact ⟨rfl, rfl⟩

set_option maxHeartbeats 400000 in
theorem rtIdx {w : World} {b : Nat} {tk : Int} (h : w.cell? ⟨b, 0, none⟩ = some (.int .i64 tk)) {a : Option Addr} {n c : Nat} {Z : Nat → Int} (hn : n ≤ 1000) (hr : Row w a n Z) (hz : ∃ i, i < n ∧ tk < Z i) :
    Calls Try.prog 51 #[.slice a n c, .func (Fn.func 28) #[] #[.pointer (some ⟨b, 0, none⟩)]] w fun e w' => (∃ y : Nat, y ≤ n ∧ e = .returned (.int .i64 y)) ∧ w' = w := by
  obtain ⟨rb, ro, ha, hc⟩ := hr
  have HC : Hid (∀ i, i < n → w.cell? ⟨rb, ro + i, none⟩ = some (.int .i64 (Z i))) := hc
  have HZ : Hid (∃ i, i < n ∧ tk < Z i) := hz
  clear hc hz
  go_enter Try.func51, Try.ntmps51
  go_wp2
  go_loopw [8] (fun i wr => ∃ k : Nat, k ≤ n ∧ i = .int .i64 k ∧ wr = w ∧ Hid (∀ i, i < k → Z i ≤ tk)) (fun i _ => n - (intOf i).toNat)
  case atStart => exact ⟨0, Nat.zero_le _, rfl, rfl, hid (fun j hj => absurd hj (Nat.not_lt_zero _))⟩
  case round =>
    obtain ⟨k, hk, rfl, rfl, HK⟩ := hrel
    by_cases hlt : k < n
    · obtain rfl := ha (by omega)
      have hck := HC.out k hlt
      have hzk : (k : Int) < n := by omega
      have C1 : Hid (Calls Try.prog 28 #[.int .i64 (Z k), .pointer (some ⟨b, 0, none⟩)] wr fun e w' => e = .returned (.bool (decide (tk < Z k))) ∧ w' = wr) := rtFn h
      by_cases hq : tk < Z k
      · have hd : decide (tk < Z k) = true := by simp [hq]
        rw [hd] at C1
        clear hq hd
        go_wp2_with fail
        refine C1.out.mono ?_
        rintro e w1 ⟨rfl, rfl⟩
        go_wp2
        go_ret
        exact ⟨⟨k, hk, rfl⟩, rfl⟩
      · have hd : decide (tk < Z k) = false := by simp [hq]
        rw [hd] at C1
        have HQ : Hid (Z k ≤ tk) := Int.not_lt.1 hq
        clear hq hd
        go_wp2_with fail
        refine C1.out.mono ?_
        rintro e w1 ⟨rfl, rfl⟩
        go_wp2
        go_roundw
        case rel => exact ⟨k + 1, by omega, by go_num, trivial, hid (fun i hi => if e : i = k then by rw [e]; exact HQ.out else HK.out i (by omega))⟩
        case measure => simp [intOf]; omega
    · exfalso
      obtain ⟨i, h1, h2⟩ := HZ.out
      have := HK.out i (by omega)
      omega

set_option maxHeartbeats 400000 in
theorem rtSome {w : World} {b : Nat} {tk : Int} (h : w.cell? ⟨b, 0, none⟩ = some (.int .i64 tk)) {a : Option Addr} {n c : Nat} {Z : Nat → Int} (hn : n ≤ 1000) (hr : Row w a n Z) (hz : ∃ i, i < n ∧ tk < Z i) :
    Calls Try.prog 21 #[.slice a n c, .func (Fn.func 28) #[] #[.pointer (some ⟨b, 0, none⟩)]] w fun e w' => e = .returned (.bool true) ∧ w' = w := by
  have C1 : Hid (Calls Try.prog 51 #[.slice a n c, .func (Fn.func 28) #[] #[.pointer (some ⟨b, 0, none⟩)]] w fun e w' => (∃ y : Nat, y ≤ n ∧ e = .returned (.int .i64 y)) ∧ w' = w) := rtIdx h hn hr hz
  clear h hr hz
  go_enter Try.func21, Try.ntmps21
  go_wp2_with fail
  refine C1.out.mono ?_
  rintro e w1 ⟨⟨y, hy, rfl⟩, rfl⟩
  have hy0 : (0 : Int) ≤ (y : Int) := by omega
  go_wp2
  go_ret
  exact ⟨rfl, rfl⟩

/-- The straight process: two states are too few. -/
theorem rt_straight {na fa : Option Addr} {w : World} (hp : Prc w na 3 3 fa 2 sMs sKs sAs sBs) :
    Calls Try.prog 27 #[.agg #[.slice na 3 3, .slice fa 2 2], .int .i64 1, .int .i64 2] w fun e w' => Below w.heap.size w w' ∧ ∃ (a : Option Addr) (c : Nat), e = .returned (.tuple #[.slice a 2 c, .int .i64 8]) ∧ Row w' a 2 (fun i => if i = 0 then 0 else 1) := by
  obtain ⟨X, hX⟩ := xok_ex sKs sAs sBs 2 (stAll sKs sAs sBs 2 3)
  have hb : bndOk 1 2 = true := by decide
  have hL : [0, 1] = xW (spE 0 (stAll sKs sAs sBs 2 3).length) 1 2 (xall 1 2 sKs sAs sBs 2 (stAll sKs sAs sBs 2 3) X) := by
    rw [rt_x2 hX (Int.le_refl 1), st_E]
    unfold xW
    rw [if_neg (by decide), if_pos hb]
  have hE : xE (spE 0 (stAll sKs sAs sBs 2 3).length) 1 2 (xall 1 2 sKs sAs sBs 2 (stAll sKs sAs sBs 2 3) X) = 8 := by
    rw [rt_x2 hX (Int.le_refl 1), st_E]
    unfold xE
    rw [if_neg (by decide), if_pos hb]
  refine (routeF_any hp straight_chk 1 2 hX hL).mono fun e w' hh => ⟨hh.1, ?_⟩
  obtain ⟨a, c, h1, b, o, h2, h3⟩ := hh.2
  rw [hE] at h1
  refine ⟨a, c, h1, b, o, h2, fun i hi => ?_⟩
  have := h3 i hi
  match i, hi with
  | 0, _ => exact this
  | 1, _ => exact this

/-- What Route tells. -/
theorem rt_says {E tk st : Int} {K A B : Nat → Int} {F : Nat} {l : List St3} {X : List Int → Nat → Int} {L : List Int} {y : Int} (hL : L = xW E tk st (xall tk st K A B F l X)) (hy : y = xE E tk st (xall tk st K A B F l X)) :
    L = [] ∨ (E = 0 ∧ bndOk tk st = true ∧ XBad tk st.toNat (nxl K A B F l) (cnl X l.length) (lst F (bgn K A)) (y, L)) := by
  subst hL
  subst hy
  unfold xW xE
  by_cases h1 : E ≠ 0
  · rw [if_pos h1]; exact Or.inl rfl
  · rw [if_neg h1, if_neg h1]
    by_cases hb : bndOk tk st = true
    · rw [if_pos hb, if_pos hb]
      rcases xall_ends (K := K) (A := A) (B := B) (F := F) (l := l) (X := X) hb with ⟨r, h2, h3⟩ | ⟨T, h2, _⟩
      · rw [h2]
        exact Or.inr ⟨by omega, hb, h3⟩
      · rw [h2]; exact Or.inl rfl
    · rw [if_neg hb]; exact Or.inl rfl

/-- What Play says of it. -/
theorem rt_play {K A B : Nat → Int} {F : Nat} {l : List St3} {X : List Int → Nat → Int} (hX : XOk K A B F l X) (hl : ∀ j, j < l.length → (l.getD j (0, 0, 0)).2.1 < F) {tk : Int} (htk : tk ≤ 9) {q : Nat} {c : Int} {v : List Int}
    (h : XBad tk q (nxl K A B F l) (cnl X l.length) (lst F (bgn K A)) (c, v)) :
    ∃ n, v.length = n + 1 ∧ n < q ∧ ∀ kk Ns y, PyD K A B F l v.length (fun i => v.getD i 0) kk Ns y →
      ((c = 7 ∧ y = 7 ∧ kk = n) ∨ (c = 7 ∧ y = 0 ∧ kk = n + 1 ∧ ∃ j, j < F ∧ tk < Ns (n + 1) j) ∨ (c = 8 ∧ y = 0 ∧ kk = n + 1 ∧ ∀ i, i < n + 1 → same F F (Ns i) (Ns (n + 1)) = false)) := by
  obtain ⟨n, Ms, hn, hq, hpos, hp, hs, he, hc⟩ := xbad_play hX hl htk h
  refine ⟨n, hn, hq, fun kk Ns y hy => ?_⟩
  rw [hn] at hy
  have hs0 := hpos n (by omega)
  have ext (h9 : ∀ j, j < F → frs K A B (l.getD (v.getD n 0).toNat (0, 0, 0)) (Ms n) j ≤ 9) :
      kk = n + 1 ∧ y = 0 ∧ (∀ i, i ≤ n → Ns i = Ms i) ∧ Ns (n + 1) = frs K A B (l.getD (v.getD n 0).toNat (0, 0, 0)) (Ms n) := by
    have hx := hp.snoc hs he h9
    have e : (fun i => if i = n then (v.getD n 0).toNat else (v.getD i 0).toNat) = fun i => (v.getD i 0).toNat := by
      funext i
      by_cases e : i = n
      · rw [if_pos e, e]
      · rw [if_neg e]
    rw [e] at hx
    obtain ⟨h1, h2, h3⟩ := py_end (fun i hi => hpos i hi) hx hy
    refine ⟨h1, h2, fun i hi => ?_, ?_⟩
    · rw [h3 i (by omega), if_neg (by omega)]
    · rw [h3 (n + 1) (Nat.le_refl _), if_pos rfl]
  rcases hc with ⟨rfl, j, hj, hj2⟩ | ⟨rfl, h8, hne⟩
  · by_cases h9 : ∃ j, j < F ∧ 9 < frs K A B (l.getD (v.getD n 0).toNat (0, 0, 0)) (Ms n) j
    · obtain ⟨h1, h2, _⟩ := py_stop (fun i hi => hpos i (by omega)) hp (by omega) (Or.inr (Or.inr ⟨⟨hs0, by omega⟩, he, h9, rfl⟩)) hy
      exact Or.inl ⟨rfl, h2, h1⟩
    · obtain ⟨h1, h2, _, h4⟩ := ext (fun j hj => Int.not_lt.1 fun hh => h9 ⟨j, hj, hh⟩)
      exact Or.inr (Or.inl ⟨rfl, h2, h1, j, hj, by rw [h4]; exact hj2⟩)
  · obtain ⟨h1, h2, h3, h4⟩ := ext (fun j hj => Int.le_trans (h8 j hj) htk)
    refine Or.inr (Or.inr ⟨rfl, h2, h1, fun i hi => ?_⟩)
    cases hq : same F F (Ns i) (Ns (n + 1))
    · rfl
    · exfalso
      unfold same at hq
      rw [decide_eq_true_eq] at hq
      refine hne i (by omega) ?_
      rw [← h3 i (by omega), ← h4]
      exact lst_congr hq.2

end Go.Proofs.Ytpgodjinbabniab
