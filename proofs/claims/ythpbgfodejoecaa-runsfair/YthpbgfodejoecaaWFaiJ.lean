/-   -/
import Derived.WalkKit
import Derived.WalkSpells
import Derived.WalkLawsBesides
import Derived.Deep.QuietTactic
import Derived.BigQuiet
import Derived.Below
import Derived.Deep.Heap
import Derived.Test.YthpbgfodejoecaaBfsJ
import Derived.Test.YthpbgfodejoecaaDistJ
import Derived.Test.YthpbgfodejoecaaDist2J
import Derived.Test.YthpbgfodejoecaaLeafJ
import Derived.Test.YthpbgfodejoecaaProc
import Derived.Test.YthpbgfodejoecaaProc2
import Derived.Test.YthpbgfodejoecaaSpFaceJ
import Derived.Test.YthpbgfodejoecaaWBaseJ
import Derived.Deep.RegionHeld3
import Derived.Deep.WholeRow
import Derived.Deep.MidRow
import Derived.Laws.Bits64b
import Derived.Lib.TrailingZeros
import Derived.Deep.OwnRows
import Derived.Maps.AppendAt
/- Endless ways that meet each set again and again: told by a set that one need not leave, and by parts. -/
/- A world in memory; Check, the program's and the document's. -/
namespace Go.Proofs.Ythpbgfodejoecaa

/-- An endless way. -/
def Wy (E : Nat → Nat → Prop) (p : Nat → Nat) : Prop := ∀ j, E (p j) (p (j + 1))
/-- Again and again. -/
def Oft (F : Nat → Prop) (p : Nat → Nat) : Prop := ∀ j, ∃ l, j ≤ l ∧ F (p l)
/-- From i an endless way begins that meets each of K sets again and again. -/
def FairAt (E : Nat → Nat → Prop) (K : Nat) (F : Nat → Nat → Prop) (i : Nat) : Prop := ∃ p : Nat → Nat, p 0 = i ∧ Wy E p ∧ ∀ k, k < K → Oft (F k) p

/-- A way of n goings, all of it in Z. -/
def PthZ (E : Nat → Nat → Prop) (Z : Nat → Prop) : Nat → Nat → Nat → Prop
  | 0, i, j => i = j ∧ Z i
  | n + 1, i, j => Z i ∧ ∃ l, E i l ∧ PthZ E Z n l j

theorem PthZ.first {E : Nat → Nat → Prop} {Z : Nat → Prop} {n i j : Nat} (h : PthZ E Z n i j) : Z i := by
  cases n with
  | zero => exact h.2
  | succ n => exact h.1
/-- From each of Z one comes, within Z, by one going at least, to each of the sets. -/
def Closed (E : Nat → Nat → Prop) (K : Nat) (F : Nat → Nat → Prop) (Z : Nat → Prop) : Prop := ∀ i, Z i → ∀ k, k < K → ∃ n j, PthZ E Z (n + 1) i j ∧ F k j

theorem fair_of_closed {E : Nat → Nat → Prop} {K : Nat} {F : Nat → Nat → Prop} {Z : Nat → Prop} (hK : 0 < K) (h : Closed E K F Z) {i : Nat} (hi : Z i) : FairAt E K F i := by
  -- a state: where one is, which set is waited for, how many goings are left
  let Ok : Nat × Nat × Nat → Prop := fun s => s.2.1 < K ∧ ∃ j, PthZ E Z (s.2.2 + 1) s.1 j ∧ F s.2.1 j
  have hz : ∀ s, Ok s → Z s.1 := fun s hs => by
    obtain ⟨_, j, h1, _⟩ := hs
    exact h1.first
  have hstep : ∀ s : Nat × Nat × Nat, ∃ s' : Nat × Nat × Nat, Ok s → (E s.1 s'.1 ∧ Ok s' ∧ (s.2.2 = 0 → F s.2.1 s'.1 ∧ s'.2.1 = (s.2.1 + 1) % K) ∧ (s.2.2 ≠ 0 → s'.2.1 = s.2.1 ∧ s'.2.2 + 1 = s.2.2)) := by
    rintro ⟨x, k, n⟩
    by_cases ho : Ok (x, k, n)
    · obtain ⟨hk, j, ⟨h1, y, h2, h3⟩, h4⟩ := ho
      cases n with
      | zero =>
        obtain ⟨rfl, hy⟩ := h3
        obtain ⟨n', j', h5, h6⟩ := h y hy ((k + 1) % K) (Nat.mod_lt _ hK)
        exact ⟨(y, (k + 1) % K, n'), fun _ => ⟨h2, ⟨Nat.mod_lt _ hK, j', h5, h6⟩, fun _ => ⟨h4, rfl⟩, fun e => absurd rfl e⟩⟩
      | succ n => exact ⟨(y, k, n), fun _ => ⟨h2, ⟨hk, j, h3, h4⟩, fun e => absurd e (Nat.succ_ne_zero n), fun _ => ⟨rfl, rfl⟩⟩⟩
    · exact ⟨(x, k, n), fun h => absurd h ho⟩
  obtain ⟨f, hf⟩ := Classical.axiomOfChoice hstep
  obtain ⟨n0, j0, h0, h1⟩ := h i hi 0 hK
  obtain ⟨q, hq0, hqs⟩ : ∃ q : Nat → Nat × Nat × Nat, q 0 = (i, 0, n0) ∧ ∀ t, q (t + 1) = f (q t) := ⟨fun t => Nat.rec (i, 0, n0) (fun _ s => f s) t, rfl, fun _ => rfl⟩
  have hok : ∀ t, Ok (q t) := by
    intro t
    induction t with
    | zero => rw [hq0]; exact ⟨hK, j0, h0, h1⟩
    | succ t ih => rw [hqs]; exact (hf _ ih).2.1
  have hA : ∀ n t, (q t).2.2 = n → ∃ t', t < t' ∧ F (q t).2.1 (q t').1 ∧ (q t').2.1 = ((q t).2.1 + 1) % K := by
    intro n
    induction n with
    | zero =>
      intro t ht
      have := (hf _ (hok t)).2.2.1 ht
      rw [← hqs] at this
      exact ⟨t + 1, by omega, this⟩
    | succ n ih =>
      intro t ht
      have h3 := (hf _ (hok t)).2.2.2 (by omega)
      rw [← hqs] at h3
      obtain ⟨t', a, b, c⟩ := ih (t + 1) (by omega)
      rw [h3.1] at b c
      exact ⟨t', by omega, b, c⟩
  have hB : ∀ m t, ∃ t', t ≤ t' ∧ (q t').2.1 = ((q t).2.1 + m) % K := by
    intro m
    induction m with
    | zero => intro t; exact ⟨t, Nat.le_refl _, by rw [Nat.add_zero, Nat.mod_eq_of_lt (hok t).1]⟩
    | succ m ih =>
      intro t
      obtain ⟨t1, a, b⟩ := ih t
      obtain ⟨t2, c, _, d⟩ := hA _ t1 rfl
      refine ⟨t2, by omega, ?_⟩
      rw [d, b, Nat.mod_add_mod, Nat.add_assoc]
  refine ⟨fun t => (q t).1, by show (q 0).1 = i; rw [hq0], fun t => ?_, fun k hk j => ?_⟩
  · show E (q t).1 (q (t + 1)).1
    rw [hqs]; exact (hf _ (hok t)).1
  · obtain ⟨t1, a, b⟩ := hB (K + k - (q j).2.1) j
    have hlt := (hok j).1
    rw [show (q j).2.1 + (K + k - (q j).2.1) = k + K by omega, Nat.add_mod_right, Nat.mod_eq_of_lt hk] at b
    obtain ⟨t2, c, d, _⟩ := hA _ t1 rfl
    rw [b] at d
    exact ⟨t2, by omega, d⟩

end Go.Proofs.Ythpbgfodejoecaa

namespace Go.Proofs.Ythpbgfodejoecaa
open Go.RowKit

structure Wx where
  (sa : Option Addr) (sn sc : Nat) (na : Option Addr) (G nc : Nat) (la : Option Addr) (M lc : Nat) (fa : Option Addr) (K fc : Nat)
  (S : Nat → Int) (L : Nat → Nat) (Z : Nat → Nat → Int) (Lb : Nat → Nat) (FL : Nat → Nat) (FZ : Nat → Nat → Int)

structure Ww (w : World) (A : Wx) : Prop where
  start : Row w A.sa A.sn A.S
  next : Gr w A.na A.G A.L A.Z
  label : RowU w A.la A.M (fun i => (A.Lb i : Int))
  fair : Gr w A.fa A.K A.FL A.FZ
  s47 : A.sn ≤ 140737488355328
  g47 : A.G ≤ 140737488355328
  l47 : ∀ r, r < A.G → A.L r ≤ 140737488355328
  m47 : A.M ≤ 140737488355328
  k47 : A.K ≤ 140737488355328
  f47 : ∀ r, r < A.K → A.FL r ≤ 140737488355328
  lb : ∀ i, i < A.M → A.Lb i < 18446744073709551616

theorem Ww.below {w w' : World} {A : Wx} (h : Ww w A) (hb : Below w.heap.size w w') : Ww w' A :=
  ⟨h.start.below hb, h.next.below hb, h.label.below hb, h.fair.below hb, h.s47, h.g47, h.l47, h.m47, h.k47, h.f47, h.lb⟩

/-- A world's box. -/
structure Bw (w : World) (b : Nat) (A : Wx) : Prop where
  r0 : w.cell? ⟨b, 0, none⟩ = some (.slice A.sa A.sn A.sc)
  r1 : w.cell? ⟨b, 1, none⟩ = some (.slice A.na A.G A.nc)
  r2 : w.cell? ⟨b, 2, none⟩ = some (.slice A.la A.M A.lc)
  r3 : w.cell? ⟨b, 3, none⟩ = some (.slice A.fa A.K A.fc)
theorem Bw.below {w w' : World} {b : Nat} {A : Wx} (h : Bw w b A) (hb : Below w.heap.size w w') : Bw w' b A :=
  ⟨below_cell hb (Nat.le_refl _) h.r0, below_cell hb (Nat.le_refl _) h.r1, below_cell hb (Nat.le_refl _) h.r2, below_cell hb (Nat.le_refl _) h.r3⟩
theorem boxw (w : World) (A : Wx) : ∃ W, w.alloc (.cells #[.slice A.sa A.sn A.sc, .slice A.na A.G A.nc, .slice A.la A.M A.lc, .slice A.fa A.K A.fc] 30) = W ∧ Below w.heap.size w W ∧ W.heap.size = w.heap.size + 1 ∧ Bw W w.heap.size A :=
  ⟨_, rfl, box_below _ _, by simp, ⟨cell_of_alloc rfl, cell_of_alloc rfl, cell_of_alloc rfl, cell_of_alloc rfl⟩⟩

/-- Are the numbers of all lists below G? -/
def okL (K : Nat) (FL : Nat → Nat) (FZ : Nat → Nat → Int) (G : Nat) : Bool := decide (∀ r, r < K → allIn (FL r) (FZ r) G = true)
theorem okL_no {K : Nat} {FL : Nat → Nat} {FZ : Nat → Nat → Int} {G : Nat} (k : Nat) (hk : k < K) (h : allIn (FL k) (FZ k) G = false) : okL K FL FZ G = false := by
  unfold okL
  rw [decide_eq_false_iff_not]
  intro hall
  have := hall k hk
  rw [h] at this
  cases this
theorem okL_all {K : Nat} {FL : Nat → Nat} {FZ : Nat → Nat → Int} {G : Nat} (h : okL K FL FZ G = true) : ∀ r, r < K → ∀ i, i < FL r → 0 ≤ FZ r i ∧ FZ r i < G := by
  unfold okL at h
  rw [decide_eq_true_eq] at h
  exact fun r hr => allIn_all (h r hr)
/-- Does each list have something? -/
def onL (G : Nat) (L : Nat → Nat) : Bool := decide (∀ r, r < G → L r ≠ 0)
theorem onL_no {G : Nat} {L : Nat → Nat} (k : Nat) (hk : k < G) (h : L k = 0) : onL G L = false := by
  unfold onL
  rw [decide_eq_false_iff_not]
  exact fun hall => hall k hk h
theorem onL_all {G : Nat} {L : Nat → Nat} (h : onL G L = true) : ∀ r, r < G → L r ≠ 0 := by
  unfold onL at h
  rw [decide_eq_true_eq] at h
  exact h

/-- What Check says of a world. -/
def chkW (A : Wx) : Int := if 600 < A.G ∨ 80 < A.K then 2 else if A.M ≠ A.G then 1 else if allIn A.sn A.S A.G = true ∧ onL A.G A.L = true ∧ okL A.G A.L A.Z A.G = true ∧ okL A.K A.FL A.FZ A.G = true then 0 else 1

theorem chkW_ok {A : Wx} (h : chkW A = 0) : A.G ≤ 600 ∧ A.K ≤ 80 ∧ A.M = A.G ∧ (∀ i, i < A.sn → 0 ≤ A.S i ∧ A.S i < A.G) ∧ (∀ r, r < A.G → A.L r ≠ 0) ∧ (∀ r, r < A.G → ∀ i, i < A.L r → 0 ≤ A.Z r i ∧ A.Z r i < A.G) ∧ ∀ r, r < A.K → ∀ i, i < A.FL r → 0 ≤ A.FZ r i ∧ A.FZ r i < A.G := by
  unfold chkW at h
  split at h
  · cases h
  · split at h
    · cases h
    · split at h
      · rename_i h1 h2 h3
        exact ⟨by omega, by omega, by omega, allIn_all h3.1, onL_all h3.2.1, okL_all h3.2.2.1, okL_all h3.2.2.2⟩
      · cases h

set_option maxHeartbeats 1000000 in
theorem areStates_any (A : Wx) (a : Option Addr) (n c : Nat) (Z : Nat → Int) (w : World) (hn : n ≤ 140737488355328) (hr : Row w a n Z) (_hG : A.G ≤ 140737488355328) :
    Calls Try.prog 60 #[.agg #[.slice A.sa A.sn A.sc, .slice A.na A.G A.nc, .slice A.la A.M A.lc, .slice A.fa A.K A.fc], .slice a n c] w fun e w' => e = .returned (.bool (allIn n Z A.G)) ∧ Below w.heap.size w w' := by
  obtain ⟨b, o, ha, hc⟩ := hr
  obtain ⟨W1, hW1, hb1, hs1, hbw⟩ := boxw w A
  have HC := hid (fun i hi => below_cell hb1 (Nat.le_refl _) (hc i hi))
  have HB := hid hb1
  obtain ⟨_, q1, _, _⟩ := hbw
  clear hc hb1 hs1
  go_enter Try.func60, Try.ntmps60
  go_wp2
  go_loop [9] (fun i => ∃ k : Nat, k ≤ n ∧ i = .int .i64 k ∧ Hid (∀ j, j < k → 0 ≤ Z j ∧ Z j < A.G)) (fun i => n - (intOf i).toNat)
  case atStart => exact ⟨0, Nat.zero_le _, rfl, hid (fun j hj => absurd hj (Nat.not_lt_zero _))⟩
  case round =>
    obtain ⟨k, hk, rfl, H⟩ := hrel
    by_cases hlt : k < n
    · obtain rfl := ha (by omega)
      have hck := HC.out k hlt
      by_cases h1 : Z k < 0
      · go_wp2
        go_ret
        exact ⟨ret_bool (allIn_no k hlt (Or.inl h1)).symm, HB.out⟩
      · by_cases h2 : (A.G : Int) ≤ Z k
        · go_wp2
          go_ret
          exact ⟨ret_bool (allIn_no k hlt (Or.inr h2)).symm, HB.out⟩
        · go_wp2
          go_round
          case rel => exact ⟨k + 1, by omega, by go_num, hid (snoc_all H.out ⟨by omega, by omega⟩)⟩
          case measure => simp [intOf]; omega
    · go_wp2
      go_ret
      exact ⟨ret_bool (allIn_yes (fun i hi => H.out i (by omega))).symm, HB.out⟩

theorem ends_any (a : Option Addr) (n c : Nat) (w : World) : Calls Try.prog 58 #[.slice a n c] w fun e w' => e = .returned (.bool (decide (n = 0))) ∧ w' = w := by
  by_cases h : n = 0
  · have E : Hid (decide (n = 0) = true) := hid (decide_eq_true h)
    have h2 : (((n : Nat) : Int) == 0) = true := by rw [h]; rfl
    go_enter Try.func58, Try.ntmps58
    go_wp2
    go_ret
    exact ⟨ret_bool (by rw [E.out]), rfl⟩
  · have E : Hid (decide (n = 0) = false) := hid (decide_eq_false h)
    have h2 : (((n : Nat) : Int) == 0) = false := beq_eq_false_iff_ne.2 (by omega)
    go_enter Try.func58, Try.ntmps58
    go_wp2
    go_ret
    exact ⟨ret_bool (by rw [E.out]), rfl⟩

theorem isWrong_any (A : Wx) (b : Nat) (a : Option Addr) (n c : Nat) (Z : Nat → Int) (w : World) (hn : n ≤ 140737488355328) (hr : Row w a n Z) (hG : A.G ≤ 140737488355328) (hb : Bw w b A) :
    Calls Try.prog 59 #[.slice a n c, .pointer (some ⟨b, 0, none⟩)] w fun e w' => e = .returned (.bool (!allIn n Z A.G)) ∧ Below w.heap.size w w' := by
  have C := hid (areStates_any A a n c Z w hn hr hG)
  obtain ⟨q0, q1, q2, q3⟩ := hb
  clear hr
  generalize allIn n Z A.G = q at *
  go_enter Try.func59, Try.ntmps59
  go_wp2_with fail
  refine C.out.mono ?_
  rintro e w1 ⟨rfl, hb1⟩
  have HB := hid hb1
  clear hb1 q0 q1 q2 q3
  go_wp2
  go_ret
  exact ⟨rfl, HB.out⟩

set_option maxHeartbeats 2000000 in
/-- Is some list so? By a closure that answers Q. -/
theorem idxLs_any (fa : Option Addr) (K fc : Nat) (FL : Nat → Nat) (FZ : Nat → Nat → Int) (fn : Nat) (caps : Array Value) (Q : Nat → Bool) (w : World) (hK : K ≤ 140737488355328) (hr : Gr w fa K FL FZ) (hf : fn = 58 ∧ caps = #[] ∨ (fn = 59 ∧ ∃ b, caps = #[.pointer (some ⟨b, 0, none⟩)]) ∨ (fn = 57 ∧ ∃ b, caps = #[.pointer (some ⟨b, 0, none⟩)]))
    (hq : ∀ (r : Nat) (a : Option Addr) (c : Nat) (u : World), r < K → Below w.heap.size w u → Row u a (FL r) (FZ r) → Calls Try.prog fn (#[.slice a (FL r) c] ++ caps) u fun e w' => e = .returned (.bool (Q r)) ∧ Below u.heap.size u w') :
    Calls Try.prog 92 #[.slice fa K fc, .func (.func fn) #[] caps] w fun e w' => (∃ r : Int, e = .returned (.int .i64 r) ∧ ((0 ≤ r ∧ ∃ k, k < K ∧ Q k = true) ∨ (r = -1 ∧ ∀ k, k < K → Q k = false))) ∧ Below w.heap.size w w' := by
  obtain ⟨rb, ro, ha, hc⟩ := hr
  have HC := hid hc
  have HQ := hid hq
  clear hc hq
  rcases hf with ⟨rfl, rfl⟩ | ⟨rfl, b, rfl⟩ | ⟨rfl, b, rfl⟩
  all_goals
    go_enter Try.func92, Try.ntmps92
    go_wp2
    go_loopw [8] (fun i wr => ∃ k : Nat, k ≤ K ∧ i = .int .i64 k ∧ Hid (Below w.heap.size w wr ∧ ∀ j, j < k → Q j = false)) (fun i _ => K - (intOf i).toNat)
    case atStart => exact ⟨0, by omega, rfl, hid ⟨Below.refl _ _, fun j hj => by omega⟩⟩
    case round =>
      obtain ⟨k, hk, rfl, H⟩ := hrel
      by_cases hlt : k < K
      · obtain rfl := ha (by omega)
        obtain ⟨a, c, hck, hrow⟩ := HC.out k hlt
        have hck2 := below_cell H.out.1 (Nat.le_refl _) hck
        have C := hid (HQ.out k a c wr hlt H.out.1 (hrow.below H.out.1))
        clear hrow hck
        cases hw : Q k
        · have HW := hid hw
          rw [hw] at C
          clear hw
          go_wp2_with fail
          refine C.out.mono ?_
          rintro e w' ⟨rfl, hb'⟩
          have HB := hid (H.out.1.trans (hb'.mono H.out.1.size))
          clear hb' hck2
          go_wp2
          go_roundw
          case rel => exact ⟨k + 1, by omega, by go_num, hid ⟨HB.out, snoc_all H.out.2 HW.out⟩⟩
          case measure => simp [intOf]; omega
        · have HW := hid hw
          rw [hw] at C
          clear hw
          go_wp2_with fail
          refine C.out.mono ?_
          rintro e w' ⟨rfl, hb'⟩
          have HB := hid (H.out.1.trans (hb'.mono H.out.1.size))
          clear hb' hck2
          go_wp2
          go_ret
          exact ⟨⟨_, rfl, Or.inl ⟨by omega, k, hlt, HW.out⟩⟩, HB.out⟩
      · go_wp2
        go_ret
        exact ⟨⟨_, rfl, Or.inr ⟨rfl, fun i hi => H.out.2 i (by omega)⟩⟩, H.out.1⟩

set_option maxHeartbeats 2000000 in
theorem cfLs_any (fa : Option Addr) (K fc : Nat) (FL : Nat → Nat) (FZ : Nat → Nat → Int) (fn : Nat) (caps : Array Value) (Q : Nat → Bool) (q : Bool) (w : World) (hK : K ≤ 140737488355328) (hr : Gr w fa K FL FZ) (hf : fn = 58 ∧ caps = #[] ∨ (fn = 59 ∧ ∃ b, caps = #[.pointer (some ⟨b, 0, none⟩)]) ∨ (fn = 57 ∧ ∃ b, caps = #[.pointer (some ⟨b, 0, none⟩)]))
    (hq : ∀ (r : Nat) (a : Option Addr) (c : Nat) (u : World), r < K → Below w.heap.size w u → Row u a (FL r) (FZ r) → Calls Try.prog fn (#[.slice a (FL r) c] ++ caps) u fun e w' => e = .returned (.bool (Q r)) ∧ Below u.heap.size u w') (hqq : q = true ↔ ∃ k, k < K ∧ Q k = true) :
    Calls Try.prog 61 #[.slice fa K fc, .func (.func fn) #[] caps] w fun e w' => e = .returned (.bool q) ∧ Below w.heap.size w w' := by
  have C := hid (idxLs_any fa K fc FL FZ fn caps Q w hK hr hf hq)
  clear hr hq
  have HQ := hid hqq
  clear hqq
  rcases hf with ⟨rfl, rfl⟩ | ⟨rfl, b, rfl⟩ | ⟨rfl, b, rfl⟩
  all_goals
    go_enter Try.func61, Try.ntmps61
    go_wp2_with fail
    refine C.out.mono ?_
    rintro e w1 ⟨⟨r, rfl, hr⟩, hb⟩
    have HR := hid hr
    have HB := hid hb
    clear hr hb
    go_wp2
    go_ret
    refine ⟨ret_bool ?_, HB.out⟩
    rcases HR.out with ⟨h1, h2⟩ | ⟨rfl, h2⟩
    · rw [HQ.out.2 h2]; simp [h1]
    · cases hq : q
      · rfl
      · obtain ⟨k, hk, hk2⟩ := HQ.out.1 hq
        rw [h2 k hk] at hk2
        cases hk2

end Go.Proofs.Ythpbgfodejoecaa
