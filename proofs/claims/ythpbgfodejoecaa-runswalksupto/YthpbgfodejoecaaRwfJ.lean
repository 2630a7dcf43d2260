/- The first state that does a step. The law RunsSays, walked. -/
import Derived.Test.YthpbgfodejoecaaPzSpLawJ
import Derived.Test.YthpbgfodejoecaaEnb
import Derived.Deep.RegionHeld3
import Derived.Laws.EntriesVeiled
import Derived.Deep.AppendLies
import Derived.Laws.OwnMore
import Derived.Deep.CutRange
import Derived.Test.YthpbgfodejoecaaRof
import Derived.Test.YthpbgfodejoecaaGameWalk
import Derived.Test.YthpbgfodejoecaaGameEnJ
import Derived.Test.YthpbgfodejoecaaProc7
import Derived.Test.YthpbgfodejoecaaGameFire
import Derived.Test.YthpbgfodejoecaaStepsOf2
import Derived.Test.YthpbgfodejoecaaWaysJ
import Derived.Test.YthpbgfodejoecaaWScNumberJ
import Derived.Test.YthpbgfodejoecaaSpFaceJ
namespace Go.Proofs.Ythpbgfodejoecaa
open Go.RowKit

set_option maxHeartbeats 1000000 in
theorem doesIt (oa : Option Addr) (n oc b13 kb j : Nat) (X Y : Nat → Int) (q : Int) (w : World) (hj : j < n) (h : Fls w oa n X Y) (h13 : w.cell? ⟨b13, 0, none⟩ = some (.slice oa n oc)) (hk : w.cell? ⟨kb, 0, none⟩ = some (.int .i64 q)) :
    Calls Try.prog 21 #[.int .i64 (j : Nat), .pointer (some ⟨b13, 0, none⟩), .pointer (some ⟨kb, 0, none⟩)] w fun e w' => e = .returned (.bool (decide (X j = q))) ∧ Below w.heap.size w w' := by
  obtain ⟨b, o, ha, hc⟩ := h
  obtain rfl := ha (by omega)
  obtain ⟨q0, _⟩ := hc j hj
  have hjz : (j : Int) < n := by omega
  obtain ⟨x, hx⟩ : ∃ x, x = X j := ⟨_, rfl⟩
  rw [← hx] at q0
  by_cases e : x = q
  · have h1 : (x == q) = true := beq_iff_eq.2 e
    have E : Hid (decide (X j = q) = true) := hid (decide_eq_true (by rw [← hx]; exact e))
    clear hc ha e hx
    go_enter Try.func21, Try.ntmps21
    go_wp2
    go_quiet (fail)
    go_wp2
    go_ret
    exact ⟨ret_bool E.out.symm, below_drewN (Below.refl _ _) _⟩
  · have h1 : (x == q) = false := beq_eq_false_iff_ne.2 e
    have E : Hid (decide (X j = q) = false) := hid (decide_eq_false (by rw [← hx]; exact e))
    clear hc ha e hx
    go_enter Try.func21, Try.ntmps21
    go_wp2
    go_quiet (fail)
    go_wp2
    go_ret
    exact ⟨ret_bool E.out.symm, below_drewN (Below.refl _ _) _⟩

set_option maxHeartbeats 2000000 in
theorem firstOf (a oa : Option Addr) (m c n oc b13 kb : Nat) (Z X Y : Nat → Int) (q : Int) (w : World) (hm : m ≤ 140737488355328) (hr : Row w a m Z) (hz : ∀ i, i < m → 0 ≤ Z i ∧ Z i < n) (h : Fls w oa n X Y) (h13 : w.cell? ⟨b13, 0, none⟩ = some (.slice oa n oc)) (hk : w.cell? ⟨kb, 0, none⟩ = some (.int .i64 q)) (hex : ∃ i, i < m ∧ X (Z i).toNat = q) :
    Calls Try.prog 20 #[.slice a m c, .func (.func 21) #[] #[.pointer (some ⟨b13, 0, none⟩), .pointer (some ⟨kb, 0, none⟩)]] w fun e w' => (∃ y : Nat, y < m ∧ e = .returned (.int .i64 (y : Nat)) ∧ X (Z y).toNat = q) ∧ Below w.heap.size w w' := by
  obtain ⟨b, o, ha, hc⟩ := hr
  have HC := hid hc
  have HZ := hid hz
  have HF := hid h
  have H13 := hid h13
  have HK := hid hk
  have HEx := hid hex
  clear hc hz h h13 hk hex
  go_enter Try.func20, Try.ntmps20
  go_wp2
  go_loopw [8] (fun i wr => ∃ k : Nat, k ≤ m ∧ i = .int .i64 k ∧ Hid (Below w.heap.size w wr ∧ ∀ i, i < k → X (Z i).toNat ≠ q)) (fun i _ => m - (intOf i).toNat)
  case atStart => exact ⟨0, by omega, rfl, hid ⟨Below.refl _ _, fun j hj => by omega⟩⟩
  case round =>
    obtain ⟨k, hk, rfl, H⟩ := hrel
    by_cases hlt : k < m
    · obtain rfl := ha (by omega)
      have hzk : (k : Int) < m := by omega
      have q0 := below_c H.out.1 (HC.out k hlt)
      obtain ⟨j, hj⟩ : ∃ j : Nat, Z k = j := ⟨(Z k).toNat, by have := HZ.out k hlt; omega⟩
      have hjn : j < n := by have := HZ.out k hlt; omega
      rw [hj] at q0
      have hjt : (Z k).toNat = j := by rw [hj]; rfl
      have C := hid (doesIt oa n oc b13 kb j X Y q wr hjn (HF.out.below H.out.1) (below_c H.out.1 H13.out) (below_c H.out.1 HK.out))
      by_cases e : X j = q
      · have E : Hid (X (Z k).toNat = q) := hid (by rw [hjt]; exact e)
        rw [show decide (X j = q) = true from decide_eq_true e] at C
        clear e hj hjt
        go_wp2_with fail
        refine C.out.mono ?_
        rintro e w' ⟨rfl, hb'⟩
        have HB := hid (H.out.1.trans (hb'.mono H.out.1.size))
        clear hb' q0
        go_wp2
        go_ret
        exact ⟨⟨k, hlt, rfl, E.out⟩, HB.out⟩
      · have E : Hid (X (Z k).toNat ≠ q) := hid (by rw [hjt]; exact e)
        rw [show decide (X j = q) = false from decide_eq_false e] at C
        clear e hj hjt
        go_wp2_with fail
        refine C.out.mono ?_
        rintro e w' ⟨rfl, hb'⟩
        have HB := hid (H.out.1.trans (hb'.mono H.out.1.size))
        clear hb' q0
        go_wp2
        go_roundw
        case rel => exact ⟨k + 1, by omega, by go_num, hid ⟨HB.out, snoc_all H.out.2 E.out⟩⟩
        case measure => simp [intOf]; omega
    · exfalso
      obtain ⟨i, h1, h2⟩ := HEx.out
      exact H.out.2 i (by omega) h2

end Go.Proofs.Ythpbgfodejoecaa

namespace Go.Proofs.Ythpbgfodejoecaa
open Go.RowKit Go.Maps

/-- The world of nothing. -/
def zw : Wx := ⟨none, 0, 0, none, 0, 0, none, 0, 0, none, 0, 0, fun _ => 0, fun _ => 0, fun _ _ => 0, fun _ => 0, fun _ => 0, fun _ _ => 0⟩
theorem zw_ww (w : World) : Ww w zw :=
  ⟨⟨0, 0, fun h => absurd h (Nat.lt_irrefl 0), fun i hi => absurd hi (Nat.not_lt_zero i)⟩, ⟨0, 0, fun h => absurd h (Nat.lt_irrefl 0), fun i hi => absurd hi (Nat.not_lt_zero i)⟩, ⟨0, 0, fun h => absurd h (Nat.lt_irrefl 0), fun i hi => absurd hi (Nat.not_lt_zero i)⟩, ⟨0, 0, fun h => absurd h (Nat.lt_irrefl 0), fun i hi => absurd hi (Nat.not_lt_zero i)⟩, Nat.zero_le _, Nat.zero_le _, fun r hr => absurd hr (Nat.not_lt_zero r), Nat.zero_le _, Nat.zero_le _, fun r hr => absurd hr (Nat.not_lt_zero r), fun i hi => absurd hi (Nat.not_lt_zero i)⟩

/-- What is told, at once. -/
def RnS (A : Wx) (n : Nat) (X Y : Nat → Int) (E : Int) (nx : List (List (Int × Int))) (G : Nat) (l : List St3) : Prop :=
  (rnE E nx G ≠ 0 ∧ A = zw ∧ n = 0 ∧ X = (fun _ => 0) ∧ Y = fun _ => 0) ∨ (rnE E nx G = 0 ∧ RnA A nx G l ∧ n = (dgs nx G).length ∧ X = (fun i => (rnT nx G i).2.1) ∧ Y = fun i => (rnT nx G i).1)

theorem rn_all {E : Int} {nx : List (List (Int × Int))} {G : Nat} {l : List St3} {e : Ending} {w : World} (h : RnIs E nx G l e w) :
    ∃ (A : Wx) (oa : Option Addr) (oc n : Nat) (X Y : Nat → Int), e = .returned (.tuple #[.agg #[.slice A.sa A.sn A.sc, .slice A.na A.G A.nc, .slice A.la A.M A.lc, .slice A.fa A.K A.fc], .slice oa n oc, .int .i64 (rnE E nx G)]) ∧ Hid (Ww w A ∧ Fls w oa n X Y ∧ RnS A n X Y E nx G l) := by
  rcases h with ⟨h1, rfl⟩ | ⟨h1, A, oa, oc, rfl, h2⟩
  · exact ⟨zw, none, 0, 0, fun _ => 0, fun _ => 0, rfl, zw_ww w, ⟨0, 0, fun h => absurd h (Nat.lt_irrefl 0), fun i hi => absurd hi (Nat.not_lt_zero i)⟩, Or.inl ⟨h1, rfl, rfl, rfl, rfl⟩⟩
  · exact ⟨A, oa, oc, _, _, _, by rw [h1]; rfl, h2.out.2.1, h2.out.2.2, Or.inr ⟨h1, h2.out.1, rfl, rfl, rfl⟩⟩

theorem rns_small {A : Wx} {n : Nat} {X Y : Nat → Int} {E : Int} {nx : List (List (Int × Int))} {G : Nat} {l : List St3} (h : RnS A n X Y E nx G l) : n ≤ 600 := by
  rcases h with ⟨h1, rfl, rfl, rfl, rfl⟩ | ⟨h1, h2, rfl, rfl, rfl⟩
  · omega
  · unfold rnE at h1
    by_cases hE : E ≠ 0
    · rw [if_pos hE] at h1; exact absurd h1 hE
    · rw [if_neg hE] at h1
      by_cases h6 : 600 < (dgs nx G).length
      · rw [if_pos h6] at h1; cases h1
      · omega

end Go.Proofs.Ythpbgfodejoecaa
