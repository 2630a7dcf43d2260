/- SameWorld, of two that hold the same; edges. There is an answer. -/
import Derived.Test.YthpbgfodejoecaaWFaiJ
import Derived.Test.YthpbgfodejoecaaRof
namespace Go.Proofs.Ythpbgfodejoecaa
open Go.RowKit

set_option maxHeartbeats 1000000 in
theorem equal12 (a a' : Option Addr) (n c c' : Nat) (Z : Nat → Int) (w : World) (hn : n ≤ 140737488355328) (h : Row w a n Z) (h' : Row w a' n Z) :
    Calls Try.prog 12 #[.slice a n c, .slice a' n c'] w fun e w' => e = .returned (.bool true) ∧ ∃ q, w' = w.drewN q := by
  obtain ⟨b, o, ha, hc⟩ := h
  obtain ⟨b', o', ha', hc'⟩ := h'
  have HC := hid hc
  have HC' := hid hc'
  clear hc hc'
  go_enter Try.func12, Try.ntmps12
  go_wp2
  go_loopw [13] (fun i wr => ∃ k : Nat, k ≤ n ∧ i = .int .i64 k ∧ ∃ q, wr = w.drewN q) (fun i _ => n - (intOf i).toNat)
  case atStart => exact ⟨0, Nat.zero_le _, rfl, 0, rfl⟩
  case round =>
    obtain ⟨k, hk, rfl, q, rfl⟩ := hrel
    by_cases hlt : k < n
    · obtain rfl := ha (by omega)
      obtain rfl := ha' (by omega)
      have hck := HC.out k hlt
      have hck' := HC'.out k hlt
      have hzk : (k : Int) < n := by omega
      have hb : (Z k != Z k) = false := by simp
      clear ha ha'
      go_wp2
      go_quiet (fail)
      go_wp2
      go_roundw
      case rel => exact ⟨k + 1, by omega, by go_num, _, rfl⟩
      case measure => simp [intOf]; omega
    · go_wp2
      go_ret
      exact ⟨rfl, q, rfl⟩

set_option maxHeartbeats 1000000 in
theorem equal34 (a a' : Option Addr) (n c c' : Nat) (Z : Nat → Int) (w : World) (hn : n ≤ 140737488355328) (h : RowU w a n Z) (h' : RowU w a' n Z) :
    Calls Try.prog 34 #[.slice a n c, .slice a' n c'] w fun e w' => e = .returned (.bool true) ∧ ∃ q, w' = w.drewN q := by
  obtain ⟨b, o, ha, hc⟩ := h
  obtain ⟨b', o', ha', hc'⟩ := h'
  have HC := hid hc
  have HC' := hid hc'
  clear hc hc'
  go_enter Try.func34, Try.ntmps34
  go_wp2
  go_loopw [13] (fun i wr => ∃ k : Nat, k ≤ n ∧ i = .int .i64 k ∧ ∃ q, wr = w.drewN q) (fun i _ => n - (intOf i).toNat)
  case atStart => exact ⟨0, Nat.zero_le _, rfl, 0, rfl⟩
  case round =>
    obtain ⟨k, hk, rfl, q, rfl⟩ := hrel
    by_cases hlt : k < n
    · obtain rfl := ha (by omega)
      obtain rfl := ha' (by omega)
      have hck := HC.out k hlt
      have hck' := HC'.out k hlt
      have hzk : (k : Int) < n := by omega
      have hb : (Z k != Z k) = false := by simp
      clear ha ha'
      go_wp2
      go_quiet (fail)
      go_wp2
      go_roundw
      case rel => exact ⟨k + 1, by omega, by go_num, _, rfl⟩
      case measure => simp [intOf]; omega
    · go_wp2
      go_ret
      exact ⟨rfl, q, rfl⟩

set_option maxHeartbeats 1000000 in
theorem equalF33 (a a' : Option Addr) (G c c' : Nat) (L : Nat → Nat) (Z : Nat → Nat → Int) (w : World) (hG : G ≤ 140737488355328) (hL : ∀ r, r < G → L r ≤ 140737488355328) (h : Gr w a G L Z) (h' : Gr w a' G L Z) :
    Calls Try.prog 33 #[.slice a G c, .slice a' G c', .func (.func 12) #[] #[]] w fun e w' => e = .returned (.bool true) ∧ ∃ q, w' = w.drewN q := by
  obtain ⟨b, o, ha, hc⟩ := h
  obtain ⟨b', o', ha', hc'⟩ := h'
  have HC := hid hc
  have HC' := hid hc'
  have HL := hid hL
  clear hc hc' hL
  go_enter Try.func33, Try.ntmps33
  go_wp2
  go_loopw [17] (fun i wr => ∃ k : Nat, k ≤ G ∧ i = .int .i64 k ∧ ∃ q, wr = w.drewN q) (fun i _ => G - (intOf i).toNat)
  case atStart => exact ⟨0, Nat.zero_le _, rfl, 0, rfl⟩
  case round =>
    obtain ⟨k, hk, rfl, q, rfl⟩ := hrel
    by_cases hlt : k < G
    · obtain rfl := ha (by omega)
      obtain rfl := ha' (by omega)
      obtain ⟨a1, c1, hck, hr1⟩ := HC.out k hlt
      obtain ⟨a2, c2, hck', hr2⟩ := HC'.out k hlt
      have hzk : (k : Int) < G := by omega
      have C := hid (equal12 a1 a2 (L k) c1 c2 (Z k) (w.drewN q) (HL.out k hlt) (hr1.below (below_drewN (Below.refl _ _) q)) (hr2.below (below_drewN (Below.refl _ _) q)))
      clear ha ha' hr1 hr2
      go_wp2_with fail
      refine C.out.mono ?_
      rintro e w1 ⟨rfl, q1, rfl⟩
      go_wp2
      go_roundw
      case rel => exact ⟨k + 1, by omega, by go_num, _, rfl⟩
      case measure => simp [intOf]; omega
    · go_wp2
      go_ret
      exact ⟨rfl, q, rfl⟩

theorem lists32 (a a' : Option Addr) (G c c' : Nat) (L : Nat → Nat) (Z : Nat → Nat → Int) (w : World) (hG : G ≤ 140737488355328) (hL : ∀ r, r < G → L r ≤ 140737488355328) (h : Gr w a G L Z) (h' : Gr w a' G L Z) :
    Calls Try.prog 32 #[.slice a G c, .slice a' G c'] w fun e w' => e = .returned (.bool true) ∧ ∃ q, w' = w.drewN q := by
  have C := hid (equalF33 a a' G c c' L Z w hG hL h h')
  clear h h' hL
  go_enter Try.func32, Try.ntmps32
  go_wp2_with fail
  refine C.out.mono ?_
  rintro e w' ⟨rfl, q, rfl⟩
  go_wp2
  go_ret
  exact ⟨rfl, q, rfl⟩

set_option maxHeartbeats 1000000 in
theorem equalE10 (a a' : Option Addr) (n c c' : Nat) (X Y : Nat → Int) (w : World) (hn : n ≤ 140737488355328) (h : Fls w a n X Y) (h' : Fls w a' n X Y) :
    Calls Try.prog 10 #[.slice a n c, .slice a' n c'] w fun e w' => e = .returned (.bool true) ∧ ∃ q, w' = w.drewN q := by
  obtain ⟨b, o, ha, hc⟩ := h
  obtain ⟨b', o', ha', hc'⟩ := h'
  have HC := hid hc
  have HC' := hid hc'
  clear hc hc'
  go_enter Try.func10, Try.ntmps10
  go_wp2
  go_loopw [13] (fun i wr => ∃ k : Nat, k ≤ n ∧ i = .int .i64 k ∧ ∃ q, wr = w.drewN q) (fun i _ => n - (intOf i).toNat)
  case atStart => exact ⟨0, Nat.zero_le _, rfl, 0, rfl⟩
  case round =>
    obtain ⟨k, hk, rfl, q, rfl⟩ := hrel
    by_cases hlt : k < n
    · obtain rfl := ha (by omega)
      obtain rfl := ha' (by omega)
      obtain ⟨h1, h2⟩ := HC.out k hlt
      obtain ⟨g1, g2⟩ := HC'.out k hlt
      have hzk : (k : Int) < n := by omega
      generalize X k = x1 at *
      generalize Y k = x2 at *
      clear ha ha'
      go_wp2
      go_quiet (fail)
      go_wp2
      go_roundw
      case rel => exact ⟨k + 1, by omega, by go_num, _, rfl⟩
      case measure => simp [intOf]; omega
    · go_wp2
      go_ret
      exact ⟨rfl, q, rfl⟩

/-- Two worlds that hold the same. -/
structure Smw (A B : Wx) : Prop where
  sn : B.sn = A.sn
  S : B.S = A.S
  G : B.G = A.G
  L : B.L = A.L
  Z : B.Z = A.Z
  M : B.M = A.M
  Lb : B.Lb = A.Lb
  K : B.K = A.K
  FL : B.FL = A.FL
  FZ : B.FZ = A.FZ

set_option maxRecDepth 100000 in
set_option maxHeartbeats 4000000 in
theorem sameW_any (A B : Wx) (w : World) (hA : Ww w A) (hB : Ww w B) (hs : Smw A B) :
    Calls Try.prog 8 #[A.val, B.val] w fun e w' => e = .returned (.bool true) ∧ Below w.heap.size w w' := by
  obtain ⟨sa, sn0, sc, na, G0, nc, la, M0, lc, fa, K0, fc, S0, L0, Z0, Lb0, FL0, FZ0⟩ := A
  obtain ⟨sa', sn, sc', na', G, nc', la', M, lc', fa', K, fc', S, L, Z, Lb, FL, FZ⟩ := B
  obtain ⟨e1, e2, e3, e4, e5, e6, e7, e8, e9, e10⟩ := hs
  dsimp only [Wx.val] at *
  subst e1 e2 e3 e4 e5 e6 e7 e8 e9 e10
  have C1 := hid (fun (z : World) (hz : Below w.heap.size w z) => equal12 sa sa' sn sc sc' S z hA.s47 (hA.start.below hz) (hB.start.below hz))
  have C2 := hid (fun (z : World) (hz : Below w.heap.size w z) => lists32 na na' G nc nc' L Z z hA.g47 hA.l47 (hA.next.below hz) (hB.next.below hz))
  have C3 := hid (fun (z : World) (hz : Below w.heap.size w z) => equal34 la la' M lc lc' _ z hA.m47 (hA.label.below hz) (hB.label.below hz))
  have C4 := hid (fun (z : World) (hz : Below w.heap.size w z) => lists32 fa fa' K fc fc' FL FZ z hA.k47 hA.f47 (hA.fair.below hz) (hB.fair.below hz))
  obtain ⟨W1, hW1, hb1, r⟩ : ∃ W1, (w.alloc (.cells #[.slice sa sn sc, .slice na G nc, .slice la M lc, .slice fa K fc] 30)).alloc (.cells #[.slice sa' sn sc', .slice na' G nc', .slice la' M lc', .slice fa' K fc'] 30) = W1 ∧ Below w.heap.size w W1 ∧
      ((W1.cell? ⟨w.heap.size, 0, none⟩ = some (.slice sa sn sc) ∧ W1.cell? ⟨w.heap.size, 1, none⟩ = some (.slice na G nc) ∧ W1.cell? ⟨w.heap.size, 2, none⟩ = some (.slice la M lc) ∧ W1.cell? ⟨w.heap.size, 3, none⟩ = some (.slice fa K fc)) ∧ (W1.cell? ⟨w.heap.size + 1, 0, none⟩ = some (.slice sa' sn sc') ∧ W1.cell? ⟨w.heap.size + 1, 1, none⟩ = some (.slice na' G nc') ∧ W1.cell? ⟨w.heap.size + 1, 2, none⟩ = some (.slice la' M lc') ∧ W1.cell? ⟨w.heap.size + 1, 3, none⟩ = some (.slice fa' K fc'))) := by
    have b1 := box_below w (.cells #[.slice sa sn sc, .slice na G nc, .slice la M lc, .slice fa K fc] 30)
    have s1 : (w.alloc (.cells #[.slice sa sn sc, .slice na G nc, .slice la M lc, .slice fa K fc] 30)).heap.size = w.heap.size + 1 := by simp
    have n1 : (w.alloc (.cells #[.slice sa sn sc, .slice na G nc, .slice la M lc, .slice fa K fc] 30)).heap[w.heap.size]? = some (.cells #[.slice sa sn sc, .slice na G nc, .slice la M lc, .slice fa K fc] 30) := Go.Deep.blk_alloc_new _ _
    generalize w.alloc (.cells #[.slice sa sn sc, .slice na G nc, .slice la M lc, .slice fa K fc] 30) = V1 at *
    have b2 := box_below V1 (.cells #[.slice sa' sn sc', .slice na' G nc', .slice la' M lc', .slice fa' K fc'] 30)
    have n2 : (V1.alloc (.cells #[.slice sa' sn sc', .slice na' G nc', .slice la' M lc', .slice fa' K fc'] 30)).heap[V1.heap.size]? = some (.cells #[.slice sa' sn sc', .slice na' G nc', .slice la' M lc', .slice fa' K fc'] 30) := Go.Deep.blk_alloc_new _ _
    rw [s1] at n2
    have n1' := (b2.block _ (Array.getElem?_eq_some_iff.1 n1).1).trans n1
    exact ⟨_, rfl, b1.trans (b2.mono (by omega)), ⟨cell_of_cells n1' rfl, cell_of_cells n1' rfl, cell_of_cells n1' rfl, cell_of_cells n1' rfl⟩, ⟨cell_of_cells n2 rfl, cell_of_cells n2 rfl, cell_of_cells n2 rfl, cell_of_cells n2 rfl⟩⟩
  obtain ⟨⟨x0, x1, x2, x3⟩, ⟨y0, y1, y2, y3⟩⟩ := r
  have HB1 := hid hb1
  clear hA hB hb1
  go_enter Try.func8, Try.ntmps8
  go_wp2_with fail
  refine (C1.out _ HB1.out).mono ?_
  rintro e w2 ⟨rfl, q2, rfl⟩
  go_wp2_with fail
  refine (C2.out _ (below_drewN HB1.out _)).mono ?_
  rintro e w2 ⟨rfl, q3, rfl⟩
  go_wp2_with fail
  refine (C3.out _ (below_drewN HB1.out _)).mono ?_
  rintro e w2 ⟨rfl, q4, rfl⟩
  go_wp2_with fail
  refine (C4.out _ (below_drewN HB1.out _)).mono ?_
  rintro e w2 ⟨rfl, q5, rfl⟩
  go_wp2
  go_ret
  exact ⟨rfl, below_drewN HB1.out _⟩

end Go.Proofs.Ythpbgfodejoecaa

namespace Go.Proofs.Ythpbgfodejoecaa
open Go.RowKit Go.Maps

theorem chk_ex (N F : Nat) (M : Nat → ByteArray) (K A B : Nat → Int) : ∃ e, ChkIs N F M K A B e := by
  unfold ChkIs
  by_cases h1 : 20 < N ∨ 30 < F
  · exact ⟨2, Or.inl ⟨h1, rfl⟩⟩
  · have h1' : N ≤ 20 ∧ F ≤ 30 := by omega
    by_cases h2 : nodesErr M K N = 0
    · by_cases h3 : endsOk N F A B = true ∧ tally K 1 N = 1 ∧ fitAll N F K A B = true
      · by_cases h4 : allCome N F K A B
        · exact ⟨0, Or.inr ⟨h1', Or.inr ⟨h2, Or.inr ⟨h3, Or.inr ⟨h4, rfl⟩⟩⟩⟩⟩
        · exact ⟨6, Or.inr ⟨h1', Or.inr ⟨h2, Or.inr ⟨h3, Or.inl ⟨h4, rfl⟩⟩⟩⟩⟩
      · exact ⟨1, Or.inr ⟨h1', Or.inr ⟨h2, Or.inl ⟨h3, rfl⟩⟩⟩⟩
    · exact ⟨_, Or.inr ⟨h1', Or.inl ⟨h2, rfl⟩⟩⟩

theorem xok_ex (K A B : Nat → Int) (F : Nat) (l : List St3) : ∃ X, XOk K A B F l X :=
  ⟨fun m i => @ite Int (enb K A B F (fnl m) (l.getD i (0, 0, 0))) (Classical.propDecidable _) 1 0, fun m i => by simp⟩

end Go.Proofs.Ythpbgfodejoecaa
