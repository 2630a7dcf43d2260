/- SameAuto, of two automata that hold the same. -/
import Derived.Test.YtdncjikmknkkpaaDoorAcc
namespace Go.Proofs.YtdncjikmknkkpaaDoor
open Go.RowKit

theorem drewN_sm (w : World) (q : Nat) : Sm w (w.drewN q) := ⟨rfl, rfl, rfl, rfl⟩

set_option maxHeartbeats 1000000 in
theorem equal49 (a a' : Option Addr) (n c c' : Nat) (Z : Nat → Int) (w : World) (hn : n ≤ 140737488355328) (h : Row w a n Z) (h' : Row w a' n Z) :
    Calls Tryd.prog 49 #[.slice a n c, .slice a' n c'] w fun e w' => e = .returned (.bool true) ∧ ∃ q, w' = w.drewN q := by
  obtain ⟨b, o, ha, hc⟩ := h
  obtain ⟨b', o', ha', hc'⟩ := h'
  have HC := hid hc
  have HC' := hid hc'
  clear hc hc'
  go_enter Tryd.func49, Tryd.ntmps49
  go_wp2
  go_loopw [13] (fun i wr => ∃ k : Nat, k ≤ n ∧ i = .int .i64 k ∧ ∃ q, wr = w.drewN q) (fun i _ => n - (intOf i).toNat)
  case atStart => exact ⟨0, Nat.zero_le _, rfl, 0, rfl⟩
  case round =>
    obtain ⟨k, hk, rfl, q, rfl⟩ := hrel
    by_cases hlt : k < n
    · obtain rfl := ha (by omega)
      obtain rfl := ha' (by omega)
      have hck := HC.out k hlt
      have hck' := HC'.out k hlt
      have hzk : (k : Int) < n := by omega
      have hb : (Z k != Z k) = false := by simp
      clear ha ha'
      go_wp2
      go_quiet (fail)
      go_wp2
      go_roundw
      case rel => exact ⟨k + 1, by omega, by go_num, _, rfl⟩
      case measure => simp [intOf]; omega
    · go_wp2
      go_ret
      exact ⟨rfl, q, rfl⟩

set_option maxHeartbeats 1000000 in
theorem equal50 (a a' : Option Addr) (n c c' : Nat) (Z : Nat → Int) (w : World) (hn : n ≤ 140737488355328) (h : RowU w a n Z) (h' : RowU w a' n Z) :
    Calls Tryd.prog 50 #[.slice a n c, .slice a' n c'] w fun e w' => e = .returned (.bool true) ∧ ∃ q, w' = w.drewN q := by
  obtain ⟨b, o, ha, hc⟩ := h
  obtain ⟨b', o', ha', hc'⟩ := h'
  have HC := hid hc
  have HC' := hid hc'
  clear hc hc'
  go_enter Tryd.func50, Tryd.ntmps50
  go_wp2
  go_loopw [13] (fun i wr => ∃ k : Nat, k ≤ n ∧ i = .int .i64 k ∧ ∃ q, wr = w.drewN q) (fun i _ => n - (intOf i).toNat)
  case atStart => exact ⟨0, Nat.zero_le _, rfl, 0, rfl⟩
  case round =>
    obtain ⟨k, hk, rfl, q, rfl⟩ := hrel
    by_cases hlt : k < n
    · obtain rfl := ha (by omega)
      obtain rfl := ha' (by omega)
      have hck := HC.out k hlt
      have hck' := HC'.out k hlt
      have hzk : (k : Int) < n := by omega
      have hb : (Z k != Z k) = false := by simp
      clear ha ha'
      go_wp2
      go_quiet (fail)
      go_wp2
      go_roundw
      case rel => exact ⟨k + 1, by omega, by go_num, _, rfl⟩
      case measure => simp [intOf]; omega
    · go_wp2
      go_ret
      exact ⟨rfl, q, rfl⟩

theorem Row.sm {w w' : World} {a : Option Addr} {n : Nat} {Z : Nat → Int} (h : Row w a n Z) (hs : Sm w w') : Row w' a n Z := h.below (hs.below _)
set_option maxHeartbeats 1000000 in
theorem equalF48 (a a' : Option Addr) (G c c' : Nat) (L : Nat → Nat) (Z : Nat → Nat → Int) (w : World) (hG : G ≤ 140737488355328) (hL : ∀ r, r < G → L r ≤ 140737488355328) (h : Gr w a G L Z) (h' : Gr w a' G L Z) :
    Calls Tryd.prog 48 #[.slice a G c, .slice a' G c', .func (.func 49) #[] #[]] w fun e w' => e = .returned (.bool true) ∧ ∃ q, w' = w.drewN q := by
  obtain ⟨b, o, ha, hc⟩ := h
  obtain ⟨b', o', ha', hc'⟩ := h'
  have HC := hid hc
  have HC' := hid hc'
  have HL := hid hL
  clear hc hc' hL
  go_enter Tryd.func48, Tryd.ntmps48
  go_wp2
  go_loopw [17] (fun i wr => ∃ k : Nat, k ≤ G ∧ i = .int .i64 k ∧ ∃ q, wr = w.drewN q) (fun i _ => G - (intOf i).toNat)
  case atStart => exact ⟨0, Nat.zero_le _, rfl, 0, rfl⟩
  case round =>
    obtain ⟨k, hk, rfl, q, rfl⟩ := hrel
    by_cases hlt : k < G
    · obtain rfl := ha (by omega)
      obtain rfl := ha' (by omega)
      obtain ⟨a1, c1, hck, hr1⟩ := HC.out k hlt
      obtain ⟨a2, c2, hck', hr2⟩ := HC'.out k hlt
      have hzk : (k : Int) < G := by omega
      have C := hid (equal49 a1 a2 (L k) c1 c2 (Z k) (w.drewN q) (HL.out k hlt) (hr1.sm (drewN_sm w q)) (hr2.sm (drewN_sm w q)))
      clear ha ha' hr1 hr2
      go_wp2_with fail
      refine C.out.mono ?_
      rintro e w1 ⟨rfl, q1, rfl⟩
      go_wp2
      go_roundw
      case rel => exact ⟨k + 1, by omega, by go_num, _, rfl⟩
      case measure => simp [intOf]; omega
    · go_wp2
      go_ret
      exact ⟨rfl, q, rfl⟩

theorem lists47 (a a' : Option Addr) (G c c' : Nat) (L : Nat → Nat) (Z : Nat → Nat → Int) (w : World) (hG : G ≤ 140737488355328) (hL : ∀ r, r < G → L r ≤ 140737488355328) (h : Gr w a G L Z) (h' : Gr w a' G L Z) :
    Calls Tryd.prog 47 #[.slice a G c, .slice a' G c'] w fun e w' => e = .returned (.bool true) ∧ ∃ q, w' = w.drewN q := by
  have C := hid (equalF48 a a' G c c' L Z w hG hL h h')
  clear h h' hL
  go_enter Tryd.func47, Tryd.ntmps47
  go_wp2_with fail
  refine C.out.mono ?_
  rintro e w' ⟨rfl, q, rfl⟩
  go_wp2
  go_ret
  exact ⟨rfl, q, rfl⟩

/-- Two automata that hold the same. -/
structure Sme (A B : Ax) : Prop where
  sn : B.sn = A.sn
  S : B.S = A.S
  G : B.G = A.G
  L : B.L = A.L
  Z : B.Z = A.Z
  M : B.M = A.M
  Mu : B.Mu = A.Mu
  O : B.O = A.O
  No : B.No = A.No
  K : B.K = A.K
  FL : B.FL = A.FL
  FZ : B.FZ = A.FZ

set_option maxRecDepth 100000 in
set_option maxHeartbeats 4000000 in
theorem same_any (A B : Ax) (w : World) (hA : Aw w A) (hB : Aw w B) (hs : Sme A B) :
    Calls Tryd.prog 14 #[A.val, B.val] w fun e w' => e = .returned (.bool true) ∧ Below w.heap.size w w' := by
  obtain ⟨sa, sn, sc, na, G, nc, ma, M, mc, oa, O, oc, fa, K, fc, S, L, Z, Mu, No, FL, FZ⟩ := A
  obtain ⟨sa', sn', sc', na', G', nc', ma', M', mc', oa', O', oc', fa', K', fc', S', L', Z', Mu', No', FL', FZ'⟩ := B
  obtain ⟨e1, e2, e3, e4, e5, e6, e7, e8, e9, e10, e11, e12⟩ := hs
  dsimp only [Ax.val] at *
  subst e1 e2 e3 e4 e5 e6 e7 e8 e9 e10 e11 e12
  have C1 := hid (fun (z : World) (hz : Below w.heap.size w z) => equal49 sa sa' sn' sc sc' S' z hA.s47 (hA.start.below hz) (hB.start.below hz))
  have C2 := hid (fun (z : World) (hz : Below w.heap.size w z) => lists47 na na' G' nc nc' L' Z' z hA.g47 hA.l47 (hA.next.below hz) (hB.next.below hz))
  have C3 := hid (fun (z : World) (hz : Below w.heap.size w z) => equal50 ma ma' M' mc mc' _ z hA.m47 (hA.must.below hz) (hB.must.below hz))
  have C4 := hid (fun (z : World) (hz : Below w.heap.size w z) => equal50 oa oa' O' oc oc' _ z hA.o47 (hA.nots.below hz) (hB.nots.below hz))
  have C5 := hid (fun (z : World) (hz : Below w.heap.size w z) => lists47 fa fa' K' fc fc' FL' FZ' z hA.k47 hA.f47 (hA.fair.below hz) (hB.fair.below hz))
  obtain ⟨W1, hW1, hb1, r⟩ : ∃ W1, (w.alloc (.cells #[.slice sa sn' sc, .slice na G' nc, .slice ma M' mc, .slice oa O' oc, .slice fa K' fc] 26)).alloc (.cells #[.slice sa' sn' sc', .slice na' G' nc', .slice ma' M' mc', .slice oa' O' oc', .slice fa' K' fc'] 26) = W1 ∧ Below w.heap.size w W1 ∧
      ((W1.cell? ⟨w.heap.size, 0, none⟩ = some (.slice sa sn' sc) ∧ W1.cell? ⟨w.heap.size, 1, none⟩ = some (.slice na G' nc) ∧ W1.cell? ⟨w.heap.size, 2, none⟩ = some (.slice ma M' mc) ∧ W1.cell? ⟨w.heap.size, 3, none⟩ = some (.slice oa O' oc) ∧ W1.cell? ⟨w.heap.size, 4, none⟩ = some (.slice fa K' fc)) ∧
      (W1.cell? ⟨w.heap.size + 1, 0, none⟩ = some (.slice sa' sn' sc') ∧ W1.cell? ⟨w.heap.size + 1, 1, none⟩ = some (.slice na' G' nc') ∧ W1.cell? ⟨w.heap.size + 1, 2, none⟩ = some (.slice ma' M' mc') ∧ W1.cell? ⟨w.heap.size + 1, 3, none⟩ = some (.slice oa' O' oc') ∧ W1.cell? ⟨w.heap.size + 1, 4, none⟩ = some (.slice fa' K' fc'))) := by
    have b1 := box_below w (.cells #[.slice sa sn' sc, .slice na G' nc, .slice ma M' mc, .slice oa O' oc, .slice fa K' fc] 26)
    have s1 : (w.alloc (.cells #[.slice sa sn' sc, .slice na G' nc, .slice ma M' mc, .slice oa O' oc, .slice fa K' fc] 26)).heap.size = w.heap.size + 1 := by simp
    have n1 : (w.alloc (.cells #[.slice sa sn' sc, .slice na G' nc, .slice ma M' mc, .slice oa O' oc, .slice fa K' fc] 26)).heap[w.heap.size]? = some (.cells #[.slice sa sn' sc, .slice na G' nc, .slice ma M' mc, .slice oa O' oc, .slice fa K' fc] 26) := Go.Deep.blk_alloc_new _ _
    generalize w.alloc (.cells #[.slice sa sn' sc, .slice na G' nc, .slice ma M' mc, .slice oa O' oc, .slice fa K' fc] 26) = V1 at *
    have b2 := box_below V1 (.cells #[.slice sa' sn' sc', .slice na' G' nc', .slice ma' M' mc', .slice oa' O' oc', .slice fa' K' fc'] 26)
    have n2 : (V1.alloc (.cells #[.slice sa' sn' sc', .slice na' G' nc', .slice ma' M' mc', .slice oa' O' oc', .slice fa' K' fc'] 26)).heap[V1.heap.size]? = some (.cells #[.slice sa' sn' sc', .slice na' G' nc', .slice ma' M' mc', .slice oa' O' oc', .slice fa' K' fc'] 26) := Go.Deep.blk_alloc_new _ _
    rw [s1] at n2
    have n1' := (b2.block _ (Array.getElem?_eq_some_iff.1 n1).1).trans n1
    exact ⟨_, rfl, b1.trans (b2.mono (by omega)), ⟨cell_of_cells n1' rfl, cell_of_cells n1' rfl, cell_of_cells n1' rfl, cell_of_cells n1' rfl, cell_of_cells n1' rfl⟩, ⟨cell_of_cells n2 rfl, cell_of_cells n2 rfl, cell_of_cells n2 rfl, cell_of_cells n2 rfl, cell_of_cells n2 rfl⟩⟩
  obtain ⟨⟨x0, x1, x2, x3, x4⟩, ⟨y0, y1, y2, y3, y4⟩⟩ := r
  have HB1 := hid hb1
  clear hA hB hb1
  go_enter Tryd.func14, Tryd.ntmps14
  go_wp2_with fail
  refine (C1.out _ HB1.out).mono ?_
  rintro e w2 ⟨rfl, q2, rfl⟩
  go_wp2_with fail
  refine (C2.out _ (HB1.out.trans ((drewN_sm W1 _).below _))).mono ?_
  rintro e w2 ⟨rfl, q3, rfl⟩
  go_wp2_with fail
  refine (C3.out _ (HB1.out.trans ((drewN_sm W1 _).below _))).mono ?_
  rintro e w2 ⟨rfl, q4, rfl⟩
  go_wp2_with fail
  refine (C4.out _ (HB1.out.trans ((drewN_sm W1 _).below _))).mono ?_
  rintro e w2 ⟨rfl, q5, rfl⟩
  go_wp2_with fail
  refine (C5.out _ (HB1.out.trans ((drewN_sm W1 _).below _))).mono ?_
  rintro e w2 ⟨rfl, q6, rfl⟩
  go_wp2
  go_ret
  exact ⟨rfl, HB1.out.trans ((drewN_sm W1 _).below _)⟩

end Go.Proofs.YtdncjikmknkkpaaDoor

