/- Is a step among edges; labels; enabledAt. -/
import Derived.Test.YthpbgfodejoecaaTld
namespace Go.Proofs.Ythpbgfodejoecaa
open Go.RowKit

theorem box2 (w : World) (x y : Int) : ∃ W, w.alloc (.cells #[.int .i64 x, .int .i64 y] 44) = W ∧ Below w.heap.size w W ∧ W.heap.size = w.heap.size + 1 ∧
    W.cell? ⟨w.heap.size, 0, none⟩ = some (.int .i64 x) ∧ W.cell? ⟨w.heap.size, 1, none⟩ = some (.int .i64 y) :=
  ⟨_, rfl, box_below _ _, by simp, cell_of_alloc rfl, cell_of_alloc rfl⟩

theorem below_c {w w' : World} {p : Addr} {v : Value} (hb : Below w.heap.size w w') (h : w.cell? p = some v) : w'.cell? p = some v := (hb.cell (World.block_lt_of_cell? _ _ h)).trans h

set_option maxHeartbeats 1000000 in
theorem stepIs88 (x y q : Int) (cb : Nat) (w : World) (h : w.cell? ⟨cb, 0, none⟩ = some (.int .i64 q)) :
    Calls Try.prog 88 #[.agg #[.int .i64 x, .int .i64 y], .pointer (some ⟨cb, 0, none⟩)] w fun e w' => e = .returned (.bool (decide (x = q))) ∧ Below w.heap.size w w' := by
  obtain ⟨W2, hW2, hb2, hs2, p0, p1⟩ := box2 w x y
  have p2 := below_c hb2 h
  have HB := hid hb2
  by_cases e : x = q
  · have h1 : (x == q) = true := beq_iff_eq.2 e
    have E : Hid (decide (x = q) = true) := hid (decide_eq_true e)
    clear hb2 h e
    go_enter Try.func88, Try.ntmps88
    go_wp2
    go_ret
    exact ⟨ret_bool E.out.symm, HB.out⟩
  · have h1 : (x == q) = false := beq_eq_false_iff_ne.2 e
    have E : Hid (decide (x = q) = false) := hid (decide_eq_false e)
    clear hb2 h e
    go_enter Try.func88, Try.ntmps88
    go_wp2
    go_ret
    exact ⟨ret_bool E.out.symm, HB.out⟩

set_option maxHeartbeats 1000000 in
theorem stepIs36 (x y q : Int) (cb : Nat) (w : World) (h : w.cell? ⟨cb, 0, none⟩ = some (.int .i64 q)) :
    Calls Try.prog 36 #[.agg #[.int .i64 x, .int .i64 y], .pointer (some ⟨cb, 0, none⟩)] w fun e w' => e = .returned (.bool (decide (x = q))) ∧ Below w.heap.size w w' := by
  obtain ⟨W2, hW2, hb2, hs2, p0, p1⟩ := box2 w x y
  have p2 := below_c hb2 h
  have HB := hid hb2
  by_cases e : x = q
  · have h1 : (x == q) = true := beq_iff_eq.2 e
    have E : Hid (decide (x = q) = true) := hid (decide_eq_true e)
    clear hb2 h e
    go_enter Try.func36, Try.ntmps36
    go_wp2
    go_ret
    exact ⟨ret_bool E.out.symm, HB.out⟩
  · have h1 : (x == q) = false := beq_eq_false_iff_ne.2 e
    have E : Hid (decide (x = q) = false) := hid (decide_eq_false e)
    clear hb2 h e
    go_enter Try.func36, Try.ntmps36
    go_wp2
    go_ret
    exact ⟨ret_bool E.out.symm, HB.out⟩

set_option maxHeartbeats 2000000 in
theorem idxE_any (a : Option Addr) (n c fn cb : Nat) (S Z : Nat → Int) (q : Int) (w : World) (hn : n ≤ 140737488355328) (h : Fls w a n S Z) (hf : fn = 88 ∨ fn = 36) (hq : w.cell? ⟨cb, 0, none⟩ = some (.int .i64 q)) :
    Calls Try.prog 57 #[.slice a n c, .func (.func fn) #[] #[.pointer (some ⟨cb, 0, none⟩)]] w fun e w' => (∃ r : Int, e = .returned (.int .i64 r) ∧ ((0 ≤ r ∧ has n S q = true) ∨ (r = -1 ∧ has n S q = false))) ∧ Below w.heap.size w w' := by
  obtain ⟨b, o, ha, hc⟩ := h
  have HC := hid hc
  have HQ := hid hq
  clear hc hq
  rcases hf with rfl | rfl
  · go_enter Try.func57, Try.ntmps57
    go_wp2
    go_loopw [8] (fun i wr => ∃ k : Nat, k ≤ n ∧ i = .int .i64 k ∧ Hid (Below w.heap.size w wr ∧ ∀ j, j < k → S j ≠ q)) (fun i _ => n - (intOf i).toNat)
    case atStart => exact ⟨0, by omega, rfl, hid ⟨Below.refl _ _, fun j hj => by omega⟩⟩
    case round =>
      obtain ⟨k, hk, rfl, H⟩ := hrel
      by_cases hlt : k < n
      · obtain rfl := ha (by omega)
        obtain ⟨q0, q1⟩ := HC.out k hlt
        have q0 := below_c H.out.1 q0
        have q1 := below_c H.out.1 q1
        have C := hid (stepIs88 (S k) (Z k) q cb wr (below_c H.out.1 HQ.out))
        by_cases e : S k = q
        · have E := hid e
          rw [show decide (S k = q) = true from decide_eq_true e] at C
          clear e
          go_wp2_with fail
          refine C.out.mono ?_
          rintro e w' ⟨rfl, hb'⟩
          have HB := hid (H.out.1.trans (hb'.mono H.out.1.size))
          clear hb' q0 q1
          go_wp2
          go_ret
          exact ⟨⟨_, rfl, Or.inl ⟨by omega, decide_eq_true ⟨k, hlt, E.out⟩⟩⟩, HB.out⟩
        · have E := hid e
          rw [show decide (S k = q) = false from decide_eq_false e] at C
          clear e
          go_wp2_with fail
          refine C.out.mono ?_
          rintro e w' ⟨rfl, hb'⟩
          have HB := hid (H.out.1.trans (hb'.mono H.out.1.size))
          clear hb' q0 q1
          go_wp2
          go_roundw
          case rel => exact ⟨k + 1, by omega, by go_num, hid ⟨HB.out, snoc_all H.out.2 E.out⟩⟩
          case measure => simp [intOf]; omega
      · obtain rfl : n = k := by omega
        go_wp2
        go_ret
        exact ⟨⟨-1, rfl, Or.inr ⟨rfl, has_no H.out.2⟩⟩, H.out.1⟩
  · go_enter Try.func57, Try.ntmps57
    go_wp2
    go_loopw [8] (fun i wr => ∃ k : Nat, k ≤ n ∧ i = .int .i64 k ∧ Hid (Below w.heap.size w wr ∧ ∀ j, j < k → S j ≠ q)) (fun i _ => n - (intOf i).toNat)
    case atStart => exact ⟨0, by omega, rfl, hid ⟨Below.refl _ _, fun j hj => by omega⟩⟩
    case round =>
      obtain ⟨k, hk, rfl, H⟩ := hrel
      by_cases hlt : k < n
      · obtain rfl := ha (by omega)
        obtain ⟨q0, q1⟩ := HC.out k hlt
        have q0 := below_c H.out.1 q0
        have q1 := below_c H.out.1 q1
        have C := hid (stepIs36 (S k) (Z k) q cb wr (below_c H.out.1 HQ.out))
        by_cases e : S k = q
        · have E := hid e
          rw [show decide (S k = q) = true from decide_eq_true e] at C
          clear e
          go_wp2_with fail
          refine C.out.mono ?_
          rintro e w' ⟨rfl, hb'⟩
          have HB := hid (H.out.1.trans (hb'.mono H.out.1.size))
          clear hb' q0 q1
          go_wp2
          go_ret
          exact ⟨⟨_, rfl, Or.inl ⟨by omega, decide_eq_true ⟨k, hlt, E.out⟩⟩⟩, HB.out⟩
        · have E := hid e
          rw [show decide (S k = q) = false from decide_eq_false e] at C
          clear e
          go_wp2_with fail
          refine C.out.mono ?_
          rintro e w' ⟨rfl, hb'⟩
          have HB := hid (H.out.1.trans (hb'.mono H.out.1.size))
          clear hb' q0 q1
          go_wp2
          go_roundw
          case rel => exact ⟨k + 1, by omega, by go_num, hid ⟨HB.out, snoc_all H.out.2 E.out⟩⟩
          case measure => simp [intOf]; omega
      · obtain rfl : n = k := by omega
        go_wp2
        go_ret
        exact ⟨⟨-1, rfl, Or.inr ⟨rfl, has_no H.out.2⟩⟩, H.out.1⟩

set_option maxHeartbeats 1000000 in
theorem hasE_any (a : Option Addr) (n c fn cb : Nat) (S Z : Nat → Int) (q : Int) (w : World) (hn : n ≤ 140737488355328) (h : Fls w a n S Z) (hf : fn = 88 ∨ fn = 36) (hq : w.cell? ⟨cb, 0, none⟩ = some (.int .i64 q)) :
    Calls Try.prog 35 #[.slice a n c, .func (.func fn) #[] #[.pointer (some ⟨cb, 0, none⟩)]] w fun e w' => e = .returned (.bool (has n S q)) ∧ Below w.heap.size w w' := by
  have C := hid (idxE_any a n c fn cb S Z q w hn h hf hq)
  clear h hf hq
  go_enter Try.func35, Try.ntmps35
  go_wp2_with fail
  refine C.out.mono ?_
  rintro e w' ⟨⟨r, rfl, hr⟩, hb⟩
  have HB := hid hb
  clear hb
  rcases hr with ⟨h1, h2⟩ | ⟨rfl, h2⟩
  · have E := hid h2
    clear h2
    go_wp2
    go_ret
    exact ⟨ret_bool E.out.symm, HB.out⟩
  · have E := hid h2
    clear h2
    go_wp2
    go_ret
    exact ⟨ret_bool E.out.symm, HB.out⟩

theorem lbF_made (w : World) (n : Nat) (l : List St3) (T : Nat → St3) : (w.alloc (.cells (madeCells #[.int .u64 0] n) 57)).rowIs w.heap.size 57 n (lbF l T 0) :=
  (World.rowIs_made w _ n 57).congr (fun i hi => by unfold lbF; rw [if_neg (by omega)])

theorem lbF_set {w : World} {b n k : Nat} {l : List St3} {T : Nat → St3} (h : w.rowIs b 57 n (lbF l T k)) : (w.setCell ⟨b, k, none⟩ (.int .u64 (lbN l (T k) : Int))).rowIs b 57 n (lbF l T (k + 1)) :=
  (h.set k _).congr (fun i hi => by
    by_cases e : i = k
    · subst e
      rw [if_pos rfl]
      unfold lbF
      rw [if_pos (by omega)]
    · rw [if_neg e]
      unfold lbF
      by_cases h3 : i < k
      · rw [if_pos h3, if_pos (show i < k + 1 by omega)]
      · rw [if_neg h3, if_neg (show ¬ i < k + 1 by omega)])

theorem Try.info57 : (Try.prog.info? 57).map (fun i => (i.zero, i.size, i.bytes)) = some (some (.int .u64 0), 1, 8) := by kernel_rfl

theorem wrap_two : ∀ {g : Nat}, g < 20 → IntKind.u64.wrap (2 ^ g) = ((2 ^ g : Nat) : Int) := by decide

set_option maxHeartbeats 2000000 in
theorem labels_any (a la : Option Addr) (n c ln lc : Nat) (T : Nat → St3) (l : List St3) (w : World) (hn : n ≤ 600) (h : Sts w a n T) (hl : Sts w la ln (fun i => l.getD i (0, 0, 0))) (hln : ln = l.length) (h20 : ∀ i, i < l.length → 0 ≤ (l.getD i (0, 0, 0)).1 ∧ (l.getD i (0, 0, 0)).1 < 20) (hS : ∀ i, i < n → (T i).2.1 = -1 ∨ (0 ≤ (T i).2.1 ∧ (T i).2.1 < ln)) :
    Calls Try.prog 25 #[.slice a n c, .slice la ln lc] w fun e w' => e = .returned (.slice (some ⟨w.heap.size, 0, none⟩) n n) ∧ Below w.heap.size w w' ∧ w'.rowIs w.heap.size 57 n (lbF l T n) := by
  have hmk := run_make_row' (P := Try.prog) 28 57 (.int .u64 0) 8 Try.underlying28 Try.info57 rfl .i64 .i64 n (by omega) (by omega)
  obtain ⟨b, o, ha, hc⟩ := h
  obtain ⟨b', o', ha', hc'⟩ := hl
  have HC := hid hc
  have HC' := hid hc'
  have HL := hid hln
  have H20 := hid h20
  have HS0 := hid hS
  clear hc hc' hln h20 hS
  go_enter Try.func25, Try.ntmps25
  go_wp2
  clear hmk
  go_loopw [14] (fun i wr => ∃ k : Nat, k ≤ n ∧ i = .int .i64 k ∧ Hid (Below w.heap.size w wr ∧ wr.rowIs w.heap.size 57 n (lbF l T k))) (fun i _ => n - (intOf i).toNat)
  case atStart => exact ⟨0, Nat.zero_le _, rfl, hid ⟨box_below _ _, lbF_made _ _ _ _⟩⟩
  case round =>
    obtain ⟨k, hk, rfl, HS⟩ := hrel
    by_cases hlt : k < n
    · obtain rfl := ha (by omega)
      obtain ⟨q0, q1, q2⟩ := Sts.at HC.out HS.out.1 hlt
      obtain ⟨W2, hW2, hb2, hs2, p0, p1, p2⟩ := box3 wr (T k)
      have HR : Hid (W2.rowIs w.heap.size 57 n (lbF l T k)) := hid (by rw [← hW2]; exact HS.out.2.alloc _)
      have HB : Hid (Below w.heap.size w W2) := hid (HS.out.1.trans (hb2.mono HS.out.1.size))
      have r0 := HR.out.cell (i := k) hlt
      have f0 := HR.out.frozen k
      have hnx : lbF l T k k = .int .u64 0 := by unfold lbF; rw [if_neg (by omega)]
      rw [hnx] at r0
      have hs := HS0.out k hlt
      obtain ⟨t, ht⟩ : ∃ t, t = T k := ⟨_, rfl⟩
      rw [← ht] at q0 q1 q2 p0 p1 p2 hW2 hs
      have HT := hid ht
      clear ht hb2 hnx
      rcases hs with hs | hs
      · have hz : (t.2.1 != -1) = false := by rw [hs]; rfl
        have HL1 : Hid (lbN l (T k) = 9223372036854775808) := hid (by rw [← HT.out]; unfold lbN; rw [if_pos hs])
        clear hs
        go_wp2
        go_roundw
        case rel => exact ⟨k + 1, by omega, by go_num, hid ⟨(HB.out.setCell (Nat.le_refl _) _), by
          have := lbF_set HR.out
          rw [HL1.out] at this
          exact this⟩⟩
        case measure => simp [intOf]; omega
      · have hz : (t.2.1 != -1) = true := by rw [bne_iff_ne]; omega
        obtain ⟨s, hs1⟩ : ∃ s : Nat, t.2.1 = s := ⟨t.2.1.toNat, by omega⟩
        have hsl : s < ln := by omega
        obtain ⟨z0, z1, z2⟩ := HC'.out s hsl
        obtain rfl := ha' (by omega)
        have z0 := below_c HB.out z0
        obtain ⟨g, hg, h64⟩ : ∃ g : Nat, (l.getD s (0, 0, 0)).1 = g ∧ g < 20 := ⟨((l.getD s (0, 0, 0)).1).toNat, by have := H20.out s (by rw [← HL.out]; exact hsl); omega, by have := H20.out s (by rw [← HL.out]; exact hsl); omega⟩
        rw [hg] at z0
        have HL1 : Hid (lbN l (T k) = 2 ^ g) := hid (by rw [← HT.out]; unfold lbN; rw [if_neg (by omega), hs1, Int.toNat_natCast, hg, Int.toNat_natCast])
        rw [hs1] at q1 p1 hz hW2
        clear hs hs1 z1 z2 hg
        go_wp2
        go_roundw
        case rel => exact ⟨k + 1, by omega, by go_num, hid ⟨(HB.out.setCell (Nat.le_refl _) _), by
          have := lbF_set HR.out
          rw [HL1.out] at this
          rw [wrap_two h64]
          exact this⟩⟩
        case measure => simp [intOf]; omega
    · obtain rfl : n = k := by omega
      go_wp2
      go_ret
      exact ⟨rfl, HS.out.1, HS.out.2⟩

/-- Of each marking: is the step enabled there? -/
def ebF (L : Nat → Nat) (S : Nat → Nat → Int) (q : Int) (k j : Nat) : Value := .bool (if j < k then has (L j) (S j) q else false)


theorem ebF_made (w : World) (n : Nat) (L : Nat → Nat) (S : Nat → Nat → Int) (q : Int) : (w.alloc (.cells (madeCells #[.bool false] n) 4)).rowIs w.heap.size 4 n (ebF L S q 0) :=
  (World.rowIs_made w _ n 4).congr (fun i hi => by unfold ebF; rw [if_neg (by omega)])

theorem ebF_set {w : World} {b n k : Nat} {L : Nat → Nat} {S : Nat → Nat → Int} {q : Int} (h : w.rowIs b 4 n (ebF L S q k)) : (w.setCell ⟨b, k, none⟩ (.bool (has (L k) (S k) q))).rowIs b 4 n (ebF L S q (k + 1)) :=
  (h.set k _).congr (fun i hi => by
    by_cases e : i = k
    · subst e
      rw [if_pos rfl]
      unfold ebF
      rw [if_pos (by omega)]
    · rw [if_neg e]
      unfold ebF
      by_cases h3 : i < k
      · rw [if_pos h3, if_pos (show i < k + 1 by omega)]
      · rw [if_neg h3, if_neg (show ¬ i < k + 1 by omega)])

set_option maxHeartbeats 2000000 in
theorem enabledAt_any (ma xa : Option Addr) (ml mc G xc : Nat) (L : Nat → Nat) (S Z : Nat → Nat → Int) (q : Int) (w : World) (hG : G ≤ 200) (h60 : ∀ r, r < G → L r ≤ 60) (h : Egs w xa G L S Z) :
    Calls Try.prog 52 #[.agg #[.slice ma ml mc, .slice xa G xc], .int .i64 q] w fun e w' => ∃ b, e = .returned (.slice (some ⟨b, 0, none⟩) G G) ∧ Hid (Below w.heap.size w w' ∧ w.heap.size ≤ b ∧ w'.rowIs b 4 G (ebF L S q G)) := by
  have hmk := run_make_row' (P := Try.prog) 48 4 (.bool false) 1 Try.underlying48 Try.info4 rfl .i64 .i64 G (by omega) (by omega)
  obtain ⟨W, eW⟩ : ∃ x, x = (w.alloc (.cells #[.slice ma ml mc, .slice xa G xc] 37)).alloc (.cells #[.int .i64 q] 3) := ⟨_, rfl⟩
  have e1 : (w.alloc (.cells #[.slice ma ml mc, .slice xa G xc] 37)).heap.size = w.heap.size + 1 := by simp
  have HW : Hid (Below w.heap.size w W ∧ W.heap.size = w.heap.size + 1 + 1) := by
    subst eW
    exact ⟨(box_below _ _).trans ((box_below _ _).mono (by simp)), by simp⟩
  have hc1 : W.cell? ⟨w.heap.size, 1, none⟩ = some (.slice xa G xc) := by
    subst eW
    exact below_c (box_below _ _) (cell_of_alloc rfl)
  have hq : W.cell? ⟨w.heap.size + 1, 0, none⟩ = some (.int .i64 q) := by
    subst eW
    rw [← e1]
    exact cell_of_alloc rfl
  have HEW : (w.alloc (.cells #[.slice ma ml mc, .slice xa G xc] 37)).alloc (.cells #[.int .i64 q] 3) = W := eW.symm
  obtain ⟨b, o, ha, hc⟩ := h.below HW.out.1
  have HC := hid hc
  have H60 := hid h60
  have HQ := hid hq
  obtain ⟨W3, hW3⟩ : ∃ W3, W.alloc (.cells (madeCells #[.bool false] G) 4) = W3 := ⟨_, rfl⟩
  have hc3 : W3.cell? ⟨w.heap.size, 1, none⟩ = some (.slice xa G xc) := by subst hW3; exact below_c (box_below _ _) hc1
  have HM0 : Hid (Below W.heap.size W W3 ∧ W3.rowIs W.heap.size 4 G (ebF L S q 0)) := hid (by subst hW3; exact ⟨box_below _ _, ebF_made W G L S q⟩)
  clear eW hc h60 h hq e1
  go_enter Try.func52, Try.ntmps52
  go_wp2
  clear hmk
  go_loopw [15] (fun i wr => ∃ k : Nat, k ≤ G ∧ i = .int .i64 k ∧ Hid (Below W.heap.size W wr ∧ wr.rowIs W.heap.size 4 G (ebF L S q k))) (fun i _ => G - (intOf i).toNat)
  case atStart => exact ⟨0, Nat.zero_le _, rfl, HM0⟩
  case round =>
    obtain ⟨k, hk, rfl, HS⟩ := hrel
    by_cases hlt : k < G
    · obtain rfl := ha (by omega)
      obtain ⟨a1, c1, hck, hr1⟩ := HC.out k hlt
      have hck := below_c HS.out.1 hck
      have C := hid (hasE_any a1 (L k) c1 88 (w.heap.size + 1) (S k) (Z k) q wr (by have := H60.out k hlt; omega) (hr1.below HS.out.1) (Or.inl rfl) (below_c HS.out.1 HQ.out))
      clear hr1
      go_wp2_with fail
      refine C.out.mono ?_
      rintro e w2 ⟨rfl, hb2⟩
      have HR : Hid (w2.rowIs W.heap.size 4 G (ebF L S q k)) := hid (HS.out.2.of_block (hb2.block _ HS.out.2.lt))
      have HB : Hid (Below W.heap.size W w2) := hid (HS.out.1.trans (hb2.mono HS.out.1.size))
      have r0 := HR.out.cell hlt
      have f0 := HR.out.frozen k
      have hnx : ebF L S q k k = .bool false := by unfold ebF; rw [if_neg (by omega)]
      rw [hnx] at r0
      obtain ⟨x, hx⟩ : ∃ x, x = has (L k) (S k) q := ⟨_, rfl⟩
      rw [← hx]
      have HX := hid hx
      clear hx hnx hb2 C hck
      go_wp2
      go_roundw
      case rel => exact ⟨k + 1, by omega, by go_num, hid ⟨(HB.out.setCell (Nat.le_refl _) _), by
        rw [HX.out]
        exact ebF_set HR.out⟩⟩
      case measure => simp [intOf]; omega
    · obtain rfl : G = k := by omega
      go_wp2
      go_ret
      exact ⟨W.heap.size, rfl, hid ⟨HW.out.1.trans (HS.out.1.mono HW.out.1.size), HW.out.1.size, HS.out.2⟩⟩

end Go.Proofs.Ythpbgfodejoecaa
