/- slices.Contains, ContainsFunc over steps. -/
import Derived.Test.YtnpdkpbhkjnbhaaStepsEq
namespace Go.Proofs.Ytnpdkpbhkjnbhaa
open Go.RowKit

theorem ne_parts {x y : St3} (h : x ≠ y) : ¬ (x.1 = y.1 ∧ x.2.1 = y.2.1 ∧ x.2.2 = y.2.2) := fun ⟨h1, h2, h3⟩ => h (by
  obtain ⟨a, b, c⟩ := x
  obtain ⟨d, e, f⟩ := y
  simp only at h1 h2 h3
  subst h1; subst h2; subst h3
  rfl)

set_option maxHeartbeats 1000000 in
theorem indexSt_any (a : Option Addr) (n c : Nat) (X : Nat → St3) (t : St3) (w : World) (hn : n ≤ 1000) (h : Sts w a n X) (hne : ∀ i, i < n → X i ≠ t) :
    Calls Try.prog 21 #[.slice a n c, .agg #[.int .i64 t.1, .int .i64 t.2.1, .int .i64 t.2.2]] w fun e w' => e = .returned (.int .i64 (-1)) ∧ Below w.heap.size w w' := by
  obtain ⟨b, o, ha, hc⟩ := h
  have HC : Hid (∀ i, i < n → w.cell? ⟨b, o + i * 3, none⟩ = some (.int .i64 (X i).1) ∧ w.cell? ⟨b, o + i * 3 + 1, none⟩ = some (.int .i64 (X i).2.1) ∧ w.cell? ⟨b, o + i * 3 + 2, none⟩ = some (.int .i64 (X i).2.2)) := hc
  have HN : Hid (∀ i, i < n → ¬ ((X i).1 = t.1 ∧ (X i).2.1 = t.2.1 ∧ (X i).2.2 = t.2.2)) := fun i hi => ne_parts (hne i hi)
  clear hc hne
  obtain ⟨t1, t2, t3⟩ := t
  obtain ⟨W, eW⟩ : ∃ x, x = w.alloc (.cells #[.int .i64 t1, .int .i64 t2, .int .i64 t3] 32) := ⟨_, rfl⟩
  have HW : Hid (Below w.heap.size w W ∧ W.heap.size = w.heap.size + 1) := by subst eW; exact ⟨box_below _ _, by simp⟩
  have hb1 : W.cell? ⟨w.heap.size, 0, none⟩ = some (.int .i64 t1) := by rw [eW]; exact cell_of_alloc rfl
  have hb2 : W.cell? ⟨w.heap.size, 1, none⟩ = some (.int .i64 t2) := by rw [eW]; exact cell_of_alloc rfl
  have hb3 : W.cell? ⟨w.heap.size, 2, none⟩ = some (.int .i64 t3) := by rw [eW]; exact cell_of_alloc rfl
  have HEW : Hid (w.alloc (.cells #[.int .i64 t1, .int .i64 t2, .int .i64 t3] 32) = W) := eW.symm
  clear eW
  go_enter Try.func21, Try.ntmps21
  go_wp2
  rw [HEW.out]
  go_loopw [8] (fun i wr => ∃ k : Nat, k ≤ n ∧ i = .int .i64 k ∧ ∃ q, wr = W.drewN q) (fun i _ => n - (intOf i).toNat)
  case atStart => exact ⟨0, Nat.zero_le _, rfl, 0, rfl⟩
  case round =>
    obtain ⟨k, hk, rfl, q, rfl⟩ := hrel
    by_cases hlt : k < n
    · obtain rfl := ha (by omega)
      obtain ⟨h1, h2, h3⟩ := Sts.at HC.out HW.out.1 hlt
      have hnk := HN.out k hlt
      have hzk : (k : Int) < n := by omega
      generalize (X k).1 = x1 at *
      generalize (X k).2.1 = x2 at *
      generalize (X k).2.2 = x3 at *
      clear ha
      by_cases e1 : t1 = x1
      · subst e1
        by_cases e2 : t2 = x2
        · subst e2
          have e3 : (t3 == x3) = false := beq_eq_false_iff_ne.2 (fun e => hnk ⟨rfl, rfl, e.symm⟩)
          clear hnk
          go_wp2
          go_quiet (fail)
          go_wp2
          go_roundw
          case rel => exact ⟨k + 1, by omega, by go_num, _, rfl⟩
          case measure => simp [intOf]; omega
        · have e3 : (t2 == x2) = false := beq_eq_false_iff_ne.2 e2
          clear hnk e2
          go_wp2
          go_quiet (fail)
          go_wp2
          go_roundw
          case rel => exact ⟨k + 1, by omega, by go_num, _, rfl⟩
          case measure => simp [intOf]; omega
      · have e3 : (t1 == x1) = false := beq_eq_false_iff_ne.2 e1
        clear hnk e1
        go_wp2
        go_quiet (fail)
        go_wp2
        go_roundw
        case rel => exact ⟨k + 1, by omega, by go_num, _, rfl⟩
        case measure => simp [intOf]; omega
    · go_wp2
      go_ret
      exact ⟨rfl, below_drewn HW.out.1 q⟩

theorem containsSt_any (a : Option Addr) (n c : Nat) (X : Nat → St3) (t : St3) (w : World) (hn : n ≤ 1000) (h : Sts w a n X) (hne : ∀ i, i < n → X i ≠ t) :
    Calls Try.prog 12 #[.slice a n c, .agg #[.int .i64 t.1, .int .i64 t.2.1, .int .i64 t.2.2]] w fun e w' => e = .returned (.bool false) ∧ Below w.heap.size w w' := by
  have C : Hid (∀ o : Obj, Calls Try.prog 21 #[.slice a n c, .agg #[.int .i64 t.1, .int .i64 t.2.1, .int .i64 t.2.2]] (w.alloc o) fun e w' => e = .returned (.int .i64 (-1)) ∧ Below w.heap.size w w') := fun o => by
    refine (indexSt_any a n c X t (w.alloc o) hn (h.below (box_below _ _)) hne).mono ?_
    rintro e w' ⟨rfl, hb⟩
    exact ⟨rfl, (box_below w o).trans (hb.mono (by simp))⟩
  clear h hne
  obtain ⟨t1, t2, t3⟩ := t
  go_enter Try.func12, Try.ntmps12
  go_wp2_with fail
  refine (C.out _).mono ?_
  rintro e w1 ⟨rfl, hb1⟩
  have HB1 : Hid (Below w.heap.size w w1) := hb1
  clear hb1 C
  go_wp2
  go_ret
  exact ⟨rfl, HB1.out⟩

theorem isOf_any (t : St3) (nb : Nat) (y : Int) (w : World) (hy : w.cell? ⟨nb, 0, none⟩ = some (.int .i64 y)) :
    Calls Try.prog 10 #[.agg #[.int .i64 t.1, .int .i64 t.2.1, .int .i64 t.2.2], .pointer (some ⟨nb, 0, none⟩)] w fun e w' => e = .returned (.bool (t.1 == y)) ∧ Below w.heap.size w w' := by
  obtain ⟨t1, t2, t3⟩ := t
  have hy' : (w.alloc (.cells #[.int .i64 t1, .int .i64 t2, .int .i64 t3] 32)).cell? ⟨nb, 0, none⟩ = some (.int .i64 y) := ((box_below w _).cell (p := ⟨nb, 0, none⟩) (World.block_lt_of_cell? _ _ hy)).trans hy
  clear hy
  go_enter Try.func10, Try.ntmps10
  go_wp2
  go_ret
  exact ⟨rfl, box_below _ _⟩

/-- The first of n steps that is of node y, or -1. -/
def NdIx (n : Nat) (X : Nat → St3) (y r : Int) : Prop := (r = -1 ∧ ∀ i, i < n → (X i).1 ≠ y) ∨ ∃ i : Nat, i < n ∧ (X i).1 = y ∧ r = i

set_option maxHeartbeats 1000000 in
theorem indexFSt_any (a : Option Addr) (n c : Nat) (X : Nat → St3) (nb : Nat) (y : Int) (w : World) (hn : n ≤ 1000) (h : Sts w a n X) (hy : w.cell? ⟨nb, 0, none⟩ = some (.int .i64 y)) :
    Calls Try.prog 18 #[.slice a n c, .func (Fn.func 10) #[] #[.pointer (some ⟨nb, 0, none⟩)]] w fun e w' => (∃ r, e = .returned (.int .i64 r) ∧ NdIx n X y r) ∧ Below w.heap.size w w' := by
  obtain ⟨b, o, ha, hc⟩ := h
  have HC : Hid (∀ i, i < n → w.cell? ⟨b, o + i * 3, none⟩ = some (.int .i64 (X i).1) ∧ w.cell? ⟨b, o + i * 3 + 1, none⟩ = some (.int .i64 (X i).2.1) ∧ w.cell? ⟨b, o + i * 3 + 2, none⟩ = some (.int .i64 (X i).2.2)) := hc
  have HY : Hid (w.cell? ⟨nb, 0, none⟩ = some (.int .i64 y)) := hy
  clear hc hy
  go_enter Try.func18, Try.ntmps18
  go_wp2
  go_loopw [8] (fun i wr => ∃ k : Nat, k ≤ n ∧ i = .int .i64 k ∧ Hid (Below w.heap.size w wr ∧ ∀ i, i < k → (X i).1 ≠ y)) (fun i _ => n - (intOf i).toNat)
  case atStart => exact ⟨0, Nat.zero_le _, rfl, hid ⟨Below.refl _ _, fun i hi => absurd hi (Nat.not_lt_zero _)⟩⟩
  case round =>
    obtain ⟨k, hk, rfl, HS⟩ := hrel
    by_cases hlt : k < n
    · obtain rfl := ha (by omega)
      obtain ⟨h1, h2, h3⟩ := Sts.at HC.out HS.out.1 hlt
      have hzk : (k : Int) < n := by omega
      have C : Hid (Calls Try.prog 10 #[.agg #[.int .i64 (X k).1, .int .i64 (X k).2.1, .int .i64 (X k).2.2], .pointer (some ⟨nb, 0, none⟩)] wr fun e w' => e = .returned (.bool ((X k).1 == y)) ∧ Below wr.heap.size wr w') :=
        isOf_any (X k) nb y wr ((HS.out.1.cell (p := ⟨nb, 0, none⟩) (World.block_lt_of_cell? _ _ HY.out)).trans HY.out)
      by_cases hX : (X k).1 = y
      · have HX : Hid ((X k).1 = y) := hX
        rw [beq_iff_eq.2 hX] at C
        clear hX
        generalize (X k).1 = x1 at h1 C
        generalize (X k).2.1 = x2 at h2 C
        generalize (X k).2.2 = x3 at h3 C
        go_wp2_with fail
        refine C.out.mono ?_
        rintro e w1 ⟨rfl, hb1⟩
        have HF : Hid (Below w.heap.size w w1) := HS.out.1.trans (hb1.mono HS.out.1.size)
        clear hb1 C
        go_wp2
        go_ret
        exact ⟨⟨_, rfl, Or.inr ⟨k, hlt, HX.out, rfl⟩⟩, HF.out⟩
      · have HX : Hid ((X k).1 ≠ y) := hX
        rw [beq_eq_false_iff_ne.2 hX] at C
        clear hX
        generalize (X k).1 = x1 at h1 C
        generalize (X k).2.1 = x2 at h2 C
        generalize (X k).2.2 = x3 at h3 C
        go_wp2_with fail
        refine C.out.mono ?_
        rintro e w1 ⟨rfl, hb1⟩
        have HF : Hid (Below w.heap.size w w1) := HS.out.1.trans (hb1.mono HS.out.1.size)
        clear hb1 C
        go_wp2
        go_roundw
        case rel => exact ⟨k + 1, by omega, by go_num, hid ⟨HF.out, snoc_all HS.out.2 HX.out⟩⟩
        case measure => simp [intOf]; omega
    · obtain rfl : n = k := by omega
      go_wp2
      go_ret
      exact ⟨⟨_, rfl, Or.inl ⟨rfl, HS.out.2⟩⟩, HS.out.1⟩

theorem containsFSt_any (a : Option Addr) (n c : Nat) (X : Nat → St3) (nb : Nat) (y : Int) (z : Bool) (w : World) (hn : n ≤ 1000) (h : Sts w a n X) (hy : w.cell? ⟨nb, 0, none⟩ = some (.int .i64 y)) (hz : (∃ i, i < n ∧ (X i).1 = y) ↔ z = true) :
    Calls Try.prog 9 #[.slice a n c, .func (Fn.func 10) #[] #[.pointer (some ⟨nb, 0, none⟩)]] w fun e w' => e = .returned (.bool z) ∧ Below w.heap.size w w' := by
  have C : Hid (Calls Try.prog 18 #[.slice a n c, .func (Fn.func 10) #[] #[.pointer (some ⟨nb, 0, none⟩)]] w fun e w' => (∃ r, e = .returned (.int .i64 r) ∧ NdIx n X y r) ∧ Below w.heap.size w w') := indexFSt_any a n c X nb y w hn h hy
  have HZ : Hid ((∃ i, i < n ∧ (X i).1 = y) ↔ z = true) := hz
  clear h hy hz hn
  go_enter Try.func9, Try.ntmps9
  go_wp2_with fail
  refine C.out.mono ?_
  rintro e w1 ⟨⟨r, rfl, hr⟩, hb1⟩
  have HB1 : Hid (Below w.heap.size w w1) := hb1
  clear hb1 C
  rcases hr with ⟨rfl, hr⟩ | ⟨i, hi, he, rfl⟩
  · have HF : Hid (z = false) := by
      cases z
      · rfl
      · obtain ⟨i, hi, he⟩ := HZ.out.2 rfl
        exact absurd he (hr i hi)
    clear hr
    go_wp2
    go_ret
    exact ⟨ret_bool HF.out.symm, HB1.out⟩
  · have HF : Hid (z = true) := HZ.out.1 ⟨i, hi, he⟩
    clear hi he
    go_wp2
    go_ret
    exact ⟨ret_bool HF.out.symm, HB1.out⟩

end Go.Proofs.Ytnpdkpbhkjnbhaa
