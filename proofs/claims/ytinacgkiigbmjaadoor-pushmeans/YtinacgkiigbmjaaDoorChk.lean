/- fits, checkFrom, Check; the document's LtlKids. -/
import Derived.Test.YtinacgkiigbmjaaDoorFml
namespace Go.Proofs.YtinacgkiigbmjaaDoor
open Go.RowKit

theorem fit_no_cnt {t : Fml} (h : ¬ ((t.cnt : Int) = ar t.kind)) : fit t = false := by simp [fit, h]
theorem fit_atom {t : Fml} (h : (t.cnt : Int) = ar t.kind) (h3 : t.kind = 3) : fit t = decide (0 ≤ t.num ∧ t.num ≤ 63) := by simp [fit, h, h3]
theorem fit_other {t : Fml} (h : (t.cnt : Int) = ar t.kind) (h3 : t.kind ≠ 3) : fit t = decide (t.num = 0) := by simp [fit, h, h3]
theorem ar_out {k : Int} (h : k < 1 ∨ 11 < k) : ar k = -1 := by
  unfold ar
  rw [if_neg (by omega), if_neg (by omega), if_neg (by omega)]

set_option maxHeartbeats 1000000 in
theorem fits_any (t : Fml) (a : Option Addr) (cap : Nat) (w : World) (hk : kcAt w) :
    Calls Tryd.prog 48 #[.agg #[.int .i64 t.kind, .int .i64 t.num, .slice a t.cnt cap]] w fun e w' => e = .returned (.bool (fit t)) ∧ Below w.heap.size w w' := by
  have X1 : Hid (∀ x : Int, x = t.kind → ∀ y : Int, y = t.num → ∀ z : Nat, z = t.cnt → (¬ ((z : Int) = ar x) → fit t = false) ∧ ((z : Int) = ar x → x = 3 → fit t = decide (0 ≤ y ∧ y ≤ 63)) ∧ ((z : Int) = ar x → x ≠ 3 → fit t = decide (y = 0))) := by
    rintro x rfl y rfl z rfl
    exact ⟨fit_no_cnt, fit_atom, fit_other⟩
  obtain ⟨k, hk1⟩ : ∃ x, x = t.kind := ⟨_, rfl⟩
  obtain ⟨n, hn1⟩ : ∃ x, x = t.num := ⟨_, rfl⟩
  obtain ⟨c, hc1⟩ : ∃ x, x = t.cnt := ⟨_, rfl⟩
  have X : Hid ((¬ ((c : Int) = ar k) → fit t = false) ∧ ((c : Int) = ar k → k = 3 → fit t = decide (0 ≤ n ∧ n ≤ 63)) ∧ ((c : Int) = ar k → k ≠ 3 → fit t = decide (n = 0))) := X1.out k hk1 n hn1 c hc1
  rw [← hk1, ← hn1, ← hc1]
  clear hk1 hn1 hc1 X1
  have HK : Hid (kcAt w) := hk
  clear hk
  by_cases h1 : k < 1
  · have E : Hid (fit t = false) := X.out.1 (by show ¬ ((c : Int) = ar k); rw [ar_out (Or.inl h1)]; omega)
    have d1 : decide (k < 1) = true := decide_eq_true h1
    go_enter Tryd.func48, Tryd.ntmps48
    go_wp2
    go_quiet (fail)
    go_wp2
    go_ret
    exact ⟨ret_bool E.out.symm, below_drewN (box_below _ _) _⟩
  by_cases h2 : 11 < k
  · have E : Hid (fit t = false) := X.out.1 (by show ¬ ((c : Int) = ar k); rw [ar_out (Or.inr h2)]; omega)
    have d1 : decide (k < 1) = false := decide_eq_false h1
    have d2 : decide (11 < k) = true := decide_eq_true h2
    go_enter Tryd.func48, Tryd.ntmps48
    go_wp2
    go_quiet (fail)
    go_wp2
    go_ret
    exact ⟨ret_bool E.out.symm, below_drewN (box_below _ _) _⟩
  obtain ⟨q, rfl⟩ : ∃ q : Nat, k = q := ⟨k.toNat, by omega⟩
  have hq1 : 1 ≤ q := by omega
  have hq2 : q ≤ 11 := by omega
  have hc := HK.out q hq1 hq2
  have hb : 2 < w.heap.size := World.block_lt_of_cell? _ _ hc
  obtain ⟨r, hr⟩ : ∃ r, r = ar q := ⟨_, rfl⟩
  rw [← hr] at hc
  have HR : Hid (r = ar q) := hr
  clear hr
  have hq12 : (q : Int) < 12 := by omega
  have hq0 : (0 : Int) ≤ q := by omega
  have d1 : decide ((q : Int) < 1) = false := decide_eq_false h1
  have d2 : decide ((11 : Int) < q) = false := decide_eq_false h2
  by_cases h3 : (c : Int) = r
  · have h3b : ((c : Int) == r) = true := beq_iff_eq.2 h3
    have HC : Hid ((c : Int) = ar q) := h3.trans HR.out
    clear h3
    by_cases h4 : (q : Int) = 3
    · have h4b : ((q : Int) == 3) = true := beq_iff_eq.2 h4
      have E : Hid (fit t = decide (0 ≤ n ∧ n ≤ 63)) := X.out.2.1 HC.out h4
      clear h4
      by_cases h5 : 0 ≤ n
      · by_cases h6 : n ≤ 63
        · have E2 : Hid (fit t = true) := by rw [hid E.out]; exact hid (decide_eq_true ⟨h5, h6⟩)
          clear E
          go_enter Tryd.func48, Tryd.ntmps48
          go_wp2
          go_quiet (fail)
          go_wp2
          go_ret
          exact ⟨ret_bool E2.out.symm, below_drewN (box_below _ _) _⟩
        · have E2 : Hid (fit t = false) := by rw [hid E.out]; exact hid (decide_eq_false (fun hh => h6 hh.2))
          clear E
          go_enter Tryd.func48, Tryd.ntmps48
          go_wp2
          go_quiet (fail)
          go_wp2
          go_ret
          exact ⟨ret_bool ((decide_eq_false (by omega)).trans E2.out.symm), below_drewN (box_below _ _) _⟩
      · have E2 : Hid (fit t = false) := by rw [hid E.out]; exact hid (decide_eq_false (fun hh => h5 hh.1))
        clear E
        go_enter Tryd.func48, Tryd.ntmps48
        go_wp2
        go_quiet (fail)
        go_wp2
        go_ret
        exact ⟨ret_bool E2.out.symm, below_drewN (box_below _ _) _⟩
    · have h4b : ((q : Int) == 3) = false := beq_eq_false_iff_ne.2 h4
      have E : Hid (fit t = decide (n = 0)) := X.out.2.2 HC.out h4
      clear h4
      by_cases h5 : n = 0
      · have E2 : Hid (fit t = true) := by rw [hid E.out]; exact hid (decide_eq_true h5)
        have h5b : (n == 0) = true := beq_iff_eq.2 h5
        clear E h5
        go_enter Tryd.func48, Tryd.ntmps48
        go_wp2
        go_quiet (fail)
        go_wp2
        go_ret
        exact ⟨ret_bool E2.out.symm, below_drewN (box_below _ _) _⟩
      · have E2 : Hid (fit t = false) := by rw [hid E.out]; exact hid (decide_eq_false h5)
        have h5b : (n == 0) = false := beq_eq_false_iff_ne.2 h5
        clear E h5
        go_enter Tryd.func48, Tryd.ntmps48
        go_wp2
        go_quiet (fail)
        go_wp2
        go_ret
        exact ⟨ret_bool E2.out.symm, below_drewN (box_below _ _) _⟩
  · have h3b : ((c : Int) == r) = false := beq_eq_false_iff_ne.2 h3
    have E : Hid (fit t = false) := X.out.1 (fun hh => h3 (hh.trans HR.out.symm))
    clear h3
    go_enter Tryd.func48, Tryd.ntmps48
    go_wp2
    go_quiet (fail)
    go_wp2
    go_ret
    exact ⟨ret_bool E.out.symm, below_drewN (box_below _ _) _⟩

end Go.Proofs.YtinacgkiigbmjaaDoor
