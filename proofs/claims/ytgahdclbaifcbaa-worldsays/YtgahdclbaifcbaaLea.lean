/- Clone, Equal of letters, period. -/
import Derived.Test.YtgahdclbaifcbaaApp
namespace Go.Proofs.Ytgahdclbaifcbaa
open Go.RowKit

theorem clone_post {w w1 : World} {v' : Value} {n : Nat} {l : List Value} (hown : w1.ownsRow w.heap.size 70 1 v' (0 + n) ([] ++ l)) (hgrow : (w.alloc (.cells #[] 70)).grownBy w1 (Value.ownBlock (.slice (some ⟨w.heap.size, 0, none⟩) 0 0))) :
    Hid (w1.ownsRow w.heap.size 70 1 v' n l ∧ Below w.heap.size w w1) := by
  refine ⟨by rwa [Nat.zero_add, List.nil_append] at hown, ((Below.refl _ _).alloc (Nat.le_refl _) _).grown hgrow (by simp) (fun k hk => ?_)⟩
  simp only [Value.ownBlock, Option.some.injEq] at hk
  omega

set_option maxHeartbeats 400000 in
theorem clone_any (a : Option Addr) (n c : Nat) (Z : Nat → Int) (w : World) (hn : n ≤ 1000) (h : RowU w a n Z) (hnil : a = none → n = 0 ∧ c = 0) :
    Calls Try.prog 61 #[.slice a n c] w fun e w' => ∃ v, e = .returned v ∧ w'.ownsRow w.heap.size 70 1 v n (valsU (lstU n Z)) ∧ Below w.heap.size w w' := by
  cases a with
  | none =>
    obtain ⟨rfl, rfl⟩ := hnil rfl
    have hq := fun w' => Go.Lib.run_eql_slice_nil (P := Try.prog) w' 24 70 none 0 0 0 0 Try.underlying24
    go_enter Try.func61, Try.ntmps61
    go_wp2
    go_ret
    exact ⟨_, rfl, World.ownsRow_nil _ _ _ _, Below.refl _ _⟩
  | some x =>
    obtain ⟨i0, hi, hz0, hz1, hz2⟩ := info_parts Try.info70
    have HI : Hid (Try.prog.info? 70 = some i0 ∧ i0.zero = some (.int .u64 0) ∧ i0.size = 1 ∧ i0.bytes = 8) := ⟨hi, hz0, hz1, hz2⟩
    have HR : Hid (RowU w (some x) n Z) := h
    clear hi hz0 hz1 hz2 h hnil
    have HO : Hid ((w.alloc (.cells #[] 70)).ownsRow w.heap.size 70 1 (.slice (some ⟨w.heap.size, 0, none⟩) 0 0) 0 []) := World.ownsRow_made w #[] 0 (Nat.le_refl _) (Nat.zero_le _) rfl
    have HN : Hid (∀ j u, (valsU (lstU n Z))[j]? = some u → (w.alloc (.cells #[] 70)).cell? (x.add j) = some u) := news_of_rowU (HR.out.below ((Below.refl _ _).alloc (Nat.le_refl _) _))
    have hq := fun w' => Go.Lib.run_eql_slice_nil (P := Try.prog) w' 24 70 (some x) n c 0 0 Try.underlying24
    go_enter Try.func61, Try.ntmps61
    go_wp2_with (at_builtin; refine wpList_append_own _ rfl _ _ 24 rfl w.heap.size 70 i0 (.int .u64 0) 1 8 Try.underlying24 HI.out.1 HI.out.2.1 HI.out.2.2.1 HI.out.2.2.2 rfl (by decide) _ _ _ rfl HO.out x n c (valsU (lstU n Z)) rfl (by rw [valsU_len, lstU_len, Nat.mul_one]) HN.out (valsU_one _) (by unfold maxLen; omega) (by omega) (by simp) ?_; intro v' w1 hown' hgrow _; have HX := clone_post hown' hgrow; clear hown' hgrow)
    go_ret
    refine ⟨_, rfl, ?_, HX.out.2⟩
    exact HX.out.1

/-- Are the two lists of letters the same? -/
def sameU (n m : Nat) (Y Z : Nat → Int) : Bool := decide (n = m ∧ ∀ i, i < n → Y i = Z i)
theorem sameU_no_len {n m : Nat} {Y Z : Nat → Int} (h : n ≠ m) : sameU n m Y Z = false := by
  unfold sameU
  rw [decide_eq_false_iff_not]
  exact fun hh => h hh.1
theorem sameU_no {n m : Nat} {Y Z : Nat → Int} (k : Nat) (hk : k < n) (h : Y k ≠ Z k) : sameU n m Y Z = false := by
  unfold sameU
  rw [decide_eq_false_iff_not]
  exact fun hh => h (hh.2 k hk)
theorem sameU_yes {n m : Nat} {Y Z : Nat → Int} (e : n = m) (h : ∀ i, i < n → Y i = Z i) : sameU n m Y Z = true := by
  unfold sameU
  rw [decide_eq_true_eq]
  exact ⟨e, h⟩
set_option maxHeartbeats 1000000 in
theorem equalU_any {w : World} {a a' : Option Addr} {n n' c c' : Nat} {Y Z : Nat → Int} (hn : n ≤ 1000) (h : RowU w a n Y) (h' : RowU w a' n' Z) :
    Calls Try.prog 41 #[.slice a n c, .slice a' n' c'] w fun e w' => e = .returned (.bool (sameU n n' Y Z)) ∧ ∃ q, w' = w.drewN q := by
  by_cases hl : n = n'
  · subst hl
    obtain ⟨b, o, ha, hc⟩ := h
    obtain ⟨b', o', ha', hc'⟩ := h'
    have HC := hid hc
    have HC' := hid hc'
    clear hc hc'
    go_enter Try.func41, Try.ntmps41
    go_wp2
    go_loopw [13] (fun i wr => ∃ k : Nat, k ≤ n ∧ i = .int .i64 k ∧ Hid (∀ j, j < k → Y j = Z j) ∧ ∃ q, wr = w.drewN q) (fun i _ => n - (intOf i).toNat)
    case atStart => exact ⟨0, Nat.zero_le _, rfl, hid (fun j hj => by omega), 0, rfl⟩
    case round =>
      obtain ⟨k, hk, rfl, H, q, rfl⟩ := hrel
      by_cases hlt : k < n
      · obtain rfl := ha (by omega)
        obtain rfl := ha' (by omega)
        have e1 := HC.out k hlt
        have e2 := HC'.out k hlt
        have hkz : (k : Int) < n := by omega
        by_cases h1 : Y k = Z k
        · have hb : (Y k != Z k) = false := by simp [h1]
          have E := hid h1
          clear h1
          go_wp2
          go_quiet (fail)
          go_wp2
          go_roundw
          case rel => exact ⟨k + 1, by omega, by go_num, hid (snoc_all H.out E.out), _, rfl⟩
          case measure => simp [intOf]; omega
        · have hb : (Y k != Z k) = true := by simp [h1]
          have E : Hid (Y k ≠ Z k) := h1
          clear h1
          go_wp2
          go_quiet (fail)
          go_wp2
          go_ret
          exact ⟨ret_bool (sameU_no k hlt E.out).symm, _, World.drewN_drewN _ _ _⟩
      · go_wp2
        go_ret
        exact ⟨ret_bool (sameU_yes rfl (fun i hi => H.out i (by omega))).symm, q, rfl⟩
  · have hz : ((n : Int) != n') = true := by simp; omega
    have E : Hid (n ≠ n') := hl
    clear hl
    go_enter Try.func41, Try.ntmps41
    go_wp2
    go_ret
    exact ⟨ret_bool (sameU_no_len E.out).symm, 0, rfl⟩

end Go.Proofs.Ytgahdclbaifcbaa

