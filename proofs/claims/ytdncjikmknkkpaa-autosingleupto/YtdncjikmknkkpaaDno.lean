/- The document's lists of numbers: Index, Contains, once. -/
import Derived.Test.YtdncjikmknkkpaaSam
import Derived.Test.YtdncjikmknkkpaaOnc
namespace Go.Proofs.Ytdncjikmknkkpaa
open Go.RowKit

set_option maxHeartbeats 1000000 in
theorem idxI (a : Option Addr) (n c : Nat) (Z : Nat → Int) (x : Int) (w : World) (hn : n ≤ 140737488355328) (h : Row w a n Z) :
    Calls Try.prog 38 #[.slice a n c, .int .i64 x] w fun e w' => (∃ r : Int, e = .returned (.int .i64 r) ∧ ((0 ≤ r ∧ has n Z x = true) ∨ (r = -1 ∧ has n Z x = false))) ∧ w' = w := by
  obtain ⟨b, o, ha, hc⟩ := h
  have HC := hid hc
  clear hc
  go_enter Try.func38, Try.ntmps38
  go_wp2
  go_loopw [8] (fun i wr => ∃ k : Nat, k ≤ n ∧ i = .int .i64 k ∧ wr = w ∧ Hid (∀ j, j < k → Z j ≠ x)) (fun i _ => n - (intOf i).toNat)
  case atStart => exact ⟨0, Nat.zero_le _, rfl, rfl, hid (fun j hj => absurd hj (Nat.not_lt_zero _))⟩
  case round =>
    obtain ⟨k, hk, rfl, rfl, H⟩ := hrel
    by_cases hlt : k < n
    · obtain rfl := ha (by omega)
      have hck := HC.out k hlt
      by_cases e : x = Z k
      · have hb : (x == Z k) = true := by simp [e]
        have E := hid e
        clear e
        go_wp2
        go_ret
        exact ⟨⟨_, rfl, Or.inl ⟨by omega, decide_eq_true ⟨k, hlt, E.out.symm⟩⟩⟩, rfl⟩
      · have hb : (x == Z k) = false := by simp [e]
        have E := hid e
        clear e
        go_wp2
        go_roundw
        case rel => exact ⟨k + 1, by omega, by go_num, trivial, hid (fun j hj => by
          by_cases e : j = k
          · subst e; exact fun h => E.out h.symm
          · exact H.out j (by omega))⟩
        case measure => simp [intOf]; omega
    · go_wp2
      go_ret
      exact ⟨⟨_, rfl, Or.inr ⟨rfl, has_no (fun i hi => H.out i (by omega))⟩⟩, rfl⟩

theorem conI (a : Option Addr) (n c : Nat) (Z : Nat → Int) (x : Int) (w : World) (hn : n ≤ 140737488355328) (h : Row w a n Z) :
    Calls Try.prog 26 #[.slice a n c, .int .i64 x] w fun e w' => e = .returned (.bool (has n Z x)) ∧ w' = w := by
  have C := hid (idxI a n c Z x w hn h)
  clear h
  go_enter Try.func26, Try.ntmps26
  go_wp2_with fail
  refine C.out.mono ?_
  rintro e w' ⟨⟨r, rfl, hr⟩, rfl⟩
  have HR := hid hr
  clear hr
  go_wp2
  go_ret
  refine ⟨ret_bool ?_, rfl⟩
  rcases HR.out with ⟨h1, h2⟩ | ⟨rfl, h2⟩
  · rw [h2]; simp [h1]
  · rw [h2]; rfl

set_option maxHeartbeats 2000000 in
theorem onceD (a : Option Addr) (n c : Nat) (Z : Nat → Int) (w : World) (hn : n ≤ 4398046511104) (h : Row w a n Z) (hZ : ∀ i, i < n → 0 ≤ Z i) :
    Calls Try.prog 37 #[.slice a n c] w fun e w' => ∃ la lc, e = .returned (.slice la (onN Z n).length lc) ∧ Hid (w'.ownsRow w.heap.size 3 1 (.slice la (onN Z n).length lc) (cs (onN Z n)).length (vals (cs (onN Z n))) ∧ Below w.heap.size w w') := by
  obtain ⟨b, o, ha, hc⟩ := h
  have HC : Hid (∀ i, i < n → w.cell? ⟨b, o + i, none⟩ = some (.int .i64 (Z i))) := hc
  have HZ := hid hZ
  clear hc hZ
  have hol : ∀ k, (onN Z k).length ≤ k := fun k => by
    induction k with
    | zero => simp [onN, nAdds]
    | succ k ih =>
      rw [onN_succ]
      unfold nAdd
      split
      · omega
      · rw [List.length_append]; simp; omega
  have HOL := hid hol
  obtain ⟨i0, hi, hz0, hz1, hz2⟩ := info_parts Try.info3
  have HI : Hid (Try.prog.info? 3 = some i0 ∧ i0.zero = some (.int .i64 0) ∧ i0.size = 1 ∧ i0.bytes = 8) := ⟨hi, hz0, hz1, hz2⟩
  clear hi hz0 hz1 hz2 hol
  go_enter Try.func37, Try.ntmps37
  go_wp2
  go_loopw [3, 4] (fun v i wr => ∃ k : Nat, k ≤ n ∧ i = .int .i64 k ∧ Hid (Below w.heap.size w wr ∧ wr.ownsRow w.heap.size 3 1 v (cs (onN Z k)).length (vals (cs (onN Z k))))) (fun _ i _ => n - (intOf i).toNat)
  case atStart => exact ⟨0, by omega, rfl, hid ⟨Below.refl _ _, World.ownsRow_nil _ _ _ _⟩⟩
  case round =>
    rename_i v _
    obtain ⟨k, hk, rfl, H⟩ := hrel
    obtain ⟨va, vc, hv, hrow⟩ := owns_row H.out.2
    subst hv
    have hlen : (cs (onN Z k)).length ≤ k := by rw [cs_len]; exact HOL.out k
    by_cases hlt : k < n
    · obtain rfl := ha (by omega)
      have h1 : wr.cell? ⟨b, o + k, none⟩ = some (.int .i64 (Z k)) := below_cell H.out.1 (Nat.le_refl _) (HC.out k hlt)
      have CC := hid (conI va (cs (onN Z k)).length vc _ (Z k) wr (by omega) hrow)
      have hz := HZ.out k hlt
      have HM : Hid (has (cs (onN Z k)).length (fun i => (cs (onN Z k)).getD i 0) (Z k) = true ↔ (Z k).toNat ∈ onN Z k) := hid (by
        unfold has
        rw [decide_eq_true_eq, List.mem_iff_getElem?]
        constructor
        · rintro ⟨i, hi, e⟩
          have e' : (cs (onN Z k)).getD i 0 = Z k := e
          rw [cs_at] at e'
          rw [cs_len] at hi
          refine ⟨i, ?_⟩
          rw [List.getD_eq_getElem?_getD, List.getElem?_eq_getElem hi] at e'
          rw [List.getElem?_eq_getElem hi]
          have : ((onN Z k)[i] : Int) = Z k := e'
          congr 1
          omega
        · rintro ⟨i, e⟩
          have hi := (List.getElem?_eq_some_iff.1 e).1
          exact ⟨i, by rw [cs_len]; exact hi, by show (cs (onN Z k)).getD i 0 = Z k; rw [cs_at, List.getD_eq_getElem?_getD, e]; show (((Z k).toNat : Nat) : Int) = Z k; omega⟩)
      have e1 := onN_succ Z k
      obtain ⟨z, hze⟩ : ∃ z, Z k = z := ⟨_, rfl⟩
      rw [hze] at h1 CC HM hz e1
      have E1 := hid e1
      have HZ2 := hid hz
      clear hrow hze e1 hz
      cases hb : has (cs (onN Z k)).length (fun i => (cs (onN Z k)).getD i 0) z
      · have HB := hid hb
        rw [hb] at CC
        clear hb
        go_wp2_with fail
        refine CC.out.mono ?_
        rintro e w' ⟨rfl, hq⟩
        obtain rfl := hq.symm
        go_wp2_with (at_builtin; refine wpList_append_own_at _ rfl _ _ 22 rfl w.heap.size 3 i0 (.int .i64 0) 1 8 Try.underlying22 HI.out.1 HI.out.2.1 HI.out.2.2.1 HI.out.2.2.2 rfl (by decide) _ _ _ rfl (H.out.2.alloc _) ⟨wr.heap.size, 0, none⟩ 1 1 [.int .i64 z] rfl rfl (cell_one_new _ _ _) (ints_oneCell .i64 [z]) (by unfold maxLen; omega) (by omega) (by have := H.out.1.size; simp; omega) ?_; intro v' w3 hown' hgrow hnil hloc; have G := hid (ints_grow H.out.1 (Nat.le_refl _) H.out.2 hown' hgrow); clear hown' hgrow hnil hloc)
        go_roundw
        case rel =>
          have hnew : z.toNat ∉ onN Z k := fun hm => by have := HM.out.2 hm; rw [HB.out] at this; cases this
          have e2 : onN Z (k + 1) = onN Z k ++ [z.toNat] := by rw [E1.out, nAdd, if_neg hnew]
          refine ⟨k + 1, by omega, by go_num, hid ⟨G.out.1, ?_⟩⟩
          rw [e2, cs_snoc, show ((z.toNat : Nat) : Int) = z from by have := HZ2.out; omega]
          exact G.out.2.1
        case measure => simp [intOf]; omega
      · have HB := hid hb
        rw [hb] at CC
        clear hb
        go_wp2_with fail
        refine CC.out.mono ?_
        rintro e w' ⟨rfl, hq⟩
        obtain rfl := hq.symm
        go_wp2
        go_roundw
        case rel =>
          have e2 : onN Z (k + 1) = onN Z k := by rw [E1.out, nAdd, if_pos (HM.out.1 HB.out)]
          exact ⟨k + 1, by omega, by go_num, hid ⟨H.out.1, by rw [e2]; exact H.out.2⟩⟩
        case measure => simp [intOf]; omega
    · go_wp2
      go_ret
      obtain rfl : k = n := by omega
      exact ⟨va, vc, by rw [← cs_len]; rfl, hid ⟨by have := H.out.2; rw [show (onN Z k).length = (cs (onN Z k)).length from (cs_len _).symm]; exact this, H.out.1⟩⟩

end Go.Proofs.Ytdncjikmknkkpaa
