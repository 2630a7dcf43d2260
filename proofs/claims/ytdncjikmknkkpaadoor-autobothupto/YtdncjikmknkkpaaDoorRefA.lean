/- The document's leaves: In, Word, At, Letter, Marked, Auto. -/
import Derived.Deep.Heap
import Derived.Test.YtdncjikmknkkpaaDoorChk
import Derived.Test.YtdncjikmknkkpaaDoorNmbJ
namespace Go.Proofs.YtdncjikmknkkpaaDoor
open Go.RowKit

set_option maxHeartbeats 400000 in
theorem inRef_any (a : Option Addr) (n c : Nat) (Z : Nat → Int) (m : Int) (w : World) (hn : n ≤ 140737488355328) (h : Row w a n Z) :
    Calls Tryd.prog 20 #[.slice a n c, .int .i64 m] w fun e w' => e = .returned (.bool (allIn n Z m)) ∧ w' = w := by
  obtain ⟨b, o, ha, hc⟩ := h
  go_enter Tryd.func20, Tryd.ntmps20
  go_wp2
  go_loop [5] (fun i => ∃ k : Nat, k ≤ n ∧ i = .int .i64 k ∧ Hid (∀ j, j < k → 0 ≤ Z j ∧ Z j < m)) (fun i => n - (intOf i).toNat)
  case atStart => exact ⟨0, Nat.zero_le _, rfl, hid (fun j hj => absurd hj (Nat.not_lt_zero _))⟩
  case round =>
    obtain ⟨k, hk, rfl, H⟩ := hrel
    by_cases hlt : k < n
    · obtain rfl := ha (by omega)
      have hck := hc k hlt
      by_cases h1 : Z k < 0
      · go_wp2
        go_ret
        exact ⟨ret_bool (allIn_no k hlt (Or.inl h1)).symm, rfl⟩
      · by_cases h2 : m ≤ Z k
        · go_wp2
          go_ret
          exact ⟨ret_bool (allIn_no k hlt (Or.inr h2)).symm, rfl⟩
        · go_wp2
          go_round
          case rel => exact ⟨k + 1, by omega, by go_num, hid (snoc_all H.out ⟨by omega, by omega⟩)⟩
          case measure => simp [intOf]; omega
    · go_wp2
      go_ret
      exact ⟨ret_bool (allIn_yes (fun i hi => H.out i (by omega))).symm, rfl⟩

set_option maxHeartbeats 4000000 in
theorem autoRef_any (A : Ax) (w : World) (h : Aw w A) : Calls Tryd.prog 8 #[A.val] w fun e w' => e = .returned (.int .i64 (chkA A)) ∧ Below w.heap.size w w' := by
  have H := hid h
  have g47 := h.g47
  have k47 := h.k47
  have m47 := h.m47
  have o47 := h.o47
  have s47 := h.s47
  clear h
  by_cases h1 : 2048 < A.G ∨ 80 < A.K
  · have E : Hid (chkA A = 2) := hid (if_pos h1)
    obtain ⟨sa, sn, sc, na, G, nc, ma, M, mc, oa, O, oc, fa, K, fc, S, L, Z, Mu, No, FL, FZ⟩ := A
    dsimp only [Ax.val] at *
    by_cases h2 : 2048 < G
    · have h3 : (2048 : Int) < G := by omega
      go_enter Tryd.func8, Tryd.ntmps8
      go_wp2
      go_ret
      exact ⟨ret_int E.out.symm, box_below _ _⟩
    · have h3 : ¬ (2048 : Int) < G := by omega
      have h4 : (80 : Int) < K := by omega
      go_enter Tryd.func8, Tryd.ntmps8
      go_wp2
      go_ret
      exact ⟨ret_int E.out.symm, box_below _ _⟩
  by_cases h2 : A.M ≠ A.G ∨ A.O ≠ A.G
  · have E : Hid (chkA A = 1) := hid ((if_neg h1).trans (if_pos h2))
    obtain ⟨sa, sn, sc, na, G, nc, ma, M, mc, oa, O, oc, fa, K, fc, S, L, Z, Mu, No, FL, FZ⟩ := A
    dsimp only [Ax.val] at *
    have h3 : ¬ (2048 : Int) < G := by omega
    have h4 : ¬ (80 : Int) < K := by omega
    by_cases h5 : M = G
    · have h6 : ((M : Int) != (G : Int)) = false := by rw [h5]; simp
      have h7 : ((O : Int) != (G : Int)) = true := by simp; omega
      clear h1 h2 h5
      go_enter Tryd.func8, Tryd.ntmps8
      go_wp2
      go_ret
      exact ⟨ret_int E.out.symm, box_below _ _⟩
    · have h6 : ((M : Int) != (G : Int)) = true := by simp; omega
      clear h1 h2 h5
      go_enter Tryd.func8, Tryd.ntmps8
      go_wp2
      go_ret
      exact ⟨ret_int E.out.symm, box_below _ _⟩
  · have hM : A.M = A.G := by omega
    have hO : A.O = A.G := by omega
    have E : Hid (chkA A = if allIn A.sn A.S A.G = true ∧ okL A.G A.L A.Z A.G = true ∧ okL A.K A.FL A.FZ A.G = true then 0 else 1) := hid ((if_neg h1).trans (if_neg h2))
    have hG : ¬ 2048 < A.G := by omega
    have hK : ¬ 80 < A.K := by omega
    clear h1 h2
    obtain ⟨sa, sn, sc, na, G, nc, ma, M, mc, oa, O, oc, fa, K, fc, S, L, Z, Mu, No, FL, FZ⟩ := A
    dsimp only [Ax.val] at *
    subst hM
    subst hO
    have h3 : ¬ (2048 : Int) < O := by omega
    have h4 : ¬ (80 : Int) < K := by omega
    have HBX := hid (box_below w (.cells #[.slice sa sn sc, .slice na O nc, .slice ma O mc, .slice oa O oc, .slice fa K fc] 26))
    have HN := hid (H.out.below HBX.out)
    have C1 := hid (inRef_any sa sn sc S O _ s47 HN.out.start)
    have hn1 : (w.alloc (.cells #[.slice sa sn sc, .slice na O nc, .slice ma O mc, .slice oa O oc, .slice fa K fc] 26)).cell? ⟨w.heap.size, 1, none⟩ = some (.slice na O nc) := cell_of_alloc rfl
    have hn4 : (w.alloc (.cells #[.slice sa sn sc, .slice na O nc, .slice ma O mc, .slice oa O oc, .slice fa K fc] 26)).cell? ⟨w.heap.size, 4, none⟩ = some (.slice fa K fc) := cell_of_alloc rfl
    clear H
    have HS := hid HN.out.start
    obtain ⟨nb, no, hna, hnc⟩ := HN.out.next
    obtain ⟨fb, fo, hfa, hfc⟩ := HN.out.fair
    have HL47 := hid HN.out.l47
    have HF47 := hid HN.out.f47
    clear HN
    cases q1 : allIn sn S O
    · rw [q1, if_neg (by simp)] at E
      rw [q1] at C1
      clear hnc hfc
      go_enter Tryd.func8, Tryd.ntmps8
      go_wp2_with fail
      refine C1.out.mono ?_
      rintro e w1 ⟨rfl, rfl⟩
      go_wp2
      go_ret
      exact ⟨ret_int E.out.symm, HBX.out⟩
    · rw [q1] at E C1
      have HNC := hid hnc
      have HFC := hid hfc
      clear hnc hfc q1
      go_enter Tryd.func8, Tryd.ntmps8
      go_wp2_with fail
      refine C1.out.mono ?_
      generalize w.alloc (.cells #[.slice sa sn sc, .slice na O nc, .slice ma O mc, .slice oa O oc, .slice fa K fc] 26) = W at *
      rintro e w1 ⟨rfl, rfl⟩
      go_wp2
      go_loop [4] (fun i => ∃ k : Nat, k ≤ O ∧ i = .int .i64 k ∧ Hid (∀ j, j < k → allIn (L j) (Z j) O = true)) (fun i => O - (intOf i).toNat)
      case atStart => exact ⟨0, Nat.zero_le _, rfl, hid (fun j hj => absurd hj (Nat.not_lt_zero _))⟩
      case round =>
        obtain ⟨k, hk, rfl, HR⟩ := hrel
        by_cases hlt : k < O
        · obtain rfl := hna (by omega)
          obtain ⟨ka, kc, hck, hrk⟩ := HNC.out k hlt
          have C2 := hid (inRef_any ka (L k) kc (Z k) O _ (HL47.out k hlt) hrk)
          clear hrk
          cases q2 : allIn (L k) (Z k) O
          · have E2 := hid (okL_no k hlt q2)
            rw [q2] at C2
            rw [E2.out, if_neg (by simp)] at E
            clear q2 E2
            go_wp2_with fail
            refine C2.out.mono ?_
            rintro e w1 ⟨rfl, rfl⟩
            go_wp2
            go_ret
            exact ⟨ret_int E.out.symm, HBX.out⟩
          · have Q2 := hid q2
            rw [q2] at C2
            clear q2
            go_wp2_with fail
            refine C2.out.mono ?_
            rintro e w1 ⟨rfl, rfl⟩
            go_wp2
            go_round
            case rel => exact ⟨k + 1, by omega, by go_num, hid (snoc_all HR.out Q2.out)⟩
            case measure => simp [intOf]; omega
        · have E2 := hid (okL_yes (K := O) (FL := L) (FZ := Z) (G := O) (fun r hr => HR.out r (by omega)))
          rw [E2.out] at E
          clear HR E2
          go_wp2
          go_loop [5] (fun i => ∃ k : Nat, k ≤ K ∧ i = .int .i64 k ∧ Hid (∀ j, j < k → allIn (FL j) (FZ j) O = true)) (fun i => K - (intOf i).toNat)
          case atStart => exact ⟨0, Nat.zero_le _, rfl, hid (fun j hj => absurd hj (Nat.not_lt_zero _))⟩
          case round =>
            obtain ⟨k, hk, rfl, HR⟩ := hrel
            by_cases hlt : k < K
            · obtain rfl := hfa (by omega)
              obtain ⟨ka, kc, hck, hrk⟩ := HFC.out k hlt
              have C2 := hid (inRef_any ka (FL k) kc (FZ k) O _ (HF47.out k hlt) hrk)
              clear hrk
              cases q2 : allIn (FL k) (FZ k) O
              · have E2 := hid (okL_no k hlt q2)
                rw [q2] at C2
                rw [E2.out, if_neg (by simp)] at E
                clear q2
                go_wp2_with fail
                refine C2.out.mono ?_
                rintro e w1 ⟨rfl, rfl⟩
                go_wp2
                go_ret
                exact ⟨ret_int E.out.symm, HBX.out⟩
              · have Q2 := hid q2
                rw [q2] at C2
                clear q2
                go_wp2_with fail
                refine C2.out.mono ?_
                rintro e w1 ⟨rfl, rfl⟩
                go_wp2
                go_round
                case rel => exact ⟨k + 1, by omega, by go_num, hid (snoc_all HR.out Q2.out)⟩
                case measure => simp [intOf]; omega
            · have E2 := hid (okL_yes (K := K) (FL := FL) (FZ := FZ) (G := O) (fun r hr => HR.out r (by omega)))
              rw [E2.out, if_pos (by simp)] at E
              clear HR E2
              go_wp2
              go_ret
              exact ⟨ret_int E.out.symm, HBX.out⟩

end Go.Proofs.YtdncjikmknkkpaaDoor

