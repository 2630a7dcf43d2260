/- The document's Process, walked. -/
import Derived.Test.YthpbgfodejoecaaRefJ
namespace Go.Proofs.Ythpbgfodejoecaa
open Go.RowKit

theorem nodes_kinds {M : Nat → ByteArray} {K : Nat → Int} : ∀ {n}, nodesErr M K n = 0 → ∀ i, i < n → 1 ≤ K i ∧ K i ≤ 7
  | n + 1, h, i, hi => by
    have h0 : nodesErr M K n = 0 := by
      by_cases e : nodesErr M K n = 0
      · exact e
      · rw [nodesErr, if_neg e] at h; exact absurd h e
    by_cases e : i = n
    · subst e
      rw [nodesErr_next h0] at h
      by_cases c : nameOk (M i) = true ∧ (1 ≤ K i ∧ K i ≤ 7)
      · exact c.2
      · rw [if_neg c] at h; cases h
    · exact nodes_kinds h0 i (by omega)

theorem seen_row (w : World) (N r : Nat) (hr : r < N) : (w.alloc (.cells ((madeCells #[.bool false] N).setIfInBounds r (.bool true)) 4)).rowIs w.heap.size 4 N (fun i => .bool (updB (fun _ => false) r i)) := by
  refine rowIs_lit w _ 4 _ N _ rfl (by simp [size_madeCells]) (fun i hi => ?_)
  have hz : (madeCells #[Value.bool false] N)[i]? = some (.bool false) := by simp [madeCells, hi, Nat.mod_one]
  by_cases e : i = r
  · subst e
    rw [Array.getElem?_setIfInBounds_self_of_lt (by simpa [size_madeCells] using hr)]
    simp [updB]
  · rw [Array.getElem?_setIfInBounds_ne (fun h => e h.symm), hz]
    simp [updB, e]

theorem two_row (w : World) (x y : Int) : Row (w.alloc (.cells #[.int .i64 x, .int .i64 y] 3)) (some ⟨w.heap.size, 0, none⟩) 2 (fun i => if i = 0 then x else y) :=
  ⟨w.heap.size, 0, fun _ => rfl, fun i hi => by
    match i, hi with
    | 0, _ => exact cell_of_alloc rfl
    | 1, _ => exact cell_of_alloc rfl⟩

theorem allIn_two (x y : Int) (n : Nat) : allIn 2 (fun i => if i = 0 then x else y) n = decide ((0 ≤ x ∧ x < n) ∧ (0 ≤ y ∧ y < n)) := by
  unfold allIn
  rw [Bool.eq_iff_iff, decide_eq_true_eq, decide_eq_true_eq]
  constructor
  · intro h
    exact ⟨by simpa using h 0 (by omega), by simpa using h 1 (by omega)⟩
  · rintro ⟨h1, h2⟩ i hi
    match i, hi with
    | 0, _ => exact h1
    | 1, _ => exact h2

set_option maxHeartbeats 8000000 in
set_option maxRecDepth 20000 in
theorem process_any (na fa : Option Addr) (N nc F fc : Nat) (M : Nat → ByteArray) (K A B : Nat → Int) (e0 : Int) (w : World) (hp : Prc w na N nc fa F M K A B) (hM : ∀ i, i < N → (M i).size ≤ maxLen) (he : ChkIs N F M K A B e0) :
    Calls Try.prog 53 #[.agg #[.slice na N nc, .slice fa F fc]] w fun e w' => e = .returned (.int .i64 e0) ∧ Below w.heap.size w w' := by
  have HP : Hid (Prc w na N nc fa F M K A B) := hp
  have hN := hp.nN
  have hF := hp.nF
  have HM : Hid (∀ i, i < N → (M i).size ≤ 9223372036854775807) := fun i hi => by have := hM i hi; unfold maxLen at this; omega
  clear hp hM
  obtain ⟨W, eW⟩ : ∃ x, x = w.alloc (.cells #[.slice na N nc, .slice fa F fc] 25) := ⟨_, rfl⟩
  have HW : Hid (Below w.heap.size w W ∧ W.heap.size = w.heap.size + 1) := by subst eW; exact ⟨box_below _ _, by simp⟩
  have HBx : Hid (∀ w1, Below W.heap.size W w1 → w1.cell? ⟨w.heap.size, 0, none⟩ = some (.slice na N nc) ∧ w1.cell? ⟨w.heap.size, 1, none⟩ = some (.slice fa F fc)) := fun w1 h => by
    have h' : Below (w.heap.size + 1) (w.alloc (.cells #[.slice na N nc, .slice fa F fc] 25)) w1 := by rw [← HW.out.2, ← eW]; exact h
    exact ⟨box_keep h' rfl, box_keep h' rfl⟩
  have HEW : Hid (w.alloc (.cells #[.slice na N nc, .slice fa F fc] 25) = W) := eW.symm
  clear eW
  rcases he with ⟨h1, rfl⟩ | ⟨⟨h1, h1'⟩, he⟩
  · by_cases h2 : 20 < N
    · go_enter Try.func53, Try.ntmps53
      go_wp2
      go_ret
      exact ⟨rfl, box_below _ _⟩
    · have h3 : 30 < F := by omega
      clear h1
      go_enter Try.func53, Try.ntmps53
      go_wp2
      go_ret
      exact ⟨rfl, box_below _ _⟩
  · have HE : Hid (nodesErr M K N ≠ 0 ∧ e0 = nodesErr M K N ∨
    nodesErr M K N = 0 ∧ (¬ (endsOk N F A B = true ∧ tally K 1 N = 1 ∧ fitAll N F K A B = true) ∧ e0 = 1 ∨
      (endsOk N F A B = true ∧ tally K 1 N = 1 ∧ fitAll N F K A B = true) ∧ (¬ allCome N F K A B ∧ e0 = 6 ∨ allCome N F K A B ∧ e0 = 0))) := he
    have HEr : Hid (∀ x, nodesErr M K N = x → x ≠ 0 → e0 = x) := fun x hx h0 => by
      rcases HE.out with ⟨_, h⟩ | ⟨h, _⟩
      · rw [h, hx]
      · rw [hx] at h; exact absurd h h0
    clear he
    go_enter Try.func53, Try.ntmps53
    go_wp2
    rw [HEW.out]
    go_loopw [4, 5, 6] (fun st ss i wr => ∃ (k : Nat) (z : Int), k ≤ N ∧ i = .int .i64 k ∧ ss = .int .i64 (tally K 1 k : Nat) ∧ st = .int .i64 z ∧ Hid (StIs K k z) ∧ Hid (nodesErr M K k = 0) ∧ Hid (Below W.heap.size W wr)) (fun _ _ i _ => N - (intOf i).toNat)
    case atStart => exact ⟨0, -1, Nat.zero_le _, rfl, rfl, rfl, hid (fun h => absurd h (Nat.lt_irrefl _)), hid rfl, Below.refl _ _⟩
    case round =>
      obtain ⟨k, z, hk, rfl, rfl, rfl, HSt, H0, HB⟩ := hrel
      have ht := tally_le K 1 k
      obtain ⟨hc0, hc1⟩ := HBx.out wr HB.out
      by_cases hlt : k < N
      · obtain ⟨b, o, ha, hc⟩ := (HP.out.below HW.out.1).nds
        obtain rfl := ha (by omega)
        obtain ⟨h2, h3⟩ := Nds.at hc HB.out hlt
        have HC : Hid (∀ i, i < N → W.cell? ⟨b, o + i * 2, none⟩ = some (.string (M i)) ∧ W.cell? ⟨b, o + i * 2 + 1, none⟩ = some (.int .i64 (K i))) := hc
        have C1 : Hid (∀ u, Calls Try.prog 89 #[.string (M k)] u fun e w' => e = .returned (.bool (nameOk (M k))) ∧ w' = u) := fun u => named_any (M k) u (HM.out k hlt)
        have HNx : Hid (nodesErr M K (k + 1) = if nameOk (M k) = true ∧ (1 ≤ K k ∧ K k ≤ 7) then (if fnd k M (M k) = -1 then 0 else 4) else 1) := nodesErr_next H0.out
        have HBr : Hid (Below w.heap.size w wr) := HW.out.1.trans (HB.out.mono HW.out.1.size)
        have hkz : (k : Int) < N := by omega
        clear hc ha
        cases hn : nameOk (M k)
        · have HE1 : Hid (e0 = 1) := HEr.out 1 (nodesErr_at (by rw [HNx.out, hn]; simp) (by decide) hlt) (by decide)
          rw [hn] at C1
          clear hn HNx
          go_wp2_with fail
          refine (C1.out _).mono ?_
          rintro e w1 ⟨rfl, rfl⟩
          go_wp2
          go_ret
          exact ⟨ret_int HE1.out.symm, HBr.out⟩
        · rw [hn] at C1
          by_cases hk1 : K k < 1
          · have HE1 : Hid (e0 = 1) := HEr.out 1 (nodesErr_at (by rw [HNx.out, if_neg (by omega)]) (by decide) hlt) (by decide)
            clear hn HNx
            go_wp2_with fail
            refine (C1.out _).mono ?_
            rintro e w1 ⟨rfl, rfl⟩
            go_wp2
            go_ret
            exact ⟨ret_int HE1.out.symm, HBr.out⟩
          · by_cases hk7 : 7 < K k
            · have HE1 : Hid (e0 = 1) := HEr.out 1 (nodesErr_at (by rw [HNx.out, if_neg (by omega)]) (by decide) hlt) (by decide)
              clear hn HNx
              go_wp2_with fail
              refine (C1.out _).mono ?_
              rintro e w1 ⟨rfl, rfl⟩
              go_wp2
              go_ret
              exact ⟨ret_int HE1.out.symm, HBr.out⟩
            · have HNy : Hid (nodesErr M K (k + 1) = if fnd k M (M k) = -1 then 0 else 4) := by show _ = _; rw [HNx.out, if_pos ⟨hn, by omega, by omega⟩]
              clear hn HNx
              go_wp2_with fail
              refine (C1.out _).mono ?_
              rintro e w1 ⟨rfl, rfl⟩
              clear C1
              go_wp2
              go_loopw [7] (fun j wi => ∃ m : Nat, m ≤ k ∧ j = .int .i64 m ∧ Hid (∀ i, i < m → ((M i).toList == (M k).toList) = false) ∧ Hid (Below W.heap.size W wi)) (fun j _ => k - (intOf j).toNat)
              case atStart => exact ⟨0, Nat.zero_le _, rfl, hid (fun _ hj => absurd hj (Nat.not_lt_zero _)), HB.out⟩
              case round =>
                obtain ⟨m, hm, rfl, HJ, HBi⟩ := hrel
                have HBiw : Hid (Below w.heap.size w wr) := HW.out.1.trans (HBi.out.mono HW.out.1.size)
                clear hc0 hc1 h2 h3
                obtain ⟨hc0, hc1⟩ := HBx.out wr HBi.out
                obtain ⟨h2, h3⟩ := Nds.at HC.out HBi.out hlt
                by_cases hmk : m < k
                · obtain ⟨h4, _⟩ := Nds.at HC.out HBi.out (k := m) (by omega)
                  have hmz : (m : Int) < N := by omega
                  have hmz2 : (m : Int) < k := by omega
                  cases hb : ((M m).toList == (M k).toList)
                  · have HE2 : Hid (((M m).toList == (M k).toList) = false) := hb
                    go_wp2
                    go_quiet (fail)
                    go_wp2
                    go_roundw
                    case rel => exact ⟨m + 1, by omega, by go_num, hid (snoc_all HJ.out HE2.out), below_drewn HBi.out _⟩
                    case measure => simp [intOf]; omega
                  · have HE4 : Hid (e0 = 4) := HEr.out 4 (nodesErr_at (by rw [HNy.out, if_neg (fnd_neg hmk hb)]) (by decide) hlt) (by decide)
                    go_wp2
                    go_quiet (fail)
                    go_wp2
                    go_ret
                    exact ⟨ret_int HE4.out.symm, below_drewn HBiw.out _⟩
                · obtain rfl : k = m := by omega
                  have HN0 : Hid (nodesErr M K (k + 1) = 0) := by show _ = _; rw [HNy.out, if_pos (fnd_none HJ.out)]
                  by_cases hK1 : K k = 1
                  · have HS2 : Hid (StIs K (k + 1) k) := stIs_hit hK1
                    have HT2 : Hid (tally K 1 (k + 1) = tally K 1 k + 1) := tally_hit hK1
                    have hK' : (K k == 1) = true := beq_iff_eq.2 hK1
                    clear hK1
                    go_wp2
                    go_roundw
                    case rel => exact ⟨k + 1, k, by omega, by go_num, by rw [HT2.out]; go_num, rfl, HS2.out, HN0.out, HBi.out⟩
                    case measure => simp [intOf]; omega
                  · have HS2 : Hid (StIs K (k + 1) z) := stIs_miss hK1 HSt.out
                    have HT2 : Hid (tally K 1 (k + 1) = tally K 1 k) := tally_miss hK1
                    have hK' : (K k == 1) = false := beq_eq_false_iff_ne.2 hK1
                    clear hK1
                    go_wp2
                    go_roundw
                    case rel => exact ⟨k + 1, z, by omega, by go_num, by rw [HT2.out], rfl, HS2.out, HN0.out, HBi.out⟩
                    case measure => simp [intOf]; omega
      · obtain rfl : N = k := by omega
        have HE2 : Hid (¬ (endsOk N F A B = true ∧ tally K 1 N = 1 ∧ fitAll N F K A B = true) ∧ e0 = 1 ∨
          (endsOk N F A B = true ∧ tally K 1 N = 1 ∧ fitAll N F K A B = true) ∧ (¬ allCome N F K A B ∧ e0 = 6 ∨ allCome N F K A B ∧ e0 = 0)) := by
          rcases HE.out with ⟨h, _⟩ | ⟨_, h⟩
          · exact absurd H0.out h
          · exact h
        have HKs : Hid (∀ i, i < N → 1 ≤ K i ∧ K i ≤ 7) := nodes_kinds H0.out
        clear HE HEr H0 HM
        go_wp2
        go_loopw [8] (fun i wr => ∃ k : Nat, k ≤ F ∧ i = .int .i64 k ∧ Hid (∀ j, j < k → (0 ≤ A j ∧ A j < N) ∧ (0 ≤ B j ∧ B j < N)) ∧ Hid (Below W.heap.size W wr)) (fun i _ => F - (intOf i).toNat)
        case atStart => exact ⟨0, Nat.zero_le _, rfl, hid (fun _ hj => absurd hj (Nat.not_lt_zero _)), HB.out⟩
        case round =>
          clear hc0 hc1 HB
          obtain ⟨k, hk, rfl, HJ, HB⟩ := hrel
          obtain ⟨hc0, hc1⟩ := HBx.out wr HB.out
          have HBr : Hid (Below w.heap.size w wr) := HW.out.1.trans (HB.out.mono HW.out.1.size)
          by_cases hlt : k < F
          · obtain ⟨b, o, ha, hc⟩ := (HP.out.below HW.out.1).fls
            obtain rfl := ha (by omega)
            obtain ⟨h2, h3⟩ := Fls.at hc HB.out hlt
            have hkz : (k : Int) < F := by omega
            have hk0 : (0 : Int) ≤ (k : Int) := by omega
            have hs1 : w.heap.size < wr.heap.size := by have h1 := HW.out.2; have h2 := HB.out.size; omega
            have C : Hid (∀ u, Row u (some ⟨wr.heap.size, 0, none⟩) 2 (fun i => if i = 0 then A k else B k) → Calls Try.prog 90 #[.slice (some ⟨wr.heap.size, 0, none⟩) 2 2, .int .i64 N] u fun e w' => e = .returned (.bool (decide ((0 ≤ A k ∧ A k < N) ∧ (0 ≤ B k ∧ B k < N)))) ∧ w' = u) := fun u hu => by
              have := inRef_any _ 2 2 _ N u (by omega) hu
              rw [allIn_two] at this
              exact this
            clear hc ha
            by_cases hen : (0 ≤ A k ∧ A k < N) ∧ (0 ≤ B k ∧ B k < N)
            · have HEk : Hid ((0 ≤ A k ∧ A k < N) ∧ (0 ≤ B k ∧ B k < N)) := hen
              rw [decide_eq_true hen] at C
              clear hen
              go_wp2
              go_region_held3 (fun w' => w'.cell? ⟨w.heap.size, 1, none⟩ = some (.slice (some ⟨b, o, none⟩) F fc) ∧ w'.cell? ⟨b, o + k * 2, none⟩ = some (.int .i64 (A k)) ∧ w'.cell? ⟨b, o + k * 2 + 1, none⟩ = some (.int .i64 (B k))) (first | go_keep)
                (first | (go_at_call 90; refine (C.out _ ?_).mono ?_; (exact two_row _ _ _); rintro e w2 ⟨rfl, rfl⟩))
              go_wp2
              go_roundw
              case rel => exact ⟨k + 1, by omega, by go_num, hid (snoc_all HJ.out HEk.out), below_drew_iff.2 (HB.out.alloc HB.out.size _)⟩
              case measure => simp [intOf]; omega
            · have HE1 : Hid (e0 = 1) := by
                rcases HE2.out with ⟨_, h⟩ | ⟨h, _⟩
                · exact h
                · rw [endsOk_no k hlt hen] at h; exact absurd h.1 (by decide)
              rw [decide_eq_false hen] at C
              clear hen
              go_wp2
              go_region_held3 (fun w' => w'.cell? ⟨w.heap.size, 1, none⟩ = some (.slice (some ⟨b, o, none⟩) F fc) ∧ w'.cell? ⟨b, o + k * 2, none⟩ = some (.int .i64 (A k)) ∧ w'.cell? ⟨b, o + k * 2 + 1, none⟩ = some (.int .i64 (B k))) (first | go_keep)
                (first | (go_at_call 90; refine (C.out _ ?_).mono ?_; (exact two_row _ _ _); rintro e w2 ⟨rfl, rfl⟩))
              go_wp2
              go_ret
              exact ⟨ret_int HE1.out.symm, below_drew_iff.2 (HBr.out.alloc HBr.out.size _)⟩
          · skip
            obtain rfl : F = k := by omega
            have HEn : Hid (endsOk N F A B = true) := endsOk_yes (fun i hi => HJ.out i (by omega))
            clear HJ
            by_cases hT : tally K 1 N = 1
            · obtain ⟨r, hz, hr, hKr⟩ := HSt.out (by omega)
              subst hz
              have HR : Hid (r < N ∧ K r = 1 ∧ tally K 1 N = 1) := ⟨hr, hKr, hT⟩
              have hb1 : (((tally K 1 N : Nat) : Int) != 1) = false := by rw [hT]; rfl
              clear hr hKr hT HSt
              go_wp2
              go_loopw [9] (fun i wr => ∃ k : Nat, k ≤ N ∧ i = .int .i64 k ∧ Hid (∀ j : Nat, j < k → fitOk (K j) (tally B j F) (tally A j F) = true) ∧ Hid (Below W.heap.size W wr)) (fun i _ => N - (intOf i).toNat)
              case atStart => exact ⟨0, Nat.zero_le _, rfl, hid (fun _ hj => absurd hj (Nat.not_lt_zero _)), HB.out⟩
              case round =>
                clear hc0 hc1 HB HBr
                obtain ⟨k, hk, rfl, HJ, HB⟩ := hrel
                obtain ⟨hc0, hc1⟩ := HBx.out wr HB.out
                have HBr : Hid (Below w.heap.size w wr) := HW.out.1.trans (HB.out.mono HW.out.1.size)
                by_cases hlt : k < N
                · skip
                  obtain ⟨b, o, ha, hc⟩ := (HP.out.below HW.out.1).nds
                  obtain rfl := ha (by omega)
                  have HC : Hid (∀ i, i < N → W.cell? ⟨b, o + i * 2, none⟩ = some (.string (M i)) ∧ W.cell? ⟨b, o + i * 2 + 1, none⟩ = some (.int .i64 (K i))) := hc
                  have hkz : (k : Int) < N := by omega
                  have HFW : Hid (Fls W fa F A B) := (HP.out.below HW.out.1).fls
                  have CI : Hid (∀ u, Below W.heap.size W u → Calls Try.prog 54 #[.agg #[.slice (some ⟨b, o, none⟩) N nc, .slice fa F fc], .int .i64 k] u fun e w' => (∃ a c, e = .returned (.slice a (tally B k F) c)) ∧ Below W.heap.size W w') := fun u hu =>
                    (flowsIn_any _ fa N nc F fc A B k u (HFW.out.below hu) h1').mono fun e w' ⟨h1, a, c, h2, _⟩ => ⟨⟨a, c, h2⟩, hu.trans (h1.mono hu.size)⟩
                  have CO : Hid (∀ u, Below W.heap.size W u → Calls Try.prog 55 #[.agg #[.slice (some ⟨b, o, none⟩) N nc, .slice fa F fc], .int .i64 k] u fun e w' => (∃ a c, e = .returned (.slice a (tally A k F) c)) ∧ Below W.heap.size W w') := fun u hu =>
                    (flowsOut_any _ fa N nc F fc A B k u (HFW.out.below hu) h1').mono fun e w' ⟨h1, a, c, h2, _⟩ => ⟨⟨a, c, h2⟩, hu.trans (h1.mono hu.size)⟩
                  have HE1 : Hid (fitOk (K k) (tally B k F) (tally A k F) = false → e0 = 1) := fun hfit => by
                    rcases HE2.out with ⟨_, h⟩ | ⟨h, _⟩
                    · exact h
                    · rw [fitAll_no k hlt hfit] at h; exact absurd h.2.2 (by decide)
                  have htB30 := tally_le B k F
                  have htA30 := tally_le A k F
                  clear hc ha
                  generalize htB : tally B k F = tB at *
                  generalize htA : tally A k F = tA at *
                  have HTT : Hid (tally B k F = tB ∧ tally A k F = tA) := ⟨htB, htA⟩
                  clear htA htB
                  go_wp2
                  go_region_held3 (fun w' => w'.cell? ⟨w.heap.size, 0, none⟩ = some (.slice (some ⟨b, o, none⟩) N nc) ∧ w'.cell? ⟨w.heap.size, 1, none⟩ = some (.slice fa F fc)) (first | go_keep)
                    (first
                      | (go_at_call 54; refine (CI.out _ ?_).mono ?_; (first | exact below_drew_iff.2 HB.out | exact hbo); rintro e w2 ⟨⟨ai, ci, rfl⟩, hbi⟩; obtain ⟨gi0, gi1⟩ := HBx.out _ hbi)
                      | (go_at_call 55; refine (CO.out _ ?_).mono ?_; (first | exact below_drew_iff.2 HB.out | exact hbi); rintro e w3 ⟨⟨ao, co, rfl⟩, hbo⟩; obtain ⟨go0, go1⟩ := HBx.out _ hbo))
                  have HB3 : Hid (Below W.heap.size W w3) := hbo
                  have HBr3 : Hid (Below w.heap.size w w3) := HW.out.1.trans (hbo.mono HW.out.1.size)
                  obtain ⟨h5, h6⟩ := Nds.at HC.out hbo hlt
                  clear hbi hbo gi0 gi1 hc0 hc1 CI CO HC HFW
                  have hk17 := HKs.out k hlt
                  rcases (by omega : K k = 1 ∨ K k = 2 ∨ K k = 3 ∨ K k = 4 ∨ K k = 5 ∨ K k = 6 ∨ K k = 7) with hkind | hkind | hkind | hkind | hkind | hkind | hkind
                  · clear hk17
                    have HKc : Hid (K k = 1) := hkind
                    rw [hkind] at h6
                    clear hkind
                    by_cases ha : tB = 0
                    · by_cases hb : tA = 0
                      · subst ha
                        subst hb
                        have HFt : Hid (fitOk (K k) 0 0 = false) := by show _ = _; rw [HKc.out]; simp [fitOk] <;> omega
                        go_wp2
                        go_ret
                        exact ⟨ret_int (HE1.out HFt.out).symm, HBr3.out⟩
                      · have hbn0 := hb
                        clear hb
                        by_cases hb : tA = 1
                        · subst ha
                          subst hb
                          have HFt : Hid (fitOk (K k) 0 1 = true) := by show _ = _; rw [HKc.out]; simp [fitOk] <;> omega
                          go_wp2
                          go_roundw
                          case rel => exact ⟨k + 1, by omega, by go_num, hid (snoc_all HJ.out (by rw [HTT.out.1, HTT.out.2]; exact HFt.out)), HB3.out⟩
                          case measure => simp [intOf]; omega
                        · have hbn1 := hb
                          clear hb
                          have hb : 2 ≤ tA := by omega
                          subst ha
                          have ib : (0 : Int) < (tA : Int) := by omega
                          have hnA : 0 < tA := by omega
                          have iq0 : ((tA : Int) == 0) = false := beq_eq_false_iff_ne.2 (by omega)
                          have iq1 : ((tA : Int) == 1) = false := beq_eq_false_iff_ne.2 (by omega)
                          have HFt : Hid (fitOk (K k) 0 tA = false) := by show _ = _; rw [HKc.out]; simp [fitOk] <;> omega
                          go_wp2
                          go_ret
                          exact ⟨ret_int (HE1.out HFt.out).symm, HBr3.out⟩
                    · have ha1 : 1 ≤ tB := by omega
                      clear ha
                      by_cases hb : tA = 0
                      · have ia : (0 : Int) < (tB : Int) := by omega
                        have hnB : 0 < tB := by omega
                        have iq : ((tB : Int) == 0) = false := beq_eq_false_iff_ne.2 (by omega)
                        subst hb
                        have HFt : Hid (fitOk (K k) tB 0 = false) := by show _ = _; rw [HKc.out]; simp [fitOk] <;> omega
                        go_wp2
                        go_ret
                        exact ⟨ret_int (HE1.out HFt.out).symm, HBr3.out⟩
                      · have hbn0 := hb
                        clear hb
                        have hb : 1 ≤ tA := by omega
                        have ia : (0 : Int) < (tB : Int) := by omega
                        have hnB : 0 < tB := by omega
                        have iq : ((tB : Int) == 0) = false := beq_eq_false_iff_ne.2 (by omega)
                        have ib : (0 : Int) < (tA : Int) := by omega
                        have hnA : 0 < tA := by omega
                        have iq0 : ((tA : Int) == 0) = false := beq_eq_false_iff_ne.2 (by omega)
                        have HFt : Hid (fitOk (K k) tB tA = false) := by show _ = _; rw [HKc.out]; simp [fitOk] <;> omega
                        go_wp2
                        go_ret
                        exact ⟨ret_int (HE1.out HFt.out).symm, HBr3.out⟩
                  · clear hk17
                    have HKc : Hid (K k = 2) := hkind
                    rw [hkind] at h6
                    clear hkind
                    by_cases ha : tB = 0
                    · subst ha
                      have HFt : Hid (fitOk (K k) 0 tA = false) := by show _ = _; rw [HKc.out]; simp [fitOk] <;> omega
                      go_wp2
                      go_ret
                      exact ⟨ret_int (HE1.out HFt.out).symm, HBr3.out⟩
                    · have ha1 : 1 ≤ tB := by omega
                      clear ha
                      by_cases hb : tA = 0
                      · have ia : (0 : Int) < (tB : Int) := by omega
                        have hnB : 0 < tB := by omega
                        have iq : ((tB : Int) == 0) = false := beq_eq_false_iff_ne.2 (by omega)
                        subst hb
                        have HFt : Hid (fitOk (K k) tB 0 = true) := by show _ = _; rw [HKc.out]; simp [fitOk] <;> omega
                        go_wp2
                        go_roundw
                        case rel => exact ⟨k + 1, by omega, by go_num, hid (snoc_all HJ.out (by rw [HTT.out.1, HTT.out.2]; exact HFt.out)), HB3.out⟩
                        case measure => simp [intOf]; omega
                      · have hbn0 := hb
                        clear hb
                        have hb : 1 ≤ tA := by omega
                        have ia : (0 : Int) < (tB : Int) := by omega
                        have hnB : 0 < tB := by omega
                        have iq : ((tB : Int) == 0) = false := beq_eq_false_iff_ne.2 (by omega)
                        have ib : (0 : Int) < (tA : Int) := by omega
                        have hnA : 0 < tA := by omega
                        have iq0 : ((tA : Int) == 0) = false := beq_eq_false_iff_ne.2 (by omega)
                        have HFt : Hid (fitOk (K k) tB tA = false) := by show _ = _; rw [HKc.out]; simp [fitOk] <;> omega
                        go_wp2
                        go_ret
                        exact ⟨ret_int (HE1.out HFt.out).symm, HBr3.out⟩
                  · clear hk17
                    have HKc : Hid (K k = 3) := hkind
                    rw [hkind] at h6
                    clear hkind
                    by_cases ha : tB = 0
                    · subst ha
                      have HFt : Hid (fitOk (K k) 0 tA = false) := by show _ = _; rw [HKc.out]; simp [fitOk] <;> omega
                      go_wp2
                      go_ret
                      exact ⟨ret_int (HE1.out HFt.out).symm, HBr3.out⟩
                    · have ha1 : 1 ≤ tB := by omega
                      clear ha
                      by_cases hb : tA = 0
                      · have ia : (0 : Int) < (tB : Int) := by omega
                        have hnB : 0 < tB := by omega
                        have iq : ((tB : Int) == 0) = false := beq_eq_false_iff_ne.2 (by omega)
                        subst hb
                        have HFt : Hid (fitOk (K k) tB 0 = true) := by show _ = _; rw [HKc.out]; simp [fitOk] <;> omega
                        go_wp2
                        go_roundw
                        case rel => exact ⟨k + 1, by omega, by go_num, hid (snoc_all HJ.out (by rw [HTT.out.1, HTT.out.2]; exact HFt.out)), HB3.out⟩
                        case measure => simp [intOf]; omega
                      · have hbn0 := hb
                        clear hb
                        have hb : 1 ≤ tA := by omega
                        have ia : (0 : Int) < (tB : Int) := by omega
                        have hnB : 0 < tB := by omega
                        have iq : ((tB : Int) == 0) = false := beq_eq_false_iff_ne.2 (by omega)
                        have ib : (0 : Int) < (tA : Int) := by omega
                        have hnA : 0 < tA := by omega
                        have iq0 : ((tA : Int) == 0) = false := beq_eq_false_iff_ne.2 (by omega)
                        have HFt : Hid (fitOk (K k) tB tA = false) := by show _ = _; rw [HKc.out]; simp [fitOk] <;> omega
                        go_wp2
                        go_ret
                        exact ⟨ret_int (HE1.out HFt.out).symm, HBr3.out⟩
                  · clear hk17
                    have HKc : Hid (K k = 4) := hkind
                    rw [hkind] at h6
                    clear hkind
                    by_cases ha : tB = 0
                    · subst ha
                      have HFt : Hid (fitOk (K k) 0 tA = false) := by show _ = _; rw [HKc.out]; simp [fitOk] <;> omega
                      go_wp2
                      go_ret
                      exact ⟨ret_int (HE1.out HFt.out).symm, HBr3.out⟩
                    · have ha1 : 1 ≤ tB := by omega
                      clear ha
                      by_cases hb : tA = 0
                      · have ia : (0 : Int) < (tB : Int) := by omega
                        have hnB : 0 < tB := by omega
                        have iq : ((tB : Int) == 0) = false := beq_eq_false_iff_ne.2 (by omega)
                        subst hb
                        have HFt : Hid (fitOk (K k) tB 0 = false) := by show _ = _; rw [HKc.out]; simp [fitOk] <;> omega
                        go_wp2
                        go_ret
                        exact ⟨ret_int (HE1.out HFt.out).symm, HBr3.out⟩
                      · have hbn0 := hb
                        clear hb
                        by_cases hb : tA = 1
                        · have ia : (0 : Int) < (tB : Int) := by omega
                          have hnB : 0 < tB := by omega
                          have iq : ((tB : Int) == 0) = false := beq_eq_false_iff_ne.2 (by omega)
                          subst hb
                          have HFt : Hid (fitOk (K k) tB 1 = true) := by show _ = _; rw [HKc.out]; simp [fitOk] <;> omega
                          go_wp2
                          go_roundw
                          case rel => exact ⟨k + 1, by omega, by go_num, hid (snoc_all HJ.out (by rw [HTT.out.1, HTT.out.2]; exact HFt.out)), HB3.out⟩
                          case measure => simp [intOf]; omega
                        · have hbn1 := hb
                          clear hb
                          have hb : 2 ≤ tA := by omega
                          have ia : (0 : Int) < (tB : Int) := by omega
                          have hnB : 0 < tB := by omega
                          have iq : ((tB : Int) == 0) = false := beq_eq_false_iff_ne.2 (by omega)
                          have ib : (0 : Int) < (tA : Int) := by omega
                          have hnA : 0 < tA := by omega
                          have iq0 : ((tA : Int) == 0) = false := beq_eq_false_iff_ne.2 (by omega)
                          have iq1 : ((tA : Int) == 1) = false := beq_eq_false_iff_ne.2 (by omega)
                          have HFt : Hid (fitOk (K k) tB tA = false) := by show _ = _; rw [HKc.out]; simp [fitOk] <;> omega
                          go_wp2
                          go_ret
                          exact ⟨ret_int (HE1.out HFt.out).symm, HBr3.out⟩
                  · clear hk17
                    have HKc : Hid (K k = 5) := hkind
                    rw [hkind] at h6
                    clear hkind
                    by_cases ha : tB = 0
                    · subst ha
                      have HFt : Hid (fitOk (K k) 0 tA = false) := by show _ = _; rw [HKc.out]; simp [fitOk] <;> omega
                      go_wp2
                      go_ret
                      exact ⟨ret_int (HE1.out HFt.out).symm, HBr3.out⟩
                    · have ha1 : 1 ≤ tB := by omega
                      clear ha
                      by_cases hb : tA = 0
                      · have ia : (0 : Int) < (tB : Int) := by omega
                        have hnB : 0 < tB := by omega
                        have iq : ((tB : Int) == 0) = false := beq_eq_false_iff_ne.2 (by omega)
                        subst hb
                        have HFt : Hid (fitOk (K k) tB 0 = false) := by show _ = _; rw [HKc.out]; simp [fitOk] <;> omega
                        go_wp2
                        go_ret
                        exact ⟨ret_int (HE1.out HFt.out).symm, HBr3.out⟩
                      · have hbn0 := hb
                        clear hb
                        have hb : 1 ≤ tA := by omega
                        have ia : (0 : Int) < (tB : Int) := by omega
                        have hnB : 0 < tB := by omega
                        have iq : ((tB : Int) == 0) = false := beq_eq_false_iff_ne.2 (by omega)
                        have ib : (0 : Int) < (tA : Int) := by omega
                        have hnA : 0 < tA := by omega
                        have iq0 : ((tA : Int) == 0) = false := beq_eq_false_iff_ne.2 (by omega)
                        have HFt : Hid (fitOk (K k) tB tA = true) := by show _ = _; rw [HKc.out]; simp [fitOk] <;> omega
                        go_wp2
                        go_roundw
                        case rel => exact ⟨k + 1, by omega, by go_num, hid (snoc_all HJ.out (by rw [HTT.out.1, HTT.out.2]; exact HFt.out)), HB3.out⟩
                        case measure => simp [intOf]; omega
                  · clear hk17
                    have HKc : Hid (K k = 6) := hkind
                    rw [hkind] at h6
                    clear hkind
                    by_cases ha : tB = 0
                    · subst ha
                      have HFt : Hid (fitOk (K k) 0 tA = false) := by show _ = _; rw [HKc.out]; simp [fitOk] <;> omega
                      go_wp2
                      go_ret
                      exact ⟨ret_int (HE1.out HFt.out).symm, HBr3.out⟩
                    · have ha1 : 1 ≤ tB := by omega
                      clear ha
                      by_cases hb : tA = 0
                      · have ia : (0 : Int) < (tB : Int) := by omega
                        have hnB : 0 < tB := by omega
                        have iq : ((tB : Int) == 0) = false := beq_eq_false_iff_ne.2 (by omega)
                        subst hb
                        have HFt : Hid (fitOk (K k) tB 0 = false) := by show _ = _; rw [HKc.out]; simp [fitOk] <;> omega
                        go_wp2
                        go_ret
                        exact ⟨ret_int (HE1.out HFt.out).symm, HBr3.out⟩
                      · have hbn0 := hb
                        clear hb
                        have hb : 1 ≤ tA := by omega
                        have ia : (0 : Int) < (tB : Int) := by omega
                        have hnB : 0 < tB := by omega
                        have iq : ((tB : Int) == 0) = false := beq_eq_false_iff_ne.2 (by omega)
                        have ib : (0 : Int) < (tA : Int) := by omega
                        have hnA : 0 < tA := by omega
                        have iq0 : ((tA : Int) == 0) = false := beq_eq_false_iff_ne.2 (by omega)
                        have HFt : Hid (fitOk (K k) tB tA = true) := by show _ = _; rw [HKc.out]; simp [fitOk] <;> omega
                        go_wp2
                        go_roundw
                        case rel => exact ⟨k + 1, by omega, by go_num, hid (snoc_all HJ.out (by rw [HTT.out.1, HTT.out.2]; exact HFt.out)), HB3.out⟩
                        case measure => simp [intOf]; omega
                  · clear hk17
                    have HKc : Hid (K k = 7) := hkind
                    rw [hkind] at h6
                    clear hkind
                    by_cases ha : tB = 0
                    · subst ha
                      have HFt : Hid (fitOk (K k) 0 tA = false) := by show _ = _; rw [HKc.out]; simp [fitOk] <;> omega
                      go_wp2
                      go_ret
                      exact ⟨ret_int (HE1.out HFt.out).symm, HBr3.out⟩
                    · have ha1 : 1 ≤ tB := by omega
                      clear ha
                      by_cases hb : tA = 0
                      · have ia : (0 : Int) < (tB : Int) := by omega
                        have hnB : 0 < tB := by omega
                        have iq : ((tB : Int) == 0) = false := beq_eq_false_iff_ne.2 (by omega)
                        subst hb
                        have HFt : Hid (fitOk (K k) tB 0 = false) := by show _ = _; rw [HKc.out]; simp [fitOk] <;> omega
                        go_wp2
                        go_ret
                        exact ⟨ret_int (HE1.out HFt.out).symm, HBr3.out⟩
                      · have hbn0 := hb
                        clear hb
                        by_cases hb : 1 ≤ tA ∧ tA ≤ 4
                        · have ia : (0 : Int) < (tB : Int) := by omega
                          have hnB : 0 < tB := by omega
                          have iq : ((tB : Int) == 0) = false := beq_eq_false_iff_ne.2 (by omega)
                          have ib : (0 : Int) < (tA : Int) := by omega
                          have hnA : 0 < tA := by omega
                          have iq0 : ((tA : Int) == 0) = false := beq_eq_false_iff_ne.2 (by omega)
                          have ib4 : (tA : Int) ≤ 4 := by omega
                          have HFt : Hid (fitOk (K k) tB tA = true) := by show _ = _; rw [HKc.out]; simp [fitOk] <;> omega
                          go_wp2
                          go_roundw
                          case rel => exact ⟨k + 1, by omega, by go_num, hid (snoc_all HJ.out (by rw [HTT.out.1, HTT.out.2]; exact HFt.out)), HB3.out⟩
                          case measure => simp [intOf]; omega
                        · have hbn1 := hb
                          clear hb
                          have hb : 5 ≤ tA := by omega
                          have ia : (0 : Int) < (tB : Int) := by omega
                          have hnB : 0 < tB := by omega
                          have iq : ((tB : Int) == 0) = false := beq_eq_false_iff_ne.2 (by omega)
                          have ib : (0 : Int) < (tA : Int) := by omega
                          have hnA : 0 < tA := by omega
                          have iq0 : ((tA : Int) == 0) = false := beq_eq_false_iff_ne.2 (by omega)
                          have ib4 : ¬ (tA : Int) ≤ 4 := by omega
                          have HFt : Hid (fitOk (K k) tB tA = false) := by show _ = _; rw [HKc.out]; simp [fitOk] <;> omega
                          go_wp2
                          go_ret
                          exact ⟨ret_int (HE1.out HFt.out).symm, HBr3.out⟩
                · skip
                  obtain rfl : N = k := by omega
                  have HFi : Hid (fitAll N F K A B = true) := fitAll_yes (fun i hi => HJ.out i (by omega))
                  have HE3 : Hid (allCome N F K A B ∧ e0 = 0 ∨ ¬ allCome N F K A B ∧ e0 = 6) := by
                    rcases HE2.out with ⟨h, _⟩ | ⟨_, h | h⟩
                    · exact absurd ⟨HEn.out, HR.out.2.2, HFi.out⟩ h
                    · exact Or.inr h
                    · exact Or.inl h
                  have HEa : Hid (∀ i, i < F → (0 ≤ A i ∧ A i < N) ∧ (0 ≤ B i ∧ B i < N)) := endsOk_all HEn.out
                  clear HJ HE2 HFi HEn
                  have hmk := run_make_row' (P := Try.prog) 48 4 (.bool false) 1 Try.underlying48 Try.info4 rfl .i64 .i64 N (by omega) (by omega)
                  obtain ⟨w5, e5⟩ : ∃ x, x = wr := ⟨_, rfl⟩
                  rw [← e5] at HB HBr hc0 hc1
                  rw [← e5]
                  clear e5
                  have hrN : (r : Int) < N := by have := HR.out.1; omega
                  have hsr : w5.heap.size < (w5.alloc (.cells (madeCells #[.bool false] N) 4)).heap.size := by simp
                  have hrow0 := World.rowIs_made w5 (.bool false) N 4
                  have hcr : (w5.alloc (.cells (madeCells #[.bool false] N) 4)).cell? ⟨w5.heap.size, r, none⟩ = some (.bool false) := hrow0.cell HR.out.1
                  have hfr : (w5.alloc (.cells (madeCells #[.bool false] N) 4)).frozen? ⟨w5.heap.size, r, none⟩ = false := hrow0.frozen r
                  have HS0 : Hid (Below w5.heap.size w5 (w5.alloc (.cells ((madeCells #[.bool false] N).setIfInBounds r (.bool true)) 4)) ∧ (w5.alloc (.cells ((madeCells #[.bool false] N).setIfInBounds r (.bool true)) 4)).rowIs w5.heap.size 4 N (fun i => .bool (updB (fun _ => false) r i))) :=
                    ⟨box_below _ _, seen_row w5 N r HR.out.1⟩
                  clear hrow0
                  go_wp2
                  clear hmk hcr hfr hsr
                  go_loopw [14] (fun i wx => ∃ q : Nat, q ≤ N ∧ i = .int .i64 q ∧ Hid (∃ s : Nat → Bool, Below w5.heap.size w5 wx ∧ wx.rowIs w5.heap.size 4 N (fun i => .bool (s i)) ∧ Snd N F K A B s ∧ Ot N F A B s q ∧ s r = true)) (fun i _ => N - (intOf i).toNat)
                  case atStart => exact ⟨0, Nat.zero_le _, rfl, hid ⟨_, HS0.out.1, HS0.out.2, snd_start HR.out.1 HR.out.2.1, ot_start HR.out.1, by simp [updB]⟩⟩
                  case round =>
                    obtain ⟨q, hq, rfl, HQ⟩ := hrel
                    by_cases hqlt : q < N
                    · obtain ⟨s0, hq1, hq2, hq3, hq4, hq5⟩ := HQ.out
                      have HQ0 : Hid (Below w5.heap.size w5 wr ∧ wr.rowIs w5.heap.size 4 N (fun i => .bool (s0 i)) ∧ Snd N F K A B s0 ∧ Ot N F A B s0 q ∧ s0 r = true) := ⟨hq1, hq2, hq3, hq4, hq5⟩
                      clear hq1 hq2 hq3 hq4 hq5 HQ
                      go_wp2
                      go_loopw [15] (fun i wx => ∃ k : Nat, k ≤ F ∧ i = .int .i64 k ∧ Hid (∃ s : Nat → Bool, Below w5.heap.size w5 wx ∧ wx.rowIs w5.heap.size 4 N (fun i => .bool (s i)) ∧ Snd N F K A B s ∧ Rd N F A B s0 s k ∧ s r = true)) (fun i _ => F - (intOf i).toNat)
                      case atStart => exact ⟨0, Nat.zero_le _, rfl, hid ⟨s0, HQ0.out.1, HQ0.out.2.1, HQ0.out.2.2.1, rd_start N F A B s0, HQ0.out.2.2.2.2⟩⟩
                      case round =>
                        obtain ⟨k, hk, rfl, HI⟩ := hrel
                        obtain ⟨s, hi1, hi2, hi3, hi4, hi5⟩ := HI.out
                        have HI0 : Hid (Below w5.heap.size w5 wr ∧ wr.rowIs w5.heap.size 4 N (fun i => .bool (s i)) ∧ Snd N F K A B s ∧ Rd N F A B s0 s k ∧ s r = true) := ⟨hi1, hi2, hi3, hi4, hi5⟩
                        have HBW : Hid (Below W.heap.size W wr) := HB.out.trans (hi1.mono HB.out.size)
                        clear hi1 hi2 hi3 hi4 hi5 HI hc0 hc1
                        obtain ⟨hc0, hc1⟩ := HBx.out wr HBW.out
                        by_cases hlt : k < F
                        · obtain ⟨b, o, ha, hc⟩ := (HP.out.below HW.out.1).fls
                          obtain rfl := ha (by omega)
                          obtain ⟨h2, h3⟩ := Fls.at hc HBW.out hlt
                          have hE := HEa.out k hlt
                          obtain ⟨x, hx⟩ : ∃ x : Nat, B k = x := ⟨(B k).toNat, by omega⟩
                          obtain ⟨y, hy⟩ : ∃ y : Nat, A k = y := ⟨(A k).toNat, by omega⟩
                          have HX : Hid (B k = x ∧ A k = y ∧ x < N ∧ (B k).toNat = x ∧ (A k).toNat = y) := ⟨hx, hy, by omega, by omega, by omega⟩
                          have hxN : (x : Int) < N := by omega
                          have hyN : (y : Int) < N := by omega
                          have hkz : (k : Int) < F := by omega
                          have h4 : wr.cell? ⟨w5.heap.size, y, none⟩ = some (.bool (s y)) := HI0.out.2.1.cell (by omega)
                          have h5 : wr.cell? ⟨w5.heap.size, x, none⟩ = some (.bool (s x)) := HI0.out.2.1.cell (by omega)
                          have h6 : wr.frozen? ⟨w5.heap.size, x, none⟩ = false := HI0.out.2.1.frozen x
                          rw [hx] at h3
                          rw [hy] at h2
                          clear hc ha hE hx hy
                          cases hs : s y
                          · have HSy : Hid (s (A k).toNat = false) := by show _ = _; rw [HX.out.2.2.2.2]; exact hs
                            rw [hs] at h4
                            clear hs h5 h6
                            go_wp2
                            go_roundw
                            case rel => exact ⟨k + 1, by omega, by go_num, hid ⟨s, HI0.out.1, HI0.out.2.1, HI0.out.2.2.1, rd_no HI0.out.2.2.2.1 HSy.out, HI0.out.2.2.2.2⟩⟩
                            case measure => simp [intOf]; omega
                          · have HSy : Hid (s (A k).toNat = true ∧ s y = true) := by refine ⟨?_, hs⟩; rw [HX.out.2.2.2.2]; exact hs
                            rw [hs] at h4
                            clear hs
                            go_wp2
                            go_roundw
                            case rel =>
                              refine ⟨k + 1, by omega, by go_num, hid ⟨updB s x, HI0.out.1.setCell (Nat.le_refl _) _, (HI0.out.2.1.set x (.bool true)).congr (fun i _ => by by_cases e : i = x <;> simp [updB, e]), snd_step HI0.out.2.2.1 hlt HX.out.2.1 HX.out.1 HSy.out.2, rd_yes HI0.out.2.2.2.1 hlt HSy.out.1 HX.out.2.2.2.1 HX.out.2.2.1, ?_⟩⟩
                              unfold updB
                              split
                              · rfl
                              · exact HI0.out.2.2.2.2
                            case measure => simp [intOf]; omega
                        · obtain rfl : F = k := by omega
                          go_wp2
                          go_roundw
                          case rel => exact ⟨q + 1, by omega, by go_num, hid ⟨s, HI0.out.1, HI0.out.2.1, HI0.out.2.2.1, rd_end HI0.out.2.2.2.1 HQ0.out.2.2.2.1, HI0.out.2.2.2.2⟩⟩
                          case measure => simp [intOf]; omega
                    · obtain rfl : N = q := by omega
                      obtain ⟨s, hq1, hq2, hq3, hq4, hq5⟩ := HQ.out
                      have HBf : Hid (Below w.heap.size w wr) := HBr.out.trans (hq1.mono HBr.out.size)
                      have HAc : Hid (hasB N s false = false ↔ allCome N F K A B) := seen_end HR.out.2.2 HR.out.1 HR.out.2.1 hq5 (ot_end hq4) hq3
                      have C9 : Hid (Calls Try.prog 15 #[.slice (some ⟨w5.heap.size, 0, none⟩) N N, .bool false] wr fun e w' => e = .returned (.bool (hasB N s false)) ∧ w' = wr) := containsB_any _ N N s wr hN (rowb_of_rowIs hq2)
                      clear hq1 hq2 hq3 hq4 hq5 HQ
                      cases hh : hasB N s false
                      · have HE0 : Hid (e0 = 0) := by
                          rcases HE3.out with ⟨_, h⟩ | ⟨h, _⟩
                          · exact h
                          · exact absurd (HAc.out.1 hh) h
                        rw [hh] at C9
                        clear hh HAc
                        go_wp2_with fail
                        refine C9.out.mono ?_
                        rintro e w9 ⟨rfl, rfl⟩
                        go_wp2
                        go_ret
                        exact ⟨ret_int HE0.out.symm, HBf.out⟩
                      · have HE6 : Hid (e0 = 6) := by
                          rcases HE3.out with ⟨h, _⟩ | ⟨_, h⟩
                          · have := HAc.out.2 h; rw [hh] at this; cases this
                          · exact h
                        rw [hh] at C9
                        clear hh HAc
                        go_wp2_with fail
                        refine C9.out.mono ?_
                        rintro e w9 ⟨rfl, rfl⟩
                        go_wp2
                        go_ret
                        exact ⟨ret_int HE6.out.symm, HBf.out⟩
            · have HE1 : Hid (e0 = 1) := by
                rcases HE2.out with ⟨_, h⟩ | ⟨h, _⟩
                · exact h
                · exact absurd h.2.1 hT
              have hb1 : (((tally K 1 N : Nat) : Int) != 1) = true := by rw [bne_iff_ne]; omega
              clear hT
              go_wp2
              go_ret
              exact ⟨ret_int HE1.out.symm, HBr.out⟩

end Go.Proofs.Ythpbgfodejoecaa
