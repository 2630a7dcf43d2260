/- allBits, singles, choices, pairs, each by its contract. -/
import Derived.Test.YthpbgfodejoecaaSteps
namespace Go.Proofs.Ythpbgfodejoecaa
open Go.RowKit

theorem pow_le {o : Nat} (h : o ≤ 30) : (2 : Int) ^ o ≤ 1073741824 := by
  have h1 : 2 ^ o ≤ 1073741824 := two_pow_le h
  have h2 : ((2 ^ o : Nat) : Int) ≤ ((1073741824 : Nat) : Int) := Int.ofNat_le.2 h1
  simpa using h2

theorem wrap_pow {o : Nat} (h : o ≤ 30) : wrap64 (2 ^ o) = 2 ^ o := by
  have h1 := pow_le h
  have h2 := two_pos o
  unfold wrap64; omega

theorem wrap_pow' {o : Nat} (h : o ≤ 30) : wrap64 (2 ^ o - 1) = 2 ^ o - 1 := by
  have h1 := pow_le h
  have h2 := two_pos o
  unfold wrap64; omega

theorem allBits_any (o : Nat) (w : World) (ho : o ≤ 30) : Calls Try.prog 86 #[.int .i64 o] w fun e w' => e = .returned (.int .i64 (2 ^ o - 1)) ∧ w' = w := by
  have h1 := wrap_pow ho
  have h2 := wrap_pow' ho
  go_enter Try.func86, Try.ntmps86
  go_wp2
  go_ret
  exact ⟨ret_int h2, rfl⟩

theorem owns_row' {w : World} {B n c : Nat} {a : Option Addr} {l : List Int} (hn : n = l.length) (h : w.ownsRow B 3 1 (.slice a n c) n (vals l)) : Row w a n (fun i => l.getD i 0) := by
  subst hn
  obtain ⟨a', c', e, hr⟩ := owns_row h
  cases e
  exact hr

theorem owns_sts' {w : World} {B n c : Nat} {a : Option Addr} {l : List St3} (hn : n = l.length) (h : w.ownsRow B 66 3 (.slice a n c) n (vals3 l)) : Sts w a n (fun i => l.getD i (0, 0, 0)) := by
  subst hn
  obtain ⟨a', c', e, hr⟩ := owns_sts h
  cases e
  exact hr

/-- What a list of numbers that grows by one looks like in memory. -/
theorem list_step {w0 wr w1 : World} {v v' : Value} {l : List Int} {n : Nat} {x : Int} {o : Obj} (hb : Below w0.heap.size w0 wr) (ho : wr.ownsRow w0.heap.size 3 1 v n (vals l))
    (hown : w1.ownsRow w0.heap.size 3 1 v' (n + 1) (vals l ++ [.int .i64 x])) (hgrow : (wr.alloc o).grownBy w1 v.ownBlock) :
    (∃ a c, v' = .slice a (n + 1) c) ∧ Hid (Below w0.heap.size w0 w1 ∧ w1.ownsRow w0.heap.size 3 1 v' (n + 1) (vals (l ++ [x]))) := by
  refine ⟨?_, hid ⟨?_, ?_⟩⟩
  · rcases hown.2 with ⟨_, h0⟩ | ⟨g, cap, cur, rfl, _⟩
    · omega
    · exact ⟨_, _, rfl⟩
  · exact hb.grown ((World.grownBy_alloc _ _ _).trans hgrow) hb.size (fun b h => (ho.lt b h).1)
  · rw [← vals_snoc]
    exact hown

/-- And a list of steps. -/
theorem sts_step {w0 wr w1 : World} {v v' : Value} {l : List St3} {n : Nat} {t : St3} {o : Obj} (hb : Below w0.heap.size w0 wr) (ho : wr.ownsRow w0.heap.size 66 3 v n (vals3 l))
    (hown : w1.ownsRow w0.heap.size 66 3 v' (n + 1) (vals3 l ++ val3 t)) (hgrow : (wr.alloc o).grownBy w1 v.ownBlock) :
    (∃ a c, v' = .slice a (n + 1) c) ∧ Hid (Below w0.heap.size w0 w1 ∧ w1.ownsRow w0.heap.size 66 3 v' (n + 1) (vals3 (l ++ [t]))) := by
  refine ⟨?_, hid ⟨?_, ?_⟩⟩
  · rcases hown.2 with ⟨_, h0⟩ | ⟨g, cap, cur, rfl, _⟩
    · omega
    · exact ⟨_, _, rfl⟩
  · exact hb.grown ((World.grownBy_alloc _ _ _).trans hgrow) hb.size (fun b h => (ho.lt b h).1)
  · rw [← vals3_snoc]
    exact hown

set_option maxHeartbeats 1000000 in
theorem singles_any (o : Nat) (w : World) (ho : o ≤ 30) : Calls Try.prog 85 #[.int .i64 o] w fun e w' => Below w.heap.size w w' ∧ ∃ a c, e = .returned (.slice a o c) ∧ Row w' a o (fun i => (sng o).getD i 0) := by
  obtain ⟨i0, hi, hz0, hz1, hz2⟩ := info_parts Try.info3
  have HI : Hid (Try.prog.info? 3 = some i0 ∧ i0.zero = some (.int .i64 0) ∧ i0.size = 1 ∧ i0.bytes = 8) := ⟨hi, hz0, hz1, hz2⟩
  clear hi hz0 hz1 hz2
  go_enter Try.func85, Try.ntmps85
  go_wp2
  go_loopw [3, 6] (fun v i wr => ∃ (k : Nat) (va : Option Addr) (vc : Nat), k ≤ o ∧ i = .int .i64 k ∧ v = .slice va k vc ∧ Hid (Below w.heap.size w wr ∧ wr.ownsRow w.heap.size 3 1 (.slice va k vc) k (vals (sng k)))) (fun _ i _ => o - (intOf i).toNat)
  case atStart => exact ⟨0, none, 0, Nat.zero_le _, rfl, rfl, hid ⟨Below.refl _ _, World.ownsRow_nil _ _ _ _⟩⟩
  case round =>
    obtain ⟨k, va, vc, hk, rfl, rfl, HS⟩ := hrel
    by_cases hlt : k < o
    · have h1 := wrap_pow (o := k) (by omega)
      have HSz : Hid (w.heap.size ≤ wr.heap.size) := HS.out.1.size
      go_wp2_with (at_builtin; refine wpList_append_own_at _ rfl _ _ 26 rfl w.heap.size 3 i0 (.int .i64 0) 1 8 Try.underlying26 HI.out.1 HI.out.2.1 HI.out.2.2.1 HI.out.2.2.2 rfl (by decide) _ _ _ rfl (HS.out.2.alloc _) ⟨wr.heap.size, 0, none⟩ 1 1 [.int .i64 (2 ^ k)] rfl rfl (cell_one_new _ _ _) (ints_oneCell .i64 [(2 ^ k : Int)]) (by unfold maxLen; omega) (by omega) (by have := HSz.out; simp; omega) ?_; intro v' w4 hown hgrow _ _; obtain ⟨⟨a4, c4, rfl⟩, H4⟩ := list_step HS.out.1 HS.out.2 hown hgrow; clear hown hgrow)
      go_roundw
      case rel => exact ⟨k + 1, a4, c4, by omega, by go_num, rfl, H4⟩
      case measure => simp [intOf]; omega
    · obtain rfl : o = k := by omega
      go_wp2
      go_ret
      exact ⟨HS.out.1, va, vc, rfl, owns_row' (sng_len o).symm HS.out.2⟩

set_option maxHeartbeats 1000000 in
theorem choices_any (o : Nat) (w : World) (ho : o ≤ 30) : Calls Try.prog 87 #[.int .i64 o] w fun e w' => Below w.heap.size w w' ∧ ∃ a c, e = .returned (.slice a (2 ^ o - 1 : Nat) c) ∧ Row w' a (2 ^ o - 1) (fun i => (upTo (2 ^ o - 1)).getD i 0) := by
  obtain ⟨i0, hi, hz0, hz1, hz2⟩ := info_parts Try.info3
  have HI : Hid (Try.prog.info? 3 = some i0 ∧ i0.zero = some (.int .i64 0) ∧ i0.size = 1 ∧ i0.bytes = 8) := ⟨hi, hz0, hz1, hz2⟩
  clear hi hz0 hz1 hz2
  obtain ⟨m, hm⟩ : ∃ m, m = 2 ^ o - 1 := ⟨_, rfl⟩
  have hm30 : m ≤ 1073741824 := by have := two_pow_le ho; omega
  have HA : Hid (∀ w, Calls Try.prog 86 #[.int .i64 o] w fun e w' => e = .returned (.int .i64 m) ∧ w' = w) := by
    intro w
    have e : ((m : Nat) : Int) = 2 ^ o - 1 := by
      have : 1 ≤ 2 ^ o := Nat.one_le_two_pow
      rw [hm, Int.ofNat_sub this]
      simp
    rw [e]
    exact allBits_any o w ho
  rw [← hm]
  clear hm
  go_enter Try.func87, Try.ntmps87
  go_wp2
  go_loopw [3, 4] (fun v i wr => ∃ (k : Nat) (va : Option Addr) (vc : Nat), k ≤ m ∧ i = .int .i64 (k + 1) ∧ v = .slice va k vc ∧ Hid (Below w.heap.size w wr ∧ wr.ownsRow w.heap.size 3 1 (.slice va k vc) k (vals (upTo k)))) (fun _ i _ => m + 1 - (intOf i).toNat)
  case atStart => exact ⟨0, none, 0, Nat.zero_le _, rfl, rfl, hid ⟨Below.refl _ _, World.ownsRow_nil _ _ _ _⟩⟩
  case round =>
    obtain ⟨k, va, vc, hk, rfl, rfl, HS⟩ := hrel
    go_wp2_with fail
    refine (HA.out wr).mono ?_
    rintro e w1 ⟨rfl, rfl⟩
    by_cases hlt : k < m
    · have HSz : Hid (w.heap.size ≤ w1.heap.size) := HS.out.1.size
      have hle : (k : Int) + 1 ≤ m := by omega
      go_wp2_with (at_builtin; refine wpList_append_own_at _ rfl _ _ 26 rfl w.heap.size 3 i0 (.int .i64 0) 1 8 Try.underlying26 HI.out.1 HI.out.2.1 HI.out.2.2.1 HI.out.2.2.2 rfl (by decide) _ _ _ rfl (HS.out.2.alloc _) ⟨w1.heap.size, 0, none⟩ 1 1 [.int .i64 (k + 1)] rfl rfl (cell_one_new _ _ _) (ints_oneCell .i64 [(k + 1 : Int)]) (by unfold maxLen; omega) (by omega) (by have := HSz.out; simp; omega) ?_; intro v' w4 hown hgrow _ _; obtain ⟨⟨a4, c4, rfl⟩, H4⟩ := list_step HS.out.1 HS.out.2 hown hgrow; clear hown hgrow)
      go_roundw
      case rel => exact ⟨k + 1, a4, c4, by omega, by go_num, rfl, H4⟩
      case measure => simp [intOf]; omega
    · obtain rfl : m = k := by omega
      have hle : ¬ (m : Int) + 1 ≤ m := by omega
      go_wp2
      go_ret
      exact ⟨HS.out.1, va, vc, rfl, owns_row' (upTo_len m).symm HS.out.2⟩

theorem getD_lt {l : List Int} {i : Nat} (h : i < l.length) : l.getD i 0 = l[i] := by simp [h]

theorem prs_done {n : Int} {L1 L2 : List Int} {k : Nat} (hk : k < L1.length) :
    prs n (L1.take k) L2 ++ (L2.take L2.length).map (fun o => (n, L1.getD k 0, o)) = prs n (L1.take (k + 1)) L2 := by
  rw [List.take_length, List.take_succ_eq_append_getElem hk, prs_snoc, getD_lt hk]

theorem prs_more {n x : Int} {L L2 : List Int} {P : List St3} {j : Nat} (hj : j < L2.length) (h : L = L2) :
    (P ++ (L2.take j).map (fun o => (n, x, o))) ++ [(n, x, L.getD j 0)] = P ++ (L2.take (j + 1)).map (fun o => (n, x, o)) := by
  subst h
  rw [List.take_succ_eq_append_getElem hj, List.map_append, List.append_assoc, getD_lt hj]
  rfl

set_option maxHeartbeats 2000000 in
theorem pairs_any (n : Int) (a1 a2 : Option Addr) (c1 c2 : Nat) (L1 L2 : List Int) (n1 n2 : Nat) (w : World) (e1 : n1 = L1.length) (e2 : n2 = L2.length) (hl1 : n1 ≤ 30) (hl2 : n2 ≤ 1073741824) (h1 : Row w a1 n1 (fun i => L1.getD i 0)) (h2 : Row w a2 n2 (fun i => L2.getD i 0)) :
    Calls Try.prog 84 #[.int .i64 n, .slice a1 n1 c1, .slice a2 n2 c2] w fun e w' => Below w.heap.size w w' ∧ ∃ a c, e = .returned (.slice a (n1 * n2) c) ∧ w'.ownsRow w.heap.size 66 3 (.slice a (n1 * n2) c) (n1 * n2) (vals3 (prs n L1 L2)) := by
  obtain ⟨i0, hi, hz0, hz1, hz2⟩ := info_parts Try.info66
  have HI : Hid (Try.prog.info? 66 = some i0 ∧ i0.zero = some (.agg #[.int .i64 0, .int .i64 0, .int .i64 0]) ∧ i0.size = 3 ∧ i0.bytes = 24) := ⟨hi, hz0, hz1, hz2⟩
  clear hi hz0 hz1 hz2
  have E1 : Hid (n1 = L1.length) := e1
  have E2 : Hid (n2 = L2.length) := e2
  clear e1 e2
  obtain ⟨b1, o1, ha1, hc1⟩ := h1
  obtain ⟨b2, o2, ha2, hc2⟩ := h2
  have HC1 : Hid (∀ i, i < n1 → w.cell? ⟨b1, o1 + i, none⟩ = some (.int .i64 (L1.getD i 0))) := hc1
  have HC2 : Hid (∀ i, i < n2 → w.cell? ⟨b2, o2 + i, none⟩ = some (.int .i64 (L2.getD i 0))) := hc2
  clear hc1 hc2
  have hmul : ∀ k, k ≤ n1 → k * n2 ≤ 32212254720 := fun k hk => by
    have : k * n2 ≤ 30 * 1073741824 := Nat.mul_le_mul (by omega) hl2
    omega
  have HM : Hid (∀ k, k ≤ n1 → k * n2 ≤ 32212254720) := hmul
  clear hmul
  go_enter Try.func84, Try.ntmps84
  go_wp2
  go_loopw [7, 14] (fun v i wr => ∃ (k m : Nat) (va : Option Addr) (vc : Nat), k ≤ n1 ∧ i = .int .i64 k ∧ v = .slice va m vc ∧ Hid (m = k * n2 ∧ Below w.heap.size w wr ∧ wr.ownsRow w.heap.size 66 3 (.slice va m vc) m (vals3 (prs n (L1.take k) L2)))) (fun _ i _ => n1 - (intOf i).toNat)
  case atStart => exact ⟨0, 0, none, 0, Nat.zero_le _, rfl, rfl, hid ⟨by simp, Below.refl _ _, World.ownsRow_nil _ _ _ _⟩⟩
  case round =>
    obtain ⟨k, m, va, vc, hk, rfl, rfl, HS⟩ := hrel
    by_cases hlt : k < n1
    · obtain rfl := ha1 (by omega)
      have hck := HC1.out k hlt
      rw [← HS.out.2.1.cell (p := ⟨b1, o1 + k, none⟩) (World.block_lt_of_cell? _ _ hck)] at hck
      have HMk := HM.out k hk
      obtain ⟨x, hx⟩ : ∃ x, x = L1.getD k 0 := ⟨_, rfl⟩
      rw [← hx] at hck
      have HX : Hid (x = L1.getD k 0) := hx
      clear hx
      go_wp2
      go_loopw [7, 20] (fun v i wr => ∃ (j m' : Nat) (va : Option Addr) (vc : Nat), j ≤ n2 ∧ i = .int .i64 j ∧ v = .slice va m' vc ∧ Hid (m' = k * n2 + j ∧ Below w.heap.size w wr ∧ wr.ownsRow w.heap.size 66 3 (.slice va m' vc) m' (vals3 (prs n (L1.take k) L2 ++ (L2.take j).map (fun o => (n, x, o)))))) (fun _ i _ => n2 - (intOf i).toNat)
      case atStart => exact ⟨0, m, va, vc, Nat.zero_le _, rfl, rfl, hid ⟨HS.out.1, HS.out.2.1, by simpa using HS.out.2.2⟩⟩
      case round =>
        obtain ⟨j, m', va', vc', hj, rfl, rfl, HT⟩ := hrel
        by_cases hlt2 : j < n2
        · obtain rfl := ha2 (by omega)
          have hcj := HC2.out j hlt2
          rw [← HT.out.2.1.cell (p := ⟨b2, o2 + j, none⟩) (World.block_lt_of_cell? _ _ hcj)] at hcj
          obtain ⟨y, hy⟩ : ∃ y, y = L2.getD j 0 := ⟨_, rfl⟩
          rw [← hy] at hcj
          have HY : Hid (y = L2.getD j 0) := hy
          clear hy
          have HSz : Hid (w.heap.size ≤ wr.heap.size) := HT.out.2.1.size
          have HMm : Hid (m' ≤ 33285996544) := by have := HT.out.1; show _ ≤ _; omega
          go_wp2_with (at_builtin; refine wpList_append_own_at _ rfl _ _ 60 rfl w.heap.size 66 i0 (.agg #[.int .i64 0, .int .i64 0, .int .i64 0]) 3 24 Try.underlying60 HI.out.1 HI.out.2.1 HI.out.2.2.1 HI.out.2.2.2 rfl (by decide) _ _ _ rfl (HT.out.2.2.alloc _) ⟨wr.heap.size, 0, none⟩ 1 1 (val3 (n, x, y)) rfl rfl (cell_three_new _ _ _) (by intro u hu; exact vals3_one [(n, x, y)] u (by simpa [vals3] using hu)) (by have := HMm.out; unfold maxLen; omega) (by have := HMm.out; omega) (by have := HSz.out; simp; omega) ?_; intro v' w4 hown hgrow _ _; obtain ⟨⟨a4, c4, rfl⟩, H4⟩ := sts_step HT.out.2.1 HT.out.2.2 hown hgrow; clear hown hgrow)
          go_roundw
          case rel => exact ⟨j + 1, m' + 1, a4, c4, by omega, by go_num, rfl, hid ⟨by have := HT.out.1; omega, H4.out.1, by have := H4.out.2; rw [HY.out, prs_more (by rw [← E2.out]; exact hlt2) rfl] at this; exact this⟩⟩
          case measure => simp [intOf]; omega
        · obtain rfl : n2 = j := by omega
          go_wp2
          go_roundw
          case rel => exact ⟨k + 1, m', va', vc', by omega, by go_num, rfl, hid ⟨by rw [Nat.add_mul, Nat.one_mul]; exact HT.out.1, HT.out.2.1, by have := HT.out.2.2; rw [HX.out, E2.out, prs_done (by rw [← E1.out]; exact hlt)] at this; exact this⟩⟩
          case measure => simp [intOf]; omega
    · obtain rfl : n1 = k := by omega
      obtain ⟨rfl, hb, ho⟩ := HS.out
      rw [E1.out, List.take_length, ← E1.out] at ho
      have HF : Hid (Below w.heap.size w wr ∧ wr.ownsRow w.heap.size 66 3 (.slice va (n1 * n2) vc) (n1 * n2) (vals3 (prs n L1 L2))) := ⟨hb, ho⟩
      clear hb ho HS
      go_wp2
      go_ret
      exact ⟨HF.out.1, va, vc, rfl, HF.out.2⟩

end Go.Proofs.Ythpbgfodejoecaa
