/- What the states of a space stand for: doings. -/
import Derived.Test.YthpbgfodejoecaaSndLeafJ
import Derived.Test.YthpbgfodejoecaaStepsOf2
namespace Go.Proofs.Ythpbgfodejoecaa
open Go.RowKit

/-- The states of one marking: its edges, or that nothing is done. -/
def dgE (m : Nat) (l : List (Int × Int)) : List St3 := l.map (fun e => ((m : Int), e.1, e.2))
def dgL (m : Nat) (l : List (Int × Int)) : List St3 := if l.length = 0 then [((m : Int), -1, (m : Int))] else dgE m l
def dgs (nx : List (List (Int × Int))) : Nat → List St3
  | 0 => []
  | m + 1 => dgs nx m ++ dgL m (nx.getD m [])

theorem dgE_len (m : Nat) (l : List (Int × Int)) : (dgE m l).length = l.length := by simp [dgE]
theorem dgL_none {m : Nat} {l : List (Int × Int)} (h : l.length = 0) : dgL m l = [((m : Int), -1, (m : Int))] := if_pos h
theorem dgL_some {m : Nat} {l : List (Int × Int)} (h : l.length ≠ 0) : dgL m l = dgE m l := if_neg h
theorem dgL_len (m : Nat) (l : List (Int × Int)) : 0 < (dgL m l).length ∧ (dgL m l).length ≤ l.length + 1 := by
  by_cases h : l.length = 0
  · rw [dgL_none h]; simp
  · rw [dgL_some h, dgE_len]; omega
theorem dgs_len {nx : List (List (Int × Int))} : ∀ {m}, (∀ r, r < m → snL nx r ≤ 60) → (dgs nx m).length ≤ m * 61
  | 0, _ => by simp [dgs]
  | m + 1, h => by
    have h1 := dgs_len (nx := nx) (m := m) (fun r hr => h r (by omega))
    have h2 := (dgL_len m (nx.getD m [])).2
    have h3 : (nx.getD m []).length ≤ 60 := h m (by omega)
    have : (dgs nx (m + 1)).length = (dgs nx m).length + (dgL m (nx.getD m [])).length := by simp [dgs]
    omega
theorem dgE_snoc (m : Nat) (l : List (Int × Int)) {k : Nat} (h : k < l.length) : dgE m (l.take (k + 1)) = dgE m (l.take k) ++ [((m : Int), (l.getD k (0, 0)).1, (l.getD k (0, 0)).2)] := by
  unfold dgE
  rw [List.take_succ_eq_append_getElem h, List.map_append]
  simp [h]

theorem Try.info105 : (Try.prog.info? 105).map (fun i => (i.zero, i.size, i.bytes)) = some (some (.agg #[.int .i64 0, .int .i64 0, .int .i64 0]), 3, 24) := by kernel_rfl

/-- A list of doings that grows by one. -/
theorem dg_step {w0 wr w1 : World} {v v' : Value} {l : List St3} {n : Nat} {t : St3} {o : Obj} (hb : Below w0.heap.size w0 wr) (ho : wr.ownsRow w0.heap.size 105 3 v n (vals3 l))
    (hown : w1.ownsRow w0.heap.size 105 3 v' (n + 1) (vals3 l ++ val3 t)) (hgrow : (wr.alloc o).grownBy w1 v.ownBlock) :
    (∃ a c, v' = .slice a (n + 1) c) ∧ Hid (Below w0.heap.size w0 w1 ∧ w1.ownsRow w0.heap.size 105 3 v' (n + 1) (vals3 (l ++ [t]))) := by
  refine ⟨?_, hid ⟨?_, ?_⟩⟩
  · rcases hown.2 with ⟨_, h0⟩ | ⟨g, cap, cur, rfl, _⟩
    · omega
    · exact ⟨_, _, rfl⟩
  · exact hb.grown ((World.grownBy_alloc _ _ _).trans hgrow) hb.size (fun b h => (ho.lt b h).1)
  · rw [← vals3_snoc]
    exact hown

theorem owns_dgs {w : World} {B n c : Nat} {a : Option Addr} {l : List St3} (hn : n = l.length) (h : w.ownsRow B 105 3 (.slice a n c) n (vals3 l)) : Sts w a n (fun i => l.getD i (0, 0, 0)) := by
  subst hn
  rcases h.2 with ⟨h1, h0⟩ | ⟨g, cap, cur, h1, hb, hg, _⟩
  · exact ⟨0, 0, fun hh => by omega, fun i hi => by omega⟩
  · cases h1
    refine ⟨g, 0, fun _ => rfl, fun i hi => ?_⟩
    obtain ⟨h2, h3, h4⟩ := vals3_get l i hi
    have c1 := h.cells (g := g) rfl _ _ h2
    have c2 := h.cells (g := g) rfl _ _ h3
    have c3 := h.cells (g := g) rfl _ _ h4
    have hadd : ∀ j, (⟨g, 0, none⟩ : Addr).add j = ⟨g, 0 + j, none⟩ := fun j => by unfold Addr.add; split <;> simp_all
    rw [hadd] at c1 c2 c3
    rw [Nat.add_assoc]
    rw [Nat.add_assoc]
    exact ⟨c1, c2, c3⟩

set_option maxHeartbeats 2000000 in
theorem doings_any (ma xa : Option Addr) (ml mc G xc : Nat) (nx : List (List (Int × Int))) (w : World) (hG : G ≤ 200) (h60 : ∀ r, r < G → snL nx r ≤ 60) (h : Egs w xa G (snL nx) (snS nx) (snZ nx)) :
    Calls Try.prog 22 #[.agg #[.slice ma ml mc, .slice xa G xc]] w fun e w' => Below w.heap.size w w' ∧ ∃ a c, e = .returned (.slice a (dgs nx G).length c) ∧ Hid ((dgs nx G).length ≤ c ∧ Sts w' a (dgs nx G).length (fun i => (dgs nx G).getD i (0, 0, 0))) := by
  obtain ⟨i0, hi, hz0, hz1, hz2⟩ := info_parts Try.info105
  have HI : Hid (Try.prog.info? 105 = some i0 ∧ i0.zero = some (.agg #[.int .i64 0, .int .i64 0, .int .i64 0]) ∧ i0.size = 3 ∧ i0.bytes = 24) := ⟨hi, hz0, hz1, hz2⟩
  clear hi hz0 hz1 hz2
  obtain ⟨W, eW⟩ : ∃ x, x = w.alloc (.cells #[.slice ma ml mc, .slice xa G xc] 37) := ⟨_, rfl⟩
  have HW : Hid (Below w.heap.size w W ∧ W.heap.size = w.heap.size + 1) := by subst eW; exact ⟨box_below _ _, by simp⟩
  have hc1 : W.cell? ⟨w.heap.size, 1, none⟩ = some (.slice xa G xc) := by subst eW; exact cell_of_alloc rfl
  have HEW : w.alloc (.cells #[.slice ma ml mc, .slice xa G xc] 37) = W := eW.symm
  obtain ⟨b, o, ha, hc⟩ := h.below HW.out.1
  have HC := hid hc
  have H60 := hid h60
  clear eW hc h60 h
  go_enter Try.func22, Try.ntmps22
  go_wp2
  go_loopw [3, 11] (fun v i wr => ∃ (k m : Nat) (va : Option Addr) (vc : Nat), k ≤ G ∧ i = .int .i64 k ∧ v = .slice va m vc ∧ Hid (m = (dgs nx k).length ∧ Below W.heap.size W wr ∧ wr.ownsRow W.heap.size 105 3 (.slice va m vc) m (vals3 (dgs nx k)))) (fun _ i _ => G - (intOf i).toNat)
  case atStart => exact ⟨0, 0, none, 0, Nat.zero_le _, rfl, rfl, hid ⟨rfl, Below.refl _ _, World.ownsRow_nil _ _ _ _⟩⟩
  case round =>
    obtain ⟨k, m, va, vc, hk, rfl, rfl, HS⟩ := hrel
    by_cases hlt : k < G
    · obtain rfl := ha (by omega)
      obtain ⟨a1, c1, hck, hr1⟩ := HC.out k hlt
      rw [← HS.out.2.1.cell (p := ⟨b, o + k, none⟩) (World.block_lt_of_cell? _ _ hck)] at hck
      have HR := hid hr1
      have hL := H60.out k hlt
      have hM : m ≤ 12200 := by
        have := dgs_len (nx := nx) (m := k) (fun r hr => H60.out r (by omega))
        have := HS.out.1
        omega
      have HM := hid hM
      obtain ⟨n, hn⟩ : ∃ n, n = snL nx k := ⟨_, rfl⟩
      rw [← hn] at hck hL
      have HN := hid hn
      clear hn hr1 hM
      go_wp2
      go_loopw [3, 18] (fun v i wr => ∃ (j m' : Nat) (va : Option Addr) (vc : Nat), j ≤ n ∧ i = .int .i64 j ∧ v = .slice va m' vc ∧ Hid (m' = m + j ∧ Below W.heap.size W wr ∧ wr.ownsRow W.heap.size 105 3 (.slice va m' vc) m' (vals3 (dgs nx k ++ dgE k ((nx.getD k []).take j))))) (fun _ i _ => n - (intOf i).toNat)
      case atStart => exact ⟨0, m, va, vc, Nat.zero_le _, rfl, rfl, hid ⟨rfl, HS.out.2.1, by simpa [dgE] using HS.out.2.2⟩⟩
      case round =>
        obtain ⟨j, m', va', vc', hj, rfl, rfl, HT⟩ := hrel
        by_cases hlt2 : j < n
        · obtain ⟨b1, o1, ha1, hc1⟩ := HR.out
          obtain rfl := ha1 (by have := HN.out; omega)
          obtain ⟨q0, q1⟩ := hc1 j (by have := HN.out; omega)
          rw [← HT.out.2.1.cell (p := ⟨b1, o1 + j * 2, none⟩) (World.block_lt_of_cell? _ _ q0)] at q0
          rw [← HT.out.2.1.cell (p := ⟨b1, o1 + j * 2 + 1, none⟩) (World.block_lt_of_cell? _ _ q1)] at q1
          obtain ⟨x, hx⟩ : ∃ x, x = snS nx k j := ⟨_, rfl⟩
          obtain ⟨y, hy⟩ : ∃ y, y = snZ nx k j := ⟨_, rfl⟩
          rw [← hx] at q0
          rw [← hy] at q1
          have HXY := hid (And.intro hx hy)
          have HSz : Hid (W.heap.size ≤ wr.heap.size) := HT.out.2.1.size
          have hM' : m' ≤ 12300 := by have := HT.out.1; have := HM.out; omega
          obtain ⟨W2, hW2⟩ : ∃ W2, wr.alloc (.cells #[.int .i64 x, .int .i64 y] 44) = W2 := ⟨_, rfl⟩
          have p0 : W2.cell? ⟨wr.heap.size, 0, none⟩ = some (.int .i64 x) := by subst hW2; exact cell_of_alloc rfl
          have p1 : W2.cell? ⟨wr.heap.size, 1, none⟩ = some (.int .i64 y) := by subst hW2; exact cell_of_alloc rfl
          have HO2 : Hid (Below W.heap.size W W2 ∧ W2.ownsRow W.heap.size 105 3 (.slice va' m' vc') m' (vals3 (dgs nx k ++ dgE k ((nx.getD k []).take j))) ∧ W2.heap.size = wr.heap.size + 1) := by
            subst hW2
            exact ⟨HT.out.2.1.alloc HSz.out _, HT.out.2.2.alloc _, by simp⟩
          clear hx hy hck hc1 ha1
          go_wp2_with (at_builtin; refine wpList_append_own_at _ rfl _ _ 68 rfl W.heap.size 105 i0 (.agg #[.int .i64 0, .int .i64 0, .int .i64 0]) 3 24 Try.underlying68 HI.out.1 HI.out.2.1 HI.out.2.2.1 HI.out.2.2.2 rfl (by decide) _ _ _ rfl (HO2.out.2.1.alloc _) ⟨W2.heap.size, 0, none⟩ 1 1 (val3 ((k : Int), x, y)) rfl rfl (cell_three_new _ _ _) (by intro u hu; exact vals3_one [((k : Int), x, y)] u (by simpa [vals3] using hu)) (by unfold maxLen; omega) (by omega) (by have := HSz.out; have := HO2.out.2.2; simp; omega) ?_; intro v' w4 hown hgrow _ _; obtain ⟨⟨a4, c4, rfl⟩, H4⟩ := dg_step HO2.out.1 HO2.out.2.1 hown hgrow; clear hown hgrow)
          go_roundw
          case rel => exact ⟨j + 1, m' + 1, a4, c4, by omega, by go_num, rfl, hid ⟨by have := HT.out.1; omega, H4.out.1, by
            have h1 := H4.out.2
            rw [List.append_assoc, HXY.out.1, HXY.out.2] at h1
            have h2 : j < (nx.getD k []).length := by have := HN.out; unfold snL at this; omega
            rw [dgE_snoc k _ h2]
            exact h1⟩⟩
          case measure => simp [intOf]; omega
        · obtain rfl : n = j := by omega
          have HNl : Hid ((nx.getD k []).length = n) := hid HN.out.symm
          by_cases hz : n = 0
          · have hz' : ((n : Int) == 0) = true := by rw [hz]; rfl
            have HT' : Hid (Below W.heap.size W wr ∧ wr.ownsRow W.heap.size 105 3 (.slice va' m' vc') m' (vals3 (dgs nx k)) ∧ m' = (dgs nx k).length) := hid ⟨HT.out.2.1, by
              have h1 := HT.out.2.2
              rw [hz] at h1
              simpa [dgE] using h1, by have h1 := HT.out.1; have h2 := HS.out.1; omega⟩
            have HSz : Hid (W.heap.size ≤ wr.heap.size) := HT.out.2.1.size
            have HZ := hid hz
            have hM' : m' ≤ 12300 := by have := HT.out.1; have := HM.out; omega
            clear hz hck
            go_wp2_with (at_builtin; refine wpList_append_own_at _ rfl _ _ 68 rfl W.heap.size 105 i0 (.agg #[.int .i64 0, .int .i64 0, .int .i64 0]) 3 24 Try.underlying68 HI.out.1 HI.out.2.1 HI.out.2.2.1 HI.out.2.2.2 rfl (by decide) _ _ _ rfl (HT'.out.2.1.alloc _) ⟨wr.heap.size, 0, none⟩ 1 1 (val3 ((k : Int), -1, (k : Int))) rfl rfl (cell_three_new _ _ _) (by intro u hu; exact vals3_one [((k : Int), -1, (k : Int))] u (by simpa [vals3] using hu)) (by unfold maxLen; omega) (by omega) (by have := HSz.out; simp; omega) ?_; intro v' w4 hown hgrow _ _; obtain ⟨⟨a4, c4, rfl⟩, H4⟩ := dg_step HT'.out.1 HT'.out.2.1 hown hgrow; clear hown hgrow)
            go_roundw
            case rel => exact ⟨k + 1, m' + 1, a4, c4, by omega, by go_num, rfl, hid ⟨by
              have h2 : (dgs nx (k + 1)) = dgs nx k ++ [((k : Int), -1, (k : Int))] := by rw [← dgL_none (l := nx.getD k []) (by rw [HNl.out]; exact HZ.out)]; rfl
              rw [h2, HT'.out.2.2]; simp, H4.out.1, by
              have h2 : (dgs nx (k + 1)) = dgs nx k ++ [((k : Int), -1, (k : Int))] := by rw [← dgL_none (l := nx.getD k []) (by rw [HNl.out]; exact HZ.out)]; rfl
              rw [h2]
              exact H4.out.2⟩⟩
            case measure => simp [intOf]; omega
          · have hz' : ((n : Int) == 0) = false := beq_eq_false_iff_ne.2 (by omega)
            have HZ := hid hz
            clear hz hck
            go_wp2
            go_roundw
            case rel => exact ⟨k + 1, m', va', vc', by omega, by go_num, rfl, by
              have h2 : (dgs nx (k + 1)) = dgs nx k ++ dgE k ((nx.getD k []).take n) := by
                rw [← HNl.out, List.take_length, ← dgL_some (by rw [HNl.out]; exact HZ.out)]; rfl
              refine hid ⟨?_, HT.out.2.1, by rw [h2]; exact HT.out.2.2⟩
              rw [h2, List.length_append, dgE_len, List.length_take, HNl.out]
              have h3 := HT.out.1; have h4 := HS.out.1; omega⟩
            case measure => simp [intOf]; omega
    · obtain rfl : G = k := by omega
      have HF := hid (HW.out.1.trans (HS.out.2.1.mono HW.out.1.size))
      go_wp2
      go_ret
      obtain ⟨h1, h2, h3⟩ := HS.out
      rw [h1] at h3
      exact ⟨HF.out, va, vc, by rw [h1]; rfl, hid ⟨owns_cap h3, owns_dgs rfl h3⟩⟩

end Go.Proofs.Ythpbgfodejoecaa
