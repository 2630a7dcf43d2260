/- The document's Runs. -/
import Derived.Test.YthpbgfodejoecaaRrn2
namespace Go.Proofs.Ythpbgfodejoecaa
open Go.RowKit Go.Maps

set_option maxRecDepth 20000 in
set_option maxHeartbeats 8000000 in
theorem runs_any {na fa ma xa : Option Addr} {N nc F fc mc G xc : Nat} {M : Nat → ByteArray} {K A B : Nat → Int} {w : World} {l : List St3} {marks : List (List Int)} {nx : List (List (Int × Int))}
    (hp : Prc w na N nc fa F M K A B) (hM : ∀ i, i < N → (M i).size ≤ maxLen) (he : ChkIs N F M K A B 0) (hl : l = stAll K A B F N) (hok : Sok N F l marks nx) (hG : G = marks.length) (hx : Egs w xa G (snL nx) (snS nx) (snZ nx)) :
    Calls Try.prog 9 #[.agg #[.slice na N nc, .slice fa F fc], .agg #[.slice ma G mc, .slice xa G xc]] w fun e w' => Below w.heap.size w w' ∧ RnIs 0 nx G l e w' := by
  obtain ⟨W, eW⟩ : ∃ x, x = ((w.alloc (.cells #[.slice na N nc, .slice fa F fc] 25)).alloc (.cells #[.slice ma G mc, .slice xa G xc] 37)).alloc (.cells #[.slice none 0 0, .slice none 0 0, .slice none 0 0, .slice none 0 0] 30) := ⟨_, rfl⟩
  have e1 : (w.alloc (.cells #[.slice na N nc, .slice fa F fc] 25)).heap.size = w.heap.size + 1 := by simp
  have e2 : ((w.alloc (.cells #[.slice na N nc, .slice fa F fc] 25)).alloc (.cells #[.slice ma G mc, .slice xa G xc] 37)).heap.size = w.heap.size + 1 + 1 := by simp
  have HW : Hid (Below w.heap.size w W ∧ W.heap.size = w.heap.size + 1 + 1 + 1) := by
    subst eW
    exact ⟨((box_below _ _).trans ((box_below _ _).mono (by simp))).trans ((box_below _ _).mono (by simp; omega)), by simp⟩
  have HBx : Hid (∀ u, Below W.heap.size W u → u.cell? ⟨w.heap.size, 0, none⟩ = some (.slice na N nc) ∧ u.cell? ⟨w.heap.size, 1, none⟩ = some (.slice fa F fc) ∧ u.cell? ⟨w.heap.size + 1, 0, none⟩ = some (.slice ma G mc) ∧ u.cell? ⟨w.heap.size + 1, 1, none⟩ = some (.slice xa G xc) ∧ u.heap[w.heap.size + 1 + 1]? = some (.cells #[.slice none 0 0, .slice none 0 0, .slice none 0 0, .slice none 0 0] 30 (0, 0))) := hid (fun u hu => by
    have h1 := hu.block w.heap.size (by rw [HW.out.2]; omega)
    have h2 := hu.block (w.heap.size + 1) (by rw [HW.out.2]; omega)
    have h3 := hu.block (w.heap.size + 1 + 1) (by rw [HW.out.2]; omega)
    have g1 : u.heap[w.heap.size]? = some (.cells #[.slice na N nc, .slice fa F fc] 25 (0, 0)) := by
      rw [h1]; subst eW
      rw [Below.heap_alloc _ _ _ (by rw [e2]; omega), Below.heap_alloc _ _ _ (by rw [e1]; omega)]
      exact Go.Deep.blk_alloc_new _ _
    have g2 : u.heap[w.heap.size + 1]? = some (.cells #[.slice ma G mc, .slice xa G xc] 37 (0, 0)) := by
      rw [h2]; subst eW
      rw [Below.heap_alloc _ _ _ (by rw [e2]; omega), ← e1]
      exact Go.Deep.blk_alloc_new _ _
    have g3 : u.heap[w.heap.size + 1 + 1]? = some (.cells #[.slice none 0 0, .slice none 0 0, .slice none 0 0, .slice none 0 0] 30 (0, 0)) := by
      rw [h3]; subst eW
      rw [← e2]
      exact Go.Deep.blk_alloc_new _ _
    exact ⟨cell_of_cells g1 rfl, cell_of_cells g1 rfl, cell_of_cells g2 rfl, cell_of_cells g2 rfl, g3⟩)
  have HEW : Hid (((w.alloc (.cells #[.slice na N nc, .slice fa F fc] 25)).alloc (.cells #[.slice ma G mc, .slice xa G xc] 37)).alloc (.cells #[.slice none 0 0, .slice none 0 0, .slice none 0 0, .slice none 0 0] 30) = W) := eW.symm
  have hlf := hok.lfew
  have C1 : Hid (Calls Try.prog 28 #[.agg #[.slice na N nc, .slice fa F fc]] W fun e w' => Below W.heap.size W w' ∧ ∃ (la : Option Addr) (lc : Nat), e = .returned (.tuple #[.slice la l.length lc, .int .i64 0]) ∧ Sts w' la l.length (fun i => l.getD i (0, 0, 0))) := by
    subst hl
    refine (steps_any na fa N nc F fc M K A B 0 W (hp.below HW.out.1) hM he).mono fun e w' hh => ⟨hh.1, ?_⟩
    rcases hh.2 with ⟨g1, _⟩ | ⟨_, g1, _⟩ | ⟨_, _, la, lc, g1, _, g2⟩
    · exact absurd rfl g1
    · omega
    · exact ⟨la, lc, g1, g2⟩
  have HOk := hid hok
  have hG200 : G ≤ 200 := by rw [hG]; exact hok.few
  have hG0 : 0 < G := by rw [hG]; exact hok.pos
  have H60 : Hid (∀ r, r < G → snL nx r ≤ 60) := hid (fun r hr => Nat.le_trans (hok.small r (by rw [← hG]; exact hr)) hok.lfew)
  have HGm := hid hG
  have HN20 : Hid (N ≤ 20) := hid (chk_zero he).1.1
  have HEg := hid (hx.below HW.out.1)
  obtain ⟨i3, hi, hz0, hz1, hz2⟩ := info_parts Try.info3
  have HI : Hid (Try.prog.info? 3 = some i3 ∧ i3.zero = some (.int .i64 0) ∧ i3.size = 1 ∧ i3.bytes = 8) := ⟨hi, hz0, hz1, hz2⟩
  clear hi hz0 hz1 hz2
  obtain ⟨i44, hi, hz0, hz1, hz2⟩ := info_parts Try.info44
  have HI44 : Hid (Try.prog.info? 44 = some i44 ∧ i44.zero = some (.agg #[.int .i64 0, .int .i64 0]) ∧ i44.size = 2 ∧ i44.bytes = 16) := ⟨hi, hz0, hz1, hz2⟩
  clear hi hz0 hz1 hz2
  obtain ⟨i26, hi, hz0, hz1, hz2⟩ := info_parts Try.info26
  have HI26 : Hid (Try.prog.info? 26 = some i26 ∧ i26.zero = some (.slice none 0 0) ∧ i26.size = 1 ∧ i26.bytes = 24) := ⟨hi, hz0, hz1, hz2⟩
  clear hi hz0 hz1 hz2
  obtain ⟨i57, hi, hz0, hz1, hz2⟩ := info_parts Try.info57
  have HI57 : Hid (Try.prog.info? 57 = some i57 ∧ i57.zero = some (.int .u64 0) ∧ i57.size = 1 ∧ i57.bytes = 8) := ⟨hi, hz0, hz1, hz2⟩
  have HL20 : Hid (∀ i, i < l.length → 0 ≤ (l.getD i (0, 0, 0)).1 ∧ (l.getD i (0, 0, 0)).1 < 20) := hid (fun i hi => by
    subst hl
    have h2 := st_nodes (K := K) (A := A) (B := B) (F := F) (N := N) i hi
    have := HN20.out
    omega)
  clear hi hz0 hz1 hz2 eW e1 e2 hp hM he hl hok hG hx HN20
  obtain ⟨p, hpb⟩ : ∃ p, p = w.heap.size + 1 := ⟨_, rfl⟩
  obtain ⟨ll, hll⟩ : ∃ ll, ll = l.length := ⟨_, rfl⟩
  rw [← hll] at C1 hlf
  have HLl := hid hll
  clear hll hpb
  go_enter Try.func9, Try.ntmps9
  go_wp2_with fail
  rw [HEW.out]
  refine C1.out.mono ?_
  rintro e w1 ⟨hb1, la, lc, rfl, hsl⟩
  have HB1 := hid hb1
  have HSl := hid hsl
  have HX : Hid (∀ u, Below w1.heap.size w1 u → u.cell? ⟨w.heap.size + 1, 0, none⟩ = some (.slice ma G mc) ∧ u.cell? ⟨w.heap.size + 1, 1, none⟩ = some (.slice xa G xc)) := hid (fun u hu => by
    obtain ⟨_, _, h1, h2, _⟩ := HBx.out u (hb1.trans (hu.mono hb1.size))
    exact ⟨h1, h2⟩)
  have HE1 := hid (HEg.out.below hb1)
  have HO0 : Hid (Ofg w1 w1 0 (.slice none 0 0) (.slice none 0 0) (dgs nx 0)) := hid ⟨rfl, Below.refl _ _, World.ownsRow_nil _ _ _ _, World.ownsRow_nil _ _ _ _⟩
  clear hb1 hsl C1 HEg
  go_wp2
  go_loopw [9, 10, 11] (fun v9 v10 i wr => ∃ (k m : Nat) (a9 a10 : Option Addr) (c9 c10 : Nat), k ≤ G ∧ i = .int .i64 k ∧ v9 = .slice a9 m c9 ∧ v10 = .slice a10 m c10 ∧ Hid (Ofg w1 wr m (.slice a9 m c9) (.slice a10 m c10) (dgs nx k))) (fun _ _ i _ => G - (intOf i).toNat)
  case atStart => exact ⟨0, 0, none, none, 0, 0, Nat.zero_le _, rfl, rfl, rfl, HO0⟩
  case round =>
    obtain ⟨k, m, a9, a10, c9, c10, hk, rfl, rfl, rfl, HS⟩ := hrel
    obtain ⟨x0, x1⟩ := HX.out wr HS.out.below
    by_cases hlt : k < G
    · have hkz : (k : Int) < G := by omega
      obtain ⟨b, o, ha, hc⟩ := HE1.out
      obtain rfl := ha (by omega)
      obtain ⟨a1, c1, hck, hr1⟩ := hc k hlt
      have HR := hid hr1
      have HCk := hid hck
      have hL := H60.out k hlt
      have hM : m ≤ 12200 := by
        have := dgs_len (nx := nx) (m := k) (fun r hr => H60.out r (by omega))
        have := HS.out.len
        omega
      have HM := hid hM
      have hck := below_c HS.out.below hck
      obtain ⟨n, hn⟩ : ∃ n, n = snL nx k := ⟨_, rfl⟩
      rw [← hn] at hck hL HCk
      have HN := hid hn
      clear hn hr1 hM ha hc
      go_wp2
      go_loopw [9, 10, 12] (fun v9 v10 i wr => ∃ (j m' : Nat) (a9 a10 : Option Addr) (c9 c10 : Nat), j ≤ n ∧ i = .int .i64 j ∧ v9 = .slice a9 m' c9 ∧ v10 = .slice a10 m' c10 ∧ Hid (m' = m + j ∧ Ofg w1 wr m' (.slice a9 m' c9) (.slice a10 m' c10) (dgs nx k ++ dgE k ((nx.getD k []).take j)))) (fun _ _ i _ => n - (intOf i).toNat)
      case atStart => exact ⟨0, m, a9, a10, c9, c10, Nat.zero_le _, rfl, rfl, rfl, hid ⟨rfl, by simpa [dgE] using HS.out⟩⟩
      case round =>
        clear x0 x1 hck
        obtain ⟨j, m', a9', a10', c9', c10', hj, rfl, rfl, rfl, HT⟩ := hrel
        obtain ⟨x0, x1⟩ := HX.out wr HT.out.2.below
        have hck := below_c HT.out.2.below HCk.out
        by_cases hlt2 : j < n
        · have hjz : (j : Int) < n := by omega
          obtain ⟨b1, o1, ha1, hc1⟩ := HR.out
          obtain rfl := ha1 (by have := HN.out; omega)
          obtain ⟨q0, q1⟩ := hc1 j (by have := HN.out; omega)
          have HQ1 := hid q1
          have q0 := below_c HT.out.2.below q0
          have q1 := below_c HT.out.2.below q1
          obtain ⟨x, hx⟩ : ∃ x, x = snS nx k j := ⟨_, rfl⟩
          obtain ⟨y, hy⟩ : ∃ y, y = snZ nx k j := ⟨_, rfl⟩
          rw [← hx] at q0
          rw [← hy] at q1 HQ1
          have HXY := hid (And.intro hx hy)
          have HSz : Hid (w1.heap.size ≤ wr.heap.size) := HT.out.2.below.size
          have hM' : m' ≤ 12300 := by have := HT.out.1; have := HM.out; omega
          clear hx hy hc1 ha1
          go_wp2_with (first
            | (at_builtin; refine wpList_append_own_at _ rfl _ _ 31 rfl w1.heap.size 44 i44 (.agg #[.int .i64 0, .int .i64 0]) 2 16 Try.underlying31 HI44.out.1 HI44.out.2.1 HI44.out.2.2.1 HI44.out.2.2.2 rfl (by decide) _ _ _ rfl (HT.out.2.of.alloc _) ⟨wr.heap.size, 0, none⟩ 1 1 [.int .i64 x, .int .i64 k] rfl rfl (World.news_of_block (cs := #[.int .i64 x, .int .i64 (k : Nat)]) (t := 44) (fr := (0, 0)) (heap_alloc_new wr _)) (by simp [Value.oneCell']) (by unfold maxLen; omega) (by omega) (by have := HSz.out; simp; omega) ?_; intro v' w4 hown hgrow _ _; obtain ⟨⟨a4, c4, rfl⟩, H4⟩ := ofg_of (t := ((k : Int), x, y)) HT.out.2 hown hgrow; clear hown hgrow x0 x1 hck q0 q1; obtain ⟨x0, x1⟩ := HX.out w4 H4.out.1; have hck := below_c H4.out.1 HCk.out; have q1 := below_c H4.out.1 HQ1.out; have HSz4 : Hid (w1.heap.size ≤ w4.heap.size) := hid H4.out.1.size)
            | (at_builtin; refine wpList_append_own_at _ rfl _ _ 26 rfl w1.heap.size 3 i3 (.int .i64 0) 1 8 Try.underlying26 HI.out.1 HI.out.2.1 HI.out.2.2.1 HI.out.2.2.2 rfl (by decide) _ _ _ rfl (H4.out.2.2.alloc _) ⟨w4.heap.size, 0, none⟩ 1 1 [.int .i64 y] rfl rfl (cell_one_new _ _ _) (ints_oneCell .i64 [(y : Int)]) (by unfold maxLen; omega) (by omega) (by have := HSz4.out; simp; omega) ?_; intro v' w5 hown hgrow _ _; obtain ⟨⟨a5, c5, rfl⟩, H5⟩ := ofg_go HT.out.2.len rfl H4.out hown hgrow; clear hown hgrow))
          go_roundw
          case rel => exact ⟨j + 1, m' + 1, a4, a5, c4, c5, by omega, by go_num, rfl, rfl, hid ⟨by have := HT.out.1; omega, by
            have h1 := H5.out
            rw [List.append_assoc, HXY.out.1, HXY.out.2] at h1
            have h2 : j < (nx.getD k []).length := by have := HN.out; unfold snL at this; omega
            rw [dgE_snoc k _ h2]
            exact h1⟩⟩
          case measure => simp [intOf]; omega
        · obtain rfl : n = j := by omega
          have HNl : Hid ((nx.getD k []).length = n) := hid HN.out.symm
          by_cases hz : n = 0
          · have hz' : ((n : Int) == 0) = true := by rw [hz]; rfl
            have HT' : Hid (Ofg w1 wr m' (.slice a9' m' c9') (.slice a10' m' c10') (dgs nx k)) := hid (by
              have h1 := HT.out.2
              rw [hz] at h1
              simpa [dgE] using h1)
            have HSz : Hid (w1.heap.size ≤ wr.heap.size) := HT.out.2.below.size
            have HZ := hid hz
            have hM' : m' ≤ 12300 := by have := HT.out.1; have := HM.out; omega
            clear hz
            go_wp2_with (first
              | (at_builtin; refine wpList_append_own_at _ rfl _ _ 31 rfl w1.heap.size 44 i44 (.agg #[.int .i64 0, .int .i64 0]) 2 16 Try.underlying31 HI44.out.1 HI44.out.2.1 HI44.out.2.2.1 HI44.out.2.2.2 rfl (by decide) _ _ _ rfl (HT'.out.of.alloc _) ⟨wr.heap.size, 0, none⟩ 1 1 [.int .i64 (-1), .int .i64 k] rfl rfl (World.news_of_block (cs := #[.int .i64 (-1), .int .i64 (k : Nat)]) (t := 44) (fr := (0, 0)) (heap_alloc_new wr _)) (by simp [Value.oneCell']) (by unfold maxLen; omega) (by omega) (by have := HSz.out; simp; omega) ?_; intro v' w4 hown hgrow _ _; obtain ⟨⟨a4, c4, rfl⟩, H4⟩ := ofg_of (t := ((k : Int), -1, (k : Int))) HT'.out hown hgrow; clear hown hgrow x0 x1 hck; obtain ⟨x0, x1⟩ := HX.out w4 H4.out.1; have HSz4 : Hid (w1.heap.size ≤ w4.heap.size) := hid H4.out.1.size)
              | (at_builtin; refine wpList_append_own_at _ rfl _ _ 26 rfl w1.heap.size 3 i3 (.int .i64 0) 1 8 Try.underlying26 HI.out.1 HI.out.2.1 HI.out.2.2.1 HI.out.2.2.2 rfl (by decide) _ _ _ rfl (H4.out.2.2.alloc _) ⟨w4.heap.size, 0, none⟩ 1 1 [.int .i64 k] rfl rfl (cell_one_new _ _ _) (ints_oneCell .i64 [(k : Int)]) (by unfold maxLen; omega) (by omega) (by have := HSz4.out; simp; omega) ?_; intro v' w5 hown hgrow _ _; obtain ⟨⟨a5, c5, rfl⟩, H5⟩ := ofg_go HT'.out.len rfl H4.out hown hgrow; clear hown hgrow))
            go_roundw
            case rel => exact ⟨k + 1, m' + 1, a4, a5, c4, c5, by omega, by go_num, rfl, rfl, hid (by
              have h2 : (dgs nx (k + 1)) = dgs nx k ++ [((k : Int), -1, (k : Int))] := by rw [← dgL_none (l := nx.getD k []) (by rw [HNl.out]; exact HZ.out)]; rfl
              rw [h2]
              exact H5.out)⟩
            case measure => simp [intOf]; omega
          · have hz' : ((n : Int) == 0) = false := beq_eq_false_iff_ne.2 (by omega)
            have HZ := hid hz
            clear hz
            go_wp2
            go_roundw
            case rel => exact ⟨k + 1, m', a9', a10', c9', c10', by omega, by go_num, rfl, rfl, by
              have h2 : (dgs nx (k + 1)) = dgs nx k ++ dgE k ((nx.getD k []).take n) := by
                rw [← HNl.out, List.take_length, ← dgL_some (by rw [HNl.out]; exact HZ.out)]; rfl
              exact hid (by rw [h2]; exact HT.out.2)⟩
            case measure => simp [intOf]; omega
    · obtain rfl : G = k := by omega
      have hkz : ¬ (G : Int) < G := by omega
      obtain ⟨hpr, hgo⟩ := ofg_end HS.out
      have hmn := HS.out.len
      have hbw := HS.out.below
      have hgl : ∀ i, i < m → (goD (dgs nx G)).getD i 0 = (rnT nx G i).2.2 := fun i hi => by
        have h1 : i < (dgs nx G).length := by omega
        unfold goD rnT
        simp [h1]
      have hol : ∀ i, i < m → ((ofD (dgs nx G)).getD i (0, 0)).1 = (rnT nx G i).2.1 ∧ ((ofD (dgs nx G)).getD i (0, 0)).2 = (rnT nx G i).1 := fun i hi => by
        have h1 : i < (dgs nx G).length := by omega
        unfold ofD rnT
        simp [h1]
      have HOf : Hid (Fls wr a9 m (fun i => (rnT nx G i).2.1) (fun i => (rnT nx G i).1)) := hid (by
        obtain ⟨b', o', h1, h2⟩ := hpr
        rw [ofD_len, ← hmn] at h1 h2
        exact ⟨b', o', h1, fun i hi => by have := h2 i hi; rw [(hol i hi).1, (hol i hi).2] at this; exact this⟩)
      have HGo : Hid (Row wr a10 m (fun i => (rnT nx G i).2.2)) := hid (by
        obtain ⟨b', o', h1, h2⟩ := hgo
        exact ⟨b', o', h1, fun i hi => (h2 i hi).trans (by show some (Value.int .i64 ((goD (dgs nx G)).getD i 0)) = _; rw [hgl i hi])⟩)
      have HMn := hid hmn
      have HBw : Hid (Below w1.heap.size w1 wr) := hid hbw
      have HSl2 := hid (HSl.out.below hbw)
      have HE2 := hid (HE1.out.below hbw)
      have HT2 := hid (fun i (hi : i < m) => rn_ok HOk.out (i := i) (by rw [← HGm.out, ← hmn]; exact hi))
      rw [← HGm.out] at HT2
      obtain ⟨y0, y1, y2, y3, hR4⟩ := HBx.out wr (HB1.out.trans (hbw.mono HB1.out.size))
      have HX2 : Hid (∀ u, Below wr.heap.size wr u → u.cell? ⟨w.heap.size + 1, 0, none⟩ = some (.slice ma G mc) ∧ u.cell? ⟨w.heap.size + 1, 1, none⟩ = some (.slice xa G xc)) := hid (fun u hu => HX.out u (hbw.trans (hu.mono hbw.size)))
      obtain ⟨⟨d0, d1, d2, d3⟩, g0, g1, g2, g3⟩ := fou_cells hR4
      have hRl := (Array.getElem?_eq_some_iff.1 hR4).1
      have HR4 := hid hR4
      have HBB := hid (HB1.out.trans (hbw.mono HB1.out.size))
      clear hpr hgo hmn hbw hgl hol HS y0 y1 y2 y3 hR4 HX HE1 HSl HB1
      by_cases h600 : 600 < m
      · have hz6 : (600 : Int) < m := by omega
        have H6 := hid h600
        clear h600
        go_wp2
        (try simp only [Exit.inBlock, Exit.then])
        refine bodyPost_ret (results_cell_tmp3 rfl _ _ (w.heap.size + 1 + 1) 30 #[.slice none 0 0, .slice none 0 0, .slice none 0 0, .slice none 0 0] (0, 0) _ rfl (fou_set HR4.out _ _ _ _) Try.underlying30 rfl (by kernel_rfl)) rfl ?_
        have hE2 : rnE 0 nx G = 2 := by unfold rnE; rw [if_neg (by simp), if_pos (by rw [← HMn.out]; exact H6.out)]
        exact ⟨fou_low (HW.out.1.trans (HBB.out.mono HW.out.1.size)) (by omega) _ _ _ _, Or.inl ⟨by rw [hE2]; decide, by rw [hE2]; rfl⟩⟩
      · have hz6 : ¬ (600 : Int) < m := by omega
        have h6 : m ≤ 600 := by omega
        clear h600 d0 d1 d2 d3 g0 g1 g2 g3 hRl
        obtain ⟨W3, hW3⟩ : ∃ x, x = wr := ⟨_, rfl⟩
        subst hW3
        have HR0 := hid (rw4_start W3)
        have HXs : Hid (∀ u, Below W3.heap.size W3 u → u.heap[w.heap.size + 1 + 1]? = some (.cells #[.slice none 0 0, .slice none 0 0, .slice none 0 0, .slice none 0 0] 30 (0, 0)) ∧ Fls u a9 m (fun i => (rnT nx G i).2.1) (fun i => (rnT nx G i).1) ∧ Row u a10 m (fun i => (rnT nx G i).2.2) ∧ Sts u la ll (fun i => l.getD i (0, 0, 0))) := hid (fun u hu => ⟨(hu.block _ (Array.getElem?_eq_some_iff.1 HR4.out).1).trans HR4.out, HOf.out.below hu, HGo.out.below hu, HSl2.out.below hu⟩)
        go_wp2_with fail
        clear x0 x1
        go_loopw [14] (fun iv wr => ∃ (i : Nat), i ≤ m ∧ iv = .int .i64 i ∧ Hid (∃ (sv nv lv : Value), Rw4 W3 wr sv nv lv (fl (fun j => (rnT nx G j).1) 0 i) ((List.range i).map (fun j => rnM nx G (rnT nx G j).2.2.toNat)) ((List.range i).map (fun j => (lbN l (rnT nx G j) : Int))))) (fun iv _ => m - (intOf iv).toNat)
        case atStart => exact ⟨0, Nat.zero_le _, rfl, hid ⟨_, _, _, HR0.out⟩⟩
        case round =>
          obtain ⟨i, hi, rfl, HS⟩ := hrel
          obtain ⟨sv, nv, lv, hRw⟩ := HS.out
          obtain ⟨an, cn, rfl⟩ : ∃ a c, nv = .slice a i c := by
            obtain ⟨Vs, h1, _⟩ := hRw.n
            obtain ⟨a, c, e⟩ := owns_slice h1
            exact ⟨a, c, by rw [e]; simp⟩
          obtain ⟨al, cl, rfl⟩ : ∃ a c, lv = .slice a i c := by
            obtain ⟨a, c, e⟩ := owns_slice hRw.l
            exact ⟨a, c, by rw [e]; simp⟩
          obtain ⟨sn, hsn⟩ : ∃ s, s = (fl (fun j => (rnT nx G j).1) 0 i).length := ⟨_, rfl⟩
          obtain ⟨sa, sc, rfl⟩ : ∃ a c, sv = .slice a sn c := by
            obtain ⟨a, c, e⟩ := owns_slice hRw.s
            exact ⟨a, c, by rw [e, hsn]⟩
          have HSn := hid hsn
          have HRw := hid hRw
          clear hsn
          by_cases hlt : i < m
          · have hiz : (i : Int) < m := by omega
            obtain ⟨t, ht⟩ : ∃ t, t = rnT nx G i := ⟨_, rfl⟩
            have HTi := hid ht
            have hti := HT2.out i hlt
            rw [← ht] at hti
            have HTo := hid hti
            have hbW : Below W3.heap.size W3 wr := hRw.below
            clear ht hti HS hRw
            obtain ⟨go, hgo⟩ : ∃ z, z = t.2.2 := ⟨_, rfl⟩
            have HGoI := hid hgo
            clear hgo
            go_wp2_with fail
            go_loopw [15, 16] (fun v j wi => ∃ (k len : Nat) (a : Option Addr) (c : Nat), k ≤ m ∧ j = .int .i64 k ∧ v = .slice a len c ∧ Hid (len = (fl (fun j => (rnT nx G j).1) t.2.2 k).length ∧ Below wr.heap.size wr wi ∧ wi.ownsRow wr.heap.size 3 1 (.slice a len c) len (vals (fl (fun j => (rnT nx G j).1) t.2.2 k)))) (fun _ j _ => m - (intOf j).toNat)
            case atStart => exact ⟨0, 0, none, 0, Nat.zero_le _, rfl, rfl, hid ⟨rfl, Below.refl _ _, World.ownsRow_nil _ _ _ _⟩⟩
            case round =>
              obtain ⟨k, len, a, c, hk, rfl, rfl, HQ⟩ := hrel
              rename World => wi
              by_cases hk2 : k < m
              · have hkz : (k : Int) < m := by omega
                have hbi : Below W3.heap.size W3 wi := hbW.trans (HQ.out.2.1.mono hbW.size)
                obtain ⟨_, hof, hgo, _⟩ := HXs.out wi hbi
                obtain ⟨b9, o9, ha9, hc9⟩ := hof
                obtain ⟨b10, o10, ha10, hc10⟩ := hgo
                obtain rfl := ha9 (by omega)
                obtain rfl := ha10 (by omega)
                have q1 := (hc9 k hk2).2
                have q2 := hc10 i hlt
                obtain ⟨x, hx⟩ : ∃ x, x = (rnT nx G k).1 := ⟨_, rfl⟩
                dsimp only at q1 q2
                rw [← hx] at q1
                rw [← HTi.out, ← HGoI.out] at q2
                have HXk := hid hx
                have hlen : len ≤ k := by rw [HQ.out.1, fl_len]; exact tally_le _ _ _
                have HSz : Hid (wr.heap.size ≤ wi.heap.size) := hid HQ.out.2.1.size
                have HBi := hid hbi
                clear hc9 hc10 ha9 ha10 hx hbi
                by_cases e : x = go
                · have hbe : (x == go) = true := beq_iff_eq.2 e
                  have HX1 : Hid ((rnT nx G k).1 = t.2.2) := hid (by rw [← HXk.out, ← HGoI.out]; exact e)
                  clear e
                  go_wp2_with fail
                  go_quiet (fail)
                  go_wp2_with (at_builtin; refine wpList_append_own_at _ rfl _ _ 26 rfl wr.heap.size 3 i3 (.int .i64 0) 1 8 Try.underlying26 HI.out.1 HI.out.2.1 HI.out.2.2.1 HI.out.2.2.2 rfl (by decide) _ _ _ rfl ((below_ownsRow HQ.out.2.2 (below_drewN (Below.refl _ _) _)).alloc _) ⟨wi.heap.size, 0, none⟩ 1 1 [.int .i64 k] rfl rfl (cell_one_new _ _ _) (ints_oneCell .i64 [(k : Int)]) (by unfold maxLen; omega) (by omega) (by have := HSz.out; have h1 : ∀ q, (wi.drewN q).heap.size = wi.heap.size := fun _ => rfl; simp; omega) ?_; intro v' w5 hown hgrow _ _; obtain ⟨⟨a5, c5, rfl⟩, H5⟩ := list_step (below_drewN HQ.out.2.1 _) (below_ownsRow HQ.out.2.2 (below_drewN (Below.refl _ _) _)) hown hgrow; clear hown hgrow)
                  go_roundw
                  case rel => exact ⟨k + 1, len + 1, a5, c5, by omega, by go_num, rfl, hid ⟨by rw [fl_hit HX1.out, List.length_append, List.length_singleton, ← HQ.out.1], H5.out.1, by rw [fl_hit HX1.out]; exact H5.out.2⟩⟩
                  case measure => simp [intOf]; omega
                · have hbe : (x == go) = false := beq_eq_false_iff_ne.2 e
                  have HX1 : Hid ((rnT nx G k).1 ≠ t.2.2) := hid (by rw [← HXk.out, ← HGoI.out]; exact e)
                  clear e
                  go_wp2_with fail
                  go_quiet (fail)
                  go_wp2
                  go_roundw
                  case rel => exact ⟨k + 1, len, a, c, by omega, by go_num, rfl, hid ⟨by rw [fl_miss HX1.out]; exact HQ.out.1, below_drewN HQ.out.2.1 _, by rw [fl_miss HX1.out]; exact below_ownsRow HQ.out.2.2 (below_drewN (Below.refl _ _) _)⟩⟩
                  case measure => simp [intOf]; omega
              · obtain rfl : m = k := by omega
                have hbi : Below W3.heap.size W3 wi := hbW.trans (HQ.out.2.1.mono hbW.size)
                have hRi := HRw.out.next HQ.out.2.1
                have HRi := hid hRi
                have HSz : Hid (W3.heap.size + 1 ≤ wi.heap.size) := hid hRi.lt
                obtain ⟨Vs, hV1, hV2⟩ := hRi.n
                have hnl : ((List.range i).map (fun j => rnM nx G (rnT nx G j).2.2.toNat)).length = i := by simp
                rw [hnl] at hV1
                have HVs := hid (And.intro hV1 hV2)
                have HLo : Hid (W3.heap.size + 1 ≤ wr.heap.size) := hid HRw.out.lt
                have hlq := HQ.out.1
                have HNx : Hid (wi.ownsRow wr.heap.size 3 1 (.slice a len c) (fl (fun j => (rnT nx G j).1) t.2.2 m).length (vals (fl (fun j => (rnT nx G j).1) t.2.2 m))) := hid (by rw [← hlq]; exact HQ.out.2.2)
                have HAp : Hid (∀ b, (Value.slice a len c).ownBlock = some b → (Value.slice sa sn sc).ownBlock ≠ some b) := hid (fun b hb e => by
                  have h1 := (HQ.out.2.2.lt b hb).1
                  have h2 := (HRw.out.s.lt b e).2
                  omega)
                have hlen : len ≤ m := by rw [hlq, fl_len]; exact tally_le _ _ _
                have hsn : sn ≤ i := by rw [HSn.out, fl_len]; exact tally_le _ _ _
                have HYx : Hid (rnM nx G (rnT nx G i).2.2.toNat = fl (fun j => (rnT nx G j).1) t.2.2 m) := hid (by
                  unfold rnM
                  rw [← HTi.out, Int.toNat_of_nonneg HTo.out.2.2.1, ← HMn.out])
                have HLa : ∀ {u : World} {v : Value}, u.ownsRow (W3.heap.size + 1) 57 1 v ((List.range i).map (fun j => (lbN l (rnT nx G j) : Int))).length (valsU ((List.range i).map (fun j => (lbN l (rnT nx G j) : Int)))) → u.ownsRow (W3.heap.size + 1) 57 1 v i (valsU ((List.range i).map (fun j => (lbN l (rnT nx G j) : Int)))) := fun {u v} h => by simpa using h
                have HSa : ∀ {u : World} {v : Value}, u.ownsRow (W3.heap.size + 1) 3 1 v (fl (fun j => (rnT nx G j).1) 0 i).length (vals (fl (fun j => (rnT nx G j).1) 0 i)) → u.ownsRow (W3.heap.size + 1) 3 1 v sn (vals (fl (fun j => (rnT nx G j).1) 0 i)) := fun {u v} h => by rw [HSn.out]; exact h
                obtain ⟨_, hof, _, hst⟩ := HXs.out wi hbi
                obtain ⟨b9, o9, ha9, hc9⟩ := hof
                obtain rfl := ha9 (by omega)
                have q0 := (hc9 i hlt).1
                have q1 := (hc9 i hlt).2
                dsimp only at q0 q1
                obtain ⟨⟨d0, d1, d2, d3⟩, g0, g1, g2, g3⟩ := fou_cells hRi.blk
                have hRl := hRi.lt
                obtain ⟨x, hx⟩ : ∃ x, t.2.1 = x := ⟨_, rfl⟩
                obtain ⟨y, hy⟩ : ∃ y, t.1 = y := ⟨_, rfl⟩
                rw [← HTi.out, hx] at q0
                rw [← HTi.out, hy] at q1
                have HSx := hid hx
                have HAx := hid hy
                have hstep := HTo.out.2.1
                rw [hx] at hstep
                clear hc9 ha9 hx hy hV1 hV2 hnl hlq hRi hbi hbW
                rcases hstep with hstep | hstep
                · subst hstep
                  have HLx : Hid (lbN l (rnT nx G i) = 9223372036854775808) := hid (by unfold lbN; rw [if_pos (by rw [← HTi.out]; exact HSx.out)])
                  clear hst
                  by_cases e0 : y = 0
                  · subst e0
                    have HA0 : Hid ((rnT nx G i).1 = 0) := hid (by rw [← HTi.out]; exact HAx.out)
                    go_wp2_with (first
                      | (at_builtin; refine wpList_append_own_at _ rfl _ _ 27 rfl (W3.heap.size + 1) 26 i26 (.slice none 0 0) 1 24 Try.underlying27 HI26.out.1 HI26.out.2.1 HI26.out.2.2.1 HI26.out.2.2.2 rfl (by decide) _ _ _ rfl (HVs.out.1.alloc _) ⟨wi.heap.size, 0, none⟩ 1 1 [.slice a len c] rfl rfl (World.news_of_block (cs := #[.slice a len c]) (t := 26) (fr := (0, 0)) (heap_alloc_new wi _)) (by simp [Value.oneCell']) (by unfold maxLen; omega) (by omega) (by have := HSz.out; simp; omega) ?_; intro v' w5 hown hgrow _ _; obtain ⟨⟨a5, c5, rfl⟩, k0, k1, H5⟩ := Rw4.addN HRi.out (by simp) HLo.out HNx.out HAp.out HVs.out hown hgrow; clear hown hgrow; obtain ⟨z5, hz5⟩ : ∃ z, w5.setCell ⟨W3.heap.size, 1, none⟩ (.slice a5 (i + 1) c5) = z := ⟨_, rfl⟩; rw [hz5] at H5; clear q0 q1 d0 d1 d2 d3 g0 g1 g2 g3 hRl; have hb := H5.out.below; obtain ⟨_, hof, _, hst⟩ := HXs.out _ hb; obtain ⟨b9, o9, ha9, hc9⟩ := hof; obtain e9 := ha9 (by omega); simp only [Option.some.injEq, Addr.mk.injEq, and_true] at e9; obtain ⟨rfl, rfl⟩ := e9; have q0 := (hc9 i hlt).1; have q1 := (hc9 i hlt).2; dsimp only at q0 q1; rw [← HTi.out, HSx.out] at q0; rw [← HTi.out, HAx.out] at q1; clear hc9 ha9; clear hst; obtain ⟨⟨d0, d1, d2, d3⟩, g0, g1, g2, g3⟩ := fou_cells H5.out.blk; have hRl := H5.out.lt)
                      | (at_builtin; refine wpList_append_own_at _ rfl _ _ 28 rfl (W3.heap.size + 1) 57 i57 (.int .u64 0) 1 8 Try.underlying28 HI57.out.1 HI57.out.2.1 HI57.out.2.2.1 HI57.out.2.2.2 rfl (by decide) _ _ _ rfl ((HLa H5.out.l).alloc _) ⟨z5.heap.size, 0, none⟩ 1 1 [.int .u64 (9223372036854775808)] rfl rfl (World.news_of_block (cs := #[.int .u64 (9223372036854775808)]) (t := 57) (fr := (0, 0)) (heap_alloc_new z5 _)) (by simp [Value.oneCell']) (by unfold maxLen; omega) (by omega) (by have := H5.out.lt; simp; omega) ?_; intro v' w6 hown hgrow _ _; obtain ⟨⟨a6, c6, rfl⟩, j0, j1, H6⟩ := Rw4.addL H5.out (by simp) hown hgrow; clear hown hgrow k0 k1; obtain ⟨z6, hz6⟩ : ∃ z, w6.setCell ⟨W3.heap.size, 2, none⟩ (.slice a6 (i + 1) c6) = z := ⟨_, rfl⟩; rw [hz6] at H6; clear q0 q1 d0 d1 d2 d3 g0 g1 g2 g3 hRl; have hb := H6.out.below; obtain ⟨_, hof, _, hst⟩ := HXs.out _ hb; obtain ⟨b9, o9, ha9, hc9⟩ := hof; obtain e9 := ha9 (by omega); simp only [Option.some.injEq, Addr.mk.injEq, and_true] at e9; obtain ⟨rfl, rfl⟩ := e9; have q0 := (hc9 i hlt).1; have q1 := (hc9 i hlt).2; dsimp only at q0 q1; rw [← HTi.out, HSx.out] at q0; rw [← HTi.out, HAx.out] at q1; clear hc9 ha9; clear hst; obtain ⟨⟨d0, d1, d2, d3⟩, g0, g1, g2, g3⟩ := fou_cells H6.out.blk; have hRl := H6.out.lt)
                      | (at_builtin; refine wpList_append_own_at _ rfl _ _ 26 rfl (W3.heap.size + 1) 3 i3 (.int .i64 0) 1 8 Try.underlying26 HI.out.1 HI.out.2.1 HI.out.2.2.1 HI.out.2.2.2 rfl (by decide) _ _ _ rfl ((HSa H6.out.s).alloc _) ⟨z6.heap.size, 0, none⟩ 1 1 [.int .i64 i] rfl rfl (cell_one_new _ _ _) (ints_oneCell .i64 [(i : Int)]) (by unfold maxLen; omega) (by omega) (by have := H6.out.lt; simp; omega) ?_; intro v' w7 hown hgrow _ hloc; obtain ⟨⟨a7, c7, rfl⟩, j2, j3, H7⟩ := Rw4.addS H6.out HSn.out hown hgrow hloc; clear hown hgrow hloc j0 j1 q0 q1 d0 d1 d2 d3 g0 g1 g2 g3 hRl))
                    go_roundw
                    case rel => exact ⟨i + 1, by omega, by go_num, hid (by
                      have h1 := H7.out
                      have h2 : ((lbN l (rnT nx G i) : Nat) : Int) = 9223372036854775808 := by rw [HLx.out]; rfl
                      rw [List.range_succ, List.map_append, List.map_append, List.map_singleton, List.map_singleton, HYx.out, h2, fl_hit HA0.out]
                      exact ⟨_, _, _, h1⟩)⟩
                    case measure => simp [intOf]; omega
                  · have hyb : (y == 0) = false := beq_eq_false_iff_ne.2 e0
                    have HA0 : Hid ((rnT nx G i).1 ≠ 0) := hid (by rw [← HTi.out, HAx.out]; exact e0)
                    clear e0
                    go_wp2_with (first
                      | (at_builtin; refine wpList_append_own_at _ rfl _ _ 27 rfl (W3.heap.size + 1) 26 i26 (.slice none 0 0) 1 24 Try.underlying27 HI26.out.1 HI26.out.2.1 HI26.out.2.2.1 HI26.out.2.2.2 rfl (by decide) _ _ _ rfl (HVs.out.1.alloc _) ⟨wi.heap.size, 0, none⟩ 1 1 [.slice a len c] rfl rfl (World.news_of_block (cs := #[.slice a len c]) (t := 26) (fr := (0, 0)) (heap_alloc_new wi _)) (by simp [Value.oneCell']) (by unfold maxLen; omega) (by omega) (by have := HSz.out; simp; omega) ?_; intro v' w5 hown hgrow _ _; obtain ⟨⟨a5, c5, rfl⟩, k0, k1, H5⟩ := Rw4.addN HRi.out (by simp) HLo.out HNx.out HAp.out HVs.out hown hgrow; clear hown hgrow; obtain ⟨z5, hz5⟩ : ∃ z, w5.setCell ⟨W3.heap.size, 1, none⟩ (.slice a5 (i + 1) c5) = z := ⟨_, rfl⟩; rw [hz5] at H5; clear q0 q1 d0 d1 d2 d3 g0 g1 g2 g3 hRl; have hb := H5.out.below; obtain ⟨_, hof, _, hst⟩ := HXs.out _ hb; obtain ⟨b9, o9, ha9, hc9⟩ := hof; obtain e9 := ha9 (by omega); simp only [Option.some.injEq, Addr.mk.injEq, and_true] at e9; obtain ⟨rfl, rfl⟩ := e9; have q0 := (hc9 i hlt).1; have q1 := (hc9 i hlt).2; dsimp only at q0 q1; rw [← HTi.out, HSx.out] at q0; rw [← HTi.out, HAx.out] at q1; clear hc9 ha9; clear hst; obtain ⟨⟨d0, d1, d2, d3⟩, g0, g1, g2, g3⟩ := fou_cells H5.out.blk; have hRl := H5.out.lt)
                      | (at_builtin; refine wpList_append_own_at _ rfl _ _ 28 rfl (W3.heap.size + 1) 57 i57 (.int .u64 0) 1 8 Try.underlying28 HI57.out.1 HI57.out.2.1 HI57.out.2.2.1 HI57.out.2.2.2 rfl (by decide) _ _ _ rfl ((HLa H5.out.l).alloc _) ⟨z5.heap.size, 0, none⟩ 1 1 [.int .u64 (9223372036854775808)] rfl rfl (World.news_of_block (cs := #[.int .u64 (9223372036854775808)]) (t := 57) (fr := (0, 0)) (heap_alloc_new z5 _)) (by simp [Value.oneCell']) (by unfold maxLen; omega) (by omega) (by have := H5.out.lt; simp; omega) ?_; intro v' w6 hown hgrow _ _; obtain ⟨⟨a6, c6, rfl⟩, j0, j1, H6⟩ := Rw4.addL H5.out (by simp) hown hgrow; clear hown hgrow k0 k1; obtain ⟨z6, hz6⟩ : ∃ z, w6.setCell ⟨W3.heap.size, 2, none⟩ (.slice a6 (i + 1) c6) = z := ⟨_, rfl⟩; rw [hz6] at H6; clear q0 q1 d0 d1 d2 d3 g0 g1 g2 g3 hRl; have hb := H6.out.below; obtain ⟨_, hof, _, hst⟩ := HXs.out _ hb; obtain ⟨b9, o9, ha9, hc9⟩ := hof; obtain e9 := ha9 (by omega); simp only [Option.some.injEq, Addr.mk.injEq, and_true] at e9; obtain ⟨rfl, rfl⟩ := e9; have q0 := (hc9 i hlt).1; have q1 := (hc9 i hlt).2; dsimp only at q0 q1; rw [← HTi.out, HSx.out] at q0; rw [← HTi.out, HAx.out] at q1; clear hc9 ha9; clear hst; obtain ⟨⟨d0, d1, d2, d3⟩, g0, g1, g2, g3⟩ := fou_cells H6.out.blk; have hRl := H6.out.lt))
                    go_roundw
                    case rel => exact ⟨i + 1, by omega, by go_num, hid (by
                      have h1 := H6.out
                      have h2 : ((lbN l (rnT nx G i) : Nat) : Int) = 9223372036854775808 := by rw [HLx.out]; rfl
                      rw [List.range_succ, List.map_append, List.map_append, List.map_singleton, List.map_singleton, HYx.out, h2, fl_miss HA0.out]
                      exact ⟨_, _, _, h1⟩)⟩
                    case measure => simp [intOf]; omega
                · obtain ⟨s, rfl⟩ : ∃ s : Nat, x = s := ⟨x.toNat, by omega⟩
                  have hsl : s < ll := by rw [HLl.out]; omega
                  obtain ⟨g, hg, hg2⟩ : ∃ g : Nat, (l.getD s (0, 0, 0)).1 = g ∧ g < 20 := ⟨((l.getD s (0, 0, 0)).1).toNat, by have := HL20.out s (by rw [← HLl.out]; exact hsl); omega, by have := HL20.out s (by rw [← HLl.out]; exact hsl); omega⟩
                  have HLx : Hid (lbN l (rnT nx G i) = 2 ^ g) := hid (by have h1 : (rnT nx G i).2.1 = (s : Int) := (by rw [← HTi.out]; exact HSx.out); unfold lbN; rw [if_neg (by rw [h1]; omega), h1, Int.toNat_natCast, hg, Int.toNat_natCast])
                  have hz0 : (0 : Int) ≤ s := by omega
                  have hg20 := hid hg2
                  have HGs := hid hg
                  obtain ⟨bl, ol, hal, hcl⟩ := hst
                  obtain rfl := hal (by omega)
                  have ql := (hcl s hsl).1
                  dsimp only at ql
                  rw [hg] at ql
                  clear hcl hal hstep hg
                  by_cases e0 : y = 0
                  · subst e0
                    have HA0 : Hid ((rnT nx G i).1 = 0) := hid (by rw [← HTi.out]; exact HAx.out)
                    go_wp2_with (first
                      | (at_builtin; refine wpList_append_own_at _ rfl _ _ 27 rfl (W3.heap.size + 1) 26 i26 (.slice none 0 0) 1 24 Try.underlying27 HI26.out.1 HI26.out.2.1 HI26.out.2.2.1 HI26.out.2.2.2 rfl (by decide) _ _ _ rfl (HVs.out.1.alloc _) ⟨wi.heap.size, 0, none⟩ 1 1 [.slice a len c] rfl rfl (World.news_of_block (cs := #[.slice a len c]) (t := 26) (fr := (0, 0)) (heap_alloc_new wi _)) (by simp [Value.oneCell']) (by unfold maxLen; omega) (by omega) (by have := HSz.out; simp; omega) ?_; intro v' w5 hown hgrow _ _; obtain ⟨⟨a5, c5, rfl⟩, k0, k1, H5⟩ := Rw4.addN HRi.out (by simp) HLo.out HNx.out HAp.out HVs.out hown hgrow; clear hown hgrow; obtain ⟨z5, hz5⟩ : ∃ z, w5.setCell ⟨W3.heap.size, 1, none⟩ (.slice a5 (i + 1) c5) = z := ⟨_, rfl⟩; rw [hz5] at H5; clear q0 q1 d0 d1 d2 d3 g0 g1 g2 g3 hRl; have hb := H5.out.below; obtain ⟨_, hof, _, hst⟩ := HXs.out _ hb; obtain ⟨b9, o9, ha9, hc9⟩ := hof; obtain e9 := ha9 (by omega); simp only [Option.some.injEq, Addr.mk.injEq, and_true] at e9; obtain ⟨rfl, rfl⟩ := e9; have q0 := (hc9 i hlt).1; have q1 := (hc9 i hlt).2; dsimp only at q0 q1; rw [← HTi.out, HSx.out] at q0; rw [← HTi.out, HAx.out] at q1; clear hc9 ha9; obtain ⟨bl, ol, hal, hcl⟩ := hst; have el := hal (by omega); simp only [Option.some.injEq, Addr.mk.injEq, and_true] at el; obtain ⟨rfl, rfl⟩ := el; have ql := (hcl s hsl).1; dsimp only at ql; rw [HGs.out] at ql; clear hcl hal; obtain ⟨⟨d0, d1, d2, d3⟩, g0, g1, g2, g3⟩ := fou_cells H5.out.blk; have hRl := H5.out.lt)
                      | (at_builtin; refine wpList_append_own_at _ rfl _ _ 28 rfl (W3.heap.size + 1) 57 i57 (.int .u64 0) 1 8 Try.underlying28 HI57.out.1 HI57.out.2.1 HI57.out.2.2.1 HI57.out.2.2.2 rfl (by decide) _ _ _ rfl ((HLa H5.out.l).alloc _) ⟨z5.heap.size, 0, none⟩ 1 1 [.int .u64 (IntKind.u64.wrap (2 ^ g))] rfl rfl (World.news_of_block (cs := #[.int .u64 (IntKind.u64.wrap (2 ^ g))]) (t := 57) (fr := (0, 0)) (heap_alloc_new z5 _)) (by simp [Value.oneCell']) (by unfold maxLen; omega) (by omega) (by have := H5.out.lt; simp; omega) ?_; intro v' w6 hown hgrow _ _; obtain ⟨⟨a6, c6, rfl⟩, j0, j1, H6⟩ := Rw4.addL H5.out (by simp) hown hgrow; clear hown hgrow k0 k1; obtain ⟨z6, hz6⟩ : ∃ z, w6.setCell ⟨W3.heap.size, 2, none⟩ (.slice a6 (i + 1) c6) = z := ⟨_, rfl⟩; rw [hz6] at H6; clear q0 q1 d0 d1 d2 d3 g0 g1 g2 g3 hRl ql; have hb := H6.out.below; obtain ⟨_, hof, _, hst⟩ := HXs.out _ hb; obtain ⟨b9, o9, ha9, hc9⟩ := hof; obtain e9 := ha9 (by omega); simp only [Option.some.injEq, Addr.mk.injEq, and_true] at e9; obtain ⟨rfl, rfl⟩ := e9; have q0 := (hc9 i hlt).1; have q1 := (hc9 i hlt).2; dsimp only at q0 q1; rw [← HTi.out, HSx.out] at q0; rw [← HTi.out, HAx.out] at q1; clear hc9 ha9; clear hst; obtain ⟨⟨d0, d1, d2, d3⟩, g0, g1, g2, g3⟩ := fou_cells H6.out.blk; have hRl := H6.out.lt)
                      | (at_builtin; refine wpList_append_own_at _ rfl _ _ 26 rfl (W3.heap.size + 1) 3 i3 (.int .i64 0) 1 8 Try.underlying26 HI.out.1 HI.out.2.1 HI.out.2.2.1 HI.out.2.2.2 rfl (by decide) _ _ _ rfl ((HSa H6.out.s).alloc _) ⟨z6.heap.size, 0, none⟩ 1 1 [.int .i64 i] rfl rfl (cell_one_new _ _ _) (ints_oneCell .i64 [(i : Int)]) (by unfold maxLen; omega) (by omega) (by have := H6.out.lt; simp; omega) ?_; intro v' w7 hown hgrow _ hloc; obtain ⟨⟨a7, c7, rfl⟩, j2, j3, H7⟩ := Rw4.addS H6.out HSn.out hown hgrow hloc; clear hown hgrow hloc j0 j1 q0 q1 d0 d1 d2 d3 g0 g1 g2 g3 hRl))
                    go_roundw
                    case rel => exact ⟨i + 1, by omega, by go_num, hid (by
                      have h1 := H7.out
                      have h2 : ((lbN l (rnT nx G i) : Nat) : Int) = IntKind.u64.wrap (2 ^ g) := by rw [HLx.out]; exact (wrap_two hg20.out).symm
                      rw [List.range_succ, List.map_append, List.map_append, List.map_singleton, List.map_singleton, HYx.out, h2, fl_hit HA0.out]
                      exact ⟨_, _, _, h1⟩)⟩
                    case measure => simp [intOf]; omega
                  · have hyb : (y == 0) = false := beq_eq_false_iff_ne.2 e0
                    have HA0 : Hid ((rnT nx G i).1 ≠ 0) := hid (by rw [← HTi.out, HAx.out]; exact e0)
                    clear e0
                    go_wp2_with (first
                      | (at_builtin; refine wpList_append_own_at _ rfl _ _ 27 rfl (W3.heap.size + 1) 26 i26 (.slice none 0 0) 1 24 Try.underlying27 HI26.out.1 HI26.out.2.1 HI26.out.2.2.1 HI26.out.2.2.2 rfl (by decide) _ _ _ rfl (HVs.out.1.alloc _) ⟨wi.heap.size, 0, none⟩ 1 1 [.slice a len c] rfl rfl (World.news_of_block (cs := #[.slice a len c]) (t := 26) (fr := (0, 0)) (heap_alloc_new wi _)) (by simp [Value.oneCell']) (by unfold maxLen; omega) (by omega) (by have := HSz.out; simp; omega) ?_; intro v' w5 hown hgrow _ _; obtain ⟨⟨a5, c5, rfl⟩, k0, k1, H5⟩ := Rw4.addN HRi.out (by simp) HLo.out HNx.out HAp.out HVs.out hown hgrow; clear hown hgrow; obtain ⟨z5, hz5⟩ : ∃ z, w5.setCell ⟨W3.heap.size, 1, none⟩ (.slice a5 (i + 1) c5) = z := ⟨_, rfl⟩; rw [hz5] at H5; clear q0 q1 d0 d1 d2 d3 g0 g1 g2 g3 hRl; have hb := H5.out.below; obtain ⟨_, hof, _, hst⟩ := HXs.out _ hb; obtain ⟨b9, o9, ha9, hc9⟩ := hof; obtain e9 := ha9 (by omega); simp only [Option.some.injEq, Addr.mk.injEq, and_true] at e9; obtain ⟨rfl, rfl⟩ := e9; have q0 := (hc9 i hlt).1; have q1 := (hc9 i hlt).2; dsimp only at q0 q1; rw [← HTi.out, HSx.out] at q0; rw [← HTi.out, HAx.out] at q1; clear hc9 ha9; obtain ⟨bl, ol, hal, hcl⟩ := hst; have el := hal (by omega); simp only [Option.some.injEq, Addr.mk.injEq, and_true] at el; obtain ⟨rfl, rfl⟩ := el; have ql := (hcl s hsl).1; dsimp only at ql; rw [HGs.out] at ql; clear hcl hal; obtain ⟨⟨d0, d1, d2, d3⟩, g0, g1, g2, g3⟩ := fou_cells H5.out.blk; have hRl := H5.out.lt)
                      | (at_builtin; refine wpList_append_own_at _ rfl _ _ 28 rfl (W3.heap.size + 1) 57 i57 (.int .u64 0) 1 8 Try.underlying28 HI57.out.1 HI57.out.2.1 HI57.out.2.2.1 HI57.out.2.2.2 rfl (by decide) _ _ _ rfl ((HLa H5.out.l).alloc _) ⟨z5.heap.size, 0, none⟩ 1 1 [.int .u64 (IntKind.u64.wrap (2 ^ g))] rfl rfl (World.news_of_block (cs := #[.int .u64 (IntKind.u64.wrap (2 ^ g))]) (t := 57) (fr := (0, 0)) (heap_alloc_new z5 _)) (by simp [Value.oneCell']) (by unfold maxLen; omega) (by omega) (by have := H5.out.lt; simp; omega) ?_; intro v' w6 hown hgrow _ _; obtain ⟨⟨a6, c6, rfl⟩, j0, j1, H6⟩ := Rw4.addL H5.out (by simp) hown hgrow; clear hown hgrow k0 k1; obtain ⟨z6, hz6⟩ : ∃ z, w6.setCell ⟨W3.heap.size, 2, none⟩ (.slice a6 (i + 1) c6) = z := ⟨_, rfl⟩; rw [hz6] at H6; clear q0 q1 d0 d1 d2 d3 g0 g1 g2 g3 hRl ql; have hb := H6.out.below; obtain ⟨_, hof, _, hst⟩ := HXs.out _ hb; obtain ⟨b9, o9, ha9, hc9⟩ := hof; obtain e9 := ha9 (by omega); simp only [Option.some.injEq, Addr.mk.injEq, and_true] at e9; obtain ⟨rfl, rfl⟩ := e9; have q0 := (hc9 i hlt).1; have q1 := (hc9 i hlt).2; dsimp only at q0 q1; rw [← HTi.out, HSx.out] at q0; rw [← HTi.out, HAx.out] at q1; clear hc9 ha9; clear hst; obtain ⟨⟨d0, d1, d2, d3⟩, g0, g1, g2, g3⟩ := fou_cells H6.out.blk; have hRl := H6.out.lt))
                    go_roundw
                    case rel => exact ⟨i + 1, by omega, by go_num, hid (by
                      have h1 := H6.out
                      have h2 : ((lbN l (rnT nx G i) : Nat) : Int) = IntKind.u64.wrap (2 ^ g) := by rw [HLx.out]; exact (wrap_two hg20.out).symm
                      rw [List.range_succ, List.map_append, List.map_append, List.map_singleton, List.map_singleton, HYx.out, h2, fl_miss HA0.out]
                      exact ⟨_, _, _, h1⟩)⟩
                    case measure => simp [intOf]; omega
          · obtain rfl : m = i := by omega
            have hbW5 := HRw.out.below
            have hlW := HRw.out.lt
            obtain ⟨W5, hW5⟩ : ∃ x, x = wr := ⟨_, rfl⟩
            subst hW5
            have HR5 := hid (rw5_start HRw.out)
            have HBW5 := hid (And.intro hbW5 hlW)
            have HXq : Hid (∀ u, Below W3.heap.size W3 u → u.cell? ⟨w.heap.size + 1, 1, none⟩ = some (.slice xa G xc) ∧ Egs u xa G (snL nx) (snS nx) (snZ nx)) := hid (fun u hu => ⟨(HX2.out u hu).2, HE2.out.below hu⟩)
            clear hbW5 hlW HS hRw
            go_wp2_with fail
            go_loopw [18] (fun v wx => ∃ (q kb : Nat), q ≤ ll ∧ v = .pointer (some ⟨kb, 0, none⟩) ∧ Hid (∃ fv, Rw5 W3 W5 wx kb q (.slice sa sn sc) (.slice an m cn) (.slice al m cl) fv ((List.range q).map (fun q => fsL (snL nx) (snS nx) (rnT nx G) m (q : Nat)))) ∧ wx.cell? ⟨kb, 0, none⟩ = some (.int .i64 q)) (fun v wx => ll - (intOf (match v with | .pointer (some p) => (wx.cell? p).getD undef | _ => undef)).toNat)
            case atStart => exact ⟨0, _, Nat.zero_le _, rfl, hid ⟨_, HR5.out⟩, cell_of_cells HR5.out.kc rfl⟩
            case round =>
              obtain ⟨q, kb, hq, rfl, HS, hkc⟩ := hrel
              obtain ⟨fv, hRq⟩ := HS.out
              rename World => wx
              obtain ⟨fa2, fc2, rfl⟩ : ∃ a c, fv = .slice a q c := by
                obtain ⟨Vs, h1, _⟩ := hRq.f
                obtain ⟨a, c, e⟩ := owns_slice h1
                exact ⟨a, c, by rw [e]; simp⟩
              have HRq := hid hRq
              clear HS hRq
              by_cases hql : q < ll
              · have hqz : (q : Int) < ll := by omega
                go_wp2_with fail
                go_loopw [19, 20] (fun v j wi => ∃ (k len : Nat) (a : Option Addr) (c : Nat), k ≤ m ∧ j = .int .i64 k ∧ v = .slice a len c ∧ Hid (len = (fl (fsX (snL nx) (snS nx) (rnT nx G) (q : Nat)) 1 k).length ∧ Below wx.heap.size wx wi ∧ wi.ownsRow wx.heap.size 3 1 (.slice a len c) len (vals (fl (fsX (snL nx) (snS nx) (rnT nx G) (q : Nat)) 1 k)))) (fun _ j _ => m - (intOf j).toNat)
                case atStart => exact ⟨0, 0, none, 0, Nat.zero_le _, rfl, rfl, hid ⟨rfl, Below.refl _ _, World.ownsRow_nil _ _ _ _⟩⟩
                case round =>
                  obtain ⟨k, len, a, c, hk, rfl, rfl, HQ⟩ := hrel
                  rename World => wi
                  by_cases hk2 : k < m
                  · have hkz : (k : Int) < m := by omega
                    have hbi : Below W3.heap.size W3 wi := HRq.out.below.trans (HQ.out.2.1.mono HRq.out.below.size)
                    obtain ⟨_, hof, _, _⟩ := HXs.out wi hbi
                    obtain ⟨x1, hegs⟩ := HXq.out wi hbi
                    obtain ⟨b9, o9, ha9, hc9⟩ := hof
                    obtain rfl := ha9 (by omega)
                    obtain ⟨b, o, hax, hcx⟩ := hegs
                    obtain rfl := hax hG0
                    have q0 := (hc9 k hk2).1
                    have q1 := (hc9 k hk2).2
                    dsimp only at q0 q1
                    have htk := HT2.out k hk2
                    obtain ⟨x, hx⟩ : ∃ x : Nat, (rnT nx G k).1 = x := ⟨((rnT nx G k).1).toNat, by omega⟩
                    have hxG : x < G := by omega
                    have hxz : (x : Int) < G := by omega
                    rw [hx] at q1
                    obtain ⟨y, hy⟩ : ∃ y, (rnT nx G k).2.1 = y := ⟨_, rfl⟩
                    rw [hy] at q0
                    have HXk := hid (And.intro hx hy)
                    obtain ⟨a1, c1, hck, hfl⟩ := hcx x hxG
                    have hL60 := H60.out x hxG
                    obtain ⟨lx, hlx⟩ : ∃ lx, lx = snL nx x := ⟨_, rfl⟩
                    rw [← hlx] at hck hfl hL60
                    have HLx := hid hlx
                    have hkc2 := below_c HQ.out.2.1 hkc
                    have HS0 : Hid (∀ z, Below wi.heap.size wi z → (fun y : World => y.cell? ⟨w.heap.size + 1, 1, none⟩ = some (.slice (some ⟨b, o, none⟩) G xc) ∧ y.cell? ⟨b9, o9 + k * 2 + 1, none⟩ = some (.int .i64 (x : Nat)) ∧ y.cell? ⟨b, o + x, none⟩ = some (.slice a1 lx c1)) z) := hid (fun z hz => ⟨below_c hz x1, below_c hz q1, below_c hz hck⟩)
                    have HQ0 : Hid (∀ z, Below wi.heap.size wi z → z.cell? ⟨b9, o9 + k * 2, none⟩ = some (.int .i64 y) ∧ z.cell? ⟨kb, 0, none⟩ = some (.int .i64 (q : Nat))) := hid (fun z hz => ⟨below_c hz q0, below_c hz hkc2⟩)
                    have CH : Hid (∀ z, Below wi.heap.size wi z → Calls Try.prog 35 #[.slice a1 lx c1, .func (.func 36) #[] #[.pointer (some ⟨kb, 0, none⟩)]] z fun e w' => e = .returned (.bool (has lx (snS nx x) (q : Nat))) ∧ Below z.heap.size z w') := hid (fun z hz => hasE_any a1 lx c1 36 kb (snS nx x) (snZ nx x) (q : Nat) z (by omega) (hfl.below hz) (Or.inr rfl) (below_c hz hkc2))
                    have hlen : len ≤ k := by rw [HQ.out.1, fl_len]; exact tally_le _ _ _
                    have HSz : Hid (wx.heap.size ≤ wi.heap.size) := hid HQ.out.2.1.size
                    have hB0 : Below wi.heap.size wi wi.drew := below_drew_iff.2 (Below.refl _ _)
                    clear hc9 ha9 hax hcx hx hy hlx hfl hbi htk x1 q0 q1 hck hkc2
                    go_wp2_with fail
                    refine G_region (fun y : World => y.cell? ⟨w.heap.size + 1, 1, none⟩ = some (.slice (some ⟨b, o, none⟩) G xc) ∧ y.cell? ⟨b9, o9 + k * 2 + 1, none⟩ = some (.int .i64 (x : Nat)) ∧ y.cell? ⟨b, o + x, none⟩ = some (.slice a1 lx c1)) (fun i => i == 11) (by kernel_rfl) (HS0.out _ hB0) (fun _ => ?_)
                    refine G_take (i := 0) (oi := { dst := some 168, op := Op.fieldAddr 37 (Operand.tmp 3) 1, type := 0, pos := _, after := #[], guard := none }) (v := .pointer (some ⟨w.heap.size + 1, 1, none⟩)) rfl (by kernel_rfl) (by kernel_rfl) (by kernel_rfl) (by kernel_rfl) (fun _ _ _ h => h) (by rfl) (fun u hu => ?_) (HS0.out _ hB0) ?_
                    · (try dsimp only at hu); go_simp
                    (try simp only [Act.put, List.setIfInBounds_toArray, List.set_cons_zero, List.set_cons_succ])
                    refine G_take (i := 1) (oi := { dst := some 169, op := Op.load 35 (Operand.tmp 168), type := 35, pos := _, after := #[{ on := 0, ground := Ground.data }], guard := none }) (v := .slice (some ⟨b, o, none⟩) G xc) rfl (by kernel_rfl) (by kernel_rfl) (by kernel_rfl) (by kernel_rfl) (fun _ _ _ h => h) (by rfl) (fun u hu => ?_) (HS0.out _ hB0) ?_
                    · (try dsimp only at hu); go_simp
                    (try simp only [Act.put, List.setIfInBounds_toArray, List.set_cons_zero, List.set_cons_succ])
                    refine G_take (i := 2) (oi := { dst := some 170, op := Op.move (Operand.tmp 9), type := 31, pos := _, after := #[], guard := none }) (v := .slice (some ⟨b9, o9, none⟩) m c9) rfl (by kernel_rfl) (by kernel_rfl) (by kernel_rfl) (by kernel_rfl) (fun _ _ _ h => h) (by rfl) (fun u hu => ?_) (HS0.out _ hB0) ?_
                    · (try dsimp only at hu); go_simp
                    (try simp only [Act.put, List.setIfInBounds_toArray, List.set_cons_zero, List.set_cons_succ])
                    refine G_take (i := 3) (oi := { dst := some 171, op := Op.move (Operand.tmp 20), type := 3, pos := _, after := #[], guard := none }) (v := .int .i64 (k : Nat)) rfl (by kernel_rfl) (by kernel_rfl) (by kernel_rfl) (by kernel_rfl) (fun _ _ _ h => h) (by rfl) (fun u hu => ?_) (HS0.out _ hB0) ?_
                    · (try dsimp only at hu); go_simp
                    (try simp only [Act.put, List.setIfInBounds_toArray, List.set_cons_zero, List.set_cons_succ])
                    refine G_take (i := 4) (oi := { dst := some 172, op := Op.indexAddr 31 (Operand.tmp 170) (Operand.tmp 171), type := 0, pos := _, after := #[{ on := 2, ground := Ground.data }, { on := 3, ground := Ground.data }], guard := none }) (v := .pointer (some ⟨b9, o9 + k * 2, none⟩)) rfl (by kernel_rfl) (by kernel_rfl) (by kernel_rfl) (by kernel_rfl) (fun _ _ _ h => h) (by rfl) (fun u hu => ?_) (HS0.out _ hB0) ?_
                    · (try dsimp only at hu); go_simp
                    (try simp only [Act.put, List.setIfInBounds_toArray, List.set_cons_zero, List.set_cons_succ])
                    refine G_take (i := 5) (oi := { dst := some 173, op := Op.fieldAddr 44 (Operand.tmp 172) 1, type := 0, pos := _, after := #[{ on := 4, ground := Ground.data }], guard := none }) (v := .pointer (some ⟨b9, o9 + k * 2 + 1, none⟩)) rfl (by kernel_rfl) (by kernel_rfl) (by kernel_rfl) (by kernel_rfl) (fun _ _ _ h => h) (by rfl) (fun u hu => ?_) (HS0.out _ hB0) ?_
                    · (try dsimp only at hu); go_simp
                    (try simp only [Act.put, List.setIfInBounds_toArray, List.set_cons_zero, List.set_cons_succ])
                    refine G_take (i := 6) (oi := { dst := some 174, op := Op.load 3 (Operand.tmp 173), type := 3, pos := _, after := #[{ on := 5, ground := Ground.data }], guard := none }) (v := .int .i64 (x : Nat)) rfl (by kernel_rfl) (by kernel_rfl) (by kernel_rfl) (by kernel_rfl) (fun _ _ _ h => h) (by rfl) (fun u hu => ?_) (HS0.out _ hB0) ?_
                    · (try dsimp only at hu); go_simp
                    (try simp only [Act.put, List.setIfInBounds_toArray, List.set_cons_zero, List.set_cons_succ])
                    refine G_take (i := 7) (oi := { dst := some 175, op := Op.indexAddr 35 (Operand.tmp 169) (Operand.tmp 174), type := 0, pos := _, after := #[{ on := 1, ground := Ground.data }, { on := 6, ground := Ground.data }], guard := none }) (v := .pointer (some ⟨b, o + x, none⟩)) rfl (by kernel_rfl) (by kernel_rfl) (by kernel_rfl) (by kernel_rfl) (fun _ _ _ h => h) (by rfl) (fun u hu => ?_) (HS0.out _ hB0) ?_
                    · (try dsimp only at hu); go_simp
                    (try simp only [Act.put, List.setIfInBounds_toArray, List.set_cons_zero, List.set_cons_succ])
                    refine G_take (i := 8) (oi := { dst := some 176, op := Op.load 31 (Operand.tmp 175), type := 31, pos := _, after := #[{ on := 7, ground := Ground.data }], guard := none }) (v := .slice a1 lx c1) rfl (by kernel_rfl) (by kernel_rfl) (by kernel_rfl) (by kernel_rfl) (fun _ _ _ h => h) (by rfl) (fun u hu => ?_) (HS0.out _ hB0) ?_
                    · (try dsimp only at hu); go_simp
                    (try simp only [Act.put, List.setIfInBounds_toArray, List.set_cons_zero, List.set_cons_succ])
                    refine G_take (i := 9) (oi := { dst := some 177, op := Op.makeFunc (Fn.func 36) #[] #[Operand.tmp 18], type := 82, pos := _, after := #[], guard := none }) (v := .func (.func 36) #[] #[.pointer (some ⟨kb, 0, none⟩)]) rfl (by kernel_rfl) (by kernel_rfl) (by kernel_rfl) (by kernel_rfl) (fun _ _ _ h => h) (by rfl) (fun u hu => ?_) (HS0.out _ hB0) ?_
                    · (try dsimp only at hu); go_simp
                    (try simp only [Act.put, List.setIfInBounds_toArray, List.set_cons_zero, List.set_cons_succ])
                    refine G_step (i := 10) (o := { dst := some 178, op := Op.call { callee := Callee.value (Operand.func 35), args := #[Operand.tmp 176, Operand.tmp 177], argTypes := #[31, 82] }, type := 4, pos := _, after := #[{ on := 8, ground := Ground.data }, { on := 9, ground := Ground.data }], guard := none }) (by kernel_rfl) rfl (fun K' hK => ?_)
                    go_simp
                    refine (CH.out _ hB0).mono ?_
                    rintro e z ⟨rfl, hb⟩
                    dsimp only
                    have hBz := hB0.trans (hb.mono hB0.size)
                    have HBz := hid hBz
                    refine hK.out _ _ (fun _ => HS0.out _ HBz.out) (fun _ => ?_)
                    clear hK K' hb hB0 hBz
                    (try simp only [Act.put, List.setIfInBounds_toArray, List.set_cons_zero, List.set_cons_succ])
                    refine G_step (i := 11) (o := { dst := some 21, op := Op.assign (Operand.tmp 178), type := 4, pos := _, after := #[{ on := 10, ground := Ground.data }, { on := 10, ground := Ground.chain }, { on := 0, ground := Ground.phase }, { on := 1, ground := Ground.phase }, { on := 2, ground := Ground.phase }, { on := 3, ground := Ground.phase }, { on := 4, ground := Ground.phase }, { on := 5, ground := Ground.phase }, { on := 6, ground := Ground.phase }, { on := 7, ground := Ground.phase }, { on := 8, ground := Ground.phase }, { on := 9, ground := Ground.phase }, { on := 10, ground := Ground.phase }], guard := none }) (by kernel_rfl) rfl (fun K' hK => ?_)
                    go_simp
                    refine hK.out _ _ (fun hh => by cases hh) (fun _ => ?_)
                    clear hK K'
                    (try simp only [Act.put, List.setIfInBounds_toArray, List.set_cons_zero, List.set_cons_succ])
                    refine G_done (by kernel_rfl) ?_ _
                    obtain ⟨y0, k0⟩ := HQ0.out _ HBz.out
                    have HQz : Hid (Below wx.heap.size wx z ∧ z.ownsRow wx.heap.size 3 1 (.slice a len c) len (vals (fl (fsX (snL nx) (snS nx) (rnT nx G) (q : Nat)) 1 k))) := hid ⟨HQ.out.2.1.trans (HBz.out.mono HQ.out.2.1.size), below_ownsRow HQ.out.2.2 HBz.out⟩
                    have HSz2 : Hid (wx.heap.size ≤ z.heap.size) := hid HQz.out.1.size
                    cases hh : has lx (snS nx x) (q : Nat)
                    · have HX1 : Hid (fsX (snL nx) (snS nx) (rnT nx G) (q : Nat) k = 1) := hid (fsX_can (by rw [HXk.out.1, Int.toNat_natCast, ← HLx.out]; exact hh))
                      clear hh
                      go_wp2_with fail
                      go_quiet (fail)
                      go_wp2_with (at_builtin; refine wpList_append_own_at _ rfl _ _ 26 rfl wx.heap.size 3 i3 (.int .i64 0) 1 8 Try.underlying26 HI.out.1 HI.out.2.1 HI.out.2.2.1 HI.out.2.2.2 rfl (by decide) _ _ _ rfl ((below_ownsRow HQz.out.2 (below_drewN (Below.refl _ _) _)).alloc _) ⟨z.heap.size, 0, none⟩ 1 1 [.int .i64 k] rfl rfl (cell_one_new _ _ _) (ints_oneCell .i64 [(k : Int)]) (by unfold maxLen; omega) (by omega) (by have := HSz2.out; have h1 : ∀ q, (z.drewN q).heap.size = z.heap.size := fun _ => rfl; simp; omega) ?_; intro v' w5 hown hgrow _ _; obtain ⟨⟨a5, c5, rfl⟩, H5⟩ := list_step (below_drewN HQz.out.1 _) (below_ownsRow HQz.out.2 (below_drewN (Below.refl _ _) _)) hown hgrow; clear hown hgrow)
                      go_roundw
                      case rel => exact ⟨k + 1, len + 1, a5, c5, by omega, by go_num, rfl, hid ⟨by rw [fl_hit HX1.out, List.length_append, List.length_singleton, ← HQ.out.1], H5.out.1, by rw [fl_hit HX1.out]; exact H5.out.2⟩⟩
                      case measure => simp [intOf]; omega
                    · by_cases e : y = (q : Nat)
                      · have hb1 : (y == (q : Int)) = true := beq_iff_eq.2 e
                        have HX1 : Hid (fsX (snL nx) (snS nx) (rnT nx G) (q : Nat) k = 1) := hid (fsX_own (by rw [HXk.out.2]; exact e))
                        clear hh e
                        go_wp2_with fail
                        go_quiet (fail)
                        go_wp2_with (at_builtin; refine wpList_append_own_at _ rfl _ _ 26 rfl wx.heap.size 3 i3 (.int .i64 0) 1 8 Try.underlying26 HI.out.1 HI.out.2.1 HI.out.2.2.1 HI.out.2.2.2 rfl (by decide) _ _ _ rfl ((below_ownsRow HQz.out.2 (below_drewN (Below.refl _ _) _)).alloc _) ⟨z.heap.size, 0, none⟩ 1 1 [.int .i64 k] rfl rfl (cell_one_new _ _ _) (ints_oneCell .i64 [(k : Int)]) (by unfold maxLen; omega) (by omega) (by have := HSz2.out; have h1 : ∀ q, (z.drewN q).heap.size = z.heap.size := fun _ => rfl; simp; omega) ?_; intro v' w5 hown hgrow _ _; obtain ⟨⟨a5, c5, rfl⟩, H5⟩ := list_step (below_drewN HQz.out.1 _) (below_ownsRow HQz.out.2 (below_drewN (Below.refl _ _) _)) hown hgrow; clear hown hgrow)
                        go_roundw
                        case rel => exact ⟨k + 1, len + 1, a5, c5, by omega, by go_num, rfl, hid ⟨by rw [fl_hit HX1.out, List.length_append, List.length_singleton, ← HQ.out.1], H5.out.1, by rw [fl_hit HX1.out]; exact H5.out.2⟩⟩
                        case measure => simp [intOf]; omega
                      · have hb1 : (y == (q : Int)) = false := beq_eq_false_iff_ne.2 e
                        have HX1 : Hid (fsX (snL nx) (snS nx) (rnT nx G) (q : Nat) k ≠ 1) := hid (fsX_out (by rw [HXk.out.1, Int.toNat_natCast, ← HLx.out]; exact hh) (by rw [HXk.out.2]; exact e))
                        clear hh e
                        go_wp2_with fail
                        go_quiet (fail)
                        go_wp2
                        go_roundw
                        case rel => exact ⟨k + 1, len, a, c, by omega, by go_num, rfl, hid ⟨by rw [fl_miss HX1.out]; exact HQ.out.1, below_drewN HQz.out.1 _, by rw [fl_miss HX1.out]; exact below_ownsRow HQz.out.2 (below_drewN (Below.refl _ _) _)⟩⟩
                        case measure => simp [intOf]; omega
                  · obtain rfl : m = k := by omega
                    have hRi := HRq.out.next HQ.out.2.1
                    have HRi := hid hRi
                    obtain ⟨Vs, hV1, hV2⟩ := hRi.f
                    have hnl : ((List.range q).map (fun q => fsL (snL nx) (snS nx) (rnT nx G) m (q : Nat))).length = q := by simp
                    rw [hnl] at hV1
                    have HVs := hid (And.intro hV1 hV2)
                    have hlq := HQ.out.1
                    have hlen : len ≤ m := by rw [hlq, fl_len]; exact tally_le _ _ _
                    have HNx : Hid (wi.ownsRow wx.heap.size 3 1 (.slice a len c) (fsL (snL nx) (snS nx) (rnT nx G) m (q : Nat)).length (vals (fsL (snL nx) (snS nx) (rnT nx G) m (q : Nat)))) := hid (by unfold fsL; rw [← hlq]; exact HQ.out.2.2)
                    have HLo : Hid (W5.heap.size ≤ wx.heap.size ∧ kb < wx.heap.size) := hid ⟨HRq.out.size, HRq.out.klt⟩
                    have HSz : Hid (W5.heap.size ≤ wi.heap.size) := hid (Nat.le_trans HLo.out.1 HQ.out.2.1.size)
                    obtain ⟨⟨d0, d1, d2, d3⟩, g0, g1, g2, g3⟩ := fou_cells hRi.blk
                    have hRl := hRi.rlt
                    have hwq : wrap64 ((q : Int) + 1) = ((q + 1 : Nat) : Int) := by unfold wrap64; omega
                    clear hRi hV1 hV2 hnl hlq hkc
                    go_wp2_with (at_builtin; refine wpList_append_own_at _ rfl _ _ 27 rfl W5.heap.size 26 i26 (.slice none 0 0) 1 24 Try.underlying27 HI26.out.1 HI26.out.2.1 HI26.out.2.2.1 HI26.out.2.2.2 rfl (by decide) _ _ _ rfl (HVs.out.1.alloc _) ⟨wi.heap.size, 0, none⟩ 1 1 [.slice a len c] rfl rfl (World.news_of_block (cs := #[.slice a len c]) (t := 26) (fr := (0, 0)) (heap_alloc_new wi _)) (by simp [Value.oneCell']) (by unfold maxLen; omega) (by omega) (by have := HSz.out; simp; omega) ?_; intro v' w5 hown hgrow _ _; obtain ⟨⟨a5, c5, rfl⟩, k0, k1, H5⟩ := Rw5.addF HRi.out (by simp) HLo.out HNx.out HVs.out hown hgrow; clear hown hgrow d0 d1 d2 d3 g0 g1 g2 g3 hRl; obtain ⟨z5, hz5⟩ : ∃ z, w5.setCell ⟨W3.heap.size, 3, none⟩ (.slice a5 (q + 1) c5) = z := ⟨_, rfl⟩; rw [hz5] at H5; have e0 := cell_of_cells (i := 0) H5.out.kc rfl; have e1 := H5.out.klt; have e2 : z5.frozen? ⟨kb, 0, none⟩ = false := by simp [World.frozen?, H5.out.kc])
                    have hc1 : (z5.alloc (.cells #[.int .i64 ((q : Int) + 1)] 3)).cell? ⟨z5.heap.size, 0, none⟩ = some (.int .i64 ((q : Int) + 1)) := cell_of_alloc rfl
                    have hc2 : wx.cell? ⟨kb, 0, none⟩ = some (.int .i64 q) := cell_of_cells HRq.out.kc rfl
                    refine ⟨⟨q + 1, z5.heap.size, by omega, rfl, hid ⟨.slice a5 (q + 1) c5, ?_⟩, ?_⟩, ?_⟩
                    · rw [List.range_succ, List.map_append, List.map_singleton]
                      exact H5.out.bump2
                    · rw [hc1]
                      rfl
                    · simp only [hc1, hc2, Option.getD_some, intOf]
                      omega
              · obtain rfl : ll = q := by omega
                obtain ⟨⟨d0, d1, d2, d3⟩, g0, g1, g2, g3⟩ := fou_cells HRq.out.blk
                have hRl := HRq.out.rlt
                obtain ⟨hR4, hof, _, _⟩ := HXs.out wx HRq.out.below
                have HR4x := hid hR4
                have HOx := hid hof
                obtain ⟨⟨r0, r1, r2, r3⟩, s0, s1, s2, s3⟩ := fou_cells hR4
                have hRr := (Array.getElem?_eq_some_iff.1 hR4).1
                clear hof hR4
                go_wp2
                (try simp only [Exit.inBlock, Exit.then])
                refine bodyPost_ret (results_cell_tmp3 rfl _ _ (w.heap.size + 1 + 1) 30 #[.slice sa sn sc, .slice an m cn, .slice al m cl, .slice fa2 ll fc2] (0, 0) _ rfl (fou_set HR4x.out _ _ _ _) Try.underlying30 rfl (by kernel_rfl)) rfl ?_
                obtain ⟨zf, hzf⟩ : ∃ z, z = (((wx.setCell ⟨w.heap.size + 1 + 1, 0, none⟩ (.slice sa sn sc)).setCell ⟨w.heap.size + 1 + 1, 1, none⟩ (.slice an m cn)).setCell ⟨w.heap.size + 1 + 1, 2, none⟩ (.slice al m cl)).setCell ⟨w.heap.size + 1 + 1, 3, none⟩ (.slice fa2 ll fc2) := ⟨_, rfl⟩
                rw [← hzf]
                have hbl : w.heap.size + 1 + 1 < W3.heap.size := by have := HBB.out.size; have := HW.out.2; omega
                have hoth : ∀ g, g ≠ w.heap.size + 1 + 1 → zf.heap[g]? = wx.heap[g]? := fun g hg => by rw [hzf]; exact fou_else hg _ _ _ _
                have hBw : Below w.heap.size w wx := (HW.out.1.trans (HBB.out.mono HW.out.1.size)).trans (HRq.out.below.mono (HW.out.1.trans (HBB.out.mono HW.out.1.size)).size)
                have hk4 : ∀ {s n : Nat} {t : TypeId} {v : Value} {xs : List Value}, W5.ownsRow (W3.heap.size + 1) s t v n xs → zf.ownsRow (W3.heap.size + 1) s t v n xs := fun {s n t v xs} ho => own_on ho (fun g hg => by
                  have h1 := ho.lt g hg
                  rw [hoth g (by omega)]
                  exact HRq.out.old g h1.2 (by omega))
                have h5 := HRq.out.r5
                have hk5 : ∀ {s n : Nat} {t : TypeId} {v : Value} {xs : List Value}, wx.ownsRow W5.heap.size s t v n xs → zf.ownsRow W5.heap.size s t v n xs := fun {s n t v xs} ho => own_on ho (fun g hg => by
                  have h1 := ho.lt g hg
                  exact hoth g (by omega))
                have hrn0 : rnM nx G 0 = fl (fun j => (rnT nx G j).1) 0 m := by unfold rnM; rw [← HMn.out]; rfl
                have hS : Row zf sa sn (fun i => (rnM nx G 0).getD i 0) := by
                  have h1 := hk4 HRw.out.s
                  obtain ⟨a', c', e, hr⟩ := owns_row h1
                  rw [← HSn.out] at e hr
                  cases e
                  rw [hrn0]
                  exact hr
                have hN : Gr zf an m (fun i => (rnM nx G (rnT nx G i).2.2.toNat).length) (fun i j => (rnM nx G (rnT nx G i).2.2.toNat).getD j 0) := by
                  obtain ⟨Vs, h1, h2⟩ := HRw.out.n
                  have hln : ((List.range m).map (fun j => rnM nx G (rnT nx G j).2.2.toNat)).length = m := by simp
                  rw [hln] at h1 h2
                  have h3 := owns_gr (hk4 h1) (ls := (List.range m).map (fun j => rnM nx G (rnT nx G j).2.2.toNat)) (fun i hi => by
                    obtain ⟨v, h4, h6, _⟩ := h2 i hi
                    exact ⟨v, h4, hk4 h6⟩)
                  have hge : ∀ i, i < m → ((List.range m).map (fun j => rnM nx G (rnT nx G j).2.2.toNat)).getD i [] = rnM nx G (rnT nx G i).2.2.toNat := fun i hi => by simp [hi]
                  exact h3.congr (fun i hi => by rw [hge i hi]) (fun i hi => by rw [hge i hi])
                have hL : RowU zf al m (fun i => (lbN l (rnT nx G i) : Int)) := by
                  have h1 := HRw.out.l
                  have hln : ((List.range m).map (fun j => (lbN l (rnT nx G j) : Int))).length = m := by simp
                  rw [hln] at h1
                  exact (owns_rowU (hk4 h1)).congr (fun i hi => by simp [hi])
                have hF : Gr zf fa2 ll (fun q => (fsL (snL nx) (snS nx) (rnT nx G) m (q : Nat)).length) (fun q i => (fsL (snL nx) (snS nx) (rnT nx G) m (q : Nat)).getD i 0) := by
                  obtain ⟨Vs, h1, h2⟩ := HRq.out.f
                  have hln : ((List.range ll).map (fun q => fsL (snL nx) (snS nx) (rnT nx G) m (q : Nat))).length = ll := by simp
                  rw [hln] at h1 h2
                  have h3 := owns_gr (hk5 h1) (ls := (List.range ll).map (fun q => fsL (snL nx) (snS nx) (rnT nx G) m (q : Nat))) (fun i hi => by
                    obtain ⟨v, h4, h6, _⟩ := h2 i hi
                    exact ⟨v, h4, hk5 h6⟩)
                  have hge : ∀ i, i < ll → ((List.range ll).map (fun q => fsL (snL nx) (snS nx) (rnT nx G) m (q : Nat))).getD i [] = fsL (snL nx) (snS nx) (rnT nx G) m (i : Nat) := fun i hi => by simp [hi]
                  exact h3.congr (fun i hi => by rw [hge i hi]) (fun i hi => by rw [hge i hi])
                have hr0 : rnE 0 nx G = 0 := by unfold rnE; rw [if_neg (by simp), if_neg (by rw [← HMn.out]; omega)]
                obtain ⟨A, hA1, hA2, hA3⟩ := rn_put2 (c0 := sc) (cn := cn) (cl := cl) (fc := fc2) HMn.out HLl.out h6 (by omega) (by rw [HSn.out, ← hrn0]) HL20.out hS hN hL hF
                refine ⟨by rw [hzf]; exact fou_low hBw (by omega) _ _ _ _, Or.inr ⟨hr0, A, a9, c9, ?_, hid ⟨hA2, hA3, ?_⟩⟩⟩
                · rw [hA1, ← HMn.out]
                  rfl
                · rw [← HMn.out]
                  obtain ⟨b9, o9, h1, h2⟩ := HOx.out
                  refine ⟨b9, o9, h1, fun i hi => ?_⟩
                  have hlt9 : b9 ≠ w.heap.size + 1 + 1 := fun e => by
                    have h3 := (h2 i hi).1
                    have h4 := HR4x.out
                    rw [e, World.cell?, h4] at h3
                    generalize o9 + i * 2 = j at h3
                    match j, h3 with
                    | 0, h3 => simp at h3
                    | 1, h3 => simp at h3
                    | 2, h3 => simp at h3
                    | 3, h3 => simp at h3
                    | j + 4, h3 => simp at h3
                  have hb := hoth b9 hlt9
                  exact ⟨(World.cell?_of_block (w := wx) (a := ⟨b9, o9 + i * 2, none⟩) hb).trans (h2 i hi).1, (World.cell?_of_block (w := wx) (a := ⟨b9, o9 + i * 2 + 1, none⟩) hb).trans (h2 i hi).2⟩

end Go.Proofs.Ythpbgfodejoecaa
