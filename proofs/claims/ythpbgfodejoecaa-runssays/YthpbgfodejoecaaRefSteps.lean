/- The document's Steps. -/
import Derived.Deep.AppendLies
import Derived.Test.YthpbgfodejoecaaStepsOfJ
import Derived.Test.YthpbgfodejoecaaRefProc
namespace Go.Proofs.Ythpbgfodejoecaa
open Go.RowKit

theorem sng_get : ∀ {o j}, j < o → (sng o).getD j 0 = 2 ^ j
  | 0, _, h => by omega
  | o + 1, j, h => by
    have hl := sng_len o
    by_cases e : j = o
    · subst e
      rw [sng, List.getD_eq_getElem?_getD, List.getElem?_append_right (by omega), hl, Nat.sub_self]
      rfl
    · rw [sng, List.getD_eq_getElem?_getD, List.getElem?_append_left (by omega), ← List.getD_eq_getElem?_getD]
      exact sng_get (by omega)

theorem wrap_i64_pow {o : Nat} (h : o ≤ 30) : IntKind.i64.wrap ((2 : Int) ^ o) = 2 ^ o := by
  have h1 := pow_le h
  have h2 := two_pos o
  rw [IntKind.wrap_i64]
  omega

/-- A list that grows by one in the round, as the walk has it. -/
theorem stIn_more {P l : List St3} {n x : Int} {L : List Int} {i : Nat} (hi : i < L.length) (hl : l = P ++ prs n (L.take i) [x]) : l ++ [(n, L.getD i 0, x)] = P ++ prs n (L.take (i + 1)) [x] := by
  rw [hl, List.take_succ_eq_append_getElem hi, prs_snoc, getD_lt hi, List.append_assoc]
  rfl

theorem upTo_more {P l : List St3} {n : Int} {j : Nat} (hl : l = P ++ prs n [-1] (upTo j)) : l ++ [(n, -1, (j : Int) + 1)] = P ++ prs n [-1] (upTo (j + 1)) := by
  rw [hl]
  simp [prs, upTo]

theorem stK_flat {n k : Int} {ins : List Int} {o : Nat} (hk : k = 2 ∨ k = 3 ∨ k = 4) (h : fitOk k ins.length o = true) : stK n k ins o = prs n ins [2 ^ o - 1] := by
  unfold fitOk at h
  rcases hk with rfl | rfl | rfl
  · simp at h
    rw [h.2, ← stK_end (Or.inl rfl)]
    rfl
  · simp at h
    rw [h.2, ← stK_end (Or.inr rfl)]
    rfl
  · simp at h
    rw [h.2, ← stK_xor (Or.inl rfl)]
    rfl

theorem fit_kind {k : Int} {i o : Nat} (h : fitOk k i o = true) : k = 1 ∨ k = 2 ∨ k = 3 ∨ k = 4 ∨ k = 5 ∨ k = 6 ∨ k = 7 := by
  unfold fitOk at h
  split at h
  · omega
  · split at h
    · omega
    · split at h
      · omega
      · split at h
        · omega
        · split at h
          · omega
          · cases h

/-- What the loops of Steps keep. -/
structure Grow (W w : World) (v : Value) (l : List St3) : Prop where
  below : Below W.heap.size W w
  own : w.ownsRow W.heap.size 66 3 v l.length (vals3 l)

theorem Grow.step {W wr w1 : World} {v v' : Value} {l : List St3} {t : St3} {o : Obj} (h : Grow W wr v l) (hown : w1.ownsRow W.heap.size 66 3 v' (l.length + 1) (vals3 l ++ val3 t)) (hgrow : (wr.alloc o).grownBy w1 v.ownBlock) :
    (∃ a c, v' = .slice a (l.length + 1) c) ∧ Hid (Grow W w1 v' (l ++ [t])) := by
  obtain ⟨h1, h2⟩ := sts_step h.below h.own hown hgrow
  refine ⟨h1, hid ⟨h2.out.1, ?_⟩⟩
  rw [List.length_append]
  exact h2.out.2

theorem Grow.later {W w w' : World} {v : Value} {l : List St3} (h : Grow W w v l) (hb : Below w.heap.size w w') : Grow W w' v l :=
  ⟨h.below.trans (hb.mono h.below.size), below_ownsRow h.own hb⟩

set_option maxHeartbeats 1000000 in
theorem flowsIn_own (na fa : Option Addr) (N nc F fc : Nat) (A B : Nat → Int) (x : Int) (w : World) (hf : Fls w fa F A B) (hF : F ≤ 30) :
    Calls Try.prog 54 #[.agg #[.slice na N nc, .slice fa F fc], .int .i64 x] w fun e w' => Below w.heap.size w w' ∧ ∃ a c, e = .returned (.slice a (tally B x F) c) ∧ w'.ownsRow w.heap.size 3 1 (.slice a (tally B x F) c) (tally B x F) (vals (fl B x F)) := by
  have HF : Hid (Fls w fa F A B) := hf
  clear hf
  obtain ⟨i0, hi, hz0, hz1, hz2⟩ := info_parts Try.info3
  have HI : Hid (Try.prog.info? 3 = some i0 ∧ i0.zero = some (.int .i64 0) ∧ i0.size = 1 ∧ i0.bytes = 8) := ⟨hi, hz0, hz1, hz2⟩
  clear hi hz0 hz1 hz2
  obtain ⟨W, eW⟩ : ∃ x, x = w.alloc (.cells #[.slice na N nc, .slice fa F fc] 25) := ⟨_, rfl⟩
  have HW : Hid (Below w.heap.size w W ∧ W.heap.size = w.heap.size + 1) := by subst eW; exact ⟨box_below _ _, by simp⟩
  have HBx : Hid (∀ w1, Below W.heap.size W w1 → w1.cell? ⟨w.heap.size, 0, none⟩ = some (.slice na N nc) ∧ w1.cell? ⟨w.heap.size, 1, none⟩ = some (.slice fa F fc)) := fun w1 h => by
    have h' : Below (w.heap.size + 1) (w.alloc (.cells #[.slice na N nc, .slice fa F fc] 25)) w1 := by rw [← HW.out.2, ← eW]; exact h
    exact ⟨box_keep h' rfl, box_keep h' rfl⟩
  have HEW : Hid (w.alloc (.cells #[.slice na N nc, .slice fa F fc] 25) = W) := eW.symm
  clear eW
  go_enter Try.func54, Try.ntmps54
  go_wp2
  rw [HEW.out]
  go_loopw [5, 6] (fun v i wr => ∃ (k : Nat) (va : Option Addr) (vc : Nat), k ≤ F ∧ i = .int .i64 k ∧ v = .slice va (tally B x k) vc ∧ Hid (Below W.heap.size W wr ∧ wr.ownsRow W.heap.size 3 1 (.slice va (tally B x k) vc) (tally B x k) (vals (fl B x k)))) (fun _ i _ => F - (intOf i).toNat)
  case atStart => exact ⟨0, none, 0, Nat.zero_le _, rfl, rfl, hid ⟨Below.refl _ _, World.ownsRow_nil _ _ _ _⟩⟩
  case round =>
    obtain ⟨k, va, vc, hk, rfl, rfl, HS⟩ := hrel
    have HBw : Hid (Below w.heap.size w wr) := HW.out.1.trans (HS.out.1.mono HW.out.1.size)
    obtain ⟨hc0, hc1⟩ := HBx.out wr HS.out.1
    by_cases hlt : k < F
    · obtain ⟨b, o, ha, hc⟩ := HF.out
      obtain rfl := ha (by omega)
      obtain ⟨h1, h2⟩ := Fls.at hc HBw.out hlt
      clear hc ha
      have hfz := tally_le B x k
      have hkz : (k : Int) < F := by omega
      have HSz : Hid (W.heap.size ≤ wr.heap.size) := HS.out.1.size
      by_cases hX : B k = x
      · have HXk : Hid (B k = x) := hX
        have hX' : (B k == x) = true := beq_iff_eq.2 hX
        have HO : Hid (wr.ownsRow W.heap.size 3 1 (.slice va (tally B x k) vc) (tally B x k) (vals (fl B x k))) := HS.out.2
        clear hX
        go_wp2_with (at_builtin; refine wpList_append_own_at _ rfl _ _ 26 rfl W.heap.size 3 i0 (.int .i64 0) 1 8 Try.underlying26 HI.out.1 HI.out.2.1 HI.out.2.2.1 HI.out.2.2.2 rfl (by decide) _ _ _ rfl (HO.out.alloc _) ⟨wr.heap.size, 0, none⟩ 1 1 [.int .i64 k] rfl rfl (cell_one_new _ _ _) (ints_oneCell .i64 [(k : Int)]) (by unfold maxLen; omega) (by omega) (by have := HSz.out; simp; omega) ?_; intro v' w4 hown hgrow _ _; obtain ⟨⟨a4, c4, rfl⟩, H4⟩ := fl_step HS.out.1 HO.out HXk.out hown hgrow; clear hown hgrow)
        go_roundw
        case rel => exact ⟨k + 1, a4, c4, by omega, by go_num, by rw [tally_hit HXk.out], hid ⟨H4.out.1, by have := H4.out.2; rw [tally_hit HXk.out] at this ⊢; exact this⟩⟩
        case measure => simp [intOf]; omega
      · have HXk : Hid (B k ≠ x) := hX
        have hX' : (B k == x) = false := beq_eq_false_iff_ne.2 hX
        clear hX
        go_wp2
        go_roundw
        case rel => exact ⟨k + 1, va, vc, by omega, by go_num, by rw [tally_miss HXk.out], hid ⟨HS.out.1, by have := HS.out.2; rw [tally_miss HXk.out, fl_miss HXk.out]; exact this⟩⟩
        case measure => simp [intOf]; omega
    · obtain rfl : F = k := by omega
      go_wp2
      go_ret
      exact ⟨HBw.out, _, _, rfl, owns_base HS.out.2 HW.out.1.size⟩

/-- The list grows; the flows in stay where they are. -/
structure Gw (W w : World) (v : Value) (l : List St3) (bi oi tB : Nat) (lB : List Int) : Prop where
  grow : Grow W w v l
  row : ∀ i, i < tB → w.cell? ⟨bi, oi + i, none⟩ = some (.int .i64 (lB.getD i 0))
  apart : 0 < tB → v.ownBlock ≠ some bi

theorem Gw.keep {W wr w1 : World} {v : Value} {l : List St3} {bi oi tB : Nat} {lB : List Int} (h : Gw W wr v l bi oi tB lB) (hg : wr.grownBy w1 v.ownBlock) : ∀ i, i < tB → w1.cell? ⟨bi, oi + i, none⟩ = some (.int .i64 (lB.getD i 0)) := fun i hi => by
  have hc := h.row i hi
  have hlt : bi < wr.heap.size := World.block_lt_of_cell? _ _ hc
  have hb := hg.block bi hlt (fun e => h.apart (by omega) e.symm)
  rw [← hc]
  unfold World.cell?
  simp only [hb]

theorem Gw.step {W wr w1 : World} {v v' : Value} {l : List St3} {t : St3} {o : Obj} {bi oi tB : Nat} {lB : List Int} (h : Gw W wr v l bi oi tB lB) (hown : w1.ownsRow W.heap.size 66 3 v' (l.length + 1) (vals3 l ++ val3 t)) (hgrow : (wr.alloc o).grownBy w1 v.ownBlock)
    (hloc : v'.ownBlock = v.ownBlock ∨ v'.ownBlock = some (wr.alloc o).heap.size) : (∃ a c, v' = .slice a (l.length + 1) c) ∧ Hid (Gw W w1 v' (l ++ [t]) bi oi tB lB) := by
  obtain ⟨h1, h2⟩ := h.grow.step hown hgrow
  refine ⟨h1, hid ⟨h2.out, h.keep ((World.grownBy_alloc _ _ _).trans hgrow), fun h0 => ?_⟩⟩
  rcases hloc with e | e
  · rw [e]; exact h.apart h0
  · rw [e]
    have hlt : bi < wr.heap.size := World.block_lt_of_cell? _ _ (h.row 0 h0)
    intro hh
    simp at hh
    omega

theorem grown_drew {w w1 : World} {row : Option Nat} (h : w.drew.grownBy w1 row) : w.grownBy w1 row := ⟨h.os, h.tape, h.output, h.size, h.block⟩

theorem Gw.step' {W wr w1 : World} {v : Value} {l : List St3} {t : St3} {o : Obj} {bi oi tB gg cap : Nat} {lB : List Int} (h : Gw W wr v l bi oi tB lB) (hown : w1.ownsRow W.heap.size 66 3 (.slice (some ⟨gg, 0, none⟩) (l.length + 1) cap) (l.length + 1) (vals3 l ++ val3 t)) (hgrow : (wr.alloc o).drew.grownBy w1 v.ownBlock)
    (hat : v.ownBlock = some gg ∨ gg = wr.heap.size + 1) : Hid (Gw W w1 (.slice (some ⟨gg, 0, none⟩) (l.length + 1) cap) (l ++ [t]) bi oi tB lB) := by
  refine (h.step hown (grown_drew hgrow) ?_).2
  rcases hat with e | e
  · exact Or.inl e.symm
  · right
    rw [e]
    simp [Value.ownBlock]

theorem gw_start {W wr w2 w3 : World} {v : Value} {l : List St3} {a : Option Addr} {tB c u : Nat} {lB : List Int} (h : Grow W wr v l) (h2 : Below wr.heap.size wr w2) (hu : wr.heap.size ≤ u) (ho : w2.ownsRow u 3 1 (.slice a tB c) tB (vals lB)) (hl : tB = lB.length) (h3 : Below w2.heap.size w2 w3) :
    ∃ bi oi, (0 < tB → a = some ⟨bi, oi, none⟩) ∧ Hid (Gw W w3 v l bi oi tB lB) := by
  have hg : Grow W w3 v l := (h.later h2).later h3
  obtain ⟨bi, oi, ha, hc⟩ := (owns_row' hl ho).below h3
  refine ⟨bi, oi, ha, hid ⟨hg, hc, fun h0 e => ?_⟩⟩
  have h4 := (h.own.lt bi e).2
  have e2 := ha h0
  subst e2
  have := (ho.lt bi rfl).1
  omega

set_option maxRecDepth 20000 in
set_option maxHeartbeats 8000000 in
theorem steps_any (na fa : Option Addr) (N nc F fc : Nat) (M : Nat → ByteArray) (K A B : Nat → Int) (e0 : Int) (w : World) (hp : Prc w na N nc fa F M K A B) (hM : ∀ i, i < N → (M i).size ≤ maxLen) (he : ChkIs N F M K A B e0) :
    Calls Try.prog 28 #[.agg #[.slice na N nc, .slice fa F fc]] w fun e w' => Below w.heap.size w w' ∧ SpIs e0 (stAll K A B F N) e w' := by
  have HE : Hid (ChkIs N F M K A B e0) := he
  have HP : Hid (Prc w na N nc fa F M K A B) := hp
  have hNN := hp.nN
  clear he hp
  obtain ⟨i0, hi, hz0, hz1, hz2⟩ := info_parts Try.info66
  have HI : Hid (Try.prog.info? 66 = some i0 ∧ i0.zero = some (.agg #[.int .i64 0, .int .i64 0, .int .i64 0]) ∧ i0.size = 3 ∧ i0.bytes = 24) := ⟨hi, hz0, hz1, hz2⟩
  clear hi hz0 hz1 hz2
  obtain ⟨W, eW⟩ : ∃ x, x = w.alloc (.cells #[.slice na N nc, .slice fa F fc] 25) := ⟨_, rfl⟩
  have HW : Hid (Below w.heap.size w W ∧ W.heap.size = w.heap.size + 1) := by subst eW; exact ⟨box_below _ _, by simp⟩
  have HBx : Hid (∀ w1, Below W.heap.size W w1 → w1.cell? ⟨w.heap.size, 0, none⟩ = some (.slice na N nc) ∧ w1.cell? ⟨w.heap.size, 1, none⟩ = some (.slice fa F fc)) := fun w1 h => by
    have h' : Below (w.heap.size + 1) (w.alloc (.cells #[.slice na N nc, .slice fa F fc] 25)) w1 := by rw [← HW.out.2, ← eW]; exact h
    exact ⟨box_keep h' rfl, box_keep h' rfl⟩
  have HEW : Hid (w.alloc (.cells #[.slice na N nc, .slice fa F fc] 25) = W) := eW.symm
  have HPW : Hid (Prc W na N nc fa F M K A B) := HP.out.below HW.out.1
  clear eW
  have C1 : Hid (Calls Try.prog 53 #[.agg #[.slice na N nc, .slice fa F fc]] W fun e w' => e = .returned (.int .i64 e0) ∧ Below W.heap.size W w') := process_any na fa N nc F fc M K A B e0 W HPW.out hM HE.out
  clear hM
  go_enter Try.func28, Try.ntmps28
  go_wp2_with fail
  rw [HEW.out]
  refine C1.out.mono ?_
  rintro e w1 ⟨rfl, hb1⟩
  have HB1 : Hid (Below W.heap.size W w1) := hb1
  obtain ⟨hc0, hc1⟩ := HBx.out w1 hb1
  clear hb1 C1
  by_cases hz : e0 = 0
  · subst hz
    have hN20 : N ≤ 20 := (chk_zero HE.out).1.1
    have hF30 : F ≤ 30 := (chk_zero HE.out).1.2
    go_wp2
    go_loopw [5, 6] (fun v i wr => ∃ (k : Nat) (va : Option Addr) (vc : Nat), k ≤ N ∧ i = .int .i64 k ∧ v = .slice va (stAll K A B F k).length vc ∧ Hid (Grow W wr (.slice va (stAll K A B F k).length vc) (stAll K A B F k))) (fun _ i _ => N - (intOf i).toNat)
    case atStart => exact ⟨0, none, 0, Nat.zero_le _, rfl, rfl, hid ⟨HB1.out, World.ownsRow_nil _ _ _ _⟩⟩
    case round =>
      obtain ⟨k, va, vc, hk, rfl, rfl, HS⟩ := hrel
      clear hc0 hc1
      obtain ⟨hc0, hc1⟩ := HBx.out wr HS.out.below
      by_cases hlt : k < N
      /-ROUND-/
      · have HFit : Hid (fitOk (K k) (fl B k F).length (tally A k F) = true) := by
          have := (chk_zero HE.out).2.2.2.2.1
          unfold fitAll at this
          rw [decide_eq_true_eq] at this
          rw [fl_len]
          exact this k hlt
        obtain ⟨bn, on, han, hcn⟩ := HPW.out.nds
        obtain rfl := han (by omega)
        have HC : Hid (∀ i, i < N → W.cell? ⟨bn, on + i * 2, none⟩ = some (.string (M i)) ∧ W.cell? ⟨bn, on + i * 2 + 1, none⟩ = some (.int .i64 (K i))) := hcn
        clear hcn han
        have CI : Hid (∀ u, Below W.heap.size W u → Calls Try.prog 54 #[.agg #[.slice (some ⟨bn, on, none⟩) N nc, .slice fa F fc], .int .i64 k] u fun e w' => Below u.heap.size u w' ∧ ∃ a c, e = .returned (.slice a (tally B k F) c) ∧ w'.ownsRow u.heap.size 3 1 (.slice a (tally B k F) c) (tally B k F) (vals (fl B k F))) := fun u hu =>
          flowsIn_own _ fa N nc F fc A B k u (HPW.out.fls.below hu) hF30
        have CO : Hid (∀ u, Below W.heap.size W u → Calls Try.prog 55 #[.agg #[.slice (some ⟨bn, on, none⟩) N nc, .slice fa F fc], .int .i64 k] u fun e w' => Below u.heap.size u w' ∧ ∃ a c, e = .returned (.slice a (tally A k F) c)) := fun u hu =>
          (flowsOut_any _ fa N nc F fc A B k u (HPW.out.fls.below hu) hF30).mono fun e w' ⟨h1, a, c, h2, _⟩ => ⟨h1, a, c, h2⟩
        have HLB : Hid (tally B k F = (fl B k F).length) := (fl_len B k F).symm
        have htB : tally B k F ≤ 30 := by have := tally_le B k F; omega
        have htA : tally A k F ≤ 30 := by have := tally_le A k F; omega
        have HL1 : Hid ((stAll K A B F k).length ≤ 21474836480) := by have := stAll_len (K := K) (A := A) (B := B) hF30 k; show _ ≤ _; omega
        have HNx : Hid (stAll K A B F (k + 1) = stAll K A B F k ++ stK k (K k) (fl B k F) (tally A k F)) := rfl
        have HKk : Hid (∀ u, Below W.heap.size W u → u.cell? ⟨bn, on + k * 2 + 1, none⟩ = some (.int .i64 (K k))) := fun u hu => (Nds.at HC.out hu hlt).2
        generalize K k = κ at *
        generalize tally A k F = tA at *
        generalize tally B k F = tB at *
        generalize fl B k F = lB at *
        generalize stAll K A B F k = la at *
        clear HC
        have HBr : Hid (Below W.heap.size W wr) := HS.out.below
        go_wp2
        have HBd : Hid (Below W.heap.size W wr.drew) := below_drew_iff.2 HBr.out
        go_region_held3 (fun w' => w'.cell? ⟨w.heap.size, 0, none⟩ = some (.slice (some ⟨bn, on, none⟩) N nc) ∧ w'.cell? ⟨w.heap.size, 1, none⟩ = some (.slice fa F fc)) (first | go_keep)
          (first
            | (go_at_call 54; refine (CI.out _ ?_).mono ?_; (exact HBd.out); rintro e w2 ⟨hb2, ai, ci, rfl, hoi⟩; have hw2 := HBd.out.trans (hb2.mono HBd.out.size); obtain ⟨gi0, gi1⟩ := HBx.out w2 hw2)
            | (go_at_call 55; refine (CO.out _ ?_).mono ?_; (exact hw2); rintro e w3 ⟨hb3, ao, co, rfl⟩; have hw3 := hw2.trans (hb3.mono hw2.size); obtain ⟨go0, go1⟩ := HBx.out w3 hw3))
        have hb2' : Below wr.heap.size wr w2 := (below_drew_iff.2 (Below.refl _ _)).trans hb2
        obtain ⟨bi, oi, hai, HG⟩ := gw_start HS.out hb2' (Nat.le_refl _) hoi HLB.out hb3
        have HB3 : Hid (Below W.heap.size W w3) := hw3
        have HSz3 : Hid (W.heap.size ≤ w3.heap.size) := hw3.size
        have hkd := HKk.out w3 hw3
        clear hb2 hb2' hb3 hw2 hw3 hoi gi0 gi1 hc0 hc1 CI CO HS HBr HBd
        go_wp2
        go_loop [9, 10] (fun al i => ∃ (j m : Nat), j ≤ tA ∧ i = .int .i64 j ∧ al = .int .i64 m ∧ Hid (m + 1 = 2 ^ j)) (fun _ i => tA - (intOf i).toNat)
        case atStart => exact ⟨0, 0, Nat.zero_le _, rfl, rfl, rfl⟩
        case round =>
          obtain ⟨j, m, hj, rfl, rfl, HM⟩ := hrel
          have hm : m ≤ 1073741824 := by have := HM.out; have := two_pow_le (o := j) (by omega); omega
          by_cases hjt : j < tA
          · go_wp2
            go_round
            case rel => exact ⟨j + 1, m * 2 + 1, by omega, by go_num, by go_num, hid (by have := HM.out; rw [Nat.pow_succ]; omega)⟩
            case measure => simp [intOf]; omega
          · obtain rfl : tA = j := by omega
            have hmi : (2 : Int) ^ tA - 1 = m := by
              have h1 := HM.out
              have h2 : ((2 ^ tA : Nat) : Int) = (m : Int) + 1 := by rw [← h1]; simp
              have h3 : ((2 ^ tA : Nat) : Int) = (2 : Int) ^ tA := by simp
              omega
            have HMi : Hid ((2 : Int) ^ tA - 1 = m) := hmi
            clear hmi
            rcases (fit_kind HFit.out) with rfl | rfl | rfl | rfl | rfl | rfl | rfl
            · have HN1 : Hid (stAll K A B F (k + 1) = la) := by have := HNx.out; rw [stK_no (by decide) (by decide) (by decide) (by decide) (by decide) (by decide), List.append_nil] at this; exact this
              have H7 : Hid (Grow W w3 (.slice va la.length vc) la) := HG.out.grow
              clear HG HFit
              go_wp2
              go_roundw
              case rel => exact ⟨k + 1, va, vc, by omega, by go_num, by rw [HN1.out], hid (by rw [HN1.out]; exact H7.out)⟩
              case measure => simp [intOf]; omega
            · obtain rfl : tA = 0 := by have h := HFit.out; simp [fitOk] at h; omega
              have HKt : Hid (stK k 2 lB 0 = prs k lB [(m : Int)]) := by have := stK_flat (n := k) (k := 2) (by omega) HFit.out; rw [HMi.out] at this; exact this
              rw [HKt.out] at HNx
              clear HFit HKt
              go_wp2
              go_loopw [5, 11] (fun v i wr => ∃ (j : Nat) (l : List St3) (va : Option Addr) (vc : Nat), j ≤ tB ∧ i = .int .i64 j ∧ v = .slice va l.length vc ∧ Hid (l = la ++ prs k (lB.take j) [(m : Int)] ∧ Gw W wr (.slice va l.length vc) l bi oi tB lB)) (fun _ i _ => tB - (intOf i).toNat)
              case atStart => exact ⟨0, la, va, vc, Nat.zero_le _, rfl, rfl, hid ⟨by simp [prs], HG.out⟩⟩
              case round =>
                obtain ⟨j, l, va', vc', hj, rfl, rfl, HT⟩ := hrel
                clear go0 go1 hkd
                obtain ⟨go0, go1⟩ := HBx.out wr HT.out.2.grow.below
                have hkd := HKk.out wr HT.out.2.grow.below
                by_cases hjt2 : j < tB
                · obtain rfl := hai (by omega)
                  have hin := HT.out.2.row j hjt2
                  have HLl : Hid (l.length ≤ 21474836511) := by
                    have h1 := HL1.out
                    have h2 := HT.out.1
                    show l.length ≤ _
                    rw [h2, List.length_append, prs_len, List.length_take]
                    simp
                    omega
                  have HSz : Hid (W.heap.size ≤ wr.heap.size) := HT.out.2.grow.below.size
                  obtain ⟨x, hx⟩ : ∃ x, x = lB.getD j 0 := ⟨_, rfl⟩
                  rw [← hx] at hin
                  have HX : Hid (x = lB.getD j 0) := hx
                  clear hx
                  have hjz : (j : Int) < tB := by omega
                  go_wp2_with (at_builtin; refine wpList_append_own_at _ rfl _ _ 60 rfl W.heap.size 66 i0 (.agg #[.int .i64 0, .int .i64 0, .int .i64 0]) 3 24 Try.underlying60 HI.out.1 HI.out.2.1 HI.out.2.2.1 HI.out.2.2.2 rfl (by decide) _ _ _ rfl (HT.out.2.grow.own.alloc _) ⟨wr.heap.size, 0, none⟩ 1 1 (val3 (k, x, m)) rfl rfl (cell_three_new _ _ _) (by intro u hu; exact vals3_one [((k : Int), x, (m : Int))] u (by simpa [vals3] using hu)) (by have := HLl.out; unfold maxLen; omega) (by have := HLl.out; omega) (by have := HSz.out; simp; omega) ?_; intro v' w4 hown hgrow _ hloc; obtain ⟨⟨a4, c4, rfl⟩, H4⟩ := HT.out.2.step hown hgrow hloc; clear hown hgrow hloc)
                  clear go0 go1 hkd hin
                  have H5 : Hid (l ++ [((k : Int), x, (m : Int))] = la ++ prs k (lB.take (j + 1)) [(m : Int)]) := by rw [HX.out]; exact stIn_more (by rw [← HLB.out]; exact hjt2) HT.out.1
                  clear HT
                  go_loopw [5, 12] (fun v i wr => v = .slice a4 (l.length + 1) c4 ∧ i = .int .i64 0 ∧ wr = w4) (fun _ _ _ => 0)
                  case atStart => exact ⟨rfl, rfl, rfl⟩
                  case round =>
                    obtain ⟨rfl, rfl, rfl⟩ := hrel
                    obtain ⟨go0, go1⟩ := HBx.out wr H4.out.grow.below
                    have hkd := HKk.out wr H4.out.grow.below
                    go_wp2
                    go_roundw
                    case rel => exact ⟨j + 1, l ++ [((k : Int), x, (m : Int))], a4, c4, by omega, by go_num, by rw [List.length_append]; rfl, hid ⟨H5.out, by have := H4.out; rw [List.length_append]; exact this⟩⟩
                    case measure => simp [intOf]; omega
                · obtain rfl : tB = j := by omega
                  have H6 : Hid (l = stAll K A B F (k + 1)) := by have := HT.out.1; rw [HLB.out, List.take_length, ← HNx.out] at this; exact this
                  have H7 : Hid (Grow W wr (.slice va' l.length vc') l) := HT.out.2.grow
                  clear HT
                  go_wp2
                  go_roundw
                  case rel => exact ⟨k + 1, va', vc', by omega, by go_num, by rw [← H6.out], hid (by rw [← H6.out]; exact H7.out)⟩
                  case measure => simp [intOf]; omega
            · obtain rfl : tA = 0 := by have h := HFit.out; simp [fitOk] at h; omega
              have HKt : Hid (stK k 3 lB 0 = prs k lB [(m : Int)]) := by have := stK_flat (n := k) (k := 3) (by omega) HFit.out; rw [HMi.out] at this; exact this
              rw [HKt.out] at HNx
              clear HFit HKt
              go_wp2
              go_loopw [5, 11] (fun v i wr => ∃ (j : Nat) (l : List St3) (va : Option Addr) (vc : Nat), j ≤ tB ∧ i = .int .i64 j ∧ v = .slice va l.length vc ∧ Hid (l = la ++ prs k (lB.take j) [(m : Int)] ∧ Gw W wr (.slice va l.length vc) l bi oi tB lB)) (fun _ i _ => tB - (intOf i).toNat)
              case atStart => exact ⟨0, la, va, vc, Nat.zero_le _, rfl, rfl, hid ⟨by simp [prs], HG.out⟩⟩
              case round =>
                obtain ⟨j, l, va', vc', hj, rfl, rfl, HT⟩ := hrel
                clear go0 go1 hkd
                obtain ⟨go0, go1⟩ := HBx.out wr HT.out.2.grow.below
                have hkd := HKk.out wr HT.out.2.grow.below
                by_cases hjt2 : j < tB
                · obtain rfl := hai (by omega)
                  have hin := HT.out.2.row j hjt2
                  have HLl : Hid (l.length ≤ 21474836511) := by
                    have h1 := HL1.out
                    have h2 := HT.out.1
                    show l.length ≤ _
                    rw [h2, List.length_append, prs_len, List.length_take]
                    simp
                    omega
                  have HSz : Hid (W.heap.size ≤ wr.heap.size) := HT.out.2.grow.below.size
                  obtain ⟨x, hx⟩ : ∃ x, x = lB.getD j 0 := ⟨_, rfl⟩
                  rw [← hx] at hin
                  have HX : Hid (x = lB.getD j 0) := hx
                  clear hx
                  have hjz : (j : Int) < tB := by omega
                  go_wp2_with (at_builtin; refine wpList_append_own_at _ rfl _ _ 60 rfl W.heap.size 66 i0 (.agg #[.int .i64 0, .int .i64 0, .int .i64 0]) 3 24 Try.underlying60 HI.out.1 HI.out.2.1 HI.out.2.2.1 HI.out.2.2.2 rfl (by decide) _ _ _ rfl (HT.out.2.grow.own.alloc _) ⟨wr.heap.size, 0, none⟩ 1 1 (val3 (k, x, m)) rfl rfl (cell_three_new _ _ _) (by intro u hu; exact vals3_one [((k : Int), x, (m : Int))] u (by simpa [vals3] using hu)) (by have := HLl.out; unfold maxLen; omega) (by have := HLl.out; omega) (by have := HSz.out; simp; omega) ?_; intro v' w4 hown hgrow _ hloc; obtain ⟨⟨a4, c4, rfl⟩, H4⟩ := HT.out.2.step hown hgrow hloc; clear hown hgrow hloc)
                  clear go0 go1 hkd hin
                  have H5 : Hid (l ++ [((k : Int), x, (m : Int))] = la ++ prs k (lB.take (j + 1)) [(m : Int)]) := by rw [HX.out]; exact stIn_more (by rw [← HLB.out]; exact hjt2) HT.out.1
                  clear HT
                  go_loopw [5, 12] (fun v i wr => v = .slice a4 (l.length + 1) c4 ∧ i = .int .i64 0 ∧ wr = w4) (fun _ _ _ => 0)
                  case atStart => exact ⟨rfl, rfl, rfl⟩
                  case round =>
                    obtain ⟨rfl, rfl, rfl⟩ := hrel
                    obtain ⟨go0, go1⟩ := HBx.out wr H4.out.grow.below
                    have hkd := HKk.out wr H4.out.grow.below
                    go_wp2
                    go_roundw
                    case rel => exact ⟨j + 1, l ++ [((k : Int), x, (m : Int))], a4, c4, by omega, by go_num, by rw [List.length_append]; rfl, hid ⟨H5.out, by have := H4.out; rw [List.length_append]; exact this⟩⟩
                    case measure => simp [intOf]; omega
                · obtain rfl : tB = j := by omega
                  have H6 : Hid (l = stAll K A B F (k + 1)) := by have := HT.out.1; rw [HLB.out, List.take_length, ← HNx.out] at this; exact this
                  have H7 : Hid (Grow W wr (.slice va' l.length vc') l) := HT.out.2.grow
                  clear HT
                  go_wp2
                  go_roundw
                  case rel => exact ⟨k + 1, va', vc', by omega, by go_num, by rw [← H6.out], hid (by rw [← H6.out]; exact H7.out)⟩
                  case measure => simp [intOf]; omega
            · obtain rfl : tA = 1 := by have h := HFit.out; simp [fitOk] at h; omega
              have HKt : Hid (stK k 4 lB 1 = prs k lB [(m : Int)]) := by have := stK_flat (n := k) (k := 4) (by omega) HFit.out; rw [HMi.out] at this; exact this
              rw [HKt.out] at HNx
              clear HFit HKt
              go_wp2
              go_loopw [5, 11] (fun v i wr => ∃ (j : Nat) (l : List St3) (va : Option Addr) (vc : Nat), j ≤ tB ∧ i = .int .i64 j ∧ v = .slice va l.length vc ∧ Hid (l = la ++ prs k (lB.take j) [(m : Int)] ∧ Gw W wr (.slice va l.length vc) l bi oi tB lB)) (fun _ i _ => tB - (intOf i).toNat)
              case atStart => exact ⟨0, la, va, vc, Nat.zero_le _, rfl, rfl, hid ⟨by simp [prs], HG.out⟩⟩
              case round =>
                obtain ⟨j, l, va', vc', hj, rfl, rfl, HT⟩ := hrel
                clear go0 go1 hkd
                obtain ⟨go0, go1⟩ := HBx.out wr HT.out.2.grow.below
                have hkd := HKk.out wr HT.out.2.grow.below
                by_cases hjt2 : j < tB
                · obtain rfl := hai (by omega)
                  have hin := HT.out.2.row j hjt2
                  have HLl : Hid (l.length ≤ 21474836511) := by
                    have h1 := HL1.out
                    have h2 := HT.out.1
                    show l.length ≤ _
                    rw [h2, List.length_append, prs_len, List.length_take]
                    simp
                    omega
                  have HSz : Hid (W.heap.size ≤ wr.heap.size) := HT.out.2.grow.below.size
                  obtain ⟨x, hx⟩ : ∃ x, x = lB.getD j 0 := ⟨_, rfl⟩
                  rw [← hx] at hin
                  have HX : Hid (x = lB.getD j 0) := hx
                  clear hx
                  have hjz : (j : Int) < tB := by omega
                  go_wp2_with (at_builtin; refine wpList_append_own_at _ rfl _ _ 60 rfl W.heap.size 66 i0 (.agg #[.int .i64 0, .int .i64 0, .int .i64 0]) 3 24 Try.underlying60 HI.out.1 HI.out.2.1 HI.out.2.2.1 HI.out.2.2.2 rfl (by decide) _ _ _ rfl (HT.out.2.grow.own.alloc _) ⟨wr.heap.size, 0, none⟩ 1 1 (val3 (k, x, m)) rfl rfl (cell_three_new _ _ _) (by intro u hu; exact vals3_one [((k : Int), x, (m : Int))] u (by simpa [vals3] using hu)) (by have := HLl.out; unfold maxLen; omega) (by have := HLl.out; omega) (by have := HSz.out; simp; omega) ?_; intro v' w4 hown hgrow _ hloc; obtain ⟨⟨a4, c4, rfl⟩, H4⟩ := HT.out.2.step hown hgrow hloc; clear hown hgrow hloc)
                  clear go0 go1 hkd hin
                  have H5 : Hid (l ++ [((k : Int), x, (m : Int))] = la ++ prs k (lB.take (j + 1)) [(m : Int)]) := by rw [HX.out]; exact stIn_more (by rw [← HLB.out]; exact hjt2) HT.out.1
                  clear HT
                  go_loopw [5, 12] (fun v i wr => v = .slice a4 (l.length + 1) c4 ∧ i = .int .i64 0 ∧ wr = w4) (fun _ _ _ => 0)
                  case atStart => exact ⟨rfl, rfl, rfl⟩
                  case round =>
                    obtain ⟨rfl, rfl, rfl⟩ := hrel
                    obtain ⟨go0, go1⟩ := HBx.out wr H4.out.grow.below
                    have hkd := HKk.out wr H4.out.grow.below
                    go_wp2
                    go_roundw
                    case rel => exact ⟨j + 1, l ++ [((k : Int), x, (m : Int))], a4, c4, by omega, by go_num, by rw [List.length_append]; rfl, hid ⟨H5.out, by have := H4.out; rw [List.length_append]; exact this⟩⟩
                    case measure => simp [intOf]; omega
                · obtain rfl : tB = j := by omega
                  have H6 : Hid (l = stAll K A B F (k + 1)) := by have := HT.out.1; rw [HLB.out, List.take_length, ← HNx.out] at this; exact this
                  have H7 : Hid (Grow W wr (.slice va' l.length vc') l) := HT.out.2.grow
                  clear HT
                  go_wp2
                  go_roundw
                  case rel => exact ⟨k + 1, va', vc', by omega, by go_num, by rw [← H6.out], hid (by rw [← H6.out]; exact H7.out)⟩
                  case measure => simp [intOf]; omega
            · have HNy : Hid (stAll K A B F (k + 1) = la ++ prs k lB (sng tA)) := by have := HNx.out; rw [← stK_xor (Or.inr rfl)] at this; exact this
              clear HFit HNx
              have HSl : Hid ((sng tA).length = tA) := sng_len tA
              go_wp2
              go_loopw [5, 11] (fun v i wr => ∃ (j : Nat) (l : List St3) (va : Option Addr) (vc : Nat), j ≤ tB ∧ i = .int .i64 j ∧ v = .slice va l.length vc ∧ Hid (l = la ++ prs k (lB.take j) (sng tA) ∧ Gw W wr (.slice va l.length vc) l bi oi tB lB)) (fun _ i _ => tB - (intOf i).toNat)
              case atStart => exact ⟨0, la, va, vc, Nat.zero_le _, rfl, rfl, hid ⟨by simp [prs], HG.out⟩⟩
              case round =>
                obtain ⟨j, l, va', vc', hj, rfl, rfl, HT⟩ := hrel
                clear go0 go1 hkd
                obtain ⟨go0, go1⟩ := HBx.out wr HT.out.2.grow.below
                have hkd := HKk.out wr HT.out.2.grow.below
                by_cases hjt2 : j < tB
                · obtain rfl := hai (by omega)
                  obtain ⟨x, hx⟩ : ∃ x, x = lB.getD j 0 := ⟨_, rfl⟩
                  have HX : Hid (x = lB.getD j 0) := hx
                  clear hx
                  have hjz : (j : Int) < tB := by omega
                  go_wp2
                  go_loopw [5, 12] (fun v i wr => ∃ (q : Nat) (l : List St3) (va : Option Addr) (vc : Nat), q ≤ tA ∧ i = .int .i64 q ∧ v = .slice va l.length vc ∧ Hid (l = la ++ (prs k (lB.take j) (sng tA) ++ ((sng tA).take q).map (fun o => ((k : Int), x, o))) ∧ Gw W wr (.slice va l.length vc) l bi oi tB lB)) (fun _ i _ => tA - (intOf i).toNat)
                  case atStart => exact ⟨0, l, va', vc', Nat.zero_le _, rfl, rfl, hid ⟨by simpa using HT.out.1, HT.out.2⟩⟩
                  case round =>
                    obtain ⟨q, l', va2, vc2, hq, rfl, rfl, HV⟩ := hrel
                    clear HT go0 go1 hkd
                    obtain ⟨go0, go1⟩ := HBx.out wr HV.out.2.grow.below
                    have hkd := HKk.out wr HV.out.2.grow.below
                    by_cases hqt : q < tA
                    · have hin := HV.out.2.row j hjt2
                      rw [← HX.out] at hin
                      have HLl : Hid (l'.length ≤ 21474837480) := by
                        have h1 := HL1.out
                        have h2 := HV.out.1
                        have h3 := HSl.out
                        have h4 : min j lB.length * tA ≤ 30 * 30 := Nat.mul_le_mul (by omega) htA
                        show l'.length ≤ _
                        rw [h2, List.length_append, List.length_append, prs_len, List.length_take, List.length_map, List.length_take, h3]
                        omega
                      have HSz : Hid (W.heap.size ≤ wr.heap.size) := HV.out.2.grow.below.size
                      have hqz : (q : Int) < tA := by omega
                      have hwp := wrap_pow (o := q) (by omega)
                      go_wp2
                      have HO : Hid (wr.ownsRow W.heap.size 66 3 (.slice va2 l'.length vc2) l'.length (vals3 l')) := HV.out.2.grow.own
                      have HY : Hid (l' ++ [((k : Int), x, IntKind.i64.wrap ((2 : Int) ^ q))] = la ++ (prs k (lB.take j) (sng tA) ++ ((sng tA).take (q + 1)).map (fun o => ((k : Int), x, o)))) := by
                        have h := HV.out.1
                        have hw : IntKind.i64.wrap ((2 : Int) ^ q) = (sng tA).getD q 0 := by rw [sng_get hqt]; exact wrap_i64_pow (by omega)
                        show _ = _
                        rw [h, hw, List.append_assoc, prs_more (by rw [HSl.out]; exact hqt) rfl]
                      go_region_law
                        ((refine step_append_lies _ (by rfl) _ _ _ (by rfl) W.heap.size 66 i0 _ 3 24 Try.underlying60 HI.out.1 HI.out.2.1 HI.out.2.2.1 HI.out.2.2.2 rfl (by omega) (.slice va2 l'.length vc2) l'.length (vals3 l') (by rfl) ((HO.out.alloc _).drew)
                            ⟨wr.heap.size, 0, none⟩ 1 1 (val3 (k, x, IntKind.i64.wrap (2 ^ q))) (by rfl) (by rfl) (World.news_of_block (cs := #[.int .i64 k, .int .i64 x, .int .i64 (IntKind.i64.wrap (2 ^ q))]) (t := 66) (fr := (0, 0)) (heap_alloc_new wr _)) (by intro u hu; exact vals3_one [((k : Int), x, IntKind.i64.wrap ((2 : Int) ^ q))] u (by simpa [vals3] using hu))
                            (by omega) (by have := HLl.out; unfold maxLen; omega) (by have := HLl.out; omega) (by have := HSz.out; simp; omega) (wr.heap.size + 1) (by simp) ?_; intro gg cap w1 hown1 hgrow hat hlt1; have H8 := HV.out.2.step' hown1 hgrow hat))
                      all_goals
                        clear hown1 hgrow hat
                        go_wp2
                        go_roundw
                        case rel => exact ⟨q + 1, l' ++ [((k : Int), x, IntKind.i64.wrap ((2 : Int) ^ q))], _, _, by omega, by go_num, by rw [List.length_append]; rfl, hid ⟨HY.out, by have := H8.out; rw [List.length_append]; exact this⟩⟩
                        case measure => simp [intOf]; omega
                    · obtain rfl : tA = q := by omega
                      have hqz : ¬ (tA : Int) < tA := by omega
                      have H5 : Hid (l' = la ++ prs k (lB.take (j + 1)) (sng tA)) := by
                        have h := HV.out.1
                        have h2 := prs_done (n := k) (L1 := lB) (L2 := sng tA) (k := j) (by rw [← HLB.out]; exact hjt2)
                        rw [← HX.out, HSl.out] at h2
                        rw [h2] at h
                        exact h
                      have H6 : Hid (Gw W wr (.slice va2 l'.length vc2) l' bi oi tB lB) := HV.out.2
                      clear HV
                      go_wp2
                      go_roundw
                      case rel => exact ⟨j + 1, l', va2, vc2, by omega, by go_num, rfl, hid ⟨H5.out, H6.out⟩⟩
                      case measure => simp [intOf]; omega
                · obtain rfl : tB = j := by omega
                  have H6 : Hid (l = stAll K A B F (k + 1)) := by have := HT.out.1; rw [HLB.out, List.take_length, ← HNy.out] at this; exact this
                  have H7 : Hid (Grow W wr (.slice va' l.length vc') l) := HT.out.2.grow
                  clear HT
                  go_wp2
                  go_roundw
                  case rel => exact ⟨k + 1, va', vc', by omega, by go_num, by rw [← H6.out], hid (by rw [← H6.out]; exact H7.out)⟩
                  case measure => simp [intOf]; omega
            · have HNy : Hid (stAll K A B F (k + 1) = la ++ [((k : Int), (-1 : Int), (m : Int))]) := by have := HNx.out; rw [← stK_and, HMi.out] at this; exact this
              clear HFit HNx
              have H6 : Hid (Grow W w3 (.slice va la.length vc) la) := HG.out.grow
              clear HG
              go_wp2_with (at_builtin; refine wpList_append_own_at _ rfl _ _ 60 rfl W.heap.size 66 i0 (.agg #[.int .i64 0, .int .i64 0, .int .i64 0]) 3 24 Try.underlying60 HI.out.1 HI.out.2.1 HI.out.2.2.1 HI.out.2.2.2 rfl (by decide) _ _ _ rfl (H6.out.own.alloc _) ⟨w3.heap.size, 0, none⟩ 1 1 (val3 (k, -1, m)) rfl rfl (cell_three_new _ _ _) (by intro u hu; exact vals3_one [((k : Int), (-1 : Int), (m : Int))] u (by simpa [vals3] using hu)) (by have := HL1.out; unfold maxLen; omega) (by have := HL1.out; omega) (by have := HSz3.out; simp; omega) ?_; intro v' w4 hown hgrow _ hloc; obtain ⟨⟨a4, c4, rfl⟩, H4⟩ := H6.out.step hown hgrow; clear hown hgrow hloc)
              go_roundw
              case rel => exact ⟨k + 1, a4, c4, by omega, by go_num, by rw [HNy.out, List.length_append]; rfl, hid (by have := H4.out; rw [HNy.out, List.length_append]; exact this)⟩
              case measure => simp [intOf]; omega
            · have HNy : Hid (stAll K A B F (k + 1) = la ++ prs k [-1] (upTo m)) := by
                have h := HNx.out
                have h2 : 2 ^ tA - 1 = m := by have := HM.out; omega
                rw [← stK_or, h2] at h
                exact h
              clear HFit HNx
              go_wp2
              go_loopw [5, 13] (fun v i wr => ∃ (j : Nat) (l : List St3) (va : Option Addr) (vc : Nat), j ≤ m ∧ i = .int .i64 (j + 1) ∧ v = .slice va l.length vc ∧ Hid (l = la ++ prs k [-1] (upTo j) ∧ Grow W wr (.slice va l.length vc) l)) (fun _ i _ => m + 1 - (intOf i).toNat)
              case atStart => exact ⟨0, la, va, vc, Nat.zero_le _, rfl, rfl, hid ⟨by simp [prs, upTo], HG.out.grow⟩⟩
              case round =>
                obtain ⟨j, l, va', vc', hj, rfl, rfl, HT⟩ := hrel
                clear go0 go1 hkd
                by_cases hjt2 : j < m
                · have HLl : Hid (l.length ≤ 22548578304) := by
                    have h1 := HL1.out
                    have h2 := HT.out.1
                    show l.length ≤ _
                    rw [h2, List.length_append, prs_len, upTo_len]
                    simp
                    omega
                  have HSz : Hid (W.heap.size ≤ wr.heap.size) := HT.out.2.below.size
                  have hle : (j : Int) + 1 ≤ m := by omega
                  go_wp2_with (at_builtin; refine wpList_append_own_at _ rfl _ _ 60 rfl W.heap.size 66 i0 (.agg #[.int .i64 0, .int .i64 0, .int .i64 0]) 3 24 Try.underlying60 HI.out.1 HI.out.2.1 HI.out.2.2.1 HI.out.2.2.2 rfl (by decide) _ _ _ rfl (HT.out.2.own.alloc _) ⟨wr.heap.size, 0, none⟩ 1 1 (val3 (k, -1, (j : Int) + 1)) rfl rfl (cell_three_new _ _ _) (by intro u hu; exact vals3_one [((k : Int), (-1 : Int), (j : Int) + 1)] u (by simpa [vals3] using hu)) (by have := HLl.out; unfold maxLen; omega) (by have := HLl.out; omega) (by have := HSz.out; simp; omega) ?_; intro v' w4 hown hgrow _ hloc; obtain ⟨⟨a4, c4, rfl⟩, H4⟩ := HT.out.2.step hown hgrow; clear hown hgrow hloc)
                  go_roundw
                  case rel => exact ⟨j + 1, l ++ [((k : Int), (-1 : Int), (j : Int) + 1)], a4, c4, by omega, by go_num, by rw [List.length_append]; rfl, hid ⟨upTo_more HT.out.1, by have := H4.out; rw [List.length_append]; exact this⟩⟩
                  case measure => simp [intOf]; omega
                · obtain rfl : m = j := by omega
                  have hle : ¬ (m : Int) + 1 ≤ m := by omega
                  have H6 : Hid (l = stAll K A B F (k + 1)) := by have := HT.out.1; rw [← HNy.out] at this; exact this
                  have H7 : Hid (Grow W wr (.slice va' l.length vc') l) := HT.out.2
                  clear HT
                  go_wp2
                  go_roundw
                  case rel => exact ⟨k + 1, va', vc', by omega, by go_num, by rw [← H6.out], hid (by rw [← H6.out]; exact H7.out)⟩
                  case measure => simp [intOf]; omega
      /-END-/
      · obtain rfl : N = k := by omega
        have HBw : Hid (Below w.heap.size w wr) := HW.out.1.trans (HS.out.below.mono HW.out.1.size)
        have HL1 : Hid ((stAll K A B F N).length ≤ 21474836480) := by have := stAll_len (K := K) (A := A) (B := B) hF30 N; show _ ≤ _; omega
        generalize hla : stAll K A B F N = la at *
        by_cases h60 : 60 < la.length
        · go_wp2
          go_ret2
          exact ⟨HBw.out, by rw [hla]; exact Or.inr (Or.inl ⟨rfl, h60, rfl⟩)⟩
        · go_wp2
          go_ret2
          exact ⟨HBw.out, by rw [hla]; exact Or.inr (Or.inr ⟨rfl, by omega, va, vc, rfl, owns_cap HS.out.own, owns_sts' rfl HS.out.own⟩)⟩
  · have hz' : (e0 != 0) = true := by rw [bne_iff_ne]; exact hz
    have HZ : Hid (e0 ≠ 0) := hz
    have HB2 : Hid (Below w.heap.size w w1) := HW.out.1.trans (HB1.out.mono HW.out.1.size)
    clear hz
    go_wp2
    go_ret2
    exact ⟨HB2.out, Or.inl ⟨HZ.out, rfl⟩⟩

end Go.Proofs.Ythpbgfodejoecaa
