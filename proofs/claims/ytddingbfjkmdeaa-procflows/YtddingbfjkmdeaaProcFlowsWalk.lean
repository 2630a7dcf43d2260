/- The law ProcFlows, walked. -/
import Derived.Test.YtddingbfjkmdeaaProc8
namespace Go.Proofs.Ytddingbfjkmdeaa
open Go.RowKit

theorem sOuts : tally sAs 1 2 = 1 ∧ fl sAs 1 2 = [1] := by decide

theorem fl_mem {X : Nat → Int} {x : Int} {F i : Nat} (h : i < tally X x F) : ∃ j : Nat, (fl X x F).getD i 0 = j ∧ j < F ∧ X j = x := by
  rw [← fl_len] at h
  exact mem_fl (getD_mem h)

set_option maxHeartbeats 4000000 in
theorem procFlows_walk (na fa : Option Addr) (N nc F fc : Nat) (M : Nat → ByteArray) (K A B : Nat → Int) (w : World) (hp : Prc w na N nc fa F M K A B) :
    Calls Try.prog 4 #[.agg #[.slice na N nc, .slice fa F fc]] w fun e w' => e = .returned (.bool true) ∧ Below w.heap.size w w' := by
  obtain ⟨e0, he⟩ := chk_ex N F M K A B
  have HE : Hid (ChkIs N F M K A B e0) := he
  have HP : Hid (Prc w na N nc fa F M K A B) := hp
  clear he hp
  obtain ⟨W, eW⟩ : ∃ x, x = w.alloc (.cells #[.slice na N nc, .slice fa F fc] 25) := ⟨_, rfl⟩
  have HW : Hid (Below w.heap.size w W ∧ W.heap.size = w.heap.size + 1) := by subst eW; exact ⟨box_below _ _, by simp⟩
  have HBx : Hid (∀ w1, Below W.heap.size W w1 → w1.cell? ⟨w.heap.size, 0, none⟩ = some (.slice na N nc) ∧ w1.cell? ⟨w.heap.size, 1, none⟩ = some (.slice fa F fc)) := fun w1 h => by
    have h' : Below (w.heap.size + 1) (w.alloc (.cells #[.slice na N nc, .slice fa F fc] 25)) w1 := by rw [← HW.out.2, ← eW]; exact h
    exact ⟨box_keep h' rfl, box_keep h' rfl⟩
  have HEW : Hid (w.alloc (.cells #[.slice na N nc, .slice fa F fc] 25) = W) := eW.symm
  have C1 : Hid (Calls Try.prog 13 #[] W fun e w' => (∃ na fa, e = .returned (.agg #[.slice na 3 3, .slice fa 2 2]) ∧ Prc w' na 3 3 fa 2 sMs sKs sAs sBs) ∧ Below W.heap.size W w') := straight_any W
  clear eW
  go_enter Try.func4, Try.ntmps4
  go_wp2_with fail
  rw [HEW.out]
  refine C1.out.mono ?_
  rintro e w1 ⟨⟨sna, sfa, rfl, hsp⟩, hb1⟩
  have HB1 : Hid (Below W.heap.size W w1) := hb1
  have C2 : Hid (Calls Try.prog 8 #[.agg #[.slice sna 3 3, .slice sfa 2 2], .int .i64 1] w1 fun e w' => ∃ a c, e = .returned (.tuple #[.slice a 1 c, .int .i64 0]) ∧ Row w' a 1 (fun _ => 1) ∧ Below w1.heap.size w1 w') := by
    refine (outs_any sna sfa 3 3 2 2 sMs sKs sAs sBs 0 1 w1 hsp straight_chk).mono ?_
    rintro e w' ⟨h1, ⟨h2, _⟩ | ⟨_, h2, _⟩ | ⟨_, _, a, c, rfl, hr⟩⟩
    · exact absurd rfl h2
    · exact absurd ⟨by decide, by decide⟩ h2
    · rw [sOuts.1] at hr ⊢
      refine ⟨a, c, rfl, hr.congr (fun i hi => ?_), h1⟩
      rw [sOuts.2]
      obtain rfl : i = 0 := by omega
      rfl
  clear hsp hb1 C1
  go_wp2_with fail
  refine C2.out.mono ?_
  rintro e w2 ⟨la, lc, rfl, hrow, hb2⟩
  have HB2 : Hid (Below W.heap.size W w2) := HB1.out.trans (hb2.mono HB1.out.size)
  have C3 : Hid (Calls Try.prog 10 #[.slice la 1 lc, .slice (some ⟨w2.heap.size, 0, none⟩) 1 1] (w2.alloc (.cells #[.int .i64 1] 3)) fun e w' => e = .returned (.bool true) ∧ Below W.heap.size W w') := by
    have h := equal_any la (some ⟨w2.heap.size, 0, none⟩) 1 lc 1 1 (fun _ => 1) (fun _ => 1) (w2.alloc (.cells #[.int .i64 1] 3)) (by omega) (hrow.below (box_below _ _)) (one_row w2 1)
    rw [same_yes rfl (fun _ _ => rfl)] at h
    refine h.mono ?_
    rintro e w' ⟨rfl, q, rfl⟩
    exact ⟨rfl, below_drewn (HB2.out.alloc HB2.out.size _) q⟩
  clear hrow hb2 C2 HB1
  go_wp2_with fail
  refine C3.out.mono ?_
  rintro e w3 ⟨rfl, hb3⟩
  have HB3 : Hid (Below W.heap.size W w3) := hb3
  obtain ⟨hc0, hc1⟩ := HBx.out w3 hb3
  have HP3 : Hid (Prc w3 na N nc fa F M K A B) := (HP.out.below HW.out.1).below hb3
  have C4 : Hid (Calls Try.prog 9 #[.agg #[.slice na N nc, .slice fa F fc]] w3 fun e w' => e = .returned (.int .i64 e0) ∧ Below w3.heap.size w3 w') := procCheck_any na fa N nc F fc M K A B e0 w3 HP3.out HE.out
  clear hb3 C3 HB2
  by_cases hz : e0 = 0
  · subst hz
    have hch := chk_zero HE.out
    have hN20 : N ≤ 20 := hch.1.1
    have hF30 : F ≤ 30 := hch.1.2
    have HEn : Hid (∀ i, i < F → (0 ≤ A i ∧ A i < N) ∧ (0 ≤ B i ∧ B i < N)) := endsOk_all hch.2.2.1
    clear hch
    go_wp2_with fail
    refine C4.out.mono ?_
    rintro e w4 ⟨rfl, hb4⟩
    have HB4 : Hid (Below W.heap.size W w4) := HB3.out.trans (hb4.mono HB3.out.size)
    clear hc0 hc1
    obtain ⟨hc0, hc1⟩ := HBx.out w4 HB4.out
    clear hb4 C4 HP3 HB3
    go_wp2
    go_loopw [7, 8, 47] (fun si so i wr => ∃ k : Nat, k ≤ N ∧ i = .int .i64 k ∧ si = .int .i64 (sumT B F k : Nat) ∧ so = .int .i64 (sumT A F k : Nat) ∧ Hid (Below W.heap.size W wr)) (fun _ _ i _ => N - (intOf i).toNat)
    case atStart => exact ⟨0, Nat.zero_le _, rfl, rfl, rfl, HB4.out⟩
    case round =>
      obtain ⟨k, hk, rfl, rfl, rfl, HB5⟩ := hrel
      have hs1 := sumT_le B F k
      have hs2 := sumT_le A F k
      have hkF : k * F ≤ 600 := Nat.le_trans (Nat.mul_le_mul hk hF30) (by omega)
      clear hc0 hc1
      obtain ⟨hc0, hc1⟩ := HBx.out wr HB5.out
      have HPr : Hid (Prc wr na N nc fa F M K A B) := (HP.out.below HW.out.1).below HB5.out
      have hsz : w.heap.size < wr.heap.size := by have h1 := HW.out.2; have h2 := HB5.out.size; omega
      by_cases hlt : k < N
      · have C5 : Hid (Calls Try.prog 7 #[.agg #[.slice na N nc, .slice fa F fc], .int .i64 k] (wr.alloc (.cells #[.int .i64 k] 3)) fun e w' => ∃ a c, e = .returned (.tuple #[.slice a (tally B k F) c, .int .i64 0]) ∧ Row w' a (tally B k F) (fun i => (fl B k F).getD i 0) ∧ Below (wr.alloc (.cells #[.int .i64 k] 3)).heap.size (wr.alloc (.cells #[.int .i64 k] 3)) w') := by
          refine (ins_any na fa N nc F fc M K A B 0 k _ (HPr.out.below (box_below _ _)) HE.out).mono ?_
          rintro e w' ⟨h1, ⟨h2, _⟩ | ⟨_, h2, _⟩ | ⟨_, _, a, c, rfl, hr⟩⟩
          · exact absurd rfl h2
          · exact absurd ⟨by omega, by omega⟩ h2
          · exact ⟨a, c, rfl, hr, h1⟩
        go_wp2_with fail
        refine C5.out.mono ?_
        rintro e w6 ⟨a6, c6, rfl, hr6, hb6⟩
        have hd0 := keep_alloc hb6 hc0
        have hd1 := keep_alloc hb6 hc1
        have hdn : w6.cell? ⟨wr.heap.size, 0, none⟩ = some (.int .i64 k) := new_alloc hb6 rfl
        have HR6 : Hid (Row w6 a6 (tally B k F) (fun i => (fl B k F).getD i 0)) := hr6
        have HB6 : Hid (Below W.heap.size W w6) := (HB5.out.alloc HB5.out.size _).trans (hb6.mono (by have := HB5.out.size; simp; omega))
        have HP6 : Hid (Prc w6 na N nc fa F M K A B) := (HPr.out.below (box_below _ _)).below hb6
        have C6 : Hid (Calls Try.prog 8 #[.agg #[.slice na N nc, .slice fa F fc], .int .i64 k] w6 fun e w' => ∃ a c, e = .returned (.tuple #[.slice a (tally A k F) c, .int .i64 0]) ∧ Row w' a (tally A k F) (fun i => (fl A k F).getD i 0) ∧ Below w6.heap.size w6 w') := by
          refine (outs_any na fa N nc F fc M K A B 0 k w6 HP6.out HE.out).mono ?_
          rintro e w' ⟨h1, ⟨h2, _⟩ | ⟨_, h2, _⟩ | ⟨_, _, a, c, rfl, hr⟩⟩
          · exact absurd rfl h2
          · exact absurd ⟨by omega, by omega⟩ h2
          · exact ⟨a, c, rfl, hr, h1⟩
        clear hb6 hr6 C5 hc0 hc1 HPr
        go_wp2_with fail
        refine C6.out.mono ?_
        rintro e w7 ⟨a7, c7, rfl, hr7, hb7⟩
        have hl1 := tally_le B k F
        have hl2 := tally_le A k F
        have he1 : w7.cell? ⟨w.heap.size, 1, none⟩ = some (.slice fa F fc) := (hb7.cell (p := ⟨w.heap.size, 1, none⟩) (World.block_lt_of_cell? _ _ hd1)).trans hd1
        have hen : w7.cell? ⟨wr.heap.size, 0, none⟩ = some (.int .i64 k) := (hb7.cell (p := ⟨wr.heap.size, 0, none⟩) (World.block_lt_of_cell? _ _ hdn)).trans hdn
        have HB7 : Hid (Below W.heap.size W w7) := HB6.out.trans (hb7.mono HB6.out.size)
        have C7 : Hid (Calls Try.prog 14 #[.slice a6 (tally B k F) c6, .func (Fn.func 15) #[] #[.pointer (some ⟨w.heap.size, 0, none⟩), .pointer (some ⟨wr.heap.size, 0, none⟩)]] w7 fun e w' => e = .returned (.bool false) ∧ ∃ q, w' = w7.drewN q) :=
          containsFB_any a6 _ c6 _ w.heap.size wr.heap.size fa F fc A B k w7 (by omega) hF30 (HR6.out.below hb7) he1 hen (HP6.out.fls.below hb7) (fun i hi => fl_mem hi)
        have C8 : Hid (∀ q, Calls Try.prog 14 #[.slice a7 (tally A k F) c7, .func (Fn.func 16) #[] #[.pointer (some ⟨w.heap.size, 0, none⟩), .pointer (some ⟨wr.heap.size, 0, none⟩)]] (w7.drewN q) fun e w' => e = .returned (.bool false) ∧ ∃ q', w' = (w7.drewN q).drewN q') := fun q =>
          containsFA_any a7 _ c7 _ w.heap.size wr.heap.size fa F fc A B k (w7.drewN q) (by omega) hF30 (hr7.below (below_drewn (Below.refl _ _) q)) he1 hen ((HP6.out.fls.below hb7).below (below_drewn (Below.refl _ _) q)) (fun i hi => fl_mem hi)
        clear hb7 hr7 C6 hd0 hd1 hdn HR6 HP6 he1 hen
        go_wp2_with fail
        refine C7.out.mono ?_
        rintro e w8 ⟨rfl, q, rfl⟩
        go_wp2_with fail
        refine (C8.out q).mono ?_
        rintro e w9 ⟨rfl, q', rfl⟩
        clear C7 C8
        go_wp2
        go_roundw
        case rel => exact ⟨k + 1, by omega, by go_num, by simp only [sumT]; go_num, by simp only [sumT]; go_num, below_drewn HB7.out _⟩
        case measure => simp [intOf]; omega
      · obtain rfl : N = k := by omega
        have e1 : sumT B F N = F := sumT_all B N F (fun i hi => (HEn.out i hi).2)
        have e2 : sumT A F N = F := sumT_all A N F (fun i hi => (HEn.out i hi).1)
        rw [e1, e2]
        have HBf : Hid (Below w.heap.size w wr) := HW.out.1.trans (HB5.out.mono HW.out.1.size)
        clear e1 e2 hs1 hs2 hkF
        go_wp2
        go_ret
        exact ⟨rfl, HBf.out⟩
  · have hz' : (e0 != 0) = true := by rw [bne_iff_ne]; exact hz
    have HZ : Hid (e0 ≠ 0) := hz
    clear hz
    go_wp2_with fail
    refine C4.out.mono ?_
    rintro e w4 ⟨rfl, hb4⟩
    have HB4 : Hid (Below W.heap.size W w4) := HB3.out.trans (hb4.mono HB3.out.size)
    clear hc0 hc1
    obtain ⟨hc0, hc1⟩ := HBx.out w4 HB4.out
    have HP4 : Hid (Prc w4 na N nc fa F M K A B) := HP3.out.below hb4
    have C5 : Hid (Calls Try.prog 7 #[.agg #[.slice na N nc, .slice fa F fc], .int .i64 0] w4 fun e w' => e = .returned (.tuple #[.slice none 0 0, .int .i64 e0]) ∧ Below w4.heap.size w4 w') := by
      refine (ins_any na fa N nc F fc M K A B e0 0 w4 HP4.out HE.out).mono ?_
      rintro e w' ⟨h1, ⟨_, rfl⟩ | ⟨h2, _⟩ | ⟨h2, _⟩⟩
      · exact ⟨rfl, h1⟩
      · exact absurd h2 HZ.out
      · exact absurd h2 HZ.out
    clear hb4 C4 HP3 HB3
    go_wp2_with fail
    refine C5.out.mono ?_
    rintro e w5 ⟨rfl, hb5⟩
    have HB5 : Hid (Below W.heap.size W w5) := HB4.out.trans (hb5.mono HB4.out.size)
    clear hc0 hc1
    obtain ⟨hc0, hc1⟩ := HBx.out w5 HB5.out
    have C6 : Hid (Calls Try.prog 9 #[.agg #[.slice na N nc, .slice fa F fc]] w5 fun e w' => e = .returned (.int .i64 e0) ∧ Below w5.heap.size w5 w') := procCheck_any na fa N nc F fc M K A B e0 w5 (HP4.out.below hb5) HE.out
    clear hb5 C5 HP4 HB4
    go_wp2_with fail
    refine C6.out.mono ?_
    rintro e w6 ⟨rfl, hb6⟩
    have HB6 : Hid (Below w.heap.size w w6) := HW.out.1.trans ((HB5.out.trans (hb6.mono HB5.out.size)).mono HW.out.1.size)
    clear hb6 C6
    go_wp2
    go_ret
    exact ⟨rfl, HB6.out⟩

end Go.Proofs.Ytddingbfjkmdeaa
