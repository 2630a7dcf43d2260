/- The law StepsCover, walked. -/
import Derived.Test.YtnpdkpbhkjnbhaaStepsEq2
import Derived.Test.YtnpdkpbhkjnbhaaProc8
import Derived.Test.YtnpdkpbhkjnbhaaCls
namespace Go.Proofs.Ytnpdkpbhkjnbhaa
open Go.RowKit

/-- What Of answers, told by what the law makes of it. -/
theorem sp_told {e0 : Int} {l : List St3} {e : Ending} {w : World} (h : SpIs e0 l e w) :
    (∃ f, f ≠ 0 ∧ e = .returned (.tuple #[.slice none 0 0, .int .i64 f])) ∨ (e0 = 0 ∧ l.length ≤ 60 ∧ ∃ a c, e = .returned (.tuple #[.slice a l.length c, .int .i64 0]) ∧ l.length ≤ c ∧ Sts w a l.length (fun i => l.getD i (0, 0, 0))) := by
  rcases h with ⟨h1, rfl⟩ | ⟨h1, h2, rfl⟩ | ⟨h1, h2, h3⟩
  · exact Or.inl ⟨e0, h1, rfl⟩
  · exact Or.inl ⟨2, by decide, rfl⟩
  · exact Or.inr ⟨h1, h2, h3⟩

theorem straight_steps : stAll sKs sAs sBs 2 3 = [(1, 0, 1), (2, 1, 0)] := by decide

theorem straight_sts (w : World) : Sts (w.alloc (.cells #[.int .i64 1, .int .i64 0, .int .i64 1, .int .i64 2, .int .i64 1, .int .i64 0] 32)) (some ⟨w.heap.size, 0, none⟩) 2 (fun i => ([(1, 0, 1), (2, 1, 0)] : List St3).getD i (0, 0, 0)) :=
  ⟨w.heap.size, 0, fun _ => rfl, fun i hi => by
    match i, hi with
    | 0, _ => exact ⟨cell_of_alloc rfl, cell_of_alloc rfl, cell_of_alloc rfl⟩
    | 1, _ => exact ⟨cell_of_alloc rfl, cell_of_alloc rfl, cell_of_alloc rfl⟩⟩

theorem getD3_lt {l : List St3} {i : Nat} (h : i < l.length) : l.getD i (0, 0, 0) = l[i] := by simp [h]
theorem getD3_mem {l : List St3} {i : Nat} (h : i < l.length) : l.getD i (0, 0, 0) ∈ l := by rw [getD3_lt h]; exact List.getElem_mem h

theorem nodup_ne {l : List St3} (h : l.Nodup) {i j : Nat} (hi : i < j) (hj : j < l.length) : l.getD i (0, 0, 0) ≠ l.getD j (0, 0, 0) := by
  rw [getD3_lt (by omega), getD3_lt hj]
  exact List.pairwise_iff_getElem.1 (List.nodup_iff_pairwise_ne.1 h) i j (by omega) hj hi

theorem step_facts {K A B : Nat → Int} {F N : Nat} {t : St3} (h : t ∈ stAll K A B F N) : ∃ n : Nat, n < N ∧ t.1 = n ∧ (t.2.1 = -1 ∨ ∃ q : Nat, t.2.1 = q ∧ q < F ∧ B q = n) ∧ 0 ≤ t.2.2 ∧ t.2.2 < 2 ^ tally A n F := by
  obtain ⟨n, hn, h⟩ := mem_stAll.1 h
  refine ⟨n, hn, stK_node h, ?_, (stK_out h).1, (stK_out h).2⟩
  rcases stK_in h with h1 | h1
  · exact Or.inl h1
  · obtain ⟨q, h2, h3, h4⟩ := mem_fl h1
    exact Or.inr ⟨q, h2, h3, h4⟩

set_option maxRecDepth 20000 in
set_option maxHeartbeats 8000000 in
theorem stepsCover_walk (na fa : Option Addr) (N nc F fc : Nat) (M : Nat → ByteArray) (K A B : Nat → Int) (w : World) (hp : Prc w na N nc fa F M K A B) :
    Calls Try.prog 4 #[.agg #[.slice na N nc, .slice fa F fc]] w fun e w' => e = .returned (.bool true) ∧ Below w.heap.size w w' := by
  obtain ⟨e0, he⟩ := chk_ex N F M K A B
  have HE : Hid (ChkIs N F M K A B e0) := he
  have HP : Hid (Prc w na N nc fa F M K A B) := hp
  clear he hp
  obtain ⟨W, eW⟩ : ∃ x, x = w.alloc (.cells #[.slice na N nc, .slice fa F fc] 25) := ⟨_, rfl⟩
  have HW : Hid (Below w.heap.size w W ∧ W.heap.size = w.heap.size + 1) := by subst eW; exact ⟨box_below _ _, by simp⟩
  have HBx : Hid (∀ w1, Below W.heap.size W w1 → w1.cell? ⟨w.heap.size, 0, none⟩ = some (.slice na N nc) ∧ w1.cell? ⟨w.heap.size, 1, none⟩ = some (.slice fa F fc)) := fun w1 h => by
    have h' : Below (w.heap.size + 1) (w.alloc (.cells #[.slice na N nc, .slice fa F fc] 25)) w1 := by rw [← HW.out.2, ← eW]; exact h
    exact ⟨box_keep h' rfl, box_keep h' rfl⟩
  have HEW : Hid (w.alloc (.cells #[.slice na N nc, .slice fa F fc] 25) = W) := eW.symm
  have HPW : Hid (Prc W na N nc fa F M K A B) := HP.out.below HW.out.1
  have C1 : Hid (Calls Try.prog 8 #[] W fun e w' => (∃ na fa, e = .returned (.agg #[.slice na 3 3, .slice fa 2 2]) ∧ Prc w' na 3 3 fa 2 sMs sKs sAs sBs) ∧ Below W.heap.size W w') := straight_any W
  clear eW
  go_enter Try.func4, Try.ntmps4
  go_wp2_with fail
  rw [HEW.out]
  refine C1.out.mono ?_
  rintro e w1 ⟨⟨sna, sfa, rfl, hsp⟩, hb1⟩
  have HB1 : Hid (Below W.heap.size W w1) := hb1
  have C2 : Hid (Calls Try.prog 5 #[.agg #[.slice sna 3 3, .slice sfa 2 2]] w1 fun e w' => (∃ a c, e = .returned (.tuple #[.slice a 2 c, .int .i64 0]) ∧ Sts w' a 2 (fun i => ([(1, 0, 1), (2, 1, 0)] : List St3).getD i (0, 0, 0))) ∧ Below w1.heap.size w1 w') := by
    refine (of_any sna sfa 3 3 2 2 sMs sKs sAs sBs 0 w1 hsp straight_chk).mono ?_
    rintro e w' ⟨h1, h2⟩
    rw [straight_steps] at h2
    rcases h2 with ⟨h3, _⟩ | ⟨_, h3, _⟩ | ⟨_, _, a, c, rfl, _, h3⟩
    · exact absurd rfl h3
    · exact absurd h3 (by decide)
    · exact ⟨⟨a, c, rfl, h3⟩, h1⟩
  clear hsp hb1 C1
  go_wp2_with fail
  refine C2.out.mono ?_
  rintro e w2 ⟨⟨la, lc, rfl, hrow⟩, hb2⟩
  have HB2 : Hid (Below W.heap.size W w2) := HB1.out.trans (hb2.mono HB1.out.size)
  have C3 : Hid (Calls Try.prog 7 #[.slice la 2 lc, .slice (some ⟨w2.heap.size, 0, none⟩) 2 2] (w2.alloc (.cells #[.int .i64 1, .int .i64 0, .int .i64 1, .int .i64 2, .int .i64 1, .int .i64 0] 32)) fun e w' => e = .returned (.bool true) ∧ Below W.heap.size W w') := by
    refine (equalSt_any la (some ⟨w2.heap.size, 0, none⟩) 2 lc 2 _ _ (by omega) (hrow.below (box_below _ _)) (straight_sts w2)).mono ?_
    rintro e w' ⟨rfl, h⟩
    have hb := HB2.out.alloc HB2.out.size (.cells #[.int .i64 1, .int .i64 0, .int .i64 1, .int .i64 2, .int .i64 1, .int .i64 0] 32)
    exact ⟨rfl, hb.trans (h.mono hb.size)⟩
  clear hrow hb2 C2 HB1
  go_wp2_with fail
  refine C3.out.mono ?_
  rintro e w3 ⟨rfl, hb3⟩
  have HB3 : Hid (Below W.heap.size W w3) := hb3
  obtain ⟨hc0, hc1⟩ := HBx.out w3 hb3
  have C4 : Hid (Calls Try.prog 5 #[.agg #[.slice na N nc, .slice fa F fc]] w3 fun e w' => Below w3.heap.size w3 w' ∧ SpIs e0 (stAll K A B F N) e w') := of_any na fa N nc F fc M K A B e0 w3 (HPW.out.below hb3) HE.out
  clear hb3 C3 HB2
  go_wp2_with fail
  refine C4.out.mono ?_
  rintro e w4 ⟨hb4, hs4⟩
  have HB4 : Hid (Below W.heap.size W w4) := HB3.out.trans (hb4.mono HB3.out.size)
  have HBw4 : Hid (Below w.heap.size w w4) := HW.out.1.trans (HB4.out.mono HW.out.1.size)
  clear hb4 C4
  rcases sp_told hs4 with ⟨f, hf, rfl⟩ | ⟨hz, hl60, a, c, rfl, hcap, hst⟩
  · have hf' : (f != 0) = true := by rw [bne_iff_ne]; exact hf
    clear hf hs4
    go_wp2
    go_ret
    exact ⟨rfl, HBw4.out⟩
  · subst hz
    have hch := chk_zero HE.out
    have hN20 : N ≤ 20 := hch.1.1
    have hF30 : F ≤ 30 := hch.1.2
    have HFa : Hid (∀ i : Nat, i < N → fitOk (K i) (tally B i F) (tally A i F) = true) := by
      have := hch.2.2.2.2.1
      unfold fitAll at this
      rw [decide_eq_true_eq] at this
      exact this
    have HST : Hid (Sts w4 a (stAll K A B F N).length (fun i => (stAll K A B F N).getD i (0, 0, 0))) := hst
    clear hch hst hs4 hc0 hc1
    obtain ⟨hc0, hc1⟩ := HBx.out w4 HB4.out
    obtain ⟨l, hl⟩ : ∃ l, l = stAll K A B F N := ⟨_, rfl⟩
    rw [← hl] at hl60 hcap HST
    have HL : Hid (l = stAll K A B F N) := hl
    have e1 : (stAll K A B F N).length = l.length := by rw [hl]
    rw [e1]
    clear hl e1
    go_wp2
    go_loopw [41] (fun i wr => ∃ k : Nat, k ≤ N ∧ i = .int .i64 k ∧ Hid (Below w4.heap.size w4 wr)) (fun i _ => N - (intOf i).toNat)
    case atStart => exact ⟨0, Nat.zero_le _, rfl, hid (Below.refl _ _)⟩
    case round =>
      obtain ⟨k, hk, rfl, HS⟩ := hrel
      have HBr : Hid (Below W.heap.size W wr) := HB4.out.trans (HS.out.mono HB4.out.size)
      clear hc0 hc1
      obtain ⟨hc0, hc1⟩ := HBx.out wr HBr.out
      by_cases hlt : k < N
      · obtain ⟨bn, on, han, hcn⟩ := HPW.out.nds
        obtain rfl := han (by omega)
        obtain ⟨hn1, hn2⟩ := Nds.at hcn HBr.out hlt
        clear hcn han
        have hkz : (k : Int) < N := by omega
        have HZ : Hid ((∃ i, i < l.length ∧ (l.getD i (0, 0, 0)).1 = k) ↔ K k ≠ 1) := by
          rw [← fitAll_at HFa.out k hlt, ← HL.out]
          constructor
          · rintro ⟨i, hi, he⟩
            exact ⟨l.getD i (0, 0, 0), getD3_mem hi, he⟩
          · rintro ⟨t, ht, he⟩
            obtain ⟨i, hi, rfl⟩ := List.getElem_of_mem ht
            exact ⟨i, hi, by rw [getD3_lt hi]; exact he⟩
        obtain ⟨κ, hκ⟩ : ∃ x, x = K k := ⟨_, rfl⟩
        rw [← hκ] at hn2 HZ
        clear hκ
        obtain ⟨U, eU⟩ : ∃ x, x = (wr.alloc (.cells #[.int .i64 k] 3)).alloc (.cells #[.string (M k), .int .i64 κ] 36) := ⟨_, rfl⟩
        have HU : Hid (Below wr.heap.size wr U ∧ U.cell? ⟨wr.heap.size, 0, none⟩ = some (.int .i64 k) ∧ U.cell? ⟨wr.heap.size + 1, 1, none⟩ = some (.int .i64 κ)) := by
          subst eU
          have h1 : ((wr.alloc (.cells #[.int .i64 k] 3))).cell? ⟨wr.heap.size, 0, none⟩ = some (.int .i64 k) := cell_of_alloc rfl
          have e2 : (wr.alloc (.cells #[.int .i64 k] 3)).heap.size = wr.heap.size + 1 := by simp
          refine ⟨(box_below _ _).trans ((box_below _ _).mono (by simp)), ((box_below _ _).cell (p := ⟨wr.heap.size, 0, none⟩) (World.block_lt_of_cell? _ _ h1)).trans h1, ?_⟩
          rw [← e2]
          exact cell_of_alloc rfl
        have HUe : Hid ((wr.alloc (.cells #[.int .i64 k] 3)).alloc (.cells #[.string (M k), .int .i64 κ] 36) = U) := eU.symm
        clear eU
        have hu1 := HU.out.2.2
        have HBU : Hid (Below w4.heap.size w4 U) := HS.out.trans (HU.out.1.mono HS.out.size)
        have C : Hid (∀ z : Bool, (κ ≠ 1 ↔ z = true) → ∀ u, Below U.heap.size U u → Calls Try.prog 9 #[.slice a l.length c, .func (Fn.func 10) #[] #[.pointer (some ⟨wr.heap.size, 0, none⟩)]] u fun e w' => e = .returned (.bool z) ∧ Below U.heap.size U w') := fun z hz u hu => by
          refine (containsFSt_any a l.length c (fun i => l.getD i (0, 0, 0)) wr.heap.size k z u (by omega) (HST.out.below (HBU.out.trans (hu.mono HBU.out.size))) ((hu.cell (p := ⟨wr.heap.size, 0, none⟩) (World.block_lt_of_cell? _ _ HU.out.2.1)).trans HU.out.2.1) (HZ.out.trans hz)).mono ?_
          rintro e w' ⟨rfl, h⟩
          exact ⟨rfl, hu.trans (h.mono hu.size)⟩
        by_cases hκ1 : κ = 1
        · have C' : Hid (∀ u, Below U.heap.size U u → Calls Try.prog 9 #[.slice a l.length c, .func (Fn.func 10) #[] #[.pointer (some ⟨wr.heap.size, 0, none⟩)]] u fun e w' => e = .returned (.bool false) ∧ Below U.heap.size U w') := C.out false (by simp [hκ1])
          subst hκ1
          clear C HZ
          go_wp2
          rw [HUe.out]
          go_region_held3 (fun w' => w'.cell? ⟨wr.heap.size + 1, 1, none⟩ = some (.int .i64 1)) (first | go_keep)
            (first | (go_at_call 9; refine (C'.out _ ?_).mono ?_; (exact below_drew_iff.2 (Below.refl _ _)); rintro e w5 ⟨rfl, hb5⟩; have hu5 : w5.cell? ⟨wr.heap.size + 1, 1, none⟩ = some (.int .i64 1) := (hb5.cell (p := ⟨wr.heap.size + 1, 1, none⟩) (World.block_lt_of_cell? _ _ hu1)).trans hu1))
          have HB5 : Hid (Below w4.heap.size w4 w5) := HBU.out.trans (hb5.mono HBU.out.size)
          clear hb5 hu5 C'
          go_wp2
          go_roundw
          case rel => exact ⟨k + 1, by omega, by go_num, HB5⟩
          case measure => simp [intOf]; omega
        · have C' : Hid (∀ u, Below U.heap.size U u → Calls Try.prog 9 #[.slice a l.length c, .func (Fn.func 10) #[] #[.pointer (some ⟨wr.heap.size, 0, none⟩)]] u fun e w' => e = .returned (.bool true) ∧ Below U.heap.size U w') := C.out true (by simp [hκ1])
          have hq : (κ != 1) = true := by rw [bne_iff_ne]; exact hκ1
          clear C HZ hκ1
          go_wp2
          rw [HUe.out]
          go_region_held3 (fun w' => w'.cell? ⟨wr.heap.size + 1, 1, none⟩ = some (.int .i64 κ)) (first | go_keep)
            (first | (go_at_call 9; refine (C'.out _ ?_).mono ?_; (exact below_drew_iff.2 (Below.refl _ _)); rintro e w5 ⟨rfl, hb5⟩; have hu5 : w5.cell? ⟨wr.heap.size + 1, 1, none⟩ = some (.int .i64 κ) := (hb5.cell (p := ⟨wr.heap.size + 1, 1, none⟩) (World.block_lt_of_cell? _ _ hu1)).trans hu1))
          have HB5 : Hid (Below w4.heap.size w4 w5) := HBU.out.trans (hb5.mono HBU.out.size)
          clear hb5 hu5 C'
          go_wp2
          go_roundw
          case rel => exact ⟨k + 1, by omega, by go_num, HB5⟩
          case measure => simp [intOf]; omega
      · obtain rfl : N = k := by omega
        have HB6 : Hid (Below w4.heap.size w4 wr) := HS.out
        clear HS HBr
        obtain ⟨w6, ew6⟩ : ∃ x, x = wr := ⟨_, rfl⟩
        rw [← ew6] at HB6 hc0 hc1 ⊢
        clear ew6
        go_wp2
        go_loopw [56] (fun i wr => ∃ k : Nat, k ≤ l.length ∧ i = .int .i64 k ∧ Hid (Below w4.heap.size w4 wr)) (fun i _ => l.length - (intOf i).toNat)
        case atStart => exact ⟨0, Nat.zero_le _, rfl, HB6⟩
        case round =>
          obtain ⟨j, hj, rfl, HS⟩ := hrel
          have HBr : Hid (Below W.heap.size W wr) := HB4.out.trans (HS.out.mono HB4.out.size)
          clear hc0 hc1
          obtain ⟨hc0, hc1⟩ := HBx.out wr HBr.out
          by_cases hlt : j < l.length
          · obtain ⟨bl, ol, hal, hcl⟩ := HST.out
            obtain rfl := hal (by omega)
            obtain ⟨hl1, hl2, hl3⟩ := Sts.at hcl HS.out hlt
            clear hcl hal
            have hjz : (j : Int) < l.length := by omega
            obtain ⟨n, hnN, hs1, hs2, hs3, hs4⟩ := step_facts (by rw [← HL.out]; exact getD3_mem hlt : l.getD j (0, 0, 0) ∈ stAll K A B F N)
            have HNe : Hid (∀ i, i < j → l.getD i (0, 0, 0) ≠ l.getD j (0, 0, 0)) := fun i hi => nodup_ne (by rw [HL.out]; exact stAll_nodup K A B F N) hi hlt
            have HSTr : Hid (Sts wr (some ⟨bl, ol, none⟩) l.length (fun i => l.getD i (0, 0, 0))) := HST.out.below HS.out
            obtain ⟨t, ht⟩ : ∃ t, t = l.getD j (0, 0, 0) := ⟨_, rfl⟩
            rw [← ht] at hl1 hl2 hl3 hs1 hs2 hs3 hs4 HNe
            clear ht
            obtain ⟨x1, x2, x3⟩ := t
            simp only at hl1 hl2 hl3 hs1 hs2 hs3 hs4
            subst hs1
            have C5 : Hid (∀ V, Below wr.heap.size wr V → Calls Try.prog 11 #[.agg #[.slice na N nc, .slice fa F fc], .int .i64 n] V fun e w' => ∃ a c, e = .returned (.tuple #[.slice a (tally A n F) c, .int .i64 0]) ∧ Below V.heap.size V w') := fun V hV => by
              refine (outs_any na fa N nc F fc M K A B 0 n V (HPW.out.below (HBr.out.trans (hV.mono HBr.out.size))) HE.out).mono ?_
              rintro e w' ⟨h1, ⟨h2, _⟩ | ⟨_, h2, _⟩ | ⟨_, _, a, c, rfl, hr⟩⟩
              · exact absurd rfl h2
              · exact absurd ⟨by omega, by omega⟩ h2
              · exact ⟨a, c, rfl, h1⟩
            have htA : tally A n F ≤ 30 := by have := tally_le A n F; omega
            have hsh : x3 / 2 ^ tally A n F = 0 := Int.ediv_eq_zero_of_lt hs3 hs4
            obtain ⟨tA, etA⟩ : ∃ x, x = tally A n F := ⟨_, rfl⟩
            rw [← etA] at C5 htA hsh
            clear hs3 hs4 etA
            obtain ⟨hv0, hv1⟩ := HBx.out (wr.alloc (.cells #[.int .i64 n, .int .i64 x2, .int .i64 x3] 32)) (HBr.out.alloc HBr.out.size _)
            go_wp2_with fail
            refine (C5.out _ (box_below _ _)).mono ?_
            rintro e w5 ⟨ao, co, rfl, hb5⟩
            have hbx : Below wr.heap.size wr w5 := (box_below wr _).trans (hb5.mono (by simp))
            have hd1 : w5.cell? ⟨wr.heap.size, 0, none⟩ = some (.int .i64 n) := new_alloc hb5 rfl
            have hd2 : w5.cell? ⟨wr.heap.size, 1, none⟩ = some (.int .i64 x2) := new_alloc hb5 rfl
            have hd3 : w5.cell? ⟨wr.heap.size, 2, none⟩ = some (.int .i64 x3) := new_alloc hb5 rfl
            have HB5 : Hid (Below w4.heap.size w4 w5) := HS.out.trans (hbx.mono HS.out.size)
            have HST5 : Hid (Sts w5 (some ⟨bl, ol, none⟩) j (fun i => l.getD i (0, 0, 0))) := (HSTr.out.below hbx).take hj
            clear hc0 hc1 hv0 hv1
            obtain ⟨hc0, hc1⟩ := HBx.out w5 (HBr.out.trans (hbx.mono HBr.out.size))
            have C6 : Hid (∀ u, Below w5.heap.size w5 u → Calls Try.prog 12 #[.slice (some ⟨bl, ol, none⟩) j c, .agg #[.int .i64 n, .int .i64 x2, .int .i64 x3]] u fun e w' => e = .returned (.bool false) ∧ Below w5.heap.size w5 w') := fun u hu => by
              refine (containsSt_any (some ⟨bl, ol, none⟩) j c (fun i => l.getD i (0, 0, 0)) ((n : Int), x2, x3) u (by omega) (HST5.out.below hu) HNe.out).mono ?_
              rintro e w' ⟨rfl, h⟩
              exact ⟨rfl, hu.trans (h.mono hu.size)⟩
            rcases hs2 with rfl | ⟨q, rfl, hqF, hqB⟩
            · have k1 : ∀ x : Cls w5, x.u.cell? ⟨wr.heap.size, 0, none⟩ = some (.int .i64 n) := fun x => x.cell hd1
              have k2 : ∀ x : Cls w5, x.u.cell? ⟨wr.heap.size, 1, none⟩ = some (.int .i64 (-1)) := fun x => x.cell hd2
              have k3 : ∀ x : Cls w5, x.u.cell? ⟨wr.heap.size, 2, none⟩ = some (.int .i64 x3) := fun x => x.cell hd3
              have hjc : ¬ (c : Int) < j := by omega
              clear hb5 hbx C5 HSTr HST5 HNe hd1 hd2 hd3
              go_wp2
              have _hne := cls_some w5
              refine wp_region_cls (by kernel_rfl) (by kernel_rfl) ?_
              repeat (go_big_quiet_step (exact Cls.calls (C6.out _ (Cls.h _))))
              refine wpQuiet_nil ?_
              rintro _ ⟨y, rfl⟩
              have HB7 : Hid (Below w4.heap.size w4 y.u) := HB5.out.trans (y.h.mono HB5.out.size)
              go_wp2
              go_roundw
              case rel => exact ⟨j + 1, by omega, by go_num, HB7⟩
              case measure => simp [intOf]; omega
            · obtain ⟨fb, fo, haf, hcf⟩ := HPW.out.fls
              obtain rfl := haf (by omega)
              have hfl := (Fls.at hcf (HBr.out.trans (hbx.mono HBr.out.size)) hqF).2
              rw [hqB] at hfl
              have k1 : ∀ x : Cls w5, x.u.cell? ⟨wr.heap.size, 0, none⟩ = some (.int .i64 n) := fun x => x.cell hd1
              have k2 : ∀ x : Cls w5, x.u.cell? ⟨wr.heap.size, 1, none⟩ = some (.int .i64 q) := fun x => x.cell hd2
              have k3 : ∀ x : Cls w5, x.u.cell? ⟨wr.heap.size, 2, none⟩ = some (.int .i64 x3) := fun x => x.cell hd3
              have k4 : ∀ x : Cls w5, x.u.cell? ⟨w.heap.size, 1, none⟩ = some (.slice (some ⟨fb, fo, none⟩) F fc) := fun x => x.cell hc1
              have k5 : ∀ x : Cls w5, x.u.cell? ⟨fb, fo + q * 2 + 1, none⟩ = some (.int .i64 n) := fun x => x.cell hfl
              have hjc : ¬ (c : Int) < j := by omega
              have hq0 : (0 : Int) ≤ q := by omega
              have hqz : (q : Int) < F := by omega
              clear hb5 hbx C5 HSTr HST5 HNe hd1 hd2 hd3 hfl hcf haf
              go_wp2
              have _hne := cls_some w5
              refine wp_region_cls (by kernel_rfl) (by kernel_rfl) ?_
              repeat (go_big_quiet_step (exact Cls.calls (C6.out _ (Cls.h _))))
              refine wpQuiet_nil ?_
              rintro _ ⟨y, rfl⟩
              have HB7 : Hid (Below w4.heap.size w4 y.u) := HB5.out.trans (y.h.mono HB5.out.size)
              go_wp2
              go_roundw
              case rel => exact ⟨j + 1, by omega, by go_num, HB7⟩
              case measure => simp [intOf]; omega
          · obtain rfl : l.length = j := by omega
            have HF : Hid (Below w.heap.size w wr) := HW.out.1.trans (HBr.out.mono HW.out.1.size)
            go_wp2
            go_ret
            exact ⟨rfl, HF.out⟩

end Go.Proofs.Ytnpdkpbhkjnbhaa
