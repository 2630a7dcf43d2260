/- The law GameSwaps, walked. -/
import Derived.Test.YtpgodjinbabniaaGameSwap
import Derived.Test.YtpgodjinbabniaaGameTokensWalk
namespace Go.Proofs.Ytpgodjinbabniaa
open Go.RowKit

/-- What is said of the two fires behind one another. -/
theorem fr_cases {b0 : Nat} {K A B : Nat → Int} {F : Nat} {m : Nat → Int} {t : St3} {e : Ending} {w : World} (h : FrIs b0 K A B F m t e w) (he : enb K A B F m t) :
    ((∃ j, j < F ∧ 9 < frs K A B t m j) ∧ e = .returned (.tuple #[.slice none 0 0, .int .i64 7])) ∨ ((∀ j, j < F → frs K A B t m j ≤ 9) ∧ ∃ g c, e = .returned (.tuple #[.slice (some ⟨g, 0, none⟩) F c, .int .i64 0]) ∧ Mk w g F (frs K A B t m)) := by
  rcases h with ⟨h1, _⟩ | ⟨_, h1⟩ | ⟨_, h1, g, c, _, h2⟩
  · exact absurd he h1
  · exact Or.inl h1
  · exact Or.inr ⟨h1, g, c, h2⟩

/-- Fire at a marking, with the number of a step. -/
theorem fire_step {na fa : Option Addr} {N nc F fc : Nat} {M : Nat → ByteArray} {K A B : Nat → Int} {w : World} (hp : Prc w na N nc fa F M K A B) (he : ChkIs N F M K A B 0) (hl : (stAll K A B F N).length ≤ 60) {ma : Option Addr} {mc : Nat} {m : Nat → Int} (hm : Row w ma F m) (h9 : ∀ i, i < F → 0 ≤ m i ∧ m i ≤ 9) {s : Nat} (hs : s < (stAll K A B F N).length) :
    Calls Try.prog 12 #[.agg #[.slice na N nc, .slice fa F fc], .slice ma F mc, .int .i64 (s : Nat)] w fun e w' => Below w.heap.size w w' ∧ FrIs w.heap.size K A B F m ((stAll K A B F N).getD s (0, 0, 0)) e w' := by
  refine (fireF_any hp he (mc := mc) (by have := hp.nF; omega) hm (s : Nat)).mono fun e w' hh => ⟨hh.1, ?_⟩
  have h := hh.2.ok (by rw [spE_ok hl, mkOk_yes h9]; rfl)
  rcases h with ⟨h1, _⟩ | ⟨_, h1⟩
  · exact absurd ⟨by omega, by omega⟩ h1
  · rw [Int.toNat_natCast] at h1
    exact h1

set_option maxRecDepth 20000 in
set_option maxHeartbeats 8000000 in
theorem gameSwaps_walk {na fa : Option Addr} {N nc F fc : Nat} {M : Nat → ByteArray} {K A B : Nat → Int} {w : World} (hp : Prc w na N nc fa F M K A B) {da : Option Addr} {D dc : Nat} {d : Nat → Int} (hD : D ≤ 1048576) (hd : Row w da D d) (zi zk : Int) :
    Calls Try.prog 8 #[.agg #[.slice na N nc, .slice fa F fc], .slice da D dc, .int .i64 zi, .int .i64 zk] w fun e w' => e = .returned (.bool true) ∧ Below w.heap.size w w' := by
  obtain ⟨e0, he⟩ := chk_ex N F M K A B
  have HP : Hid (Prc w na N nc fa F M K A B) := hp
  have HD : Hid (Row w da D d) := hd
  have HE : Hid (ChkIs N F M K A B e0) := he
  obtain ⟨W, eW⟩ : ∃ x, x = w.alloc (.cells #[.slice na N nc, .slice fa F fc] 25) := ⟨_, rfl⟩
  have HW : Hid (Below w.heap.size w W ∧ W.heap.size = w.heap.size + 1) := by subst eW; exact ⟨box_below _ _, by simp⟩
  have HBx : Hid (∀ w1, Below W.heap.size W w1 → w1.cell? ⟨w.heap.size, 0, none⟩ = some (.slice na N nc) ∧ w1.cell? ⟨w.heap.size, 1, none⟩ = some (.slice fa F fc)) := fun w1 h => by
    subst eW
    exact ⟨new_alloc h rfl, new_alloc h rfl⟩
  have HEW : Hid (w.alloc (.cells #[.slice na N nc, .slice fa F fc] 25) = W) := eW.symm
  have HPW : Hid (Prc W na N nc fa F M K A B) := hp.below HW.out.1
  have C1 : Hid (Calls Try.prog 25 #[] W fun e w' => (∃ na fa, e = .returned (.agg #[.slice na 3 3, .slice fa 2 2]) ∧ Prc w' na 3 3 fa 2 sMs sKs sAs sBs) ∧ Below W.heap.size W w') := straight_any W
  clear eW hp hd he
  go_enter Try.func8, Try.ntmps8
  go_wp2_with fail
  rw [HEW.out]
  refine C1.out.mono ?_
  rintro e w1 ⟨⟨na', fa', rfl, hp1⟩, hb1⟩
  have HB1 : Hid (Below W.heap.size W w1) := hb1
  have C2 : Hid (Calls Try.prog 11 #[.agg #[.slice na' 3 3, .slice fa' 2 2], .slice (some ⟨w1.heap.size, 0, none⟩) 2 2] (w1.alloc (.cells #[.int .i64 1, .int .i64 1] 3)) fun e w' => Below (w1.alloc (.cells #[.int .i64 1, .int .i64 1] 3)).heap.size (w1.alloc (.cells #[.int .i64 1, .int .i64 1] 3)) w' ∧ ∃ a c, e = .returned (.tuple #[.slice a 2 c, .int .i64 0]) ∧ Row w' a 2 (fun i => if i = 0 then 0 else 1)) := straight_enabled (hp1.below (box_below _ _)) (two_row w1 1 1)
  clear hb1 hp1 C1
  go_wp2_with fail
  refine C2.out.mono ?_
  rintro e w2 ⟨hb2, g, c, rfl, hr2⟩
  have HB2 : Hid (Below W.heap.size W w2) := (HB1.out.alloc HB1.out.size _).trans (hb2.mono (by have := HB1.out.size; simp; omega))
  have C3 : Hid (Calls Try.prog 13 #[.slice g 2 c, .slice (some ⟨w2.heap.size, 0, none⟩) 2 2] (w2.alloc (.cells #[.int .i64 0, .int .i64 1] 3)) fun e w' => e = .returned (.bool true) ∧ ∃ q, w' = (w2.alloc (.cells #[.int .i64 0, .int .i64 1] 3)).drewN q) := by
    have := equal_any g (some ⟨w2.heap.size, 0, none⟩) 2 c 2 2 _ _ (w2.alloc (.cells #[.int .i64 0, .int .i64 1] 3)) (by omega) (hr2.below (box_below _ _)) (two_row w2 0 1)
    rwa [same_yes rfl (fun _ _ => rfl)] at this
  clear hb2 hr2 C2
  go_wp2_with fail
  refine C3.out.mono ?_
  rintro e w3 ⟨rfl, q3, hw3⟩
  have HB3 : Hid (Below W.heap.size W w3) := by subst hw3; exact below_drewn (HB2.out.alloc HB2.out.size _) _
  have HBw3 : Hid (Below w.heap.size w w3) := HW.out.1.trans (HB3.out.mono HW.out.1.size)
  obtain ⟨hc0, hc1⟩ := HBx.out w3 HB3.out
  have C4 : Hid (Calls Try.prog 26 #[.agg #[.slice na N nc, .slice fa F fc], .slice da D dc] w3 fun e w' => Below w3.heap.size w3 w' ∧ WdIs (spE e0 (stAll K A B F N).length) K A B F (stAll K A B F N) D e w') := walked_any (HPW.out.below HB3.out) HE.out hD (HD.out.below HBw3.out)
  clear hw3 C3
  go_wp2_with fail
  refine C4.out.mono ?_
  rintro e w4 ⟨hb4, hw4⟩
  have HB4 : Hid (Below W.heap.size W w4) := HB3.out.trans (hb4.mono HB3.out.size)
  have HBw4 : Hid (Below w.heap.size w w4) := HW.out.1.trans (HB4.out.mono HW.out.1.size)
  clear hc0 hc1
  obtain ⟨hc0, hc1⟩ := HBx.out w4 HB4.out
  clear hb4 C4
  rcases hw4 with ⟨h1, rfl⟩ | ⟨h1, n, Ms, S, ga, gc, sa, sc, hn, rfl, hgr, hrow, hpth⟩
  · clear h1
    go_wp2
    go_ret
    exact ⟨rfl, HBw4.out⟩
  · have HGr : Hid (Gr w4 ga (n + 1) (fun _ => F) Ms) := hgr
    have H9 : Hid (∀ i, i < F → 0 ≤ Ms n i ∧ Ms n i ≤ 9) := hpth.ok n (Nat.le_refl _)
    have HE0 : Hid (e0 = 0 ∧ (stAll K A B F N).length ≤ 60) := spE_zero h1
    have HEz : Hid (ChkIs N F M K A B 0) := by have := HE.out; rw [HE0.out.1] at this; exact this
    have hF30 : F ≤ 30 := (chk_zero HEz.out).1.2
    have hl60 : (stAll K A B F N).length ≤ 60 := HE0.out.2
    obtain ⟨gb, go, hga, hgc⟩ := HGr.out
    obtain rfl := hga (by omega)
    obtain ⟨ma, mc, hgn, hrn⟩ := hgc n (by omega)
    have HRn : Hid (Row w4 ma F (Ms n)) := hrn
    generalize hmm : Ms n = m at *
    have hnz : (((n : Int) + 1) == 0) = false := beq_eq_false_iff_ne.2 (by omega)
    have hn1 : IntKind.i64.wrap ((n : Int) + 1 - 1) = n := by rw [IntKind.wrap_i64]; omega
    obtain ⟨X, hX⟩ : ∃ X : Nat → Int, ∀ i, X i = 1 ↔ enb K A B F m ((stAll K A B F N).getD i (0, 0, 0)) := ⟨fun i => @ite Int (enb K A B F m ((stAll K A B F N).getD i (0, 0, 0))) (Classical.propDecidable _) 1 0, fun i => by simp⟩
    have HX : Hid (∀ i, X i = 1 ↔ enb K A B F m ((stAll K A B F N).getD i (0, 0, 0))) := hX
    have C5 : Hid (Calls Try.prog 11 #[.agg #[.slice na N nc, .slice fa F fc], .slice ma F mc] w4 fun e w' => Below w4.heap.size w4 w' ∧ Lst (tally X 1 (stAll K A B F N).length) (fun i => (fl X 1 (stAll K A B F N).length).getD i 0) e w') := by
      refine (enabledF_any (HPW.out.below HB4.out) HE.out (mc := mc) (by omega) HRn.out X (fun i _ => HX.out i)).mono fun e w' hh => ⟨hh.1, hh.2.ok ?_⟩
      rw [h1, mkOk_yes H9.out]; rfl
    clear hgr hrow hpth hX hgc hga hrn hmm h1
    go_wp2_with fail
    refine C5.out.mono ?_
    rintro e w5 ⟨hb5, ca, cc, rfl, hcan⟩
    have HB5 : Hid (Below W.heap.size W w5) := HB4.out.trans (hb5.mono HB4.out.size)
    have HR5 : Hid (Row w5 ma F m) := HRn.out.below hb5
    have HCan : Hid (Row w5 ca (tally X 1 (stAll K A B F N).length) (fun i => (fl X 1 (stAll K A B F N).length).getD i 0)) := hcan
    clear hc0 hc1
    obtain ⟨hc0, hc1⟩ := HBx.out w5 HB5.out
    have C6 : Hid (Calls Try.prog 27 #[.agg #[.slice na N nc, .slice fa F fc]] w5 fun e w' => Below w5.heap.size w5 w' ∧ SpIs e0 (stAll K A B F N) e w') := of_any na fa N nc F fc M K A B e0 w5 (HPW.out.below HB5.out) HE.out
    clear hb5 hcan C5 hgn
    go_wp2_with fail
    refine C6.out.mono ?_
    rintro e w6 ⟨hb6, hs6⟩
    have HB6 : Hid (Below W.heap.size W w6) := HB5.out.trans (hb6.mono HB5.out.size)
    have HBw6 : Hid (Below w.heap.size w w6) := HW.out.1.trans (HB6.out.mono HW.out.1.size)
    have HR6 : Hid (Row w6 ma F m) := HR5.out.below hb6
    have HCan6 : Hid (Row w6 ca (tally X 1 (stAll K A B F N).length) (fun i => (fl X 1 (stAll K A B F N).length).getD i 0)) := HCan.out.below hb6
    rcases sp_ans hs6 with ⟨h2, _⟩ | ⟨_, aa, ac, rfl, hst⟩
    · exact absurd (by rw [HE0.out.1, spE_ok hl60]) h2
    have HSt : Hid (Sts w6 aa (stAll K A B F N).length (fun i => (stAll K A B F N).getD i (0, 0, 0))) := hst
    have HMem : Hid (∀ i, i < (stAll K A B F N).length → (stAll K A B F N).getD i (0, 0, 0) ∈ stAll K A B F N) := fun i hi => getD3_mem hi
    have HFire : Hid (∀ (u : World) (x : Option Addr) (xc : Nat) (m' : Nat → Int) (s : Nat), Below W.heap.size W u → Row u x F m' → (∀ i, i < F → 0 ≤ m' i ∧ m' i ≤ 9) → s < (stAll K A B F N).length →
        Calls Try.prog 12 #[.agg #[.slice na N nc, .slice fa F fc], .slice x F xc, .int .i64 (s : Nat)] u fun e w' => Below u.heap.size u w' ∧ FrIs u.heap.size K A B F m' ((stAll K A B F N).getD s (0, 0, 0)) e w') := fun u x xc m' s hu hr h9 hs => fire_step (HPW.out.below hu) HEz.out hl60 hr h9 hs
    clear hc0 hc1 hb6 hs6 hst C6
    obtain ⟨hc0, hc1⟩ := HBx.out w6 HB6.out
    generalize hla : stAll K A B F N = la at *
    have HLa : Hid (stAll K A B F N = la) := hla
    clear hla
    have htl := tally_le X 1 la.length
    by_cases ht0 : tally X 1 la.length = 0
    · have ht0' : (((tally X 1 la.length : Nat) : Int) == 0) = true := beq_iff_eq.2 (by omega)
      clear ht0
      go_wp2
      go_ret
      exact ⟨rfl, HBw6.out⟩
    · have ht0' : (((tally X 1 la.length : Nat) : Int) == 0) = false := beq_eq_false_iff_ne.2 (by omega)
      have hpos : (0 : Int) < (tally X 1 la.length : Nat) := by omega
      obtain ⟨ra, hra⟩ : ∃ ra : Nat, rst zi (tally X 1 la.length : Nat) = ra := ⟨(rst zi (tally X 1 la.length : Nat)).toNat, by have := rst_bound (n := zi) hpos; omega⟩
      obtain ⟨rb, hrb⟩ : ∃ rb : Nat, rst zk (tally X 1 la.length : Nat) = rb := ⟨(rst zk (tally X 1 la.length : Nat)).toNat, by have := rst_bound (n := zk) hpos; omega⟩
      have hral : ra < tally X 1 la.length := by have := rst_bound (n := zi) hpos; omega
      have hrbl : rb < tally X 1 la.length := by have := rst_bound (n := zk) hpos; omega
      have D1 : Hid (∀ q, Calls Try.prog 31 #[.int .i64 zi, .int .i64 (tally X 1 la.length : Nat)] (w6.drewN q) fun e w' => e = .returned (.int .i64 ra) ∧ w' = w6.drewN q) := fun q => by
        have := rest_val zi (tally X 1 la.length : Nat) (w6.drewN q) hpos (by omega)
        rwa [hra] at this
      have D2 : Hid (∀ q, Calls Try.prog 31 #[.int .i64 zk, .int .i64 (tally X 1 la.length : Nat)] (w6.drewN q) fun e w' => e = .returned (.int .i64 rb) ∧ w' = w6.drewN q) := fun q => by
        have := rest_val zk (tally X 1 la.length : Nat) (w6.drewN q) hpos (by omega)
        rwa [hrb] at this
      obtain ⟨a, ha1, ha2, ha3, _⟩ := fl_place hral
      obtain ⟨b, hb1, hb2, hb3, _⟩ := fl_place hrbl
      obtain ⟨cb, co, hca, hcc⟩ := HCan6.out
      obtain rfl := hca (by omega)
      have hcs1 := hcc ra hral
      have hcs1' : w6.cell? ⟨cb, co + ra, none⟩ = some (.int .i64 (a : Nat)) := by rw [hcs1]; exact congrArg (fun q => some (Value.int .i64 q)) ha1
      have hcs2 := hcc rb hrbl
      have hcs2' : w6.cell? ⟨cb, co + rb, none⟩ = some (.int .i64 (b : Nat)) := by rw [hcs2]; exact congrArg (fun q => some (Value.int .i64 q)) hb1
      have HEa : Hid (a < la.length ∧ enb K A B F m (la.getD a (0, 0, 0))) := ⟨ha2, (HX.out a).1 ha3⟩
      have HEb : Hid (b < la.length ∧ enb K A B F m (la.getD b (0, 0, 0))) := ⟨hb2, (HX.out b).1 hb3⟩
      have hrai : (ra : Int) < (tally X 1 la.length : Nat) := by omega
      have hrbi : (rb : Int) < (tally X 1 la.length : Nat) := by omega
      clear ht0 hra hrb hral hrbl ha1 ha2 ha3 hb1 hb2 hb3 hcs1 hcs2 hcc hca
      go_wp2
      go_quiet (first | (go_at_call_of 31 (Value.int .i64 zi); exact Calls.quiet_of_same (D1.out _)) | (go_at_call_of 31 (Value.int .i64 zk); exact Calls.quiet_of_same (D2.out _)))
      have HW7 : Hid (Below w6.heap.size w6 ((w6.drewN nq).alloc (.cells #[.int .i64 (a : Nat), .int .i64 (b : Nat)] 3)) ∧ Row ((w6.drewN nq).alloc (.cells #[.int .i64 (a : Nat), .int .i64 (b : Nat)] 3)) (some ⟨w6.heap.size, 0, none⟩) 2 (fun i => if i = 0 then ((a : Nat) : Int) else (b : Nat))) :=
        ⟨(below_drewn (Below.refl _ _) nq).alloc (Nat.le_refl _) _, two_row (w6.drewN nq) (a : Nat) (b : Nat)⟩
      obtain ⟨W7, eW7⟩ : ∃ u, u = (w6.drewN nq).alloc (.cells #[.int .i64 (a : Nat), .int .i64 (b : Nat)] 3) := ⟨_, rfl⟩
      have HEW7 : Hid ((w6.drewN nq).alloc (.cells #[.int .i64 (a : Nat), .int .i64 (b : Nat)] 3) = W7) := eW7.symm
      rw [← eW7] at HW7
      clear eW7 hc0 hc1 hcs1' hcs2'
      go_wp2
      rw [HEW7.out]
      go_loopw [88] (fun i wr => ∃ k : Nat, k ≤ 2 ∧ i = .int .i64 k ∧ Hid (∀ q, q < k → ∀ j : Nat, (la.getD (if q = 0 then a else b) (0, 0, 0)).1 = j → K j ≠ 3 ∧ K j ≠ 7) ∧ Hid (Below W7.heap.size W7 wr)) (fun i _ => 2 - (intOf i).toNat)
      case atStart => exact ⟨0, by omega, rfl, hid (fun q hq => by omega), Below.refl _ _⟩
      case round =>
        obtain ⟨k, hk, rfl, HJ, HBr⟩ := hrel
        have HBr6 : Hid (Below w6.heap.size w6 wr) := HW7.out.1.trans (HBr.out.mono HW7.out.1.size)
        have HBrW : Hid (Below W.heap.size W wr) := HB6.out.trans (HBr6.out.mono HB6.out.size)
        have HBrw : Hid (Below w.heap.size w wr) := HW.out.1.trans (HBrW.out.mono HW.out.1.size)
        obtain ⟨ab, ao, haa, hac⟩ := HSt.out
        obtain rfl := haa (by have := HEa.out.1; omega)
        obtain ⟨hc0, hc1⟩ := HBx.out wr HBrW.out
        by_cases hlt : k < 2
        · obtain ⟨s, hs⟩ : ∃ s : Nat, s = if k = 0 then a else b := ⟨_, rfl⟩
          have hsl : s < la.length := by
            rw [hs]
            split
            · exact HEa.out.1
            · exact HEb.out.1
          obtain ⟨hq0, _, _⟩ := Sts.at hac HBr6.out hsl
          have hmem := HMem.out s hsl
          rw [← HLa.out] at hmem
          obtain ⟨j, hj, ht1, _⟩ := step_kind hmem
          rw [HLa.out] at ht1
          rw [ht1] at hq0
          have hsk : wr.cell? ⟨w6.heap.size, k, none⟩ = some (.int .i64 (s : Nat)) := by
            obtain ⟨b7, o7, h7, hc7⟩ := HW7.out.2.below HBr.out
            have e7 := h7 (by omega)
            simp only [Option.some.injEq, Addr.mk.injEq] at e7
            obtain ⟨e71, e72, _⟩ := e7
            have := hc7 k hlt
            rw [← e71, ← e72, Nat.zero_add] at this
            rw [this, hs]
            by_cases ek : k = 0 <;> simp [ek]
          obtain ⟨nb, no, hna, hnc⟩ := (HPW.out.below HBrW.out).nds
          obtain rfl := hna (by omega)
          have hkj := (hnc j hj).2
          have hjN : (j : Int) < N := by omega
          have hsli : (s : Int) < la.length := by omega
          have HSj : Hid ((la.getD (if k = 0 then a else b) (0, 0, 0)).1 = j) := by have := ht1; rw [hs] at this; exact this
          clear hac haa hs hmem ht1 hna hnc
          go_wp2
          go_quiet (fail)
          by_cases hk7 : K j = 7
          · have q7 : (K j == 7) = true := beq_iff_eq.2 hk7
            clear hk7
            go_wp2
            go_ret
            exact ⟨rfl, below_drewn HBrw.out _⟩
          · have q7 : (K j == 7) = false := beq_eq_false_iff_ne.2 hk7
            by_cases hk3 : K j = 3
            · have q3 : (K j == 3) = true := beq_iff_eq.2 hk3
              clear hk7 hk3
              go_wp2
              go_ret
              exact ⟨rfl, below_drewn HBrw.out _⟩
            · have q3 : (K j == 3) = false := beq_eq_false_iff_ne.2 hk3
              have HKj : Hid (K j ≠ 3 ∧ K j ≠ 7) := ⟨hk3, hk7⟩
              clear hk7 hk3
              go_wp2
              go_roundw
              case rel =>
                refine ⟨k + 1, by omega, by go_num, hid (fun q hq j' hj' => ?_), below_drewn HBr.out _⟩
                by_cases e : q = k
                · subst e
                  have := HSj.out
                  obtain rfl : j' = j := by omega
                  exact HKj.out
                · exact HJ.out q (by omega) j' hj'
              case measure => simp [intOf]; omega
        · obtain rfl : k = 2 := by omega
          have HEa1 := HEa.out.1
          have HEb1 := HEb.out.1
          obtain ⟨hq0, _, _⟩ := Sts.at hac HBr6.out HEa1
          obtain ⟨hq1, _, _⟩ := Sts.at hac HBr6.out HEb1
          have hma := HMem.out a HEa1
          have hmb := HMem.out b HEb1
          have hma2 := hma
          have hmb2 := hmb
          rw [← HLa.out] at hma2 hmb2
          obtain ⟨ja, hja, hta, _⟩ := step_kind hma2
          obtain ⟨jb, hjb, htb, _⟩ := step_kind hmb2
          rw [HLa.out] at hta htb hma2 hmb2
          rw [hta] at hq0
          rw [htb] at hq1
          have hsa' : (a : Int) < la.length := by omega
          have hsb' : (b : Int) < la.length := by omega
          have hKa := HJ.out 0 (by omega) ja (by simpa using hta)
          have hKb := HJ.out 1 (by omega) jb (by simpa using htb)
          have HPa : Hid (Pln K A B F N (la.getD a (0, 0, 0)) ja) := pln (by rw [HLa.out]; exact hma) hta hKa.1 hKa.2
          have HPb : Hid (Pln K A B F N (la.getD b (0, 0, 0)) jb) := pln (by rw [HLa.out]; exact hmb) htb hKb.1 hKb.2
          clear hac haa hma hmb hma2 hmb2 hta htb hKa hKb HEa1 HEb1
          by_cases hne : ja = jb
          · have hne' : ((ja : Int) == jb) = true := beq_iff_eq.2 (by omega)
            clear hne
            go_wp2
            go_quiet (fail)
            go_wp2
            go_ret
            exact ⟨rfl, below_drewn HBrw.out _⟩
          · have hne' : ((ja : Int) == jb) = false := beq_eq_false_iff_ne.2 (by omega)
            have HNe : Hid (ja ≠ jb) := hne
            clear hne
            go_wp2
            go_quiet (fail)
            have HB8 : Hid (Below W.heap.size W (wr.drewN nq)) := below_drewn HBrW.out _
            have C8 : Hid (Calls Try.prog 12 #[.agg #[.slice na N nc, .slice fa F fc], .slice ma F mc, .int .i64 (a : Nat)] (wr.drewN nq) fun e w' => Below (wr.drewN nq).heap.size (wr.drewN nq) w' ∧ FrIs (wr.drewN nq).heap.size K A B F m (la.getD a (0, 0, 0)) e w') := HFire.out _ ma mc m a HB8.out ((HR6.out.below HBr6.out).below (below_drewn (Below.refl _ _) nq)) H9.out HEa.out.1
            clear hq0 hq1
            go_wp2_with fail
            refine C8.out.mono ?_
            rintro e w9 ⟨hb9, hf9⟩
            have HB9 : Hid (Below W.heap.size W w9) := HB8.out.trans (hb9.mono HB8.out.size)
            have HR9 : Hid (Row w9 ma F m) := ((HR6.out.below HBr6.out).below (below_drewn (Below.refl _ _) nq)).below hb9
            have C9 : Hid (Calls Try.prog 12 #[.agg #[.slice na N nc, .slice fa F fc], .slice ma F mc, .int .i64 (b : Nat)] w9 fun e w' => Below w9.heap.size w9 w' ∧ FrIs w9.heap.size K A B F m (la.getD b (0, 0, 0)) e w') := HFire.out _ ma mc m b HB9.out HR9.out H9.out HEb.out.1
            clear hc0 hc1 hb9 C8
            obtain ⟨hc0, hc1⟩ := HBx.out w9 HB9.out
            rcases fr_cases hf9 HEa.out.2 with ⟨_, rfl⟩ | ⟨ha9, g9, c9, rfl, hm9⟩
            · clear hf9
              go_wp2_with fail
              refine C9.out.mono ?_
              rintro e w10 ⟨hb10, hf10⟩
              have HB10 : Hid (Below w.heap.size w w10) := HW.out.1.trans ((HB9.out.trans (hb10.mono HB9.out.size)).mono HW.out.1.size)
              rcases fr_cases hf10 HEb.out.2 with ⟨_, rfl⟩ | ⟨_, g10, c10, rfl, _⟩
              all_goals
                clear hb10 hf10 C9
                go_wp2
                go_ret
                exact ⟨rfl, HB10.out⟩
            · have HM9 : Hid (Mk w9 g9 F (frs K A B (la.getD a (0, 0, 0)) m)) := hm9
              have HL9 : Hid (∀ j, j < F → 0 ≤ frs K A B (la.getD a (0, 0, 0)) m j ∧ frs K A B (la.getD a (0, 0, 0)) m j ≤ 9) := fun j hj => ⟨frs_bound HEa.out.2 H9.out j hj, ha9 j hj⟩
              clear hf9 ha9 hm9
              go_wp2_with fail
              refine C9.out.mono ?_
              rintro e w10 ⟨hb10, hf10⟩
              have HB10 : Hid (Below W.heap.size W w10) := HB9.out.trans (hb10.mono HB9.out.size)
              have HBw10 : Hid (Below w.heap.size w w10) := HW.out.1.trans (HB10.out.mono HW.out.1.size)
              have HM10 : Hid (Row w10 (some ⟨g9, 0, none⟩) F (frs K A B (la.getD a (0, 0, 0)) m)) := HM9.out.row.below hb10
              rcases fr_cases hf10 HEb.out.2 with ⟨_, rfl⟩ | ⟨hb10', g10, c10, rfl, hm10⟩
              · clear hb10 hf10 C9
                go_wp2
                go_ret
                exact ⟨rfl, HBw10.out⟩
              · have HN10 : Hid (Mk w10 g10 F (frs K A B (la.getD b (0, 0, 0)) m)) := hm10
                have HL10 : Hid (∀ j, j < F → 0 ≤ frs K A B (la.getD b (0, 0, 0)) m j ∧ frs K A B (la.getD b (0, 0, 0)) m j ≤ 9) := fun j hj => ⟨frs_bound HEb.out.2 H9.out j hj, hb10' j hj⟩
                have C10 : Hid (Calls Try.prog 12 #[.agg #[.slice na N nc, .slice fa F fc], .slice (some ⟨g9, 0, none⟩) F c9, .int .i64 (b : Nat)] w10 fun e w' => Below w10.heap.size w10 w' ∧ FrIs w10.heap.size K A B F (frs K A B (la.getD a (0, 0, 0)) m) (la.getD b (0, 0, 0)) e w') := HFire.out _ _ c9 _ b HB10.out HM10.out HL9.out HEb.out.1
                clear hb10 hf10 C9 hb10' hm10 hc0 hc1
                obtain ⟨hc0, hc1⟩ := HBx.out w10 HB10.out
                go_wp2_with fail
                refine C10.out.mono ?_
                rintro e w11 ⟨hb11, hf11⟩
                have HB11 : Hid (Below W.heap.size W w11) := HB10.out.trans (hb11.mono HB10.out.size)
                have HN11 : Hid (Row w11 (some ⟨g10, 0, none⟩) F (frs K A B (la.getD b (0, 0, 0)) m)) := HN10.out.row.below hb11
                have C11 : Hid (Calls Try.prog 12 #[.agg #[.slice na N nc, .slice fa F fc], .slice (some ⟨g10, 0, none⟩) F c10, .int .i64 (a : Nat)] w11 fun e w' => Below w11.heap.size w11 w' ∧ FrIs w11.heap.size K A B F (frs K A B (la.getD b (0, 0, 0)) m) (la.getD a (0, 0, 0)) e w') := HFire.out _ _ c10 _ a HB11.out HN11.out HL10.out HEa.out.1
                have HSw : Hid (∀ j, j < F → frs K A B (la.getD b (0, 0, 0)) (frs K A B (la.getD a (0, 0, 0)) m) j = frs K A B (la.getD a (0, 0, 0)) (frs K A B (la.getD b (0, 0, 0)) m) j) := fun j hj => swaps HPa.out HPb.out HNe.out HEa.out.2 HEb.out.2 hj
                clear hc0 hc1 C10
                obtain ⟨hc0, hc1⟩ := HBx.out w11 HB11.out
                rcases fr_cases hf11 (HPa.out.stay HPb.out HNe.out HEa.out.2 HEb.out.2) with ⟨h7, rfl⟩ | ⟨h7, g11, c11, rfl, hm11⟩
                · have H7 : Hid (∃ j, j < F ∧ 9 < frs K A B (la.getD b (0, 0, 0)) (frs K A B (la.getD a (0, 0, 0)) m) j) := h7
                  clear hf11 hb11 h7
                  go_wp2_with fail
                  refine C11.out.mono ?_
                  rintro e w12 ⟨hb12, hf12⟩
                  have HBw12 : Hid (Below w.heap.size w w12) := HW.out.1.trans ((HB11.out.trans (hb12.mono HB11.out.size)).mono HW.out.1.size)
                  rcases fr_cases hf12 (HPb.out.stay HPa.out (Ne.symm HNe.out) HEb.out.2 HEa.out.2) with ⟨_, rfl⟩ | ⟨h8, _⟩
                  · clear hf12 hb12 C11
                    go_wp2
                    go_ret
                    exact ⟨rfl, HBw12.out⟩
                  · obtain ⟨j, hj, h9⟩ := H7.out
                    have := h8 j hj
                    rw [HSw.out j hj] at h9
                    omega
                · have H7 : Hid (∀ j, j < F → frs K A B (la.getD b (0, 0, 0)) (frs K A B (la.getD a (0, 0, 0)) m) j ≤ 9) := h7
                  have HM11 : Hid (Mk w11 g11 F (frs K A B (la.getD b (0, 0, 0)) (frs K A B (la.getD a (0, 0, 0)) m))) := hm11
                  clear hf11 hb11 h7 hm11
                  go_wp2_with fail
                  refine C11.out.mono ?_
                  rintro e w12 ⟨hb12, hf12⟩
                  have HBw12 : Hid (Below w.heap.size w w12) := HW.out.1.trans ((HB11.out.trans (hb12.mono HB11.out.size)).mono HW.out.1.size)
                  have HM12 : Hid (Row w12 (some ⟨g11, 0, none⟩) F (frs K A B (la.getD b (0, 0, 0)) (frs K A B (la.getD a (0, 0, 0)) m))) := HM11.out.row.below hb12
                  rcases fr_cases hf12 (HPb.out.stay HPa.out (Ne.symm HNe.out) HEb.out.2 HEa.out.2) with ⟨⟨j, hj, h8⟩, _⟩ | ⟨_, g12, c12, rfl, hm12⟩
                  · have := H7.out j hj
                    rw [HSw.out j hj] at this
                    omega
                  · have C12 : Hid (Calls Try.prog 13 #[.slice (some ⟨g11, 0, none⟩) F c11, .slice (some ⟨g12, 0, none⟩) F c12] w12 fun e w' => e = .returned (.bool true) ∧ ∃ q, w' = w12.drewN q) := by
                      have := equal_any (some ⟨g11, 0, none⟩) (some ⟨g12, 0, none⟩) F c11 F c12 _ _ w12 (by omega) HM12.out hm12.row
                      rwa [same_yes rfl HSw.out] at this
                    clear hf12 hb12 hm12 C11
                    go_wp2_with fail
                    refine C12.out.mono ?_
                    rintro e w13 ⟨rfl, q13, hw13⟩
                    have HBw13 : Hid (Below w.heap.size w w13) := by subst hw13; exact below_drewn HBw12.out _
                    clear hw13 C12
                    go_wp2
                    go_ret
                    exact ⟨rfl, HBw13.out⟩

end Go.Proofs.Ytpgodjinbabniaa
