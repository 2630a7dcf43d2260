/- The law WorldTurns. -/
import Derived.Test.YtgahdclbaifcbaaTns
import Derived.Test.YtgahdclbaifcbaaWdp
import Derived.Test.YtgahdclbaifcbaaUnr
import Derived.Test.YtgahdclbaifcbaaLaSam
namespace Go.Proofs.Ytgahdclbaifcbaa
open Go.RowKit

theorem row_but37 {y yf : World} {b n : Nat} {a : Option Addr} {Z : Nat → Int} {x0 x1 : Option Addr} {n0 c0 n1 c1 : Nat} (h : Row y a n Z) (hr : y.heap[b]? = some (.cells #[.slice x0 n0 c0, .slice x1 n1 c1] 37)) (hb : But b y yf) : Row yf a n Z := by
  obtain ⟨g, o, h1, h2⟩ := h
  refine ⟨g, o, h1, fun i hi => hb.cell (fun e => ?_) (h2 i hi)⟩
  have h3 := h2 i hi
  have e' : g = b := e
  rw [e'] at h3
  unfold World.cell? at h3
  simp only [hr] at h3
  rcases hj : o + i with _ | _ | j
  · simp [hj] at h3
  · simp [hj] at h3
  · simp [hj] at h3
theorem keep37 {y y' : World} {al β n : Nat} {c : Array Value} {v : Value} {l : List Value} (hr : y.heap[al]? = some (.cells c 37)) (ho : y.ownsRow β 3 1 v n l) (hg : y.grownBy y' v.ownBlock) : y'.heap[al]? = some (.cells c 37) :=
  (hg.block al (Array.getElem?_eq_some_iff.1 hr).1 (fun e => by
    obtain ⟨c2, z, h⟩ := owns_blk ho e.symm
    rw [hr] at h
    cases h)).trans hr
theorem stm_at {s m n : Nat} {P Q : Nat → Int} (_hn : n ≤ m) {i : Nat} (hi : i < s + n) : (lstI s P ++ lstI n Q)[i]? = some (stmP s P Q i) := cat_at s n P Q i hi
theorem rot_at {m n : Nat} {Q : Nat → Int} (hn : n ≤ m) {i : Nat} (hi : i < m) : (lstI (m - n) (fun i => Q (n + i)) ++ lstI n Q)[i]? = some (rotQ m n Q i) := cat_at (m - n) n (fun i => Q (n + i)) Q i (by omega)
theorem sl22_rest (b o m qc n : Nat) (hn : n ≤ m) (hq : m ≤ qc) (hq0 : 0 < qc) : ∃ ad : Addr, (∀ u : World, (Instr.slice 22 (.slice (some ⟨b, o, none⟩) m qc) (some (.int .i64 n)) none none).run Try.prog u = .ok (.slice (some ad) (m - n) (qc - n)) u) ∧ (ad = ⟨b, o + n, none⟩ ∨ m - n = 0) := by
  by_cases h : n < qc
  · exact ⟨⟨b, o + n, none⟩, fun u => sl22_from b o m qc n hn h u, Or.inl rfl⟩
  · obtain rfl : n = qc := by omega
    refine ⟨⟨b, o, none⟩, fun u => ?_, Or.inr (by omega)⟩
    rw [run_slice_l (P := Try.prog) (w := u) 22 (some ⟨b, o, none⟩) m n Try.elem22 .i64 n (by omega) (by omega), size22]
    simp [Result.andThen, sliced]
theorem lea_same {f g : Nat → Int} {st lp st' lp' : Nat} (h : Lea f st lp) (k : Lea g st' lp') (he : ∀ i, f i = g i) : (sameU st st' f g && sameU lp lp' (fun i => f (st + i)) (fun i => g (st' + i))) = true := by
  obtain rfl : f = g := funext he
  obtain ⟨rfl, rfl⟩ := h.uniq k
  rw [Bool.and_eq_true]
  exact ⟨sameU_yes rfl (fun _ _ => rfl), sameU_yes rfl (fun _ _ => rfl)⟩
theorem ltr_map {s m : Nat} (g : Int → Int) (P Q : Nat → Int) (i : Nat) : ltr s m (fun i => g (P i)) (fun i => g (Q i)) i = g (ltr s m P Q i) := by
  unfold ltr
  split <;> rfl
theorem gdE_ok {A : Wx} {s m : Nat} (h : gdE A s m = 0) : chkW A = 0 ∧ ∀ t, t + m ≤ 60000 → gdE A t m = 0 := by
  unfold gdE at h ⊢
  by_cases h0 : chkW A = 0
  · refine ⟨h0, fun t ht => ?_⟩
    rw [if_neg (by rw [h0]; simp), if_neg (by omega)]
  · rw [if_pos h0] at h
    exact absurd h h0
theorem wdE_ok {A : Wx} {s m : Nat} {P Q : Nat → Int} (h : wdE A s m P Q = 0) : s + m ≤ 60 ∧ 0 < m ∧ chkW A = 0 ∧ allIn s P A.G = true ∧ allIn m Q A.G = true := by
  unfold wdE at h
  by_cases h0 : chkW A = 0
  · rw [if_neg (by rw [h0]; simp)] at h
    split at h
    · cases h
    · rename_i hg
      rw [Bool.not_eq_false] at hg
      simp only [Bool.and_eq_true, decide_eq_true_eq] at hg
      refine ⟨?_, hg.1.1, h0, hg.1.2, hg.2⟩
      unfold wchk at h
      split at h
      · cases h
      · omega
  · rw [if_pos h0] at h
    exact absurd h h0
theorem row2 (w : World) : Row (w.alloc (.cells #[.int .i64 0, .int .i64 1] 3)) (some ⟨w.heap.size, 0, none⟩) 2 (fun i => (i : Int)) :=
  ⟨w.heap.size, 0, fun _ => rfl, fun i hi => by
    rcases lt2 hi with rfl | rfl
    · exact cell_of_alloc rfl
    · exact cell_of_alloc rfl⟩

set_option maxRecDepth 100000 in
set_option maxHeartbeats 16000000 in
theorem worldTurns_walk (A : Wx) (pa : Option Addr) (s pc : Nat) (qa : Option Addr) (m qc : Nat) (P Q : Nat → Int) (k : Int) (hk1 : -9223372036854775808 ≤ k) (hk2 : k ≤ 9223372036854775807) (w : World) (h : Ww w A) (hp : Pw w pa s pc qa m qc P Q) :
    Calls Try.prog 6 #[.agg #[.slice A.sa A.sn A.sc, .slice A.na A.G A.nc, .slice A.la A.M A.lc, .slice A.fa A.K A.fc], .agg #[.slice pa s pc, .slice qa m qc], .int .i64 k] w fun e w' => e = .returned (.bool true) ∧ Below w.heap.size w w' := by
  obtain ⟨W1, hW1, hb1, hs1, hbw⟩ := boxw w A
  obtain ⟨W2, hW2, hb2, hs2, y0, y1⟩ := box2 W1 (.slice pa s pc) (.slice qa m qc) 37
  have h2 : Below w.heap.size w W2 := hb1.trans (hb2.mono hb1.size)
  have HB2 := hid h2
  have HBW := hid (hbw.below hb2)
  have HH := hid (And.intro h hp)
  obtain ⟨p1, hp1⟩ : ∃ p1, W1.heap.size = p1 := ⟨_, rfl⟩
  rw [hp1] at y0 y1
  have HY := hid (And.intro y0 y1)
  have CT := hid (turns_any W2)
  have C13 := hid (fun (z : World) (hz : Below w.heap.size w z) => good_any A pa s pc qa m qc P Q z (h.below hz) (hp.below hz))
  have hs8 := hp.s8
  have hm8 := hp.m8
  clear h hp hb1 hs1 hb2 hs2 hbw h2 y0 y1
  go_enter Try.func6, Try.ntmps6
  go_wp2_with fail
  (try rw [hp1])
  refine CT.out.mono ?_
  rintro e w3 ⟨⟨z, rfl, hz⟩, hb3⟩
  have HB3 := hid (HB2.out.trans (hb3.mono HB2.out.size))
  have HBW3 := hid (HBW.out.below hb3)
  have HY3 := hid (And.intro (below_cell hb3 (Nat.le_refl _) HY.out.1) (below_cell hb3 (Nat.le_refl _) HY.out.2))
  obtain ⟨W4, hW4, hb4⟩ : ∃ W4, w3.alloc (.cells #[.int .i64 0, .int .i64 1] 3) = W4 ∧ Below w3.heap.size w3 W4 := ⟨_, rfl, box_below _ _⟩
  have hr2 := row2 w3
  rw [hW4] at hr2
  have G1 : Hid (Calls Try.prog 13 #[(tnA z).val, .agg #[.slice none 0 0, .slice (some ⟨w3.heap.size, 0, none⟩) 2 2]] W4 fun e w' => e = .returned (.tuple #[.bool true, .int .i64 0]) ∧ Below W4.heap.size W4 w') := hid (by
    refine (good_any (tnA z) none 0 0 (some ⟨w3.heap.size, 0, none⟩) 2 2 (fun _ => 0) (fun i => (i : Int)) W4 (hz.below hb4) ⟨⟨0, 0, fun h => absurd h (Nat.not_lt_zero _), fun _ h => absurd h (Nat.not_lt_zero _)⟩, hr2, fun _ => ⟨rfl, rfl⟩, fun e => by (cases e), Nat.le_refl _, Nat.le_refl _, by omega, by omega⟩).mono ?_
    rintro e w' ⟨b, er, rfl, HX⟩
    have he : er = 0 := by rw [HX.out.1]; unfold gdE; rw [tn_chk]; simp
    rw [HX.out.2.2.1 he, tn_good, he]
    exact ⟨rfl, HX.out.2.2.2⟩)
  have HB4 := hid (HB3.out.trans (hb4.mono HB3.out.size))
  have HBW4 := hid (HBW3.out.below hb4)
  have HY4 := hid (And.intro (below_cell hb4 (Nat.le_refl _) HY3.out.1) (below_cell hb4 (Nat.le_refl _) HY3.out.2))
  clear hb3 hb4 hz hr2 CT
  go_wp2_with fail
  refine G1.out.mono ?_
  rintro e w5 ⟨rfl, hb5⟩
  have HB5 := hid (HB4.out.trans (hb5.mono HB4.out.size))
  have HBW5 := hid (HBW4.out.below hb5)
  have HY5 := hid (And.intro (below_cell hb5 (Nat.le_refl _) HY4.out.1) (below_cell hb5 (Nat.le_refl _) HY4.out.2))
  have D13 := hid (C13.out w5 HB5.out)
  clear hb5 G1 C13
  obtain ⟨q0, q1, q2, q3⟩ := HBW5.out
  obtain ⟨y0, y1⟩ := HY5.out
  go_wp2_with fail
  refine D13.out.mono ?_
  rintro e u ⟨bg, eg, rfl, HG⟩
  have hb6 := HG.out.2.2.2
  have HB6 := hid (HB5.out.trans (hb6.mono HB5.out.size))
  have HBW6 := hid (HBW5.out.below hb6)
  have HY6 := hid (And.intro (below_cell hb6 (Nat.le_refl _) y0) (below_cell hb6 (Nat.le_refl _) y1))
  clear q0 q1 q2 q3 y0 y1 hb6 D13
  obtain ⟨q0, q1, q2, q3⟩ := HBW6.out
  obtain ⟨y0, y1⟩ := HY6.out
  by_cases he : eg = 0
  · subst he
    by_cases hm0 : m = 0
    · have g1 : (((m : Nat) : Int) == 0) = true := by rw [hm0]; rfl
      clear hm0
      go_wp2
      go_ret
      exact ⟨rfl, HB6.out⟩
    have g1 : (((m : Nat) : Int) == 0) = false := beq_eq_false_iff_ne.2 (by omega)
    by_cases hsm : 60 < s + m
    · have g2 : (60 : Int) < (s : Nat) + (m : Nat) := by omega
      clear hsm hm0
      go_wp2
      go_ret
      exact ⟨rfl, HB6.out⟩
    have g2 : ¬ (60 : Int) < (s : Nat) + (m : Nat) := by omega
    have hm : 0 < m := by omega
    obtain ⟨qb, qo, hqa, hqc⟩ := HH.out.2.loop
    have hqe := hqa hm
    subst hqe
    have hql := HH.out.2.ql
    have CR := hid (rest_any k (m + 1) u (by omega) (by omega) hk1 hk2)
    have ecast : ((m + 1 : Nat) : Int) = (m : Nat) + 1 := by omega
    rw [ecast] at CR
    obtain ⟨n, hn⟩ : ∃ n : Nat, k % ((m : Int) + 1) = n := ⟨(k % ((m : Int) + 1)).toNat, by have := Int.emod_nonneg k (show ((m : Int) + 1) ≠ 0 by omega); omega⟩
    have hnm : n ≤ m := by have := Int.emod_lt_of_pos k (show 0 < ((m : Int) + 1) by omega); omega
    rw [hn] at CR
    clear hqa ecast hn
    go_wp2_with fail
    refine CR.out.mono ?_
    rintro e w' ⟨rfl, hq⟩
    obtain rfl := hq.symm
    obtain ⟨ad, hsr, had⟩ := sl22_rest qb qo m qc n hnm hql (by omega)
    have hst := sl22 (some ⟨qb, qo, none⟩) m qc n (by omega)
    obtain ⟨i0, hi, hz0, hz1, hz2⟩ := info_parts Try.info3i
    have HI : Hid (Try.prog.info? 3 = some i0 ∧ i0.zero = some (.int .i64 0) ∧ i0.size = 1 ∧ i0.bytes = 8) := ⟨hi, hz0, hz1, hz2⟩
    have hmn : m - n + n = m := by omega
    have HQC : Hid (∀ y, Below u.heap.size u y → ∀ i, i < m → y.cell? ⟨qb, qo + i, none⟩ = some (.int .i64 (Q i))) := hid (fun y hy i hi => below_cell hy (Nat.le_refl _) (below_cell HB6.out (Nat.le_refl _) (hqc i hi)))
    have HQN : Hid (∀ y, Below u.heap.size u y → Row y (some ⟨qb, qo, none⟩) n Q) := hid (fun y hy => ⟨qb, qo, fun _ => rfl, fun i hi => HQC.out y hy i (by omega)⟩)
    have D1 := hid (fun (y : World) (hy : Below u.heap.size u y) => cloneI_any pa s pc P y (by omega) (((HH.out.2.below HB6.out).below hy).stem) HH.out.2.pn)
    have D2 := hid (fun (y : World) (hy : Below u.heap.size u y) => cloneI_any (some ad) (m - n) (qc - n) (fun i => Q (n + i)) y (by omega) (by
      rcases had with rfl | h0
      · exact ⟨qb, qo + n, fun _ => rfl, fun i hi => by rw [Nat.add_assoc]; exact HQC.out y hy (n + i) (by omega)⟩
      · exact ⟨0, 0, fun hh => by omega, fun i hi => by omega⟩) (fun e => by cases e))
    have HS : Hid (∀ z, Below u.heap.size u z → (fun y : World => y.cell? ⟨p1, 0, none⟩ = some (.slice pa s pc) ∧ y.cell? ⟨p1, 1, none⟩ = some (.slice (some ⟨qb, qo, none⟩) m qc)) z) := hid (fun z hz => ⟨below_cell hz (Nat.le_refl _) y0, below_cell hz (Nat.le_refl _) y1⟩)
    clear hi hz0 hz1 hz2 q0 q1 q2 q3 y0 y1 hqc had CR
    go_wp2_with fail
    go_cut [12] from 68 to 87 (fun v12 wc => ∃ x12 a2 c2 a4 c4, v12 = .pointer (some ⟨x12, 0, none⟩) ∧ Hid (Below u.heap.size u wc ∧ wc.heap[x12]? = some (.cells #[.slice a2 (s + n) c2, .slice a4 m c4] 37) ∧ Row wc a2 (s + n) (stmP s P Q) ∧ Row wc a4 m (rotQ m n Q) ∧ (a2 = none → s + n = 0 ∧ c2 = 0) ∧ (a4 = none → m = 0 ∧ c4 = 0) ∧ s + n ≤ c2 ∧ m ≤ c4))
    case first =>
      have hB0 : Below u.heap.size u u.drew := below_drewN (Below.refl _ _) 1
      refine G_region (fun y : World => y.cell? ⟨p1, 0, none⟩ = some (.slice pa s pc) ∧ y.cell? ⟨p1, 1, none⟩ = some (.slice (some ⟨qb, qo, none⟩) m qc)) (fun _ => false) (by kernel_rfl) (HS.out _ hB0) (fun _ => ?_)
      refine G_take (i := 0) (oi := { dst := some 68, op := Op.fieldAddr 37 (Operand.tmp 4) 0, type := 0, pos := _, after := #[], guard := none }) (v := .pointer (some ⟨p1, 0, none⟩)) rfl (by kernel_rfl) (by kernel_rfl) (by kernel_rfl) (by kernel_rfl) (fun _ _ _ h => h) (by rfl) (fun u hu => ?_) (HS.out _ hB0) ?_
      · (try dsimp only at hu); go_simp
      (try simp only [Act.put, List.setIfInBounds_toArray, List.set_cons_zero, List.set_cons_succ])
      refine G_take (i := 1) (oi := { dst := some 69, op := Op.load 22 (Operand.tmp 68), type := 22, pos := _, after := #[{ on := 0, ground := Ground.data }], guard := none }) (v := .slice pa s pc) rfl (by kernel_rfl) (by kernel_rfl) (by kernel_rfl) (by kernel_rfl) (fun _ _ _ h => h) (by rfl) (fun u hu => ?_) (HS.out _ hB0) ?_
      · (try dsimp only at hu); go_simp
      (try simp only [Act.put, List.setIfInBounds_toArray, List.set_cons_zero, List.set_cons_succ])
      refine G_take (i := 3) (oi := { dst := some 71, op := Op.fieldAddr 37 (Operand.tmp 4) 1, type := 0, pos := _, after := #[], guard := none }) (v := .pointer (some ⟨p1, 1, none⟩)) rfl (by kernel_rfl) (by kernel_rfl) (by kernel_rfl) (by kernel_rfl) (fun _ _ _ h => h) (by rfl) (fun u hu => ?_) (HS.out _ hB0) ?_
      · (try dsimp only at hu); go_simp
      (try simp only [Act.put, List.setIfInBounds_toArray, List.set_cons_zero, List.set_cons_succ])
      refine G_take (i := 4) (oi := { dst := some 72, op := Op.load 22 (Operand.tmp 71), type := 22, pos := _, after := #[{ on := 3, ground := Ground.data }], guard := none }) (v := .slice (some ⟨qb, qo, none⟩) m qc) rfl (by kernel_rfl) (by kernel_rfl) (by kernel_rfl) (by kernel_rfl) (fun _ _ _ h => h) (by rfl) (fun u hu => ?_) (HS.out _ hB0) ?_
      · (try dsimp only at hu); go_simp
      (try simp only [Act.put, List.setIfInBounds_toArray, List.set_cons_zero, List.set_cons_succ])
      refine G_take (i := 5) (oi := { dst := some 73, op := Op.move (Operand.tmp 11), type := 3, pos := _, after := #[], guard := none }) (v := .int .i64 (n : Nat)) rfl (by kernel_rfl) (by kernel_rfl) (by kernel_rfl) (by kernel_rfl) (fun _ _ _ h => h) (by rfl) (fun u hu => ?_) (HS.out _ hB0) ?_
      · (try dsimp only at hu); go_simp
      (try simp only [Act.put, List.setIfInBounds_toArray, List.set_cons_zero, List.set_cons_succ])
      refine G_take (i := 6) (oi := { dst := some 74, op := Op.slice 22 (Operand.tmp 72) none (some (Operand.tmp 73)) none, type := 22, pos := _, after := #[{ on := 4, ground := Ground.data }, { on := 5, ground := Ground.data }], guard := none }) (v := .slice (some ⟨qb, qo, none⟩) n qc) rfl (by kernel_rfl) (by kernel_rfl) (by kernel_rfl) (by kernel_rfl) (fun _ _ _ h => h) (by rfl) (fun u hu => ?_) (HS.out _ hB0) ?_
      · (try dsimp only at hu); (go_simp; try (intros; exfalso; omega))
      (try simp only [Act.put, List.setIfInBounds_toArray, List.set_cons_zero, List.set_cons_succ])
      refine G_take (i := 8) (oi := { dst := some 76, op := Op.fieldAddr 37 (Operand.tmp 4) 1, type := 0, pos := _, after := #[], guard := none }) (v := .pointer (some ⟨p1, 1, none⟩)) rfl (by kernel_rfl) (by kernel_rfl) (by kernel_rfl) (by kernel_rfl) (fun _ _ _ h => h) (by rfl) (fun u hu => ?_) (HS.out _ hB0) ?_
      · (try dsimp only at hu); go_simp
      (try simp only [Act.put, List.setIfInBounds_toArray, List.set_cons_zero, List.set_cons_succ])
      refine G_take (i := 9) (oi := { dst := some 77, op := Op.load 22 (Operand.tmp 76), type := 22, pos := _, after := #[{ on := 8, ground := Ground.data }], guard := none }) (v := .slice (some ⟨qb, qo, none⟩) m qc) rfl (by kernel_rfl) (by kernel_rfl) (by kernel_rfl) (by kernel_rfl) (fun _ _ _ h => h) (by rfl) (fun u hu => ?_) (HS.out _ hB0) ?_
      · (try dsimp only at hu); go_simp
      (try simp only [Act.put, List.setIfInBounds_toArray, List.set_cons_zero, List.set_cons_succ])
      refine G_take (i := 10) (oi := { dst := some 78, op := Op.move (Operand.tmp 11), type := 3, pos := _, after := #[], guard := none }) (v := .int .i64 (n : Nat)) rfl (by kernel_rfl) (by kernel_rfl) (by kernel_rfl) (by kernel_rfl) (fun _ _ _ h => h) (by rfl) (fun u hu => ?_) (HS.out _ hB0) ?_
      · (try dsimp only at hu); go_simp
      (try simp only [Act.put, List.setIfInBounds_toArray, List.set_cons_zero, List.set_cons_succ])
      refine G_take (i := 11) (oi := { dst := some 79, op := Op.slice 22 (Operand.tmp 77) (some (Operand.tmp 78)) none none, type := 22, pos := _, after := #[{ on := 9, ground := Ground.data }, { on := 10, ground := Ground.data }], guard := none }) (v := .slice (some ad) (m - n) (qc - n)) rfl (by kernel_rfl) (by kernel_rfl) (by kernel_rfl) (by kernel_rfl) (fun _ _ _ h => h) (by rfl) (fun u hu => ?_) (HS.out _ hB0) ?_
      · (try dsimp only at hu); (go_simp; skip)
      (try simp only [Act.put, List.setIfInBounds_toArray, List.set_cons_zero, List.set_cons_succ])
      refine G_take (i := 13) (oi := { dst := some 81, op := Op.fieldAddr 37 (Operand.tmp 4) 1, type := 0, pos := _, after := #[], guard := none }) (v := .pointer (some ⟨p1, 1, none⟩)) rfl (by kernel_rfl) (by kernel_rfl) (by kernel_rfl) (by kernel_rfl) (fun _ _ _ h => h) (by rfl) (fun u hu => ?_) (HS.out _ hB0) ?_
      · (try dsimp only at hu); go_simp
      (try simp only [Act.put, List.setIfInBounds_toArray, List.set_cons_zero, List.set_cons_succ])
      refine G_take (i := 14) (oi := { dst := some 82, op := Op.load 22 (Operand.tmp 81), type := 22, pos := _, after := #[{ on := 13, ground := Ground.data }], guard := none }) (v := .slice (some ⟨qb, qo, none⟩) m qc) rfl (by kernel_rfl) (by kernel_rfl) (by kernel_rfl) (by kernel_rfl) (fun _ _ _ h => h) (by rfl) (fun u hu => ?_) (HS.out _ hB0) ?_
      · (try dsimp only at hu); go_simp
      (try simp only [Act.put, List.setIfInBounds_toArray, List.set_cons_zero, List.set_cons_succ])
      refine G_take (i := 15) (oi := { dst := some 83, op := Op.move (Operand.tmp 11), type := 3, pos := _, after := #[], guard := none }) (v := .int .i64 (n : Nat)) rfl (by kernel_rfl) (by kernel_rfl) (by kernel_rfl) (by kernel_rfl) (fun _ _ _ h => h) (by rfl) (fun u hu => ?_) (HS.out _ hB0) ?_
      · (try dsimp only at hu); go_simp
      (try simp only [Act.put, List.setIfInBounds_toArray, List.set_cons_zero, List.set_cons_succ])
      refine G_take (i := 16) (oi := { dst := some 84, op := Op.slice 22 (Operand.tmp 82) none (some (Operand.tmp 83)) none, type := 22, pos := _, after := #[{ on := 14, ground := Ground.data }, { on := 15, ground := Ground.data }], guard := none }) (v := .slice (some ⟨qb, qo, none⟩) n qc) rfl (by kernel_rfl) (by kernel_rfl) (by kernel_rfl) (by kernel_rfl) (fun _ _ _ h => h) (by rfl) (fun u hu => ?_) (HS.out _ hB0) ?_
      · (try dsimp only at hu); (go_simp; try (intros; exfalso; omega))
      (try simp only [Act.put, List.setIfInBounds_toArray, List.set_cons_zero, List.set_cons_succ])
      obtain ⟨y0, hy0⟩ : ∃ q, q = u.drew := ⟨_, rfl⟩
      rw [← hy0] at hB0 ⊢
      have hz0 : u.heap.size ≤ y0.heap.size := hB0.size
      clear hy0
      refine G_alt (l := [2, 19]) (by kernel_rfl) (by decide) ?_
      intro i hi
      have hi2 : i = 2 ∨ i = 19 := by simpa using hi
      clear hi
      rcases hi2 with rfl | rfl
      · refine ⟨{ dst := some 70, op := Op.call { callee := Callee.value (Operand.func 25), args := #[Operand.tmp 69], argTypes := #[22] }, type := 22, pos := _, after := #[{ on := 1, ground := Ground.data }], guard := none }, rfl, fun K' hK => ?_⟩
        go_simp
        refine (D1.out y0 hB0).mono ?_
        rintro e y1 ⟨v1, rfl, ho1, hb1⟩
        dsimp only
        have hB1 := hB0.trans (hb1.mono hB0.size)
        have hz1 := hb1.size
        have hk0 := hb1
        refine hK.out _ _ (fun _ => HS.out _ hB1) (fun _ => ?_)
        clear hK K'
        (try simp only [Act.put, List.setIfInBounds_toArray, List.set_cons_zero, List.set_cons_succ])
        refine G_alt (l := [7, 19]) (by kernel_rfl) (by decide) ?_
        intro i hi
        have hi2 : i = 7 ∨ i = 19 := by simpa using hi
        clear hi
        rcases hi2 with rfl | rfl
        · refine ⟨{ dst := some 75, op := Op.call { callee := Callee.builtin Builtin.append, args := #[Operand.tmp 70, Operand.tmp 74], argTypes := #[22, 22] }, type := 22, pos := _, after := #[{ on := 2, ground := Ground.data }, { on := 6, ground := Ground.data }, { on := 2, ground := Ground.chain }], guard := none }, rfl, fun K' hK => ?_⟩
          refine step_append_listI _ rfl _ _ 22 rfl y0.heap.size i0 Try.underlying22 HI.out.1 HI.out.2.1 HI.out.2.2.1 HI.out.2.2.2 v1 s (lstI s P) rfl ho1 (some ⟨qb, qo, none⟩) n qc Q rfl (HQN.out y1 hB1) (fun e => by cases e) (by omega) hk0.size ?_
          intro vv y2 hown hgr
          have hk1 := grown_below hk0 ho1 hgr
          obtain ⟨_, a2, c2, rfl, hn2, _, hc2, hz2⟩ := rowI_of_owns hown
          have hR2 : Row y2 a2 (s + n) (stmP s P Q) := hz2 _ (fun i hi => stm_at hnm hi)
          have hB2 := hB0.trans (hk1.mono hB0.size)
          have hz2 := hB2.size
          clear hown hgr
          refine hK.out _ _ (fun _ => HS.out _ hB2) (fun _ => ?_)
          clear hK K'
          (try simp only [Act.put, List.setIfInBounds_toArray, List.set_cons_zero, List.set_cons_succ])
          refine G_alt (l := [12, 19]) (by kernel_rfl) (by decide) ?_
          intro i hi
          have hi2 : i = 12 ∨ i = 19 := by simpa using hi
          clear hi
          rcases hi2 with rfl | rfl
          · refine ⟨{ dst := some 80, op := Op.call { callee := Callee.value (Operand.func 25), args := #[Operand.tmp 79], argTypes := #[22] }, type := 22, pos := _, after := #[{ on := 11, ground := Ground.data }, { on := 7, ground := Ground.chain }], guard := none }, rfl, fun K' hK => ?_⟩
            go_simp
            refine (D2.out y2 hB2).mono ?_
            rintro e y3 ⟨v3, rfl, ho3, hb3⟩
            dsimp only
            have hB3 := hB2.trans (hb3.mono hB2.size)
            have hz3 := hb3.size
            have hk2 := hb3
            have hQ2 := hR2
            replace hR2 := hR2.below hb3
            refine hK.out _ _ (fun _ => HS.out _ hB3) (fun _ => ?_)
            clear hK K'
            (try simp only [Act.put, List.setIfInBounds_toArray, List.set_cons_zero, List.set_cons_succ])
            refine G_alt (l := [17, 19]) (by kernel_rfl) (by decide) ?_
            intro i hi
            have hi2 : i = 17 ∨ i = 19 := by simpa using hi
            clear hi
            rcases hi2 with rfl | rfl
            · refine ⟨{ dst := some 85, op := Op.call { callee := Callee.builtin Builtin.append, args := #[Operand.tmp 80, Operand.tmp 84], argTypes := #[22, 22] }, type := 22, pos := _, after := #[{ on := 12, ground := Ground.data }, { on := 16, ground := Ground.data }, { on := 12, ground := Ground.chain }], guard := none }, rfl, fun K' hK => ?_⟩
              refine step_append_listI _ rfl _ _ 22 rfl y2.heap.size i0 Try.underlying22 HI.out.1 HI.out.2.1 HI.out.2.2.1 HI.out.2.2.2 v3 (m - n) (lstI (m - n) (fun i => Q (n + i))) rfl ho3 (some ⟨qb, qo, none⟩) n qc Q rfl (HQN.out y3 hB3) (fun e => by cases e) (by omega) hk2.size ?_
              intro vv y4 hown hgr
              have hk3 := grown_below hk2 ho3 hgr
              rw [hmn] at hown
              obtain ⟨_, a4, c4, rfl, hn4, _, hc4, hz4⟩ := rowI_of_owns hown
              have hR4 : Row y4 a4 m (rotQ m n Q) := hz4 _ (fun i hi => rot_at hnm hi)
              replace hR2 := hQ2.below hk3
              have hB4 := hB2.trans (hk3.mono hB2.size)
              have hz4 := hB4.size
              clear hown hgr
              (try rw [hmn])
              refine hK.out _ _ (fun _ => HS.out _ hB4) (fun _ => ?_)
              clear hK K'
              (try simp only [Act.put, List.setIfInBounds_toArray, List.set_cons_zero, List.set_cons_succ])
              refine G_take (i := 18) (oi := { dst := some 86, op := Op.build 37 #[(0, Operand.tmp 75), (1, Operand.tmp 85)], type := 37, pos := _, after := #[{ on := 7, ground := Ground.data }, { on := 17, ground := Ground.data }], guard := none }) (v := .agg #[.slice a2 (s + n) c2, .slice a4 m c4]) rfl (by kernel_rfl) (by kernel_rfl) (by kernel_rfl) (by kernel_rfl) (fun _ _ _ h => h) (by rfl) (fun u hu => ?_) (HS.out _ hB4) ?_
              · (try dsimp only at hu); go_simp
              (try simp only [Act.put, List.setIfInBounds_toArray, List.set_cons_zero, List.set_cons_succ])
              refine G_step (i := 19) (o := { dst := some 12, op := Op.alloc 37, type := 0, pos := _, after := #[], guard := none }) (by kernel_rfl) rfl (fun K' hK => ?_)
              go_simp
              obtain ⟨y5, hy5⟩ : ∃ q, q = y4.alloc (.cells #[.slice none 0 0, .slice none 0 0] 37) := ⟨_, rfl⟩
              have hb5 : Below y4.heap.size y4 y5 := by rw [hy5]; exact box_below _ _
              have hr : y5.heap[y4.heap.size]? = some (.cells #[.slice none 0 0, .slice none 0 0] 37) := by rw [hy5]; exact Go.Deep.blk_alloc_new _ _
              obtain ⟨al, hal⟩ : ∃ al, y4.heap.size = al := ⟨_, rfl⟩
              have hal2 : u.heap.size ≤ al := by have := hB4.size; omega
              rw [← hy5]
              have hB5 := hB4.trans (hb5.mono hB4.size)
              have hz5 := hb5.size
              clear hy5
              replace hR2 := hR2.below hb5
              replace hR4 := hR4.below hb5
              rw [hal] at hr ⊢
              clear hal
              refine hK.out _ _ (fun _ => HS.out _ hB5) (fun _ => ?_)
              clear hK K'
              (try simp only [Act.put, List.setIfInBounds_toArray, List.set_cons_zero, List.set_cons_succ])
              obtain ⟨f0, f1, g0, g1⟩ := two_c hr
              obtain ⟨e0, e1, hrq, hbt⟩ := two_set (.slice a2 (s + n) c2) (.slice a4 m c4) hr
              refine G_step (i := 20) (o := { dst := none, op := Op.store 37 (Operand.tmp 12) (Operand.tmp 86), type := 0, pos := _, after := #[{ on := 19, ground := Ground.data }, { on := 18, ground := Ground.data }, { on := 17, ground := Ground.chain }, { on := 0, ground := Ground.phase }, { on := 1, ground := Ground.phase }, { on := 2, ground := Ground.phase }, { on := 3, ground := Ground.phase }, { on := 4, ground := Ground.phase }, { on := 5, ground := Ground.phase }, { on := 6, ground := Ground.phase }, { on := 7, ground := Ground.phase }, { on := 8, ground := Ground.phase }, { on := 9, ground := Ground.phase }, { on := 10, ground := Ground.phase }, { on := 11, ground := Ground.phase }, { on := 12, ground := Ground.phase }, { on := 13, ground := Ground.phase }, { on := 14, ground := Ground.phase }, { on := 15, ground := Ground.phase }, { on := 16, ground := Ground.phase }, { on := 17, ground := Ground.phase }, { on := 18, ground := Ground.phase }, { on := 19, ground := Ground.phase }], guard := none }) (by kernel_rfl) rfl (fun K' hK => ?_)
              go_simp
              generalize (y5.setCell ⟨al, 0, none⟩ (.slice a2 (s + n) c2)).setCell ⟨al, 1, none⟩ (.slice a4 m c4) = yf at *
              have hBf : Below u.heap.size u yf := hB5.trans (hbt.below hal2 hB5.size)
              refine hK.out _ _ (fun _ => HS.out _ hBf) (fun _ => ?_)
              clear hK K' f0 f1 g0 g1
              (try simp only [Act.put, List.setIfInBounds_toArray, List.set_cons_zero, List.set_cons_succ])
              refine G_done (by kernel_rfl) ?_ _
              have HFIN : Hid (Below u.heap.size u yf ∧ yf.heap[al]? = some (.cells #[.slice a2 (s + n) c2, .slice a4 m c4] 37) ∧ Row yf a2 (s + n) (stmP s P Q) ∧ Row yf a4 m (rotQ m n Q) ∧ (a2 = none → s + n = 0 ∧ c2 = 0) ∧ (a4 = none → m = 0 ∧ c4 = 0) ∧ s + n ≤ c2 ∧ m ≤ c4) :=
                hid ⟨hBf, hrq, row_but37 hR2 hr hbt, row_but37 hR4 hr hbt, hn2, hn4, hc2, hc4⟩
              clear hBf hrq hbt
              go_wp2_with fail
              go_meet
              exact ⟨al, a2, c2, a4, c4, rfl, HFIN⟩
            · refine ⟨{ dst := some 12, op := Op.alloc 37, type := 0, pos := _, after := #[], guard := none }, rfl, fun K' hK => ?_⟩
              go_simp
              obtain ⟨y4, hy4⟩ : ∃ q, q = y3.alloc (.cells #[.slice none 0 0, .slice none 0 0] 37) := ⟨_, rfl⟩
              have hb4 : Below y3.heap.size y3 y4 := by rw [hy4]; exact box_below _ _
              have hr : y4.heap[y3.heap.size]? = some (.cells #[.slice none 0 0, .slice none 0 0] 37) := by rw [hy4]; exact Go.Deep.blk_alloc_new _ _
              obtain ⟨al, hal⟩ : ∃ al, y3.heap.size = al := ⟨_, rfl⟩
              have hal2 : u.heap.size ≤ al := by have := hB3.size; omega
              rw [← hy4]
              have hB4 := hB3.trans (hb4.mono hB3.size)
              have hz4 := hb4.size
              clear hy4
              replace hk2 := hk2.trans (hb4.mono hk2.size)
              replace ho3 := owns_below ho3 hb4
              replace hR2 := hR2.below hb4
              rw [hal] at hr ⊢
              clear hal
              refine hK.out _ _ (fun _ => HS.out _ hB4) (fun _ => ?_)
              clear hK K'
              (try simp only [Act.put, List.setIfInBounds_toArray, List.set_cons_zero, List.set_cons_succ])
              refine G_step (i := 17) (o := { dst := some 85, op := Op.call { callee := Callee.builtin Builtin.append, args := #[Operand.tmp 80, Operand.tmp 84], argTypes := #[22, 22] }, type := 22, pos := _, after := #[{ on := 12, ground := Ground.data }, { on := 16, ground := Ground.data }, { on := 12, ground := Ground.chain }], guard := none }) (by kernel_rfl) rfl (fun K' hK => ?_)
              refine step_append_listI _ rfl _ _ 22 rfl y2.heap.size i0 Try.underlying22 HI.out.1 HI.out.2.1 HI.out.2.2.1 HI.out.2.2.2 v3 (m - n) (lstI (m - n) (fun i => Q (n + i))) rfl ho3 (some ⟨qb, qo, none⟩) n qc Q rfl (HQN.out y4 hB4) (fun e => by cases e) (by omega) hk2.size ?_
              intro vv y5 hown hgr
              have hk3 := grown_below hk2 ho3 hgr
              replace hr := keep37 hr ho3 hgr
              rw [hmn] at hown
              obtain ⟨_, a4, c4, rfl, hn4, _, hc4, hz4⟩ := rowI_of_owns hown
              have hR4 : Row y5 a4 m (rotQ m n Q) := hz4 _ (fun i hi => rot_at hnm hi)
              replace hR2 := hQ2.below hk3
              have hB5 := hB2.trans (hk3.mono hB2.size)
              have hz5 := hB5.size
              clear hown hgr
              (try rw [hmn])
              refine hK.out _ _ (fun _ => HS.out _ hB5) (fun _ => ?_)
              clear hK K'
              (try simp only [Act.put, List.setIfInBounds_toArray, List.set_cons_zero, List.set_cons_succ])
              refine G_take (i := 18) (oi := { dst := some 86, op := Op.build 37 #[(0, Operand.tmp 75), (1, Operand.tmp 85)], type := 37, pos := _, after := #[{ on := 7, ground := Ground.data }, { on := 17, ground := Ground.data }], guard := none }) (v := .agg #[.slice a2 (s + n) c2, .slice a4 m c4]) rfl (by kernel_rfl) (by kernel_rfl) (by kernel_rfl) (by kernel_rfl) (fun _ _ _ h => h) (by rfl) (fun u hu => ?_) (HS.out _ hB5) ?_
              · (try dsimp only at hu); go_simp
              (try simp only [Act.put, List.setIfInBounds_toArray, List.set_cons_zero, List.set_cons_succ])
              obtain ⟨f0, f1, g0, g1⟩ := two_c hr
              obtain ⟨e0, e1, hrq, hbt⟩ := two_set (.slice a2 (s + n) c2) (.slice a4 m c4) hr
              refine G_step (i := 20) (o := { dst := none, op := Op.store 37 (Operand.tmp 12) (Operand.tmp 86), type := 0, pos := _, after := #[{ on := 19, ground := Ground.data }, { on := 18, ground := Ground.data }, { on := 17, ground := Ground.chain }, { on := 0, ground := Ground.phase }, { on := 1, ground := Ground.phase }, { on := 2, ground := Ground.phase }, { on := 3, ground := Ground.phase }, { on := 4, ground := Ground.phase }, { on := 5, ground := Ground.phase }, { on := 6, ground := Ground.phase }, { on := 7, ground := Ground.phase }, { on := 8, ground := Ground.phase }, { on := 9, ground := Ground.phase }, { on := 10, ground := Ground.phase }, { on := 11, ground := Ground.phase }, { on := 12, ground := Ground.phase }, { on := 13, ground := Ground.phase }, { on := 14, ground := Ground.phase }, { on := 15, ground := Ground.phase }, { on := 16, ground := Ground.phase }, { on := 17, ground := Ground.phase }, { on := 18, ground := Ground.phase }, { on := 19, ground := Ground.phase }], guard := none }) (by kernel_rfl) rfl (fun K' hK => ?_)
              go_simp
              generalize (y5.setCell ⟨al, 0, none⟩ (.slice a2 (s + n) c2)).setCell ⟨al, 1, none⟩ (.slice a4 m c4) = yf at *
              have hBf : Below u.heap.size u yf := hB5.trans (hbt.below hal2 hB5.size)
              refine hK.out _ _ (fun _ => HS.out _ hBf) (fun _ => ?_)
              clear hK K' f0 f1 g0 g1
              (try simp only [Act.put, List.setIfInBounds_toArray, List.set_cons_zero, List.set_cons_succ])
              refine G_done (by kernel_rfl) ?_ _
              have HFIN : Hid (Below u.heap.size u yf ∧ yf.heap[al]? = some (.cells #[.slice a2 (s + n) c2, .slice a4 m c4] 37) ∧ Row yf a2 (s + n) (stmP s P Q) ∧ Row yf a4 m (rotQ m n Q) ∧ (a2 = none → s + n = 0 ∧ c2 = 0) ∧ (a4 = none → m = 0 ∧ c4 = 0) ∧ s + n ≤ c2 ∧ m ≤ c4) :=
                hid ⟨hBf, hrq, row_but37 hR2 hr hbt, row_but37 hR4 hr hbt, hn2, hn4, hc2, hc4⟩
              clear hBf hrq hbt
              go_wp2_with fail
              go_meet
              exact ⟨al, a2, c2, a4, c4, rfl, HFIN⟩
          · refine ⟨{ dst := some 12, op := Op.alloc 37, type := 0, pos := _, after := #[], guard := none }, rfl, fun K' hK => ?_⟩
            go_simp
            obtain ⟨y3, hy3⟩ : ∃ q, q = y2.alloc (.cells #[.slice none 0 0, .slice none 0 0] 37) := ⟨_, rfl⟩
            have hb3 : Below y2.heap.size y2 y3 := by rw [hy3]; exact box_below _ _
            have hr : y3.heap[y2.heap.size]? = some (.cells #[.slice none 0 0, .slice none 0 0] 37) := by rw [hy3]; exact Go.Deep.blk_alloc_new _ _
            obtain ⟨al, hal⟩ : ∃ al, y2.heap.size = al := ⟨_, rfl⟩
            have hal2 : u.heap.size ≤ al := by have := hB2.size; omega
            rw [← hy3]
            have hB3 := hB2.trans (hb3.mono hB2.size)
            have hz3 := hb3.size
            clear hy3
            replace hR2 := hR2.below hb3
            rw [hal] at hr ⊢
            clear hal
            refine hK.out _ _ (fun _ => HS.out _ hB3) (fun _ => ?_)
            clear hK K'
            (try simp only [Act.put, List.setIfInBounds_toArray, List.set_cons_zero, List.set_cons_succ])
            refine G_step (i := 12) (o := { dst := some 80, op := Op.call { callee := Callee.value (Operand.func 25), args := #[Operand.tmp 79], argTypes := #[22] }, type := 22, pos := _, after := #[{ on := 11, ground := Ground.data }, { on := 7, ground := Ground.chain }], guard := none }) (by kernel_rfl) rfl (fun K' hK => ?_)
            go_simp
            refine (D2.out y3 hB3).mono ?_
            rintro e y4 ⟨v3, rfl, ho3, hb4⟩
            dsimp only
            have hB4 := hB3.trans (hb4.mono hB3.size)
            have hz4 := hb4.size
            have hk2 := hb4
            have hQ2 := hR2
            replace hR2 := hR2.below hb4
            replace hr := (hb4.block _ (Array.getElem?_eq_some_iff.1 hr).1).trans hr
            refine hK.out _ _ (fun _ => HS.out _ hB4) (fun _ => ?_)
            clear hK K'
            (try simp only [Act.put, List.setIfInBounds_toArray, List.set_cons_zero, List.set_cons_succ])
            refine G_step (i := 17) (o := { dst := some 85, op := Op.call { callee := Callee.builtin Builtin.append, args := #[Operand.tmp 80, Operand.tmp 84], argTypes := #[22, 22] }, type := 22, pos := _, after := #[{ on := 12, ground := Ground.data }, { on := 16, ground := Ground.data }, { on := 12, ground := Ground.chain }], guard := none }) (by kernel_rfl) rfl (fun K' hK => ?_)
            refine step_append_listI _ rfl _ _ 22 rfl y3.heap.size i0 Try.underlying22 HI.out.1 HI.out.2.1 HI.out.2.2.1 HI.out.2.2.2 v3 (m - n) (lstI (m - n) (fun i => Q (n + i))) rfl ho3 (some ⟨qb, qo, none⟩) n qc Q rfl (HQN.out y4 hB4) (fun e => by cases e) (by omega) hk2.size ?_
            intro vv y5 hown hgr
            have hk3 := grown_below hk2 ho3 hgr
            replace hr := keep37 hr ho3 hgr
            rw [hmn] at hown
            obtain ⟨_, a4, c4, rfl, hn4, _, hc4, hz4⟩ := rowI_of_owns hown
            have hR4 : Row y5 a4 m (rotQ m n Q) := hz4 _ (fun i hi => rot_at hnm hi)
            replace hR2 := hQ2.below hk3
            have hB5 := hB3.trans (hk3.mono hB3.size)
            have hz5 := hB5.size
            clear hown hgr
            (try rw [hmn])
            refine hK.out _ _ (fun _ => HS.out _ hB5) (fun _ => ?_)
            clear hK K'
            (try simp only [Act.put, List.setIfInBounds_toArray, List.set_cons_zero, List.set_cons_succ])
            refine G_take (i := 18) (oi := { dst := some 86, op := Op.build 37 #[(0, Operand.tmp 75), (1, Operand.tmp 85)], type := 37, pos := _, after := #[{ on := 7, ground := Ground.data }, { on := 17, ground := Ground.data }], guard := none }) (v := .agg #[.slice a2 (s + n) c2, .slice a4 m c4]) rfl (by kernel_rfl) (by kernel_rfl) (by kernel_rfl) (by kernel_rfl) (fun _ _ _ h => h) (by rfl) (fun u hu => ?_) (HS.out _ hB5) ?_
            · (try dsimp only at hu); go_simp
            (try simp only [Act.put, List.setIfInBounds_toArray, List.set_cons_zero, List.set_cons_succ])
            obtain ⟨f0, f1, g0, g1⟩ := two_c hr
            obtain ⟨e0, e1, hrq, hbt⟩ := two_set (.slice a2 (s + n) c2) (.slice a4 m c4) hr
            refine G_step (i := 20) (o := { dst := none, op := Op.store 37 (Operand.tmp 12) (Operand.tmp 86), type := 0, pos := _, after := #[{ on := 19, ground := Ground.data }, { on := 18, ground := Ground.data }, { on := 17, ground := Ground.chain }, { on := 0, ground := Ground.phase }, { on := 1, ground := Ground.phase }, { on := 2, ground := Ground.phase }, { on := 3, ground := Ground.phase }, { on := 4, ground := Ground.phase }, { on := 5, ground := Ground.phase }, { on := 6, ground := Ground.phase }, { on := 7, ground := Ground.phase }, { on := 8, ground := Ground.phase }, { on := 9, ground := Ground.phase }, { on := 10, ground := Ground.phase }, { on := 11, ground := Ground.phase }, { on := 12, ground := Ground.phase }, { on := 13, ground := Ground.phase }, { on := 14, ground := Ground.phase }, { on := 15, ground := Ground.phase }, { on := 16, ground := Ground.phase }, { on := 17, ground := Ground.phase }, { on := 18, ground := Ground.phase }, { on := 19, ground := Ground.phase }], guard := none }) (by kernel_rfl) rfl (fun K' hK => ?_)
            go_simp
            generalize (y5.setCell ⟨al, 0, none⟩ (.slice a2 (s + n) c2)).setCell ⟨al, 1, none⟩ (.slice a4 m c4) = yf at *
            have hBf : Below u.heap.size u yf := hB5.trans (hbt.below hal2 hB5.size)
            refine hK.out _ _ (fun _ => HS.out _ hBf) (fun _ => ?_)
            clear hK K' f0 f1 g0 g1
            (try simp only [Act.put, List.setIfInBounds_toArray, List.set_cons_zero, List.set_cons_succ])
            refine G_done (by kernel_rfl) ?_ _
            have HFIN : Hid (Below u.heap.size u yf ∧ yf.heap[al]? = some (.cells #[.slice a2 (s + n) c2, .slice a4 m c4] 37) ∧ Row yf a2 (s + n) (stmP s P Q) ∧ Row yf a4 m (rotQ m n Q) ∧ (a2 = none → s + n = 0 ∧ c2 = 0) ∧ (a4 = none → m = 0 ∧ c4 = 0) ∧ s + n ≤ c2 ∧ m ≤ c4) :=
              hid ⟨hBf, hrq, row_but37 hR2 hr hbt, row_but37 hR4 hr hbt, hn2, hn4, hc2, hc4⟩
            clear hBf hrq hbt
            go_wp2_with fail
            go_meet
            exact ⟨al, a2, c2, a4, c4, rfl, HFIN⟩
        · refine ⟨{ dst := some 12, op := Op.alloc 37, type := 0, pos := _, after := #[], guard := none }, rfl, fun K' hK => ?_⟩
          go_simp
          obtain ⟨y2, hy2⟩ : ∃ q, q = y1.alloc (.cells #[.slice none 0 0, .slice none 0 0] 37) := ⟨_, rfl⟩
          have hb2 : Below y1.heap.size y1 y2 := by rw [hy2]; exact box_below _ _
          have hr : y2.heap[y1.heap.size]? = some (.cells #[.slice none 0 0, .slice none 0 0] 37) := by rw [hy2]; exact Go.Deep.blk_alloc_new _ _
          obtain ⟨al, hal⟩ : ∃ al, y1.heap.size = al := ⟨_, rfl⟩
          have hal2 : u.heap.size ≤ al := by have := hB1.size; omega
          rw [← hy2]
          have hB2 := hB1.trans (hb2.mono hB1.size)
          have hz2 := hb2.size
          clear hy2
          replace hk0 := hk0.trans (hb2.mono hk0.size)
          replace ho1 := owns_below ho1 hb2
          rw [hal] at hr ⊢
          clear hal
          refine hK.out _ _ (fun _ => HS.out _ hB2) (fun _ => ?_)
          clear hK K'
          (try simp only [Act.put, List.setIfInBounds_toArray, List.set_cons_zero, List.set_cons_succ])
          refine G_step (i := 7) (o := { dst := some 75, op := Op.call { callee := Callee.builtin Builtin.append, args := #[Operand.tmp 70, Operand.tmp 74], argTypes := #[22, 22] }, type := 22, pos := _, after := #[{ on := 2, ground := Ground.data }, { on := 6, ground := Ground.data }, { on := 2, ground := Ground.chain }], guard := none }) (by kernel_rfl) rfl (fun K' hK => ?_)
          refine step_append_listI _ rfl _ _ 22 rfl y0.heap.size i0 Try.underlying22 HI.out.1 HI.out.2.1 HI.out.2.2.1 HI.out.2.2.2 v1 s (lstI s P) rfl ho1 (some ⟨qb, qo, none⟩) n qc Q rfl (HQN.out y2 hB2) (fun e => by cases e) (by omega) hk0.size ?_
          intro vv y3 hown hgr
          have hk1 := grown_below hk0 ho1 hgr
          replace hr := keep37 hr ho1 hgr
          obtain ⟨_, a2, c2, rfl, hn2, _, hc2, hz2⟩ := rowI_of_owns hown
          have hR2 : Row y3 a2 (s + n) (stmP s P Q) := hz2 _ (fun i hi => stm_at hnm hi)
          have hB3 := hB0.trans (hk1.mono hB0.size)
          have hz3 := hB3.size
          clear hown hgr
          refine hK.out _ _ (fun _ => HS.out _ hB3) (fun _ => ?_)
          clear hK K'
          (try simp only [Act.put, List.setIfInBounds_toArray, List.set_cons_zero, List.set_cons_succ])
          refine G_step (i := 12) (o := { dst := some 80, op := Op.call { callee := Callee.value (Operand.func 25), args := #[Operand.tmp 79], argTypes := #[22] }, type := 22, pos := _, after := #[{ on := 11, ground := Ground.data }, { on := 7, ground := Ground.chain }], guard := none }) (by kernel_rfl) rfl (fun K' hK => ?_)
          go_simp
          refine (D2.out y3 hB3).mono ?_
          rintro e y4 ⟨v3, rfl, ho3, hb4⟩
          dsimp only
          have hB4 := hB3.trans (hb4.mono hB3.size)
          have hz4 := hb4.size
          have hk2 := hb4
          have hQ2 := hR2
          replace hR2 := hR2.below hb4
          replace hr := (hb4.block _ (Array.getElem?_eq_some_iff.1 hr).1).trans hr
          refine hK.out _ _ (fun _ => HS.out _ hB4) (fun _ => ?_)
          clear hK K'
          (try simp only [Act.put, List.setIfInBounds_toArray, List.set_cons_zero, List.set_cons_succ])
          refine G_step (i := 17) (o := { dst := some 85, op := Op.call { callee := Callee.builtin Builtin.append, args := #[Operand.tmp 80, Operand.tmp 84], argTypes := #[22, 22] }, type := 22, pos := _, after := #[{ on := 12, ground := Ground.data }, { on := 16, ground := Ground.data }, { on := 12, ground := Ground.chain }], guard := none }) (by kernel_rfl) rfl (fun K' hK => ?_)
          refine step_append_listI _ rfl _ _ 22 rfl y3.heap.size i0 Try.underlying22 HI.out.1 HI.out.2.1 HI.out.2.2.1 HI.out.2.2.2 v3 (m - n) (lstI (m - n) (fun i => Q (n + i))) rfl ho3 (some ⟨qb, qo, none⟩) n qc Q rfl (HQN.out y4 hB4) (fun e => by cases e) (by omega) hk2.size ?_
          intro vv y5 hown hgr
          have hk3 := grown_below hk2 ho3 hgr
          replace hr := keep37 hr ho3 hgr
          rw [hmn] at hown
          obtain ⟨_, a4, c4, rfl, hn4, _, hc4, hz4⟩ := rowI_of_owns hown
          have hR4 : Row y5 a4 m (rotQ m n Q) := hz4 _ (fun i hi => rot_at hnm hi)
          replace hR2 := hQ2.below hk3
          have hB5 := hB3.trans (hk3.mono hB3.size)
          have hz5 := hB5.size
          clear hown hgr
          (try rw [hmn])
          refine hK.out _ _ (fun _ => HS.out _ hB5) (fun _ => ?_)
          clear hK K'
          (try simp only [Act.put, List.setIfInBounds_toArray, List.set_cons_zero, List.set_cons_succ])
          refine G_take (i := 18) (oi := { dst := some 86, op := Op.build 37 #[(0, Operand.tmp 75), (1, Operand.tmp 85)], type := 37, pos := _, after := #[{ on := 7, ground := Ground.data }, { on := 17, ground := Ground.data }], guard := none }) (v := .agg #[.slice a2 (s + n) c2, .slice a4 m c4]) rfl (by kernel_rfl) (by kernel_rfl) (by kernel_rfl) (by kernel_rfl) (fun _ _ _ h => h) (by rfl) (fun u hu => ?_) (HS.out _ hB5) ?_
          · (try dsimp only at hu); go_simp
          (try simp only [Act.put, List.setIfInBounds_toArray, List.set_cons_zero, List.set_cons_succ])
          obtain ⟨f0, f1, g0, g1⟩ := two_c hr
          obtain ⟨e0, e1, hrq, hbt⟩ := two_set (.slice a2 (s + n) c2) (.slice a4 m c4) hr
          refine G_step (i := 20) (o := { dst := none, op := Op.store 37 (Operand.tmp 12) (Operand.tmp 86), type := 0, pos := _, after := #[{ on := 19, ground := Ground.data }, { on := 18, ground := Ground.data }, { on := 17, ground := Ground.chain }, { on := 0, ground := Ground.phase }, { on := 1, ground := Ground.phase }, { on := 2, ground := Ground.phase }, { on := 3, ground := Ground.phase }, { on := 4, ground := Ground.phase }, { on := 5, ground := Ground.phase }, { on := 6, ground := Ground.phase }, { on := 7, ground := Ground.phase }, { on := 8, ground := Ground.phase }, { on := 9, ground := Ground.phase }, { on := 10, ground := Ground.phase }, { on := 11, ground := Ground.phase }, { on := 12, ground := Ground.phase }, { on := 13, ground := Ground.phase }, { on := 14, ground := Ground.phase }, { on := 15, ground := Ground.phase }, { on := 16, ground := Ground.phase }, { on := 17, ground := Ground.phase }, { on := 18, ground := Ground.phase }, { on := 19, ground := Ground.phase }], guard := none }) (by kernel_rfl) rfl (fun K' hK => ?_)
          go_simp
          generalize (y5.setCell ⟨al, 0, none⟩ (.slice a2 (s + n) c2)).setCell ⟨al, 1, none⟩ (.slice a4 m c4) = yf at *
          have hBf : Below u.heap.size u yf := hB5.trans (hbt.below hal2 hB5.size)
          refine hK.out _ _ (fun _ => HS.out _ hBf) (fun _ => ?_)
          clear hK K' f0 f1 g0 g1
          (try simp only [Act.put, List.setIfInBounds_toArray, List.set_cons_zero, List.set_cons_succ])
          refine G_done (by kernel_rfl) ?_ _
          have HFIN : Hid (Below u.heap.size u yf ∧ yf.heap[al]? = some (.cells #[.slice a2 (s + n) c2, .slice a4 m c4] 37) ∧ Row yf a2 (s + n) (stmP s P Q) ∧ Row yf a4 m (rotQ m n Q) ∧ (a2 = none → s + n = 0 ∧ c2 = 0) ∧ (a4 = none → m = 0 ∧ c4 = 0) ∧ s + n ≤ c2 ∧ m ≤ c4) :=
            hid ⟨hBf, hrq, row_but37 hR2 hr hbt, row_but37 hR4 hr hbt, hn2, hn4, hc2, hc4⟩
          clear hBf hrq hbt
          go_wp2_with fail
          go_meet
          exact ⟨al, a2, c2, a4, c4, rfl, HFIN⟩
      · refine ⟨{ dst := some 12, op := Op.alloc 37, type := 0, pos := _, after := #[], guard := none }, rfl, fun K' hK => ?_⟩
        go_simp
        obtain ⟨y1, hy1⟩ : ∃ q, q = y0.alloc (.cells #[.slice none 0 0, .slice none 0 0] 37) := ⟨_, rfl⟩
        have hb1 : Below y0.heap.size y0 y1 := by rw [hy1]; exact box_below _ _
        have hr : y1.heap[y0.heap.size]? = some (.cells #[.slice none 0 0, .slice none 0 0] 37) := by rw [hy1]; exact Go.Deep.blk_alloc_new _ _
        obtain ⟨al, hal⟩ : ∃ al, y0.heap.size = al := ⟨_, rfl⟩
        have hal2 : u.heap.size ≤ al := by have := hB0.size; omega
        rw [← hy1]
        have hB1 := hB0.trans (hb1.mono hB0.size)
        have hz1 := hb1.size
        clear hy1
        rw [hal] at hr ⊢
        clear hal
        refine hK.out _ _ (fun _ => HS.out _ hB1) (fun _ => ?_)
        clear hK K'
        (try simp only [Act.put, List.setIfInBounds_toArray, List.set_cons_zero, List.set_cons_succ])
        refine G_step (i := 2) (o := { dst := some 70, op := Op.call { callee := Callee.value (Operand.func 25), args := #[Operand.tmp 69], argTypes := #[22] }, type := 22, pos := _, after := #[{ on := 1, ground := Ground.data }], guard := none }) (by kernel_rfl) rfl (fun K' hK => ?_)
        go_simp
        refine (D1.out y1 hB1).mono ?_
        rintro e y2 ⟨v1, rfl, ho1, hb2⟩
        dsimp only
        have hB2 := hB1.trans (hb2.mono hB1.size)
        have hz2 := hb2.size
        have hk0 := hb2
        replace hr := (hb2.block _ (Array.getElem?_eq_some_iff.1 hr).1).trans hr
        refine hK.out _ _ (fun _ => HS.out _ hB2) (fun _ => ?_)
        clear hK K'
        (try simp only [Act.put, List.setIfInBounds_toArray, List.set_cons_zero, List.set_cons_succ])
        refine G_step (i := 7) (o := { dst := some 75, op := Op.call { callee := Callee.builtin Builtin.append, args := #[Operand.tmp 70, Operand.tmp 74], argTypes := #[22, 22] }, type := 22, pos := _, after := #[{ on := 2, ground := Ground.data }, { on := 6, ground := Ground.data }, { on := 2, ground := Ground.chain }], guard := none }) (by kernel_rfl) rfl (fun K' hK => ?_)
        refine step_append_listI _ rfl _ _ 22 rfl y1.heap.size i0 Try.underlying22 HI.out.1 HI.out.2.1 HI.out.2.2.1 HI.out.2.2.2 v1 s (lstI s P) rfl ho1 (some ⟨qb, qo, none⟩) n qc Q rfl (HQN.out y2 hB2) (fun e => by cases e) (by omega) hk0.size ?_
        intro vv y3 hown hgr
        have hk1 := grown_below hk0 ho1 hgr
        replace hr := keep37 hr ho1 hgr
        obtain ⟨_, a2, c2, rfl, hn2, _, hc2, hz2⟩ := rowI_of_owns hown
        have hR2 : Row y3 a2 (s + n) (stmP s P Q) := hz2 _ (fun i hi => stm_at hnm hi)
        have hB3 := hB1.trans (hk1.mono hB1.size)
        have hz3 := hB3.size
        clear hown hgr
        refine hK.out _ _ (fun _ => HS.out _ hB3) (fun _ => ?_)
        clear hK K'
        (try simp only [Act.put, List.setIfInBounds_toArray, List.set_cons_zero, List.set_cons_succ])
        refine G_step (i := 12) (o := { dst := some 80, op := Op.call { callee := Callee.value (Operand.func 25), args := #[Operand.tmp 79], argTypes := #[22] }, type := 22, pos := _, after := #[{ on := 11, ground := Ground.data }, { on := 7, ground := Ground.chain }], guard := none }) (by kernel_rfl) rfl (fun K' hK => ?_)
        go_simp
        refine (D2.out y3 hB3).mono ?_
        rintro e y4 ⟨v3, rfl, ho3, hb4⟩
        dsimp only
        have hB4 := hB3.trans (hb4.mono hB3.size)
        have hz4 := hb4.size
        have hk2 := hb4
        have hQ2 := hR2
        replace hR2 := hR2.below hb4
        replace hr := (hb4.block _ (Array.getElem?_eq_some_iff.1 hr).1).trans hr
        refine hK.out _ _ (fun _ => HS.out _ hB4) (fun _ => ?_)
        clear hK K'
        (try simp only [Act.put, List.setIfInBounds_toArray, List.set_cons_zero, List.set_cons_succ])
        refine G_step (i := 17) (o := { dst := some 85, op := Op.call { callee := Callee.builtin Builtin.append, args := #[Operand.tmp 80, Operand.tmp 84], argTypes := #[22, 22] }, type := 22, pos := _, after := #[{ on := 12, ground := Ground.data }, { on := 16, ground := Ground.data }, { on := 12, ground := Ground.chain }], guard := none }) (by kernel_rfl) rfl (fun K' hK => ?_)
        refine step_append_listI _ rfl _ _ 22 rfl y3.heap.size i0 Try.underlying22 HI.out.1 HI.out.2.1 HI.out.2.2.1 HI.out.2.2.2 v3 (m - n) (lstI (m - n) (fun i => Q (n + i))) rfl ho3 (some ⟨qb, qo, none⟩) n qc Q rfl (HQN.out y4 hB4) (fun e => by cases e) (by omega) hk2.size ?_
        intro vv y5 hown hgr
        have hk3 := grown_below hk2 ho3 hgr
        replace hr := keep37 hr ho3 hgr
        rw [hmn] at hown
        obtain ⟨_, a4, c4, rfl, hn4, _, hc4, hz4⟩ := rowI_of_owns hown
        have hR4 : Row y5 a4 m (rotQ m n Q) := hz4 _ (fun i hi => rot_at hnm hi)
        replace hR2 := hQ2.below hk3
        have hB5 := hB3.trans (hk3.mono hB3.size)
        have hz5 := hB5.size
        clear hown hgr
        (try rw [hmn])
        refine hK.out _ _ (fun _ => HS.out _ hB5) (fun _ => ?_)
        clear hK K'
        (try simp only [Act.put, List.setIfInBounds_toArray, List.set_cons_zero, List.set_cons_succ])
        refine G_take (i := 18) (oi := { dst := some 86, op := Op.build 37 #[(0, Operand.tmp 75), (1, Operand.tmp 85)], type := 37, pos := _, after := #[{ on := 7, ground := Ground.data }, { on := 17, ground := Ground.data }], guard := none }) (v := .agg #[.slice a2 (s + n) c2, .slice a4 m c4]) rfl (by kernel_rfl) (by kernel_rfl) (by kernel_rfl) (by kernel_rfl) (fun _ _ _ h => h) (by rfl) (fun u hu => ?_) (HS.out _ hB5) ?_
        · (try dsimp only at hu); go_simp
        (try simp only [Act.put, List.setIfInBounds_toArray, List.set_cons_zero, List.set_cons_succ])
        obtain ⟨f0, f1, g0, g1⟩ := two_c hr
        obtain ⟨e0, e1, hrq, hbt⟩ := two_set (.slice a2 (s + n) c2) (.slice a4 m c4) hr
        refine G_step (i := 20) (o := { dst := none, op := Op.store 37 (Operand.tmp 12) (Operand.tmp 86), type := 0, pos := _, after := #[{ on := 19, ground := Ground.data }, { on := 18, ground := Ground.data }, { on := 17, ground := Ground.chain }, { on := 0, ground := Ground.phase }, { on := 1, ground := Ground.phase }, { on := 2, ground := Ground.phase }, { on := 3, ground := Ground.phase }, { on := 4, ground := Ground.phase }, { on := 5, ground := Ground.phase }, { on := 6, ground := Ground.phase }, { on := 7, ground := Ground.phase }, { on := 8, ground := Ground.phase }, { on := 9, ground := Ground.phase }, { on := 10, ground := Ground.phase }, { on := 11, ground := Ground.phase }, { on := 12, ground := Ground.phase }, { on := 13, ground := Ground.phase }, { on := 14, ground := Ground.phase }, { on := 15, ground := Ground.phase }, { on := 16, ground := Ground.phase }, { on := 17, ground := Ground.phase }, { on := 18, ground := Ground.phase }, { on := 19, ground := Ground.phase }], guard := none }) (by kernel_rfl) rfl (fun K' hK => ?_)
        go_simp
        generalize (y5.setCell ⟨al, 0, none⟩ (.slice a2 (s + n) c2)).setCell ⟨al, 1, none⟩ (.slice a4 m c4) = yf at *
        have hBf : Below u.heap.size u yf := hB5.trans (hbt.below hal2 hB5.size)
        refine hK.out _ _ (fun _ => HS.out _ hBf) (fun _ => ?_)
        clear hK K' f0 f1 g0 g1
        (try simp only [Act.put, List.setIfInBounds_toArray, List.set_cons_zero, List.set_cons_succ])
        refine G_done (by kernel_rfl) ?_ _
        have HFIN : Hid (Below u.heap.size u yf ∧ yf.heap[al]? = some (.cells #[.slice a2 (s + n) c2, .slice a4 m c4] 37) ∧ Row yf a2 (s + n) (stmP s P Q) ∧ Row yf a4 m (rotQ m n Q) ∧ (a2 = none → s + n = 0 ∧ c2 = 0) ∧ (a4 = none → m = 0 ∧ c4 = 0) ∧ s + n ≤ c2 ∧ m ≤ c4) :=
          hid ⟨hBf, hrq, row_but37 hR2 hr hbt, row_but37 hR4 hr hbt, hn2, hn4, hc2, hc4⟩
        clear hBf hrq hbt
        go_wp2_with fail
        go_meet
        exact ⟨al, a2, c2, a4, c4, rfl, HFIN⟩
    case rest =>
      obtain ⟨x12, a2, c2, a4, c4, rfl, HC⟩ := hcut
      have HBc := hid (HB6.out.trans (HC.out.1.mono HB6.out.size))
      have HBWc := hid (HBW6.out.below HC.out.1)
      have HYc := hid (And.intro (below_cell HC.out.1 (Nat.le_refl _) HY6.out.1) (below_cell HC.out.1 (Nat.le_refl _) HY6.out.2))
      have HPq : Hid (∀ z, Below wc.heap.size wc z → Pw z a2 (s + n) c2 a4 m c4 (stmP s P Q) (rotQ m n Q)) := hid (fun z hz => ⟨HC.out.2.2.1.below hz, HC.out.2.2.2.1.below hz, HC.out.2.2.2.2.1, HC.out.2.2.2.2.2.1, HC.out.2.2.2.2.2.2.1, HC.out.2.2.2.2.2.2.2, by omega, by omega⟩)
      have HK12 := hid HC.out.2.1
      obtain ⟨k0, k1, _, _⟩ := two_c HK12.out
      have C13q := hid (good_any A a2 (s + n) c2 a4 m c4 (stmP s P Q) (rotQ m n Q) wc (HH.out.1.below HBc.out) (HPq.out wc (Below.refl _ _)))
      have hee := gdE_ok HG.out.1.symm
      have HEE := hid hee
      obtain ⟨q0, q1, q2, q3⟩ := HBWc.out
      obtain ⟨y0, y1⟩ := HYc.out
      clear D1 D2 HS HQC HQN HI hsr hst hee HC
      go_wp2_with fail
      refine C13q.out.mono ?_
      rintro e w7 ⟨bq, eq, rfl, HGq⟩
      have heq : eq = 0 := HGq.out.1.trans (HEE.out.2 (s + n) (by omega))
      subst heq
      have hbq : bg = bq := by rw [HGq.out.2.2.1 (by trivial), HG.out.2.2.1 (by trivial)]; exact (gd_turn hnm hm P Q).symm
      subst hbq
      have hbb : (bg != bg) = false := by cases bg <;> rfl
      have hb7 := HGq.out.2.2.2
      have HB7 := hid (HBc.out.trans (hb7.mono HBc.out.size))
      have HBW7 := hid (HBWc.out.below hb7)
      have HY7 := hid (And.intro (below_cell hb7 (Nat.le_refl _) y0) (below_cell hb7 (Nat.le_refl _) y1))
      have HK7 := hid (And.intro (below_cell hb7 (Nat.le_refl _) k0) (below_cell hb7 (Nat.le_refl _) k1))
      have HC7 := hid hb7
      have C14 := hid (word_any A pa s pc (some ⟨qb, qo, none⟩) m qc P Q w7 (HH.out.1.below HB7.out) (HH.out.2.below HB7.out))
      clear q0 q1 q2 q3 y0 y1 k0 k1 hb7 C13q HGq
      obtain ⟨q0, q1, q2, q3⟩ := HBW7.out
      obtain ⟨y0, y1⟩ := HY7.out
      obtain ⟨k0, k1⟩ := HK7.out
      go_wp2_with fail
      refine C14.out.mono ?_
      rintro e w8 ⟨xa, xn, xc, ya, yn, yc, er, rfl, HX⟩
      obtain ⟨W8, hW8, hb8, hs8b, x0, x1⟩ := box2 w8 (.slice xa xn xc) (.slice ya yn yc) 41
      have h78 : Below w7.heap.size w7 W8 := HX.out.2.2.2.1.trans (hb8.mono HX.out.2.2.2.1.size)
      have HB8 := hid (HB7.out.trans (h78.mono HB7.out.size))
      have HBW8 := hid (HBW7.out.below h78)
      have HK8 := hid (And.intro (below_cell h78 (Nat.le_refl _) k0) (below_cell h78 (Nat.le_refl _) k1))
      have HX8 := hid (And.intro x0 x1)
      have HC8 := hid (HC7.out.trans (h78.mono HC7.out.size))
      have HR8 : Hid (er = 0 → xn = s ∧ yn = m ∧ RowU W8 xa s (fun i => (A.Lb (P i).toNat : Int)) ∧ RowU W8 ya m (fun i => (A.Lb (Q i).toNat : Int))) := hid (fun e => ⟨(HX.out.2.2.1 e).1, (HX.out.2.2.1 e).2.1, (HX.out.2.2.1 e).2.2.1.below hb8, (HX.out.2.2.1 e).2.2.2.below hb8⟩)
      have HE8 : Hid (er = wdE A s m P Q ∧ (er = 0 → xc = s ∧ yc = m ∧ xa ≠ none ∧ ya ≠ none)) := hid ⟨HX.out.1, HX.out.2.2.2.2⟩
      have C14q := hid (word_any A a2 (s + n) c2 a4 m c4 (stmP s P Q) (rotQ m n Q) W8 (HH.out.1.below HB8.out) (HPq.out W8 HC8.out))
      clear q0 q1 q2 q3 y0 y1 k0 k1 hb8 hs8b h78 C14 HX
      obtain ⟨q0, q1, q2, q3⟩ := HBW8.out
      obtain ⟨k0, k1⟩ := HK8.out
      go_wp2_with fail
      refine C14q.out.mono ?_
      rintro e w9 ⟨za, zn, zc, ta, tn, tc, eq, rfl, HX⟩
      obtain ⟨W9, hW9, hb9, hs9b, v0, v1⟩ := box2 w9 (.slice za zn zc) (.slice ta tn tc) 41
      have h89 : Below W8.heap.size W8 W9 := HX.out.2.2.2.1.trans (hb9.mono HX.out.2.2.2.1.size)
      have HB9 := hid (HB8.out.trans (h89.mono HB8.out.size))
      have x0' := below_cell h89 (Nat.le_refl _) x0
      have x1' := below_cell h89 (Nat.le_refl _) x1
      have HR9 : Hid (er = 0 → RowU W9 xa s (fun i => (A.Lb (P i).toNat : Int)) ∧ RowU W9 ya m (fun i => (A.Lb (Q i).toNat : Int))) := hid (fun e => ⟨(HR8.out e).2.2.1.below h89, (HR8.out e).2.2.2.below h89⟩)
      have HQ9 : Hid (eq = 0 → zn = s + n ∧ tn = m ∧ RowU W9 za (s + n) (fun i => (A.Lb (stmP s P Q i).toNat : Int)) ∧ RowU W9 ta m (fun i => (A.Lb (rotQ m n Q i).toNat : Int))) := hid (fun e => ⟨(HX.out.2.2.1 e).1, (HX.out.2.2.1 e).2.1, (HX.out.2.2.1 e).2.2.1.below hb9, (HX.out.2.2.1 e).2.2.2.below hb9⟩)
      have HE9 : Hid (eq = wdE A (s + n) m (stmP s P Q) (rotQ m n Q) ∧ (eq = 0 → zc = s + n ∧ tc = m ∧ za ≠ none ∧ ta ≠ none)) := hid ⟨HX.out.1, HX.out.2.2.2.2⟩
      clear q0 q1 q2 q3 k0 k1 hb9 hs9b h89 x0 x1 C14q HX
      by_cases h1 : er = 0
      · subst h1
        by_cases h2 : eq = 0
        · subst h2
          obtain ⟨i1, i2, i3, i4⟩ := HE8.out.2 rfl
          obtain ⟨j1, j2, j3, j4⟩ := HE9.out.2 rfl
          obtain ⟨r1, r2, _, _⟩ := HR8.out rfl
          obtain ⟨r3, r4, r5, r6⟩ := HQ9.out rfl
          obtain ⟨r7, r8⟩ := HR9.out rfl
          have i1' := i1.symm
          have i2' := i2.symm
          have j1' := j1.symm
          have j2' := j2.symm
          have r1' := r1.symm
          have r2' := r2.symm
          have r3' := r3.symm
          have r4' := r4.symm
          subst i1' i2' j1' j2' r1' r2' r3' r4'
          obtain ⟨l1, l2, l3, l4, l5⟩ := wdE_ok HE8.out.1.symm
          obtain ⟨m1, m2, m3, m4, m5⟩ := wdE_ok HE9.out.1.symm
          have hMG := (chkW_ok l3).2.2.1
          have hlb := HH.out.1.lb
          have bd : ∀ (c : Nat) (Z : Nat → Int), allIn c Z A.G = true → ∀ i, i < c → (0 : Int) ≤ ((A.Lb (Z i).toNat : Nat) : Int) ∧ ((A.Lb (Z i).toNat : Nat) : Int) < 18446744073709551616 := fun c Z hz i hi => by
            have h5 := allIn_all hz i hi
            have := hlb (Z i).toNat (by omega)
            omega
          have CS := hid (sameF_ok (w := W9) (sa := xa) (s := s) (sc := s) (la := ya) (m := m) (lc := m) (sb := za) (t := s + n) (tc := s + n) (lb := ta) (n := m) (nc := m) ⟨r7, r8, by omega, by omega, bd s P l4, bd m Q l5⟩ (fun e => absurd e i3) (Nat.le_refl _) (Nat.le_refl _) l1 l2 ⟨r5, r6, by omega, by omega, bd (s + n) (stmP s P Q) m4, bd m (rotQ m n Q) m5⟩ (fun e => absurd e j3) (Nat.le_refl _) (Nat.le_refl _) m1 m2)
          have hlt : ∀ i, ltr s m (fun i => ((A.Lb (P i).toNat : Nat) : Int)) (fun i => ((A.Lb (Q i).toNat : Nat) : Int)) i = ltr (s + n) m (fun i => ((A.Lb (stmP s P Q i).toNat : Nat) : Int)) (fun i => ((A.Lb (rotQ m n Q i).toNat : Nat) : Int)) i := fun i => by
            have e1 := ltr_map (s := s) (m := m) (fun x => ((A.Lb x.toNat : Nat) : Int)) P Q i
            have e2 := ltr_map (s := s + n) (m := m) (fun x => ((A.Lb x.toNat : Nat) : Int)) (stmP s P Q) (rotQ m n Q) i
            rw [e1, e2, ltr_turn hnm hm P Q i]
          have HLT := hid hlt
          clear r5 r6 r7 r8 i3 i4 j3 j4 l1 l2 l3 l4 l5 m1 m2 m3 m4 m5 hMG hlb bd hlt i1 i2 j1 j2 r1 r2 r3 r4
          go_wp2_with fail
          refine CS.out.mono ?_
          rintro e w10 ⟨st, lp, st', lp', hl1, hl2, rfl, hb10⟩
          rw [lea_same hl1 hl2 HLT.out]
          have HB10 := hid (HB9.out.trans (hb10.mono HB9.out.size))
          clear x0' x1' v0 v1 hb10 CS hl1 hl2
          go_wp2
          all_goals go_ret
          all_goals exact ⟨rfl, HB10.out⟩
        · have g3 : (eq != 0) = true := by simp [h2]
          clear h2
          go_wp2
          all_goals go_ret
          all_goals exact ⟨rfl, HB9.out⟩
      · have g3 : (er != 0) = true := by simp [h1]
        clear h1
        go_wp2
        all_goals go_ret
        all_goals exact ⟨rfl, HB9.out⟩
  · have hbf : bg = false := HG.out.2.1 he
    subst hbf
    have g0 : (eg != 0) = true := by simp [he]
    clear he
    go_wp2
    all_goals go_ret
    all_goals exact ⟨rfl, HB6.out⟩
end Go.Proofs.Ytgahdclbaifcbaa
