/- The document's Path. -/
import Derived.Test.YtgahdclbaifcbaaWof
namespace Go.Proofs.Ytgahdclbaifcbaa
open Go.RowKit

/-- An append of a list, nil too, to an own row, as one operation. -/
theorem step_append_listI {P : Program} (w : World) {o : Oper} {a : Act} {K : Act → World → Prop} {Q : Exit → Act → World → Prop} {E : Prop} (hgd : o.guard = none) {ops : Array Oper} (s x : Operand) (t : TypeId)
    (ho : o.op = .call { callee := .builtin .append, args := #[s, x], argTypes := #[t, t] })
    (base : Nat) (i : TypeInfo) (ht : P.underlying t = some (.slice 3)) (hi : P.info? 3 = some i) (hz : i.zero = some (.int .i64 0)) (hsize : i.size = 1) (hby : i.bytes = 8)
    (v : Value) (n : Nat) (xs : List Int) (hs : a.eval s = v) (hown : w.ownsRow base 3 1 v n (valsI xs))
    (b : Option Addr) (m d : Nat) (Y : Nat → Int) (hx : a.eval x = .slice b m d) (hrow : Row w b m Y) (hnil : b = none → m = 0 ∧ d = 0) (hsum : n + m ≤ 4194304) (hbase : base ≤ w.heap.size)
    (h : ∀ v' w', w'.ownsRow base 3 1 v' (n + m) (valsI (xs ++ lstI m Y)) → w.grownBy w' v.ownBlock → K (a.put o.dst v') w') :
    if Region.wanted o (yielded ops a.tmps) = true then Oper.wp P o a w K Q else E := by
  have hw : Region.wanted o (yielded ops a.tmps) = true := by simp [Region.wanted, hgd]
  rw [if_pos hw]
  cases b with
  | some ad =>
    obtain ⟨v', w', hr, h2, h3, h4, h5⟩ := run_append_own_at (P := P) w base t o.type 3 i (.int .i64 0) 1 8 ht hi hz hsize hby rfl (by decide) v n (valsI xs) hown ad m d (valsI (lstI m Y)) (by rw [valsI_len, lstI_len, Nat.mul_one]) (news_of_rowI hrow) (valsI_one _) (by unfold maxLen; omega) (by omega) hbase
    unfold Oper.wp execOp
    simp only [ho, resolve, invoke, builtin, Sem.run_bind, Sem.run_pure, Result.andThen_ok, List.map_toArray, List.map_cons, List.map_nil, hs, hx, hr]
    refine h v' w' ?_ h3
    have : valsI (xs ++ lstI m Y) = valsI xs ++ valsI (lstI m Y) := by simp [valsI]
    rw [this]
    exact h2
  | none =>
    obtain ⟨rfl, rfl⟩ := hnil rfl
    have h1 := h v w (by simpa [lstI] using hown) ⟨rfl, rfl, rfl, Nat.le_refl _, fun _ _ _ => rfl⟩
    have hr : (Builtin.append_ #[t, t] o.type #[v, .slice none 0 0]).run P w = .ok v w := by
      rcases hown.2 with ⟨rfl, rfl⟩ | ⟨g, cap, cur, rfl, _, _, hle, _⟩
      · exact run_append_none w t _ 3 i ht hi none 0 0 (Nat.le_refl _)
      · exact run_append_none w t _ 3 i ht hi (some ⟨g, 0, none⟩) n cap hle
    unfold Oper.wp execOp
    simp only [ho, resolve, invoke, builtin, Sem.run_bind, Sem.run_pure, Result.andThen_ok, List.map_toArray, List.map_cons, List.map_nil, hs, hx, hr]
    exact h1

/-- Does a Loop meet a fair set, looked at from the Loop's side? -/
def anyH (n : Nat) (FZ : Nat → Int) (Q : Nat → Int) (j : Nat) : Bool := decide (∃ i, i < j ∧ has n FZ (Q i) = true)
theorem anyH_zero (n : Nat) (FZ Q : Nat → Int) : anyH n FZ Q 0 = false := decide_eq_false (fun ⟨_, h, _⟩ => absurd h (Nat.not_lt_zero _))
theorem anyH_yes {n : Nat} {FZ Q : Nat → Int} {j : Nat} (h : anyH n FZ Q j = true) : anyH n FZ Q (j + 1) = true := by
  unfold anyH at h ⊢
  rw [decide_eq_true_eq] at h ⊢
  obtain ⟨i, h1, h2⟩ := h
  exact ⟨i, by omega, h2⟩
theorem anyH_no {n : Nat} {FZ Q : Nat → Int} {j : Nat} (h : anyH n FZ Q j = false) : anyH n FZ Q (j + 1) = has n FZ (Q j) := by
  unfold anyH at h ⊢
  rw [decide_eq_false_iff_not] at h
  cases e : has n FZ (Q j)
  · rw [decide_eq_false_iff_not]
    rintro ⟨i, h1, h2⟩
    by_cases e2 : i = j
    · subst e2; rw [e] at h2; cases h2
    · exact h ⟨i, by omega, h2⟩
  · rw [decide_eq_true_eq]
    exact ⟨j, by omega, e⟩
theorem has_iff {n : Nat} {Z : Nat → Int} {x : Int} : has n Z x = true ↔ ∃ i, i < n ∧ Z i = x := by unfold has; rw [decide_eq_true_eq]
theorem mt_of {A : Wx} {m : Nat} {Q : Nat → Int} : mtB A m Q = true ↔ ∀ k, k < A.K → anyH (A.FL k) (A.FZ k) Q m = true := by
  unfold mtB anyH
  rw [decide_eq_true_eq]
  constructor
  · intro h k hk
    rw [decide_eq_true_eq]
    obtain ⟨i, hi, h2⟩ := h k hk
    obtain ⟨j, hj, e⟩ := has_iff.1 h2
    exact ⟨j, hj, has_iff.2 ⟨i, hi, e.symm⟩⟩
  · intro h k hk
    have h1 := h k hk
    rw [decide_eq_true_eq] at h1
    obtain ⟨i, hi, h2⟩ := h1
    obtain ⟨j, hj, e⟩ := has_iff.1 h2
    exact ⟨j, hj, has_iff.2 ⟨i, hi, e.symm⟩⟩

theorem rowI_snoc {w : World} {base s m : Nat} {v : Value} {P Q : Nat → Int} (h : w.ownsRow base 3 1 v (s + m + 1) (valsI (lstI s P ++ lstI m Q) ++ [.int .i64 (Q 0)])) :
    ∃ rb ro c, v = .slice (some ⟨rb, ro, none⟩) (s + m + 1) c ∧ ∀ i, i < s + m + 1 → w.cell? ⟨rb, ro + i, none⟩ = some (.int .i64 (pw s m P Q i)) := by
  have e : valsI (lstI s P ++ lstI m Q) ++ [.int .i64 (Q 0)] = valsI (lstI s P ++ lstI m Q ++ lstI 1 Q) := by simp [valsI, lstI]
  rw [e] at h
  obtain ⟨_, a, c, rfl, h1, _, _, h2⟩ := rowI_of_owns h
  obtain ⟨rb, ro, h3, h4⟩ := h2 (pw s m P Q) (fun i hi => pw_at s m P Q i hi)
  have := h3 (by omega)
  subst this
  exact ⟨rb, ro, c, rfl, h4⟩

set_option maxRecDepth 100000 in
set_option maxHeartbeats 4000000 in
theorem pathRef_any (A : Wx) (pa : Option Addr) (s pc : Nat) (qa : Option Addr) (m qc : Nat) (P Q : Nat → Int) (w : World) (h : Ww w A) (hp : Pw w pa s pc qa m qc P Q) (h0 : chkW A = 0) (hsm : s + m ≤ 60000) :
    Calls Try.prog 16 #[.agg #[.slice A.sa A.sn A.sc, .slice A.na A.G A.nc, .slice A.la A.M A.lc, .slice A.fa A.K A.fc], .slice A.sa A.sn A.sc, .agg #[.slice pa s pc, .slice qa m qc]] w fun e w' => e = .returned (.bool (gdB A s m P Q)) ∧ Below w.heap.size w w' := by
  obtain ⟨W1, hW1, hb1, hs1, hbw⟩ := boxw w A
  obtain ⟨W2, hW2, hb2, hs2, y0, y1⟩ := box2 W1 (.slice pa s pc) (.slice qa m qc) 37
  have h2 : Below w.heap.size w W2 := hb1.trans (hb2.mono hb1.size)
  have HB2 := hid h2
  have HBW := hid (hbw.below hb2)
  have HY := hid (And.intro y0 y1)
  have HH := hid (And.intro h hp)
  have C1 := hid (inRef_any pa s pc P A.G W2 (by omega) ((hp.below h2).stem))
  have C2 := hid (inRef_any qa m qc Q A.G W2 (by omega) ((hp.below h2).loop))
  have CI : Hid (∀ (z : World) (x : Int), Below w.heap.size w z → Calls Try.prog 42 #[.slice A.sa A.sn A.sc, .int .i64 x] z fun e w' => e = .returned (.bool (has A.sn A.S x)) ∧ w' = z) := hid (fun z x hz => conI A.sa A.sn A.sc A.S x z h.s47 ((h.below hz).start))
  obtain ⟨hG, hK, -, -, -, hZ, hF⟩ := chkW_ok h0
  have HGE : Hid (gdB A s m P Q = ((decide (0 < m) && allIn s P A.G && allIn m Q A.G) && wyB A s m P Q && mtB A m Q)) := hid rfl
  have HWY : Hid (wyB A s m P Q = (has A.sn A.S (pw s m P Q 0) && decide (∀ i, i < s + m → has (A.L (pw s m P Q i).toNat) (A.Z (pw s m P Q i).toNat) (pw s m P Q (i + 1)) = true))) := hid rfl
  have HMT : Hid (mtB A m Q = true ↔ ∀ k, k < A.K → anyH (A.FL k) (A.FZ k) Q m = true) := hid mt_of
  obtain ⟨nb, no, hna, hnc⟩ := (h.below h2).next
  obtain ⟨fb, fo, hfa, hfc⟩ := (h.below h2).fair
  have HNC := hid hnc
  have HFC := hid hfc
  have HNA : Hid (0 < A.G → A.na = some ⟨nb, no, none⟩) := hid hna
  have HFA : Hid (0 < A.K → A.fa = some ⟨fb, fo, none⟩) := hid hfa
  have HPR := hid ((hp.below h2).loop)
  have HPS := hid ((hp.below h2).stem)
  have HL47 := hid (And.intro h.l47 h.f47)
  obtain ⟨q0, q1, q2, q3⟩ := HBW.out
  obtain ⟨p1, hp1⟩ : ∃ p1, W1.heap.size = p1 := ⟨_, rfl⟩
  rw [hp1] at y0 y1 HY
  obtain ⟨i0, hi, hz0, hz1, hz2⟩ := info_parts Try.info3i
  have HI : Hid (Try.prog.info? 3 = some i0 ∧ i0.zero = some (.int .i64 0) ∧ i0.size = 1 ∧ i0.bytes = 8) := ⟨hi, hz0, hz1, hz2⟩
  have HPN := hid (And.intro hp.pn hp.qn)
  generalize gdB A s m P Q = gd at *
  generalize wyB A s m P Q = wy at *
  generalize mtB A m Q = mt at *
  clear hi hz0 hz1 hz2 h hp hb1 hs1 hb2 hs2 hbw h2 hnc hfc hna hfa hZ hF h0 HH
  obtain ⟨sa, sn, sc, na, G, nc, la, M, lc, fa, K, fc, S, L, Z, Lb, FL, FZ⟩ := A
  dsimp only at *
  by_cases hm : 0 < m
  · have hm2 : (((m : Nat) : Int) == 0) = false := beq_eq_false_iff_ne.2 (by omega)
    cases hA1 : allIn s P G
    · rw [hA1] at C1 HGE
      have HF : Hid (gd = false) := hid (by rw [HGE.out]; simp)
      clear hA1
      go_enter Try.func16, Try.ntmps16
      go_wp2_with fail
      (try rw [hp1])
      refine C1.out.mono ?_
      rintro e w3 ⟨rfl, rfl⟩
      go_wp2
      go_ret
      exact ⟨ret_bool HF.out.symm, HB2.out⟩
    cases hA2 : allIn m Q G
    · rw [hA1] at C1 HGE
      rw [hA2] at C2 HGE
      have HF : Hid (gd = false) := hid (by rw [HGE.out]; simp)
      clear hA1 hA2
      go_enter Try.func16, Try.ntmps16
      go_wp2_with fail
      (try rw [hp1])
      refine C1.out.mono ?_
      rintro e w3 ⟨rfl, rfl⟩
      go_wp2_with fail
      refine C2.out.mono ?_
      rintro e w3 ⟨rfl, rfl⟩
      go_wp2
      go_ret
      exact ⟨ret_bool HF.out.symm, HB2.out⟩
    have HPW := hid (fun i => pw_in (s := s) (P := P) hm hA1 hA2 i)
    have HQI := hid (allIn_all hA2)
    rw [hA1] at C1 HGE
    rw [hA2] at C2 HGE
    have HGE2 : Hid (gd = (wy && mt)) := hid (by rw [HGE.out, decide_eq_true hm]; rfl)
    clear hA1 hA2 HGE
    go_enter Try.func16, Try.ntmps16
    go_wp2_with fail
    (try rw [hp1])
    refine C1.out.mono ?_
    rintro e w3 ⟨rfl, hq⟩
    obtain rfl := hq.symm
    go_wp2_with fail
    refine C2.out.mono ?_
    rintro e w3 ⟨rfl, hq⟩
    obtain rfl := hq.symm
    have hS0 : (fun z : World => z.cell? ⟨p1, 0, none⟩ = some (.slice pa s pc) ∧ z.cell? ⟨p1, 1, none⟩ = some (.slice qa m qc)) W2.drew := ⟨y0, y1⟩
    have HN0 : Hid (W2.drew.ownsRow W2.heap.size 3 1 (.slice none 0 0) 0 (valsI [])) := hid (World.ownsRow_nil _ _ _ _)
    clear C1 C2 q0 q1 q2 q3
    go_wp2_with fail
    refine G_region (fun z : World => z.cell? ⟨p1, 0, none⟩ = some (.slice pa s pc) ∧ z.cell? ⟨p1, 1, none⟩ = some (.slice qa m qc)) (fun _ => false) (by kernel_rfl) hS0 (fun _ => ?_)
    refine G_take (i := 0) (oi := { dst := some 34, op := Op.fieldAddr 37 (Operand.tmp 5) 0, type := 0, pos := _, after := #[], guard := none }) (v := .pointer (some ⟨p1, 0, none⟩)) rfl (by kernel_rfl) (by kernel_rfl) (by kernel_rfl) (by kernel_rfl) (fun _ _ _ h => h) (by rfl) (fun u hu => ?_) hS0 ?_
    · (try dsimp only at hu); go_simp
    (try simp only [Act.put, List.setIfInBounds_toArray, List.set_cons_zero, List.set_cons_succ])
    refine G_take (i := 1) (oi := { dst := some 35, op := Op.load 22 (Operand.tmp 34), type := 22, pos := _, after := #[{ on := 0, ground := Ground.data }], guard := none }) (v := .slice pa s pc) rfl (by kernel_rfl) (by kernel_rfl) (by kernel_rfl) (by kernel_rfl) (fun _ _ _ h => h) (by rfl) (fun u hu => ?_) hS0 ?_
    · (try dsimp only at hu); go_simp
    (try simp only [Act.put, List.setIfInBounds_toArray, List.set_cons_zero, List.set_cons_succ])
    refine G_take (i := 3) (oi := { dst := some 37, op := Op.fieldAddr 37 (Operand.tmp 5) 1, type := 0, pos := _, after := #[], guard := none }) (v := .pointer (some ⟨p1, 1, none⟩)) rfl (by kernel_rfl) (by kernel_rfl) (by kernel_rfl) (by kernel_rfl) (fun _ _ _ h => h) (by rfl) (fun u hu => ?_) hS0 ?_
    · (try dsimp only at hu); go_simp
    (try simp only [Act.put, List.setIfInBounds_toArray, List.set_cons_zero, List.set_cons_succ])
    refine G_take (i := 4) (oi := { dst := some 38, op := Op.load 22 (Operand.tmp 37), type := 22, pos := _, after := #[{ on := 3, ground := Ground.data }], guard := none }) (v := .slice qa m qc) rfl (by kernel_rfl) (by kernel_rfl) (by kernel_rfl) (by kernel_rfl) (fun _ _ _ h => h) (by rfl) (fun u hu => ?_) hS0 ?_
    · (try dsimp only at hu); go_simp
    (try simp only [Act.put, List.setIfInBounds_toArray, List.set_cons_zero, List.set_cons_succ])
    refine G_step (i := 2) (o := { dst := some 36, op := Op.call { callee := Callee.builtin Builtin.append, args := #[Operand.const (Value.slice none 0 0), Operand.tmp 35], argTypes := #[22, 22] }, type := 22, pos := _, after := #[{ on := 1, ground := Ground.data }], guard := none }) (by kernel_rfl) rfl (fun K' hK => ?_)
    refine step_append_listI _ rfl _ _ 22 rfl W2.heap.size i0 Try.underlying22 HI.out.1 HI.out.2.1 HI.out.2.2.1 HI.out.2.2.2 (.slice none 0 0) 0 [] rfl HN0.out pa s pc P rfl HPS.out HPN.out.1 (by omega) (Nat.le_refl _) ?_
    intro v1 w4 hown4 hgrow4
    have hb4 : Below W2.heap.size W2 w4 := grown_below ((Below.refl W2.heap.size W2).drew) (World.ownsRow_nil _ W2.heap.size 3 1) hgrow4
    have HO4 : Hid (w4.ownsRow W2.heap.size 3 1 v1 s (valsI (lstI s P))) := hid (by rw [Nat.zero_add, List.nil_append] at hown4; exact hown4)
    have HB4 := hid hb4
    have s4 : (fun z : World => z.cell? ⟨p1, 0, none⟩ = some (.slice pa s pc) ∧ z.cell? ⟨p1, 1, none⟩ = some (.slice qa m qc)) w4 := ⟨below_cell hb4 (Nat.le_refl _) y0, below_cell hb4 (Nat.le_refl _) y1⟩
    have hl4 := hb4.size
    clear hown4 hgrow4 hb4
    refine hK.out _ _ (fun _ => s4) (fun _ => ?_)
    (try simp only [Act.put, List.setIfInBounds_toArray, List.set_cons_zero, List.set_cons_succ])
    refine G_step (i := 5) (o := { dst := some 39, op := Op.call { callee := Callee.builtin Builtin.append, args := #[Operand.tmp 36, Operand.tmp 38], argTypes := #[22, 22] }, type := 22, pos := _, after := #[{ on := 2, ground := Ground.data }, { on := 4, ground := Ground.data }, { on := 2, ground := Ground.chain }], guard := none }) (by kernel_rfl) rfl (fun K' hK => ?_)
    refine step_append_listI _ rfl _ _ 22 rfl W2.heap.size i0 Try.underlying22 HI.out.1 HI.out.2.1 HI.out.2.2.1 HI.out.2.2.2 v1 s (lstI s P) rfl HO4.out qa m qc Q rfl (HPR.out.below HB4.out) HPN.out.2 (by omega) hl4 ?_
    intro v2 w5 hown5 hgrow5
    have hb5 : Below W2.heap.size W2 w5 := grown_below HB4.out HO4.out hgrow5
    have HO5 := hid hown5
    have HB5 := hid hb5
    have s5 : (fun z : World => z.cell? ⟨p1, 0, none⟩ = some (.slice pa s pc) ∧ z.cell? ⟨p1, 1, none⟩ = some (.slice qa m qc)) w5 := ⟨below_cell hb5 (Nat.le_refl _) y0, below_cell hb5 (Nat.le_refl _) y1⟩
    have hl5 := hb5.size
    clear hown5 hgrow5 hb5
    refine hK.out _ _ (fun _ => s5) (fun _ => ?_)
    (try simp only [Act.put, List.setIfInBounds_toArray, List.set_cons_zero, List.set_cons_succ])
    refine G_step (i := 6) (o := { dst := some 7, op := Op.assign (Operand.tmp 39), type := 22, pos := _, after := #[{ on := 5, ground := Ground.data }, { on := 5, ground := Ground.chain }, { on := 0, ground := Ground.phase }, { on := 1, ground := Ground.phase }, { on := 2, ground := Ground.phase }, { on := 3, ground := Ground.phase }, { on := 4, ground := Ground.phase }, { on := 5, ground := Ground.phase }], guard := none }) (by kernel_rfl) rfl (fun K' hK => ?_)
    go_simp
    refine hK.out _ _ (fun _ => s5) (fun _ => ?_)
    (try simp only [Act.put, List.setIfInBounds_toArray, List.set_cons_zero, List.set_cons_succ])
    refine G_done (by kernel_rfl) ?_ _
    (try dsimp only [Exit.then])
    obtain ⟨z0, z1⟩ := s5
    obtain ⟨qb, qo, hqa, hqc⟩ := HPR.out
    have hqe := hqa hm
    subst hqe
    have HQC := hid hqc
    have zq := below_cell HB5.out (Nat.le_refl _) (hqc 0 hm)
    rw [Nat.add_zero] at zq
    obtain ⟨va, vc, hve⟩ := owns_sl HO5.out
    subst hve
    clear s4 hS0 y0 y1 hqa hqc
    go_wp2_with (at_builtin; refine wpList_append_own_at _ rfl _ _ 22 rfl W2.heap.size 3 i0 (.int .i64 0) 1 8 Try.underlying22 HI.out.1 HI.out.2.1 HI.out.2.2.1 HI.out.2.2.2 rfl (by decide) _ _ _ rfl (HO5.out.alloc _) ⟨w5.heap.size, 0, none⟩ 1 1 [.int .i64 (Q 0)] rfl rfl (cell_one_new _ _ _) (ints_oneCell .i64 [Q 0]) (by unfold maxLen; omega) (by omega) (by simp; omega) ?_; intro v' w6 hown6 hgrow6 hnil6 hloc6; obtain ⟨rb, ro, rc, hve, hrr⟩ := rowI_snoc hown6; subst hve; have HB6 := hid (grown_below HB5.out HO5.out ((World.grownBy_alloc _ _ _).trans hgrow6)); have HRR := hid hrr; have hr0 := hrr 0 (by omega); rw [Nat.add_zero] at hr0; clear hown6 hgrow6 hnil6 hloc6 hrr zq; (try clear z0 z1); skip)
    generalize pw s m P Q = Y at *
    have HBW6 : Hid (Below w.heap.size w w6) := hid (HB2.out.trans (HB6.out.mono HB2.out.size))
    have CI6 := hid (CI.out w6 (Y 0) HBW6.out)
    generalize has sn S (Y 0) = hq at *
    clear hr0
    cases hq
    · have HF : Hid (gd = false) := hid (by rw [HGE2.out, HWY.out]; simp)
      refine CI6.out.mono ?_
      rintro e w7 ⟨rfl, hq⟩
      obtain rfl := hq.symm
      go_wp2
      go_ret
      exact ⟨ret_bool HF.out.symm, HBW6.out⟩
    · refine CI6.out.mono ?_
      rintro e w7 ⟨rfl, hq⟩
      obtain rfl := hq.symm
      clear CI CI6
      go_wp2
      go_loopw [8] (fun i wr => ∃ k : Nat, k ≤ s + m ∧ i = .int .i64 ((k + 1 : Nat) : Int) ∧ Hid (Below w6.heap.size w6 wr ∧ ∀ j, j < k → has (L (Y j).toNat) (Z (Y j).toNat) (Y (j + 1)) = true)) (fun i _ => s + m + 1 - (intOf i).toNat)
      case atStart => exact ⟨0, by omega, rfl, hid ⟨Below.refl _ _, fun j hj => by omega⟩⟩
      case round =>
        obtain ⟨k, hk, rfl, HJ⟩ := hrel
        have hwl := HJ.out.1
        obtain ⟨q0, q1, q2, q3⟩ := (HBW.out.below HB6.out).below hwl
        dsimp only at q0 q1 q2 q3
        have z0 := below_cell hwl (Nat.le_refl _) (below_cell HB6.out (Nat.le_refl _) HY.out.1)
        have z1 := below_cell hwl (Nat.le_refl _) (below_cell HB6.out (Nat.le_refl _) HY.out.2)
        by_cases hlt : k < s + m
        · obtain ⟨x1, hx1⟩ : ∃ x : Nat, Y k = x := ⟨(Y k).toNat, by have := (HPW.out k).1; omega⟩
          obtain ⟨x2, hx2⟩ : ∃ x : Nat, Y (k + 1) = x := ⟨(Y (k + 1)).toNat, by have := (HPW.out (k + 1)).1; omega⟩
          have l1 : x1 < G := by have := (HPW.out k).2; omega
          have e1 := below_cell hwl (Nat.le_refl _) (HRR.out k (by omega))
          have e2 := below_cell hwl (Nat.le_refl _) (HRR.out (k + 1) (by omega))
          rw [hx1] at e1
          rw [hx2] at e2
          obtain rfl := HNA.out (by omega)
          obtain ⟨ra1, rc1, hck, hrow⟩ := HNC.out x1 l1
          have h26 : Below W2.heap.size W2 wr := HB6.out.trans (hwl.mono HB6.out.size)
          have e3 := below_cell h26 (Nat.le_refl _) hck
          have CX := hid (conI ra1 (L x1) rc1 (Z x1) x2 wr.drew (HL47.out.1 x1 l1) ((hrow.below h26).below (Below.refl _ _).drew))
          have HH : Hid (has (L (Y k).toNat) (Z (Y k).toNat) (Y (k + 1)) = has (L x1) (Z x1) x2) := hid (by rw [hx1, hx2]; rfl)
          have ESB : Hid (IntKind.i64.wrap (((k + 1 : Nat) : Int) - 1) = (k : Nat)) := hid (by rw [IntKind.wrap_i64] <;> omega)
          have ESB2 : Hid (IntKind.i64.wrap ((k : Nat) : Int) = (k : Nat)) := hid (by rw [IntKind.wrap_i64] <;> omega)
          have hlt2 : ((k + 1 : Nat) : Int) < (s : Nat) + (m : Nat) + 1 := by omega
          have hS0 : (fun z : World => z.cell? ⟨w.heap.size, 1, none⟩ = some (.slice (some ⟨nb, no, none⟩) G nc) ∧ z.cell? ⟨rb, ro + k, none⟩ = some (.int .i64 (x1 : Nat)) ∧ z.cell? ⟨nb, no + x1, none⟩ = some (.slice ra1 (L x1) rc1) ∧ z.cell? ⟨rb, ro + (k + 1), none⟩ = some (.int .i64 (x2 : Nat))) wr.drew := ⟨q1, e1, e3, e2⟩
          have HBD : Hid (Below w6.heap.size w6 wr.drew) := hid hwl.drew
          clear hx1 hx2 hrow hck h26 z0 z1 q0 q2 q3
          generalize has (L x1) (Z x1) ((x2 : Nat) : Int) = q at *
          cases q
          · have HF : Hid (gd = false) := hid (by
              rw [HGE2.out, HWY.out, decide_eq_false]
              · simp
              · intro hall
                have := hall k hlt
                rw [HH.out] at this
                cases this)
            go_wp2_with fail
            refine G_region (fun z : World => z.cell? ⟨w.heap.size, 1, none⟩ = some (.slice (some ⟨nb, no, none⟩) G nc) ∧ z.cell? ⟨rb, ro + k, none⟩ = some (.int .i64 (x1 : Nat)) ∧ z.cell? ⟨nb, no + x1, none⟩ = some (.slice ra1 (L x1) rc1) ∧ z.cell? ⟨rb, ro + (k + 1), none⟩ = some (.int .i64 (x2 : Nat))) (fun _ => false) (by kernel_rfl) hS0 (fun _ => ?_)
            refine G_take (i := 0) (oi := { dst := some 59, op := Op.fieldAddr 26 (Operand.tmp 3) 1, type := 0, pos := _, after := #[], guard := none }) (v := .pointer (some ⟨w.heap.size, 1, none⟩)) rfl (by kernel_rfl) (by kernel_rfl) (by kernel_rfl) (by kernel_rfl) (fun _ _ _ h => h) (by rfl) (fun u hu => ?_) hS0 ?_
            · (try dsimp only at hu); go_simp
            (try simp only [Act.put, List.setIfInBounds_toArray, List.set_cons_zero, List.set_cons_succ])
            refine G_take (i := 1) (oi := { dst := some 60, op := Op.load 23 (Operand.tmp 59), type := 23, pos := _, after := #[{ on := 0, ground := Ground.data }], guard := none }) (v := .slice (some ⟨nb, no, none⟩) G nc) rfl (by kernel_rfl) (by kernel_rfl) (by kernel_rfl) (by kernel_rfl) (fun _ _ _ h => h) (by rfl) (fun u hu => ?_) hS0 ?_
            · (try dsimp only at hu); go_simp
            (try simp only [Act.put, List.setIfInBounds_toArray, List.set_cons_zero, List.set_cons_succ])
            refine G_take (i := 2) (oi := { dst := some 61, op := Op.move (Operand.tmp 7), type := 22, pos := _, after := #[], guard := none }) (v := .slice (some ⟨rb, ro, none⟩) (s + m + 1) rc) rfl (by kernel_rfl) (by kernel_rfl) (by kernel_rfl) (by kernel_rfl) (fun _ _ _ h => h) (by rfl) (fun u hu => ?_) hS0 ?_
            · (try dsimp only at hu); go_simp
            (try simp only [Act.put, List.setIfInBounds_toArray, List.set_cons_zero, List.set_cons_succ])
            refine G_take (i := 3) (oi := { dst := some 62, op := Op.move (Operand.tmp 8), type := 3, pos := _, after := #[], guard := none }) (v := .int .i64 ((k + 1 : Nat) : Int)) rfl (by kernel_rfl) (by kernel_rfl) (by kernel_rfl) (by kernel_rfl) (fun _ _ _ h => h) (by rfl) (fun u hu => ?_) hS0 ?_
            · (try dsimp only at hu); go_simp
            (try simp only [Act.put, List.setIfInBounds_toArray, List.set_cons_zero, List.set_cons_succ])
            refine G_take (i := 4) (oi := { dst := some 63, op := Op.binOp BinOp.sub 3 (Operand.tmp 62) (Operand.const (Value.int IntKind.i64 1)) 3, type := 3, pos := _, after := #[{ on := 3, ground := Ground.data }], guard := none }) (v := .int .i64 (k : Nat)) rfl (by kernel_rfl) (by kernel_rfl) (by kernel_rfl) (by kernel_rfl) (fun _ _ _ h => h) (by rfl) (fun u hu => ?_) hS0 ?_
            · (try dsimp only at hu); (go_simp; try (first | rw [ESB.out] | simp [ESB2.out]))
            (try simp only [Act.put, List.setIfInBounds_toArray, List.set_cons_zero, List.set_cons_succ])
            refine G_take (i := 5) (oi := { dst := some 64, op := Op.indexAddr 22 (Operand.tmp 61) (Operand.tmp 63), type := 0, pos := _, after := #[{ on := 2, ground := Ground.data }, { on := 4, ground := Ground.data }], guard := none }) (v := .pointer (some ⟨rb, ro + k, none⟩)) rfl (by kernel_rfl) (by kernel_rfl) (by kernel_rfl) (by kernel_rfl) (fun _ _ _ h => h) (by rfl) (fun u hu => ?_) hS0 ?_
            · (try dsimp only at hu); (go_simp; try (intro hh; exfalso; omega))
            (try simp only [Act.put, List.setIfInBounds_toArray, List.set_cons_zero, List.set_cons_succ])
            refine G_take (i := 6) (oi := { dst := some 65, op := Op.load 3 (Operand.tmp 64), type := 3, pos := _, after := #[{ on := 5, ground := Ground.data }], guard := none }) (v := .int .i64 (x1 : Nat)) rfl (by kernel_rfl) (by kernel_rfl) (by kernel_rfl) (by kernel_rfl) (fun _ _ _ h => h) (by rfl) (fun u hu => ?_) hS0 ?_
            · (try dsimp only at hu); go_simp
            (try simp only [Act.put, List.setIfInBounds_toArray, List.set_cons_zero, List.set_cons_succ])
            refine G_take (i := 7) (oi := { dst := some 66, op := Op.indexAddr 23 (Operand.tmp 60) (Operand.tmp 65), type := 0, pos := _, after := #[{ on := 1, ground := Ground.data }, { on := 6, ground := Ground.data }], guard := none }) (v := .pointer (some ⟨nb, no + x1, none⟩)) rfl (by kernel_rfl) (by kernel_rfl) (by kernel_rfl) (by kernel_rfl) (fun _ _ _ h => h) (by rfl) (fun u hu => ?_) hS0 ?_
            · (try dsimp only at hu); go_simp
            (try simp only [Act.put, List.setIfInBounds_toArray, List.set_cons_zero, List.set_cons_succ])
            refine G_take (i := 8) (oi := { dst := some 67, op := Op.load 22 (Operand.tmp 66), type := 22, pos := _, after := #[{ on := 7, ground := Ground.data }], guard := none }) (v := .slice ra1 (L x1) rc1) rfl (by kernel_rfl) (by kernel_rfl) (by kernel_rfl) (by kernel_rfl) (fun _ _ _ h => h) (by rfl) (fun u hu => ?_) hS0 ?_
            · (try dsimp only at hu); go_simp
            (try simp only [Act.put, List.setIfInBounds_toArray, List.set_cons_zero, List.set_cons_succ])
            refine G_take (i := 9) (oi := { dst := some 68, op := Op.move (Operand.tmp 7), type := 22, pos := _, after := #[], guard := none }) (v := .slice (some ⟨rb, ro, none⟩) (s + m + 1) rc) rfl (by kernel_rfl) (by kernel_rfl) (by kernel_rfl) (by kernel_rfl) (fun _ _ _ h => h) (by rfl) (fun u hu => ?_) hS0 ?_
            · (try dsimp only at hu); go_simp
            (try simp only [Act.put, List.setIfInBounds_toArray, List.set_cons_zero, List.set_cons_succ])
            refine G_take (i := 10) (oi := { dst := some 69, op := Op.move (Operand.tmp 8), type := 3, pos := _, after := #[], guard := none }) (v := .int .i64 ((k + 1 : Nat) : Int)) rfl (by kernel_rfl) (by kernel_rfl) (by kernel_rfl) (by kernel_rfl) (fun _ _ _ h => h) (by rfl) (fun u hu => ?_) hS0 ?_
            · (try dsimp only at hu); go_simp
            (try simp only [Act.put, List.setIfInBounds_toArray, List.set_cons_zero, List.set_cons_succ])
            refine G_take (i := 11) (oi := { dst := some 70, op := Op.indexAddr 22 (Operand.tmp 68) (Operand.tmp 69), type := 0, pos := _, after := #[{ on := 9, ground := Ground.data }, { on := 10, ground := Ground.data }], guard := none }) (v := .pointer (some ⟨rb, ro + (k + 1), none⟩)) rfl (by kernel_rfl) (by kernel_rfl) (by kernel_rfl) (by kernel_rfl) (fun _ _ _ h => h) (by rfl) (fun u hu => ?_) hS0 ?_
            · (try dsimp only at hu); (go_simp; try (intro hh; exfalso; omega))
            (try simp only [Act.put, List.setIfInBounds_toArray, List.set_cons_zero, List.set_cons_succ])
            refine G_take (i := 12) (oi := { dst := some 71, op := Op.load 3 (Operand.tmp 70), type := 3, pos := _, after := #[{ on := 11, ground := Ground.data }], guard := none }) (v := .int .i64 (x2 : Nat)) rfl (by kernel_rfl) (by kernel_rfl) (by kernel_rfl) (by kernel_rfl) (fun _ _ _ h => h) (by rfl) (fun u hu => ?_) hS0 ?_
            · (try dsimp only at hu); go_simp
            (try simp only [Act.put, List.setIfInBounds_toArray, List.set_cons_zero, List.set_cons_succ])
            refine G_step (i := 13) (o := { dst := some 72, op := Op.call { callee := Callee.value (Operand.func 42), args := #[Operand.tmp 67, Operand.tmp 71], argTypes := #[22, 3] }, type := 4, pos := _, after := #[{ on := 8, ground := Ground.data }, { on := 12, ground := Ground.data }], guard := none }) (by kernel_rfl) rfl (fun K' hK => ?_)
            go_simp
            refine CX.out.mono ?_
            rintro e z1 ⟨rfl, hq⟩
            obtain rfl := hq.symm
            dsimp only
            refine hK.out _ _ (fun _ => hS0) (fun _ => ?_)
            (try simp only [Act.put, List.setIfInBounds_toArray, List.set_cons_zero, List.set_cons_succ])
            refine G_take (i := 14) (oi := { dst := some 73, op := Op.unOp UnOp.not 4 (Operand.tmp 72), type := 4, pos := _, after := #[{ on := 13, ground := Ground.data }], guard := none }) (v := .bool true) rfl (by kernel_rfl) (by kernel_rfl) (by kernel_rfl) (by kernel_rfl) (fun _ _ _ h => h) (by rfl) (fun u hu => ?_) hS0 ?_
            · (try dsimp only at hu); go_simp
            (try simp only [Act.put, List.setIfInBounds_toArray, List.set_cons_zero, List.set_cons_succ])
            refine G_done (by kernel_rfl) ?_ _
            (try dsimp only [Exit.then])
            clear hS0 q1 e1 e2 e3
            go_wp2
            go_ret
            exact ⟨ret_bool HF.out.symm, HBW6.out.trans (HBD.out.mono HBW6.out.size)⟩
          · go_wp2_with fail
            refine G_region (fun z : World => z.cell? ⟨w.heap.size, 1, none⟩ = some (.slice (some ⟨nb, no, none⟩) G nc) ∧ z.cell? ⟨rb, ro + k, none⟩ = some (.int .i64 (x1 : Nat)) ∧ z.cell? ⟨nb, no + x1, none⟩ = some (.slice ra1 (L x1) rc1) ∧ z.cell? ⟨rb, ro + (k + 1), none⟩ = some (.int .i64 (x2 : Nat))) (fun _ => false) (by kernel_rfl) hS0 (fun _ => ?_)
            refine G_take (i := 0) (oi := { dst := some 59, op := Op.fieldAddr 26 (Operand.tmp 3) 1, type := 0, pos := _, after := #[], guard := none }) (v := .pointer (some ⟨w.heap.size, 1, none⟩)) rfl (by kernel_rfl) (by kernel_rfl) (by kernel_rfl) (by kernel_rfl) (fun _ _ _ h => h) (by rfl) (fun u hu => ?_) hS0 ?_
            · (try dsimp only at hu); go_simp
            (try simp only [Act.put, List.setIfInBounds_toArray, List.set_cons_zero, List.set_cons_succ])
            refine G_take (i := 1) (oi := { dst := some 60, op := Op.load 23 (Operand.tmp 59), type := 23, pos := _, after := #[{ on := 0, ground := Ground.data }], guard := none }) (v := .slice (some ⟨nb, no, none⟩) G nc) rfl (by kernel_rfl) (by kernel_rfl) (by kernel_rfl) (by kernel_rfl) (fun _ _ _ h => h) (by rfl) (fun u hu => ?_) hS0 ?_
            · (try dsimp only at hu); go_simp
            (try simp only [Act.put, List.setIfInBounds_toArray, List.set_cons_zero, List.set_cons_succ])
            refine G_take (i := 2) (oi := { dst := some 61, op := Op.move (Operand.tmp 7), type := 22, pos := _, after := #[], guard := none }) (v := .slice (some ⟨rb, ro, none⟩) (s + m + 1) rc) rfl (by kernel_rfl) (by kernel_rfl) (by kernel_rfl) (by kernel_rfl) (fun _ _ _ h => h) (by rfl) (fun u hu => ?_) hS0 ?_
            · (try dsimp only at hu); go_simp
            (try simp only [Act.put, List.setIfInBounds_toArray, List.set_cons_zero, List.set_cons_succ])
            refine G_take (i := 3) (oi := { dst := some 62, op := Op.move (Operand.tmp 8), type := 3, pos := _, after := #[], guard := none }) (v := .int .i64 ((k + 1 : Nat) : Int)) rfl (by kernel_rfl) (by kernel_rfl) (by kernel_rfl) (by kernel_rfl) (fun _ _ _ h => h) (by rfl) (fun u hu => ?_) hS0 ?_
            · (try dsimp only at hu); go_simp
            (try simp only [Act.put, List.setIfInBounds_toArray, List.set_cons_zero, List.set_cons_succ])
            refine G_take (i := 4) (oi := { dst := some 63, op := Op.binOp BinOp.sub 3 (Operand.tmp 62) (Operand.const (Value.int IntKind.i64 1)) 3, type := 3, pos := _, after := #[{ on := 3, ground := Ground.data }], guard := none }) (v := .int .i64 (k : Nat)) rfl (by kernel_rfl) (by kernel_rfl) (by kernel_rfl) (by kernel_rfl) (fun _ _ _ h => h) (by rfl) (fun u hu => ?_) hS0 ?_
            · (try dsimp only at hu); (go_simp; try (first | rw [ESB.out] | simp [ESB2.out]))
            (try simp only [Act.put, List.setIfInBounds_toArray, List.set_cons_zero, List.set_cons_succ])
            refine G_take (i := 5) (oi := { dst := some 64, op := Op.indexAddr 22 (Operand.tmp 61) (Operand.tmp 63), type := 0, pos := _, after := #[{ on := 2, ground := Ground.data }, { on := 4, ground := Ground.data }], guard := none }) (v := .pointer (some ⟨rb, ro + k, none⟩)) rfl (by kernel_rfl) (by kernel_rfl) (by kernel_rfl) (by kernel_rfl) (fun _ _ _ h => h) (by rfl) (fun u hu => ?_) hS0 ?_
            · (try dsimp only at hu); (go_simp; try (intro hh; exfalso; omega))
            (try simp only [Act.put, List.setIfInBounds_toArray, List.set_cons_zero, List.set_cons_succ])
            refine G_take (i := 6) (oi := { dst := some 65, op := Op.load 3 (Operand.tmp 64), type := 3, pos := _, after := #[{ on := 5, ground := Ground.data }], guard := none }) (v := .int .i64 (x1 : Nat)) rfl (by kernel_rfl) (by kernel_rfl) (by kernel_rfl) (by kernel_rfl) (fun _ _ _ h => h) (by rfl) (fun u hu => ?_) hS0 ?_
            · (try dsimp only at hu); go_simp
            (try simp only [Act.put, List.setIfInBounds_toArray, List.set_cons_zero, List.set_cons_succ])
            refine G_take (i := 7) (oi := { dst := some 66, op := Op.indexAddr 23 (Operand.tmp 60) (Operand.tmp 65), type := 0, pos := _, after := #[{ on := 1, ground := Ground.data }, { on := 6, ground := Ground.data }], guard := none }) (v := .pointer (some ⟨nb, no + x1, none⟩)) rfl (by kernel_rfl) (by kernel_rfl) (by kernel_rfl) (by kernel_rfl) (fun _ _ _ h => h) (by rfl) (fun u hu => ?_) hS0 ?_
            · (try dsimp only at hu); go_simp
            (try simp only [Act.put, List.setIfInBounds_toArray, List.set_cons_zero, List.set_cons_succ])
            refine G_take (i := 8) (oi := { dst := some 67, op := Op.load 22 (Operand.tmp 66), type := 22, pos := _, after := #[{ on := 7, ground := Ground.data }], guard := none }) (v := .slice ra1 (L x1) rc1) rfl (by kernel_rfl) (by kernel_rfl) (by kernel_rfl) (by kernel_rfl) (fun _ _ _ h => h) (by rfl) (fun u hu => ?_) hS0 ?_
            · (try dsimp only at hu); go_simp
            (try simp only [Act.put, List.setIfInBounds_toArray, List.set_cons_zero, List.set_cons_succ])
            refine G_take (i := 9) (oi := { dst := some 68, op := Op.move (Operand.tmp 7), type := 22, pos := _, after := #[], guard := none }) (v := .slice (some ⟨rb, ro, none⟩) (s + m + 1) rc) rfl (by kernel_rfl) (by kernel_rfl) (by kernel_rfl) (by kernel_rfl) (fun _ _ _ h => h) (by rfl) (fun u hu => ?_) hS0 ?_
            · (try dsimp only at hu); go_simp
            (try simp only [Act.put, List.setIfInBounds_toArray, List.set_cons_zero, List.set_cons_succ])
            refine G_take (i := 10) (oi := { dst := some 69, op := Op.move (Operand.tmp 8), type := 3, pos := _, after := #[], guard := none }) (v := .int .i64 ((k + 1 : Nat) : Int)) rfl (by kernel_rfl) (by kernel_rfl) (by kernel_rfl) (by kernel_rfl) (fun _ _ _ h => h) (by rfl) (fun u hu => ?_) hS0 ?_
            · (try dsimp only at hu); go_simp
            (try simp only [Act.put, List.setIfInBounds_toArray, List.set_cons_zero, List.set_cons_succ])
            refine G_take (i := 11) (oi := { dst := some 70, op := Op.indexAddr 22 (Operand.tmp 68) (Operand.tmp 69), type := 0, pos := _, after := #[{ on := 9, ground := Ground.data }, { on := 10, ground := Ground.data }], guard := none }) (v := .pointer (some ⟨rb, ro + (k + 1), none⟩)) rfl (by kernel_rfl) (by kernel_rfl) (by kernel_rfl) (by kernel_rfl) (fun _ _ _ h => h) (by rfl) (fun u hu => ?_) hS0 ?_
            · (try dsimp only at hu); (go_simp; try (intro hh; exfalso; omega))
            (try simp only [Act.put, List.setIfInBounds_toArray, List.set_cons_zero, List.set_cons_succ])
            refine G_take (i := 12) (oi := { dst := some 71, op := Op.load 3 (Operand.tmp 70), type := 3, pos := _, after := #[{ on := 11, ground := Ground.data }], guard := none }) (v := .int .i64 (x2 : Nat)) rfl (by kernel_rfl) (by kernel_rfl) (by kernel_rfl) (by kernel_rfl) (fun _ _ _ h => h) (by rfl) (fun u hu => ?_) hS0 ?_
            · (try dsimp only at hu); go_simp
            (try simp only [Act.put, List.setIfInBounds_toArray, List.set_cons_zero, List.set_cons_succ])
            refine G_step (i := 13) (o := { dst := some 72, op := Op.call { callee := Callee.value (Operand.func 42), args := #[Operand.tmp 67, Operand.tmp 71], argTypes := #[22, 3] }, type := 4, pos := _, after := #[{ on := 8, ground := Ground.data }, { on := 12, ground := Ground.data }], guard := none }) (by kernel_rfl) rfl (fun K' hK => ?_)
            go_simp
            refine CX.out.mono ?_
            rintro e z1 ⟨rfl, hq⟩
            obtain rfl := hq.symm
            dsimp only
            refine hK.out _ _ (fun _ => hS0) (fun _ => ?_)
            (try simp only [Act.put, List.setIfInBounds_toArray, List.set_cons_zero, List.set_cons_succ])
            refine G_take (i := 14) (oi := { dst := some 73, op := Op.unOp UnOp.not 4 (Operand.tmp 72), type := 4, pos := _, after := #[{ on := 13, ground := Ground.data }], guard := none }) (v := .bool false) rfl (by kernel_rfl) (by kernel_rfl) (by kernel_rfl) (by kernel_rfl) (fun _ _ _ h => h) (by rfl) (fun u hu => ?_) hS0 ?_
            · (try dsimp only at hu); go_simp
            (try simp only [Act.put, List.setIfInBounds_toArray, List.set_cons_zero, List.set_cons_succ])
            refine G_done (by kernel_rfl) ?_ _
            (try dsimp only [Exit.then])
            clear hS0 q1 e1 e2 e3
            go_wp2
            go_roundw
            case rel => exact ⟨k + 1, by omega, by go_num, hid ⟨HBD.out, snoc_all HJ.out.2 HH.out⟩⟩
            case measure => simp [intOf]; omega
        · have hlt2 : ¬ ((k + 1 : Nat) : Int) < (s : Nat) + (m : Nat) + 1 := by omega
          have HW : Hid (gd = mt) := hid (by
            rw [HGE2.out, HWY.out, decide_eq_true (fun i hi => HJ.out.2 i (by omega))]
            simp)
          have HBU := hid hwl
          have HBK : Hid (Below w.heap.size w wr) := hid (HBW6.out.trans (hwl.mono HBW6.out.size))
          clear HJ hk
          go_wp2
          clear z0 z1 q0 q1 q2 q3 hwl
          obtain ⟨u0, hu0⟩ : ∃ u0, u0 = wr := ⟨_, rfl⟩
          subst hu0
          go_loopw [9] (fun i wr => ∃ k : Nat, k ≤ K ∧ i = .int .i64 k ∧ Hid (Below u0.heap.size u0 wr ∧ ∀ j, j < k → anyH (FL j) (FZ j) Q m = true)) (fun i _ => K - (intOf i).toNat)
          case atStart => exact ⟨0, by omega, rfl, hid ⟨Below.refl _ _, fun j hj => by omega⟩⟩
          case round =>
            obtain ⟨k2, hk2, rfl, HJ⟩ := hrel
            have hwl := HJ.out.1
            have h26 : Below W2.heap.size W2 wr := (HB6.out.trans (HBU.out.mono HB6.out.size)).trans (hwl.mono (Nat.le_trans HB6.out.size HBU.out.size))
            have H26 := hid h26
            obtain ⟨q0, q1, q2, q3⟩ := HBW.out.below h26
            dsimp only at q0 q1 q2 q3
            have z1 := below_cell h26 (Nat.le_refl _) HY.out.2
            by_cases hlt2' : k2 < K
            · obtain rfl := HFA.out (by omega)
              obtain ⟨ra2, rc2, hck, hrow⟩ := HFC.out k2 hlt2'
              have HCK := hid hck
              have HROW := hid hrow
              obtain ⟨u1, hu1⟩ : ∃ u1, u1 = wr := ⟨_, rfl⟩
              subst hu1
              clear hwl h26 hck hrow
              go_wp2
              clear q0 q1 q2 q3 z1
              go_loopw [10, 11] (fun mv iv wr => ∃ (j : Nat) (b : Bool), j ≤ m ∧ mv = .bool b ∧ iv = .int .i64 j ∧ Hid (Below u1.heap.size u1 wr ∧ anyH (FL k2) (FZ k2) Q j = b)) (fun _ iv _ => m - (intOf iv).toNat)
              case atStart => exact ⟨0, false, by omega, rfl, rfl, hid ⟨Below.refl _ _, anyH_zero _ _ _⟩⟩
              case round =>
                obtain ⟨j, b, hj, rfl, rfl, HI2⟩ := hrel
                have hwl := HI2.out.1
                have h26 : Below W2.heap.size W2 wr := H26.out.trans (hwl.mono H26.out.size)
                obtain ⟨q0, q1, q2, q3⟩ := HBW.out.below h26
                dsimp only at q0 q1 q2 q3
                have z1 := below_cell h26 (Nat.le_refl _) HY.out.2
                by_cases hltj : j < m
                · obtain ⟨x, hx⟩ : ∃ x : Nat, Q j = x := ⟨(Q j).toNat, by have := (HQI.out j hltj).1; omega⟩
                  have e1 := below_cell h26 (Nat.le_refl _) (HQC.out j hltj)
                  rw [hx] at e1
                  have e2 := below_cell h26 (Nat.le_refl _) HCK.out
                  have CX := hid (conI ra2 (FL k2) rc2 (FZ k2) x wr.drew (HL47.out.2 k2 hlt2') ((HROW.out.below h26).below (Below.refl _ _).drew))
                  have HQE : Hid (anyH (FL k2) (FZ k2) Q j = false → anyH (FL k2) (FZ k2) Q (j + 1) = has (FL k2) (FZ k2) x) := hid (fun e => by rw [anyH_no e, hx])
                  have hltj2 : ((j : Nat) : Int) < (m : Nat) := by omega
                  have hS0 : (fun z : World => z.cell? ⟨w.heap.size, 3, none⟩ = some (.slice (some ⟨fb, fo, none⟩) K fc) ∧ z.cell? ⟨p1, 1, none⟩ = some (.slice (some ⟨qb, qo, none⟩) m qc) ∧ z.cell? ⟨fb, fo + k2, none⟩ = some (.slice ra2 (FL k2) rc2) ∧ z.cell? ⟨qb, qo + j, none⟩ = some (.int .i64 (x : Nat))) wr.drew := ⟨q3, z1, e2, e1⟩
                  have HBD : Hid (Below u1.heap.size u1 wr.drew) := hid hwl.drew
                  generalize has (FL k2) (FZ k2) ((x : Nat) : Int) = q at *
                  clear hx hwl h26 q0 q1 q2
                  cases b
                  · go_wp2_with fail
                    refine G_region (fun z : World => z.cell? ⟨w.heap.size, 3, none⟩ = some (.slice (some ⟨fb, fo, none⟩) K fc) ∧ z.cell? ⟨p1, 1, none⟩ = some (.slice (some ⟨qb, qo, none⟩) m qc) ∧ z.cell? ⟨fb, fo + k2, none⟩ = some (.slice ra2 (FL k2) rc2) ∧ z.cell? ⟨qb, qo + j, none⟩ = some (.int .i64 (x : Nat))) (fun _ => false) (by kernel_rfl) hS0 (fun _ => ?_)
                    refine G_take (i := 0) (oi := { dst := some 88, op := Op.move (Operand.tmp 10), type := 4, pos := _, after := #[], guard := none }) (v := .bool false) rfl (by kernel_rfl) (by kernel_rfl) (by kernel_rfl) (by kernel_rfl) (fun _ _ _ h => h) (by rfl) (fun u hu => ?_) hS0 ?_
                    · (try dsimp only at hu); go_simp
                    (try simp only [Act.put, List.setIfInBounds_toArray, List.set_cons_zero, List.set_cons_succ])
                    refine G_take (i := 1) (oi := { dst := some 89, op := Op.move (Operand.tmp 88), type := 4, pos := _, after := #[{ on := 0, ground := Ground.data }], guard := none }) (v := .bool false) rfl (by kernel_rfl) (by kernel_rfl) (by kernel_rfl) (by kernel_rfl) (fun _ _ _ h => h) (by rfl) (fun u hu => ?_) hS0 ?_
                    · (try dsimp only at hu); go_simp
                    (try simp only [Act.put, List.setIfInBounds_toArray, List.set_cons_zero, List.set_cons_succ])
                    refine G_take (i := 2) (oi := { dst := some 90, op := Op.fieldAddr 26 (Operand.tmp 3) 3, type := 0, pos := _, after := #[{ on := 1, ground := Ground.guard }], guard := some (1, false) }) (v := .pointer (some ⟨w.heap.size, 3, none⟩)) rfl (by kernel_rfl) (by kernel_rfl) (by kernel_rfl) (by kernel_rfl) (fun _ _ _ h => h) (by rfl) (fun u hu => ?_) hS0 ?_
                    · (try dsimp only at hu); go_simp
                    (try simp only [Act.put, List.setIfInBounds_toArray, List.set_cons_zero, List.set_cons_succ])
                    refine G_take (i := 3) (oi := { dst := some 91, op := Op.load 23 (Operand.tmp 90), type := 23, pos := _, after := #[{ on := 2, ground := Ground.data }, { on := 1, ground := Ground.guard }], guard := some (1, false) }) (v := .slice (some ⟨fb, fo, none⟩) K fc) rfl (by kernel_rfl) (by kernel_rfl) (by kernel_rfl) (by kernel_rfl) (fun _ _ _ h => h) (by rfl) (fun u hu => ?_) hS0 ?_
                    · (try dsimp only at hu); go_simp
                    (try simp only [Act.put, List.setIfInBounds_toArray, List.set_cons_zero, List.set_cons_succ])
                    refine G_take (i := 4) (oi := { dst := some 92, op := Op.move (Operand.tmp 9), type := 3, pos := _, after := #[{ on := 1, ground := Ground.guard }], guard := some (1, false) }) (v := .int .i64 (k2 : Nat)) rfl (by kernel_rfl) (by kernel_rfl) (by kernel_rfl) (by kernel_rfl) (fun _ _ _ h => h) (by rfl) (fun u hu => ?_) hS0 ?_
                    · (try dsimp only at hu); go_simp
                    (try simp only [Act.put, List.setIfInBounds_toArray, List.set_cons_zero, List.set_cons_succ])
                    refine G_take (i := 5) (oi := { dst := some 93, op := Op.indexAddr 23 (Operand.tmp 91) (Operand.tmp 92), type := 0, pos := _, after := #[{ on := 3, ground := Ground.data }, { on := 4, ground := Ground.data }, { on := 1, ground := Ground.guard }], guard := some (1, false) }) (v := .pointer (some ⟨fb, fo + k2, none⟩)) rfl (by kernel_rfl) (by kernel_rfl) (by kernel_rfl) (by kernel_rfl) (fun _ _ _ h => h) (by rfl) (fun u hu => ?_) hS0 ?_
                    · (try dsimp only at hu); go_simp
                    (try simp only [Act.put, List.setIfInBounds_toArray, List.set_cons_zero, List.set_cons_succ])
                    refine G_take (i := 6) (oi := { dst := some 94, op := Op.load 22 (Operand.tmp 93), type := 22, pos := _, after := #[{ on := 5, ground := Ground.data }, { on := 1, ground := Ground.guard }], guard := some (1, false) }) (v := .slice ra2 (FL k2) rc2) rfl (by kernel_rfl) (by kernel_rfl) (by kernel_rfl) (by kernel_rfl) (fun _ _ _ h => h) (by rfl) (fun u hu => ?_) hS0 ?_
                    · (try dsimp only at hu); go_simp
                    (try simp only [Act.put, List.setIfInBounds_toArray, List.set_cons_zero, List.set_cons_succ])
                    refine G_take (i := 7) (oi := { dst := some 95, op := Op.fieldAddr 37 (Operand.tmp 5) 1, type := 0, pos := _, after := #[{ on := 1, ground := Ground.guard }], guard := some (1, false) }) (v := .pointer (some ⟨p1, 1, none⟩)) rfl (by kernel_rfl) (by kernel_rfl) (by kernel_rfl) (by kernel_rfl) (fun _ _ _ h => h) (by rfl) (fun u hu => ?_) hS0 ?_
                    · (try dsimp only at hu); go_simp
                    (try simp only [Act.put, List.setIfInBounds_toArray, List.set_cons_zero, List.set_cons_succ])
                    refine G_take (i := 8) (oi := { dst := some 96, op := Op.load 22 (Operand.tmp 95), type := 22, pos := _, after := #[{ on := 7, ground := Ground.data }, { on := 1, ground := Ground.guard }], guard := some (1, false) }) (v := .slice (some ⟨qb, qo, none⟩) m qc) rfl (by kernel_rfl) (by kernel_rfl) (by kernel_rfl) (by kernel_rfl) (fun _ _ _ h => h) (by rfl) (fun u hu => ?_) hS0 ?_
                    · (try dsimp only at hu); go_simp
                    (try simp only [Act.put, List.setIfInBounds_toArray, List.set_cons_zero, List.set_cons_succ])
                    refine G_take (i := 9) (oi := { dst := some 97, op := Op.move (Operand.tmp 11), type := 3, pos := _, after := #[{ on := 1, ground := Ground.guard }], guard := some (1, false) }) (v := .int .i64 (j : Nat)) rfl (by kernel_rfl) (by kernel_rfl) (by kernel_rfl) (by kernel_rfl) (fun _ _ _ h => h) (by rfl) (fun u hu => ?_) hS0 ?_
                    · (try dsimp only at hu); go_simp
                    (try simp only [Act.put, List.setIfInBounds_toArray, List.set_cons_zero, List.set_cons_succ])
                    refine G_take (i := 10) (oi := { dst := some 98, op := Op.indexAddr 22 (Operand.tmp 96) (Operand.tmp 97), type := 0, pos := _, after := #[{ on := 8, ground := Ground.data }, { on := 9, ground := Ground.data }, { on := 1, ground := Ground.guard }], guard := some (1, false) }) (v := .pointer (some ⟨qb, qo + j, none⟩)) rfl (by kernel_rfl) (by kernel_rfl) (by kernel_rfl) (by kernel_rfl) (fun _ _ _ h => h) (by rfl) (fun u hu => ?_) hS0 ?_
                    · (try dsimp only at hu); go_simp
                    (try simp only [Act.put, List.setIfInBounds_toArray, List.set_cons_zero, List.set_cons_succ])
                    refine G_take (i := 11) (oi := { dst := some 99, op := Op.load 3 (Operand.tmp 98), type := 3, pos := _, after := #[{ on := 10, ground := Ground.data }, { on := 1, ground := Ground.guard }], guard := some (1, false) }) (v := .int .i64 (x : Nat)) rfl (by kernel_rfl) (by kernel_rfl) (by kernel_rfl) (by kernel_rfl) (fun _ _ _ h => h) (by rfl) (fun u hu => ?_) hS0 ?_
                    · (try dsimp only at hu); go_simp
                    (try simp only [Act.put, List.setIfInBounds_toArray, List.set_cons_zero, List.set_cons_succ])
                    refine G_step (i := 12) (o := { dst := some 100, op := Op.call { callee := Callee.value (Operand.func 42), args := #[Operand.tmp 94, Operand.tmp 99], argTypes := #[22, 3] }, type := 4, pos := _, after := #[{ on := 6, ground := Ground.data }, { on := 11, ground := Ground.data }, { on := 1, ground := Ground.chain }, { on := 1, ground := Ground.guard }], guard := some (1, false) }) (by kernel_rfl) rfl (fun K' hK => ?_)
                    go_simp
                    refine CX.out.mono ?_
                    rintro e z1 ⟨rfl, hq⟩
                    obtain rfl := hq.symm
                    dsimp only
                    refine hK.out _ _ (fun _ => hS0) (fun _ => ?_)
                    (try simp only [Act.put, List.setIfInBounds_toArray, List.set_cons_zero, List.set_cons_succ])
                    refine G_take (i := 13) (oi := { dst := some 101, op := Op.pick (Operand.tmp 89) (Operand.const (Value.bool true)) (Operand.tmp 100), type := 4, pos := _, after := #[{ on := 1, ground := Ground.data }, { on := 12, ground := Ground.data }], guard := none }) (v := .bool q) rfl (by kernel_rfl) (by kernel_rfl) (by kernel_rfl) (by kernel_rfl) (fun _ _ _ h => h) (by rfl) (fun u hu => ?_) hS0 ?_
                    · (try dsimp only at hu); go_simp
                    (try simp only [Act.put, List.setIfInBounds_toArray, List.set_cons_zero, List.set_cons_succ])
                    refine G_step (i := 14) (o := { dst := some 10, op := Op.assign (Operand.tmp 101), type := 4, pos := _, after := #[{ on := 13, ground := Ground.data }, { on := 12, ground := Ground.chain }, { on := 0, ground := Ground.phase }, { on := 1, ground := Ground.phase }, { on := 2, ground := Ground.phase }, { on := 3, ground := Ground.phase }, { on := 4, ground := Ground.phase }, { on := 5, ground := Ground.phase }, { on := 6, ground := Ground.phase }, { on := 7, ground := Ground.phase }, { on := 8, ground := Ground.phase }, { on := 9, ground := Ground.phase }, { on := 10, ground := Ground.phase }, { on := 11, ground := Ground.phase }, { on := 12, ground := Ground.phase }, { on := 13, ground := Ground.phase }], guard := none }) (by kernel_rfl) rfl (fun K' hK => ?_)
                    go_simp
                    refine hK.out _ _ (fun _ => hS0) (fun _ => ?_)
                    (try simp only [Act.put, List.setIfInBounds_toArray, List.set_cons_zero, List.set_cons_succ])
                    refine G_done (by kernel_rfl) ?_ _
                    (try dsimp only [Exit.then])
                    clear hS0 q3 z1 e1 e2
                    go_wp2
                    go_roundw
                    case rel => exact ⟨j + 1, _, by omega, rfl, by go_num, hid ⟨HBD.out, HQE.out HI2.out.2⟩⟩
                    case measure => simp [intOf]; omega
                  · go_wp2_with fail
                    refine G_region (fun z : World => z.cell? ⟨w.heap.size, 3, none⟩ = some (.slice (some ⟨fb, fo, none⟩) K fc) ∧ z.cell? ⟨p1, 1, none⟩ = some (.slice (some ⟨qb, qo, none⟩) m qc) ∧ z.cell? ⟨fb, fo + k2, none⟩ = some (.slice ra2 (FL k2) rc2) ∧ z.cell? ⟨qb, qo + j, none⟩ = some (.int .i64 (x : Nat))) (fun _ => false) (by kernel_rfl) hS0 (fun _ => ?_)
                    refine G_take (i := 0) (oi := { dst := some 88, op := Op.move (Operand.tmp 10), type := 4, pos := _, after := #[], guard := none }) (v := .bool true) rfl (by kernel_rfl) (by kernel_rfl) (by kernel_rfl) (by kernel_rfl) (fun _ _ _ h => h) (by rfl) (fun u hu => ?_) hS0 ?_
                    · (try dsimp only at hu); go_simp
                    (try simp only [Act.put, List.setIfInBounds_toArray, List.set_cons_zero, List.set_cons_succ])
                    refine G_take (i := 1) (oi := { dst := some 89, op := Op.move (Operand.tmp 88), type := 4, pos := _, after := #[{ on := 0, ground := Ground.data }], guard := none }) (v := .bool true) rfl (by kernel_rfl) (by kernel_rfl) (by kernel_rfl) (by kernel_rfl) (fun _ _ _ h => h) (by rfl) (fun u hu => ?_) hS0 ?_
                    · (try dsimp only at hu); go_simp
                    (try simp only [Act.put, List.setIfInBounds_toArray, List.set_cons_zero, List.set_cons_succ])
                    refine G_skip (i := 2) (oi := { dst := some 90, op := Op.fieldAddr 26 (Operand.tmp 3) 3, type := 0, pos := _, after := #[{ on := 1, ground := Ground.guard }], guard := some (1, false) }) rfl (by kernel_rfl) (by kernel_rfl) (by kernel_rfl) (by kernel_rfl) (fun _ _ _ h => h) (by rfl) hS0 ?_
                    (try simp only [Act.put, List.setIfInBounds_toArray, List.set_cons_zero, List.set_cons_succ])
                    refine G_skip (i := 3) (oi := { dst := some 91, op := Op.load 23 (Operand.tmp 90), type := 23, pos := _, after := #[{ on := 2, ground := Ground.data }, { on := 1, ground := Ground.guard }], guard := some (1, false) }) rfl (by kernel_rfl) (by kernel_rfl) (by kernel_rfl) (by kernel_rfl) (fun _ _ _ h => h) (by rfl) hS0 ?_
                    (try simp only [Act.put, List.setIfInBounds_toArray, List.set_cons_zero, List.set_cons_succ])
                    refine G_skip (i := 4) (oi := { dst := some 92, op := Op.move (Operand.tmp 9), type := 3, pos := _, after := #[{ on := 1, ground := Ground.guard }], guard := some (1, false) }) rfl (by kernel_rfl) (by kernel_rfl) (by kernel_rfl) (by kernel_rfl) (fun _ _ _ h => h) (by rfl) hS0 ?_
                    (try simp only [Act.put, List.setIfInBounds_toArray, List.set_cons_zero, List.set_cons_succ])
                    refine G_skip (i := 5) (oi := { dst := some 93, op := Op.indexAddr 23 (Operand.tmp 91) (Operand.tmp 92), type := 0, pos := _, after := #[{ on := 3, ground := Ground.data }, { on := 4, ground := Ground.data }, { on := 1, ground := Ground.guard }], guard := some (1, false) }) rfl (by kernel_rfl) (by kernel_rfl) (by kernel_rfl) (by kernel_rfl) (fun _ _ _ h => h) (by rfl) hS0 ?_
                    (try simp only [Act.put, List.setIfInBounds_toArray, List.set_cons_zero, List.set_cons_succ])
                    refine G_skip (i := 6) (oi := { dst := some 94, op := Op.load 22 (Operand.tmp 93), type := 22, pos := _, after := #[{ on := 5, ground := Ground.data }, { on := 1, ground := Ground.guard }], guard := some (1, false) }) rfl (by kernel_rfl) (by kernel_rfl) (by kernel_rfl) (by kernel_rfl) (fun _ _ _ h => h) (by rfl) hS0 ?_
                    (try simp only [Act.put, List.setIfInBounds_toArray, List.set_cons_zero, List.set_cons_succ])
                    refine G_skip (i := 7) (oi := { dst := some 95, op := Op.fieldAddr 37 (Operand.tmp 5) 1, type := 0, pos := _, after := #[{ on := 1, ground := Ground.guard }], guard := some (1, false) }) rfl (by kernel_rfl) (by kernel_rfl) (by kernel_rfl) (by kernel_rfl) (fun _ _ _ h => h) (by rfl) hS0 ?_
                    (try simp only [Act.put, List.setIfInBounds_toArray, List.set_cons_zero, List.set_cons_succ])
                    refine G_skip (i := 8) (oi := { dst := some 96, op := Op.load 22 (Operand.tmp 95), type := 22, pos := _, after := #[{ on := 7, ground := Ground.data }, { on := 1, ground := Ground.guard }], guard := some (1, false) }) rfl (by kernel_rfl) (by kernel_rfl) (by kernel_rfl) (by kernel_rfl) (fun _ _ _ h => h) (by rfl) hS0 ?_
                    (try simp only [Act.put, List.setIfInBounds_toArray, List.set_cons_zero, List.set_cons_succ])
                    refine G_skip (i := 9) (oi := { dst := some 97, op := Op.move (Operand.tmp 11), type := 3, pos := _, after := #[{ on := 1, ground := Ground.guard }], guard := some (1, false) }) rfl (by kernel_rfl) (by kernel_rfl) (by kernel_rfl) (by kernel_rfl) (fun _ _ _ h => h) (by rfl) hS0 ?_
                    (try simp only [Act.put, List.setIfInBounds_toArray, List.set_cons_zero, List.set_cons_succ])
                    refine G_skip (i := 10) (oi := { dst := some 98, op := Op.indexAddr 22 (Operand.tmp 96) (Operand.tmp 97), type := 0, pos := _, after := #[{ on := 8, ground := Ground.data }, { on := 9, ground := Ground.data }, { on := 1, ground := Ground.guard }], guard := some (1, false) }) rfl (by kernel_rfl) (by kernel_rfl) (by kernel_rfl) (by kernel_rfl) (fun _ _ _ h => h) (by rfl) hS0 ?_
                    (try simp only [Act.put, List.setIfInBounds_toArray, List.set_cons_zero, List.set_cons_succ])
                    refine G_skip (i := 11) (oi := { dst := some 99, op := Op.load 3 (Operand.tmp 98), type := 3, pos := _, after := #[{ on := 10, ground := Ground.data }, { on := 1, ground := Ground.guard }], guard := some (1, false) }) rfl (by kernel_rfl) (by kernel_rfl) (by kernel_rfl) (by kernel_rfl) (fun _ _ _ h => h) (by rfl) hS0 ?_
                    (try simp only [Act.put, List.setIfInBounds_toArray, List.set_cons_zero, List.set_cons_succ])
                    refine G_skip (i := 12) (oi := { dst := some 100, op := Op.call { callee := Callee.value (Operand.func 42), args := #[Operand.tmp 94, Operand.tmp 99], argTypes := #[22, 3] }, type := 4, pos := _, after := #[{ on := 6, ground := Ground.data }, { on := 11, ground := Ground.data }, { on := 1, ground := Ground.chain }, { on := 1, ground := Ground.guard }], guard := some (1, false) }) rfl (by kernel_rfl) (by kernel_rfl) (by kernel_rfl) (by kernel_rfl) (fun _ _ _ h => h) (by rfl) hS0 ?_
                    (try simp only [Act.put, List.setIfInBounds_toArray, List.set_cons_zero, List.set_cons_succ])
                    refine G_take (i := 13) (oi := { dst := some 101, op := Op.pick (Operand.tmp 89) (Operand.const (Value.bool true)) (Operand.tmp 100), type := 4, pos := _, after := #[{ on := 1, ground := Ground.data }, { on := 12, ground := Ground.data }], guard := none }) (v := .bool true) rfl (by kernel_rfl) (by kernel_rfl) (by kernel_rfl) (by kernel_rfl) (fun _ _ _ h => h) (by rfl) (fun u hu => ?_) hS0 ?_
                    · (try dsimp only at hu); go_simp
                    (try simp only [Act.put, List.setIfInBounds_toArray, List.set_cons_zero, List.set_cons_succ])
                    refine G_step (i := 14) (o := { dst := some 10, op := Op.assign (Operand.tmp 101), type := 4, pos := _, after := #[{ on := 13, ground := Ground.data }, { on := 12, ground := Ground.chain }, { on := 0, ground := Ground.phase }, { on := 1, ground := Ground.phase }, { on := 2, ground := Ground.phase }, { on := 3, ground := Ground.phase }, { on := 4, ground := Ground.phase }, { on := 5, ground := Ground.phase }, { on := 6, ground := Ground.phase }, { on := 7, ground := Ground.phase }, { on := 8, ground := Ground.phase }, { on := 9, ground := Ground.phase }, { on := 10, ground := Ground.phase }, { on := 11, ground := Ground.phase }, { on := 12, ground := Ground.phase }, { on := 13, ground := Ground.phase }], guard := none }) (by kernel_rfl) rfl (fun K' hK => ?_)
                    go_simp
                    refine hK.out _ _ (fun _ => hS0) (fun _ => ?_)
                    (try simp only [Act.put, List.setIfInBounds_toArray, List.set_cons_zero, List.set_cons_succ])
                    refine G_done (by kernel_rfl) ?_ _
                    (try dsimp only [Exit.then])
                    clear hS0 q3 z1 e1 e2
                    go_wp2
                    go_roundw
                    case rel => exact ⟨j + 1, _, by omega, rfl, by go_num, hid ⟨HBD.out, anyH_yes HI2.out.2⟩⟩
                    case measure => simp [intOf]; omega
                · have HJM : Hid (j = m) := hid (by omega)
                  have hltj2 : ¬ ((j : Nat) : Int) < (m : Nat) := by omega
                  have HBX : Hid (Below u0.heap.size u0 wr) := hid (HJ.out.1.trans (hwl.mono HJ.out.1.size))
                  have HAN := hid HI2.out.2
                  cases b
                  · have HF : Hid (gd = false) := hid (by
                      rw [HW.out, ← Bool.not_eq_true]
                      intro e
                      have := HMT.out.1 e k2 hlt2'
                      rw [← HJM.out, HAN.out] at this
                      cases this)
                    clear hwl h26
                    go_wp2
                    go_ret
                    exact ⟨ret_bool HF.out.symm, HBK.out.trans (HBX.out.mono HBK.out.size)⟩
                  · clear hwl h26
                    go_wp2
                    go_roundw
                    case rel => exact ⟨k2 + 1, by omega, by go_num, hid ⟨HBX.out, snoc_all HJ.out.2 (by rw [← HJM.out]; exact HAN.out)⟩⟩
                    case measure => simp [intOf]; omega
            · have HF : Hid (gd = true) := hid (by rw [HW.out]; exact HMT.out.2 (fun k hk => HJ.out.2 k (by omega)))
              have HBX := hid hwl
              clear hwl h26
              go_wp2
              go_ret
              exact ⟨ret_bool HF.out.symm, HBK.out.trans (HBX.out.mono HBK.out.size)⟩
  · obtain rfl : m = 0 := by omega
    have HF : Hid (gd = false) := hid (by rw [HGE.out]; simp)
    clear C1 C2 hm
    go_enter Try.func16, Try.ntmps16
    go_wp2
    go_ret
    exact ⟨ret_bool HF.out.symm, HB2.out⟩
end Go.Proofs.Ytgahdclbaifcbaa
