/- The document's Fair of a world, all states allowed. -/
import Derived.Test.YtgahdclbaifcbaaSts
import Derived.Test.YtgahdclbaifcbaaBgnJ
namespace Go.Proofs.Ytgahdclbaifcbaa
open Go.RowKit

/-- The rows as far as they are copied. -/
def Tkr (L : Nat → Nat) (Z : Nat → Nat → Int) (k i j : Nat) : List Int := if j < k then lstI (L j) (Z j) else if j = k then lstI i (Z j) else []

theorem tkr_next {L : Nat → Nat} {Z : Nat → Nat → Int} {k j : Nat} : Tkr L Z k (L k) j = Tkr L Z (k + 1) 0 j := by
  unfold Tkr
  by_cases e : j < k
  · rw [if_pos e, if_pos (by omega)]
  · by_cases e2 : j = k
    · subst e2
      rw [if_neg e, if_pos rfl, if_pos (by omega)]
    · rw [if_neg e, if_neg e2, if_neg (by omega)]
      by_cases e3 : j = k + 1
      · rw [if_pos e3]; rfl
      · rw [if_neg e3]
theorem lstI_snoc (n : Nat) (Z : Nat → Int) : lstI (n + 1) Z = lstI n Z ++ [Z n] := by simp [lstI, List.range_succ]
theorem tkr_step {L : Nat → Nat} {Z : Nat → Nat → Int} {k i j : Nat} : (if j = k then Tkr L Z k i k ++ [Z k i] else Tkr L Z k i j) = Tkr L Z k (i + 1) j := by
  by_cases e : j = k
  · subst e
    rw [if_pos rfl]
    unfold Tkr
    rw [if_neg (Nat.lt_irrefl _), if_pos rfl, if_neg (Nat.lt_irrefl _), if_pos rfl, lstI_snoc]
  · rw [if_neg e]
    unfold Tkr
    rw [if_neg e, if_neg e]
theorem tkr_len {L : Nat → Nat} {Z : Nat → Nat → Int} {k i : Nat} : (Tkr L Z k i k).length = i := by
  unfold Tkr
  rw [if_neg (Nat.lt_irrefl _), if_pos rfl]
  simp [lstI]

theorem Fam.drew {w wr : World} {G : Nat} {T : Nat → List Int} {V : Nat → Value} (h : Fam w wr G T V) : Fam w wr.drew G T V :=
  ⟨h.below.trans (below_drewN (Below.refl _ _) 1), h.top, fun j hj => owns_below (h.own j hj) (below_drewN (Below.refl _ _) 1), h.apart⟩
theorem below_stepd {W w w1 : World} {v : Value} {n : Nat} {l : List Value} (hb : Below W.heap.size W w) (ho : w.ownsRow (W.heap.size + 1) 3 1 v n l) (hg : w.grownBy w1 v.ownBlock) : Below W.heap.size W w1 :=
  hb.grown hg hb.size (fun k hk => by have := (ho.lt k hk).1; omega)
/-- An append of one value to an own row, as one operation; where the row lies then. -/
theorem step_append_at {P : Program} (w : World) {o : Oper} {a : Act} {K : Act → World → Prop} {Q : Exit → Act → World → Prop} {E : Prop} (hgd : o.guard = none) {ops : Array Oper} (s x : Operand) (t : TypeId)
    (ho : o.op = .call { callee := .builtin .append, args := #[s, x], argTypes := #[t, t] })
    (base : Nat) (e : TypeId) (i : TypeInfo) (z : Value) (bytes : Nat) (ht : P.underlying t = some (.slice e)) (hi : P.info? e = some i) (hz : i.zero = some z) (hsize : i.size = 1) (hby : i.bytes = bytes) (hzs : z.cells.size = 1)
    (v : Value) (n : Nat) (xs : List Value) (hs : a.eval s = v) (hown : w.ownsRow base e 1 v n xs)
    (ad : Addr) (d : Nat) (y : Value) (hx : a.eval x = .slice (some ad) 1 d) (hnews : ∀ j u, [y][j]? = some u → w.cell? (ad.add j) = some u) (h1 : y.oneCell' = true) (hsum : (n + 1) * bytes ≤ 140737488355328 ∧ n + 1 ≤ maxLen) (hbase : base ≤ w.heap.size)
    (h : ∀ v' w', w'.ownsRow base e 1 v' (n + 1) (xs ++ [y]) → w.grownBy w' v.ownBlock → (v'.ownBlock = v.ownBlock ∨ v'.ownBlock = some w.heap.size) → K (a.put o.dst v') w') :
    if Region.wanted o (yielded ops a.tmps) = true then Oper.wp P o a w K Q else E := by
  have hw : Region.wanted o (yielded ops a.tmps) = true := by simp [Region.wanted, hgd]
  rw [if_pos hw]
  obtain ⟨v', w', hr, h2, h3, h4, h5⟩ := run_append_own_at (P := P) w base t o.type e i z 1 bytes ht hi hz hsize hby hzs (by decide) v n xs hown ad 1 d [y] rfl hnews (fun u hu => by rw [List.mem_singleton.1 hu]; exact h1) hsum.2 hsum.1 hbase
  unfold Oper.wp execOp
  simp only [ho, resolve, invoke, builtin, Sem.run_bind, Sem.run_pure, Result.andThen_ok, List.map_toArray, List.map_cons, List.map_nil, hs, hx, hr]
  exact h v' w' h2 h3 h5

set_option maxHeartbeats 4000000 in
theorem docFair_any (A : Wx) (ib : Nat) (w : World) (h : Ww w A) (h0 : chkW A = 0) (h8 : ∀ r, r < A.G → A.L r * 8 ≤ 140737488355328) (hi : w.rowIs ib 4 A.G (fun _ => .bool true)) :
    Calls Try.prog 11 #[.agg #[.slice A.sa A.sn A.sc, .slice A.na A.G A.nc, .slice A.la A.M A.lc, .slice A.fa A.K A.fc], .slice (some ⟨ib, 0, none⟩) A.G A.G] w fun e w' => ∃ b, e = .returned (.slice (some ⟨b, 0, none⟩) A.G A.G) ∧ Hid (Below w.heap.size w w' ∧ w.heap.size ≤ b ∧ Mk0 w' b A.G (Begins A)) := by
  obtain ⟨W1, hW1, hb1, hs1, hbw⟩ := boxw w A
  obtain ⟨hG, hK, -, -, -, hz, hfz⟩ := chkW_ok h0
  have hw1 := h.below hb1
  have hmk := run_make_row' (P := Try.prog) 23 22 (.slice none 0 0) 24 Try.underlying23 Try.info22 rfl .i64 .i64 A.G (by omega) (by omega)
  obtain ⟨nb, no, hna, hnc⟩ := hw1.next
  have HC := hid hnc
  have HB1 := hid hb1
  have HZ := hid hz
  have H8 := hid h8
  have HBW := hid hbw
  have HIN := hid (hi.of_block (hb1.block _ hi.lt))
  have HQN : Hid (0 < A.G → A.na = some ⟨nb, no, none⟩) := hid hna
  have CS := hid (fun (y : World) (hy : Below W1.heap.size W1 y) => sets_any A y (hw1.below hy) h0)
  have HFB := hid (fun i => fair_begins h0 i)
  generalize Begins A = BG at *
  obtain ⟨i0, hi, hz0, hz1, hz2⟩ := info_parts Try.info3
  have HI : Hid (Try.prog.info? 3 = some i0 ∧ i0.zero = some (.int .i64 0) ∧ i0.size = 1 ∧ i0.bytes = 8) := ⟨hi, hz0, hz1, hz2⟩
  obtain ⟨q0, q1, q2, q3⟩ := hbw
  clear hi hz0 hz1 hz2 hnc hb1 hs1 h h0 hz hfz hna h8 hw1
  obtain ⟨sa, sn, sc, na, G, nc, la, M, lc, fa, K, fc, S, L, Z, Lb, FL, FZ⟩ := A
  dsimp only at *
  obtain ⟨bw, hbwd⟩ : ∃ b, w.heap.size = b := ⟨_, rfl⟩
  rw [hbwd] at HBW q0 q1 q2 q3
  go_enter Try.func11, Try.ntmps11
  go_wp2
  clear hmk q0 q1 q2 q3
  have HL0 : Hid (∃ V, Fam W1 (W1.alloc (.cells (madeCells #[.slice none 0 0] G) 22)) G (Tkr L Z 0 0) V) := hid ⟨_, fam_start W1 G _ (fun j _ => by unfold Tkr; rw [if_neg (Nat.not_lt_zero _)]; split <;> rfl)⟩
  go_loopw [6] (fun i wr => ∃ r : Nat, r ≤ G ∧ i = .int .i64 r ∧ Hid (∃ V, Fam W1 wr G (Tkr L Z r 0) V)) (fun i _ => G - (intOf i).toNat)
  case atStart => exact ⟨0, Nat.zero_le _, rfl, HL0⟩
  case round =>
    clear HL0
    obtain ⟨r, hr, rfl, HV⟩ := hrel
    by_cases hlt : r < G
    · obtain rfl := HQN.out (by omega)
      have hrz : (r : Int) < G := by omega
      go_wp2
      go_loopw [7] (fun i wi => ∃ k : Nat, k ≤ L r ∧ i = .int .i64 k ∧ Hid (∃ V, Fam W1 wi G (Tkr L Z r k) V)) (fun i _ => L r - (intOf i).toNat)
      case atStart => exact ⟨0, Nat.zero_le _, rfl, HV⟩
      case round =>
        clear HV
        obtain ⟨k, hk, rfl, HV⟩ := hrel
        obtain ⟨V, hF⟩ := HV.out
        obtain ⟨q0, q1, q2, q3⟩ := HBW.out.below hF.below
        dsimp only at q0 q1 q2 q3
        obtain ⟨a, c, hck0, hrow0⟩ := HC.out r hlt
        have hck := below_cell hF.below (Nat.le_refl _) hck0
        have H8r := H8.out r hlt
        by_cases hlk : k < L r
        · obtain ⟨b', o', ha', hc'⟩ := hrow0
          obtain rfl := ha' (by omega)
          obtain ⟨t, ht⟩ : ∃ t : Nat, Z r k = t := ⟨(Z r k).toNat, by have := HZ.out r hlt k hlk; omega⟩
          have htG : t < G := by have := HZ.out r hlt k hlk; omega
          have htz : (t : Int) < G := by omega
          have hkz : (k : Int) < L r := by omega
          have hcell := below_cell hF.below (Nat.le_refl _) (hc' k hlk)
          rw [ht] at hcell
          have hin1 := below_cell hF.below (Nat.le_refl _) (HIN.out.cell hlt)
          have hin2 := below_cell hF.below (Nat.le_refl _) (HIN.out.cell htG)
          obtain ⟨a2, c2, hv, hrow⟩ := owns_row (hF.own r hlt)
          have hown := hF.own r hlt
          have htop := hF.top.cell hlt
          rw [hv] at hown htop
          have hF2 : Hid (Fam W1 wr G (Tkr L Z r k) V) := hid hF
          have HVr := hid hv
          have HN : Hid ((Tkr L Z r k r).length = k) := hid tkr_len
          rw [HN.out] at hown htop
          have HO := hid hown
          have hsize := hF.size
          have HT := hid ht
          have HCK := hid (And.intro hck0 (by have := hc' k hlk; rw [ht] at this; exact this : W1.cell? ⟨b', o' + k, none⟩ = some (.int .i64 (t : Nat))))
          clear hck0 hc' ha' hF hv hown hrow ht
          have HVr2 : Hid (V r = .slice a2 k c2) := hid (by rw [HVr.out, HN.out])
          have HS0 : Hid (∀ z, Below wr.heap.size wr z → (fun y : World => y.cell? ⟨bw, 1, none⟩ = some (.slice (some ⟨nb, no, none⟩) G nc) ∧ y.cell? ⟨nb, no + r, none⟩ = some (.slice (some ⟨b', o', none⟩) (L r) c) ∧ y.cell? ⟨b', o' + k, none⟩ = some (.int .i64 (t : Nat)) ∧ y.cell? ⟨W1.heap.size, r, none⟩ = some (.slice a2 k c2)) z) := hid (fun z hz => ⟨below_cell hz (Nat.le_refl _) q1, below_cell hz (Nat.le_refl _) hck, below_cell hz (Nat.le_refl _) hcell, below_cell hz (Nat.le_refl _) htop⟩)
          obtain ⟨_, hq1, _, _⟩ := HBW.out
          dsimp only at hq1
          have HSW : Hid (∀ z, Below W1.heap.size W1 z → z.cell? ⟨W1.heap.size, r, none⟩ = some (.slice a2 k c2) → (fun y : World => y.cell? ⟨bw, 1, none⟩ = some (.slice (some ⟨nb, no, none⟩) G nc) ∧ y.cell? ⟨nb, no + r, none⟩ = some (.slice (some ⟨b', o', none⟩) (L r) c) ∧ y.cell? ⟨b', o' + k, none⟩ = some (.int .i64 (t : Nat)) ∧ y.cell? ⟨W1.heap.size, r, none⟩ = some (.slice a2 k c2)) z) := hid (fun z hz hh => ⟨below_cell hz (Nat.le_refl _) hq1, below_cell hz (Nat.le_refl _) HCK.out.1, below_cell hz (Nat.le_refl _) HCK.out.2, hh⟩)
          have hB0 : Below wr.heap.size wr wr.drew := below_drewN (Below.refl _ _) 1
          clear hq1 HCK HVr
          go_wp2_with fail
          refine G_region (fun y : World => y.cell? ⟨bw, 1, none⟩ = some (.slice (some ⟨nb, no, none⟩) G nc) ∧ y.cell? ⟨nb, no + r, none⟩ = some (.slice (some ⟨b', o', none⟩) (L r) c) ∧ y.cell? ⟨b', o' + k, none⟩ = some (.int .i64 (t : Nat)) ∧ y.cell? ⟨W1.heap.size, r, none⟩ = some (.slice a2 k c2)) (fun i => i == 17) (by kernel_rfl) (HS0.out _ hB0) (fun _ => ?_)
          refine G_take (i := 0) (oi := { dst := some 45, op := Op.move (Operand.tmp 5), type := 23, pos := _, after := #[], guard := none }) (v := .slice (some ⟨W1.heap.size, 0, none⟩) G G) rfl (by kernel_rfl) (by kernel_rfl) (by kernel_rfl) (by kernel_rfl) (fun _ _ _ h => h) (by rfl) (fun u hu => ?_) (HS0.out _ hB0) ?_
          · (try dsimp only at hu); go_simp
          (try simp only [Act.put, List.setIfInBounds_toArray, List.set_cons_zero, List.set_cons_succ])
          refine G_take (i := 1) (oi := { dst := some 46, op := Op.move (Operand.tmp 6), type := 3, pos := _, after := #[], guard := none }) (v := .int .i64 (r : Nat)) rfl (by kernel_rfl) (by kernel_rfl) (by kernel_rfl) (by kernel_rfl) (fun _ _ _ h => h) (by rfl) (fun u hu => ?_) (HS0.out _ hB0) ?_
          · (try dsimp only at hu); go_simp
          (try simp only [Act.put, List.setIfInBounds_toArray, List.set_cons_zero, List.set_cons_succ])
          refine G_take (i := 2) (oi := { dst := some 47, op := Op.move (Operand.tmp 5), type := 23, pos := _, after := #[], guard := none }) (v := .slice (some ⟨W1.heap.size, 0, none⟩) G G) rfl (by kernel_rfl) (by kernel_rfl) (by kernel_rfl) (by kernel_rfl) (fun _ _ _ h => h) (by rfl) (fun u hu => ?_) (HS0.out _ hB0) ?_
          · (try dsimp only at hu); go_simp
          (try simp only [Act.put, List.setIfInBounds_toArray, List.set_cons_zero, List.set_cons_succ])
          refine G_take (i := 3) (oi := { dst := some 48, op := Op.move (Operand.tmp 6), type := 3, pos := _, after := #[], guard := none }) (v := .int .i64 (r : Nat)) rfl (by kernel_rfl) (by kernel_rfl) (by kernel_rfl) (by kernel_rfl) (fun _ _ _ h => h) (by rfl) (fun u hu => ?_) (HS0.out _ hB0) ?_
          · (try dsimp only at hu); go_simp
          (try simp only [Act.put, List.setIfInBounds_toArray, List.set_cons_zero, List.set_cons_succ])
          refine G_take (i := 4) (oi := { dst := some 49, op := Op.indexAddr 23 (Operand.tmp 47) (Operand.tmp 48), type := 0, pos := _, after := #[{ on := 2, ground := Ground.data }, { on := 3, ground := Ground.data }], guard := none }) (v := .pointer (some ⟨W1.heap.size, r, none⟩)) rfl (by kernel_rfl) (by kernel_rfl) (by kernel_rfl) (by kernel_rfl) (fun _ _ _ h => h) (by rfl) (fun u hu => ?_) (HS0.out _ hB0) ?_
          · (try dsimp only at hu); go_simp
          (try simp only [Act.put, List.setIfInBounds_toArray, List.set_cons_zero, List.set_cons_succ])
          refine G_take (i := 5) (oi := { dst := some 50, op := Op.load 22 (Operand.tmp 49), type := 22, pos := _, after := #[{ on := 4, ground := Ground.data }], guard := none }) (v := .slice a2 k c2) rfl (by kernel_rfl) (by kernel_rfl) (by kernel_rfl) (by kernel_rfl) (fun _ _ _ h => h) (by rfl) (fun u hu => ?_) (HS0.out _ hB0) ?_
          · (try dsimp only at hu); go_simp
          (try simp only [Act.put, List.setIfInBounds_toArray, List.set_cons_zero, List.set_cons_succ])
          refine G_take (i := 6) (oi := { dst := some 51, op := Op.fieldAddr 26 (Operand.tmp 2) 1, type := 0, pos := _, after := #[], guard := none }) (v := .pointer (some ⟨bw, 1, none⟩)) rfl (by kernel_rfl) (by kernel_rfl) (by kernel_rfl) (by kernel_rfl) (fun _ _ _ h => h) (by rfl) (fun u hu => ?_) (HS0.out _ hB0) ?_
          · (try dsimp only at hu); go_simp
          (try simp only [Act.put, List.setIfInBounds_toArray, List.set_cons_zero, List.set_cons_succ])
          refine G_take (i := 7) (oi := { dst := some 52, op := Op.load 23 (Operand.tmp 51), type := 23, pos := _, after := #[{ on := 6, ground := Ground.data }], guard := none }) (v := .slice (some ⟨nb, no, none⟩) G nc) rfl (by kernel_rfl) (by kernel_rfl) (by kernel_rfl) (by kernel_rfl) (fun _ _ _ h => h) (by rfl) (fun u hu => ?_) (HS0.out _ hB0) ?_
          · (try dsimp only at hu); go_simp
          (try simp only [Act.put, List.setIfInBounds_toArray, List.set_cons_zero, List.set_cons_succ])
          refine G_take (i := 8) (oi := { dst := some 53, op := Op.move (Operand.tmp 6), type := 3, pos := _, after := #[], guard := none }) (v := .int .i64 (r : Nat)) rfl (by kernel_rfl) (by kernel_rfl) (by kernel_rfl) (by kernel_rfl) (fun _ _ _ h => h) (by rfl) (fun u hu => ?_) (HS0.out _ hB0) ?_
          · (try dsimp only at hu); go_simp
          (try simp only [Act.put, List.setIfInBounds_toArray, List.set_cons_zero, List.set_cons_succ])
          refine G_take (i := 9) (oi := { dst := some 54, op := Op.indexAddr 23 (Operand.tmp 52) (Operand.tmp 53), type := 0, pos := _, after := #[{ on := 7, ground := Ground.data }, { on := 8, ground := Ground.data }], guard := none }) (v := .pointer (some ⟨nb, no + r, none⟩)) rfl (by kernel_rfl) (by kernel_rfl) (by kernel_rfl) (by kernel_rfl) (fun _ _ _ h => h) (by rfl) (fun u hu => ?_) (HS0.out _ hB0) ?_
          · (try dsimp only at hu); go_simp
          (try simp only [Act.put, List.setIfInBounds_toArray, List.set_cons_zero, List.set_cons_succ])
          refine G_take (i := 10) (oi := { dst := some 55, op := Op.load 22 (Operand.tmp 54), type := 22, pos := _, after := #[{ on := 9, ground := Ground.data }], guard := none }) (v := .slice (some ⟨b', o', none⟩) (L r) c) rfl (by kernel_rfl) (by kernel_rfl) (by kernel_rfl) (by kernel_rfl) (fun _ _ _ h => h) (by rfl) (fun u hu => ?_) (HS0.out _ hB0) ?_
          · (try dsimp only at hu); go_simp
          (try simp only [Act.put, List.setIfInBounds_toArray, List.set_cons_zero, List.set_cons_succ])
          refine G_take (i := 11) (oi := { dst := some 56, op := Op.move (Operand.tmp 7), type := 3, pos := _, after := #[], guard := none }) (v := .int .i64 (k : Nat)) rfl (by kernel_rfl) (by kernel_rfl) (by kernel_rfl) (by kernel_rfl) (fun _ _ _ h => h) (by rfl) (fun u hu => ?_) (HS0.out _ hB0) ?_
          · (try dsimp only at hu); go_simp
          (try simp only [Act.put, List.setIfInBounds_toArray, List.set_cons_zero, List.set_cons_succ])
          refine G_take (i := 12) (oi := { dst := some 57, op := Op.indexAddr 22 (Operand.tmp 55) (Operand.tmp 56), type := 0, pos := _, after := #[{ on := 10, ground := Ground.data }, { on := 11, ground := Ground.data }], guard := none }) (v := .pointer (some ⟨b', o' + k, none⟩)) rfl (by kernel_rfl) (by kernel_rfl) (by kernel_rfl) (by kernel_rfl) (fun _ _ _ h => h) (by rfl) (fun u hu => ?_) (HS0.out _ hB0) ?_
          · (try dsimp only at hu); go_simp
          (try simp only [Act.put, List.setIfInBounds_toArray, List.set_cons_zero, List.set_cons_succ])
          refine G_take (i := 13) (oi := { dst := some 58, op := Op.load 3 (Operand.tmp 57), type := 3, pos := _, after := #[{ on := 12, ground := Ground.data }], guard := none }) (v := .int .i64 (t : Nat)) rfl (by kernel_rfl) (by kernel_rfl) (by kernel_rfl) (by kernel_rfl) (fun _ _ _ h => h) (by rfl) (fun u hu => ?_) (HS0.out _ hB0) ?_
          · (try dsimp only at hu); go_simp
          (try simp only [Act.put, List.setIfInBounds_toArray, List.set_cons_zero, List.set_cons_succ])
          refine G_step (i := 14) (o := { dst := some 59, op := Op.buildSlice 22 1 #[(0, Operand.tmp 58)], type := 22, pos := _, after := #[{ on := 13, ground := Ground.data }], guard := none }) (by kernel_rfl) rfl (fun K' hK => ?_)
          go_simp
          have hB3 := hB0.trans ((box_below wr.drew (.cells #[.int .i64 (t : Nat)] 3)).mono hB0.size)
          refine hK.out _ _ (fun _ => HS0.out _ hB3) (fun _ => ?_)
          clear hK K'
          (try simp only [Act.put, List.setIfInBounds_toArray, List.set_cons_zero, List.set_cons_succ])
          refine G_step (i := 15) (o := { dst := some 60, op := Op.call { callee := Callee.builtin Builtin.append, args := #[Operand.tmp 50, Operand.tmp 59], argTypes := #[22, 22] }, type := 22, pos := _, after := #[{ on := 5, ground := Ground.data }, { on := 14, ground := Ground.data }], guard := none }) (by kernel_rfl) rfl (fun K' hK => ?_)
          refine step_append_at _ rfl _ _ 22 rfl (W1.heap.size + 1) 3 i0 (.int .i64 0) 8 Try.underlying22 HI.out.1 HI.out.2.1 HI.out.2.2.1 HI.out.2.2.2 rfl (.slice a2 k c2) k (vals (Tkr L Z r k r)) rfl ((owns_below HO.out hB0).alloc _) ⟨wr.drew.heap.size, 0, none⟩ 1 (.int .i64 (t : Nat)) rfl (fun j u hu => cell_one_new _ _ _ j u hu) rfl ⟨by omega, by unfold maxLen; omega⟩ (by have h1 : W1.heap.size + 1 ≤ wr.drew.heap.size := hsize; simp; omega) ?_
          intro v' w2 hown' hgrow hloc
          obtain ⟨⟨a3, c3, rfl⟩, g1, g2, G3⟩ := Fam.step' hF2.out.drew hlt HN.out HVr2.out hown' hgrow hloc
          have HS5 : Hid ((fun y : World => y.cell? ⟨bw, 1, none⟩ = some (.slice (some ⟨nb, no, none⟩) G nc) ∧ y.cell? ⟨nb, no + r, none⟩ = some (.slice (some ⟨b', o', none⟩) (L r) c) ∧ y.cell? ⟨b', o' + k, none⟩ = some (.int .i64 (t : Nat)) ∧ y.cell? ⟨W1.heap.size, r, none⟩ = some (.slice a2 k c2)) w2) := hid (HSW.out w2 (below_stepd ((hF2.out.drew.below).alloc hF2.out.drew.below.size _) ((owns_below HO.out hB0).alloc _) hgrow) g1)
          refine hK.out _ _ (fun _ => HS5.out) (fun _ => ?_)
          clear hK K' hown' hgrow hloc
          (try simp only [Act.put, List.setIfInBounds_toArray, List.set_cons_zero, List.set_cons_succ])
          refine G_take (i := 16) (oi := { dst := some 61, op := Op.indexAddr 23 (Operand.tmp 45) (Operand.tmp 46), type := 0, pos := _, after := #[{ on := 0, ground := Ground.data }, { on := 1, ground := Ground.data }, { on := 0, ground := Ground.phase }, { on := 1, ground := Ground.phase }, { on := 2, ground := Ground.phase }, { on := 3, ground := Ground.phase }, { on := 4, ground := Ground.phase }, { on := 5, ground := Ground.phase }, { on := 6, ground := Ground.phase }, { on := 7, ground := Ground.phase }, { on := 8, ground := Ground.phase }, { on := 9, ground := Ground.phase }, { on := 10, ground := Ground.phase }, { on := 11, ground := Ground.phase }, { on := 12, ground := Ground.phase }, { on := 13, ground := Ground.phase }, { on := 14, ground := Ground.phase }, { on := 15, ground := Ground.phase }], guard := none }) (v := .pointer (some ⟨W1.heap.size, r, none⟩)) rfl (by kernel_rfl) (by kernel_rfl) (by kernel_rfl) (by kernel_rfl) (fun _ _ _ h => h) (by rfl) (fun u hu => ?_) HS5.out ?_
          · (try dsimp only at hu); go_simp
          (try simp only [Act.put, List.setIfInBounds_toArray, List.set_cons_zero, List.set_cons_succ])
          refine G_step (i := 17) (o := { dst := none, op := Op.store 22 (Operand.tmp 61) (Operand.tmp 60), type := 0, pos := _, after := #[{ on := 16, ground := Ground.data }, { on := 15, ground := Ground.data }, { on := 15, ground := Ground.chain }, { on := 0, ground := Ground.phase }, { on := 1, ground := Ground.phase }, { on := 2, ground := Ground.phase }, { on := 3, ground := Ground.phase }, { on := 4, ground := Ground.phase }, { on := 5, ground := Ground.phase }, { on := 6, ground := Ground.phase }, { on := 7, ground := Ground.phase }, { on := 8, ground := Ground.phase }, { on := 9, ground := Ground.phase }, { on := 10, ground := Ground.phase }, { on := 11, ground := Ground.phase }, { on := 12, ground := Ground.phase }, { on := 13, ground := Ground.phase }, { on := 14, ground := Ground.phase }, { on := 15, ground := Ground.phase }], guard := none }) (by kernel_rfl) rfl (fun K' hK => ?_)
          go_simp
          refine hK.out _ _ (fun hh => by cases hh) (fun _ => ?_)
          clear hK K'
          (try simp only [Act.put, List.setIfInBounds_toArray, List.set_cons_zero, List.set_cons_succ])
          refine G_done (by kernel_rfl) ?_ _
          go_wp2
          go_roundw
          case rel => exact ⟨k + 1, by omega, by go_num, hid ⟨_, G3.out.congr (fun j _ => by rw [← HT.out]; exact tkr_step)⟩⟩
          case measure => simp [intOf]; omega
        · obtain rfl : k = L r := by omega
          have HV2 : Hid (∃ V, Fam W1 wr G (Tkr L Z (r + 1) 0) V) := hid ⟨V, hF.congr (fun j _ => tkr_next)⟩
          clear hF hrow0 hck0
          go_wp2
          go_roundw
          case rel => exact ⟨r + 1, by omega, by go_num, HV2⟩
          case measure => simp [intOf]; omega
    · obtain rfl : r = G := by omega
      obtain ⟨V, hF⟩ := HV.out
      obtain ⟨q0, q1, q2, q3⟩ := HBW.out.below hF.below
      dsimp only at q0 q1 q2 q3
      have CS2 := hid (CS.out wr hF.below)
      have hgr : Gr wr (some ⟨W1.heap.size, 0, none⟩) r L Z := by
        refine ⟨W1.heap.size, 0, fun _ => rfl, fun j hj => ?_⟩
        obtain ⟨a, c, hv, hrow⟩ := owns_row (hF.own j hj)
        have e : Tkr L Z r 0 j = lstI (L j) (Z j) := by unfold Tkr; rw [if_pos hj]
        rw [e] at hv hrow
        rw [lstI_len] at hv hrow
        refine ⟨a, c, by rw [Nat.zero_add, hF.top.cell hj, hv], ?_⟩
        obtain ⟨b, o, h1, h2⟩ := hrow
        exact ⟨b, o, h1, fun i hi => by rw [h2 i hi]; show some (Value.int .i64 ((lstI (L j) (Z j)).getD i 0)) = _; rw [List.getD_eq_getElem?_getD, lstI_at _ _ _ hi]; rfl⟩
      have HGR := hid hgr
      have HBr := hid hF.below
      clear hF hgr CS
      go_wp2_with fail
      refine CS2.out.mono ?_
      rintro e w2 ⟨sa2, sc2, rfl, HX⟩
      have CW := hid (ways_any (some ⟨W1.heap.size, 0, none⟩) r r L Z sa2 K sc2 (fun k x => has (FL k) (FZ k) (x : Nat)) w2 (by omega) hK (HGR.out.below HX.out.1) (fun j hj => by have := H8.out j hj; omega) (fun j hj => allIn_yes (HZ.out j hj)) HX.out.2)
      clear q0 q1 q2 q3 CS2
      go_wp2_with fail
      refine CW.out.mono ?_
      rintro e w3 ⟨z, rfl, hzr, hzi, hb3⟩
      have HF : Hid (Below w.heap.size w w3 ∧ w.heap.size ≤ w2.heap.size ∧ Mk0 w3 w2.heap.size r BG) := hid ⟨by
          have h1 := HBr.out.trans (HX.out.1.mono HBr.out.size)
          exact HB1.out.trans ((h1.trans (hb3.mono h1.size)).mono HB1.out.size), by
          have h1 := HBr.out.size
          have h2 := HX.out.1.size
          have h3 := HB1.out.size
          omega, z, hzr, fun i hi => (hzi i hi).trans (HFB.out i)⟩
      clear hzr hzi hb3 CW HX
      go_wp2
      go_ret
      first | exact HF | exact ⟨_, rfl, HF⟩

end Go.Proofs.Ytgahdclbaifcbaa
