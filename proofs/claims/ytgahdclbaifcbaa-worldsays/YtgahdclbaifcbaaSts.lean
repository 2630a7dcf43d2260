/- The document's sets of a world. -/
import Derived.Test.YtgahdclbaifcbaaFgoJ
import Derived.Test.YtgahdclbaifcbaaWayJ
import Derived.Test.YtgahdclbaifcbaaLsi
import Derived.Test.YtgahdclbaifcbaaPth
namespace Go.Proofs.Ytgahdclbaifcbaa
open Go.RowKit

/-- The lists of marks, as far as the first k sets tell. -/
def Ss (U wr : World) (N : Nat) (FL : Nat → Nat) (FZ : Nat → Nat → Int) (k : Nat) (v : Value) : Prop :=
  ∃ l : List Value, Below U.heap.size U wr ∧ wr.ownsRow U.heap.size 29 1 v k l ∧ l.length = k ∧ ∀ j, j < k → ∃ bj, l[j]? = some (.slice (some ⟨bj, 0, none⟩) N N) ∧ wr.rowIs bj 4 N (fun x => .bool (has (FL j) (FZ j) x))

theorem row4_apart {w : World} {base b n k : Nat} {f : Nat → Value} {v : Value} {l : List Value} (hr : w.rowIs b 4 n f) (ho : w.ownsRow base 29 1 v k l) : v.ownBlock ≠ some b := by
  intro e
  obtain ⟨c2, z, h⟩ := owns_blk ho e
  obtain ⟨c, h1, _⟩ := hr
  rw [h1] at h
  cases h

theorem ss_step {U wr w2 w5 : World} {N : Nat} {FL : Nat → Nat} {FZ : Nat → Nat → Int} {k bm : Nat} {v v' : Value} {l : List Value} {o : Obj} (hb : Below U.heap.size U wr) (ho : wr.ownsRow U.heap.size 29 1 v k l) (hl : l.length = k)
    (hj : ∀ j, j < k → ∃ bj, l[j]? = some (.slice (some ⟨bj, 0, none⟩) N N) ∧ wr.rowIs bj 4 N (fun x => .bool (has (FL j) (FZ j) x)))
    (hb2 : Below wr.heap.size wr w2) (hm : w2.rowIs bm 4 N (fun x => .bool (has (FL k) (FZ k) x)))
    (hown : w5.ownsRow U.heap.size 29 1 v' (k + 1) (l ++ [.slice (some ⟨bm, 0, none⟩) N N])) (hgrow : (w2.alloc o).grownBy w5 v.ownBlock) :
    (∃ a c, v' = .slice a (k + 1) c) ∧ Hid (Ss U w5 N FL FZ (k + 1) v') := by
  have ho2 := owns_below ho hb2
  have ho3 := ho2.alloc (o := o)
  have keep : ∀ {b : Nat} {f : Nat → Value}, w2.rowIs b 4 N f → w5.rowIs b 4 N f := fun {b f} hr => by
    have hr3 : (w2.alloc o).rowIs b 4 N f := hr.of_block ((box_below w2 o).block _ hr.lt)
    have hne := row4_apart hr3 ho3
    exact hr3.of_block (hgrow.block b hr3.lt (fun e => hne e.symm))
  refine ⟨?_, hid ⟨l ++ [.slice (some ⟨bm, 0, none⟩) N N], grown_below ((hb.trans (hb2.mono hb.size)).alloc (hb.trans (hb2.mono hb.size)).size _) ho3 hgrow, hown, by simp [hl], fun j hjk => ?_⟩⟩
  · rcases hown.2 with ⟨_, h0⟩ | ⟨g, cap, cur, rfl, _⟩
    · omega
    · exact ⟨_, _, rfl⟩
  · by_cases e : j = k
    · subst e
      exact ⟨bm, by rw [List.getElem?_append_right (by omega)]; simp [hl], keep hm⟩
    · obtain ⟨bj, h1, h2⟩ := hj j (by omega)
      exact ⟨bj, by rw [List.getElem?_append_left (by omega)]; exact h1, keep (h2.of_block (hb2.block _ h2.lt))⟩

theorem ss_sets {U wr : World} {N K : Nat} {FL : Nat → Nat} {FZ : Nat → Nat → Int} {a : Option Addr} {c : Nat} (h : Ss U wr N FL FZ K (.slice a K c)) : Sets wr a K N (fun k x => has (FL k) (FZ k) (x : Nat)) := by
  obtain ⟨l, hb, ho, hl, hj⟩ := h
  rcases ho.2 with ⟨h1, h0⟩ | ⟨g, cap, cur, h1, _⟩
  · exact ⟨0, 0, fun e => by omega, fun k hk => by omega⟩
  · cases h1
    refine ⟨g, 0, fun _ => rfl, fun k hk => ?_⟩
    obtain ⟨bj, h2, R⟩ := hj k hk
    have := ho.cells (g := g) rfl k _ h2
    rw [addr_none] at this
    exact ⟨_, _, this, bj, 0, fun _ => rfl, fun i hi => by rw [Nat.zero_add]; exact R.cell hi⟩

/-- An append of one value to an own row, as one operation. -/
theorem step_append_one {P : Program} (w : World) {o : Oper} {a : Act} {K : Act → World → Prop} {Q : Exit → Act → World → Prop} {E : Prop} (hgd : o.guard = none) {ops : Array Oper} (s x : Operand) (t : TypeId)
    (ho : o.op = .call { callee := .builtin .append, args := #[s, x], argTypes := #[t, t] })
    (base : Nat) (e : TypeId) (i : TypeInfo) (z : Value) (bytes : Nat) (ht : P.underlying t = some (.slice e)) (hi : P.info? e = some i) (hz : i.zero = some z) (hsize : i.size = 1) (hby : i.bytes = bytes) (hzs : z.cells.size = 1)
    (v : Value) (n : Nat) (xs : List Value) (hs : a.eval s = v) (hown : w.ownsRow base e 1 v n xs)
    (ad : Addr) (d : Nat) (y : Value) (hx : a.eval x = .slice (some ad) 1 d) (hnews : ∀ j u, [y][j]? = some u → w.cell? (ad.add j) = some u) (h1 : y.oneCell' = true) (hsum : (n + 1) * bytes ≤ 140737488355328 ∧ n + 1 ≤ 4194304) (hbase : base ≤ w.heap.size)
    (h : ∀ v' w', w'.ownsRow base e 1 v' (n + 1) (xs ++ [y]) → w.grownBy w' v.ownBlock → K (a.put o.dst v') w') :
    if Region.wanted o (yielded ops a.tmps) = true then Oper.wp P o a w K Q else E := by
  have hw : Region.wanted o (yielded ops a.tmps) = true := by simp [Region.wanted, hgd]
  rw [if_pos hw]
  obtain ⟨v', w', hr, h2, h3, h4, h5⟩ := run_append_own_at (P := P) w base t o.type e i z 1 bytes ht hi hz hsize hby hzs (by decide) v n xs hown ad 1 d [y] rfl hnews (fun u hu => by rw [List.mem_singleton.1 hu]; exact h1) (by unfold maxLen; omega) hsum.1 hbase
  unfold Oper.wp execOp
  simp only [ho, resolve, invoke, builtin, Sem.run_bind, Sem.run_pure, Result.andThen_ok, List.map_toArray, List.map_cons, List.map_nil, hs, hx, hr]
  exact h v' w' h2 h3

set_option maxHeartbeats 2000000 in
theorem sets_any (A : Wx) (w : World) (h : Ww w A) (h0 : chkW A = 0) :
    Calls Try.prog 35 #[.agg #[.slice A.sa A.sn A.sc, .slice A.na A.G A.nc, .slice A.la A.M A.lc, .slice A.fa A.K A.fc]] w fun e w' => ∃ (a : Option Addr) (c : Nat), e = .returned (.slice a A.K c) ∧ Hid (Below w.heap.size w w' ∧ Sets w' a A.K A.G (fun k x => has (A.FL k) (A.FZ k) (x : Nat))) := by
  obtain ⟨W1, hW1, hb1, hs1, hbw⟩ := boxw w A
  obtain ⟨hG, hK, -, -, -, -, hfz⟩ := chkW_ok h0
  obtain ⟨fb, fo, hfa, hfc⟩ := (h.below hb1).fair
  have HFC := hid hfc
  have HB1 := hid hb1
  have HFZ := hid hfz
  have HFL := hid h.f47
  have HBW := hid hbw
  have HFN : Hid (0 < A.K → A.fa = some ⟨fb, fo, none⟩) := hid hfa
  obtain ⟨i0, hi, hz0, hz1, hz2⟩ := info_parts Try.info29
  have HI : Hid (Try.prog.info? 29 = some i0 ∧ i0.zero = some (.slice none 0 0) ∧ i0.size = 1 ∧ i0.bytes = 24) := ⟨hi, hz0, hz1, hz2⟩
  obtain ⟨q0, q1, q2, q3⟩ := hbw
  clear hi hz0 hz1 hz2 hfc hb1 hs1 h h0 hfz hfa
  obtain ⟨sa, sn, sc, na, G, nc, la, M, lc, fa, K, fc, S, L, Z, Lb, FL, FZ⟩ := A
  dsimp only at *
  obtain ⟨bw, hbwd⟩ : ∃ b, w.heap.size = b := ⟨_, rfl⟩
  rw [hbwd] at HBW q0 q1 q2 q3
  go_enter Try.func35, Try.ntmps35
  go_wp2
  clear q0 q1 q2 q3
  have HL0 : Hid (Ss W1 W1 G FL FZ 0 (.slice none 0 0)) := hid ⟨[], Below.refl _ _, World.ownsRow_nil _ _ _ _, rfl, fun j hj => by omega⟩
  go_loopw [3, 4] (fun v i wr => ∃ k : Nat, k ≤ K ∧ i = .int .i64 k ∧ (∃ a c, v = .slice a k c) ∧ Hid (Ss W1 wr G FL FZ k v)) (fun _ i _ => K - (intOf i).toNat)
  case atStart => exact ⟨0, Nat.zero_le _, rfl, ⟨_, _, rfl⟩, HL0⟩
  case round =>
    clear HL0
    obtain ⟨k, hk, rfl, ⟨a, c, rfl⟩, l, hb, hown, hlen, hrows⟩ := hrel
    obtain ⟨q0, q1, q2, q3⟩ := HBW.out.below hb
    dsimp only at q0 q1 q2 q3
    by_cases hlt : k < K
    · obtain rfl := HFN.out (by omega)
      obtain ⟨ra, rc, hck0, hrow0⟩ := HFC.out k hlt
      have hck := below_cell hb (Nat.le_refl _) hck0
      have hkz : (k : Int) < K := by omega
      have C := hid (fun (y : World) (hy : Below wr.heap.size wr y) => marked_any ra (FL k) rc G (FZ k) y (HFL.out k hlt) ((hrow0.below hb).below hy) (by omega) (HFZ.out k hlt))
      obtain ⟨p0, p1, p2, p3⟩ := HBW.out
      dsimp only at p0 p1 p2 p3
      have HCK := hid (And.intro hck0 (And.intro p1 p3))
      clear p0 p1 p2 p3
      have HB := hid hb
      have HO := hid hown
      have HR := hid hrows
      have hUs := hb.size
      clear hb hown hrows hrow0 hck0
      have HS : Hid (∀ z, Below wr.heap.size wr z → (fun y : World => y.cell? ⟨fb, fo + k, none⟩ = some (.slice ra (FL k) rc) ∧ y.cell? ⟨bw, 1, none⟩ = some (.slice na G nc) ∧ y.cell? ⟨bw, 3, none⟩ = some (.slice (some ⟨fb, fo, none⟩) K fc)) z) := hid (fun z hz => ⟨below_cell hz (Nat.le_refl _) hck, below_cell hz (Nat.le_refl _) q1, below_cell hz (Nat.le_refl _) q3⟩)
      have HS2 : Hid (∀ z, Below W1.heap.size W1 z → (fun y : World => y.cell? ⟨fb, fo + k, none⟩ = some (.slice ra (FL k) rc) ∧ y.cell? ⟨bw, 1, none⟩ = some (.slice na G nc) ∧ y.cell? ⟨bw, 3, none⟩ = some (.slice (some ⟨fb, fo, none⟩) K fc)) z) := hid (fun z hz => ⟨below_cell hz (Nat.le_refl _) HCK.out.1, below_cell hz (Nat.le_refl _) HCK.out.2.1, below_cell hz (Nat.le_refl _) HCK.out.2.2⟩)
      have hB0 : Below wr.heap.size wr wr.drew := below_drewN (Below.refl _ _) 1
      clear HCK
      go_wp2_with fail
      refine G_region (fun y : World => y.cell? ⟨fb, fo + k, none⟩ = some (.slice ra (FL k) rc) ∧ y.cell? ⟨bw, 1, none⟩ = some (.slice na G nc) ∧ y.cell? ⟨bw, 3, none⟩ = some (.slice (some ⟨fb, fo, none⟩) K fc)) (fun _ => false) (by kernel_rfl) (HS.out _ hB0) (fun _ => ?_)
      refine G_take (i := 0) (oi := { dst := some 12, op := Op.move (Operand.tmp 3), type := 66, pos := _, after := #[], guard := none }) (v := .slice a k c) rfl (by kernel_rfl) (by kernel_rfl) (by kernel_rfl) (by kernel_rfl) (fun _ _ _ h => h) (by rfl) (fun u hu => ?_) (HS.out _ hB0) ?_
      · (try dsimp only at hu); go_simp
      (try simp only [Act.put, List.setIfInBounds_toArray, List.set_cons_zero, List.set_cons_succ])
      refine G_take (i := 1) (oi := { dst := some 13, op := Op.fieldAddr 26 (Operand.tmp 1) 3, type := 0, pos := _, after := #[], guard := none }) (v := .pointer (some ⟨bw, 3, none⟩)) rfl (by kernel_rfl) (by kernel_rfl) (by kernel_rfl) (by kernel_rfl) (fun _ _ _ h => h) (by rfl) (fun u hu => ?_) (HS.out _ hB0) ?_
      · (try dsimp only at hu); go_simp
      (try simp only [Act.put, List.setIfInBounds_toArray, List.set_cons_zero, List.set_cons_succ])
      refine G_take (i := 2) (oi := { dst := some 14, op := Op.load 23 (Operand.tmp 13), type := 23, pos := _, after := #[{ on := 1, ground := Ground.data }], guard := none }) (v := .slice (some ⟨fb, fo, none⟩) K fc) rfl (by kernel_rfl) (by kernel_rfl) (by kernel_rfl) (by kernel_rfl) (fun _ _ _ h => h) (by rfl) (fun u hu => ?_) (HS.out _ hB0) ?_
      · (try dsimp only at hu); go_simp
      (try simp only [Act.put, List.setIfInBounds_toArray, List.set_cons_zero, List.set_cons_succ])
      refine G_take (i := 3) (oi := { dst := some 15, op := Op.move (Operand.tmp 4), type := 3, pos := _, after := #[], guard := none }) (v := .int .i64 (k : Nat)) rfl (by kernel_rfl) (by kernel_rfl) (by kernel_rfl) (by kernel_rfl) (fun _ _ _ h => h) (by rfl) (fun u hu => ?_) (HS.out _ hB0) ?_
      · (try dsimp only at hu); go_simp
      (try simp only [Act.put, List.setIfInBounds_toArray, List.set_cons_zero, List.set_cons_succ])
      refine G_take (i := 4) (oi := { dst := some 16, op := Op.indexAddr 23 (Operand.tmp 14) (Operand.tmp 15), type := 0, pos := _, after := #[{ on := 2, ground := Ground.data }, { on := 3, ground := Ground.data }], guard := none }) (v := .pointer (some ⟨fb, fo + k, none⟩)) rfl (by kernel_rfl) (by kernel_rfl) (by kernel_rfl) (by kernel_rfl) (fun _ _ _ h => h) (by rfl) (fun u hu => ?_) (HS.out _ hB0) ?_
      · (try dsimp only at hu); go_simp
      (try simp only [Act.put, List.setIfInBounds_toArray, List.set_cons_zero, List.set_cons_succ])
      refine G_take (i := 5) (oi := { dst := some 17, op := Op.load 22 (Operand.tmp 16), type := 22, pos := _, after := #[{ on := 4, ground := Ground.data }], guard := none }) (v := .slice ra (FL k) rc) rfl (by kernel_rfl) (by kernel_rfl) (by kernel_rfl) (by kernel_rfl) (fun _ _ _ h => h) (by rfl) (fun u hu => ?_) (HS.out _ hB0) ?_
      · (try dsimp only at hu); go_simp
      (try simp only [Act.put, List.setIfInBounds_toArray, List.set_cons_zero, List.set_cons_succ])
      refine G_take (i := 6) (oi := { dst := some 18, op := Op.fieldAddr 26 (Operand.tmp 1) 1, type := 0, pos := _, after := #[], guard := none }) (v := .pointer (some ⟨bw, 1, none⟩)) rfl (by kernel_rfl) (by kernel_rfl) (by kernel_rfl) (by kernel_rfl) (fun _ _ _ h => h) (by rfl) (fun u hu => ?_) (HS.out _ hB0) ?_
      · (try dsimp only at hu); go_simp
      (try simp only [Act.put, List.setIfInBounds_toArray, List.set_cons_zero, List.set_cons_succ])
      refine G_take (i := 7) (oi := { dst := some 19, op := Op.load 23 (Operand.tmp 18), type := 23, pos := _, after := #[{ on := 6, ground := Ground.data }], guard := none }) (v := .slice na G nc) rfl (by kernel_rfl) (by kernel_rfl) (by kernel_rfl) (by kernel_rfl) (fun _ _ _ h => h) (by rfl) (fun u hu => ?_) (HS.out _ hB0) ?_
      · (try dsimp only at hu); go_simp
      (try simp only [Act.put, List.setIfInBounds_toArray, List.set_cons_zero, List.set_cons_succ])
      refine G_take (i := 8) (oi := { dst := some 20, op := Op.call { callee := Callee.builtin Builtin.len, args := #[Operand.tmp 19], argTypes := #[23] }, type := 3, pos := _, after := #[{ on := 7, ground := Ground.data }], guard := none }) (v := .int .i64 (G : Nat)) rfl (by kernel_rfl) (by kernel_rfl) (by kernel_rfl) (by kernel_rfl) (fun _ _ _ h => h) (by rfl) (fun u hu => ?_) (HS.out _ hB0) ?_
      · (try dsimp only at hu); go_simp
      (try simp only [Act.put, List.setIfInBounds_toArray, List.set_cons_zero, List.set_cons_succ])
      refine G_step (i := 9) (o := { dst := some 21, op := Op.call { callee := Callee.value (Operand.func 53), args := #[Operand.tmp 17, Operand.tmp 20], argTypes := #[22, 3] }, type := 29, pos := _, after := #[{ on := 5, ground := Ground.data }, { on := 8, ground := Ground.data }], guard := none }) (by kernel_rfl) rfl (fun K' hK => ?_)
      go_simp
      refine (C.out wr.drew hB0).mono ?_
      rintro e w2 ⟨rfl, HX⟩
      dsimp only
      have hB2 := hB0.trans (HX.out.2.mono hB0.size)
      have hws := HX.out.2.size
      refine hK.out _ _ (fun _ => HS.out _ hB2) (fun _ => ?_)
      clear hK K'
      (try simp only [Act.put, List.setIfInBounds_toArray, List.set_cons_zero, List.set_cons_succ])
      refine G_step (i := 10) (o := { dst := some 22, op := Op.buildSlice 66 1 #[(0, Operand.tmp 21)], type := 66, pos := _, after := #[{ on := 9, ground := Ground.data }], guard := none }) (by kernel_rfl) rfl (fun K' hK => ?_)
      go_simp
      have hB3 := hB2.trans ((box_below w2 (.cells #[.slice (some ⟨wr.drew.heap.size, 0, none⟩) G G] 29)).mono hB2.size)
      refine hK.out _ _ (fun _ => HS.out _ hB3) (fun _ => ?_)
      clear hK K'
      (try simp only [Act.put, List.setIfInBounds_toArray, List.set_cons_zero, List.set_cons_succ])
      refine G_step (i := 11) (o := { dst := some 23, op := Op.call { callee := Callee.builtin Builtin.append, args := #[Operand.tmp 12, Operand.tmp 22], argTypes := #[66, 66] }, type := 66, pos := _, after := #[{ on := 0, ground := Ground.data }, { on := 10, ground := Ground.data }, { on := 9, ground := Ground.chain }], guard := none }) (by kernel_rfl) rfl (fun K' hK => ?_)
      refine step_append_one _ rfl _ _ 66 rfl W1.heap.size 29 i0 (.slice none 0 0) 24 Try.underlying66 HI.out.1 HI.out.2.1 HI.out.2.2.1 HI.out.2.2.2 rfl (.slice a k c) k l rfl ((owns_below HO.out hB2).alloc _) ⟨w2.heap.size, 0, none⟩ 1 (.slice (some ⟨wr.drew.heap.size, 0, none⟩) G G) rfl (fun j u hu => cell_one_new _ _ _ j u hu) rfl (by omega) (by have h1 : wr.heap.size ≤ w2.heap.size := hws; simp; omega) ?_
      intro v' w5 hown' hgrow
      obtain ⟨⟨a3, c3, rfl⟩, G3⟩ := ss_step HB.out HO.out hlen HR.out hB2 HX.out.1 hown' hgrow
      have hB5 := hid (grown_below (w0 := W1) ((HB.out.trans (hB3.mono HB.out.size))) ((owns_below HO.out hB2).alloc _) hgrow)
      refine hK.out _ _ (fun _ => HS2.out _ hB5.out) (fun _ => ?_)
      clear hK K' hown' hgrow
      (try simp only [Act.put, List.setIfInBounds_toArray, List.set_cons_zero, List.set_cons_succ])

      refine G_take (i := 12) (oi := { dst := some 3, op := Op.assign (Operand.tmp 23), type := 66, pos := _, after := #[{ on := 11, ground := Ground.data }, { on := 11, ground := Ground.chain }, { on := 0, ground := Ground.phase }, { on := 1, ground := Ground.phase }, { on := 2, ground := Ground.phase }, { on := 3, ground := Ground.phase }, { on := 4, ground := Ground.phase }, { on := 5, ground := Ground.phase }, { on := 6, ground := Ground.phase }, { on := 7, ground := Ground.phase }, { on := 8, ground := Ground.phase }, { on := 9, ground := Ground.phase }, { on := 10, ground := Ground.phase }, { on := 11, ground := Ground.phase }], guard := none }) (v := .slice a3 (k + 1) c3) rfl (by kernel_rfl) (by kernel_rfl) (by kernel_rfl) (by kernel_rfl) (fun _ _ _ h => h) (by rfl) (fun u hu => ?_) (HS2.out _ hB5.out) ?_
      · (try dsimp only at hu); go_simp
      (try simp only [Act.put, List.setIfInBounds_toArray, List.set_cons_zero, List.set_cons_succ])
      refine G_done (by kernel_rfl) ?_ _
      clear HS HS2 hB5 hB3 hB2 hB0 q0 q1 q2 q3 hck HX hws C
      go_wp2
      go_roundw
      case rel => exact ⟨k + 1, by omega, by go_num, ⟨_, _, rfl⟩, G3⟩
      case measure => simp [intOf]; omega
    · obtain rfl : k = K := by omega
      have HF := hid (ss_sets ⟨l, hb, hown, hlen, hrows⟩)
      have HBF := hid (HB1.out.trans (hb.mono HB1.out.size))
      clear hb hown hrows
      go_wp2
      go_ret
      first | exact hid ⟨HBF.out, HF.out⟩ | exact ⟨_, _, rfl, hid ⟨HBF.out, HF.out⟩⟩

end Go.Proofs.Ytgahdclbaifcbaa
