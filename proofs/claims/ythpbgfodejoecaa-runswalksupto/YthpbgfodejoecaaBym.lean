/- The states of each marking. -/
import Derived.Test.YthpbgfodejoecaaEnb
import Derived.Test.YthpbgfodejoecaaHeldJ
namespace Go.Proofs.Ythpbgfodejoecaa
open Go.RowKit

/-- An append of one value to an own row, as one operation; where the row lies then. -/
theorem step_append_at {P : Program} (w : World) {o : Oper} {a : Act} {K : Act → World → Prop} {Q : Exit → Act → World → Prop} {E : Prop} (hgd : o.guard = none) {ops : Array Oper} (s x : Operand) (t : TypeId)
    (ho : o.op = .call { callee := .builtin .append, args := #[s, x], argTypes := #[t, t] })
    (base : Nat) (e : TypeId) (i : TypeInfo) (z : Value) (bytes : Nat) (ht : P.underlying t = some (.slice e)) (hi : P.info? e = some i) (hz : i.zero = some z) (hsize : i.size = 1) (hby : i.bytes = bytes) (hzs : z.cells.size = 1)
    (v : Value) (n : Nat) (xs : List Value) (hs : a.eval s = v) (hown : w.ownsRow base e 1 v n xs)
    (ad : Addr) (d : Nat) (y : Value) (hx : a.eval x = .slice (some ad) 1 d) (hnews : ∀ j u, [y][j]? = some u → w.cell? (ad.add j) = some u) (h1 : y.oneCell' = true) (hsum : (n + 1) * bytes ≤ 140737488355328 ∧ n + 1 ≤ maxLen) (hbase : base ≤ w.heap.size)
    (h : ∀ v' w', w'.ownsRow base e 1 v' (n + 1) (xs ++ [y]) → w.grownBy w' v.ownBlock → (v'.ownBlock = v.ownBlock ∨ v'.ownBlock = some w.heap.size) → K (a.put o.dst v') w') :
    if Region.wanted o (yielded ops a.tmps) = true then Oper.wp P o a w K Q else E := by
  have hw : Region.wanted o (yielded ops a.tmps) = true := by simp [Region.wanted, hgd]
  rw [if_pos hw]
  obtain ⟨v', w', hr, h2, h3, h4, h5⟩ := run_append_own_at (P := P) w base t o.type e i z 1 bytes ht hi hz hsize hby hzs (by decide) v n xs hown ad 1 d [y] rfl hnews (fun u hu => by rw [List.mem_singleton.1 hu]; exact h1) hsum.2 hsum.1 hbase
  unfold Oper.wp execOp
  simp only [ho, resolve, invoke, builtin, Sem.run_bind, Sem.run_pure, Result.andThen_ok, List.map_toArray, List.map_cons, List.map_nil, hs, hx, hr]
  exact h v' w' h2 h3 h5

set_option maxHeartbeats 4000000 in
theorem byMarking_any (a : Option Addr) (n c G : Nat) (T : Nat → St3) (w : World) (hn : n ≤ 600) (hG : G ≤ 200) (h : Sts w a n T) (hA : ∀ i, i < n → 0 ≤ (T i).1 ∧ (T i).1 < G) :
    Calls Try.prog 23 #[.slice a n c, .int .i64 G] w fun e w' => e = .returned (.slice (some ⟨w.heap.size, 0, none⟩) G G) ∧ ∃ V, Fam w w' G (fun j => fl (fun i => (T i).1) (j : Nat) n) V := by
  have hmk := run_make_row' (P := Try.prog) 27 26 (.slice none 0 0) 24 Try.underlying27 Try.info26 rfl .i64 .i64 G (by omega) (by omega)
  obtain ⟨i0, hi, hz0, hz1, hz2⟩ := info_parts Try.info3
  have HI : Hid (Try.prog.info? 3 = some i0 ∧ i0.zero = some (.int .i64 0) ∧ i0.size = 1 ∧ i0.bytes = 8) := ⟨hi, hz0, hz1, hz2⟩
  obtain ⟨b, o, ha, hc⟩ := h
  have HC := hid hc
  have HA := hid hA
  clear hi hz0 hz1 hz2 hc hA
  go_enter Try.func23, Try.ntmps23
  go_wp2
  clear hmk
  go_loopw [12] (fun i wr => ∃ k : Nat, k ≤ n ∧ i = .int .i64 k ∧ Hid (∃ V, Fam w wr G (fun j => fl (fun i => (T i).1) (j : Nat) k) V)) (fun i _ => n - (intOf i).toNat)
  case atStart => exact ⟨0, Nat.zero_le _, rfl, hid ⟨_, fam_start w G _ (fun j _ => rfl)⟩⟩
  case round =>
    obtain ⟨k, hk, rfl, HS⟩ := hrel
    obtain ⟨V, hF⟩ := HS.out
    by_cases hlt : k < n
    · obtain rfl := ha (by omega)
      obtain ⟨q0, q1, q2⟩ := Sts.at HC.out hF.below hlt
      obtain ⟨W2, hW2, hb2, hs2, p0, p1, p2⟩ := box3 wr (T k)
      have hF2 : Fam w W2 G (fun j => fl (fun i => (T i).1) (j : Nat) k) V := by rw [← hW2]; exact hF.alloc _
      obtain ⟨t, ht⟩ : ∃ t : Nat, (T k).1 = t := ⟨((T k).1).toNat, by have := HA.out k hlt; omega⟩
      have htG : t < G := by have := HA.out k hlt; omega
      have htz : (t : Int) < G := by omega
      obtain ⟨x1, hx1⟩ : ∃ x, x = (T k).2.1 := ⟨_, rfl⟩
      obtain ⟨x2, hx2⟩ : ∃ x, x = (T k).2.2 := ⟨_, rfl⟩
      rw [ht] at q0 p0 hW2
      rw [← hx1] at q1 p1 hW2
      rw [← hx2] at q2 p2 hW2
      have HT : Hid ((T k).1 = t) := hid ht
      obtain ⟨a2, c2, hv, hrow⟩ := owns_row (hF2.own t htG)
      have hown := hF2.own t htG
      have htop := hF2.top.cell htG
      rw [hv] at hown htop
      have hm : (fl (fun i => (T i).1) (t : Nat) k).length ≤ k := by rw [fl_len]; exact tally_le _ _ _
      have HF2 := hid hF2
      generalize hn' : (fl (fun i => (T i).1) (t : Nat) k).length = m at *
      have HN := hid hn'
      have HVr := hid hv
      have HO := hid hown
      have hol := (hF.own t htG).lt
      rw [hv] at hol
      have HS0 : Hid (∀ z, Below W2.heap.size W2 z → (fun y : World => y.cell? ⟨wr.heap.size, 0, none⟩ = some (.int .i64 (t : Nat)) ∧ y.cell? ⟨w.heap.size, t, none⟩ = some (.slice a2 m c2)) z) := hid (fun z hz => ⟨below_c hz p0, below_c hz htop⟩)
      have HPx : Hid (∀ z, ((W2.drew.alloc (.cells #[.int .i64 (k : Nat)] 3)).grownBy z (Value.slice a2 m c2).ownBlock) → z.cell? ⟨wr.heap.size, 0, none⟩ = some (.int .i64 (t : Nat))) := hid (fun z hz => by
        have h1 : (W2.drew.alloc (.cells #[.int .i64 (k : Nat)] 3)).cell? ⟨wr.heap.size, 0, none⟩ = some (.int .i64 (t : Nat)) := below_c (box_below _ _) p0
        have h2 := hz.block wr.heap.size (by have h1 : W2.drew.heap.size = W2.heap.size := rfl; simp; omega) (fun e => by
          have h3 := hol _ e.symm
          omega)
        exact (World.cell?_of_block (a := ⟨wr.heap.size, 0, none⟩) h2).trans h1)
      have hB0 : Below W2.heap.size W2 W2.drew := below_drew_iff.2 (Below.refl _ _)
      have HS2 := hid hs2
      clear hF hF2 hown hrow hv ht hx1 hx2 hn' htop hb2 HS hs2 hol
      go_wp2_with fail
      refine G_region (fun y : World => y.cell? ⟨wr.heap.size, 0, none⟩ = some (.int .i64 (t : Nat)) ∧ y.cell? ⟨w.heap.size, t, none⟩ = some (.slice a2 m c2)) (fun i => i == 12) (by kernel_rfl) (HS0.out _ hB0) (fun _ => ?_)
      refine G_take (i := 0) (oi := { dst := some 17, op := Op.move (Operand.tmp 5), type := 27, pos := _, after := #[], guard := none }) (v := .slice (some ⟨w.heap.size, 0, none⟩) G G) rfl (by kernel_rfl) (by kernel_rfl) (by kernel_rfl) (by kernel_rfl) (fun _ _ _ h => h) (by rfl) (fun u hu => ?_) (HS0.out _ hB0) ?_
      · (try dsimp only at hu); go_simp
      (try simp only [Act.put, List.setIfInBounds_toArray, List.set_cons_zero, List.set_cons_succ])
      refine G_take (i := 1) (oi := { dst := some 18, op := Op.fieldAddr 105 (Operand.tmp 7) 0, type := 0, pos := _, after := #[], guard := none }) (v := .pointer (some ⟨wr.heap.size, 0, none⟩)) rfl (by kernel_rfl) (by kernel_rfl) (by kernel_rfl) (by kernel_rfl) (fun _ _ _ h => h) (by rfl) (fun u hu => ?_) (HS0.out _ hB0) ?_
      · (try dsimp only at hu); go_simp
      (try simp only [Act.put, List.setIfInBounds_toArray, List.set_cons_zero, List.set_cons_succ])
      refine G_take (i := 2) (oi := { dst := some 19, op := Op.load 3 (Operand.tmp 18), type := 3, pos := _, after := #[{ on := 1, ground := Ground.data }], guard := none }) (v := .int .i64 (t : Nat)) rfl (by kernel_rfl) (by kernel_rfl) (by kernel_rfl) (by kernel_rfl) (fun _ _ _ h => h) (by rfl) (fun u hu => ?_) (HS0.out _ hB0) ?_
      · (try dsimp only at hu); go_simp
      (try simp only [Act.put, List.setIfInBounds_toArray, List.set_cons_zero, List.set_cons_succ])
      refine G_take (i := 3) (oi := { dst := some 20, op := Op.move (Operand.tmp 5), type := 27, pos := _, after := #[], guard := none }) (v := .slice (some ⟨w.heap.size, 0, none⟩) G G) rfl (by kernel_rfl) (by kernel_rfl) (by kernel_rfl) (by kernel_rfl) (fun _ _ _ h => h) (by rfl) (fun u hu => ?_) (HS0.out _ hB0) ?_
      · (try dsimp only at hu); go_simp
      (try simp only [Act.put, List.setIfInBounds_toArray, List.set_cons_zero, List.set_cons_succ])
      refine G_take (i := 4) (oi := { dst := some 21, op := Op.fieldAddr 105 (Operand.tmp 7) 0, type := 0, pos := _, after := #[], guard := none }) (v := .pointer (some ⟨wr.heap.size, 0, none⟩)) rfl (by kernel_rfl) (by kernel_rfl) (by kernel_rfl) (by kernel_rfl) (fun _ _ _ h => h) (by rfl) (fun u hu => ?_) (HS0.out _ hB0) ?_
      · (try dsimp only at hu); go_simp
      (try simp only [Act.put, List.setIfInBounds_toArray, List.set_cons_zero, List.set_cons_succ])
      refine G_take (i := 5) (oi := { dst := some 22, op := Op.load 3 (Operand.tmp 21), type := 3, pos := _, after := #[{ on := 4, ground := Ground.data }], guard := none }) (v := .int .i64 (t : Nat)) rfl (by kernel_rfl) (by kernel_rfl) (by kernel_rfl) (by kernel_rfl) (fun _ _ _ h => h) (by rfl) (fun u hu => ?_) (HS0.out _ hB0) ?_
      · (try dsimp only at hu); go_simp
      (try simp only [Act.put, List.setIfInBounds_toArray, List.set_cons_zero, List.set_cons_succ])
      refine G_take (i := 6) (oi := { dst := some 23, op := Op.indexAddr 27 (Operand.tmp 20) (Operand.tmp 22), type := 0, pos := _, after := #[{ on := 3, ground := Ground.data }, { on := 5, ground := Ground.data }], guard := none }) (v := .pointer (some ⟨w.heap.size, t, none⟩)) rfl (by kernel_rfl) (by kernel_rfl) (by kernel_rfl) (by kernel_rfl) (fun _ _ _ h => h) (by rfl) (fun u hu => ?_) (HS0.out _ hB0) ?_
      · (try dsimp only at hu); go_simp
      (try simp only [Act.put, List.setIfInBounds_toArray, List.set_cons_zero, List.set_cons_succ])
      refine G_take (i := 7) (oi := { dst := some 24, op := Op.load 26 (Operand.tmp 23), type := 26, pos := _, after := #[{ on := 6, ground := Ground.data }], guard := none }) (v := .slice a2 m c2) rfl (by kernel_rfl) (by kernel_rfl) (by kernel_rfl) (by kernel_rfl) (fun _ _ _ h => h) (by rfl) (fun u hu => ?_) (HS0.out _ hB0) ?_
      · (try dsimp only at hu); go_simp
      (try simp only [Act.put, List.setIfInBounds_toArray, List.set_cons_zero, List.set_cons_succ])
      refine G_take (i := 8) (oi := { dst := some 25, op := Op.move (Operand.tmp 6), type := 3, pos := _, after := #[], guard := none }) (v := .int .i64 (k : Nat)) rfl (by kernel_rfl) (by kernel_rfl) (by kernel_rfl) (by kernel_rfl) (fun _ _ _ h => h) (by rfl) (fun u hu => ?_) (HS0.out _ hB0) ?_
      · (try dsimp only at hu); go_simp
      (try simp only [Act.put, List.setIfInBounds_toArray, List.set_cons_zero, List.set_cons_succ])
      refine G_step (i := 9) (o := { dst := some 26, op := Op.buildSlice 26 1 #[(0, Operand.tmp 25)], type := 26, pos := _, after := #[{ on := 8, ground := Ground.data }], guard := none }) (by kernel_rfl) rfl (fun K' hK => ?_)
      go_simp
      have hB3 := hB0.trans ((box_below W2.drew (.cells #[.int .i64 (k : Nat)] 3)).mono hB0.size)
      refine hK.out _ _ (fun _ => HS0.out _ hB3) (fun _ => ?_)
      clear hK K'
      (try simp only [Act.put, List.setIfInBounds_toArray, List.set_cons_zero, List.set_cons_succ])
      refine G_step (i := 10) (o := { dst := some 27, op := Op.call { callee := Callee.builtin Builtin.append, args := #[Operand.tmp 24, Operand.tmp 26], argTypes := #[26, 26] }, type := 26, pos := _, after := #[{ on := 7, ground := Ground.data }, { on := 9, ground := Ground.data }], guard := none }) (by kernel_rfl) rfl (fun K' hK => ?_)
      refine step_append_at _ rfl _ _ 26 rfl (w.heap.size + 1) 3 i0 (.int .i64 0) 8 Try.underlying26 HI.out.1 HI.out.2.1 HI.out.2.2.1 HI.out.2.2.2 rfl (.slice a2 m c2) m (vals (fl (fun i => (T i).1) (t : Nat) k)) rfl ((below_ownsRow HO.out hB0).alloc _) ⟨W2.drew.heap.size, 0, none⟩ 1 (.int .i64 (k : Nat)) rfl (fun j u hu => cell_one_new _ _ _ j u hu) rfl ⟨by omega, by unfold maxLen; omega⟩ (by have h1 : w.heap.size + 1 ≤ W2.heap.size := HF2.out.size; simp; omega) ?_
      intro v' w2 hown' hgrow hloc
      obtain ⟨⟨a3, c3, rfl⟩, g1, g2, G3⟩ := Fam.step' HF2.out.drew htG HN.out HVr.out hown' hgrow hloc
      have HS5 : Hid ((fun y : World => y.cell? ⟨wr.heap.size, 0, none⟩ = some (.int .i64 (t : Nat)) ∧ y.cell? ⟨w.heap.size, t, none⟩ = some (.slice a2 m c2)) w2) := hid ⟨HPx.out w2 hgrow, g1⟩
      refine hK.out _ _ (fun _ => HS5.out) (fun _ => ?_)
      clear hK K' hown' hgrow hloc
      (try simp only [Act.put, List.setIfInBounds_toArray, List.set_cons_zero, List.set_cons_succ])
      refine G_take (i := 11) (oi := { dst := some 28, op := Op.indexAddr 27 (Operand.tmp 17) (Operand.tmp 19), type := 0, pos := _, after := #[{ on := 0, ground := Ground.data }, { on := 2, ground := Ground.data }, { on := 0, ground := Ground.phase }, { on := 1, ground := Ground.phase }, { on := 2, ground := Ground.phase }, { on := 3, ground := Ground.phase }, { on := 4, ground := Ground.phase }, { on := 5, ground := Ground.phase }, { on := 6, ground := Ground.phase }, { on := 7, ground := Ground.phase }, { on := 8, ground := Ground.phase }, { on := 9, ground := Ground.phase }, { on := 10, ground := Ground.phase }], guard := none }) (v := .pointer (some ⟨w.heap.size, t, none⟩)) rfl (by kernel_rfl) (by kernel_rfl) (by kernel_rfl) (by kernel_rfl) (fun _ _ _ h => h) (by rfl) (fun u hu => ?_) HS5.out ?_
      · (try dsimp only at hu); go_simp
      (try simp only [Act.put, List.setIfInBounds_toArray, List.set_cons_zero, List.set_cons_succ])
      refine G_step (i := 12) (o := { dst := none, op := Op.store 26 (Operand.tmp 28) (Operand.tmp 27), type := 0, pos := _, after := #[{ on := 11, ground := Ground.data }, { on := 10, ground := Ground.data }, { on := 10, ground := Ground.chain }, { on := 0, ground := Ground.phase }, { on := 1, ground := Ground.phase }, { on := 2, ground := Ground.phase }, { on := 3, ground := Ground.phase }, { on := 4, ground := Ground.phase }, { on := 5, ground := Ground.phase }, { on := 6, ground := Ground.phase }, { on := 7, ground := Ground.phase }, { on := 8, ground := Ground.phase }, { on := 9, ground := Ground.phase }, { on := 10, ground := Ground.phase }], guard := none }) (by kernel_rfl) rfl (fun K' hK => ?_)
      go_simp
      refine hK.out _ _ (fun hh => by cases hh) (fun _ => ?_)
      clear hK K'
      (try simp only [Act.put, List.setIfInBounds_toArray, List.set_cons_zero, List.set_cons_succ])
      refine G_done (by kernel_rfl) ?_ _
      go_wp2
      go_roundw
      case rel => exact ⟨k + 1, by omega, by go_num, hid ⟨_, G3.out.congr (fun j _ => by
        by_cases e : j = t
        · subst e
          rw [if_pos rfl]
          exact (fl_hit HT.out).symm
        · rw [if_neg e]
          exact (fl_miss (by rw [HT.out]; omega)).symm)⟩⟩
      case measure => simp [intOf]; omega
    · obtain rfl : n = k := by omega
      go_wp2
      go_ret
      exact ⟨rfl, V, hF⟩

end Go.Proofs.Ythpbgfodejoecaa
