/- The states of each marking. To which states one goes; the fair sets. What holds whatever lies in other blocks. -/
import Derived.Test.YthpbgfodejoecaaTldJ
import Derived.Test.YthpbgfodejoecaaHeldJ
import Derived.Deep.Onto
import Derived.Test.YthpbgfodejoecaaGameEnJ
namespace Go.Proofs.Ythpbgfodejoecaa
open Go.RowKit

/-- An append of one value to an own row, as one operation; where the row lies then. -/
theorem step_append_at {P : Program} (w : World) {o : Oper} {a : Act} {K : Act → World → Prop} {Q : Exit → Act → World → Prop} {E : Prop} (hgd : o.guard = none) {ops : Array Oper} (s x : Operand) (t : TypeId)
    (ho : o.op = .call { callee := .builtin .append, args := #[s, x], argTypes := #[t, t] })
    (base : Nat) (e : TypeId) (i : TypeInfo) (z : Value) (bytes : Nat) (ht : P.underlying t = some (.slice e)) (hi : P.info? e = some i) (hz : i.zero = some z) (hsize : i.size = 1) (hby : i.bytes = bytes) (hzs : z.cells.size = 1)
    (v : Value) (n : Nat) (xs : List Value) (hs : a.eval s = v) (hown : w.ownsRow base e 1 v n xs)
    (ad : Addr) (d : Nat) (y : Value) (hx : a.eval x = .slice (some ad) 1 d) (hnews : ∀ j u, [y][j]? = some u → w.cell? (ad.add j) = some u) (h1 : y.oneCell' = true) (hsum : (n + 1) * bytes ≤ 140737488355328 ∧ n + 1 ≤ maxLen) (hbase : base ≤ w.heap.size)
    (h : ∀ v' w', w'.ownsRow base e 1 v' (n + 1) (xs ++ [y]) → w.grownBy w' v.ownBlock → (v'.ownBlock = v.ownBlock ∨ v'.ownBlock = some w.heap.size) → K (a.put o.dst v') w') :
    if Region.wanted o (yielded ops a.tmps) = true then Oper.wp P o a w K Q else E := by
  have hw : Region.wanted o (yielded ops a.tmps) = true := by simp [Region.wanted, hgd]
  rw [if_pos hw]
  obtain ⟨v', w', hr, h2, h3, h4, h5⟩ := run_append_own_at (P := P) w base t o.type e i z 1 bytes ht hi hz hsize hby hzs (by decide) v n xs hown ad 1 d [y] rfl hnews (fun u hu => by rw [List.mem_singleton.1 hu]; exact h1) hsum.2 hsum.1 hbase
  unfold Oper.wp execOp
  simp only [ho, resolve, invoke, builtin, Sem.run_bind, Sem.run_pure, Result.andThen_ok, List.map_toArray, List.map_cons, List.map_nil, hs, hx, hr]
  exact h v' w' h2 h3 h5

set_option maxHeartbeats 4000000 in
theorem byMarking_any (a : Option Addr) (n c G : Nat) (T : Nat → St3) (w : World) (hn : n ≤ 600) (hG : G ≤ 200) (h : Sts w a n T) (hA : ∀ i, i < n → 0 ≤ (T i).1 ∧ (T i).1 < G) :
    Calls Try.prog 23 #[.slice a n c, .int .i64 G] w fun e w' => e = .returned (.slice (some ⟨w.heap.size, 0, none⟩) G G) ∧ ∃ V, Fam w w' G (fun j => fl (fun i => (T i).1) (j : Nat) n) V := by
  have hmk := run_make_row' (P := Try.prog) 27 26 (.slice none 0 0) 24 Try.underlying27 Try.info26 rfl .i64 .i64 G (by omega) (by omega)
  obtain ⟨i0, hi, hz0, hz1, hz2⟩ := info_parts Try.info3
  have HI : Hid (Try.prog.info? 3 = some i0 ∧ i0.zero = some (.int .i64 0) ∧ i0.size = 1 ∧ i0.bytes = 8) := ⟨hi, hz0, hz1, hz2⟩
  obtain ⟨b, o, ha, hc⟩ := h
  have HC := hid hc
  have HA := hid hA
  clear hi hz0 hz1 hz2 hc hA
  go_enter Try.func23, Try.ntmps23
  go_wp2
  clear hmk
  go_loopw [12] (fun i wr => ∃ k : Nat, k ≤ n ∧ i = .int .i64 k ∧ Hid (∃ V, Fam w wr G (fun j => fl (fun i => (T i).1) (j : Nat) k) V)) (fun i _ => n - (intOf i).toNat)
  case atStart => exact ⟨0, Nat.zero_le _, rfl, hid ⟨_, fam_start w G _ (fun j _ => rfl)⟩⟩
  case round =>
    obtain ⟨k, hk, rfl, HS⟩ := hrel
    obtain ⟨V, hF⟩ := HS.out
    by_cases hlt : k < n
    · obtain rfl := ha (by omega)
      obtain ⟨q0, q1, q2⟩ := Sts.at HC.out hF.below hlt
      obtain ⟨W2, hW2, hb2, hs2, p0, p1, p2⟩ := box3 wr (T k)
      have hF2 : Fam w W2 G (fun j => fl (fun i => (T i).1) (j : Nat) k) V := by rw [← hW2]; exact hF.alloc _
      obtain ⟨t, ht⟩ : ∃ t : Nat, (T k).1 = t := ⟨((T k).1).toNat, by have := HA.out k hlt; omega⟩
      have htG : t < G := by have := HA.out k hlt; omega
      have htz : (t : Int) < G := by omega
      obtain ⟨x1, hx1⟩ : ∃ x, x = (T k).2.1 := ⟨_, rfl⟩
      obtain ⟨x2, hx2⟩ : ∃ x, x = (T k).2.2 := ⟨_, rfl⟩
      rw [ht] at q0 p0 hW2
      rw [← hx1] at q1 p1 hW2
      rw [← hx2] at q2 p2 hW2
      have HT : Hid ((T k).1 = t) := hid ht
      obtain ⟨a2, c2, hv, hrow⟩ := owns_row (hF2.own t htG)
      have hown := hF2.own t htG
      have htop := hF2.top.cell htG
      rw [hv] at hown htop
      have hm : (fl (fun i => (T i).1) (t : Nat) k).length ≤ k := by rw [fl_len]; exact tally_le _ _ _
      have HF2 := hid hF2
      generalize hn' : (fl (fun i => (T i).1) (t : Nat) k).length = m at *
      have HN := hid hn'
      have HVr := hid hv
      have HO := hid hown
      have hol := (hF.own t htG).lt
      rw [hv] at hol
      have HS0 : Hid (∀ z, Below W2.heap.size W2 z → (fun y : World => y.cell? ⟨wr.heap.size, 0, none⟩ = some (.int .i64 (t : Nat)) ∧ y.cell? ⟨w.heap.size, t, none⟩ = some (.slice a2 m c2)) z) := hid (fun z hz => ⟨below_c hz p0, below_c hz htop⟩)
      have HPx : Hid (∀ z, ((W2.drew.alloc (.cells #[.int .i64 (k : Nat)] 3)).grownBy z (Value.slice a2 m c2).ownBlock) → z.cell? ⟨wr.heap.size, 0, none⟩ = some (.int .i64 (t : Nat))) := hid (fun z hz => by
        have h1 : (W2.drew.alloc (.cells #[.int .i64 (k : Nat)] 3)).cell? ⟨wr.heap.size, 0, none⟩ = some (.int .i64 (t : Nat)) := below_c (box_below _ _) p0
        have h2 := hz.block wr.heap.size (by have h1 : W2.drew.heap.size = W2.heap.size := rfl; simp; omega) (fun e => by
          have h3 := hol _ e.symm
          omega)
        exact (World.cell?_of_block (a := ⟨wr.heap.size, 0, none⟩) h2).trans h1)
      have hB0 : Below W2.heap.size W2 W2.drew := below_drew_iff.2 (Below.refl _ _)
      have HS2 := hid hs2
      clear hF hF2 hown hrow hv ht hx1 hx2 hn' htop hb2 HS hs2 hol
      go_wp2_with fail
      refine G_region (fun y : World => y.cell? ⟨wr.heap.size, 0, none⟩ = some (.int .i64 (t : Nat)) ∧ y.cell? ⟨w.heap.size, t, none⟩ = some (.slice a2 m c2)) (fun i => i == 12) (by kernel_rfl) (HS0.out _ hB0) (fun _ => ?_)
      refine G_take (i := 0) (oi := { dst := some 17, op := Op.move (Operand.tmp 5), type := 27, pos := _, after := #[], guard := none }) (v := .slice (some ⟨w.heap.size, 0, none⟩) G G) rfl (by kernel_rfl) (by kernel_rfl) (by kernel_rfl) (by kernel_rfl) (fun _ _ _ h => h) (by rfl) (fun u hu => ?_) (HS0.out _ hB0) ?_
      · (try dsimp only at hu); go_simp
      (try simp only [Act.put, List.setIfInBounds_toArray, List.set_cons_zero, List.set_cons_succ])
      refine G_take (i := 1) (oi := { dst := some 18, op := Op.fieldAddr 105 (Operand.tmp 7) 0, type := 0, pos := _, after := #[], guard := none }) (v := .pointer (some ⟨wr.heap.size, 0, none⟩)) rfl (by kernel_rfl) (by kernel_rfl) (by kernel_rfl) (by kernel_rfl) (fun _ _ _ h => h) (by rfl) (fun u hu => ?_) (HS0.out _ hB0) ?_
      · (try dsimp only at hu); go_simp
      (try simp only [Act.put, List.setIfInBounds_toArray, List.set_cons_zero, List.set_cons_succ])
      refine G_take (i := 2) (oi := { dst := some 19, op := Op.load 3 (Operand.tmp 18), type := 3, pos := _, after := #[{ on := 1, ground := Ground.data }], guard := none }) (v := .int .i64 (t : Nat)) rfl (by kernel_rfl) (by kernel_rfl) (by kernel_rfl) (by kernel_rfl) (fun _ _ _ h => h) (by rfl) (fun u hu => ?_) (HS0.out _ hB0) ?_
      · (try dsimp only at hu); go_simp
      (try simp only [Act.put, List.setIfInBounds_toArray, List.set_cons_zero, List.set_cons_succ])
      refine G_take (i := 3) (oi := { dst := some 20, op := Op.move (Operand.tmp 5), type := 27, pos := _, after := #[], guard := none }) (v := .slice (some ⟨w.heap.size, 0, none⟩) G G) rfl (by kernel_rfl) (by kernel_rfl) (by kernel_rfl) (by kernel_rfl) (fun _ _ _ h => h) (by rfl) (fun u hu => ?_) (HS0.out _ hB0) ?_
      · (try dsimp only at hu); go_simp
      (try simp only [Act.put, List.setIfInBounds_toArray, List.set_cons_zero, List.set_cons_succ])
      refine G_take (i := 4) (oi := { dst := some 21, op := Op.fieldAddr 105 (Operand.tmp 7) 0, type := 0, pos := _, after := #[], guard := none }) (v := .pointer (some ⟨wr.heap.size, 0, none⟩)) rfl (by kernel_rfl) (by kernel_rfl) (by kernel_rfl) (by kernel_rfl) (fun _ _ _ h => h) (by rfl) (fun u hu => ?_) (HS0.out _ hB0) ?_
      · (try dsimp only at hu); go_simp
      (try simp only [Act.put, List.setIfInBounds_toArray, List.set_cons_zero, List.set_cons_succ])
      refine G_take (i := 5) (oi := { dst := some 22, op := Op.load 3 (Operand.tmp 21), type := 3, pos := _, after := #[{ on := 4, ground := Ground.data }], guard := none }) (v := .int .i64 (t : Nat)) rfl (by kernel_rfl) (by kernel_rfl) (by kernel_rfl) (by kernel_rfl) (fun _ _ _ h => h) (by rfl) (fun u hu => ?_) (HS0.out _ hB0) ?_
      · (try dsimp only at hu); go_simp
      (try simp only [Act.put, List.setIfInBounds_toArray, List.set_cons_zero, List.set_cons_succ])
      refine G_take (i := 6) (oi := { dst := some 23, op := Op.indexAddr 27 (Operand.tmp 20) (Operand.tmp 22), type := 0, pos := _, after := #[{ on := 3, ground := Ground.data }, { on := 5, ground := Ground.data }], guard := none }) (v := .pointer (some ⟨w.heap.size, t, none⟩)) rfl (by kernel_rfl) (by kernel_rfl) (by kernel_rfl) (by kernel_rfl) (fun _ _ _ h => h) (by rfl) (fun u hu => ?_) (HS0.out _ hB0) ?_
      · (try dsimp only at hu); go_simp
      (try simp only [Act.put, List.setIfInBounds_toArray, List.set_cons_zero, List.set_cons_succ])
      refine G_take (i := 7) (oi := { dst := some 24, op := Op.load 26 (Operand.tmp 23), type := 26, pos := _, after := #[{ on := 6, ground := Ground.data }], guard := none }) (v := .slice a2 m c2) rfl (by kernel_rfl) (by kernel_rfl) (by kernel_rfl) (by kernel_rfl) (fun _ _ _ h => h) (by rfl) (fun u hu => ?_) (HS0.out _ hB0) ?_
      · (try dsimp only at hu); go_simp
      (try simp only [Act.put, List.setIfInBounds_toArray, List.set_cons_zero, List.set_cons_succ])
      refine G_take (i := 8) (oi := { dst := some 25, op := Op.move (Operand.tmp 6), type := 3, pos := _, after := #[], guard := none }) (v := .int .i64 (k : Nat)) rfl (by kernel_rfl) (by kernel_rfl) (by kernel_rfl) (by kernel_rfl) (fun _ _ _ h => h) (by rfl) (fun u hu => ?_) (HS0.out _ hB0) ?_
      · (try dsimp only at hu); go_simp
      (try simp only [Act.put, List.setIfInBounds_toArray, List.set_cons_zero, List.set_cons_succ])
      refine G_step (i := 9) (o := { dst := some 26, op := Op.buildSlice 26 1 #[(0, Operand.tmp 25)], type := 26, pos := _, after := #[{ on := 8, ground := Ground.data }], guard := none }) (by kernel_rfl) rfl (fun K' hK => ?_)
      go_simp
      have hB3 := hB0.trans ((box_below W2.drew (.cells #[.int .i64 (k : Nat)] 3)).mono hB0.size)
      refine hK.out _ _ (fun _ => HS0.out _ hB3) (fun _ => ?_)
      clear hK K'
      (try simp only [Act.put, List.setIfInBounds_toArray, List.set_cons_zero, List.set_cons_succ])
      refine G_step (i := 10) (o := { dst := some 27, op := Op.call { callee := Callee.builtin Builtin.append, args := #[Operand.tmp 24, Operand.tmp 26], argTypes := #[26, 26] }, type := 26, pos := _, after := #[{ on := 7, ground := Ground.data }, { on := 9, ground := Ground.data }], guard := none }) (by kernel_rfl) rfl (fun K' hK => ?_)
      refine step_append_at _ rfl _ _ 26 rfl (w.heap.size + 1) 3 i0 (.int .i64 0) 8 Try.underlying26 HI.out.1 HI.out.2.1 HI.out.2.2.1 HI.out.2.2.2 rfl (.slice a2 m c2) m (vals (fl (fun i => (T i).1) (t : Nat) k)) rfl ((below_ownsRow HO.out hB0).alloc _) ⟨W2.drew.heap.size, 0, none⟩ 1 (.int .i64 (k : Nat)) rfl (fun j u hu => cell_one_new _ _ _ j u hu) rfl ⟨by omega, by unfold maxLen; omega⟩ (by have h1 : w.heap.size + 1 ≤ W2.heap.size := HF2.out.size; simp; omega) ?_
      intro v' w2 hown' hgrow hloc
      obtain ⟨⟨a3, c3, rfl⟩, g1, g2, G3⟩ := Fam.step' HF2.out.drew htG HN.out HVr.out hown' hgrow hloc
      have HS5 : Hid ((fun y : World => y.cell? ⟨wr.heap.size, 0, none⟩ = some (.int .i64 (t : Nat)) ∧ y.cell? ⟨w.heap.size, t, none⟩ = some (.slice a2 m c2)) w2) := hid ⟨HPx.out w2 hgrow, g1⟩
      refine hK.out _ _ (fun _ => HS5.out) (fun _ => ?_)
      clear hK K' hown' hgrow hloc
      (try simp only [Act.put, List.setIfInBounds_toArray, List.set_cons_zero, List.set_cons_succ])
      refine G_take (i := 11) (oi := { dst := some 28, op := Op.indexAddr 27 (Operand.tmp 17) (Operand.tmp 19), type := 0, pos := _, after := #[{ on := 0, ground := Ground.data }, { on := 2, ground := Ground.data }, { on := 0, ground := Ground.phase }, { on := 1, ground := Ground.phase }, { on := 2, ground := Ground.phase }, { on := 3, ground := Ground.phase }, { on := 4, ground := Ground.phase }, { on := 5, ground := Ground.phase }, { on := 6, ground := Ground.phase }, { on := 7, ground := Ground.phase }, { on := 8, ground := Ground.phase }, { on := 9, ground := Ground.phase }, { on := 10, ground := Ground.phase }], guard := none }) (v := .pointer (some ⟨w.heap.size, t, none⟩)) rfl (by kernel_rfl) (by kernel_rfl) (by kernel_rfl) (by kernel_rfl) (fun _ _ _ h => h) (by rfl) (fun u hu => ?_) HS5.out ?_
      · (try dsimp only at hu); go_simp
      (try simp only [Act.put, List.setIfInBounds_toArray, List.set_cons_zero, List.set_cons_succ])
      refine G_step (i := 12) (o := { dst := none, op := Op.store 26 (Operand.tmp 28) (Operand.tmp 27), type := 0, pos := _, after := #[{ on := 11, ground := Ground.data }, { on := 10, ground := Ground.data }, { on := 10, ground := Ground.chain }, { on := 0, ground := Ground.phase }, { on := 1, ground := Ground.phase }, { on := 2, ground := Ground.phase }, { on := 3, ground := Ground.phase }, { on := 4, ground := Ground.phase }, { on := 5, ground := Ground.phase }, { on := 6, ground := Ground.phase }, { on := 7, ground := Ground.phase }, { on := 8, ground := Ground.phase }, { on := 9, ground := Ground.phase }, { on := 10, ground := Ground.phase }], guard := none }) (by kernel_rfl) rfl (fun K' hK => ?_)
      go_simp
      refine hK.out _ _ (fun hh => by cases hh) (fun _ => ?_)
      clear hK K'
      (try simp only [Act.put, List.setIfInBounds_toArray, List.set_cons_zero, List.set_cons_succ])
      refine G_done (by kernel_rfl) ?_ _
      go_wp2
      go_roundw
      case rel => exact ⟨k + 1, by omega, by go_num, hid ⟨_, G3.out.congr (fun j _ => by
        by_cases e : j = t
        · subst e
          rw [if_pos rfl]
          exact (fl_hit HT.out).symm
        · rw [if_neg e]
          exact (fl_miss (by rw [HT.out]; omega)).symm)⟩⟩
      case measure => simp [intOf]; omega
    · obtain rfl : n = k := by omega
      go_wp2
      go_ret
      exact ⟨rfl, V, hF⟩

end Go.Proofs.Ythpbgfodejoecaa

namespace Go.Proofs.Ythpbgfodejoecaa
open Go.RowKit

/-- A graph in memory; a list that lies nowhere is nil. -/
def Gc (w : World) (ga : Option Addr) (G : Nat) (L : Nat → Nat) (Z : Nat → Nat → Int) : Prop :=
  ∃ gb go, (0 < G → ga = some ⟨gb, go, none⟩) ∧ ∀ r, r < G → ∃ a c, w.cell? ⟨gb, go + r, none⟩ = some (.slice a (L r) c) ∧ Row w a (L r) (Z r) ∧ (a = none → L r = 0 ∧ c = 0)

theorem Gc.below {w w' : World} {ga : Option Addr} {G : Nat} {L : Nat → Nat} {Z : Nat → Nat → Int} (h : Gc w ga G L Z) (hb : Below w.heap.size w w') : Gc w' ga G L Z := by
  obtain ⟨b, o, ha, hc⟩ := h
  refine ⟨b, o, ha, fun r hr => ?_⟩
  obtain ⟨a, c, h1, h2, h3⟩ := hc r hr
  exact ⟨a, c, below_c hb h1, h2.below hb, h3⟩
theorem Gc.gr {w : World} {ga : Option Addr} {G : Nat} {L : Nat → Nat} {Z : Nat → Nat → Int} (h : Gc w ga G L Z) : Gr w ga G L Z := by
  obtain ⟨b, o, ha, hc⟩ := h
  refine ⟨b, o, ha, fun r hr => ?_⟩
  obtain ⟨a, c, h1, h2, h3⟩ := hc r hr
  exact ⟨a, c, h1, h2⟩

theorem owns_rown {w : World} {base : Nat} {v : Value} {l : List Int} (h : w.ownsRow base 3 1 v l.length (vals l)) :
    ∃ a c, v = .slice a l.length c ∧ Row w a l.length (fun i => l.getD i 0) ∧ (a = none → l.length = 0 ∧ c = 0) := by
  obtain ⟨a, c, rfl, hr⟩ := owns_row h
  refine ⟨a, c, rfl, hr, fun e => ?_⟩
  subst e
  rcases h.2 with ⟨h1, h0⟩ | ⟨g, cap, cur, h1, _⟩
  · exact ⟨h0, by injection h1⟩
  · cases h1

theorem Fam.gc {w wr : World} {G : Nat} {T : Nat → List Int} {V : Nat → Value} (h : Fam w wr G T V) : Gc wr (some ⟨w.heap.size, 0, none⟩) G (fun j => (T j).length) (fun j i => (T j).getD i 0) := by
  refine ⟨w.heap.size, 0, fun _ => rfl, fun r hr => ?_⟩
  obtain ⟨a, c, hv, hrow, hn⟩ := owns_rown (h.own r hr)
  exact ⟨a, c, by rw [Nat.zero_add, h.top.cell hr, hv], hrow, hn⟩

/-- The rows that are written so far. -/
structure Gng (w wr : World) (n k : Nat) (L : Nat → Nat) (Z : Nat → Nat → Int) (T : Nat → St3) (V : Nat → Value) : Prop where
  below : Below w.heap.size w wr
  top : wr.rowIs w.heap.size 26 n V
  own : ∀ j, j < k → wr.ownsRow (w.heap.size + 1) 3 1 (V j) (L (T j).2.2.toNat) (vals (lst (L (T j).2.2.toNat) (Z (T j).2.2.toNat)))

theorem Gng.next {w wr w2 : World} {n k : Nat} {L : Nat → Nat} {Z : Nat → Nat → Int} {T : Nat → St3} {V : Nat → Value} {v : Value} (h : Gng w wr n k L Z T V) (hb : Below wr.heap.size wr w2) (hv : w2.ownsRow wr.heap.size 3 1 v (L (T k).2.2.toNat) (vals (lst (L (T k).2.2.toNat) (Z (T k).2.2.toNat)))) :
    Gng w (w2.setCell ⟨w.heap.size, k, none⟩ v) n (k + 1) L Z T (fun j => if j = k then v else V j) := by
  have hsz : w.heap.size + 1 ≤ wr.heap.size := h.top.lt
  refine ⟨(h.below.trans (hb.mono h.below.size)).setCell (Nat.le_refl _) _, (h.top.of_block (hb.block _ h.top.lt)).set k v, fun j hj => ?_⟩
  by_cases e : j = k
  · subst e
    rw [if_pos rfl]
    exact ownsRow_setCell_below (World.ownsRow.mono hv hsz) (by show w.heap.size < _; omega) _
  · rw [if_neg e]
    exact ownsRow_setCell_below (below_ownsRow (h.own j (by omega)) hb) (by show w.heap.size < _; omega) _

end Go.Proofs.Ythpbgfodejoecaa

namespace Go.Proofs.Ythpbgfodejoecaa
open Go.RowKit

/-- P holds by blocks from lo on alone, none of them named by q. -/
def Lie (lo : Nat) (q : Nat → Prop) (P : World → Prop) (w : World) : Prop :=
  ∃ p : Nat → Prop, (∀ g, p g → lo ≤ g ∧ g < w.heap.size ∧ ¬ q g) ∧ ∀ z : World, (∀ g, p g → z.heap[g]? = w.heap[g]?) → P z

def noB (_ : Nat) : Prop := False
def isB (b g : Nat) : Prop := g = b

theorem Lie.here {lo : Nat} {q : Nat → Prop} {P : World → Prop} {w : World} (h : Lie lo q P w) : P w := by
  obtain ⟨p, _, h2⟩ := h
  exact h2 w (fun _ _ => rfl)
theorem Lie.keep {lo : Nat} {q q' : Nat → Prop} {P : World → Prop} {w z : World} (h : Lie lo q P w) (hs : w.heap.size ≤ z.heap.size) (hz : ∀ g, lo ≤ g → g < w.heap.size → ¬ q g → z.heap[g]? = w.heap[g]? ∧ ¬ q' g) : Lie lo q' P z := by
  obtain ⟨p, h1, h2⟩ := h
  exact ⟨p, fun g hg => ⟨(h1 g hg).1, Nat.lt_of_lt_of_le (h1 g hg).2.1 hs, (hz g (h1 g hg).1 (h1 g hg).2.1 (h1 g hg).2.2).2⟩, fun y hy => h2 y (fun g hg => (hy g hg).trans (hz g (h1 g hg).1 (h1 g hg).2.1 (h1 g hg).2.2).1)⟩
theorem Lie.below {lo : Nat} {q : Nat → Prop} {P : World → Prop} {w z : World} (h : Lie lo q P w) (hb : Below w.heap.size w z) : Lie lo q P z :=
  h.keep hb.size (fun g _ hg hq => ⟨hb.block g hg, hq⟩)
theorem Lie.mono {lo lo' : Nat} {q : Nat → Prop} {P : World → Prop} {w : World} (h : Lie lo q P w) (hl : lo' ≤ lo) : Lie lo' q P w := by
  obtain ⟨p, h1, h2⟩ := h
  exact ⟨p, fun g hg => ⟨Nat.le_trans hl (h1 g hg).1, (h1 g hg).2⟩, h2⟩
/-- A new block is none of them. -/
theorem Lie.fresh {lo : Nat} {P : World → Prop} {w : World} (h : Lie lo noB P w) (o : Obj) : Lie lo (isB w.heap.size) P (w.alloc o) :=
  h.keep (box_below w o).size (fun g _ hg _ => ⟨(box_below w o).block g hg, fun e => by unfold isB at e; omega⟩)
/-- What lies in new blocks does not lie in an old one. -/
theorem Lie.old {lo b : Nat} {P : World → Prop} {w : World} (h : Lie lo noB P w) (hb : b < lo) : Lie lo (isB b) P w := by
  obtain ⟨p, h1, h2⟩ := h
  exact ⟨p, fun g hg => ⟨(h1 g hg).1, (h1 g hg).2.1, fun e => by have := (h1 g hg).1; unfold isB at e; omega⟩, h2⟩
theorem Lie.but {lo b : Nat} {P : World → Prop} {w z : World} (h : Lie lo (isB b) P w) (hs : w.heap.size ≤ z.heap.size) (hz : ∀ g, g ≠ b → z.heap[g]? = w.heap[g]?) : Lie lo noB P z :=
  h.keep hs (fun g _ _ hq => ⟨hz g hq, id⟩)
theorem own_on {w w' : World} {base s n : Nat} {t : TypeId} {v : Value} {xs : List Value} (h : w.ownsRow base t s v n xs) (hs : ∀ b, v.ownBlock = some b → w'.heap[b]? = w.heap[b]?) : w'.ownsRow base t s v n xs := by
  obtain ⟨h1, h2⟩ := h
  refine ⟨h1, ?_⟩
  rcases h2 with h2 | ⟨g, cap, cur, rfl, hb, hg, h3⟩
  · exact Or.inl h2
  · exact Or.inr ⟨g, cap, cur, rfl, hb, (hs g rfl).trans hg, h3⟩

theorem ly_row {w : World} {b n lo : Nat} {t : TypeId} {f : Nat → Value} (h : w.rowIs b t n f) (hl : lo ≤ b) : Lie lo noB (fun z => z.rowIs b t n f) w :=
  ⟨fun g => g = b, fun g hg => by subst hg; exact ⟨hl, h.lt, id⟩, fun z hz => h.of_block (hz b rfl)⟩

theorem Fam.ly {w wr : World} {G : Nat} {T : Nat → List Int} {V : Nat → Value} (h : Fam w wr G T V) : Lie w.heap.size noB (fun z => Gc z (some ⟨w.heap.size, 0, none⟩) G (fun j => (T j).length) (fun j i => (T j).getD i 0)) wr := by
  refine ⟨fun g => g = w.heap.size ∨ ∃ j, j < G ∧ (V j).ownBlock = some g, fun g hg => ?_, fun z hz => ?_⟩
  · rcases hg with rfl | ⟨j, hj, hg⟩
    · exact ⟨Nat.le_refl _, h.top.lt, id⟩
    · have := (h.own j hj).lt g hg
      exact ⟨by omega, this.2, id⟩
  · have ht := h.top.of_block (hz _ (Or.inl rfl))
    refine ⟨w.heap.size, 0, fun _ => rfl, fun r hr => ?_⟩
    obtain ⟨a, c, hv, hrow, hn⟩ := owns_rown (own_on (h.own r hr) (fun b hb => hz b (Or.inr ⟨r, hr, hb⟩)))
    exact ⟨a, c, by rw [Nat.zero_add, ht.cell hr, hv], hrow, hn⟩

theorem Gng.ly {w wr : World} {n : Nat} {L : Nat → Nat} {Z : Nat → Nat → Int} {T : Nat → St3} {V : Nat → Value} (h : Gng w wr n n L Z T V) : Lie w.heap.size noB (fun z => Gc z (some ⟨w.heap.size, 0, none⟩) n (fun i => L (T i).2.2.toNat) (fun i => Z (T i).2.2.toNat)) wr := by
  refine ⟨fun g => g = w.heap.size ∨ ∃ j, j < n ∧ (V j).ownBlock = some g, fun g hg => ?_, fun z hz => ?_⟩
  · rcases hg with rfl | ⟨j, hj, hg⟩
    · exact ⟨Nat.le_refl _, h.top.lt, id⟩
    · have := (h.own j hj).lt g hg
      exact ⟨by omega, this.2, id⟩
  · have ht := h.top.of_block (hz _ (Or.inl rfl))
    refine ⟨w.heap.size, 0, fun _ => rfl, fun r hr => ?_⟩
    have h1 := own_on (h.own r hr) (fun b hb => hz b (Or.inr ⟨r, hr, hb⟩))
    have hl := lst_len (L (T r).2.2.toNat) (Z (T r).2.2.toNat)
    obtain ⟨a, c, hv, hrow, hn⟩ := owns_rown (l := lst (L (T r).2.2.toNat) (Z (T r).2.2.toNat)) (by rw [hl]; exact h1)
    rw [hl] at hv hn hrow
    refine ⟨a, c, by rw [Nat.zero_add, ht.cell hr, hv], ?_, hn⟩
    obtain ⟨b', o', h2, h3⟩ := hrow
    exact ⟨b', o', h2, fun i hi => by rw [h3 i hi]; show some (Value.int .i64 ((lst _ _).getD i 0)) = _; rw [lst_getD _ _ _ hi]⟩

end Go.Proofs.Ythpbgfodejoecaa
