/- The document's Single: its closure. -/
import Derived.Deep.AppendLies
import Derived.Test.YtdncjikmknkkpaaSgQ
namespace Go.Proofs.Ytdncjikmknkkpaa
open Go.RowKit

theorem pd_grow {u wr w3 : World} {v v' : Value} {j z kw px : Nat} {Z : Nat → Int} {o : Obj} (hb : Below u.heap.size u wr) (hc : wr.cell? ⟨u.heap.size, 0, none⟩ = some (.int .i64 (px : Nat))) (ho : wr.ownsRow (u.heap.size + 1) 59 2 v j (pcells ((List.range j).map fun i => ((Z i).toNat, kw)))) (hz : (Z j).toNat = z)
    (hown : w3.ownsRow (u.heap.size + 1) 59 2 v' (j + 1) (pcells ((List.range j).map fun i => ((Z i).toNat, kw)) ++ [.int .i64 (z : Nat), .int .i64 (kw : Nat)])) (hgr : (wr.alloc o).grownBy w3 v.ownBlock) :
    Below u.heap.size u w3 ∧ w3.cell? ⟨u.heap.size, 0, none⟩ = some (.int .i64 (px : Nat)) ∧ w3.ownsRow (u.heap.size + 1) 59 2 v' (j + 1) (pcells ((List.range (j + 1)).map fun i => ((Z i).toNat, kw))) := by
  have hg := (World.grownBy_alloc wr o v.ownBlock).trans hgr
  refine ⟨hb.grown hg hb.size (fun b h => by have := (ho.lt b h).1; omega), ?_, ?_⟩
  · exact (World.cell?_of_block (w := wr) (a := ⟨u.heap.size, 0, none⟩) (hg.block _ (World.block_lt_of_cell? _ _ hc) (fun e => by have := (ho.lt _ e.symm).1; dsimp only at this; omega))).trans hc
  · rw [List.range_succ, List.map_append, List.map_cons, List.map_nil, hz, ← pcells_snoc]
    exact hown

theorem s25_fin {A : Ax} {u : World} {px pk kw : Nat} (hpx : px < A.G) (hkw : sNo A.K (aFr A) (px, pk) = kw) {va : Option Addr} {vc j : Nat} {wr : World} (hj : j = A.L px) (hb : Below u.heap.size u wr) (ho : wr.ownsRow (u.heap.size + 1) 59 2 (.slice va j vc) j (pcells ((List.range j).map fun i => ((A.Z px i).toNat, kw)))) :
    ∃ xa xc, Ending.returned (.slice va j vc) = .returned (.slice xa (dNx A (px, pk)).length xc) ∧ Hid (Below u.heap.size u wr ∧ Sp wr xa (dNx A (px, pk)).length (nAt (dNx A (px, pk))) ∧ ∀ q, xa = some q → u.heap.size ≤ q.block) := by
  have hd : dNx A (px, pk) = (List.range j).map fun i => ((A.Z px i).toNat, kw) := by rw [dNx_is (p := (px, pk)) hpx, hkw, hj]
  have hl : (dNx A (px, pk)).length = j := by rw [hd]; simp
  rw [← hd] at ho
  obtain ⟨a, c, e, hs⟩ := owns_pd (l := dNx A (px, pk)) (by rw [hl]; exact ho)
  rw [hl] at e hs ⊢
  cases e
  refine ⟨va, vc, rfl, hid ⟨hb, hs, fun q hq => ?_⟩⟩
  rcases ho.2 with ⟨e, _⟩ | ⟨g, cap, cur, e, hg, _⟩
  · cases e; cases hq
  · cases e
    cases hq
    have := hg
    dsimp only
    omega

set_option maxRecDepth 100000 in
set_option maxHeartbeats 8000000 in
theorem s25_any (A : Ax) (Bm Ba : Nat) (p : Nat × Nat) (w u : World) (h : Aw w A) (h0 : chkA A = 0) (hL : ∀ r, r < A.G → A.L r ≤ 1099511627776) (hm : w.cell? ⟨Bm, 0, none⟩ = some (.int .i64 (A.K : Nat))) (hBo : Bo w Ba A) (hb : Below w.heap.size w u) (hp : sgP A p) :
    Calls Try.prog 25 #[.agg #[.int .i64 ((p.1 : Nat) : Int), .int .i64 ((p.2 : Nat) : Int)], .pointer (some ⟨Bm, 0, none⟩), .pointer (some ⟨Ba, 0, none⟩)] u fun e u' => ∃ xa xc, e = .returned (.slice xa (dNx A p).length xc) ∧ Hid (Below u.heap.size u u' ∧ Sp u' xa (dNx A p).length (nAt (dNx A p)) ∧ ∀ q, xa = some q → u.heap.size ≤ q.block) := by
  obtain ⟨px, pk⟩ := p
  obtain ⟨hpx, hpk⟩ := hp
  dsimp only at hpx hpk ⊢
  have hu := h.below hb
  obtain ⟨hG, hK80, _, _, _, hz0, _⟩ := chkA_ok h0
  obtain ⟨W0, hW0, hb0, hs0, x0, x1⟩ := box2 u (.int .i64 (px : Nat)) (.int .i64 (pk : Nat)) 59
  have hbo := hBo.below hb
  obtain ⟨nb, no, hna, hnc⟩ := hu.next
  obtain ⟨na, nc, hck, rb, ro, hra, hrc⟩ := hnc px hpx
  have Q1 : Hid (u.cell? ⟨Ba, 1, none⟩ = some (.slice (some ⟨nb, no, none⟩) A.G A.nc)) := hid (by rw [← hna (by omega)]; exact hbo.r1)
  have HCK := hid hck
  have HRA := hid hra
  have HRC := hid hrc
  have HZN := hid (hz0 px hpx)
  have hLp := hL px hpx
  have ym : W0.cell? ⟨Bm, 0, none⟩ = some (.int .i64 (A.K : Nat)) := below_cell hb0 (Nat.le_refl _) (below_cell hb (Nat.le_refl _) hm)
  have y4 := below_cell hb0 (Nat.le_refl _) hbo.r4
  obtain ⟨i5, hi, hz0', hz1, hz2⟩ := info_parts Try.info59
  have HJ : Hid (Try.prog.info? 59 = some i5 ∧ i5.zero = some (.agg #[.int .i64 0, .int .i64 0]) ∧ i5.size = 2 ∧ i5.bytes = 16) := ⟨hi, hz0', hz1, hz2⟩
  clear hi hz0' hz1 hz2 hz0 hL hm hBo hna hnc hck hra hrc
  by_cases hk : 0 < A.K
  · rw [if_neg (by omega)] at hpk
    obtain ⟨fb, fo, hfa, hfc⟩ := hu.fair
    obtain ⟨ra, rc, hfk, hrow⟩ := hfc pk hpk
    have hfa := hfa (by omega)
    rw [hfa] at y4
    have yf := below_cell hb0 (Nat.le_refl _) hfk
    obtain ⟨fq, hfq⟩ : ∃ fq, aFr A pk px = fq := ⟨_, rfl⟩
    have CI : Hid (Calls Try.prog 26 #[.slice ra (A.FL pk) rc, .int .i64 ((px : Nat) : Int)] W0.drew fun e w' => e = .returned (.bool fq) ∧ w' = W0.drew) := hid (by
      rw [← hfq]
      exact conI ra (A.FL pk) rc (A.FZ pk) (px : Nat) W0.drew (hu.f47 pk hpk) ((hrow.below hb0).below (Below.refl _ _).drew))
    have hS0 : (fun z : World => z.cell? ⟨Bm, 0, none⟩ = some (.int .i64 (A.K : Nat)) ∧ z.cell? ⟨Ba, 4, none⟩ = some (.slice (some ⟨fb, fo, none⟩) A.K A.fc) ∧ z.cell? ⟨u.heap.size, 0, none⟩ = some (.int .i64 (px : Nat)) ∧ z.cell? ⟨fb, fo + pk, none⟩ = some (.slice ra (A.FL pk) rc)) W0.drew := ⟨ym, y4, x0, yf⟩
    have HB0 := hid hb0
    have hKl : A.K ≤ 80 := by omega
    clear hu hfc hfk hrow hb0 h hb hfa h0
    cases fq
    · have HKW : Hid (sNo A.K (aFr A) (px, pk) = pk) := hid (if_neg (by rw [hfq]; simp))
      clear hfq
      have HFIN : Hid (∀ va vc j wr, j = A.L px → Below u.heap.size u wr → wr.ownsRow (u.heap.size + 1) 59 2 (.slice va j vc) j (pcells ((List.range j).map fun i => ((A.Z px i).toNat, pk))) → ∃ xa xc, Ending.returned (.slice va j vc) = .returned (.slice xa (dNx A (px, pk)).length xc) ∧ Hid (Below u.heap.size u wr ∧ Sp wr xa (dNx A (px, pk)).length (nAt (dNx A (px, pk))) ∧ ∀ q, xa = some q → u.heap.size ≤ q.block)) := hid (fun va vc j wr hj hb ho => s25_fin hpx HKW.out hj hb ho)
      go_enter Try.func25, Try.ntmps25
      go_wp2_with fail
      refine G_region (fun z : World => z.cell? ⟨Bm, 0, none⟩ = some (.int .i64 (A.K : Nat)) ∧ z.cell? ⟨Ba, 4, none⟩ = some (.slice (some ⟨fb, fo, none⟩) A.K A.fc) ∧ z.cell? ⟨u.heap.size, 0, none⟩ = some (.int .i64 (px : Nat)) ∧ z.cell? ⟨fb, fo + pk, none⟩ = some (.slice ra (A.FL pk) rc)) (fun _ => false) (by kernel_rfl) hS0 (fun _ => ?_)
      refine G_take (i := 0) (oi := { dst := some 10, op := Op.load 3 (Operand.tmp 1), type := 3, pos := _, after := #[], guard := none }) (v := .int .i64 (A.K : Nat)) rfl (by kernel_rfl) (by kernel_rfl) (by kernel_rfl) (by kernel_rfl) (fun _ _ _ h => h) (by rfl) (fun u hu => ?_) hS0 ?_
      · (try dsimp only at hu); go_simp
      (try simp only [Act.put, List.setIfInBounds_toArray, List.set_cons_zero, List.set_cons_succ])
      refine G_take (i := 1) (oi := { dst := some 11, op := Op.binOp BinOp.gtr 3 (Operand.tmp 10) (Operand.const (Value.int IntKind.i64 0)) 3, type := 4, pos := _, after := #[{ on := 0, ground := Ground.data }], guard := none }) (v := .bool true) rfl (by kernel_rfl) (by kernel_rfl) (by kernel_rfl) (by kernel_rfl) (fun _ _ _ h => h) (by rfl) (fun u hu => ?_) hS0 ?_
      · (try dsimp only at hu); go_simp
      (try simp only [Act.put, List.setIfInBounds_toArray, List.set_cons_zero, List.set_cons_succ])
      refine G_take (i := 2) (oi := { dst := some 12, op := Op.move (Operand.tmp 11), type := 4, pos := _, after := #[{ on := 1, ground := Ground.data }], guard := none }) (v := .bool true) rfl (by kernel_rfl) (by kernel_rfl) (by kernel_rfl) (by kernel_rfl) (fun _ _ _ h => h) (by rfl) (fun u hu => ?_) hS0 ?_
      · (try dsimp only at hu); go_simp
      (try simp only [Act.put, List.setIfInBounds_toArray, List.set_cons_zero, List.set_cons_succ])
      refine G_take (i := 3) (oi := { dst := some 13, op := Op.fieldAddr 26 (Operand.tmp 2) 4, type := 0, pos := _, after := #[{ on := 2, ground := Ground.guard }], guard := some (2, true) }) (v := .pointer (some ⟨Ba, 4, none⟩)) rfl (by kernel_rfl) (by kernel_rfl) (by kernel_rfl) (by kernel_rfl) (fun _ _ _ h => h) (by rfl) (fun u hu => ?_) hS0 ?_
      · (try dsimp only at hu); go_simp
      (try simp only [Act.put, List.setIfInBounds_toArray, List.set_cons_zero, List.set_cons_succ])
      refine G_take (i := 4) (oi := { dst := some 14, op := Op.load 23 (Operand.tmp 13), type := 23, pos := _, after := #[{ on := 3, ground := Ground.data }, { on := 2, ground := Ground.guard }], guard := some (2, true) }) (v := .slice (some ⟨fb, fo, none⟩) A.K A.fc) rfl (by kernel_rfl) (by kernel_rfl) (by kernel_rfl) (by kernel_rfl) (fun _ _ _ h => h) (by rfl) (fun u hu => ?_) hS0 ?_
      · (try dsimp only at hu); go_simp
      (try simp only [Act.put, List.setIfInBounds_toArray, List.set_cons_zero, List.set_cons_succ])
      refine G_take (i := 5) (oi := { dst := some 15, op := Op.move (Operand.tmp 5), type := 3, pos := _, after := #[{ on := 2, ground := Ground.guard }], guard := some (2, true) }) (v := .int .i64 (pk : Nat)) rfl (by kernel_rfl) (by kernel_rfl) (by kernel_rfl) (by kernel_rfl) (fun _ _ _ h => h) (by rfl) (fun u hu => ?_) hS0 ?_
      · (try dsimp only at hu); go_simp
      (try simp only [Act.put, List.setIfInBounds_toArray, List.set_cons_zero, List.set_cons_succ])
      refine G_take (i := 6) (oi := { dst := some 16, op := Op.indexAddr 23 (Operand.tmp 14) (Operand.tmp 15), type := 0, pos := _, after := #[{ on := 4, ground := Ground.data }, { on := 5, ground := Ground.data }, { on := 2, ground := Ground.guard }], guard := some (2, true) }) (v := .pointer (some ⟨fb, fo + pk, none⟩)) rfl (by kernel_rfl) (by kernel_rfl) (by kernel_rfl) (by kernel_rfl) (fun _ _ _ h => h) (by rfl) (fun u hu => ?_) hS0 ?_
      · (try dsimp only at hu); go_simp
      (try simp only [Act.put, List.setIfInBounds_toArray, List.set_cons_zero, List.set_cons_succ])
      refine G_take (i := 7) (oi := { dst := some 17, op := Op.load 22 (Operand.tmp 16), type := 22, pos := _, after := #[{ on := 6, ground := Ground.data }, { on := 2, ground := Ground.guard }], guard := some (2, true) }) (v := .slice ra (A.FL pk) rc) rfl (by kernel_rfl) (by kernel_rfl) (by kernel_rfl) (by kernel_rfl) (fun _ _ _ h => h) (by rfl) (fun u hu => ?_) hS0 ?_
      · (try dsimp only at hu); go_simp
      (try simp only [Act.put, List.setIfInBounds_toArray, List.set_cons_zero, List.set_cons_succ])
      refine G_take (i := 8) (oi := { dst := some 18, op := Op.indexAddr 59 (Operand.tmp 3) (Operand.const (Value.int IntKind.i64 0)), type := 0, pos := _, after := #[{ on := 2, ground := Ground.guard }], guard := some (2, true) }) (v := .pointer (some ⟨u.heap.size, 0, none⟩)) rfl (by kernel_rfl) (by kernel_rfl) (by kernel_rfl) (by kernel_rfl) (fun _ _ _ h => h) (by rfl) (fun u hu => ?_) hS0 ?_
      · (try dsimp only at hu); go_simp
      (try simp only [Act.put, List.setIfInBounds_toArray, List.set_cons_zero, List.set_cons_succ])
      refine G_take (i := 9) (oi := { dst := some 19, op := Op.load 3 (Operand.tmp 18), type := 3, pos := _, after := #[{ on := 8, ground := Ground.data }, { on := 2, ground := Ground.guard }], guard := some (2, true) }) (v := .int .i64 (px : Nat)) rfl (by kernel_rfl) (by kernel_rfl) (by kernel_rfl) (by kernel_rfl) (fun _ _ _ h => h) (by rfl) (fun u hu => ?_) hS0 ?_
      · (try dsimp only at hu); go_simp
      (try simp only [Act.put, List.setIfInBounds_toArray, List.set_cons_zero, List.set_cons_succ])
      refine G_step (i := 10) (o := { dst := some 20, op := Op.call { callee := Callee.value (Operand.func 26), args := #[Operand.tmp 17, Operand.tmp 19], argTypes := #[22, 3] }, type := 4, pos := _, after := #[{ on := 7, ground := Ground.data }, { on := 9, ground := Ground.data }, { on := 2, ground := Ground.chain }, { on := 2, ground := Ground.guard }], guard := some (2, true) }) (by kernel_rfl) rfl (fun K' hK => ?_)
      go_simp
      refine CI.out.mono ?_
      rintro e z1 ⟨rfl, hq⟩
      obtain rfl := hq.symm
      dsimp only
      refine hK.out _ _ (fun _ => hS0) (fun _ => ?_)
      (try simp only [Act.put, List.setIfInBounds_toArray, List.set_cons_zero, List.set_cons_succ])
      refine G_take (i := 11) (oi := { dst := some 21, op := Op.pick (Operand.tmp 12) (Operand.tmp 20) (Operand.const (Value.bool false)), type := 4, pos := _, after := #[{ on := 2, ground := Ground.data }, { on := 10, ground := Ground.data }], guard := none }) (v := .bool false) rfl (by kernel_rfl) (by kernel_rfl) (by kernel_rfl) (by kernel_rfl) (fun _ _ _ h => h) (by rfl) (fun u hu => ?_) hS0 ?_
      · (try dsimp only at hu); go_simp
      (try simp only [Act.put, List.setIfInBounds_toArray, List.set_cons_zero, List.set_cons_succ])
      refine G_done (by kernel_rfl) ?_ _
      (try dsimp only [Exit.then])
      go_wp2
      go_loopw [6, 7] (fun v i wr => ∃ j : Nat, j ≤ A.L px ∧ i = .int .i64 j ∧ Hid (Below u.heap.size u wr ∧ wr.cell? ⟨u.heap.size, 0, none⟩ = some (.int .i64 (px : Nat)) ∧ wr.ownsRow (u.heap.size + 1) 59 2 v j (pcells ((List.range j).map fun i => ((A.Z px i).toNat, pk))))) (fun _ i _ => A.L px - (intOf i).toNat)
      case atStart => exact ⟨0, Nat.zero_le _, rfl, hid ⟨HB0.out.drew, x0, World.ownsRow_nil _ _ _ _⟩⟩
      case round =>
        obtain ⟨j, hj, rfl, H⟩ := hrel
        have y0 := H.out.2.1
        have y1 : wr.cell? ⟨Ba, 1, none⟩ = some (.slice (some ⟨nb, no, none⟩) A.G A.nc) := below_cell H.out.1 (Nat.le_refl _) Q1.out
        have y2 : wr.cell? ⟨nb, no + px, none⟩ = some (.slice na (A.L px) nc) := below_cell H.out.1 (Nat.le_refl _) HCK.out
        by_cases hlt : j < A.L px
        · obtain rfl := HRA.out (by omega)
          have y3 : wr.cell? ⟨rb, ro + j, none⟩ = some (.int .i64 (A.Z px j)) := below_cell H.out.1 (Nat.le_refl _) (HRC.out j hlt)
          obtain ⟨z, hz⟩ : ∃ z : Nat, A.Z px j = z := ⟨(A.Z px j).toNat, by have := HZN.out j hlt; omega⟩
          rw [hz] at y3
          have HZE := hid hz
          obtain ⟨va, vc, hv⟩ := owns_sl H.out.2.2
          subst hv
          have hws := H.out.1.size
          have hus : u.heap.size + 1 ≤ wr.heap.size := by have := World.block_lt_of_cell? _ _ y0; dsimp only at this; omega
          clear hz
          go_wp2_with (at_builtin; refine wpList_append_own_at _ rfl _ _ 58 rfl (u.heap.size + 1) 59 i5 (.agg #[.int .i64 0, .int .i64 0]) 2 16 Try.underlying58 HJ.out.1 HJ.out.2.1 HJ.out.2.2.1 HJ.out.2.2.2 rfl (by decide) _ _ _ rfl (H.out.2.2.alloc _) ⟨wr.heap.size, 0, none⟩ 1 1 [.int .i64 (z : Nat), .int .i64 (pk : Nat)] rfl rfl (World.news_of_block (w := wr.alloc (.cells #[.int .i64 (z : Nat), .int .i64 (pk : Nat)] 59)) (cs := #[.int .i64 (z : Nat), .int .i64 (pk : Nat)]) (t := 59) (fr := (0, 0)) (Go.Deep.blk_alloc_new _ _)) (by simp [Value.oneCell']) (by unfold maxLen; omega) (by omega) (by simp; omega) ?_; intro v' w3 hown' hgrow hnil hloc; have G := hid (pd_grow (z := z) (kw := pk) (Z := A.Z px) H.out.1 H.out.2.1 H.out.2.2 (by rw [HZE.out]; rfl) hown' hgrow); clear hown' hgrow hnil hloc)
          go_roundw
          case rel => exact ⟨j + 1, by omega, by go_num, G⟩
          case measure => simp [intOf]; omega
        · obtain ⟨va, vc, hv⟩ := owns_sl H.out.2.2
          subst hv
          have HJE : Hid (j = A.L px) := hid (by omega)
          go_wp2
          go_ret
          exact HFIN.out va vc j wr HJE.out H.out.1 H.out.2.2
    · by_cases he : pk + 1 = A.K
      · have HKW : Hid (sNo A.K (aFr A) (px, pk) = 0) := hid (by unfold sNo; rw [if_pos ⟨hk, hfq⟩]; exact if_pos he)
        have he2 : (((pk : Nat) : Int) + 1 == ((A.K : Nat) : Int)) = true := by rw [beq_iff_eq]; omega
        have HE := hid he
        clear hfq he
        have HFIN : Hid (∀ va vc j wr, j = A.L px → Below u.heap.size u wr → wr.ownsRow (u.heap.size + 1) 59 2 (.slice va j vc) j (pcells ((List.range j).map fun i => ((A.Z px i).toNat, 0))) → ∃ xa xc, Ending.returned (.slice va j vc) = .returned (.slice xa (dNx A (px, pk)).length xc) ∧ Hid (Below u.heap.size u wr ∧ Sp wr xa (dNx A (px, pk)).length (nAt (dNx A (px, pk))) ∧ ∀ q, xa = some q → u.heap.size ≤ q.block)) := hid (fun va vc j wr hj hb ho => s25_fin hpx HKW.out hj hb ho)
        go_enter Try.func25, Try.ntmps25
        go_wp2_with fail
        refine G_region (fun z : World => z.cell? ⟨Bm, 0, none⟩ = some (.int .i64 (A.K : Nat)) ∧ z.cell? ⟨Ba, 4, none⟩ = some (.slice (some ⟨fb, fo, none⟩) A.K A.fc) ∧ z.cell? ⟨u.heap.size, 0, none⟩ = some (.int .i64 (px : Nat)) ∧ z.cell? ⟨fb, fo + pk, none⟩ = some (.slice ra (A.FL pk) rc)) (fun _ => false) (by kernel_rfl) hS0 (fun _ => ?_)
        refine G_take (i := 0) (oi := { dst := some 10, op := Op.load 3 (Operand.tmp 1), type := 3, pos := _, after := #[], guard := none }) (v := .int .i64 (A.K : Nat)) rfl (by kernel_rfl) (by kernel_rfl) (by kernel_rfl) (by kernel_rfl) (fun _ _ _ h => h) (by rfl) (fun u hu => ?_) hS0 ?_
        · (try dsimp only at hu); go_simp
        (try simp only [Act.put, List.setIfInBounds_toArray, List.set_cons_zero, List.set_cons_succ])
        refine G_take (i := 1) (oi := { dst := some 11, op := Op.binOp BinOp.gtr 3 (Operand.tmp 10) (Operand.const (Value.int IntKind.i64 0)) 3, type := 4, pos := _, after := #[{ on := 0, ground := Ground.data }], guard := none }) (v := .bool true) rfl (by kernel_rfl) (by kernel_rfl) (by kernel_rfl) (by kernel_rfl) (fun _ _ _ h => h) (by rfl) (fun u hu => ?_) hS0 ?_
        · (try dsimp only at hu); go_simp
        (try simp only [Act.put, List.setIfInBounds_toArray, List.set_cons_zero, List.set_cons_succ])
        refine G_take (i := 2) (oi := { dst := some 12, op := Op.move (Operand.tmp 11), type := 4, pos := _, after := #[{ on := 1, ground := Ground.data }], guard := none }) (v := .bool true) rfl (by kernel_rfl) (by kernel_rfl) (by kernel_rfl) (by kernel_rfl) (fun _ _ _ h => h) (by rfl) (fun u hu => ?_) hS0 ?_
        · (try dsimp only at hu); go_simp
        (try simp only [Act.put, List.setIfInBounds_toArray, List.set_cons_zero, List.set_cons_succ])
        refine G_take (i := 3) (oi := { dst := some 13, op := Op.fieldAddr 26 (Operand.tmp 2) 4, type := 0, pos := _, after := #[{ on := 2, ground := Ground.guard }], guard := some (2, true) }) (v := .pointer (some ⟨Ba, 4, none⟩)) rfl (by kernel_rfl) (by kernel_rfl) (by kernel_rfl) (by kernel_rfl) (fun _ _ _ h => h) (by rfl) (fun u hu => ?_) hS0 ?_
        · (try dsimp only at hu); go_simp
        (try simp only [Act.put, List.setIfInBounds_toArray, List.set_cons_zero, List.set_cons_succ])
        refine G_take (i := 4) (oi := { dst := some 14, op := Op.load 23 (Operand.tmp 13), type := 23, pos := _, after := #[{ on := 3, ground := Ground.data }, { on := 2, ground := Ground.guard }], guard := some (2, true) }) (v := .slice (some ⟨fb, fo, none⟩) A.K A.fc) rfl (by kernel_rfl) (by kernel_rfl) (by kernel_rfl) (by kernel_rfl) (fun _ _ _ h => h) (by rfl) (fun u hu => ?_) hS0 ?_
        · (try dsimp only at hu); go_simp
        (try simp only [Act.put, List.setIfInBounds_toArray, List.set_cons_zero, List.set_cons_succ])
        refine G_take (i := 5) (oi := { dst := some 15, op := Op.move (Operand.tmp 5), type := 3, pos := _, after := #[{ on := 2, ground := Ground.guard }], guard := some (2, true) }) (v := .int .i64 (pk : Nat)) rfl (by kernel_rfl) (by kernel_rfl) (by kernel_rfl) (by kernel_rfl) (fun _ _ _ h => h) (by rfl) (fun u hu => ?_) hS0 ?_
        · (try dsimp only at hu); go_simp
        (try simp only [Act.put, List.setIfInBounds_toArray, List.set_cons_zero, List.set_cons_succ])
        refine G_take (i := 6) (oi := { dst := some 16, op := Op.indexAddr 23 (Operand.tmp 14) (Operand.tmp 15), type := 0, pos := _, after := #[{ on := 4, ground := Ground.data }, { on := 5, ground := Ground.data }, { on := 2, ground := Ground.guard }], guard := some (2, true) }) (v := .pointer (some ⟨fb, fo + pk, none⟩)) rfl (by kernel_rfl) (by kernel_rfl) (by kernel_rfl) (by kernel_rfl) (fun _ _ _ h => h) (by rfl) (fun u hu => ?_) hS0 ?_
        · (try dsimp only at hu); go_simp
        (try simp only [Act.put, List.setIfInBounds_toArray, List.set_cons_zero, List.set_cons_succ])
        refine G_take (i := 7) (oi := { dst := some 17, op := Op.load 22 (Operand.tmp 16), type := 22, pos := _, after := #[{ on := 6, ground := Ground.data }, { on := 2, ground := Ground.guard }], guard := some (2, true) }) (v := .slice ra (A.FL pk) rc) rfl (by kernel_rfl) (by kernel_rfl) (by kernel_rfl) (by kernel_rfl) (fun _ _ _ h => h) (by rfl) (fun u hu => ?_) hS0 ?_
        · (try dsimp only at hu); go_simp
        (try simp only [Act.put, List.setIfInBounds_toArray, List.set_cons_zero, List.set_cons_succ])
        refine G_take (i := 8) (oi := { dst := some 18, op := Op.indexAddr 59 (Operand.tmp 3) (Operand.const (Value.int IntKind.i64 0)), type := 0, pos := _, after := #[{ on := 2, ground := Ground.guard }], guard := some (2, true) }) (v := .pointer (some ⟨u.heap.size, 0, none⟩)) rfl (by kernel_rfl) (by kernel_rfl) (by kernel_rfl) (by kernel_rfl) (fun _ _ _ h => h) (by rfl) (fun u hu => ?_) hS0 ?_
        · (try dsimp only at hu); go_simp
        (try simp only [Act.put, List.setIfInBounds_toArray, List.set_cons_zero, List.set_cons_succ])
        refine G_take (i := 9) (oi := { dst := some 19, op := Op.load 3 (Operand.tmp 18), type := 3, pos := _, after := #[{ on := 8, ground := Ground.data }, { on := 2, ground := Ground.guard }], guard := some (2, true) }) (v := .int .i64 (px : Nat)) rfl (by kernel_rfl) (by kernel_rfl) (by kernel_rfl) (by kernel_rfl) (fun _ _ _ h => h) (by rfl) (fun u hu => ?_) hS0 ?_
        · (try dsimp only at hu); go_simp
        (try simp only [Act.put, List.setIfInBounds_toArray, List.set_cons_zero, List.set_cons_succ])
        refine G_step (i := 10) (o := { dst := some 20, op := Op.call { callee := Callee.value (Operand.func 26), args := #[Operand.tmp 17, Operand.tmp 19], argTypes := #[22, 3] }, type := 4, pos := _, after := #[{ on := 7, ground := Ground.data }, { on := 9, ground := Ground.data }, { on := 2, ground := Ground.chain }, { on := 2, ground := Ground.guard }], guard := some (2, true) }) (by kernel_rfl) rfl (fun K' hK => ?_)
        go_simp
        refine CI.out.mono ?_
        rintro e z1 ⟨rfl, hq⟩
        obtain rfl := hq.symm
        dsimp only
        refine hK.out _ _ (fun _ => hS0) (fun _ => ?_)
        (try simp only [Act.put, List.setIfInBounds_toArray, List.set_cons_zero, List.set_cons_succ])
        refine G_take (i := 11) (oi := { dst := some 21, op := Op.pick (Operand.tmp 12) (Operand.tmp 20) (Operand.const (Value.bool false)), type := 4, pos := _, after := #[{ on := 2, ground := Ground.data }, { on := 10, ground := Ground.data }], guard := none }) (v := .bool true) rfl (by kernel_rfl) (by kernel_rfl) (by kernel_rfl) (by kernel_rfl) (fun _ _ _ h => h) (by rfl) (fun u hu => ?_) hS0 ?_
        · (try dsimp only at hu); go_simp
        (try simp only [Act.put, List.setIfInBounds_toArray, List.set_cons_zero, List.set_cons_succ])
        refine G_done (by kernel_rfl) ?_ _
        (try dsimp only [Exit.then])
        go_wp2
        go_loopw [6, 7] (fun v i wr => ∃ j : Nat, j ≤ A.L px ∧ i = .int .i64 j ∧ Hid (Below u.heap.size u wr ∧ wr.cell? ⟨u.heap.size, 0, none⟩ = some (.int .i64 (px : Nat)) ∧ wr.ownsRow (u.heap.size + 1) 59 2 v j (pcells ((List.range j).map fun i => ((A.Z px i).toNat, 0))))) (fun _ i _ => A.L px - (intOf i).toNat)
        case atStart => exact ⟨0, Nat.zero_le _, rfl, hid ⟨HB0.out.drew, x0, World.ownsRow_nil _ _ _ _⟩⟩
        case round =>
          obtain ⟨j, hj, rfl, H⟩ := hrel
          have y0 := H.out.2.1
          have y1 : wr.cell? ⟨Ba, 1, none⟩ = some (.slice (some ⟨nb, no, none⟩) A.G A.nc) := below_cell H.out.1 (Nat.le_refl _) Q1.out
          have y2 : wr.cell? ⟨nb, no + px, none⟩ = some (.slice na (A.L px) nc) := below_cell H.out.1 (Nat.le_refl _) HCK.out
          by_cases hlt : j < A.L px
          · obtain rfl := HRA.out (by omega)
            have y3 : wr.cell? ⟨rb, ro + j, none⟩ = some (.int .i64 (A.Z px j)) := below_cell H.out.1 (Nat.le_refl _) (HRC.out j hlt)
            obtain ⟨z, hz⟩ : ∃ z : Nat, A.Z px j = z := ⟨(A.Z px j).toNat, by have := HZN.out j hlt; omega⟩
            rw [hz] at y3
            have HZE := hid hz
            obtain ⟨va, vc, hv⟩ := owns_sl H.out.2.2
            subst hv
            have hws := H.out.1.size
            have hus : u.heap.size + 1 ≤ wr.heap.size := by have := World.block_lt_of_cell? _ _ y0; dsimp only at this; omega
            clear hz
            go_wp2_with (at_builtin; refine wpList_append_own_at _ rfl _ _ 58 rfl (u.heap.size + 1) 59 i5 (.agg #[.int .i64 0, .int .i64 0]) 2 16 Try.underlying58 HJ.out.1 HJ.out.2.1 HJ.out.2.2.1 HJ.out.2.2.2 rfl (by decide) _ _ _ rfl (H.out.2.2.alloc _) ⟨wr.heap.size, 0, none⟩ 1 1 [.int .i64 (z : Nat), .int .i64 0] rfl rfl (World.news_of_block (w := wr.alloc (.cells #[.int .i64 (z : Nat), .int .i64 0] 59)) (cs := #[.int .i64 (z : Nat), .int .i64 0]) (t := 59) (fr := (0, 0)) (Go.Deep.blk_alloc_new _ _)) (by simp [Value.oneCell']) (by unfold maxLen; omega) (by omega) (by simp; omega) ?_; intro v' w3 hown' hgrow hnil hloc; have G := hid (pd_grow (z := z) (kw := 0) (Z := A.Z px) H.out.1 H.out.2.1 H.out.2.2 (by rw [HZE.out]; rfl) hown' hgrow); clear hown' hgrow hnil hloc)
            go_roundw
            case rel => exact ⟨j + 1, by omega, by go_num, G⟩
            case measure => simp [intOf]; omega
          · obtain ⟨va, vc, hv⟩ := owns_sl H.out.2.2
            subst hv
            have HJE : Hid (j = A.L px) := hid (by omega)
            go_wp2
            go_ret
            exact HFIN.out va vc j wr HJE.out H.out.1 H.out.2.2
      · have HKW : Hid (sNo A.K (aFr A) (px, pk) = pk + 1) := hid (by unfold sNo; rw [if_pos ⟨hk, hfq⟩]; exact if_neg he)
        have he2 : (((pk : Nat) : Int) + 1 == ((A.K : Nat) : Int)) = false := beq_eq_false_iff_ne.2 (by omega)
        have HE := hid he
        clear hfq he
        have HFIN : Hid (∀ va vc j wr, j = A.L px → Below u.heap.size u wr → wr.ownsRow (u.heap.size + 1) 59 2 (.slice va j vc) j (pcells ((List.range j).map fun i => ((A.Z px i).toNat, pk + 1))) → ∃ xa xc, Ending.returned (.slice va j vc) = .returned (.slice xa (dNx A (px, pk)).length xc) ∧ Hid (Below u.heap.size u wr ∧ Sp wr xa (dNx A (px, pk)).length (nAt (dNx A (px, pk))) ∧ ∀ q, xa = some q → u.heap.size ≤ q.block)) := hid (fun va vc j wr hj hb ho => s25_fin hpx HKW.out hj hb ho)
        go_enter Try.func25, Try.ntmps25
        go_wp2_with fail
        refine G_region (fun z : World => z.cell? ⟨Bm, 0, none⟩ = some (.int .i64 (A.K : Nat)) ∧ z.cell? ⟨Ba, 4, none⟩ = some (.slice (some ⟨fb, fo, none⟩) A.K A.fc) ∧ z.cell? ⟨u.heap.size, 0, none⟩ = some (.int .i64 (px : Nat)) ∧ z.cell? ⟨fb, fo + pk, none⟩ = some (.slice ra (A.FL pk) rc)) (fun _ => false) (by kernel_rfl) hS0 (fun _ => ?_)
        refine G_take (i := 0) (oi := { dst := some 10, op := Op.load 3 (Operand.tmp 1), type := 3, pos := _, after := #[], guard := none }) (v := .int .i64 (A.K : Nat)) rfl (by kernel_rfl) (by kernel_rfl) (by kernel_rfl) (by kernel_rfl) (fun _ _ _ h => h) (by rfl) (fun u hu => ?_) hS0 ?_
        · (try dsimp only at hu); go_simp
        (try simp only [Act.put, List.setIfInBounds_toArray, List.set_cons_zero, List.set_cons_succ])
        refine G_take (i := 1) (oi := { dst := some 11, op := Op.binOp BinOp.gtr 3 (Operand.tmp 10) (Operand.const (Value.int IntKind.i64 0)) 3, type := 4, pos := _, after := #[{ on := 0, ground := Ground.data }], guard := none }) (v := .bool true) rfl (by kernel_rfl) (by kernel_rfl) (by kernel_rfl) (by kernel_rfl) (fun _ _ _ h => h) (by rfl) (fun u hu => ?_) hS0 ?_
        · (try dsimp only at hu); go_simp
        (try simp only [Act.put, List.setIfInBounds_toArray, List.set_cons_zero, List.set_cons_succ])
        refine G_take (i := 2) (oi := { dst := some 12, op := Op.move (Operand.tmp 11), type := 4, pos := _, after := #[{ on := 1, ground := Ground.data }], guard := none }) (v := .bool true) rfl (by kernel_rfl) (by kernel_rfl) (by kernel_rfl) (by kernel_rfl) (fun _ _ _ h => h) (by rfl) (fun u hu => ?_) hS0 ?_
        · (try dsimp only at hu); go_simp
        (try simp only [Act.put, List.setIfInBounds_toArray, List.set_cons_zero, List.set_cons_succ])
        refine G_take (i := 3) (oi := { dst := some 13, op := Op.fieldAddr 26 (Operand.tmp 2) 4, type := 0, pos := _, after := #[{ on := 2, ground := Ground.guard }], guard := some (2, true) }) (v := .pointer (some ⟨Ba, 4, none⟩)) rfl (by kernel_rfl) (by kernel_rfl) (by kernel_rfl) (by kernel_rfl) (fun _ _ _ h => h) (by rfl) (fun u hu => ?_) hS0 ?_
        · (try dsimp only at hu); go_simp
        (try simp only [Act.put, List.setIfInBounds_toArray, List.set_cons_zero, List.set_cons_succ])
        refine G_take (i := 4) (oi := { dst := some 14, op := Op.load 23 (Operand.tmp 13), type := 23, pos := _, after := #[{ on := 3, ground := Ground.data }, { on := 2, ground := Ground.guard }], guard := some (2, true) }) (v := .slice (some ⟨fb, fo, none⟩) A.K A.fc) rfl (by kernel_rfl) (by kernel_rfl) (by kernel_rfl) (by kernel_rfl) (fun _ _ _ h => h) (by rfl) (fun u hu => ?_) hS0 ?_
        · (try dsimp only at hu); go_simp
        (try simp only [Act.put, List.setIfInBounds_toArray, List.set_cons_zero, List.set_cons_succ])
        refine G_take (i := 5) (oi := { dst := some 15, op := Op.move (Operand.tmp 5), type := 3, pos := _, after := #[{ on := 2, ground := Ground.guard }], guard := some (2, true) }) (v := .int .i64 (pk : Nat)) rfl (by kernel_rfl) (by kernel_rfl) (by kernel_rfl) (by kernel_rfl) (fun _ _ _ h => h) (by rfl) (fun u hu => ?_) hS0 ?_
        · (try dsimp only at hu); go_simp
        (try simp only [Act.put, List.setIfInBounds_toArray, List.set_cons_zero, List.set_cons_succ])
        refine G_take (i := 6) (oi := { dst := some 16, op := Op.indexAddr 23 (Operand.tmp 14) (Operand.tmp 15), type := 0, pos := _, after := #[{ on := 4, ground := Ground.data }, { on := 5, ground := Ground.data }, { on := 2, ground := Ground.guard }], guard := some (2, true) }) (v := .pointer (some ⟨fb, fo + pk, none⟩)) rfl (by kernel_rfl) (by kernel_rfl) (by kernel_rfl) (by kernel_rfl) (fun _ _ _ h => h) (by rfl) (fun u hu => ?_) hS0 ?_
        · (try dsimp only at hu); go_simp
        (try simp only [Act.put, List.setIfInBounds_toArray, List.set_cons_zero, List.set_cons_succ])
        refine G_take (i := 7) (oi := { dst := some 17, op := Op.load 22 (Operand.tmp 16), type := 22, pos := _, after := #[{ on := 6, ground := Ground.data }, { on := 2, ground := Ground.guard }], guard := some (2, true) }) (v := .slice ra (A.FL pk) rc) rfl (by kernel_rfl) (by kernel_rfl) (by kernel_rfl) (by kernel_rfl) (fun _ _ _ h => h) (by rfl) (fun u hu => ?_) hS0 ?_
        · (try dsimp only at hu); go_simp
        (try simp only [Act.put, List.setIfInBounds_toArray, List.set_cons_zero, List.set_cons_succ])
        refine G_take (i := 8) (oi := { dst := some 18, op := Op.indexAddr 59 (Operand.tmp 3) (Operand.const (Value.int IntKind.i64 0)), type := 0, pos := _, after := #[{ on := 2, ground := Ground.guard }], guard := some (2, true) }) (v := .pointer (some ⟨u.heap.size, 0, none⟩)) rfl (by kernel_rfl) (by kernel_rfl) (by kernel_rfl) (by kernel_rfl) (fun _ _ _ h => h) (by rfl) (fun u hu => ?_) hS0 ?_
        · (try dsimp only at hu); go_simp
        (try simp only [Act.put, List.setIfInBounds_toArray, List.set_cons_zero, List.set_cons_succ])
        refine G_take (i := 9) (oi := { dst := some 19, op := Op.load 3 (Operand.tmp 18), type := 3, pos := _, after := #[{ on := 8, ground := Ground.data }, { on := 2, ground := Ground.guard }], guard := some (2, true) }) (v := .int .i64 (px : Nat)) rfl (by kernel_rfl) (by kernel_rfl) (by kernel_rfl) (by kernel_rfl) (fun _ _ _ h => h) (by rfl) (fun u hu => ?_) hS0 ?_
        · (try dsimp only at hu); go_simp
        (try simp only [Act.put, List.setIfInBounds_toArray, List.set_cons_zero, List.set_cons_succ])
        refine G_step (i := 10) (o := { dst := some 20, op := Op.call { callee := Callee.value (Operand.func 26), args := #[Operand.tmp 17, Operand.tmp 19], argTypes := #[22, 3] }, type := 4, pos := _, after := #[{ on := 7, ground := Ground.data }, { on := 9, ground := Ground.data }, { on := 2, ground := Ground.chain }, { on := 2, ground := Ground.guard }], guard := some (2, true) }) (by kernel_rfl) rfl (fun K' hK => ?_)
        go_simp
        refine CI.out.mono ?_
        rintro e z1 ⟨rfl, hq⟩
        obtain rfl := hq.symm
        dsimp only
        refine hK.out _ _ (fun _ => hS0) (fun _ => ?_)
        (try simp only [Act.put, List.setIfInBounds_toArray, List.set_cons_zero, List.set_cons_succ])
        refine G_take (i := 11) (oi := { dst := some 21, op := Op.pick (Operand.tmp 12) (Operand.tmp 20) (Operand.const (Value.bool false)), type := 4, pos := _, after := #[{ on := 2, ground := Ground.data }, { on := 10, ground := Ground.data }], guard := none }) (v := .bool true) rfl (by kernel_rfl) (by kernel_rfl) (by kernel_rfl) (by kernel_rfl) (fun _ _ _ h => h) (by rfl) (fun u hu => ?_) hS0 ?_
        · (try dsimp only at hu); go_simp
        (try simp only [Act.put, List.setIfInBounds_toArray, List.set_cons_zero, List.set_cons_succ])
        refine G_done (by kernel_rfl) ?_ _
        (try dsimp only [Exit.then])
        go_wp2
        go_loopw [6, 7] (fun v i wr => ∃ j : Nat, j ≤ A.L px ∧ i = .int .i64 j ∧ Hid (Below u.heap.size u wr ∧ wr.cell? ⟨u.heap.size, 0, none⟩ = some (.int .i64 (px : Nat)) ∧ wr.ownsRow (u.heap.size + 1) 59 2 v j (pcells ((List.range j).map fun i => ((A.Z px i).toNat, (pk + 1)))))) (fun _ i _ => A.L px - (intOf i).toNat)
        case atStart => exact ⟨0, Nat.zero_le _, rfl, hid ⟨HB0.out.drew, x0, World.ownsRow_nil _ _ _ _⟩⟩
        case round =>
          obtain ⟨j, hj, rfl, H⟩ := hrel
          have y0 := H.out.2.1
          have y1 : wr.cell? ⟨Ba, 1, none⟩ = some (.slice (some ⟨nb, no, none⟩) A.G A.nc) := below_cell H.out.1 (Nat.le_refl _) Q1.out
          have y2 : wr.cell? ⟨nb, no + px, none⟩ = some (.slice na (A.L px) nc) := below_cell H.out.1 (Nat.le_refl _) HCK.out
          by_cases hlt : j < A.L px
          · obtain rfl := HRA.out (by omega)
            have y3 : wr.cell? ⟨rb, ro + j, none⟩ = some (.int .i64 (A.Z px j)) := below_cell H.out.1 (Nat.le_refl _) (HRC.out j hlt)
            obtain ⟨z, hz⟩ : ∃ z : Nat, A.Z px j = z := ⟨(A.Z px j).toNat, by have := HZN.out j hlt; omega⟩
            rw [hz] at y3
            have HZE := hid hz
            obtain ⟨va, vc, hv⟩ := owns_sl H.out.2.2
            subst hv
            have hws := H.out.1.size
            have hus : u.heap.size + 1 ≤ wr.heap.size := by have := World.block_lt_of_cell? _ _ y0; dsimp only at this; omega
            clear hz
            go_wp2_with (at_builtin; refine wpList_append_own_at _ rfl _ _ 58 rfl (u.heap.size + 1) 59 i5 (.agg #[.int .i64 0, .int .i64 0]) 2 16 Try.underlying58 HJ.out.1 HJ.out.2.1 HJ.out.2.2.1 HJ.out.2.2.2 rfl (by decide) _ _ _ rfl (H.out.2.2.alloc _) ⟨wr.heap.size, 0, none⟩ 1 1 [.int .i64 (z : Nat), .int .i64 (((pk : Nat) : Int) + 1)] rfl rfl (World.news_of_block (w := wr.alloc (.cells #[.int .i64 (z : Nat), .int .i64 (((pk : Nat) : Int) + 1)] 59)) (cs := #[.int .i64 (z : Nat), .int .i64 (((pk : Nat) : Int) + 1)]) (t := 59) (fr := (0, 0)) (Go.Deep.blk_alloc_new _ _)) (by simp [Value.oneCell']) (by unfold maxLen; omega) (by omega) (by simp; omega) ?_; intro v' w3 hown' hgrow hnil hloc; have G := hid (pd_grow (z := z) (kw := (pk + 1)) (Z := A.Z px) H.out.1 H.out.2.1 H.out.2.2 (by rw [HZE.out]; rfl) hown' hgrow); clear hown' hgrow hnil hloc)
            go_roundw
            case rel => exact ⟨j + 1, by omega, by go_num, G⟩
            case measure => simp [intOf]; omega
          · obtain ⟨va, vc, hv⟩ := owns_sl H.out.2.2
            subst hv
            have HJE : Hid (j = A.L px) := hid (by omega)
            go_wp2
            go_ret
            exact HFIN.out va vc j wr HJE.out H.out.1 H.out.2.2
  · have HKW : Hid (sNo A.K (aFr A) (px, pk) = pk) := hid (if_neg (by omega))
    have hS0 : (fun z : World => z.cell? ⟨Bm, 0, none⟩ = some (.int .i64 (A.K : Nat))) W0.drew := ym
    have HB0 := hid hb0
    have hKl : A.K = 0 := by omega
    rw [if_pos hKl] at hpk
    clear hu hb0 h hb h0
    have HFIN : Hid (∀ va vc j wr, j = A.L px → Below u.heap.size u wr → wr.ownsRow (u.heap.size + 1) 59 2 (.slice va j vc) j (pcells ((List.range j).map fun i => ((A.Z px i).toNat, pk))) → ∃ xa xc, Ending.returned (.slice va j vc) = .returned (.slice xa (dNx A (px, pk)).length xc) ∧ Hid (Below u.heap.size u wr ∧ Sp wr xa (dNx A (px, pk)).length (nAt (dNx A (px, pk))) ∧ ∀ q, xa = some q → u.heap.size ≤ q.block)) := hid (fun va vc j wr hj hb ho => s25_fin hpx HKW.out hj hb ho)
    go_enter Try.func25, Try.ntmps25
    go_wp2_with fail
    refine G_region (fun z : World => z.cell? ⟨Bm, 0, none⟩ = some (.int .i64 (A.K : Nat))) (fun _ => false) (by kernel_rfl) hS0 (fun _ => ?_)
    refine G_take (i := 0) (oi := { dst := some 10, op := Op.load 3 (Operand.tmp 1), type := 3, pos := _, after := #[], guard := none }) (v := .int .i64 (A.K : Nat)) rfl (by kernel_rfl) (by kernel_rfl) (by kernel_rfl) (by kernel_rfl) (fun _ _ _ h => h) (by rfl) (fun u hu => ?_) hS0 ?_
    · (try dsimp only at hu); go_simp
    (try simp only [Act.put, List.setIfInBounds_toArray, List.set_cons_zero, List.set_cons_succ])
    refine G_take (i := 1) (oi := { dst := some 11, op := Op.binOp BinOp.gtr 3 (Operand.tmp 10) (Operand.const (Value.int IntKind.i64 0)) 3, type := 4, pos := _, after := #[{ on := 0, ground := Ground.data }], guard := none }) (v := .bool false) rfl (by kernel_rfl) (by kernel_rfl) (by kernel_rfl) (by kernel_rfl) (fun _ _ _ h => h) (by rfl) (fun u hu => ?_) hS0 ?_
    · (try dsimp only at hu); go_simp
    (try simp only [Act.put, List.setIfInBounds_toArray, List.set_cons_zero, List.set_cons_succ])
    refine G_take (i := 2) (oi := { dst := some 12, op := Op.move (Operand.tmp 11), type := 4, pos := _, after := #[{ on := 1, ground := Ground.data }], guard := none }) (v := .bool false) rfl (by kernel_rfl) (by kernel_rfl) (by kernel_rfl) (by kernel_rfl) (fun _ _ _ h => h) (by rfl) (fun u hu => ?_) hS0 ?_
    · (try dsimp only at hu); go_simp
    (try simp only [Act.put, List.setIfInBounds_toArray, List.set_cons_zero, List.set_cons_succ])
    refine G_skip (i := 3) (oi := { dst := some 13, op := Op.fieldAddr 26 (Operand.tmp 2) 4, type := 0, pos := _, after := #[{ on := 2, ground := Ground.guard }], guard := some (2, true) }) rfl (by kernel_rfl) (by kernel_rfl) (by kernel_rfl) (by kernel_rfl) (fun _ _ _ h => h) (by rfl) hS0 ?_
    (try simp only [Act.put, List.setIfInBounds_toArray, List.set_cons_zero, List.set_cons_succ])
    refine G_skip (i := 4) (oi := { dst := some 14, op := Op.load 23 (Operand.tmp 13), type := 23, pos := _, after := #[{ on := 3, ground := Ground.data }, { on := 2, ground := Ground.guard }], guard := some (2, true) }) rfl (by kernel_rfl) (by kernel_rfl) (by kernel_rfl) (by kernel_rfl) (fun _ _ _ h => h) (by rfl) hS0 ?_
    (try simp only [Act.put, List.setIfInBounds_toArray, List.set_cons_zero, List.set_cons_succ])
    refine G_skip (i := 5) (oi := { dst := some 15, op := Op.move (Operand.tmp 5), type := 3, pos := _, after := #[{ on := 2, ground := Ground.guard }], guard := some (2, true) }) rfl (by kernel_rfl) (by kernel_rfl) (by kernel_rfl) (by kernel_rfl) (fun _ _ _ h => h) (by rfl) hS0 ?_
    (try simp only [Act.put, List.setIfInBounds_toArray, List.set_cons_zero, List.set_cons_succ])
    refine G_skip (i := 6) (oi := { dst := some 16, op := Op.indexAddr 23 (Operand.tmp 14) (Operand.tmp 15), type := 0, pos := _, after := #[{ on := 4, ground := Ground.data }, { on := 5, ground := Ground.data }, { on := 2, ground := Ground.guard }], guard := some (2, true) }) rfl (by kernel_rfl) (by kernel_rfl) (by kernel_rfl) (by kernel_rfl) (fun _ _ _ h => h) (by rfl) hS0 ?_
    (try simp only [Act.put, List.setIfInBounds_toArray, List.set_cons_zero, List.set_cons_succ])
    refine G_skip (i := 7) (oi := { dst := some 17, op := Op.load 22 (Operand.tmp 16), type := 22, pos := _, after := #[{ on := 6, ground := Ground.data }, { on := 2, ground := Ground.guard }], guard := some (2, true) }) rfl (by kernel_rfl) (by kernel_rfl) (by kernel_rfl) (by kernel_rfl) (fun _ _ _ h => h) (by rfl) hS0 ?_
    (try simp only [Act.put, List.setIfInBounds_toArray, List.set_cons_zero, List.set_cons_succ])
    refine G_skip (i := 8) (oi := { dst := some 18, op := Op.indexAddr 59 (Operand.tmp 3) (Operand.const (Value.int IntKind.i64 0)), type := 0, pos := _, after := #[{ on := 2, ground := Ground.guard }], guard := some (2, true) }) rfl (by kernel_rfl) (by kernel_rfl) (by kernel_rfl) (by kernel_rfl) (fun _ _ _ h => h) (by rfl) hS0 ?_
    (try simp only [Act.put, List.setIfInBounds_toArray, List.set_cons_zero, List.set_cons_succ])
    refine G_skip (i := 9) (oi := { dst := some 19, op := Op.load 3 (Operand.tmp 18), type := 3, pos := _, after := #[{ on := 8, ground := Ground.data }, { on := 2, ground := Ground.guard }], guard := some (2, true) }) rfl (by kernel_rfl) (by kernel_rfl) (by kernel_rfl) (by kernel_rfl) (fun _ _ _ h => h) (by rfl) hS0 ?_
    (try simp only [Act.put, List.setIfInBounds_toArray, List.set_cons_zero, List.set_cons_succ])
    refine G_skip (i := 10) (oi := { dst := some 20, op := Op.call { callee := Callee.value (Operand.func 26), args := #[Operand.tmp 17, Operand.tmp 19], argTypes := #[22, 3] }, type := 4, pos := _, after := #[{ on := 7, ground := Ground.data }, { on := 9, ground := Ground.data }, { on := 2, ground := Ground.chain }, { on := 2, ground := Ground.guard }], guard := some (2, true) }) rfl (by kernel_rfl) (by kernel_rfl) (by kernel_rfl) (by kernel_rfl) (fun _ _ _ h => h) (by rfl) hS0 ?_
    (try simp only [Act.put, List.setIfInBounds_toArray, List.set_cons_zero, List.set_cons_succ])
    refine G_take (i := 11) (oi := { dst := some 21, op := Op.pick (Operand.tmp 12) (Operand.tmp 20) (Operand.const (Value.bool false)), type := 4, pos := _, after := #[{ on := 2, ground := Ground.data }, { on := 10, ground := Ground.data }], guard := none }) (v := .bool false) rfl (by kernel_rfl) (by kernel_rfl) (by kernel_rfl) (by kernel_rfl) (fun _ _ _ h => h) (by rfl) (fun u hu => ?_) hS0 ?_
    · (try dsimp only at hu); go_simp
    (try simp only [Act.put, List.setIfInBounds_toArray, List.set_cons_zero, List.set_cons_succ])
    refine G_done (by kernel_rfl) ?_ _
    (try dsimp only [Exit.then])
    go_wp2
    go_loopw [6, 7] (fun v i wr => ∃ j : Nat, j ≤ A.L px ∧ i = .int .i64 j ∧ Hid (Below u.heap.size u wr ∧ wr.cell? ⟨u.heap.size, 0, none⟩ = some (.int .i64 (px : Nat)) ∧ wr.ownsRow (u.heap.size + 1) 59 2 v j (pcells ((List.range j).map fun i => ((A.Z px i).toNat, pk))))) (fun _ i _ => A.L px - (intOf i).toNat)
    case atStart => exact ⟨0, Nat.zero_le _, rfl, hid ⟨HB0.out.drew, x0, World.ownsRow_nil _ _ _ _⟩⟩
    case round =>
      obtain ⟨j, hj, rfl, H⟩ := hrel
      have y0 := H.out.2.1
      have y1 : wr.cell? ⟨Ba, 1, none⟩ = some (.slice (some ⟨nb, no, none⟩) A.G A.nc) := below_cell H.out.1 (Nat.le_refl _) Q1.out
      have y2 : wr.cell? ⟨nb, no + px, none⟩ = some (.slice na (A.L px) nc) := below_cell H.out.1 (Nat.le_refl _) HCK.out
      by_cases hlt : j < A.L px
      · obtain rfl := HRA.out (by omega)
        have y3 : wr.cell? ⟨rb, ro + j, none⟩ = some (.int .i64 (A.Z px j)) := below_cell H.out.1 (Nat.le_refl _) (HRC.out j hlt)
        obtain ⟨z, hz⟩ : ∃ z : Nat, A.Z px j = z := ⟨(A.Z px j).toNat, by have := HZN.out j hlt; omega⟩
        rw [hz] at y3
        have HZE := hid hz
        obtain ⟨va, vc, hv⟩ := owns_sl H.out.2.2
        subst hv
        have hws := H.out.1.size
        have hus : u.heap.size + 1 ≤ wr.heap.size := by have := World.block_lt_of_cell? _ _ y0; dsimp only at this; omega
        clear hz
        go_wp2_with (at_builtin; refine wpList_append_own_at _ rfl _ _ 58 rfl (u.heap.size + 1) 59 i5 (.agg #[.int .i64 0, .int .i64 0]) 2 16 Try.underlying58 HJ.out.1 HJ.out.2.1 HJ.out.2.2.1 HJ.out.2.2.2 rfl (by decide) _ _ _ rfl (H.out.2.2.alloc _) ⟨wr.heap.size, 0, none⟩ 1 1 [.int .i64 (z : Nat), .int .i64 (pk : Nat)] rfl rfl (World.news_of_block (w := wr.alloc (.cells #[.int .i64 (z : Nat), .int .i64 (pk : Nat)] 59)) (cs := #[.int .i64 (z : Nat), .int .i64 (pk : Nat)]) (t := 59) (fr := (0, 0)) (Go.Deep.blk_alloc_new _ _)) (by simp [Value.oneCell']) (by unfold maxLen; omega) (by omega) (by simp; omega) ?_; intro v' w3 hown' hgrow hnil hloc; have G := hid (pd_grow (z := z) (kw := pk) (Z := A.Z px) H.out.1 H.out.2.1 H.out.2.2 (by rw [HZE.out]; rfl) hown' hgrow); clear hown' hgrow hnil hloc)
        go_roundw
        case rel => exact ⟨j + 1, by omega, by go_num, G⟩
        case measure => simp [intOf]; omega
      · obtain ⟨va, vc, hv⟩ := owns_sl H.out.2.2
        subst hv
        have HJE : Hid (j = A.L px) := hid (by omega)
        go_wp2
        go_ret
        exact HFIN.out va vc j wr HJE.out H.out.1 H.out.2.2

end Go.Proofs.Ytdncjikmknkkpaa
