/- Single. -/
import Derived.Test.YtdncjikmknkkpaaDoorSgw
namespace Go.Proofs.YtdncjikmknkkpaaDoor
open Go.RowKit Go.Shelf Go.Maps

theorem nil_cells {W : World} {b : Nat} (h : W.heap[b]? = some (.cells nil5 26)) : (W.cell? ⟨b, 0, none⟩ = some (.slice none 0 0) ∧ W.cell? ⟨b, 1, none⟩ = some (.slice none 0 0) ∧ W.cell? ⟨b, 2, none⟩ = some (.slice none 0 0) ∧ W.cell? ⟨b, 3, none⟩ = some (.slice none 0 0) ∧ W.cell? ⟨b, 4, none⟩ = some (.slice none 0 0)) ∧ ∀ i, W.frozen? ⟨b, i, none⟩ = false := five_cells h

/-- Start's states, as an iterator. -/
theorem sg_start {A : Ax} (h0 : chkA A = 0) {v : Value} {w9 w10 : World} {base Bs Bk : Nat} {a : Option Addr} {c : Nat} (hv : v = .slice a (aSt A).length c) (ho : w9.ownsRow base 3 1 v (cs (aSt A)).length (vals (cs (aSt A)))) (hb : Below w9.heap.size w9 w10) (hBs : w10.cell? ⟨Bs, 0, none⟩ = some (.slice a (aSt A).length c)) (hBk : w10.cell? ⟨Bk, 0, none⟩ = some (.int .i64 ((0 : Nat) : Int))) :
    ItC w10 w10 w10.heap.size (.func (.func 84) #[] #[.pointer (some ⟨Bs, 0, none⟩), .pointer (some ⟨Bk, 0, none⟩)]) (((sgS A).map mkPr).map prn) ((sgS A).map mkPr) := by
  rw [prn_mks (fun p hp => sgP_sml h0 (sgP_start h0 p hp))]
  obtain ⟨hG, _⟩ := chkA_ok h0
  obtain ⟨a2, c2, hv2, mb, mo, ha, hc⟩ := owns_row ho
  rw [cs_len] at ha hc hv2
  have he : a2 = a := by rw [hv] at hv2; cases hv2; rfl
  subst he
  have hc' : ∀ i, i < (aSt A).length → w10.cell? ⟨mb, mo + i, none⟩ = some (.int .i64 (((aSt A).getD i 0 : Nat) : Int)) := fun i hi => by
    have := hc i hi
    simp only [cs_at] at this
    exact below_cell hb (Nat.le_refl _) this
  exact itc_of (fun x hx => by have := aSt_lt h0 hx; omega) (aSt_len h0) (by omega) ha hc' (fun hl => ⟨World.block_lt_of_cell? _ _ (hc' 0 hl), Or.inl (World.block_lt_of_cell? _ _ (hc' 0 hl))⟩) (Or.inl (World.block_lt_of_cell? _ _ hBs)) (Or.inl (World.block_lt_of_cell? _ _ hBk)) hBs hBk

theorem owns_cells {W X : World} {b : Nat} (hb : But b W X) {c5 : Array Value} (hc : W.heap[b]? = some (.cells c5 26)) {base : Nat} {e : TypeId} {v : Value} {m : Nat} {xs : List Value} (h : W.ownsRow base e 1 v m xs) (he : e ≠ 26) : X.ownsRow base e 1 v m xs := owns_of_blk h (fun g e1 => by
    obtain ⟨c, z, h3⟩ := owns_blk h e1
    exact hb.block g (Array.getElem?_eq_some_iff.1 h3).1 (fun e2 => by
      rw [e2, hc] at h3
      cases h3
      exact he rfl))

/-- The end of Single. -/
theorem si_fin {w : World} {A : Ax} {w10 w11 Wz w20 : World} {k : Nat} {sv nv mv ov gv : Value} {V : List Value} (h0 : chkA A = 0) (hk : (sgL A k).length = k) (hk2 : k ≤ 2048) (hb10 : Below w.heap.size w w10) (hb11 : Below w10.heap.size w10 w11) (hres : w11.heap[w.heap.size + 1]? = some (.cells nil5 26))
    (hsv : w11.ownsRow w10.heap.size 3 1 sv (cs ((sgS A).map fun p => ix p (sgL A k))).length (vals (cs ((sgS A).map fun p => ix p (sgL A k))))) (hnv : Rws2 w11 w10.heap.size nv k (fun i => (sgX A (nAt (sgL A k) i)).map fun p => ix p (sgL A k)) V)
    (hL : Lq w11 sv nv mv ov (fun i => A.Mu (nAt (sgL A k) i).1) (fun i => A.No (nAt (sgL A k) i).1) k k Wz) (hgv : w20.ownsRow Wz.heap.size 3 1 gv (cs (whN (fun i => sgF A (nAt (sgL A k) i)) k)).length (vals (cs (whN (fun i => sgF A (nAt (sgL A k) i)) k)))) (hb20 : Below Wz.heap.size Wz w20) :
    (w20.alloc (.cells #[gv] 22)).cell? ⟨w11.heap.size, 4, none⟩ = some (.slice none 0 0) ∧ (w20.alloc (.cells #[gv] 22)).frozen? ⟨w11.heap.size, 4, none⟩ = false ∧
    ∀ W22, (w20.alloc (.cells #[gv] 22)).setCell ⟨w11.heap.size, 4, none⟩ (.slice (some ⟨w20.heap.size, 0, none⟩) 1 1) = W22 →
      W22.heap[w11.heap.size]? = some (.cells #[sv, nv, mv, ov, .slice (some ⟨w20.heap.size, 0, none⟩) 1 1] 26) ∧ W22.heap[w.heap.size + 1]? = some (.cells nil5 26) ∧ w.heap.size + 1 ≠ w11.heap.size ∧
      ∀ X, But (w.heap.size + 1) W22 X → SiIs w A (.returned (.tuple #[.agg #[sv, nv, mv, ov, .slice (some ⟨w20.heap.size, 0, none⟩) 1 1], .int .i64 0])) X := by
  have hne : w.heap.size + 1 < w11.heap.size := (Array.getElem?_eq_some_iff.1 hres).1
  have hz : Below w11.heap.size w11 Wz := hL.low
  have hbx := box_below w20 (.cells #[gv] 22)
  have hnew : (w20.alloc (.cells #[gv] 22)).heap[w20.heap.size]? = some (.cells #[gv] 22) := Go.Deep.blk_alloc_new _ _
  have hL21 := (hL.below hb20).below hbx
  have h21 : Below w11.heap.size w11 (w20.alloc (.cells #[gv] 22)) := hL21.low
  have hgv2 := owns_below hgv hbx
  generalize w20.alloc (.cells #[gv] 22) = W21 at *
  obtain ⟨⟨_, _, _, _, c4⟩, hf⟩ := five_cells hL21.aut
  refine ⟨c4, hf 4, ?_⟩
  rintro W22 rfl
  have hbut : But w11.heap.size W21 (W21.setCell ⟨w11.heap.size, 4, none⟩ (.slice (some ⟨w20.heap.size, 0, none⟩) 1 1)) := (But.refl _ _).setCell 4 _
  have hl20 : w20.heap.size < W21.heap.size := (Array.getElem?_eq_some_iff.1 hnew).1
  have hres22 : (W21.setCell ⟨w11.heap.size, 4, none⟩ (.slice (some ⟨w20.heap.size, 0, none⟩) 1 1)).heap[w.heap.size + 1]? = some (.cells nil5 26) := by
    rw [hbut.block _ (Nat.lt_of_lt_of_le hne h21.size) (by omega), h21.block _ hne]; exact hres
  refine ⟨?_, hres22, by omega, fun X hX => ?_⟩
  · have e := blk_setCell (i := 4) (v := .slice (some ⟨w20.heap.size, 0, none⟩) 1 1) hL21.aut
    simpa using e
  · have hs1 := hb10.size
    have hs2 := hb11.size
    have hs3 := hz.size
    have hs4 := hb20.size
    have hs5 : w11.heap.size < Wz.heap.size := (Array.getElem?_eq_some_iff.1 hL.aut).1
    have own : ∀ {base : Nat} {e : TypeId} {v : Value} {m : Nat} {xs : List Value}, W21.ownsRow base e 1 v m xs → e ≠ 26 → w.heap.size ≤ base → X.ownsRow w.heap.size e 1 v m xs := fun {base e v m xs} h1 h2 h3 => owns_mono (owns_cells hX hres22 (owns_cells hbut hL21.aut h1 h2) h2) h3
    have hlow : Below w.heap.size w X := ((hb10.trans (hb11.mono hs1)).trans (h21.mono (show w.heap.size ≤ w11.heap.size by omega))).trans (((hbut.below (Nat.le_refl _) h21.size).mono (show w.heap.size ≤ w11.heap.size by omega)).trans ((hX.below (Nat.le_refl _) (by rw [show (W21.setCell ⟨w11.heap.size, 4, none⟩ (.slice (some ⟨w20.heap.size, 0, none⟩) 1 1)).heap.size = W21.heap.size by simp]; omega)).mono (show w.heap.size ≤ w.heap.size + 1 by omega)))
    refine Or.inr (Or.inr ⟨h0, k, sv, nv, mv, ov, gv, w20.heap.size, V, hk, hk2, rfl, hlow, own (owns_below hsv h21) (by decide) hs1, ⟨own (owns_below hnv.top h21) (by decide) hs1, fun i hi => ?_⟩, own hL21.ms (by decide) (by omega), own hL21.os (by decide) (by omega), by omega, ?_, own hgv2 (by decide) (by omega)⟩)
    · obtain ⟨v, h1, h2⟩ := hnv.row i hi
      exact ⟨v, h1, own (owns_below h2 h21) (by decide) hs1⟩
    · refine cell_of_cells (cur := #[gv]) (t := 22) (z := (0, 0)) ?_ rfl
      rw [hX.block _ (by rw [show (W21.setCell ⟨w11.heap.size, 4, none⟩ (.slice (some ⟨w20.heap.size, 0, none⟩) 1 1)).heap.size = W21.heap.size by simp]; exact hl20) (by omega), hbut.block _ hl20 (by omega)]
      exact hnew

theorem oth_cell {w0 W W4 : World} (h : ∀ b, b < W.heap.size → Oth w0 W b → W4.heap[b]? = W.heap[b]?) {p : Addr} {v : Value} (ho : Oth w0 W p.block) (hc : W.cell? p = some v) : W4.cell? p = some v :=
  (World.cell?_of_block (w := W) (h _ (World.block_lt_of_cell? _ _ hc) ho)).trans hc

theorem box1_free (w : World) (x : Value) (t : TypeId) : (w.alloc (.cells #[x] t)).frozen? ⟨w.heap.size, 0, none⟩ = false := by
  have h : (w.alloc (.cells #[x] t)).heap[w.heap.size]? = some (.cells #[x] t) := Go.Deep.blk_alloc_new _ _
  unfold World.frozen?
  simp only [h]
  rfl

theorem box1 (w : World) (x : Value) (t : TypeId) : ∃ W, w.alloc (.cells #[x] t) = W ∧ Below w.heap.size w W ∧ W.heap.size = w.heap.size + 1 ∧ W.cell? ⟨w.heap.size, 0, none⟩ = some x ∧ W.frozen? ⟨w.heap.size, 0, none⟩ = false ∧ W.heap[w.heap.size]? = some (.cells #[x] t) :=
  ⟨_, rfl, box_below _ _, by simp, cell_of_alloc rfl, box1_free w x t, Go.Deep.blk_alloc_new _ _⟩

theorem wl_build {ops : Array Oper} {rest : List Oper} {op : Oper} {a : Act} {w : World} {Q : Exit → Act → World → Prop} (hgd : op.guard = none) (x : Operand) (ho : op.op = .buildSlice 47 1 #[(0, x)]) (z : Nat → Nat) (hx : a.eval x = .agg (cellsS z))
    (h : wpList Tryd.prog ops Q rest (a.put op.dst (.slice (some ⟨w.heap.size, 0, none⟩) 1 1)) (w.alloc (.cells (cellsS z) 53))) : wpList Tryd.prog ops Q (op :: rest) a w :=
  wpList_plain hgd fun _ hK => op_build x ho z hx (hK _ _ h)

/-- gather, as Single calls it. -/
theorem gather_sg {A : Ax} {Bf Bn fb fn fc nb nc : Nat} {F : Nat → Nat → Nat} {V : Nat → Value} {z : World} (hS : Sgm A Bf Bn fb fn fc nb nc F V z) {Bs Bk : Nat} (hI : ItC z z z.heap.size (.func (.func 84) #[] #[.pointer (some ⟨Bs, 0, none⟩), .pointer (some ⟨Bk, 0, none⟩)]) (((sgS A).map mkPr).map prn) ((sgS A).map mkPr)) :
    Calls Tryd.prog 39 #[.func (.func 84) #[] #[.pointer (some ⟨Bs, 0, none⟩), .pointer (some ⟨Bk, 0, none⟩)], .func (.func 58) #[] #[.pointer (some ⟨Bf, 0, none⟩), .pointer (some ⟨Bn, 0, none⟩)]] z fun e w' => GaS z A e w' :=
  (gather58_any _ _ ((sgS A).map mkPr) (sgX A) (sgP A) z z (Below.refl _ _) hI _ _ rfl (fun x hx => by
    obtain ⟨p, hp, rfl⟩ := List.mem_map.1 hx
    rw [prn_mk (sgP_sml hS.ok (sgP_start hS.ok p hp))]
    exact sgP_start hS.ok p hp) (sgP_next hS.ok) (fun p u hu hp => sgx58 A Bf Bn fb fn fc nb nc F V p z u hS hu hp)).mono (fun e w' hh => gas_of hS.ok hh)

set_option maxRecDepth 100000 in
set_option maxHeartbeats 8000000 in
theorem single_bad (A : Ax) (w : World) (h : Aw w A) (h0 : chkA A ≠ 0) : Calls Tryd.prog 17 #[A.val] w fun e w' => SiIs w A e w' := by
  show Calls Tryd.prog 17 #[.agg #[.slice A.sa A.sn A.sc, .slice A.na A.G A.nc, .slice A.ma A.M A.mc, .slice A.oa A.O A.oc, .slice A.fa A.K A.fc]] w _
  obtain ⟨W1, hW1, hb1, hs1, hbo, hres⟩ := sg_world w A
  have CK : Hid (Calls Tryd.prog 10 #[.agg #[.slice A.sa A.sn A.sc, .slice A.na A.G A.nc, .slice A.ma A.M A.mc, .slice A.oa A.O A.oc, .slice A.fa A.K A.fc]] W1 fun e w' => e = .returned (.int .i64 (chkA A)) ∧ Below W1.heap.size W1 w') := hid (chkA_any A W1 (h.below hb1))
  have HF : Hid (∀ X er, er = chkA A → Below w.heap.size w X → SiIs w A (.returned (.tuple #[.agg nil5, .int .i64 er])) X) := hid (fun X er he hX => Or.inl ⟨h0, by rw [he], hX⟩)
  have HB1 := hid (And.intro hb1 (And.intro hs1 hres))
  obtain ⟨q0, q1, q2, q3, q4⟩ := hbo
  obtain ⟨er, her⟩ : ∃ er, chkA A = er := ⟨_, rfl⟩
  rw [her] at CK HF h0
  have g0 : (er != 0) = true := by simp [h0]
  clear h hb1 hs1 hres her h0
  go_enter Tryd.func17, Tryd.ntmps17
  go_wp2_with fail
  refine CK.out.mono ?_
  rintro e w2 ⟨rfl, hb2⟩
  have hres2 : w2.heap[w.heap.size + 1]? = some (.cells nil5 26) := (hb2.block _ (by rw [HB1.out.2.1]; omega)).trans HB1.out.2.2
  have HB2 := hid (HB1.out.1.trans (hb2.mono HB1.out.1.size))
  clear hb2 q0 q1 q2 q3 q4 CK
  obtain ⟨⟨y0, y1, y2, y3, y4⟩, yf⟩ := nil_cells hres2
  have f0 := yf 0
  have f1 := yf 1
  have f2 := yf 2
  have f3 := yf 3
  have f4 := yf 4
  obtain ⟨X, hX⟩ : ∃ X, (((((w2.setCell ⟨w.heap.size + 1, 0, none⟩ (.slice none 0 0)).setCell ⟨w.heap.size + 1, 1, none⟩ (.slice none 0 0)).setCell ⟨w.heap.size + 1, 2, none⟩ (.slice none 0 0)).setCell ⟨w.heap.size + 1, 3, none⟩ (.slice none 0 0)).setCell ⟨w.heap.size + 1, 4, none⟩ (.slice none 0 0)) = X := ⟨_, rfl⟩
  obtain ⟨hx5, hxb⟩ := set5 _ _ _ _ _ hres2 hX
  obtain ⟨⟨k0, k1, k2, k3, k4⟩, _⟩ := five_cells hx5
  have HXB := hid hxb
  clear yf hxb hx5
  go_wp2
  refine ⟨rfl, .tuple #[.agg nil5, .int .i64 er], by simp [results, Tryd.f17, go_sem, k0, k1, k2, k3, k4], ?_⟩
  exact HF.out _ _ rfl (HB2.out.trans (HXB.out.below (Nat.le_succ _) HB2.out.size))

set_option maxRecDepth 100000 in
set_option maxHeartbeats 16000000 in
theorem single_ok (A : Ax) (w : World) (h : Aw w A) (h0 : chkA A = 0) : Calls Tryd.prog 17 #[A.val] w fun e w' => SiIs w A e w' := by
  show Calls Tryd.prog 17 #[.agg #[.slice A.sa A.sn A.sc, .slice A.na A.G A.nc, .slice A.ma A.M A.mc, .slice A.oa A.O A.oc, .slice A.fa A.K A.fc]] w _
  obtain ⟨W1, hW1, hb1, hs1, hbo, hres⟩ := sg_world w A
  have H := hid h
  have H0 := hid h0
  have CK : Hid (Calls Tryd.prog 10 #[.agg #[.slice A.sa A.sn A.sc, .slice A.na A.G A.nc, .slice A.ma A.M A.mc, .slice A.oa A.O A.oc, .slice A.fa A.K A.fc]] W1 fun e w' => e = .returned (.int .i64 0) ∧ Below W1.heap.size W1 w') := hid (by rw [← h0]; exact chkA_any A W1 (h.below hb1))
  have C56 : Hid (∀ z, Calls Tryd.prog 56 #[.agg #[.slice A.sa A.sn A.sc, .slice A.na A.G A.nc, .slice A.ma A.M A.mc, .slice A.oa A.O A.oc, .slice A.fa A.K A.fc]] z fun e w' => e = .returned (.agg (cellsS (allN A.G))) ∧ Below z.heap.size z w') := hid (fun z => allStates_any A z (chkA_ok h0).1)
  have C23 : Hid (∀ z, Below w.heap.size w z → Calls Tryd.prog 23 #[.slice A.fa A.K A.fc] z fun e w' => e = .returned (.slice (some ⟨z.heap.size, 0, none⟩) A.K A.K) ∧ Hid (Ls w' z.heap.size A.K (fun r => ofL (A.FZ r) (A.FL r)) ∧ Below z.heap.size z w')) := hid (fun z hz => by
    obtain ⟨hG, hK, _, _, _, _, hF, _⟩ := chkA_ok h0
    refine (setsOf_any A.fa A.K A.fc A.FL A.FZ z (by omega) h.f47 (h.below hz).fair (fun r hr i hi => by have := hF r hr i hi; omega)).mono ?_
    rintro e w' ⟨rfl, h1, h2, h3⟩
    exact ⟨rfl, hid ⟨h1, h2⟩⟩)
  have C38 : Hid (∀ z, Below w.heap.size w z → Calls Tryd.prog 38 #[.slice A.na A.G A.nc] z fun e w' => e = .returned (.slice (some ⟨z.heap.size, 0, none⟩) A.G A.G) ∧ ∃ V, Hid (Fam z w' A.G (fun r => cs (onN (A.Z r) (A.L r))) V)) := hid (fun z hz => by
    obtain ⟨hG, _, _, _, _, hN, _⟩ := chkA_ok h0
    refine (eachOnce_any A.na A.G A.nc A.L A.Z z hG h.l47 (h.below hz).next (fun r hr i hi => by have := hN r hr i hi; omega)).mono ?_
    rintro e w' ⟨rfl, V, hF⟩
    exact ⟨rfl, V, hid hF⟩)
  have C41 : Hid (∀ z, Below w.heap.size w z → Calls Tryd.prog 41 #[.slice A.sa A.sn A.sc] z fun e w' => ∃ a c, e = .returned (.slice a (aSt A).length c) ∧ Hid (w'.ownsRow (z.heap.size + 1) 3 1 (.slice a (aSt A).length c) (cs (aSt A)).length (vals (cs (aSt A))) ∧ Below z.heap.size z w')) := hid (fun z hz => by
    obtain ⟨hG, _, _, _, hS, _⟩ := chkA_ok h0
    refine (once_any A.sa A.sn A.sc A.S z h.s47 (h.below hz).start (fun i hi => by have := hS i hi; omega)).mono ?_
    rintro e w' ⟨v, rfl, h1, h2, _⟩
    obtain ⟨a, c, rfl, _⟩ := owns_row h1
    exact ⟨a, c, by rw [cs_len]; rfl, hid ⟨by rw [show (aSt A).length = (cs (aSt A)).length from (cs_len _).symm]; exact h1, h2⟩⟩)
  have HB1 := hid hb1
  have HBO1 := hid (And.intro hbo (And.intro hs1 hres))
  obtain ⟨q0, q1, q2, q3, q4⟩ := hbo
  obtain ⟨iu, hi, hz0, hz1, hz2⟩ := info_parts Tryd.info51
  have HU : Hid (Tryd.prog.info? 51 = some iu ∧ iu.zero = some (.int .u64 0) ∧ iu.size = 1 ∧ iu.bytes = 8) := ⟨hi, hz0, hz1, hz2⟩
  clear hi hz0 hz1 hz2 h hb1 hs1 hres h0
  go_enter Tryd.func17, Tryd.ntmps17
  go_wp2_with fail
  refine CK.out.mono ?_
  rintro e w2 ⟨rfl, hb2⟩
  have HBO2 := hid (HBO1.out.1.below hb2)
  have HRES2 : Hid (w2.heap[w.heap.size + 1]? = some (.cells nil5 26)) := hid ((hb2.block _ (by rw [HBO1.out.2.1]; omega)).trans HBO1.out.2.2)
  have HB2 := hid (HB1.out.trans (hb2.mono HB1.out.size))
  obtain ⟨p0, p1, p2, p3, p4⟩ := HBO2.out
  clear hb2 q0 q1 q2 q3 q4 CK HBO1
  go_wp2_with fail
  refine (C23.out w2 HB2.out).mono ?_
  rintro e w3 ⟨rfl, HL3⟩
  clear C23
  obtain ⟨W4, hW4, hb4, hs4, y4, yf4, _⟩ := box1 w3 (.slice (some ⟨w2.heap.size, 0, none⟩) A.K A.K) 47
  have h24 : Below w2.heap.size w2 W4 := HL3.out.2.trans (hb4.mono HL3.out.2.size)
  obtain ⟨r0, r1, r2, r3, r4⟩ := HBO2.out.below h24
  have HS4 := hid hs4
  clear hs4
  clear p0 p1 p2 p3 p4
  by_cases hK : A.K = 0
  · have g1 : (((A.K : Nat) : Int) == 0) = true := by rw [hK]; rfl
    have HK := hid hK
    clear hK
    have HB4 := hid (And.intro hb4 HS4.out)
    have HR := hid (And.intro r0 (And.intro r1 (And.intro r2 (And.intro r3 r4))))
    clear hb4
    go_wp2_with fail
    refine (C56.out _).mono ?_
    rintro e w5 ⟨rfl, hb5⟩
    have y5 := below_cell hb5 (Nat.le_refl _) y4
    have yf5 : w5.frozen? ⟨w3.heap.size, 0, none⟩ = false := by
      have e : w5.heap[w3.heap.size]? = W4.heap[w3.heap.size]? := hb5.block _ (by rw [HS4.out]; omega)
      unfold World.frozen? at yf4 ⊢
      rw [e]; exact yf4
    have hS5 := s5_none (fc := 1) (w5 := w5) (z0 := .slice (some ⟨w2.heap.size, 0, none⟩) A.K A.K) H0.out HK.out HB2.out HBO2.out HRES2.out HL3.out.2 (by rw [hW4, ← HS4.out]; exact hb5)
    obtain ⟨W5, hW5⟩ : ∃ W5, (w5.setCell ⟨w3.heap.size, 0, none⟩ (.slice (some ⟨w5.heap.size, 0, none⟩) 1 1)).alloc (.cells (cellsS (allN A.G)) 53) = W5 := ⟨_, rfl⟩
    rw [hW5] at hS5
    obtain ⟨s0, s1, s2, s3, s4⟩ := hS5.bo
    have hl5 : w3.heap.size < w5.heap.size := World.block_lt_of_cell? _ _ y5
    have HS5 := hid hS5
    clear hb5 hS5 r0 r1 r2 r3 r4 y4 yf4 h24 HR
    go_wp2_with (refine wl_build rfl _ rfl (allN A.G) rfl ?_)
    refine (C38.out _ HS5.out.low).mono ?_
    rintro e w7 ⟨rfl, V, HF⟩
    obtain ⟨W8, hW8, hb8, hs8, v8, vf8, _⟩ := box1 w7 (.slice (some ⟨W5.heap.size, 0, none⟩) A.G A.G) 23
    have HSG : Hid (Sgm A w3.heap.size w7.heap.size w5.heap.size 1 1 W5.heap.size A.G (fun _ => allN A.G) V W8) := hid (by rw [← hW8]; exact sgm_of H0.out HS5.out HF.out)
    have HS8 := hid ((HS5.out.below HF.out.below).below hb8)
    obtain ⟨t0, t1, t2, t3, t4⟩ := HS8.out.bo
    clear hb8 hs8 v8 vf8 C38
    go_wp2_with fail
    refine (C41.out W8 HS8.out.low).mono ?_
    rintro e w9 ⟨a9, c9, rfl, H9⟩
    have C57 : Hid (Calls Tryd.prog 57 #[.slice a9 (aSt A).length c9, .int .i64 0] w9 fun e w' => ∃ Bs Bk, e = .returned (.func (.func 84) #[] #[.pointer (some ⟨Bs, 0, none⟩), .pointer (some ⟨Bk, 0, none⟩)]) ∧ Hid (w9.heap.size ≤ Bs ∧ w9.heap.size ≤ Bk ∧ Below w9.heap.size w9 w' ∧ w'.cell? ⟨Bs, 0, none⟩ = some (.slice a9 (aSt A).length c9) ∧ w'.cell? ⟨Bk, 0, none⟩ = some (.int .i64 ((0 : Nat) : Int)))) := hid (paired57' a9 (aSt A).length c9 0 w9)
    clear t0 t1 t2 t3 t4
    go_wp2_with fail
    refine C57.out.mono ?_
    rintro e w10 ⟨Bs, Bk, rfl, HZ⟩
    have hb10 : Below W8.heap.size W8 w10 := H9.out.2.trans (HZ.out.2.2.1.mono H9.out.2.size)
    have HS10 := hid (HS8.out.below hb10)
    have HSG10 := hid (HSG.out.below hb10)
    have CG := hid (gather_sg HSG10.out (sg_start H0.out rfl H9.out.1 HZ.out.2.2.1 HZ.out.2.2.2.1 HZ.out.2.2.2.2))
    clear hb10 C57 C41 HSG HS8
    have hmf : ∀ (fn : Fn) (first cap : Array Value) (w : World), (Instr.makeFunc fn first cap).run Tryd.prog w = .ok (.func fn first cap) w := fun _ _ _ _ => rfl
    go_wp2_with fail
    refine CG.out.mono ?_
    rintro e w11 hGa
    clear CG
    rcases hGa with ⟨k, sv, nv, pa, pc, V2, rfl, HG⟩ | ⟨rfl, HG⟩
    · obtain ⟨sa1, sc1, hsv⟩ := owns_sl HG.out.2.2.2.1
      obtain ⟨na1, nc1, hnv⟩ := owns_sl HG.out.2.2.2.2.1.top
      obtain ⟨sn1, hsn1⟩ : ∃ n, (cs ((sgS A).map fun p => ix p (sgL A k))).length = n := ⟨_, rfl⟩
      rw [hsn1] at hsv
      clear hsn1
      subst hsv
      subst hnv
      have HS11 := hid (HS10.out.below HG.out.2.2.1)
      have HSG11 := hid (HSG10.out.below HG.out.2.2.1)
      obtain ⟨Mf, hMf⟩ : ∃ Mf : Nat → Nat, (fun i => A.Mu (nAt (sgL A k) i).1) = Mf := ⟨_, rfl⟩
      obtain ⟨Nf, hNf⟩ : ∃ Nf : Nat → Nat, (fun i => A.No (nAt (sgL A k) i).1) = Nf := ⟨_, rfl⟩
      have hk2 := HG.out.2.1
      have HLs := lq_start w11 (.slice sa1 sn1 sc1) (.slice na1 k nc1) Mf Nf
      have HLS := hid HLs
      have HMN := hid (And.intro hMf hNf)
      clear HLs hMf hNf
      go_wp2
      generalize w11.alloc (.cells (two5 (.slice sa1 sn1 sc1) (.slice na1 k nc1)) 26) = W12 at *
      go_loopw [46] (fun i wr => ∃ (j : Nat) (mv ov : Value), j ≤ k ∧ i = .int .i64 j ∧ Hid (Lq w11 (.slice sa1 sn1 sc1) (.slice na1 k nc1) mv ov Mf Nf j j wr)) (fun i _ => k - (intOf i).toNat)
      case atStart => exact ⟨0, _, _, Nat.zero_le _, rfl, HLS⟩
      case round =>
        obtain ⟨j, mv, ov, hj, rfl, HLq⟩ := hrel
        clear HLS
        obtain ⟨⟨m1, hmv⟩, ⟨m2, hov⟩⟩ := And.intro (owns_sl HLq.out.ms) (owns_sl HLq.out.os)
        obtain ⟨c1, hmv⟩ := hmv
        obtain ⟨c2, hov⟩ := hov
        subst hmv
        subst hov
        have hBo := HS11.out.bo
        obtain ⟨pb, hpa, hpc⟩ := HG.out.2.2.2.2.2
        by_cases hlt : j < k
        · obtain rfl := hpa (by omega)
          obtain ⟨z1, z2⟩ := hpc j hlt
          have hP : sgP A (nAt (sgL A k) j) := sgL_all H0.out k _ (nAt_mem (by have := HG.out.1; omega))
          have hMj : Mf j = A.Mu (nAt (sgL A k) j).1 := by rw [← HMN.out.1]
          have hNj : Nf j = A.No (nAt (sgL A k) j).1 := by rw [← HMN.out.2]
          obtain ⟨mb, mo, hma, hmc⟩ := (H.out.below HS11.out.low).must
          obtain ⟨ob, oo, hoa, hoc⟩ := (H.out.below HS11.out.low).nots
          obtain ⟨_, _, hMG, hOG, _⟩ := chkA_ok H0.out
          have hp1 := hP.1
          have zm := hmc (nAt (sgL A k) j).1 (by omega)
          have zo := hoc (nAt (sgL A k) j).1 (by omega)
          dsimp only at zm zo
          rw [← hMj] at zm
          rw [← hNj] at zo
          have b2 := hBo.r2
          have b3 := hBo.r3
          rw [hma (by omega)] at b2
          rw [hoa (by omega)] at b3
          have hwl : w.heap.size < w11.heap.size := World.block_lt_of_cell? _ _ b2
          have hmb : mb < w11.heap.size := World.block_lt_of_cell? _ _ zm
          have hob : ob < w11.heap.size := World.block_lt_of_cell? _ _ zo
          have hpM : (nAt (sgL A k) j).1 < A.M := by omega
          have hpO : (nAt (sgL A k) j).1 < A.O := by omega
          clear hMG hOG
          have hlow := HLq.out.low
          have z1' := below_cell hlow (Nat.le_refl _) z1
          have z2' := below_cell hlow (Nat.le_refl _) z2
          generalize (nAt (sgL A k) j).1 = px at *
          generalize (nAt (sgL A k) j).2 = py at *
          obtain ⟨WW, hWW, hbW, hsW, x0, x1⟩ := box2 wr (.int .i64 (px : Nat)) (.int .i64 (py : Nat)) 79
          have hblk : WW.heap[wr.heap.size]? = some (.cells #[.int .i64 (px : Nat), .int .i64 (py : Nat)] 79) := by rw [← hWW]; exact Go.Deep.blk_alloc_new _ _
          have HLW := hid (HLq.out.below hbW)
          have HZM := hid (And.intro zm (And.intro zo (And.intro b2 b3)))
          have HBK := hid hblk
          obtain ⟨Bp, hBp⟩ : ∃ Bp, wr.heap.size = Bp := ⟨_, rfl⟩
          rw [hBp] at x0 x1 HBK hsW
          have hBlt : w11.heap.size ≤ Bp := by rw [← hBp]; exact hlow.size
          have hc2 : WW.cell? ⟨w11.heap.size, 2, none⟩ = some (.slice m1 j c1) := cell_of_cells HLW.out.aut rfl
          have HB := hid hBp
          have HSW := hid hsW
          clear hsW
          have wl := HLW.out.low
          have zm1 := below_cell' wl hmb zm
          have b21 := below_cell' wl hwl b2
          have hsW2 : w11.heap.size ≤ WW.heap.size := wl.size
          have iuH := HU
          have hUb : (WW.alloc (.cells #[.int .u64 ((Mf j : Nat) : Int)] 51)).heap[WW.heap.size]? = some (.cells #[.int .u64 ((Mf j : Nat) : Int)] 51) := Go.Deep.blk_alloc_new _ _
          have HOW : Hid (((WW.alloc (.cells #[.int .u64 ((Mf j : Nat) : Int)] 51)).drew).ownsRow w11.heap.size 51 1 (.slice m1 j c1) j (vu Mf j)) := hid ((HLW.out.ms.alloc _).drew)
          have hS0 : (fun z : World => z.cell? ⟨w11.heap.size, 2, none⟩ = some (.slice m1 j c1) ∧ z.cell? ⟨w.heap.size, 2, none⟩ = some (.slice (some ⟨mb, mo, none⟩) A.M A.mc) ∧ z.cell? ⟨Bp, 0, none⟩ = some (.int .i64 (px : Nat)) ∧ z.cell? ⟨mb, mo + px, none⟩ = some (.int .u64 ((Mf j : Nat) : Int))) WW.drew := ⟨hc2, b21, x0, zm1⟩
          have hS1 : (fun z : World => z.cell? ⟨w11.heap.size, 2, none⟩ = some (.slice m1 j c1) ∧ z.cell? ⟨w.heap.size, 2, none⟩ = some (.slice (some ⟨mb, mo, none⟩) A.M A.mc) ∧ z.cell? ⟨Bp, 0, none⟩ = some (.int .i64 (px : Nat)) ∧ z.cell? ⟨mb, mo + px, none⟩ = some (.int .u64 ((Mf j : Nat) : Int))) (WW.alloc (.cells #[.int .u64 ((Mf j : Nat) : Int)] 51)).drew := ⟨cell_alloc1 _ hc2, cell_alloc1 _ b21, cell_alloc1 _ x0, cell_alloc1 _ zm1⟩
          clear z1 z2 hpc hMj hNj hma hmc hoa hoc hP hblk hbW hBo hlow zm zo b2 b3 hpa
          go_wp2_with fail
          refine G_region (fun z : World => z.cell? ⟨w11.heap.size, 2, none⟩ = some (.slice m1 j c1) ∧ z.cell? ⟨w.heap.size, 2, none⟩ = some (.slice (some ⟨mb, mo, none⟩) A.M A.mc) ∧ z.cell? ⟨Bp, 0, none⟩ = some (.int .i64 (px : Nat)) ∧ z.cell? ⟨mb, mo + px, none⟩ = some (.int .u64 ((Mf j : Nat) : Int))) (fun i => i == 11) (by kernel_rfl) hS0 (fun _ => ?_)
          refine G_take (i := 0) (oi := { dst := some 50, op := Op.fieldAddr 26 (Operand.tmp 7) 2, type := 0, pos := _, after := #[], guard := none }) (v := .pointer (some ⟨w11.heap.size, 2, none⟩)) rfl (by kernel_rfl) (by kernel_rfl) (by kernel_rfl) (by kernel_rfl) (fun _ _ _ h => h) (by rfl) (fun u hu => ?_) hS0 ?_
          · (try dsimp only at hu); go_simp
          (try simp only [Act.put, List.setIfInBounds_toArray, List.set_cons_zero, List.set_cons_succ])
          refine G_take (i := 1) (oi := { dst := some 51, op := Op.load 24 (Operand.tmp 50), type := 24, pos := _, after := #[{ on := 0, ground := Ground.data }], guard := none }) (v := .slice m1 j c1) rfl (by kernel_rfl) (by kernel_rfl) (by kernel_rfl) (by kernel_rfl) (fun _ _ _ h => h) (by rfl) (fun u hu => ?_) hS0 ?_
          · (try dsimp only at hu); go_simp
          (try simp only [Act.put, List.setIfInBounds_toArray, List.set_cons_zero, List.set_cons_succ])
          refine G_take (i := 2) (oi := { dst := some 52, op := Op.fieldAddr 26 (Operand.tmp 1) 2, type := 0, pos := _, after := #[], guard := none }) (v := .pointer (some ⟨w.heap.size, 2, none⟩)) rfl (by kernel_rfl) (by kernel_rfl) (by kernel_rfl) (by kernel_rfl) (fun _ _ _ h => h) (by rfl) (fun u hu => ?_) hS0 ?_
          · (try dsimp only at hu); go_simp
          (try simp only [Act.put, List.setIfInBounds_toArray, List.set_cons_zero, List.set_cons_succ])
          refine G_take (i := 3) (oi := { dst := some 53, op := Op.load 24 (Operand.tmp 52), type := 24, pos := _, after := #[{ on := 2, ground := Ground.data }], guard := none }) (v := .slice (some ⟨mb, mo, none⟩) A.M A.mc) rfl (by kernel_rfl) (by kernel_rfl) (by kernel_rfl) (by kernel_rfl) (fun _ _ _ h => h) (by rfl) (fun u hu => ?_) hS0 ?_
          · (try dsimp only at hu); go_simp
          (try simp only [Act.put, List.setIfInBounds_toArray, List.set_cons_zero, List.set_cons_succ])
          refine G_take (i := 4) (oi := { dst := some 54, op := Op.fieldAddr 79 (Operand.tmp 11) 0, type := 0, pos := _, after := #[], guard := none }) (v := .pointer (some ⟨Bp, 0, none⟩)) rfl (by kernel_rfl) (by kernel_rfl) (by kernel_rfl) (by kernel_rfl) (fun _ _ _ h => h) (by rfl) (fun u hu => ?_) hS0 ?_
          · (try dsimp only at hu); go_simp
          (try simp only [Act.put, List.setIfInBounds_toArray, List.set_cons_zero, List.set_cons_succ])
          refine G_take (i := 5) (oi := { dst := some 55, op := Op.load 3 (Operand.tmp 54), type := 3, pos := _, after := #[{ on := 4, ground := Ground.data }], guard := none }) (v := .int .i64 (px : Nat)) rfl (by kernel_rfl) (by kernel_rfl) (by kernel_rfl) (by kernel_rfl) (fun _ _ _ h => h) (by rfl) (fun u hu => ?_) hS0 ?_
          · (try dsimp only at hu); go_simp
          (try simp only [Act.put, List.setIfInBounds_toArray, List.set_cons_zero, List.set_cons_succ])
          refine G_take (i := 6) (oi := { dst := some 56, op := Op.indexAddr 24 (Operand.tmp 53) (Operand.tmp 55), type := 0, pos := _, after := #[{ on := 3, ground := Ground.data }, { on := 5, ground := Ground.data }], guard := none }) (v := .pointer (some ⟨mb, mo + px, none⟩)) rfl (by kernel_rfl) (by kernel_rfl) (by kernel_rfl) (by kernel_rfl) (fun _ _ _ h => h) (by rfl) (fun u hu => ?_) hS0 ?_
          · (try dsimp only at hu); go_simp
          (try simp only [Act.put, List.setIfInBounds_toArray, List.set_cons_zero, List.set_cons_succ])
          refine G_take (i := 7) (oi := { dst := some 57, op := Op.load 51 (Operand.tmp 56), type := 51, pos := _, after := #[{ on := 6, ground := Ground.data }], guard := none }) (v := .int .u64 ((Mf j : Nat) : Int)) rfl (by kernel_rfl) (by kernel_rfl) (by kernel_rfl) (by kernel_rfl) (fun _ _ _ h => h) (by rfl) (fun u hu => ?_) hS0 ?_
          · (try dsimp only at hu); go_simp
          (try simp only [Act.put, List.setIfInBounds_toArray, List.set_cons_zero, List.set_cons_succ])
          refine G_step (i := 8) (o := { dst := some 58, op := Op.buildSlice 24 1 #[(0, Operand.tmp 57)], type := 24, pos := _, after := #[{ on := 7, ground := Ground.data }], guard := none }) (by kernel_rfl) rfl (fun K' hK => ?_)
          go_simp
          refine hK.out _ _ (fun _ => hS1) (fun _ => ?_)
          (try simp only [Act.put, List.setIfInBounds_toArray, List.set_cons_zero, List.set_cons_succ])
          refine G_step (i := 9) (o := { dst := some 59, op := Op.call { callee := Callee.builtin Builtin.append, args := #[Operand.tmp 51, Operand.tmp 58], argTypes := #[24, 24] }, type := 24, pos := _, after := #[{ on := 1, ground := Ground.data }, { on := 8, ground := Ground.data }], guard := none }) (by kernel_rfl) rfl (fun K' hK => ?_)
          refine step_append_lies _ (by rfl) _ _ _ (by rfl) w11.heap.size 51 iu _ 1 8 Tryd.underlying24 HU.out.1 HU.out.2.1 HU.out.2.2.1 HU.out.2.2.2 rfl (by omega) (.slice m1 j c1) j (vu Mf j) (by rfl) (HOW.out) ⟨WW.heap.size, 0, none⟩ 1 1 [.int .u64 ((Mf j : Nat) : Int)] (by rfl) (by rfl) (World.news_of_block (w := (WW.alloc (.cells #[.int .u64 ((Mf j : Nat) : Int)] 51)).drew) (cs := #[.int .u64 ((Mf j : Nat) : Int)]) (t := 51) (fr := (0, 0)) hUb) (by simp [Value.oneCell']) (by omega) (by unfold maxLen; omega) (by omega) (by simp; omega) (WW.heap.size + 1) (by simp) ?_
          intro g cap w4 hown4 hgrow4 hat4 hlt4
          have hgr : (WW.alloc (.cells #[.int .u64 ((Mf j : Nat) : Int)] 51)).grownBy w4 (Value.slice m1 j c1).ownBlock := ⟨hgrow4.os, hgrow4.tape, hgrow4.output, hgrow4.size, hgrow4.block⟩
          obtain ⟨hoth, hfz, HL4, hbut⟩ := HLW.out.must (mv' := .slice (some ⟨g, 0, none⟩) (j + 1) cap) hown4 hgr (hat4.imp (fun e => by rw [e]; simp [Value.ownBlock]) (fun e => by rw [e]; simp [Value.ownBlock]))
          have s4 : (fun z : World => z.cell? ⟨w11.heap.size, 2, none⟩ = some (.slice m1 j c1) ∧ z.cell? ⟨w.heap.size, 2, none⟩ = some (.slice (some ⟨mb, mo, none⟩) A.M A.mc) ∧ z.cell? ⟨Bp, 0, none⟩ = some (.int .i64 (px : Nat)) ∧ z.cell? ⟨mb, mo + px, none⟩ = some (.int .u64 ((Mf j : Nat) : Int))) w4 := ⟨oth_cell hoth (Or.inr ⟨_, _, _, HLW.out.aut, by decide⟩) hc2, oth_cell hoth (Or.inl hwl) b21, oth_cell hoth (Or.inr ⟨_, _, _, HBK.out, by decide⟩) x0, oth_cell hoth (Or.inl hmb) zm1⟩
          have HBK4 : Hid (w4.heap[Bp]? = some (.cells #[.int .i64 (px : Nat), .int .i64 (py : Nat)] 79)) := hid ((hoth Bp (by have := HSW.out; omega) (Or.inr ⟨_, _, _, HBK.out, by decide⟩)).trans HBK.out)
          have HL4' := hid HL4
          have hs4 := s4.1
          clear hown4 hgrow4 hgr hat4 hlt4 hoth HL4 hUb HOW hS1
          refine hK.out _ _ (fun _ => s4) (fun _ => ?_)
          (try simp only [Act.put, List.setIfInBounds_toArray, List.set_cons_zero, List.set_cons_succ])
          refine G_step (i := 10) (o := { dst := some 60, op := Op.fieldAddr 26 (Operand.tmp 7) 2, type := 0, pos := _, after := #[{ on := 0, ground := Ground.phase }, { on := 1, ground := Ground.phase }, { on := 2, ground := Ground.phase }, { on := 3, ground := Ground.phase }, { on := 4, ground := Ground.phase }, { on := 5, ground := Ground.phase }, { on := 6, ground := Ground.phase }, { on := 7, ground := Ground.phase }, { on := 8, ground := Ground.phase }, { on := 9, ground := Ground.phase }], guard := none }) (by kernel_rfl) rfl (fun K' hK => ?_)
          go_simp
          refine hK.out _ _ (fun _ => s4) (fun _ => ?_)
          (try simp only [Act.put, List.setIfInBounds_toArray, List.set_cons_zero, List.set_cons_succ])
          refine G_step (i := 11) (o := { dst := none, op := Op.store 24 (Operand.tmp 60) (Operand.tmp 59), type := 0, pos := _, after := #[{ on := 10, ground := Ground.data }, { on := 9, ground := Ground.data }, { on := 9, ground := Ground.chain }, { on := 0, ground := Ground.phase }, { on := 1, ground := Ground.phase }, { on := 2, ground := Ground.phase }, { on := 3, ground := Ground.phase }, { on := 4, ground := Ground.phase }, { on := 5, ground := Ground.phase }, { on := 6, ground := Ground.phase }, { on := 7, ground := Ground.phase }, { on := 8, ground := Ground.phase }, { on := 9, ground := Ground.phase }], guard := none }) (by kernel_rfl) rfl (fun K' hK => ?_)
          go_simp
          refine hK.out _ _ (fun h => absurd h (by decide)) (fun _ => ?_)
          (try simp only [Act.put, List.setIfInBounds_toArray, List.set_cons_zero, List.set_cons_succ])
          refine G_done (by kernel_rfl) ?_ _
          (try dsimp only [Exit.then])
          have hBne : Bp ≠ w11.heap.size := fun e => by have := HLW.out.aut; rw [← e, HBK.out] at this; cases this
          have HBK5 : Hid ((w4.setCell ⟨w11.heap.size, 2, none⟩ (.slice (some ⟨g, 0, none⟩) (j + 1) cap)).heap[Bp]? = some (.cells #[.int .i64 (px : Nat), .int .i64 (py : Nat)] 79)) := hid ((hbut.block Bp (Array.getElem?_eq_some_iff.1 HBK4.out).1 hBne).trans HBK4.out)
          clear s4 hs4 hfz hS0 hc2 x0 x1 zm1 b21 hbut HBK4 HBK HLW wl hWW HLq z1' z2' HSW hBp HB
          generalize w4.setCell ⟨w11.heap.size, 2, none⟩ (.slice (some ⟨g, 0, none⟩) (j + 1) cap) = W5' at *
          have wl := HL4'.out.low
          have x0 : W5'.cell? ⟨Bp, 0, none⟩ = some (.int .i64 (px : Nat)) := cell_of_cells HBK5.out rfl
          have hc3 : W5'.cell? ⟨w11.heap.size, 3, none⟩ = some (.slice m2 j c2) := cell_of_cells HL4'.out.aut rfl
          have zo1 := below_cell' wl hob HZM.out.2.1
          have b31 := below_cell' wl hwl HZM.out.2.2.2
          have hs5 : w11.heap.size ≤ W5'.heap.size := wl.size
          have hUb : (W5'.alloc (.cells #[.int .u64 ((Nf j : Nat) : Int)] 51)).heap[W5'.heap.size]? = some (.cells #[.int .u64 ((Nf j : Nat) : Int)] 51) := Go.Deep.blk_alloc_new _ _
          have HOW : Hid (((W5'.alloc (.cells #[.int .u64 ((Nf j : Nat) : Int)] 51)).drew).ownsRow w11.heap.size 51 1 (.slice m2 j c2) j (vu Nf j)) := hid ((HL4'.out.os.alloc _).drew)
          have hS0 : (fun z : World => z.cell? ⟨w11.heap.size, 3, none⟩ = some (.slice m2 j c2) ∧ z.cell? ⟨w.heap.size, 3, none⟩ = some (.slice (some ⟨ob, oo, none⟩) A.O A.oc) ∧ z.cell? ⟨Bp, 0, none⟩ = some (.int .i64 (px : Nat)) ∧ z.cell? ⟨ob, oo + px, none⟩ = some (.int .u64 ((Nf j : Nat) : Int))) W5'.drew := ⟨hc3, b31, x0, zo1⟩
          have hS1 : (fun z : World => z.cell? ⟨w11.heap.size, 3, none⟩ = some (.slice m2 j c2) ∧ z.cell? ⟨w.heap.size, 3, none⟩ = some (.slice (some ⟨ob, oo, none⟩) A.O A.oc) ∧ z.cell? ⟨Bp, 0, none⟩ = some (.int .i64 (px : Nat)) ∧ z.cell? ⟨ob, oo + px, none⟩ = some (.int .u64 ((Nf j : Nat) : Int))) (W5'.alloc (.cells #[.int .u64 ((Nf j : Nat) : Int)] 51)).drew := ⟨cell_alloc1 _ hc3, cell_alloc1 _ b31, cell_alloc1 _ x0, cell_alloc1 _ zo1⟩
          go_wp2_with fail
          refine G_region (fun z : World => z.cell? ⟨w11.heap.size, 3, none⟩ = some (.slice m2 j c2) ∧ z.cell? ⟨w.heap.size, 3, none⟩ = some (.slice (some ⟨ob, oo, none⟩) A.O A.oc) ∧ z.cell? ⟨Bp, 0, none⟩ = some (.int .i64 (px : Nat)) ∧ z.cell? ⟨ob, oo + px, none⟩ = some (.int .u64 ((Nf j : Nat) : Int))) (fun i => i == 11) (by kernel_rfl) hS0 (fun _ => ?_)
          refine G_take (i := 0) (oi := { dst := some 61, op := Op.fieldAddr 26 (Operand.tmp 7) 3, type := 0, pos := _, after := #[], guard := none }) (v := .pointer (some ⟨w11.heap.size, 3, none⟩)) rfl (by kernel_rfl) (by kernel_rfl) (by kernel_rfl) (by kernel_rfl) (fun _ _ _ h => h) (by rfl) (fun u hu => ?_) hS0 ?_
          · (try dsimp only at hu); go_simp
          (try simp only [Act.put, List.setIfInBounds_toArray, List.set_cons_zero, List.set_cons_succ])
          refine G_take (i := 1) (oi := { dst := some 62, op := Op.load 24 (Operand.tmp 61), type := 24, pos := _, after := #[{ on := 0, ground := Ground.data }], guard := none }) (v := .slice m2 j c2) rfl (by kernel_rfl) (by kernel_rfl) (by kernel_rfl) (by kernel_rfl) (fun _ _ _ h => h) (by rfl) (fun u hu => ?_) hS0 ?_
          · (try dsimp only at hu); go_simp
          (try simp only [Act.put, List.setIfInBounds_toArray, List.set_cons_zero, List.set_cons_succ])
          refine G_take (i := 2) (oi := { dst := some 63, op := Op.fieldAddr 26 (Operand.tmp 1) 3, type := 0, pos := _, after := #[], guard := none }) (v := .pointer (some ⟨w.heap.size, 3, none⟩)) rfl (by kernel_rfl) (by kernel_rfl) (by kernel_rfl) (by kernel_rfl) (fun _ _ _ h => h) (by rfl) (fun u hu => ?_) hS0 ?_
          · (try dsimp only at hu); go_simp
          (try simp only [Act.put, List.setIfInBounds_toArray, List.set_cons_zero, List.set_cons_succ])
          refine G_take (i := 3) (oi := { dst := some 64, op := Op.load 24 (Operand.tmp 63), type := 24, pos := _, after := #[{ on := 2, ground := Ground.data }], guard := none }) (v := .slice (some ⟨ob, oo, none⟩) A.O A.oc) rfl (by kernel_rfl) (by kernel_rfl) (by kernel_rfl) (by kernel_rfl) (fun _ _ _ h => h) (by rfl) (fun u hu => ?_) hS0 ?_
          · (try dsimp only at hu); go_simp
          (try simp only [Act.put, List.setIfInBounds_toArray, List.set_cons_zero, List.set_cons_succ])
          refine G_take (i := 4) (oi := { dst := some 65, op := Op.fieldAddr 79 (Operand.tmp 11) 0, type := 0, pos := _, after := #[], guard := none }) (v := .pointer (some ⟨Bp, 0, none⟩)) rfl (by kernel_rfl) (by kernel_rfl) (by kernel_rfl) (by kernel_rfl) (fun _ _ _ h => h) (by rfl) (fun u hu => ?_) hS0 ?_
          · (try dsimp only at hu); go_simp
          (try simp only [Act.put, List.setIfInBounds_toArray, List.set_cons_zero, List.set_cons_succ])
          refine G_take (i := 5) (oi := { dst := some 66, op := Op.load 3 (Operand.tmp 65), type := 3, pos := _, after := #[{ on := 4, ground := Ground.data }], guard := none }) (v := .int .i64 (px : Nat)) rfl (by kernel_rfl) (by kernel_rfl) (by kernel_rfl) (by kernel_rfl) (fun _ _ _ h => h) (by rfl) (fun u hu => ?_) hS0 ?_
          · (try dsimp only at hu); go_simp
          (try simp only [Act.put, List.setIfInBounds_toArray, List.set_cons_zero, List.set_cons_succ])
          refine G_take (i := 6) (oi := { dst := some 67, op := Op.indexAddr 24 (Operand.tmp 64) (Operand.tmp 66), type := 0, pos := _, after := #[{ on := 3, ground := Ground.data }, { on := 5, ground := Ground.data }], guard := none }) (v := .pointer (some ⟨ob, oo + px, none⟩)) rfl (by kernel_rfl) (by kernel_rfl) (by kernel_rfl) (by kernel_rfl) (fun _ _ _ h => h) (by rfl) (fun u hu => ?_) hS0 ?_
          · (try dsimp only at hu); go_simp
          (try simp only [Act.put, List.setIfInBounds_toArray, List.set_cons_zero, List.set_cons_succ])
          refine G_take (i := 7) (oi := { dst := some 68, op := Op.load 51 (Operand.tmp 67), type := 51, pos := _, after := #[{ on := 6, ground := Ground.data }], guard := none }) (v := .int .u64 ((Nf j : Nat) : Int)) rfl (by kernel_rfl) (by kernel_rfl) (by kernel_rfl) (by kernel_rfl) (fun _ _ _ h => h) (by rfl) (fun u hu => ?_) hS0 ?_
          · (try dsimp only at hu); go_simp
          (try simp only [Act.put, List.setIfInBounds_toArray, List.set_cons_zero, List.set_cons_succ])
          refine G_step (i := 8) (o := { dst := some 69, op := Op.buildSlice 24 1 #[(0, Operand.tmp 68)], type := 24, pos := _, after := #[{ on := 7, ground := Ground.data }], guard := none }) (by kernel_rfl) rfl (fun K' hKB => ?_)
          go_simp
          refine hKB.out _ _ (fun _ => hS1) (fun _ => ?_)
          (try simp only [Act.put, List.setIfInBounds_toArray, List.set_cons_zero, List.set_cons_succ])
          refine G_step (i := 9) (o := { dst := some 70, op := Op.call { callee := Callee.builtin Builtin.append, args := #[Operand.tmp 62, Operand.tmp 69], argTypes := #[24, 24] }, type := 24, pos := _, after := #[{ on := 1, ground := Ground.data }, { on := 8, ground := Ground.data }], guard := none }) (by kernel_rfl) rfl (fun K' hKB => ?_)
          refine step_append_lies _ (by rfl) _ _ _ (by rfl) w11.heap.size 51 iu _ 1 8 Tryd.underlying24 HU.out.1 HU.out.2.1 HU.out.2.2.1 HU.out.2.2.2 rfl (by omega) (.slice m2 j c2) j (vu Nf j) (by rfl) (HOW.out) ⟨W5'.heap.size, 0, none⟩ 1 1 [.int .u64 ((Nf j : Nat) : Int)] (by rfl) (by rfl) (World.news_of_block (w := (W5'.alloc (.cells #[.int .u64 ((Nf j : Nat) : Int)] 51)).drew) (cs := #[.int .u64 ((Nf j : Nat) : Int)]) (t := 51) (fr := (0, 0)) hUb) (by simp [Value.oneCell']) (by omega) (by unfold maxLen; omega) (by omega) (by simp; omega) (W5'.heap.size + 1) (by simp) ?_
          intro g2 cap2 w6 hown4 hgrow4 hat4 hlt4
          have hgr : (W5'.alloc (.cells #[.int .u64 ((Nf j : Nat) : Int)] 51)).grownBy w6 (Value.slice m2 j c2).ownBlock := ⟨hgrow4.os, hgrow4.tape, hgrow4.output, hgrow4.size, hgrow4.block⟩
          obtain ⟨hoth, hfz, HL6, _⟩ := HL4'.out.nots (ov' := .slice (some ⟨g2, 0, none⟩) (j + 1) cap2) hown4 hgr (hat4.imp (fun e => by rw [e]; simp [Value.ownBlock]) (fun e => by rw [e]; simp [Value.ownBlock]))
          have s4 : (fun z : World => z.cell? ⟨w11.heap.size, 3, none⟩ = some (.slice m2 j c2) ∧ z.cell? ⟨w.heap.size, 3, none⟩ = some (.slice (some ⟨ob, oo, none⟩) A.O A.oc) ∧ z.cell? ⟨Bp, 0, none⟩ = some (.int .i64 (px : Nat)) ∧ z.cell? ⟨ob, oo + px, none⟩ = some (.int .u64 ((Nf j : Nat) : Int))) w6 := ⟨oth_cell hoth (Or.inr ⟨_, _, _, HL4'.out.aut, by decide⟩) hc3, oth_cell hoth (Or.inl hwl) b31, oth_cell hoth (Or.inr ⟨_, _, _, HBK5.out, by decide⟩) x0, oth_cell hoth (Or.inl hob) zo1⟩
          have HL6' := hid HL6
          have hs4 := s4.1
          clear hown4 hgrow4 hgr hat4 hlt4 hoth HL6 hUb HOW hS1
          refine hKB.out _ _ (fun _ => s4) (fun _ => ?_)
          (try simp only [Act.put, List.setIfInBounds_toArray, List.set_cons_zero, List.set_cons_succ])
          refine G_step (i := 10) (o := { dst := some 71, op := Op.fieldAddr 26 (Operand.tmp 7) 3, type := 0, pos := _, after := #[{ on := 0, ground := Ground.phase }, { on := 1, ground := Ground.phase }, { on := 2, ground := Ground.phase }, { on := 3, ground := Ground.phase }, { on := 4, ground := Ground.phase }, { on := 5, ground := Ground.phase }, { on := 6, ground := Ground.phase }, { on := 7, ground := Ground.phase }, { on := 8, ground := Ground.phase }, { on := 9, ground := Ground.phase }], guard := none }) (by kernel_rfl) rfl (fun K' hKB => ?_)
          go_simp
          refine hKB.out _ _ (fun _ => s4) (fun _ => ?_)
          (try simp only [Act.put, List.setIfInBounds_toArray, List.set_cons_zero, List.set_cons_succ])
          refine G_step (i := 11) (o := { dst := none, op := Op.store 24 (Operand.tmp 71) (Operand.tmp 70), type := 0, pos := _, after := #[{ on := 10, ground := Ground.data }, { on := 9, ground := Ground.data }, { on := 9, ground := Ground.chain }, { on := 0, ground := Ground.phase }, { on := 1, ground := Ground.phase }, { on := 2, ground := Ground.phase }, { on := 3, ground := Ground.phase }, { on := 4, ground := Ground.phase }, { on := 5, ground := Ground.phase }, { on := 6, ground := Ground.phase }, { on := 7, ground := Ground.phase }, { on := 8, ground := Ground.phase }, { on := 9, ground := Ground.phase }], guard := none }) (by kernel_rfl) rfl (fun K' hKB => ?_)
          go_simp
          refine hKB.out _ _ (fun h => absurd h (by decide)) (fun _ => ?_)
          (try simp only [Act.put, List.setIfInBounds_toArray, List.set_cons_zero, List.set_cons_succ])
          refine G_done (by kernel_rfl) ?_ _
          (try dsimp only [Exit.then])
          clear s4 hs4 hfz hS0 hc3 x0 zo1 b31 HBK5 HL4' wl
          generalize w6.setCell ⟨w11.heap.size, 3, none⟩ (.slice (some ⟨g2, 0, none⟩) (j + 1) cap2) = W7' at *
          go_wp2
          go_roundw
          case rel => exact ⟨j + 1, _, _, by omega, by go_num, HL6'⟩
          case measure => simp [intOf]; omega
        · have HJ : Hid (j = k) := hid (by omega)
          have hLz : Lq w11 (.slice sa1 sn1 sc1) (.slice na1 k nc1) (.slice m1 j c1) (.slice m2 j c2) (fun i => A.Mu (nAt (sgL A k) i).1) (fun i => A.No (nAt (sgL A k) i).1) k k wr := by
            obtain rfl := HJ.out
            rw [HMN.out.1, HMN.out.2]
            exact HLq.out
          have HLZ := hid hLz
          have CW := hid (where59 pa k pc (nAt (sgL A k)) (fun i => sgF A (nAt (sgL A k) i)) (.pointer (some ⟨w3.heap.size, 0, none⟩)) wr hk2 (Sp.below ⟨pb, hpa, hpc⟩ HLq.out.low) (fun i hi u hu => sgx59 A w3.heap.size w7.heap.size w5.heap.size 1 1 W5.heap.size A.G (fun _ => allN A.G) V (nAt (sgL A k) i) wr u (HSG11.out.below HLq.out.low) hu (sgL_all H0.out k _ (nAt_mem (by have := HG.out.1; omega)))))
          clear hLz hpa hpc hBo
          go_wp2_with fail
          refine CW.out.mono ?_
          rintro e w20 ⟨gv, rfl, ho20, hb20⟩
          obtain ⟨a20, c20, hgv, _⟩ := owns_row ho20
          obtain ⟨e4, ef4, e22⟩ := si_fin H0.out HG.out.1 hk2 HS10.out.low HG.out.2.2.1 HS11.out.res HG.out.2.2.2.1 HG.out.2.2.2.2.1 HLZ.out ho20 hb20
          obtain ⟨n20, hn20⟩ : ∃ n, (cs (whN (fun i => sgF A (nAt (sgL A k) i)) k)).length = n := ⟨_, rfl⟩
          rw [hn20] at hgv
          subst hgv
          obtain ⟨W22, hW22⟩ : ∃ W22, (w20.alloc (.cells #[.slice a20 n20 c20] 22)).setCell ⟨w11.heap.size, 4, none⟩ (.slice (some ⟨w20.heap.size, 0, none⟩) 1 1) = W22 := ⟨_, rfl⟩
          obtain ⟨i1, i2, i3, i4⟩ := e22 W22 hW22
          obtain ⟨⟨u0, u1, u2, u3, u4⟩, _⟩ := five_cells i1
          obtain ⟨⟨y0, y1, y2, y3, y4⟩, yf⟩ := nil_cells i2
          have f0 := yf 0
          have f1 := yf 1
          have f2 := yf 2
          have f3 := yf 3
          have f4 := yf 4
          obtain ⟨X, hX⟩ : ∃ X, (((((W22.setCell ⟨w.heap.size + 1, 0, none⟩ (.slice sa1 sn1 sc1)).setCell ⟨w.heap.size + 1, 1, none⟩ (.slice na1 k nc1)).setCell ⟨w.heap.size + 1, 2, none⟩ (.slice m1 j c1)).setCell ⟨w.heap.size + 1, 3, none⟩ (.slice m2 j c2)).setCell ⟨w.heap.size + 1, 4, none⟩ (.slice (some ⟨w20.heap.size, 0, none⟩) 1 1)) = X := ⟨_, rfl⟩
          obtain ⟨hx5, hxb⟩ := set5 _ _ _ _ _ i2 hX
          obtain ⟨⟨k0, k1, k2, k3, k4⟩, _⟩ := five_cells hx5
          have HI4 := hid (i4 X hxb)
          clear i1 i2 i4 yf hx5 hxb e22 ho20 hb20 hn20 CW
          go_wp2
          refine ⟨rfl, .tuple #[.agg #[.slice sa1 sn1 sc1, .slice na1 k nc1, .slice m1 j c1, .slice m2 j c2, .slice (some ⟨w20.heap.size, 0, none⟩) 1 1], .int .i64 0], by simp [results, Tryd.f17, go_sem, k0, k1, k2, k3, k4], ?_⟩
          exact HI4.out
    · have HS11 := hid (HS10.out.below HG.out.2)
      have hres11 := HS11.out.res
      have hlt11 : w.heap.size + 1 < w11.heap.size := (Array.getElem?_eq_some_iff.1 hres11).1
      obtain ⟨⟨y0, y1, y2, y3, y4⟩, yf⟩ := nil_cells hres11
      have f0 := yf 0
      have f1 := yf 1
      have f2 := yf 2
      have f3 := yf 3
      have f4 := yf 4
      obtain ⟨X, hX⟩ : ∃ X, (((((w11.setCell ⟨w.heap.size + 1, 0, none⟩ (.slice none 0 0)).setCell ⟨w.heap.size + 1, 1, none⟩ (.slice none 0 0)).setCell ⟨w.heap.size + 1, 2, none⟩ (.slice none 0 0)).setCell ⟨w.heap.size + 1, 3, none⟩ (.slice none 0 0)).setCell ⟨w.heap.size + 1, 4, none⟩ (.slice none 0 0)) = X := ⟨_, rfl⟩
      obtain ⟨hx5, hxb⟩ := set5 _ _ _ _ _ hres11 hX
      have hb12 := box_below X (.cells nil5 26)
      obtain ⟨⟨k0, k1, k2, k3, k4⟩, _⟩ := five_cells ((hb12.block _ (Array.getElem?_eq_some_iff.1 hx5).1).trans hx5)
      have HXB := hid ((hxb.below (Nat.le_succ _) HS11.out.low.size).trans (hb12.mono (Nat.le_trans HS11.out.low.size hxb.size)))
      clear yf hxb hx5 hb12 hres11
      go_wp2
      refine ⟨rfl, .tuple #[.agg nil5, .int .i64 2], by simp [results, Tryd.f17, go_sem, k0, k1, k2, k3, k4], ?_⟩
      exact Or.inr (Or.inl ⟨H0.out, HG.out.1, rfl, HS11.out.low.trans HXB.out⟩)
  · have g1 : (((A.K : Nat) : Int) == 0) = false := beq_eq_false_iff_ne.2 (by omega)
    have HS5 : Hid (S5 w A w3.heap.size w2.heap.size A.K A.K (fun r => ofL (A.FZ r) (A.FL r)) W4) := hid (by rw [← hW4]; exact s5_some H0.out hK HB2.out HBO2.out HRES2.out HL3.out.2 HL3.out.1)
    have HK := hid hK
    clear hb4 h24 yf4 C56 hK
    go_wp2_with fail
    refine (C38.out _ HS5.out.low).mono ?_
    rintro e w7 ⟨rfl, V, HF⟩
    obtain ⟨W8, hW8, hb8, hs8, v8, vf8, _⟩ := box1 w7 (.slice (some ⟨W4.heap.size, 0, none⟩) A.G A.G) 23
    have HSG : Hid (Sgm A w3.heap.size w7.heap.size w2.heap.size A.K A.K W4.heap.size A.G (fun r => ofL (A.FZ r) (A.FL r)) V W8) := hid (by rw [← hW8]; exact sgm_of H0.out HS5.out HF.out)
    have HS8 := hid ((HS5.out.below HF.out.below).below hb8)
    obtain ⟨t0, t1, t2, t3, t4⟩ := HS8.out.bo
    clear hb8 hs8 v8 vf8 C38
    go_wp2_with fail
    refine (C41.out W8 HS8.out.low).mono ?_
    rintro e w9 ⟨a9, c9, rfl, H9⟩
    have C57 : Hid (Calls Tryd.prog 57 #[.slice a9 (aSt A).length c9, .int .i64 0] w9 fun e w' => ∃ Bs Bk, e = .returned (.func (.func 84) #[] #[.pointer (some ⟨Bs, 0, none⟩), .pointer (some ⟨Bk, 0, none⟩)]) ∧ Hid (w9.heap.size ≤ Bs ∧ w9.heap.size ≤ Bk ∧ Below w9.heap.size w9 w' ∧ w'.cell? ⟨Bs, 0, none⟩ = some (.slice a9 (aSt A).length c9) ∧ w'.cell? ⟨Bk, 0, none⟩ = some (.int .i64 ((0 : Nat) : Int)))) := hid (paired57' a9 (aSt A).length c9 0 w9)
    clear t0 t1 t2 t3 t4
    go_wp2_with fail
    refine C57.out.mono ?_
    rintro e w10 ⟨Bs, Bk, rfl, HZ⟩
    have hb10 : Below W8.heap.size W8 w10 := H9.out.2.trans (HZ.out.2.2.1.mono H9.out.2.size)
    have HS10 := hid (HS8.out.below hb10)
    have HSG10 := hid (HSG.out.below hb10)
    have CG := hid (gather_sg HSG10.out (sg_start H0.out rfl H9.out.1 HZ.out.2.2.1 HZ.out.2.2.2.1 HZ.out.2.2.2.2))
    clear hb10 C57 C41 HSG HS8
    have hmf : ∀ (fn : Fn) (first cap : Array Value) (w : World), (Instr.makeFunc fn first cap).run Tryd.prog w = .ok (.func fn first cap) w := fun _ _ _ _ => rfl
    go_wp2_with fail
    refine CG.out.mono ?_
    rintro e w11 hGa
    clear CG
    rcases hGa with ⟨k, sv, nv, pa, pc, V2, rfl, HG⟩ | ⟨rfl, HG⟩
    · obtain ⟨sa1, sc1, hsv⟩ := owns_sl HG.out.2.2.2.1
      obtain ⟨na1, nc1, hnv⟩ := owns_sl HG.out.2.2.2.2.1.top
      obtain ⟨sn1, hsn1⟩ : ∃ n, (cs ((sgS A).map fun p => ix p (sgL A k))).length = n := ⟨_, rfl⟩
      rw [hsn1] at hsv
      clear hsn1
      subst hsv
      subst hnv
      have HS11 := hid (HS10.out.below HG.out.2.2.1)
      have HSG11 := hid (HSG10.out.below HG.out.2.2.1)
      obtain ⟨Mf, hMf⟩ : ∃ Mf : Nat → Nat, (fun i => A.Mu (nAt (sgL A k) i).1) = Mf := ⟨_, rfl⟩
      obtain ⟨Nf, hNf⟩ : ∃ Nf : Nat → Nat, (fun i => A.No (nAt (sgL A k) i).1) = Nf := ⟨_, rfl⟩
      have hk2 := HG.out.2.1
      have HLs := lq_start w11 (.slice sa1 sn1 sc1) (.slice na1 k nc1) Mf Nf
      have HLS := hid HLs
      have HMN := hid (And.intro hMf hNf)
      clear HLs hMf hNf
      go_wp2
      generalize w11.alloc (.cells (two5 (.slice sa1 sn1 sc1) (.slice na1 k nc1)) 26) = W12 at *
      go_loopw [46] (fun i wr => ∃ (j : Nat) (mv ov : Value), j ≤ k ∧ i = .int .i64 j ∧ Hid (Lq w11 (.slice sa1 sn1 sc1) (.slice na1 k nc1) mv ov Mf Nf j j wr)) (fun i _ => k - (intOf i).toNat)
      case atStart => exact ⟨0, _, _, Nat.zero_le _, rfl, HLS⟩
      case round =>
        obtain ⟨j, mv, ov, hj, rfl, HLq⟩ := hrel
        clear HLS
        obtain ⟨⟨m1, hmv⟩, ⟨m2, hov⟩⟩ := And.intro (owns_sl HLq.out.ms) (owns_sl HLq.out.os)
        obtain ⟨c1, hmv⟩ := hmv
        obtain ⟨c2, hov⟩ := hov
        subst hmv
        subst hov
        have hBo := HS11.out.bo
        obtain ⟨pb, hpa, hpc⟩ := HG.out.2.2.2.2.2
        by_cases hlt : j < k
        · obtain rfl := hpa (by omega)
          obtain ⟨z1, z2⟩ := hpc j hlt
          have hP : sgP A (nAt (sgL A k) j) := sgL_all H0.out k _ (nAt_mem (by have := HG.out.1; omega))
          have hMj : Mf j = A.Mu (nAt (sgL A k) j).1 := by rw [← HMN.out.1]
          have hNj : Nf j = A.No (nAt (sgL A k) j).1 := by rw [← HMN.out.2]
          obtain ⟨mb, mo, hma, hmc⟩ := (H.out.below HS11.out.low).must
          obtain ⟨ob, oo, hoa, hoc⟩ := (H.out.below HS11.out.low).nots
          obtain ⟨_, _, hMG, hOG, _⟩ := chkA_ok H0.out
          have hp1 := hP.1
          have zm := hmc (nAt (sgL A k) j).1 (by omega)
          have zo := hoc (nAt (sgL A k) j).1 (by omega)
          dsimp only at zm zo
          rw [← hMj] at zm
          rw [← hNj] at zo
          have b2 := hBo.r2
          have b3 := hBo.r3
          rw [hma (by omega)] at b2
          rw [hoa (by omega)] at b3
          have hwl : w.heap.size < w11.heap.size := World.block_lt_of_cell? _ _ b2
          have hmb : mb < w11.heap.size := World.block_lt_of_cell? _ _ zm
          have hob : ob < w11.heap.size := World.block_lt_of_cell? _ _ zo
          have hpM : (nAt (sgL A k) j).1 < A.M := by omega
          have hpO : (nAt (sgL A k) j).1 < A.O := by omega
          clear hMG hOG
          have hlow := HLq.out.low
          have z1' := below_cell hlow (Nat.le_refl _) z1
          have z2' := below_cell hlow (Nat.le_refl _) z2
          generalize (nAt (sgL A k) j).1 = px at *
          generalize (nAt (sgL A k) j).2 = py at *
          obtain ⟨WW, hWW, hbW, hsW, x0, x1⟩ := box2 wr (.int .i64 (px : Nat)) (.int .i64 (py : Nat)) 79
          have hblk : WW.heap[wr.heap.size]? = some (.cells #[.int .i64 (px : Nat), .int .i64 (py : Nat)] 79) := by rw [← hWW]; exact Go.Deep.blk_alloc_new _ _
          have HLW := hid (HLq.out.below hbW)
          have HZM := hid (And.intro zm (And.intro zo (And.intro b2 b3)))
          have HBK := hid hblk
          obtain ⟨Bp, hBp⟩ : ∃ Bp, wr.heap.size = Bp := ⟨_, rfl⟩
          rw [hBp] at x0 x1 HBK hsW
          have hBlt : w11.heap.size ≤ Bp := by rw [← hBp]; exact hlow.size
          have hc2 : WW.cell? ⟨w11.heap.size, 2, none⟩ = some (.slice m1 j c1) := cell_of_cells HLW.out.aut rfl
          have HB := hid hBp
          have HSW := hid hsW
          clear hsW
          have wl := HLW.out.low
          have zm1 := below_cell' wl hmb zm
          have b21 := below_cell' wl hwl b2
          have hsW2 : w11.heap.size ≤ WW.heap.size := wl.size
          have iuH := HU
          have hUb : (WW.alloc (.cells #[.int .u64 ((Mf j : Nat) : Int)] 51)).heap[WW.heap.size]? = some (.cells #[.int .u64 ((Mf j : Nat) : Int)] 51) := Go.Deep.blk_alloc_new _ _
          have HOW : Hid (((WW.alloc (.cells #[.int .u64 ((Mf j : Nat) : Int)] 51)).drew).ownsRow w11.heap.size 51 1 (.slice m1 j c1) j (vu Mf j)) := hid ((HLW.out.ms.alloc _).drew)
          have hS0 : (fun z : World => z.cell? ⟨w11.heap.size, 2, none⟩ = some (.slice m1 j c1) ∧ z.cell? ⟨w.heap.size, 2, none⟩ = some (.slice (some ⟨mb, mo, none⟩) A.M A.mc) ∧ z.cell? ⟨Bp, 0, none⟩ = some (.int .i64 (px : Nat)) ∧ z.cell? ⟨mb, mo + px, none⟩ = some (.int .u64 ((Mf j : Nat) : Int))) WW.drew := ⟨hc2, b21, x0, zm1⟩
          have hS1 : (fun z : World => z.cell? ⟨w11.heap.size, 2, none⟩ = some (.slice m1 j c1) ∧ z.cell? ⟨w.heap.size, 2, none⟩ = some (.slice (some ⟨mb, mo, none⟩) A.M A.mc) ∧ z.cell? ⟨Bp, 0, none⟩ = some (.int .i64 (px : Nat)) ∧ z.cell? ⟨mb, mo + px, none⟩ = some (.int .u64 ((Mf j : Nat) : Int))) (WW.alloc (.cells #[.int .u64 ((Mf j : Nat) : Int)] 51)).drew := ⟨cell_alloc1 _ hc2, cell_alloc1 _ b21, cell_alloc1 _ x0, cell_alloc1 _ zm1⟩
          clear z1 z2 hpc hMj hNj hma hmc hoa hoc hP hblk hbW hBo hlow zm zo b2 b3 hpa
          go_wp2_with fail
          refine G_region (fun z : World => z.cell? ⟨w11.heap.size, 2, none⟩ = some (.slice m1 j c1) ∧ z.cell? ⟨w.heap.size, 2, none⟩ = some (.slice (some ⟨mb, mo, none⟩) A.M A.mc) ∧ z.cell? ⟨Bp, 0, none⟩ = some (.int .i64 (px : Nat)) ∧ z.cell? ⟨mb, mo + px, none⟩ = some (.int .u64 ((Mf j : Nat) : Int))) (fun i => i == 11) (by kernel_rfl) hS0 (fun _ => ?_)
          refine G_take (i := 0) (oi := { dst := some 50, op := Op.fieldAddr 26 (Operand.tmp 7) 2, type := 0, pos := _, after := #[], guard := none }) (v := .pointer (some ⟨w11.heap.size, 2, none⟩)) rfl (by kernel_rfl) (by kernel_rfl) (by kernel_rfl) (by kernel_rfl) (fun _ _ _ h => h) (by rfl) (fun u hu => ?_) hS0 ?_
          · (try dsimp only at hu); go_simp
          (try simp only [Act.put, List.setIfInBounds_toArray, List.set_cons_zero, List.set_cons_succ])
          refine G_take (i := 1) (oi := { dst := some 51, op := Op.load 24 (Operand.tmp 50), type := 24, pos := _, after := #[{ on := 0, ground := Ground.data }], guard := none }) (v := .slice m1 j c1) rfl (by kernel_rfl) (by kernel_rfl) (by kernel_rfl) (by kernel_rfl) (fun _ _ _ h => h) (by rfl) (fun u hu => ?_) hS0 ?_
          · (try dsimp only at hu); go_simp
          (try simp only [Act.put, List.setIfInBounds_toArray, List.set_cons_zero, List.set_cons_succ])
          refine G_take (i := 2) (oi := { dst := some 52, op := Op.fieldAddr 26 (Operand.tmp 1) 2, type := 0, pos := _, after := #[], guard := none }) (v := .pointer (some ⟨w.heap.size, 2, none⟩)) rfl (by kernel_rfl) (by kernel_rfl) (by kernel_rfl) (by kernel_rfl) (fun _ _ _ h => h) (by rfl) (fun u hu => ?_) hS0 ?_
          · (try dsimp only at hu); go_simp
          (try simp only [Act.put, List.setIfInBounds_toArray, List.set_cons_zero, List.set_cons_succ])
          refine G_take (i := 3) (oi := { dst := some 53, op := Op.load 24 (Operand.tmp 52), type := 24, pos := _, after := #[{ on := 2, ground := Ground.data }], guard := none }) (v := .slice (some ⟨mb, mo, none⟩) A.M A.mc) rfl (by kernel_rfl) (by kernel_rfl) (by kernel_rfl) (by kernel_rfl) (fun _ _ _ h => h) (by rfl) (fun u hu => ?_) hS0 ?_
          · (try dsimp only at hu); go_simp
          (try simp only [Act.put, List.setIfInBounds_toArray, List.set_cons_zero, List.set_cons_succ])
          refine G_take (i := 4) (oi := { dst := some 54, op := Op.fieldAddr 79 (Operand.tmp 11) 0, type := 0, pos := _, after := #[], guard := none }) (v := .pointer (some ⟨Bp, 0, none⟩)) rfl (by kernel_rfl) (by kernel_rfl) (by kernel_rfl) (by kernel_rfl) (fun _ _ _ h => h) (by rfl) (fun u hu => ?_) hS0 ?_
          · (try dsimp only at hu); go_simp
          (try simp only [Act.put, List.setIfInBounds_toArray, List.set_cons_zero, List.set_cons_succ])
          refine G_take (i := 5) (oi := { dst := some 55, op := Op.load 3 (Operand.tmp 54), type := 3, pos := _, after := #[{ on := 4, ground := Ground.data }], guard := none }) (v := .int .i64 (px : Nat)) rfl (by kernel_rfl) (by kernel_rfl) (by kernel_rfl) (by kernel_rfl) (fun _ _ _ h => h) (by rfl) (fun u hu => ?_) hS0 ?_
          · (try dsimp only at hu); go_simp
          (try simp only [Act.put, List.setIfInBounds_toArray, List.set_cons_zero, List.set_cons_succ])
          refine G_take (i := 6) (oi := { dst := some 56, op := Op.indexAddr 24 (Operand.tmp 53) (Operand.tmp 55), type := 0, pos := _, after := #[{ on := 3, ground := Ground.data }, { on := 5, ground := Ground.data }], guard := none }) (v := .pointer (some ⟨mb, mo + px, none⟩)) rfl (by kernel_rfl) (by kernel_rfl) (by kernel_rfl) (by kernel_rfl) (fun _ _ _ h => h) (by rfl) (fun u hu => ?_) hS0 ?_
          · (try dsimp only at hu); go_simp
          (try simp only [Act.put, List.setIfInBounds_toArray, List.set_cons_zero, List.set_cons_succ])
          refine G_take (i := 7) (oi := { dst := some 57, op := Op.load 51 (Operand.tmp 56), type := 51, pos := _, after := #[{ on := 6, ground := Ground.data }], guard := none }) (v := .int .u64 ((Mf j : Nat) : Int)) rfl (by kernel_rfl) (by kernel_rfl) (by kernel_rfl) (by kernel_rfl) (fun _ _ _ h => h) (by rfl) (fun u hu => ?_) hS0 ?_
          · (try dsimp only at hu); go_simp
          (try simp only [Act.put, List.setIfInBounds_toArray, List.set_cons_zero, List.set_cons_succ])
          refine G_step (i := 8) (o := { dst := some 58, op := Op.buildSlice 24 1 #[(0, Operand.tmp 57)], type := 24, pos := _, after := #[{ on := 7, ground := Ground.data }], guard := none }) (by kernel_rfl) rfl (fun K' hK => ?_)
          go_simp
          refine hK.out _ _ (fun _ => hS1) (fun _ => ?_)
          (try simp only [Act.put, List.setIfInBounds_toArray, List.set_cons_zero, List.set_cons_succ])
          refine G_step (i := 9) (o := { dst := some 59, op := Op.call { callee := Callee.builtin Builtin.append, args := #[Operand.tmp 51, Operand.tmp 58], argTypes := #[24, 24] }, type := 24, pos := _, after := #[{ on := 1, ground := Ground.data }, { on := 8, ground := Ground.data }], guard := none }) (by kernel_rfl) rfl (fun K' hK => ?_)
          refine step_append_lies _ (by rfl) _ _ _ (by rfl) w11.heap.size 51 iu _ 1 8 Tryd.underlying24 HU.out.1 HU.out.2.1 HU.out.2.2.1 HU.out.2.2.2 rfl (by omega) (.slice m1 j c1) j (vu Mf j) (by rfl) (HOW.out) ⟨WW.heap.size, 0, none⟩ 1 1 [.int .u64 ((Mf j : Nat) : Int)] (by rfl) (by rfl) (World.news_of_block (w := (WW.alloc (.cells #[.int .u64 ((Mf j : Nat) : Int)] 51)).drew) (cs := #[.int .u64 ((Mf j : Nat) : Int)]) (t := 51) (fr := (0, 0)) hUb) (by simp [Value.oneCell']) (by omega) (by unfold maxLen; omega) (by omega) (by simp; omega) (WW.heap.size + 1) (by simp) ?_
          intro g cap w4 hown4 hgrow4 hat4 hlt4
          have hgr : (WW.alloc (.cells #[.int .u64 ((Mf j : Nat) : Int)] 51)).grownBy w4 (Value.slice m1 j c1).ownBlock := ⟨hgrow4.os, hgrow4.tape, hgrow4.output, hgrow4.size, hgrow4.block⟩
          obtain ⟨hoth, hfz, HL4, hbut⟩ := HLW.out.must (mv' := .slice (some ⟨g, 0, none⟩) (j + 1) cap) hown4 hgr (hat4.imp (fun e => by rw [e]; simp [Value.ownBlock]) (fun e => by rw [e]; simp [Value.ownBlock]))
          have s4 : (fun z : World => z.cell? ⟨w11.heap.size, 2, none⟩ = some (.slice m1 j c1) ∧ z.cell? ⟨w.heap.size, 2, none⟩ = some (.slice (some ⟨mb, mo, none⟩) A.M A.mc) ∧ z.cell? ⟨Bp, 0, none⟩ = some (.int .i64 (px : Nat)) ∧ z.cell? ⟨mb, mo + px, none⟩ = some (.int .u64 ((Mf j : Nat) : Int))) w4 := ⟨oth_cell hoth (Or.inr ⟨_, _, _, HLW.out.aut, by decide⟩) hc2, oth_cell hoth (Or.inl hwl) b21, oth_cell hoth (Or.inr ⟨_, _, _, HBK.out, by decide⟩) x0, oth_cell hoth (Or.inl hmb) zm1⟩
          have HBK4 : Hid (w4.heap[Bp]? = some (.cells #[.int .i64 (px : Nat), .int .i64 (py : Nat)] 79)) := hid ((hoth Bp (by have := HSW.out; omega) (Or.inr ⟨_, _, _, HBK.out, by decide⟩)).trans HBK.out)
          have HL4' := hid HL4
          have hs4 := s4.1
          clear hown4 hgrow4 hgr hat4 hlt4 hoth HL4 hUb HOW hS1
          refine hK.out _ _ (fun _ => s4) (fun _ => ?_)
          (try simp only [Act.put, List.setIfInBounds_toArray, List.set_cons_zero, List.set_cons_succ])
          refine G_step (i := 10) (o := { dst := some 60, op := Op.fieldAddr 26 (Operand.tmp 7) 2, type := 0, pos := _, after := #[{ on := 0, ground := Ground.phase }, { on := 1, ground := Ground.phase }, { on := 2, ground := Ground.phase }, { on := 3, ground := Ground.phase }, { on := 4, ground := Ground.phase }, { on := 5, ground := Ground.phase }, { on := 6, ground := Ground.phase }, { on := 7, ground := Ground.phase }, { on := 8, ground := Ground.phase }, { on := 9, ground := Ground.phase }], guard := none }) (by kernel_rfl) rfl (fun K' hK => ?_)
          go_simp
          refine hK.out _ _ (fun _ => s4) (fun _ => ?_)
          (try simp only [Act.put, List.setIfInBounds_toArray, List.set_cons_zero, List.set_cons_succ])
          refine G_step (i := 11) (o := { dst := none, op := Op.store 24 (Operand.tmp 60) (Operand.tmp 59), type := 0, pos := _, after := #[{ on := 10, ground := Ground.data }, { on := 9, ground := Ground.data }, { on := 9, ground := Ground.chain }, { on := 0, ground := Ground.phase }, { on := 1, ground := Ground.phase }, { on := 2, ground := Ground.phase }, { on := 3, ground := Ground.phase }, { on := 4, ground := Ground.phase }, { on := 5, ground := Ground.phase }, { on := 6, ground := Ground.phase }, { on := 7, ground := Ground.phase }, { on := 8, ground := Ground.phase }, { on := 9, ground := Ground.phase }], guard := none }) (by kernel_rfl) rfl (fun K' hK => ?_)
          go_simp
          refine hK.out _ _ (fun h => absurd h (by decide)) (fun _ => ?_)
          (try simp only [Act.put, List.setIfInBounds_toArray, List.set_cons_zero, List.set_cons_succ])
          refine G_done (by kernel_rfl) ?_ _
          (try dsimp only [Exit.then])
          have hBne : Bp ≠ w11.heap.size := fun e => by have := HLW.out.aut; rw [← e, HBK.out] at this; cases this
          have HBK5 : Hid ((w4.setCell ⟨w11.heap.size, 2, none⟩ (.slice (some ⟨g, 0, none⟩) (j + 1) cap)).heap[Bp]? = some (.cells #[.int .i64 (px : Nat), .int .i64 (py : Nat)] 79)) := hid ((hbut.block Bp (Array.getElem?_eq_some_iff.1 HBK4.out).1 hBne).trans HBK4.out)
          clear s4 hs4 hfz hS0 hc2 x0 x1 zm1 b21 hbut HBK4 HBK HLW wl hWW HLq z1' z2' HSW hBp HB
          generalize w4.setCell ⟨w11.heap.size, 2, none⟩ (.slice (some ⟨g, 0, none⟩) (j + 1) cap) = W5' at *
          have wl := HL4'.out.low
          have x0 : W5'.cell? ⟨Bp, 0, none⟩ = some (.int .i64 (px : Nat)) := cell_of_cells HBK5.out rfl
          have hc3 : W5'.cell? ⟨w11.heap.size, 3, none⟩ = some (.slice m2 j c2) := cell_of_cells HL4'.out.aut rfl
          have zo1 := below_cell' wl hob HZM.out.2.1
          have b31 := below_cell' wl hwl HZM.out.2.2.2
          have hs5 : w11.heap.size ≤ W5'.heap.size := wl.size
          have hUb : (W5'.alloc (.cells #[.int .u64 ((Nf j : Nat) : Int)] 51)).heap[W5'.heap.size]? = some (.cells #[.int .u64 ((Nf j : Nat) : Int)] 51) := Go.Deep.blk_alloc_new _ _
          have HOW : Hid (((W5'.alloc (.cells #[.int .u64 ((Nf j : Nat) : Int)] 51)).drew).ownsRow w11.heap.size 51 1 (.slice m2 j c2) j (vu Nf j)) := hid ((HL4'.out.os.alloc _).drew)
          have hS0 : (fun z : World => z.cell? ⟨w11.heap.size, 3, none⟩ = some (.slice m2 j c2) ∧ z.cell? ⟨w.heap.size, 3, none⟩ = some (.slice (some ⟨ob, oo, none⟩) A.O A.oc) ∧ z.cell? ⟨Bp, 0, none⟩ = some (.int .i64 (px : Nat)) ∧ z.cell? ⟨ob, oo + px, none⟩ = some (.int .u64 ((Nf j : Nat) : Int))) W5'.drew := ⟨hc3, b31, x0, zo1⟩
          have hS1 : (fun z : World => z.cell? ⟨w11.heap.size, 3, none⟩ = some (.slice m2 j c2) ∧ z.cell? ⟨w.heap.size, 3, none⟩ = some (.slice (some ⟨ob, oo, none⟩) A.O A.oc) ∧ z.cell? ⟨Bp, 0, none⟩ = some (.int .i64 (px : Nat)) ∧ z.cell? ⟨ob, oo + px, none⟩ = some (.int .u64 ((Nf j : Nat) : Int))) (W5'.alloc (.cells #[.int .u64 ((Nf j : Nat) : Int)] 51)).drew := ⟨cell_alloc1 _ hc3, cell_alloc1 _ b31, cell_alloc1 _ x0, cell_alloc1 _ zo1⟩
          go_wp2_with fail
          refine G_region (fun z : World => z.cell? ⟨w11.heap.size, 3, none⟩ = some (.slice m2 j c2) ∧ z.cell? ⟨w.heap.size, 3, none⟩ = some (.slice (some ⟨ob, oo, none⟩) A.O A.oc) ∧ z.cell? ⟨Bp, 0, none⟩ = some (.int .i64 (px : Nat)) ∧ z.cell? ⟨ob, oo + px, none⟩ = some (.int .u64 ((Nf j : Nat) : Int))) (fun i => i == 11) (by kernel_rfl) hS0 (fun _ => ?_)
          refine G_take (i := 0) (oi := { dst := some 61, op := Op.fieldAddr 26 (Operand.tmp 7) 3, type := 0, pos := _, after := #[], guard := none }) (v := .pointer (some ⟨w11.heap.size, 3, none⟩)) rfl (by kernel_rfl) (by kernel_rfl) (by kernel_rfl) (by kernel_rfl) (fun _ _ _ h => h) (by rfl) (fun u hu => ?_) hS0 ?_
          · (try dsimp only at hu); go_simp
          (try simp only [Act.put, List.setIfInBounds_toArray, List.set_cons_zero, List.set_cons_succ])
          refine G_take (i := 1) (oi := { dst := some 62, op := Op.load 24 (Operand.tmp 61), type := 24, pos := _, after := #[{ on := 0, ground := Ground.data }], guard := none }) (v := .slice m2 j c2) rfl (by kernel_rfl) (by kernel_rfl) (by kernel_rfl) (by kernel_rfl) (fun _ _ _ h => h) (by rfl) (fun u hu => ?_) hS0 ?_
          · (try dsimp only at hu); go_simp
          (try simp only [Act.put, List.setIfInBounds_toArray, List.set_cons_zero, List.set_cons_succ])
          refine G_take (i := 2) (oi := { dst := some 63, op := Op.fieldAddr 26 (Operand.tmp 1) 3, type := 0, pos := _, after := #[], guard := none }) (v := .pointer (some ⟨w.heap.size, 3, none⟩)) rfl (by kernel_rfl) (by kernel_rfl) (by kernel_rfl) (by kernel_rfl) (fun _ _ _ h => h) (by rfl) (fun u hu => ?_) hS0 ?_
          · (try dsimp only at hu); go_simp
          (try simp only [Act.put, List.setIfInBounds_toArray, List.set_cons_zero, List.set_cons_succ])
          refine G_take (i := 3) (oi := { dst := some 64, op := Op.load 24 (Operand.tmp 63), type := 24, pos := _, after := #[{ on := 2, ground := Ground.data }], guard := none }) (v := .slice (some ⟨ob, oo, none⟩) A.O A.oc) rfl (by kernel_rfl) (by kernel_rfl) (by kernel_rfl) (by kernel_rfl) (fun _ _ _ h => h) (by rfl) (fun u hu => ?_) hS0 ?_
          · (try dsimp only at hu); go_simp
          (try simp only [Act.put, List.setIfInBounds_toArray, List.set_cons_zero, List.set_cons_succ])
          refine G_take (i := 4) (oi := { dst := some 65, op := Op.fieldAddr 79 (Operand.tmp 11) 0, type := 0, pos := _, after := #[], guard := none }) (v := .pointer (some ⟨Bp, 0, none⟩)) rfl (by kernel_rfl) (by kernel_rfl) (by kernel_rfl) (by kernel_rfl) (fun _ _ _ h => h) (by rfl) (fun u hu => ?_) hS0 ?_
          · (try dsimp only at hu); go_simp
          (try simp only [Act.put, List.setIfInBounds_toArray, List.set_cons_zero, List.set_cons_succ])
          refine G_take (i := 5) (oi := { dst := some 66, op := Op.load 3 (Operand.tmp 65), type := 3, pos := _, after := #[{ on := 4, ground := Ground.data }], guard := none }) (v := .int .i64 (px : Nat)) rfl (by kernel_rfl) (by kernel_rfl) (by kernel_rfl) (by kernel_rfl) (fun _ _ _ h => h) (by rfl) (fun u hu => ?_) hS0 ?_
          · (try dsimp only at hu); go_simp
          (try simp only [Act.put, List.setIfInBounds_toArray, List.set_cons_zero, List.set_cons_succ])
          refine G_take (i := 6) (oi := { dst := some 67, op := Op.indexAddr 24 (Operand.tmp 64) (Operand.tmp 66), type := 0, pos := _, after := #[{ on := 3, ground := Ground.data }, { on := 5, ground := Ground.data }], guard := none }) (v := .pointer (some ⟨ob, oo + px, none⟩)) rfl (by kernel_rfl) (by kernel_rfl) (by kernel_rfl) (by kernel_rfl) (fun _ _ _ h => h) (by rfl) (fun u hu => ?_) hS0 ?_
          · (try dsimp only at hu); go_simp
          (try simp only [Act.put, List.setIfInBounds_toArray, List.set_cons_zero, List.set_cons_succ])
          refine G_take (i := 7) (oi := { dst := some 68, op := Op.load 51 (Operand.tmp 67), type := 51, pos := _, after := #[{ on := 6, ground := Ground.data }], guard := none }) (v := .int .u64 ((Nf j : Nat) : Int)) rfl (by kernel_rfl) (by kernel_rfl) (by kernel_rfl) (by kernel_rfl) (fun _ _ _ h => h) (by rfl) (fun u hu => ?_) hS0 ?_
          · (try dsimp only at hu); go_simp
          (try simp only [Act.put, List.setIfInBounds_toArray, List.set_cons_zero, List.set_cons_succ])
          refine G_step (i := 8) (o := { dst := some 69, op := Op.buildSlice 24 1 #[(0, Operand.tmp 68)], type := 24, pos := _, after := #[{ on := 7, ground := Ground.data }], guard := none }) (by kernel_rfl) rfl (fun K' hKB => ?_)
          go_simp
          refine hKB.out _ _ (fun _ => hS1) (fun _ => ?_)
          (try simp only [Act.put, List.setIfInBounds_toArray, List.set_cons_zero, List.set_cons_succ])
          refine G_step (i := 9) (o := { dst := some 70, op := Op.call { callee := Callee.builtin Builtin.append, args := #[Operand.tmp 62, Operand.tmp 69], argTypes := #[24, 24] }, type := 24, pos := _, after := #[{ on := 1, ground := Ground.data }, { on := 8, ground := Ground.data }], guard := none }) (by kernel_rfl) rfl (fun K' hKB => ?_)
          refine step_append_lies _ (by rfl) _ _ _ (by rfl) w11.heap.size 51 iu _ 1 8 Tryd.underlying24 HU.out.1 HU.out.2.1 HU.out.2.2.1 HU.out.2.2.2 rfl (by omega) (.slice m2 j c2) j (vu Nf j) (by rfl) (HOW.out) ⟨W5'.heap.size, 0, none⟩ 1 1 [.int .u64 ((Nf j : Nat) : Int)] (by rfl) (by rfl) (World.news_of_block (w := (W5'.alloc (.cells #[.int .u64 ((Nf j : Nat) : Int)] 51)).drew) (cs := #[.int .u64 ((Nf j : Nat) : Int)]) (t := 51) (fr := (0, 0)) hUb) (by simp [Value.oneCell']) (by omega) (by unfold maxLen; omega) (by omega) (by simp; omega) (W5'.heap.size + 1) (by simp) ?_
          intro g2 cap2 w6 hown4 hgrow4 hat4 hlt4
          have hgr : (W5'.alloc (.cells #[.int .u64 ((Nf j : Nat) : Int)] 51)).grownBy w6 (Value.slice m2 j c2).ownBlock := ⟨hgrow4.os, hgrow4.tape, hgrow4.output, hgrow4.size, hgrow4.block⟩
          obtain ⟨hoth, hfz, HL6, _⟩ := HL4'.out.nots (ov' := .slice (some ⟨g2, 0, none⟩) (j + 1) cap2) hown4 hgr (hat4.imp (fun e => by rw [e]; simp [Value.ownBlock]) (fun e => by rw [e]; simp [Value.ownBlock]))
          have s4 : (fun z : World => z.cell? ⟨w11.heap.size, 3, none⟩ = some (.slice m2 j c2) ∧ z.cell? ⟨w.heap.size, 3, none⟩ = some (.slice (some ⟨ob, oo, none⟩) A.O A.oc) ∧ z.cell? ⟨Bp, 0, none⟩ = some (.int .i64 (px : Nat)) ∧ z.cell? ⟨ob, oo + px, none⟩ = some (.int .u64 ((Nf j : Nat) : Int))) w6 := ⟨oth_cell hoth (Or.inr ⟨_, _, _, HL4'.out.aut, by decide⟩) hc3, oth_cell hoth (Or.inl hwl) b31, oth_cell hoth (Or.inr ⟨_, _, _, HBK5.out, by decide⟩) x0, oth_cell hoth (Or.inl hob) zo1⟩
          have HL6' := hid HL6
          have hs4 := s4.1
          clear hown4 hgrow4 hgr hat4 hlt4 hoth HL6 hUb HOW hS1
          refine hKB.out _ _ (fun _ => s4) (fun _ => ?_)
          (try simp only [Act.put, List.setIfInBounds_toArray, List.set_cons_zero, List.set_cons_succ])
          refine G_step (i := 10) (o := { dst := some 71, op := Op.fieldAddr 26 (Operand.tmp 7) 3, type := 0, pos := _, after := #[{ on := 0, ground := Ground.phase }, { on := 1, ground := Ground.phase }, { on := 2, ground := Ground.phase }, { on := 3, ground := Ground.phase }, { on := 4, ground := Ground.phase }, { on := 5, ground := Ground.phase }, { on := 6, ground := Ground.phase }, { on := 7, ground := Ground.phase }, { on := 8, ground := Ground.phase }, { on := 9, ground := Ground.phase }], guard := none }) (by kernel_rfl) rfl (fun K' hKB => ?_)
          go_simp
          refine hKB.out _ _ (fun _ => s4) (fun _ => ?_)
          (try simp only [Act.put, List.setIfInBounds_toArray, List.set_cons_zero, List.set_cons_succ])
          refine G_step (i := 11) (o := { dst := none, op := Op.store 24 (Operand.tmp 71) (Operand.tmp 70), type := 0, pos := _, after := #[{ on := 10, ground := Ground.data }, { on := 9, ground := Ground.data }, { on := 9, ground := Ground.chain }, { on := 0, ground := Ground.phase }, { on := 1, ground := Ground.phase }, { on := 2, ground := Ground.phase }, { on := 3, ground := Ground.phase }, { on := 4, ground := Ground.phase }, { on := 5, ground := Ground.phase }, { on := 6, ground := Ground.phase }, { on := 7, ground := Ground.phase }, { on := 8, ground := Ground.phase }, { on := 9, ground := Ground.phase }], guard := none }) (by kernel_rfl) rfl (fun K' hKB => ?_)
          go_simp
          refine hKB.out _ _ (fun h => absurd h (by decide)) (fun _ => ?_)
          (try simp only [Act.put, List.setIfInBounds_toArray, List.set_cons_zero, List.set_cons_succ])
          refine G_done (by kernel_rfl) ?_ _
          (try dsimp only [Exit.then])
          clear s4 hs4 hfz hS0 hc3 x0 zo1 b31 HBK5 HL4' wl
          generalize w6.setCell ⟨w11.heap.size, 3, none⟩ (.slice (some ⟨g2, 0, none⟩) (j + 1) cap2) = W7' at *
          go_wp2
          go_roundw
          case rel => exact ⟨j + 1, _, _, by omega, by go_num, HL6'⟩
          case measure => simp [intOf]; omega
        · have HJ : Hid (j = k) := hid (by omega)
          have hLz : Lq w11 (.slice sa1 sn1 sc1) (.slice na1 k nc1) (.slice m1 j c1) (.slice m2 j c2) (fun i => A.Mu (nAt (sgL A k) i).1) (fun i => A.No (nAt (sgL A k) i).1) k k wr := by
            obtain rfl := HJ.out
            rw [HMN.out.1, HMN.out.2]
            exact HLq.out
          have HLZ := hid hLz
          have CW := hid (where59 pa k pc (nAt (sgL A k)) (fun i => sgF A (nAt (sgL A k) i)) (.pointer (some ⟨w3.heap.size, 0, none⟩)) wr hk2 (Sp.below ⟨pb, hpa, hpc⟩ HLq.out.low) (fun i hi u hu => sgx59 A w3.heap.size w7.heap.size w2.heap.size A.K A.K W4.heap.size A.G (fun r => ofL (A.FZ r) (A.FL r)) V (nAt (sgL A k) i) wr u (HSG11.out.below HLq.out.low) hu (sgL_all H0.out k _ (nAt_mem (by have := HG.out.1; omega)))))
          clear hLz hpa hpc hBo
          go_wp2_with fail
          refine CW.out.mono ?_
          rintro e w20 ⟨gv, rfl, ho20, hb20⟩
          obtain ⟨a20, c20, hgv, _⟩ := owns_row ho20
          obtain ⟨e4, ef4, e22⟩ := si_fin H0.out HG.out.1 hk2 HS10.out.low HG.out.2.2.1 HS11.out.res HG.out.2.2.2.1 HG.out.2.2.2.2.1 HLZ.out ho20 hb20
          obtain ⟨n20, hn20⟩ : ∃ n, (cs (whN (fun i => sgF A (nAt (sgL A k) i)) k)).length = n := ⟨_, rfl⟩
          rw [hn20] at hgv
          subst hgv
          obtain ⟨W22, hW22⟩ : ∃ W22, (w20.alloc (.cells #[.slice a20 n20 c20] 22)).setCell ⟨w11.heap.size, 4, none⟩ (.slice (some ⟨w20.heap.size, 0, none⟩) 1 1) = W22 := ⟨_, rfl⟩
          obtain ⟨i1, i2, i3, i4⟩ := e22 W22 hW22
          obtain ⟨⟨u0, u1, u2, u3, u4⟩, _⟩ := five_cells i1
          obtain ⟨⟨y0, y1, y2, y3, y4⟩, yf⟩ := nil_cells i2
          have f0 := yf 0
          have f1 := yf 1
          have f2 := yf 2
          have f3 := yf 3
          have f4 := yf 4
          obtain ⟨X, hX⟩ : ∃ X, (((((W22.setCell ⟨w.heap.size + 1, 0, none⟩ (.slice sa1 sn1 sc1)).setCell ⟨w.heap.size + 1, 1, none⟩ (.slice na1 k nc1)).setCell ⟨w.heap.size + 1, 2, none⟩ (.slice m1 j c1)).setCell ⟨w.heap.size + 1, 3, none⟩ (.slice m2 j c2)).setCell ⟨w.heap.size + 1, 4, none⟩ (.slice (some ⟨w20.heap.size, 0, none⟩) 1 1)) = X := ⟨_, rfl⟩
          obtain ⟨hx5, hxb⟩ := set5 _ _ _ _ _ i2 hX
          obtain ⟨⟨k0, k1, k2, k3, k4⟩, _⟩ := five_cells hx5
          have HI4 := hid (i4 X hxb)
          clear i1 i2 i4 yf hx5 hxb e22 ho20 hb20 hn20 CW
          go_wp2
          refine ⟨rfl, .tuple #[.agg #[.slice sa1 sn1 sc1, .slice na1 k nc1, .slice m1 j c1, .slice m2 j c2, .slice (some ⟨w20.heap.size, 0, none⟩) 1 1], .int .i64 0], by simp [results, Tryd.f17, go_sem, k0, k1, k2, k3, k4], ?_⟩
          exact HI4.out
    · have HS11 := hid (HS10.out.below HG.out.2)
      have hres11 := HS11.out.res
      have hlt11 : w.heap.size + 1 < w11.heap.size := (Array.getElem?_eq_some_iff.1 hres11).1
      obtain ⟨⟨y0, y1, y2, y3, y4⟩, yf⟩ := nil_cells hres11
      have f0 := yf 0
      have f1 := yf 1
      have f2 := yf 2
      have f3 := yf 3
      have f4 := yf 4
      obtain ⟨X, hX⟩ : ∃ X, (((((w11.setCell ⟨w.heap.size + 1, 0, none⟩ (.slice none 0 0)).setCell ⟨w.heap.size + 1, 1, none⟩ (.slice none 0 0)).setCell ⟨w.heap.size + 1, 2, none⟩ (.slice none 0 0)).setCell ⟨w.heap.size + 1, 3, none⟩ (.slice none 0 0)).setCell ⟨w.heap.size + 1, 4, none⟩ (.slice none 0 0)) = X := ⟨_, rfl⟩
      obtain ⟨hx5, hxb⟩ := set5 _ _ _ _ _ hres11 hX
      have hb12 := box_below X (.cells nil5 26)
      obtain ⟨⟨k0, k1, k2, k3, k4⟩, _⟩ := five_cells ((hb12.block _ (Array.getElem?_eq_some_iff.1 hx5).1).trans hx5)
      have HXB := hid ((hxb.below (Nat.le_succ _) HS11.out.low.size).trans (hb12.mono (Nat.le_trans HS11.out.low.size hxb.size)))
      clear yf hxb hx5 hb12 hres11
      go_wp2
      refine ⟨rfl, .tuple #[.agg nil5, .int .i64 2], by simp [results, Tryd.f17, go_sem, k0, k1, k2, k3, k4], ?_⟩
      exact Or.inr (Or.inl ⟨H0.out, HG.out.1, rfl, HS11.out.low.trans HXB.out⟩)

theorem single_any (A : Ax) (w : World) (h : Aw w A) : Calls Tryd.prog 17 #[A.val] w fun e w' => SiIs w A e w' := by
  by_cases h0 : chkA A = 0
  · exact single_ok A w h h0
  · exact single_bad A w h h0

end Go.Proofs.YtdncjikmknkkpaaDoor
