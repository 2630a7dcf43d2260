/- The document's Single. -/
import Derived.Deep.AppendLies
import Derived.Test.YtdncjikmknkkpaaS25
namespace Go.Proofs.Ytdncjikmknkkpaa
open Go.RowKit

theorem pd_grow2 {u wr w3 : World} {v v' : Value} {j z kw : Nat} {Z : Nat → Int} {o : Obj} (hb : Below u.heap.size u wr) (ho : wr.ownsRow u.heap.size 59 2 v j (pcells ((List.range j).map fun i => ((Z i).toNat, kw)))) (hz : (Z j).toNat = z)
    (hown : w3.ownsRow u.heap.size 59 2 v' (j + 1) (pcells ((List.range j).map fun i => ((Z i).toNat, kw)) ++ [.int .i64 (z : Nat), .int .i64 (kw : Nat)])) (hgr : (wr.alloc o).grownBy w3 v.ownBlock) :
    Below u.heap.size u w3 ∧ w3.ownsRow u.heap.size 59 2 v' (j + 1) (pcells ((List.range (j + 1)).map fun i => ((Z i).toNat, kw))) := by
  have hg := (World.grownBy_alloc wr o v.ownBlock).trans hgr
  refine ⟨hb.grown hg hb.size (fun b h => (ho.lt b h).1), ?_⟩
  rw [List.range_succ, List.map_append, List.map_cons, List.map_nil, hz, ← pcells_snoc]
  exact hown

/-- A number more in the set: Must and Not stay. -/
theorem Lq.num {w0 : World} {sv nv mv ov gv gv' : Value} {M N : Nat → Nat} {jm jo : Nat} {W W3 : World} {l : List Int} {x : Int} {o : Obj} (h : Lq w0 sv nv mv ov M N jm jo W) (hg0 : W.ownsRow w0.heap.size 3 1 gv l.length (vals l)) (hown : W3.ownsRow w0.heap.size 3 1 gv' (l.length + 1) (vals l ++ [.int .i64 x])) (hgr : (W.alloc o).grownBy W3 gv.ownBlock) :
    Lq w0 sv nv mv ov M N jm jo W3 ∧ W3.ownsRow w0.heap.size 3 1 gv' (l ++ [x]).length (vals (l ++ [x])) := by
  have hg := (World.grownBy_alloc W o gv.ownBlock).trans hgr
  have hk : ∀ {b : Nat} {c : Array Value} {t : TypeId} {z : Nat × Nat}, W.heap[b]? = some (.cells c t z) → t ≠ 3 → W3.heap[b]? = W.heap[b]? := fun {b c t z} hb ht => hg.block b (Array.getElem?_eq_some_iff.1 hb).1 (fun e => by
    obtain ⟨c2, z2, h6⟩ := owns_blk hg0 e.symm
    rw [hb] at h6
    cases h6
    exact ht rfl)
  refine ⟨⟨(hk h.aut (by decide)).trans h.aut, owns_of_blk h.ms (fun b e => ?_), owns_of_blk h.os (fun b e => ?_), h.low.grown hg h.low.size (fun b hb => (hg0.lt b hb).1), h.ap⟩, ?_⟩
  · obtain ⟨c, z, h6⟩ := owns_blk h.ms e
    exact hk h6 (by decide)
  · obtain ⟨c, z, h6⟩ := owns_blk h.os e
    exact hk h6 (by decide)
  · have : (l ++ [x]).length = l.length + 1 := by simp
    rw [this, ← vals_snoc]
    exact hown

/-- The set stays while Must and Not grow. -/
theorem gv_keep {w0 W W4 : World} {i : Nat} {v gv : Value} {l : List Int} {c5 : Array Value} (ho : W.ownsRow w0.heap.size 3 1 gv l.length (vals l)) (ha : W.heap[w0.heap.size]? = some (.cells c5 26)) (hoth : ∀ b, b < W.heap.size → Oth w0 W b → W4.heap[b]? = W.heap[b]?) : (W4.setCell ⟨w0.heap.size, i, none⟩ v).ownsRow w0.heap.size 3 1 gv l.length (vals l) := by
  have hbut : But w0.heap.size W4 (W4.setCell ⟨w0.heap.size, i, none⟩ v) := (But.refl _ _).setCell i _
  have h4 : W4.ownsRow w0.heap.size 3 1 gv l.length (vals l) := owns_of_blk ho (fun b e => by
    obtain ⟨c, z, h6⟩ := owns_blk ho e
    exact hoth b (Array.getElem?_eq_some_iff.1 h6).1 (Or.inr ⟨_, _, _, h6, by decide⟩))
  have ha4 := (hoth _ (Array.getElem?_eq_some_iff.1 ha).1 (Or.inr ⟨_, _, _, ha, by decide⟩)).trans ha
  exact owns_cells hbut ha4 h4 (by decide)

/-- The end of Single. -/
theorem si_fin2 {w : World} {A : Ax} {w10 w11 Wz : World} {k : Nat} {sv nv mv ov gv : Value} {V : List Value} (h0 : chkA A = 0) (hk : (sgL A k).length = k) (hk2 : k ≤ 2048) (hb10 : Below w.heap.size w w10) (hb11 : Below w10.heap.size w10 w11) (hres : w11.heap[w.heap.size + 1]? = some (.cells nil5 26))
    (hsv : w11.ownsRow w10.heap.size 3 1 sv (cs ((sgS A).map fun p => ix p (sgL A k))).length (vals (cs ((sgS A).map fun p => ix p (sgL A k))))) (hnv : Rws2 w11 w10.heap.size nv k (fun i => (sgX A (nAt (sgL A k) i)).map fun p => ix p (sgL A k)) V)
    (hL : Lq w11 sv nv mv ov (fun i => A.Mu (nAt (sgL A k) i).1) (fun i => A.No (nAt (sgL A k) i).1) k k Wz) (hgv : Wz.ownsRow w11.heap.size 3 1 gv (cs (whN (fun i => sgF A (nAt (sgL A k) i)) k)).length (vals (cs (whN (fun i => sgF A (nAt (sgL A k) i)) k)))) :
    (Wz.alloc (.cells #[gv] 22)).cell? ⟨w11.heap.size, 4, none⟩ = some (.slice none 0 0) ∧ (Wz.alloc (.cells #[gv] 22)).frozen? ⟨w11.heap.size, 4, none⟩ = false ∧
    ∀ W22, (Wz.alloc (.cells #[gv] 22)).setCell ⟨w11.heap.size, 4, none⟩ (.slice (some ⟨Wz.heap.size, 0, none⟩) 1 1) = W22 →
      W22.heap[w11.heap.size]? = some (.cells #[sv, nv, mv, ov, .slice (some ⟨Wz.heap.size, 0, none⟩) 1 1] 26) ∧ W22.heap[w.heap.size + 1]? = some (.cells nil5 26) ∧ w.heap.size + 1 ≠ w11.heap.size ∧
      ∀ X, But (w.heap.size + 1) W22 X → SiIs w A (.returned (.tuple #[.agg #[sv, nv, mv, ov, .slice (some ⟨Wz.heap.size, 0, none⟩) 1 1], .int .i64 0])) X := by
  have hne : w.heap.size + 1 < w11.heap.size := (Array.getElem?_eq_some_iff.1 hres).1
  have hz : Below w11.heap.size w11 Wz := hL.low
  have hbx := box_below Wz (.cells #[gv] 22)
  have hnew : (Wz.alloc (.cells #[gv] 22)).heap[Wz.heap.size]? = some (.cells #[gv] 22) := Go.Deep.blk_alloc_new _ _
  have hL21 := hL.below hbx
  have h21 : Below w11.heap.size w11 (Wz.alloc (.cells #[gv] 22)) := hL21.low
  have hgv2 := owns_below hgv hbx
  generalize Wz.alloc (.cells #[gv] 22) = W21 at *
  obtain ⟨⟨_, _, _, _, c4⟩, hf⟩ := five_cells hL21.aut
  refine ⟨c4, hf 4, ?_⟩
  rintro W22 rfl
  have hbut : But w11.heap.size W21 (W21.setCell ⟨w11.heap.size, 4, none⟩ (.slice (some ⟨Wz.heap.size, 0, none⟩) 1 1)) := (But.refl _ _).setCell 4 _
  have hl20 : Wz.heap.size < W21.heap.size := (Array.getElem?_eq_some_iff.1 hnew).1
  have hres22 : (W21.setCell ⟨w11.heap.size, 4, none⟩ (.slice (some ⟨Wz.heap.size, 0, none⟩) 1 1)).heap[w.heap.size + 1]? = some (.cells nil5 26) := by
    rw [hbut.block _ (Nat.lt_of_lt_of_le hne h21.size) (by omega), h21.block _ hne]; exact hres
  refine ⟨?_, hres22, by omega, fun X hX => ?_⟩
  · have e := blk_setCell (i := 4) (v := .slice (some ⟨Wz.heap.size, 0, none⟩) 1 1) hL21.aut
    simpa using e
  · have hs1 := hb10.size
    have hs2 := hb11.size
    have hs3 := hz.size
    have hs5 : w11.heap.size < Wz.heap.size := (Array.getElem?_eq_some_iff.1 hL.aut).1
    have own : ∀ {base : Nat} {e : TypeId} {v : Value} {m : Nat} {xs : List Value}, W21.ownsRow base e 1 v m xs → e ≠ 26 → w.heap.size ≤ base → X.ownsRow w.heap.size e 1 v m xs := fun {base e v m xs} h1 h2 h3 => owns_mono (owns_cells hX hres22 (owns_cells hbut hL21.aut h1 h2) h2) h3
    have hlow : Below w.heap.size w X := ((hb10.trans (hb11.mono hs1)).trans (h21.mono (show w.heap.size ≤ w11.heap.size by omega))).trans (((hbut.below (Nat.le_refl _) h21.size).mono (show w.heap.size ≤ w11.heap.size by omega)).trans ((hX.below (Nat.le_refl _) (by rw [show (W21.setCell ⟨w11.heap.size, 4, none⟩ (.slice (some ⟨Wz.heap.size, 0, none⟩) 1 1)).heap.size = W21.heap.size by simp]; omega)).mono (show w.heap.size ≤ w.heap.size + 1 by omega)))
    refine Or.inr (Or.inr ⟨h0, k, sv, nv, mv, ov, gv, Wz.heap.size, V, hk, hk2, rfl, hlow, own (owns_below hsv h21) (by decide) hs1, ⟨own (owns_below hnv.top h21) (by decide) hs1, fun i hi => ?_⟩, own hL21.ms (by decide) (by omega), own hL21.os (by decide) (by omega), by omega, ?_, own hgv2 (by decide) (by omega)⟩)
    · obtain ⟨v, h1, h2⟩ := hnv.row i hi
      exact ⟨v, h1, own (owns_below h2 h21) (by decide) hs1⟩
    · refine cell_of_cells (cur := #[gv]) (t := 22) (z := (0, 0)) ?_ rfl
      rw [hX.block _ (by rw [show (W21.setCell ⟨w11.heap.size, 4, none⟩ (.slice (some ⟨Wz.heap.size, 0, none⟩) 1 1)).heap.size = W21.heap.size by simp]; exact hl20) (by omega), hbut.block _ hl20 (by omega)]
      exact hnew

/-- What numbered answers to Single. -/
theorem nb_single {w : World} {A : Ax} {e : Ending} {w' : World} (h : NbIs w (dSt A) (dNx A) e w') :
    (∃ (k : Nat) (pa : Option Addr) (pc : Nat) (fv tv : Value) (V : List Value), e = .returned (.tuple #[.slice pa k pc, fv, tv, .bool true]) ∧ Hid ((sgL A k).length = k ∧ k ≤ 2048 ∧ Below w.heap.size w w' ∧ w'.ownsRow w.heap.size 3 1 fv (cs ((sgS A).map fun p => ix p (sgL A k))).length (vals (cs ((sgS A).map fun p => ix p (sgL A k)))) ∧
      Rws2 w' w.heap.size tv k (fun i => (sgX A (nAt (sgL A k) i)).map fun p => ix p (sgL A k)) V ∧ Sp w' pa k (nAt (sgL A k))))
    ∨ (e = .returned (.tuple #[.slice none 0 0, .slice none 0 0, .slice none 0 0, .bool false]) ∧ Hid ((∃ k, 2048 < (sgL A k).length) ∧ Below w.heap.size w w')) := by
  rcases h with ⟨k, pa, pc, fv, tv, V, rfl, H⟩ | ⟨rfl, H⟩
  · obtain ⟨hk, hk2, hN⟩ := H.out
    rw [dQ_is] at hk hN
    have hf := hN.fro
    rw [dSt_nums] at hf
    refine Or.inl ⟨k, pa, pc, fv, tv, V, rfl, hid ⟨hk, hk2, hN.low, hf, ⟨hN.top, fun i hi => ?_⟩, ?_⟩⟩
    · obtain ⟨v, h1, h2⟩ := hN.row i hi
      rw [dNx_nums hi (by omega)] at h2
      exact ⟨v, h1, h2⟩
    · obtain ⟨a, c, e, hs⟩ := owns_pd hN.own
      rw [hk] at e hs
      cases e
      exact hs
  · refine Or.inr ⟨rfl, hid ⟨?_, H.out.2⟩⟩
    obtain ⟨k, hk⟩ := H.out.1
    exact ⟨k, by rw [← dQ_is]; exact hk⟩

set_option maxRecDepth 100000 in
set_option maxHeartbeats 16000000 in
theorem single7_any (A : Ax) (w : World) (h : Aw w A) (h0 : chkA A = 0) (hsn : A.sn ≤ 1099511627776) (hL : ∀ r, r < A.G → A.L r ≤ 1099511627776) : Calls Try.prog 7 #[A.val] w fun e w' => SiIs w A e w' := by
  show Calls Try.prog 7 #[.agg #[.slice A.sa A.sn A.sc, .slice A.na A.G A.nc, .slice A.ma A.M A.mc, .slice A.oa A.O A.oc, .slice A.fa A.K A.fc]] w _
  obtain ⟨W1, hW1, hb1, hs1, hbo, hres⟩ := sg_world w A
  obtain ⟨W2, hW2, hb2, hs2, y2, yf2, _⟩ := box1 W1 (.int .i64 (A.K : Nat)) 3
  have H := hid h
  have H0 := hid h0
  have HSN := hid hsn
  have HLL := hid hL
  have HB2 : Hid (Below w.heap.size w W2) := hid (hb1.trans (hb2.mono hb1.size))
  have HBO := hid (hbo.below hb2)
  have HRES : Hid (W2.heap[w.heap.size + 1]? = some (.cells nil5 26)) := hid ((hb2.block _ (by omega)).trans hres)
  have hbm : W1.heap.size = w.heap.size + 2 := hs1
  rw [hbm] at y2
  have HY2 := hid y2
  have HSZ : Hid (W2.heap.size = w.heap.size + 3) := hid (by omega)
  obtain ⟨q0, q1, q2, q3, q4⟩ := hbo
  obtain ⟨iu, hi, hz0, hz1, hz2⟩ := info_parts Try.info35
  have HU : Hid (Try.prog.info? 35 = some iu ∧ iu.zero = some (.int .u64 0) ∧ iu.size = 1 ∧ iu.bytes = 8) := ⟨hi, hz0, hz1, hz2⟩
  clear hi hz0 hz1 hz2
  obtain ⟨i5, hi, hz0', hz1, hz2⟩ := info_parts Try.info59
  have HJ : Hid (Try.prog.info? 59 = some i5 ∧ i5.zero = some (.agg #[.int .i64 0, .int .i64 0]) ∧ i5.size = 2 ∧ i5.bytes = 16) := ⟨hi, hz0', hz1, hz2⟩
  clear hi hz0' hz1 hz2
  obtain ⟨i0, hi, hz0, hz1, hz2⟩ := info_parts Try.info3
  have HI : Hid (Try.prog.info? 3 = some i0 ∧ i0.zero = some (.int .i64 0) ∧ i0.size = 1 ∧ i0.bytes = 8) := ⟨hi, hz0, hz1, hz2⟩
  clear hi hz0 hz1 hz2 h h0 hL hb1 hs1 hres hb2 hs2 yf2 y2
  have hmf : ∀ (fn : Fn) (first cap : Array Value) (w : World), (Instr.makeFunc fn first cap).run Try.prog w = .ok (.func fn first cap) w := fun _ _ _ _ => rfl
  go_enter Try.func7, Try.ntmps7
  go_wp2
  go_loopw [5, 6] (fun v i wr => ∃ j : Nat, j ≤ A.sn ∧ i = .int .i64 j ∧ Hid (Below W2.heap.size W2 wr ∧ wr.ownsRow W2.heap.size 59 2 v j (pcells ((List.range j).map fun i => ((A.S i).toNat, 0))))) (fun _ i _ => A.sn - (intOf i).toNat)
  case atStart => exact ⟨0, Nat.zero_le _, rfl, hid ⟨Below.refl _ _, World.ownsRow_nil _ _ _ _⟩⟩
  case round =>
    obtain ⟨j, hj, rfl, HA⟩ := hrel
    clear q0 q1 q2 q3 q4
    have hbo2 := HBO.out.below HA.out.1
    obtain ⟨t0, t1, t2, t3, t4⟩ := hbo2
    obtain ⟨va, vc, hv⟩ := owns_sl HA.out.2
    subst hv
    have hws := HA.out.1.size
    by_cases hlt : j < A.sn
    · obtain ⟨sb, so, hsa, hsc⟩ := ((H.out.below HB2.out).start).below HA.out.1
      have hs := hsc j hlt
      rw [hsa (by omega)] at t0
      obtain ⟨z, hz⟩ : ∃ z : Nat, A.S j = z := ⟨(A.S j).toNat, by have := (chkA_ok H0.out).2.2.2.2.1 j hlt; omega⟩
      rw [hz] at hs
      have HZE := hid hz
      clear hz hsa hsc t1 t2 t3 t4
      go_wp2_with (at_builtin; refine wpList_append_own_at _ rfl _ _ 58 rfl W2.heap.size 59 i5 (.agg #[.int .i64 0, .int .i64 0]) 2 16 Try.underlying58 HJ.out.1 HJ.out.2.1 HJ.out.2.2.1 HJ.out.2.2.2 rfl (by decide) _ _ _ rfl (HA.out.2.alloc _) ⟨wr.heap.size, 0, none⟩ 1 1 [.int .i64 (z : Nat), .int .i64 0] rfl rfl (World.news_of_block (w := wr.alloc (.cells #[.int .i64 (z : Nat), .int .i64 0] 59)) (cs := #[.int .i64 (z : Nat), .int .i64 0]) (t := 59) (fr := (0, 0)) (Go.Deep.blk_alloc_new _ _)) (by simp [Value.oneCell']) (by unfold maxLen; omega) (by omega) (by simp; omega) ?_; intro v' w3 hown' hgrow hnil hloc; have G := hid (pd_grow2 (z := z) (kw := 0) (Z := A.S) HA.out.1 HA.out.2 (by rw [HZE.out]; rfl) hown' hgrow); clear hown' hgrow hnil hloc)
      go_roundw
      case rel => exact ⟨j + 1, by omega, by go_num, G⟩
      case measure => simp [intOf]; omega
    · have hje : j = A.sn := by omega
      have hown : wr.ownsRow W2.heap.size 59 2 (.slice va j vc) (dSt A).length (pcells (dSt A)) := by
        rw [dSt_len, ← hje]
        have := HA.out.2
        unfold dSt
        rw [← hje]
        exact this
      obtain ⟨va', vc', hve, hsp⟩ := owns_pd hown
      have hva : va' = va := by cases hve; rfl
      subst hva
      rw [dSt_len, ← hje] at hsp
      have hw0 : Below w.heap.size w wr := HB2.out.trans (HA.out.1.mono HB2.out.size)
      have hm : wr.cell? ⟨w.heap.size + 2, 0, none⟩ = some (.int .i64 (A.K : Nat)) := below_cell HA.out.1 (Nat.le_refl _) HY2.out
      have C24 := hid (numbered_any va' j vc (dSt A) (dNx A) (sgP A) (.pointer (some ⟨w.heap.size + 2, 0, none⟩)) (.pointer (some ⟨w.heap.size, 0, none⟩)) wr (by rw [dSt_len]; exact hje) hsp (fun p hp => by
          subst hp
          rcases HA.out.2.2 with ⟨e, _⟩ | ⟨g, cap, cur, e, hg, hh, _⟩
          · cases e
          · cases e
            exact (Array.getElem?_eq_some_iff.1 hh).1) (dSt_ok H0.out) (dNx_ok H0.out) (fun p hp => sgP_sml H0.out hp) (by omega) (fun p hp => by rw [dNx_len hp.1]; exact HLL.out _ hp.1)
          (fun p u hu hp => s25_any A (w.heap.size + 2) w.heap.size p wr u (H.out.below hw0) H0.out HLL.out hm (HBO.out.below HA.out.1) hu hp))
      have HW0 := hid hw0
      have HRES2 : Hid (wr.heap[w.heap.size + 1]? = some (.cells nil5 26)) := hid ((HA.out.1.block _ (by rw [HSZ.out]; omega)).trans HRES.out)
      have HM := hid hm
      have HBO3 := hid (HBO.out.below HA.out.1)
      have HJE1 := hid hje
      clear hown hve hsp hw0 hm t1 t2 t3 t4 hje
      go_wp2_with fail
      refine C24.out.mono ?_
      rintro e w11 hN
      obtain ⟨w10, hw10⟩ : ∃ w10, wr = w10 := ⟨_, rfl⟩
      subst hw10
      rcases nb_single hN with ⟨k, pa, pc, fv, tv, V, rfl, HG⟩ | ⟨rfl, HG⟩
      · clear hN C24
        obtain ⟨sa1, sc1, hsv⟩ := owns_sl HG.out.2.2.2.1
        obtain ⟨na1, nc1, hnv⟩ := owns_sl HG.out.2.2.2.2.1.top
        obtain ⟨sn1, hsn1⟩ : ∃ n, (cs ((sgS A).map fun p => ix p (sgL A k))).length = n := ⟨_, rfl⟩
        rw [hsn1] at hsv
        clear hsn1
        subst hsv
        subst hnv
        obtain ⟨Mf, hMf⟩ : ∃ Mf : Nat → Nat, (fun i => A.Mu (nAt (sgL A k) i).1) = Mf := ⟨_, rfl⟩
        obtain ⟨Nf, hNf⟩ : ∃ Nf : Nat → Nat, (fun i => A.No (nAt (sgL A k) i).1) = Nf := ⟨_, rfl⟩
        obtain ⟨Pf, hPf⟩ : ∃ Pf : Nat → Bool, (fun i => sgF A (nAt (sgL A k) i)) = Pf := ⟨_, rfl⟩
        have hk2 := HG.out.2.1
        have HRES11 : Hid (w11.heap[w.heap.size + 1]? = some (.cells nil5 26)) := hid ((HG.out.2.2.1.block _ (Array.getElem?_eq_some_iff.1 HRES2.out).1).trans HRES2.out)
        have HBO11 := hid (HBO3.out.below HG.out.2.2.1)
        have HM11 : Hid (w11.cell? ⟨w.heap.size + 2, 0, none⟩ = some (.int .i64 (A.K : Nat))) := hid (below_cell HG.out.2.2.1 (Nat.le_refl _) HM.out)
        have HW11 : Hid (Below w.heap.size w w11) := hid (HW0.out.trans (HG.out.2.2.1.mono HW0.out.size))
        have HLs := lq_start w11 (.slice sa1 sn1 sc1) (.slice na1 k nc1) Mf Nf
        have HLS := hid (And.intro HLs (World.ownsRow_nil (w11.alloc (.cells (two5 (.slice sa1 sn1 sc1) (.slice na1 k nc1)) 26)) w11.heap.size 3 1))
        have HMN := hid (And.intro hMf (And.intro hNf hPf))
        clear HLs hMf hNf hPf HBO HRES HY2 HM HBO3
        go_wp2
        generalize w11.alloc (.cells (two5 (.slice sa1 sn1 sc1) (.slice na1 k nc1)) 26) = W12 at *
        go_loopw [12, 13] (fun gv i wr => ∃ (j : Nat) (mv ov : Value), j ≤ k ∧ i = .int .i64 j ∧ Hid (Lq w11 (.slice sa1 sn1 sc1) (.slice na1 k nc1) mv ov Mf Nf j j wr ∧ wr.ownsRow w11.heap.size 3 1 gv (cs (whN Pf j)).length (vals (cs (whN Pf j))))) (fun _ i _ => k - (intOf i).toNat)
        case atStart => exact ⟨0, _, _, Nat.zero_le _, rfl, HLS⟩
        case round =>
          obtain ⟨j, mv, ov, hj2, rfl, HLq⟩ := hrel
          clear HLS
          obtain ⟨⟨m1, hmv⟩, ⟨m2, hov⟩⟩ := And.intro (owns_sl HLq.out.1.ms) (owns_sl HLq.out.1.os)
          obtain ⟨c1, hmv⟩ := hmv
          obtain ⟨c2, hov⟩ := hov
          obtain ⟨g0, gc, hgv⟩ := owns_sl HLq.out.2
          obtain ⟨gn, hgn⟩ : ∃ n, (cs (whN Pf j)).length = n := ⟨_, rfl⟩
          rw [hgn] at hgv
          subst hmv
          subst hov
          subst hgv
          have hBo := HBO11.out
          obtain ⟨pb, hpa, hpc⟩ := HG.out.2.2.2.2.2
          by_cases hlt : j < k
          · obtain rfl := hpa (by omega)
            obtain ⟨z1, z2⟩ := hpc j hlt
            have hP : sgP A (nAt (sgL A k) j) := sgL_all H0.out k _ (nAt_mem (by have := HG.out.1; omega))
            have hMj : Mf j = A.Mu (nAt (sgL A k) j).1 := by rw [← HMN.out.1]
            have hNj : Nf j = A.No (nAt (sgL A k) j).1 := by rw [← HMN.out.2.1]
            have hPj : Pf j = sgF A ((nAt (sgL A k) j).1, (nAt (sgL A k) j).2) := by rw [← HMN.out.2.2]
            obtain ⟨mb, mo, hma, hmc⟩ := (H.out.below HW11.out).must
            obtain ⟨ob, oo, hoa, hoc⟩ := (H.out.below HW11.out).nots
            obtain ⟨_, _, hMG, hOG, _⟩ := chkA_ok H0.out
            have hp1 := hP.1
            have zm := hmc (nAt (sgL A k) j).1 (by omega)
            have zo := hoc (nAt (sgL A k) j).1 (by omega)
            dsimp only at zm zo
            rw [← hMj] at zm
            rw [← hNj] at zo
            have b2 := hBo.r2
            have b3 := hBo.r3
            rw [hma (by omega)] at b2
            rw [hoa (by omega)] at b3
            have hwl : w.heap.size < w11.heap.size := World.block_lt_of_cell? _ _ b2
            have hmb : mb < w11.heap.size := World.block_lt_of_cell? _ _ zm
            have hob : ob < w11.heap.size := World.block_lt_of_cell? _ _ zo
            have hpb : pb < w11.heap.size := World.block_lt_of_cell? _ _ z1
            have hpM : (nAt (sgL A k) j).1 < A.M := by omega
            have hpO : (nAt (sgL A k) j).1 < A.O := by omega
            clear hMG hOG
            generalize (nAt (sgL A k) j).1 = px at *
            generalize (nAt (sgL A k) j).2 = py at *
            have HLW := hid HLq.out.1
            have HGV := hid HLq.out.2
            have HZ := hid (And.intro zm (And.intro zo (And.intro b2 (And.intro b3 (And.intro z1 z2)))))
            have HPJ := hid (And.intro hPj (And.intro hP hgn))
            obtain ⟨WW, hWW⟩ : ∃ WW, wr = WW := ⟨_, rfl⟩
            subst hWW
            have hc2 : wr.cell? ⟨w11.heap.size, 2, none⟩ = some (.slice m1 j c1) := cell_of_cells HLW.out.aut rfl
            have wl := HLW.out.low
            have zm1 := below_cell' wl hmb zm
            have b21 := below_cell' wl hwl b2
            have z11 := below_cell' wl hpb z1
            have hsW2 : w11.heap.size ≤ wr.heap.size := wl.size
            have hUb : (wr.alloc (.cells #[.int .u64 ((Mf j : Nat) : Int)] 35)).heap[wr.heap.size]? = some (.cells #[.int .u64 ((Mf j : Nat) : Int)] 35) := Go.Deep.blk_alloc_new _ _
            have HOW : Hid (((wr.alloc (.cells #[.int .u64 ((Mf j : Nat) : Int)] 35)).drew).ownsRow w11.heap.size 35 1 (.slice m1 j c1) j (vu Mf j)) := hid ((HLW.out.ms.alloc _).drew)
            have hS0 : (fun z : World => z.cell? ⟨w11.heap.size, 2, none⟩ = some (.slice m1 j c1) ∧ z.cell? ⟨w.heap.size, 2, none⟩ = some (.slice (some ⟨mb, mo, none⟩) A.M A.mc) ∧ z.cell? ⟨pb, j * 2, none⟩ = some (.int .i64 (px : Nat)) ∧ z.cell? ⟨mb, mo + px, none⟩ = some (.int .u64 ((Mf j : Nat) : Int))) wr.drew := ⟨hc2, b21, z11, zm1⟩
            have hS1 : (fun z : World => z.cell? ⟨w11.heap.size, 2, none⟩ = some (.slice m1 j c1) ∧ z.cell? ⟨w.heap.size, 2, none⟩ = some (.slice (some ⟨mb, mo, none⟩) A.M A.mc) ∧ z.cell? ⟨pb, j * 2, none⟩ = some (.int .i64 (px : Nat)) ∧ z.cell? ⟨mb, mo + px, none⟩ = some (.int .u64 ((Mf j : Nat) : Int))) (wr.alloc (.cells #[.int .u64 ((Mf j : Nat) : Int)] 35)).drew := ⟨cell_alloc1 _ hc2, cell_alloc1 _ b21, cell_alloc1 _ z11, cell_alloc1 _ zm1⟩
            clear z1 z2 hpc hMj hNj hma hmc hoa hoc hP hBo zm zo b2 b3 hpa hPj HLq hgn
            go_wp2_with fail
            refine G_region (fun z : World => z.cell? ⟨w11.heap.size, 2, none⟩ = some (.slice m1 j c1) ∧ z.cell? ⟨w.heap.size, 2, none⟩ = some (.slice (some ⟨mb, mo, none⟩) A.M A.mc) ∧ z.cell? ⟨pb, j * 2, none⟩ = some (.int .i64 (px : Nat)) ∧ z.cell? ⟨mb, mo + px, none⟩ = some (.int .u64 ((Mf j : Nat) : Int))) (fun i => i == 14) (by kernel_rfl) hS0 (fun _ => ?_)
            refine G_take (i := 0) (oi := { dst := some 53, op := Op.fieldAddr 26 (Operand.tmp 11) 2, type := 0, pos := _, after := #[], guard := none }) (v := .pointer (some ⟨w11.heap.size, 2, none⟩)) rfl (by kernel_rfl) (by kernel_rfl) (by kernel_rfl) (by kernel_rfl) (fun _ _ _ h => h) (by rfl) (fun u hu => ?_) hS0 ?_
            · (try dsimp only at hu); go_simp
            (try simp only [Act.put, List.setIfInBounds_toArray, List.set_cons_zero, List.set_cons_succ])
            refine G_take (i := 1) (oi := { dst := some 54, op := Op.load 24 (Operand.tmp 53), type := 24, pos := _, after := #[{ on := 0, ground := Ground.data }], guard := none }) (v := .slice m1 j c1) rfl (by kernel_rfl) (by kernel_rfl) (by kernel_rfl) (by kernel_rfl) (fun _ _ _ h => h) (by rfl) (fun u hu => ?_) hS0 ?_
            · (try dsimp only at hu); go_simp
            (try simp only [Act.put, List.setIfInBounds_toArray, List.set_cons_zero, List.set_cons_succ])
            refine G_take (i := 2) (oi := { dst := some 55, op := Op.fieldAddr 26 (Operand.tmp 1) 2, type := 0, pos := _, after := #[], guard := none }) (v := .pointer (some ⟨w.heap.size, 2, none⟩)) rfl (by kernel_rfl) (by kernel_rfl) (by kernel_rfl) (by kernel_rfl) (fun _ _ _ h => h) (by rfl) (fun u hu => ?_) hS0 ?_
            · (try dsimp only at hu); go_simp
            (try simp only [Act.put, List.setIfInBounds_toArray, List.set_cons_zero, List.set_cons_succ])
            refine G_take (i := 3) (oi := { dst := some 56, op := Op.load 24 (Operand.tmp 55), type := 24, pos := _, after := #[{ on := 2, ground := Ground.data }], guard := none }) (v := .slice (some ⟨mb, mo, none⟩) A.M A.mc) rfl (by kernel_rfl) (by kernel_rfl) (by kernel_rfl) (by kernel_rfl) (fun _ _ _ h => h) (by rfl) (fun u hu => ?_) hS0 ?_
            · (try dsimp only at hu); go_simp
            (try simp only [Act.put, List.setIfInBounds_toArray, List.set_cons_zero, List.set_cons_succ])
            refine G_take (i := 4) (oi := { dst := some 57, op := Op.move (Operand.tmp 7), type := 58, pos := _, after := #[], guard := none }) (v := .slice (some ⟨pb, 0, none⟩) k pc) rfl (by kernel_rfl) (by kernel_rfl) (by kernel_rfl) (by kernel_rfl) (fun _ _ _ h => h) (by rfl) (fun u hu => ?_) hS0 ?_
            · (try dsimp only at hu); go_simp
            (try simp only [Act.put, List.setIfInBounds_toArray, List.set_cons_zero, List.set_cons_succ])
            refine G_take (i := 5) (oi := { dst := some 58, op := Op.move (Operand.tmp 13), type := 3, pos := _, after := #[], guard := none }) (v := .int .i64 (j : Nat)) rfl (by kernel_rfl) (by kernel_rfl) (by kernel_rfl) (by kernel_rfl) (fun _ _ _ h => h) (by rfl) (fun u hu => ?_) hS0 ?_
            · (try dsimp only at hu); go_simp
            (try simp only [Act.put, List.setIfInBounds_toArray, List.set_cons_zero, List.set_cons_succ])
            refine G_take (i := 6) (oi := { dst := some 59, op := Op.indexAddr 58 (Operand.tmp 57) (Operand.tmp 58), type := 0, pos := _, after := #[{ on := 4, ground := Ground.data }, { on := 5, ground := Ground.data }], guard := none }) (v := .pointer (some ⟨pb, j * 2, none⟩)) rfl (by kernel_rfl) (by kernel_rfl) (by kernel_rfl) (by kernel_rfl) (fun _ _ _ h => h) (by rfl) (fun u hu => ?_) hS0 ?_
            · (try dsimp only at hu); go_simp
            (try simp only [Act.put, List.setIfInBounds_toArray, List.set_cons_zero, List.set_cons_succ])
            refine G_take (i := 7) (oi := { dst := some 60, op := Op.indexAddr 59 (Operand.tmp 59) (Operand.const (Value.int IntKind.i64 0)), type := 0, pos := _, after := #[{ on := 6, ground := Ground.data }], guard := none }) (v := .pointer (some ⟨pb, j * 2, none⟩)) rfl (by kernel_rfl) (by kernel_rfl) (by kernel_rfl) (by kernel_rfl) (fun _ _ _ h => h) (by rfl) (fun u hu => ?_) hS0 ?_
            · (try dsimp only at hu); go_simp
            (try simp only [Act.put, List.setIfInBounds_toArray, List.set_cons_zero, List.set_cons_succ])
            refine G_take (i := 8) (oi := { dst := some 61, op := Op.load 3 (Operand.tmp 60), type := 3, pos := _, after := #[{ on := 7, ground := Ground.data }], guard := none }) (v := .int .i64 (px : Nat)) rfl (by kernel_rfl) (by kernel_rfl) (by kernel_rfl) (by kernel_rfl) (fun _ _ _ h => h) (by rfl) (fun u hu => ?_) hS0 ?_
            · (try dsimp only at hu); go_simp
            (try simp only [Act.put, List.setIfInBounds_toArray, List.set_cons_zero, List.set_cons_succ])
            refine G_take (i := 9) (oi := { dst := some 62, op := Op.indexAddr 24 (Operand.tmp 56) (Operand.tmp 61), type := 0, pos := _, after := #[{ on := 3, ground := Ground.data }, { on := 8, ground := Ground.data }], guard := none }) (v := .pointer (some ⟨mb, mo + px, none⟩)) rfl (by kernel_rfl) (by kernel_rfl) (by kernel_rfl) (by kernel_rfl) (fun _ _ _ h => h) (by rfl) (fun u hu => ?_) hS0 ?_
            · (try dsimp only at hu); go_simp
            (try simp only [Act.put, List.setIfInBounds_toArray, List.set_cons_zero, List.set_cons_succ])
            refine G_take (i := 10) (oi := { dst := some 63, op := Op.load 35 (Operand.tmp 62), type := 35, pos := _, after := #[{ on := 9, ground := Ground.data }], guard := none }) (v := .int .u64 ((Mf j : Nat) : Int)) rfl (by kernel_rfl) (by kernel_rfl) (by kernel_rfl) (by kernel_rfl) (fun _ _ _ h => h) (by rfl) (fun u hu => ?_) hS0 ?_
            · (try dsimp only at hu); go_simp
            (try simp only [Act.put, List.setIfInBounds_toArray, List.set_cons_zero, List.set_cons_succ])
            refine G_step (i := 11) (o := { dst := some 64, op := Op.buildSlice 24 1 #[(0, Operand.tmp 63)], type := 24, pos := _, after := #[{ on := 10, ground := Ground.data }], guard := none }) (by kernel_rfl) rfl (fun K' hK => ?_)
            go_simp
            refine hK.out _ _ (fun _ => hS1) (fun _ => ?_)
            (try simp only [Act.put, List.setIfInBounds_toArray, List.set_cons_zero, List.set_cons_succ])
            refine G_step (i := 12) (o := { dst := some 65, op := Op.call { callee := Callee.builtin Builtin.append, args := #[Operand.tmp 54, Operand.tmp 64], argTypes := #[24, 24] }, type := 24, pos := _, after := #[{ on := 1, ground := Ground.data }, { on := 11, ground := Ground.data }], guard := none }) (by kernel_rfl) rfl (fun K' hK => ?_)
            refine step_append_lies _ (by rfl) _ _ _ (by rfl) w11.heap.size 35 iu _ 1 8 Try.underlying24 HU.out.1 HU.out.2.1 HU.out.2.2.1 HU.out.2.2.2 rfl (by omega) (.slice m1 j c1) j (vu Mf j) (by rfl) (HOW.out) ⟨wr.heap.size, 0, none⟩ 1 1 [.int .u64 ((Mf j : Nat) : Int)] (by rfl) (by rfl) (World.news_of_block (w := (wr.alloc (.cells #[.int .u64 ((Mf j : Nat) : Int)] 35)).drew) (cs := #[.int .u64 ((Mf j : Nat) : Int)]) (t := 35) (fr := (0, 0)) hUb) (by simp [Value.oneCell']) (by omega) (by unfold maxLen; omega) (by omega) (by simp; omega) (wr.heap.size + 1) (by simp) ?_
            intro g cap w4 hown4 hgrow4 hat4 hlt4
            have hgr : (wr.alloc (.cells #[.int .u64 ((Mf j : Nat) : Int)] 35)).grownBy w4 (Value.slice m1 j c1).ownBlock := ⟨hgrow4.os, hgrow4.tape, hgrow4.output, hgrow4.size, hgrow4.block⟩
            obtain ⟨hoth, hfz, HL4, hbut⟩ := HLW.out.must (mv' := .slice (some ⟨g, 0, none⟩) (j + 1) cap) hown4 hgr (hat4.imp (fun e => by rw [e]; simp [Value.ownBlock]) (fun e => by rw [e]; simp [Value.ownBlock]))
            have HG4 := hid (gv_keep (i := 2) (v := .slice (some ⟨g, 0, none⟩) (j + 1) cap) HGV.out HLW.out.aut hoth)
            have s4 : (fun z : World => z.cell? ⟨w11.heap.size, 2, none⟩ = some (.slice m1 j c1) ∧ z.cell? ⟨w.heap.size, 2, none⟩ = some (.slice (some ⟨mb, mo, none⟩) A.M A.mc) ∧ z.cell? ⟨pb, j * 2, none⟩ = some (.int .i64 (px : Nat)) ∧ z.cell? ⟨mb, mo + px, none⟩ = some (.int .u64 ((Mf j : Nat) : Int))) w4 := ⟨oth_cell hoth (Or.inr ⟨_, _, _, HLW.out.aut, by decide⟩) hc2, oth_cell hoth (Or.inl hwl) b21, oth_cell hoth (Or.inl hpb) z11, oth_cell hoth (Or.inl hmb) zm1⟩
            have HL4' := hid HL4
            have hs4 := s4.1
            clear hown4 hgrow4 hgr hat4 hlt4 hoth HL4 hUb HOW hS1
            refine hK.out _ _ (fun _ => s4) (fun _ => ?_)
            (try simp only [Act.put, List.setIfInBounds_toArray, List.set_cons_zero, List.set_cons_succ])
            refine G_step (i := 13) (o := { dst := some 66, op := Op.fieldAddr 26 (Operand.tmp 11) 2, type := 0, pos := _, after := #[{ on := 0, ground := Ground.phase }, { on := 1, ground := Ground.phase }, { on := 2, ground := Ground.phase }, { on := 3, ground := Ground.phase }, { on := 4, ground := Ground.phase }, { on := 5, ground := Ground.phase }, { on := 6, ground := Ground.phase }, { on := 7, ground := Ground.phase }, { on := 8, ground := Ground.phase }, { on := 9, ground := Ground.phase }, { on := 10, ground := Ground.phase }, { on := 11, ground := Ground.phase }, { on := 12, ground := Ground.phase }], guard := none }) (by kernel_rfl) rfl (fun K' hK => ?_)
            go_simp
            refine hK.out _ _ (fun _ => s4) (fun _ => ?_)
            (try simp only [Act.put, List.setIfInBounds_toArray, List.set_cons_zero, List.set_cons_succ])
            refine G_step (i := 14) (o := { dst := none, op := Op.store 24 (Operand.tmp 66) (Operand.tmp 65), type := 0, pos := _, after := #[{ on := 13, ground := Ground.data }, { on := 12, ground := Ground.data }, { on := 12, ground := Ground.chain }, { on := 0, ground := Ground.phase }, { on := 1, ground := Ground.phase }, { on := 2, ground := Ground.phase }, { on := 3, ground := Ground.phase }, { on := 4, ground := Ground.phase }, { on := 5, ground := Ground.phase }, { on := 6, ground := Ground.phase }, { on := 7, ground := Ground.phase }, { on := 8, ground := Ground.phase }, { on := 9, ground := Ground.phase }, { on := 10, ground := Ground.phase }, { on := 11, ground := Ground.phase }, { on := 12, ground := Ground.phase }], guard := none }) (by kernel_rfl) rfl (fun K' hK => ?_)
            go_simp
            refine hK.out _ _ (fun h => absurd h (by decide)) (fun _ => ?_)
            (try simp only [Act.put, List.setIfInBounds_toArray, List.set_cons_zero, List.set_cons_succ])
            refine G_done (by kernel_rfl) ?_ _
            (try dsimp only [Exit.then])
            clear s4 hs4 hfz hS0 hc2 zm1 b21 z11 hbut HLW HGV wl
            generalize w4.setCell ⟨w11.heap.size, 2, none⟩ (.slice (some ⟨g, 0, none⟩) (j + 1) cap) = W5' at *
            have wl := HL4'.out.low
            have hc3 : W5'.cell? ⟨w11.heap.size, 3, none⟩ = some (.slice m2 j c2) := cell_of_cells HL4'.out.aut rfl
            have zo1 := below_cell' wl hob HZ.out.2.1
            have b31 := below_cell' wl hwl HZ.out.2.2.2.1
            have z11 := below_cell' wl hpb HZ.out.2.2.2.2.1
            have hs5 : w11.heap.size ≤ W5'.heap.size := wl.size
            have hUb : (W5'.alloc (.cells #[.int .u64 ((Nf j : Nat) : Int)] 35)).heap[W5'.heap.size]? = some (.cells #[.int .u64 ((Nf j : Nat) : Int)] 35) := Go.Deep.blk_alloc_new _ _
            have HOW : Hid (((W5'.alloc (.cells #[.int .u64 ((Nf j : Nat) : Int)] 35)).drew).ownsRow w11.heap.size 35 1 (.slice m2 j c2) j (vu Nf j)) := hid ((HL4'.out.os.alloc _).drew)
            have hS0 : (fun z : World => z.cell? ⟨w11.heap.size, 3, none⟩ = some (.slice m2 j c2) ∧ z.cell? ⟨w.heap.size, 3, none⟩ = some (.slice (some ⟨ob, oo, none⟩) A.O A.oc) ∧ z.cell? ⟨pb, j * 2, none⟩ = some (.int .i64 (px : Nat)) ∧ z.cell? ⟨ob, oo + px, none⟩ = some (.int .u64 ((Nf j : Nat) : Int))) W5'.drew := ⟨hc3, b31, z11, zo1⟩
            have hS1 : (fun z : World => z.cell? ⟨w11.heap.size, 3, none⟩ = some (.slice m2 j c2) ∧ z.cell? ⟨w.heap.size, 3, none⟩ = some (.slice (some ⟨ob, oo, none⟩) A.O A.oc) ∧ z.cell? ⟨pb, j * 2, none⟩ = some (.int .i64 (px : Nat)) ∧ z.cell? ⟨ob, oo + px, none⟩ = some (.int .u64 ((Nf j : Nat) : Int))) (W5'.alloc (.cells #[.int .u64 ((Nf j : Nat) : Int)] 35)).drew := ⟨cell_alloc1 _ hc3, cell_alloc1 _ b31, cell_alloc1 _ z11, cell_alloc1 _ zo1⟩
            go_wp2_with fail
            refine G_region (fun z : World => z.cell? ⟨w11.heap.size, 3, none⟩ = some (.slice m2 j c2) ∧ z.cell? ⟨w.heap.size, 3, none⟩ = some (.slice (some ⟨ob, oo, none⟩) A.O A.oc) ∧ z.cell? ⟨pb, j * 2, none⟩ = some (.int .i64 (px : Nat)) ∧ z.cell? ⟨ob, oo + px, none⟩ = some (.int .u64 ((Nf j : Nat) : Int))) (fun i => i == 14) (by kernel_rfl) hS0 (fun _ => ?_)
            refine G_take (i := 0) (oi := { dst := some 67, op := Op.fieldAddr 26 (Operand.tmp 11) 3, type := 0, pos := _, after := #[], guard := none }) (v := .pointer (some ⟨w11.heap.size, 3, none⟩)) rfl (by kernel_rfl) (by kernel_rfl) (by kernel_rfl) (by kernel_rfl) (fun _ _ _ h => h) (by rfl) (fun u hu => ?_) hS0 ?_
            · (try dsimp only at hu); go_simp
            (try simp only [Act.put, List.setIfInBounds_toArray, List.set_cons_zero, List.set_cons_succ])
            refine G_take (i := 1) (oi := { dst := some 68, op := Op.load 24 (Operand.tmp 67), type := 24, pos := _, after := #[{ on := 0, ground := Ground.data }], guard := none }) (v := .slice m2 j c2) rfl (by kernel_rfl) (by kernel_rfl) (by kernel_rfl) (by kernel_rfl) (fun _ _ _ h => h) (by rfl) (fun u hu => ?_) hS0 ?_
            · (try dsimp only at hu); go_simp
            (try simp only [Act.put, List.setIfInBounds_toArray, List.set_cons_zero, List.set_cons_succ])
            refine G_take (i := 2) (oi := { dst := some 69, op := Op.fieldAddr 26 (Operand.tmp 1) 3, type := 0, pos := _, after := #[], guard := none }) (v := .pointer (some ⟨w.heap.size, 3, none⟩)) rfl (by kernel_rfl) (by kernel_rfl) (by kernel_rfl) (by kernel_rfl) (fun _ _ _ h => h) (by rfl) (fun u hu => ?_) hS0 ?_
            · (try dsimp only at hu); go_simp
            (try simp only [Act.put, List.setIfInBounds_toArray, List.set_cons_zero, List.set_cons_succ])
            refine G_take (i := 3) (oi := { dst := some 70, op := Op.load 24 (Operand.tmp 69), type := 24, pos := _, after := #[{ on := 2, ground := Ground.data }], guard := none }) (v := .slice (some ⟨ob, oo, none⟩) A.O A.oc) rfl (by kernel_rfl) (by kernel_rfl) (by kernel_rfl) (by kernel_rfl) (fun _ _ _ h => h) (by rfl) (fun u hu => ?_) hS0 ?_
            · (try dsimp only at hu); go_simp
            (try simp only [Act.put, List.setIfInBounds_toArray, List.set_cons_zero, List.set_cons_succ])
            refine G_take (i := 4) (oi := { dst := some 71, op := Op.move (Operand.tmp 7), type := 58, pos := _, after := #[], guard := none }) (v := .slice (some ⟨pb, 0, none⟩) k pc) rfl (by kernel_rfl) (by kernel_rfl) (by kernel_rfl) (by kernel_rfl) (fun _ _ _ h => h) (by rfl) (fun u hu => ?_) hS0 ?_
            · (try dsimp only at hu); go_simp
            (try simp only [Act.put, List.setIfInBounds_toArray, List.set_cons_zero, List.set_cons_succ])
            refine G_take (i := 5) (oi := { dst := some 72, op := Op.move (Operand.tmp 13), type := 3, pos := _, after := #[], guard := none }) (v := .int .i64 (j : Nat)) rfl (by kernel_rfl) (by kernel_rfl) (by kernel_rfl) (by kernel_rfl) (fun _ _ _ h => h) (by rfl) (fun u hu => ?_) hS0 ?_
            · (try dsimp only at hu); go_simp
            (try simp only [Act.put, List.setIfInBounds_toArray, List.set_cons_zero, List.set_cons_succ])
            refine G_take (i := 6) (oi := { dst := some 73, op := Op.indexAddr 58 (Operand.tmp 71) (Operand.tmp 72), type := 0, pos := _, after := #[{ on := 4, ground := Ground.data }, { on := 5, ground := Ground.data }], guard := none }) (v := .pointer (some ⟨pb, j * 2, none⟩)) rfl (by kernel_rfl) (by kernel_rfl) (by kernel_rfl) (by kernel_rfl) (fun _ _ _ h => h) (by rfl) (fun u hu => ?_) hS0 ?_
            · (try dsimp only at hu); go_simp
            (try simp only [Act.put, List.setIfInBounds_toArray, List.set_cons_zero, List.set_cons_succ])
            refine G_take (i := 7) (oi := { dst := some 74, op := Op.indexAddr 59 (Operand.tmp 73) (Operand.const (Value.int IntKind.i64 0)), type := 0, pos := _, after := #[{ on := 6, ground := Ground.data }], guard := none }) (v := .pointer (some ⟨pb, j * 2, none⟩)) rfl (by kernel_rfl) (by kernel_rfl) (by kernel_rfl) (by kernel_rfl) (fun _ _ _ h => h) (by rfl) (fun u hu => ?_) hS0 ?_
            · (try dsimp only at hu); go_simp
            (try simp only [Act.put, List.setIfInBounds_toArray, List.set_cons_zero, List.set_cons_succ])
            refine G_take (i := 8) (oi := { dst := some 75, op := Op.load 3 (Operand.tmp 74), type := 3, pos := _, after := #[{ on := 7, ground := Ground.data }], guard := none }) (v := .int .i64 (px : Nat)) rfl (by kernel_rfl) (by kernel_rfl) (by kernel_rfl) (by kernel_rfl) (fun _ _ _ h => h) (by rfl) (fun u hu => ?_) hS0 ?_
            · (try dsimp only at hu); go_simp
            (try simp only [Act.put, List.setIfInBounds_toArray, List.set_cons_zero, List.set_cons_succ])
            refine G_take (i := 9) (oi := { dst := some 76, op := Op.indexAddr 24 (Operand.tmp 70) (Operand.tmp 75), type := 0, pos := _, after := #[{ on := 3, ground := Ground.data }, { on := 8, ground := Ground.data }], guard := none }) (v := .pointer (some ⟨ob, oo + px, none⟩)) rfl (by kernel_rfl) (by kernel_rfl) (by kernel_rfl) (by kernel_rfl) (fun _ _ _ h => h) (by rfl) (fun u hu => ?_) hS0 ?_
            · (try dsimp only at hu); go_simp
            (try simp only [Act.put, List.setIfInBounds_toArray, List.set_cons_zero, List.set_cons_succ])
            refine G_take (i := 10) (oi := { dst := some 77, op := Op.load 35 (Operand.tmp 76), type := 35, pos := _, after := #[{ on := 9, ground := Ground.data }], guard := none }) (v := .int .u64 ((Nf j : Nat) : Int)) rfl (by kernel_rfl) (by kernel_rfl) (by kernel_rfl) (by kernel_rfl) (fun _ _ _ h => h) (by rfl) (fun u hu => ?_) hS0 ?_
            · (try dsimp only at hu); go_simp
            (try simp only [Act.put, List.setIfInBounds_toArray, List.set_cons_zero, List.set_cons_succ])
            refine G_step (i := 11) (o := { dst := some 78, op := Op.buildSlice 24 1 #[(0, Operand.tmp 77)], type := 24, pos := _, after := #[{ on := 10, ground := Ground.data }], guard := none }) (by kernel_rfl) rfl (fun K' hKB => ?_)
            go_simp
            refine hKB.out _ _ (fun _ => hS1) (fun _ => ?_)
            (try simp only [Act.put, List.setIfInBounds_toArray, List.set_cons_zero, List.set_cons_succ])
            refine G_step (i := 12) (o := { dst := some 79, op := Op.call { callee := Callee.builtin Builtin.append, args := #[Operand.tmp 68, Operand.tmp 78], argTypes := #[24, 24] }, type := 24, pos := _, after := #[{ on := 1, ground := Ground.data }, { on := 11, ground := Ground.data }], guard := none }) (by kernel_rfl) rfl (fun K' hKB => ?_)
            refine step_append_lies _ (by rfl) _ _ _ (by rfl) w11.heap.size 35 iu _ 1 8 Try.underlying24 HU.out.1 HU.out.2.1 HU.out.2.2.1 HU.out.2.2.2 rfl (by omega) (.slice m2 j c2) j (vu Nf j) (by rfl) (HOW.out) ⟨W5'.heap.size, 0, none⟩ 1 1 [.int .u64 ((Nf j : Nat) : Int)] (by rfl) (by rfl) (World.news_of_block (w := (W5'.alloc (.cells #[.int .u64 ((Nf j : Nat) : Int)] 35)).drew) (cs := #[.int .u64 ((Nf j : Nat) : Int)]) (t := 35) (fr := (0, 0)) hUb) (by simp [Value.oneCell']) (by omega) (by unfold maxLen; omega) (by omega) (by simp; omega) (W5'.heap.size + 1) (by simp) ?_
            intro g2 cap2 w6 hown4 hgrow4 hat4 hlt4
            have hgr : (W5'.alloc (.cells #[.int .u64 ((Nf j : Nat) : Int)] 35)).grownBy w6 (Value.slice m2 j c2).ownBlock := ⟨hgrow4.os, hgrow4.tape, hgrow4.output, hgrow4.size, hgrow4.block⟩
            obtain ⟨hoth, hfz, HL6, _⟩ := HL4'.out.nots (ov' := .slice (some ⟨g2, 0, none⟩) (j + 1) cap2) hown4 hgr (hat4.imp (fun e => by rw [e]; simp [Value.ownBlock]) (fun e => by rw [e]; simp [Value.ownBlock]))
            have HG6 := hid (gv_keep (i := 3) (v := .slice (some ⟨g2, 0, none⟩) (j + 1) cap2) HG4.out HL4'.out.aut hoth)
            have s4 : (fun z : World => z.cell? ⟨w11.heap.size, 3, none⟩ = some (.slice m2 j c2) ∧ z.cell? ⟨w.heap.size, 3, none⟩ = some (.slice (some ⟨ob, oo, none⟩) A.O A.oc) ∧ z.cell? ⟨pb, j * 2, none⟩ = some (.int .i64 (px : Nat)) ∧ z.cell? ⟨ob, oo + px, none⟩ = some (.int .u64 ((Nf j : Nat) : Int))) w6 := ⟨oth_cell hoth (Or.inr ⟨_, _, _, HL4'.out.aut, by decide⟩) hc3, oth_cell hoth (Or.inl hwl) b31, oth_cell hoth (Or.inl hpb) z11, oth_cell hoth (Or.inl hob) zo1⟩
            have HL6' := hid HL6
            have hs4 := s4.1
            clear hown4 hgrow4 hgr hat4 hlt4 hoth HL6 hUb HOW hS1
            refine hKB.out _ _ (fun _ => s4) (fun _ => ?_)
            (try simp only [Act.put, List.setIfInBounds_toArray, List.set_cons_zero, List.set_cons_succ])
            refine G_step (i := 13) (o := { dst := some 80, op := Op.fieldAddr 26 (Operand.tmp 11) 3, type := 0, pos := _, after := #[{ on := 0, ground := Ground.phase }, { on := 1, ground := Ground.phase }, { on := 2, ground := Ground.phase }, { on := 3, ground := Ground.phase }, { on := 4, ground := Ground.phase }, { on := 5, ground := Ground.phase }, { on := 6, ground := Ground.phase }, { on := 7, ground := Ground.phase }, { on := 8, ground := Ground.phase }, { on := 9, ground := Ground.phase }, { on := 10, ground := Ground.phase }, { on := 11, ground := Ground.phase }, { on := 12, ground := Ground.phase }], guard := none }) (by kernel_rfl) rfl (fun K' hKB => ?_)
            go_simp
            refine hKB.out _ _ (fun _ => s4) (fun _ => ?_)
            (try simp only [Act.put, List.setIfInBounds_toArray, List.set_cons_zero, List.set_cons_succ])
            refine G_step (i := 14) (o := { dst := none, op := Op.store 24 (Operand.tmp 80) (Operand.tmp 79), type := 0, pos := _, after := #[{ on := 13, ground := Ground.data }, { on := 12, ground := Ground.data }, { on := 12, ground := Ground.chain }, { on := 0, ground := Ground.phase }, { on := 1, ground := Ground.phase }, { on := 2, ground := Ground.phase }, { on := 3, ground := Ground.phase }, { on := 4, ground := Ground.phase }, { on := 5, ground := Ground.phase }, { on := 6, ground := Ground.phase }, { on := 7, ground := Ground.phase }, { on := 8, ground := Ground.phase }, { on := 9, ground := Ground.phase }, { on := 10, ground := Ground.phase }, { on := 11, ground := Ground.phase }, { on := 12, ground := Ground.phase }], guard := none }) (by kernel_rfl) rfl (fun K' hKB => ?_)
            go_simp
            refine hKB.out _ _ (fun h => absurd h (by decide)) (fun _ => ?_)
            (try simp only [Act.put, List.setIfInBounds_toArray, List.set_cons_zero, List.set_cons_succ])
            refine G_done (by kernel_rfl) ?_ _
            (try dsimp only [Exit.then])
            clear s4 hs4 hfz hS0 hc3 zo1 b31 z11 HL4' HG4 wl
            generalize w6.setCell ⟨w11.heap.size, 3, none⟩ (.slice (some ⟨g2, 0, none⟩) (j + 1) cap2) = W7' at *
            have wl := HL6'.out.low
            have hs7 := wl.size
            have z11 := below_cell' wl hpb HZ.out.2.2.2.2.1
            have z21 := below_cell' wl hpb HZ.out.2.2.2.2.2
            have zk := below_cell' wl (World.block_lt_of_cell? _ _ HM11.out) HM11.out
            have zf := below_cell' wl hwl HBO11.out.r4
            have HOG : Hid ((W7'.ownsRow w11.heap.size 3 1 (.slice g0 gn gc) (cs (whN Pf j)).length (vals (cs (whN Pf j))))) := hid HG6.out
            have hgl : gn ≤ 2048 := by rw [← HPJ.out.2.2, cs_len]; have := whN_len Pf j; omega
            have HEF : Hid (Pf j = false → W7'.ownsRow w11.heap.size 3 1 (.slice g0 gn gc) (cs (whN Pf (j + 1))).length (vals (cs (whN Pf (j + 1))))) := hid (fun e => by rw [whN_succ, e]; exact HOG.out)
            have HET : Hid (∀ (W3 : World) (v' : Value) (o : Obj), Pf j = true → W3.ownsRow w11.heap.size 3 1 v' ((cs (whN Pf j)).length + 1) (vals (cs (whN Pf j)) ++ [.int .i64 (j : Nat)]) → (W7'.drew.alloc o).grownBy W3 (Value.slice g0 gn gc).ownBlock → Lq w11 (.slice sa1 sn1 sc1) (.slice na1 k nc1) (.slice (some ⟨g, 0, none⟩) (j + 1) cap) (.slice (some ⟨g2, 0, none⟩) (j + 1) cap2) Mf Nf (j + 1) (j + 1) W3 ∧ W3.ownsRow w11.heap.size 3 1 v' (cs (whN Pf (j + 1))).length (vals (cs (whN Pf (j + 1))))) := hid (fun W3 v' o e h1 h2 => by
              have hb : Below W7'.heap.size W7' W7'.drew := (Below.refl _ _).drew
              have := (HL6'.out.below hb).num (owns_below HOG.out hb) h1 h2
              rw [whN_succ, e, if_pos rfl, cs_snoc]
              exact this)
            by_cases hpy : py = 0
            · have hq2 : (((py : Nat) : Int) == 0) = true := by rw [hpy]; rfl
              have HPY := hid hpy
              clear hpy
              by_cases hK : A.K = 0
              · have g1 : (((A.K : Nat) : Int) == 0) = true := by rw [hK]; rfl
                have HPE : Hid (Pf j = true) := hid (by rw [HPJ.out.1]; unfold sgF; simp [HPY.out, hK])
                have hS0 : (fun z : World => z.cell? ⟨pb, j * 2 + 1, none⟩ = some (.int .i64 (py : Nat)) ∧ z.cell? ⟨w.heap.size + 2, 0, none⟩ = some (.int .i64 (A.K : Nat))) W7'.drew := ⟨z21, zk⟩
                clear hK
                go_wp2_with fail
                refine G_region (fun z : World => z.cell? ⟨pb, j * 2 + 1, none⟩ = some (.int .i64 (py : Nat)) ∧ z.cell? ⟨w.heap.size + 2, 0, none⟩ = some (.int .i64 (A.K : Nat))) (fun _ => false) (by kernel_rfl) hS0 (fun _ => ?_)
                refine G_take (i := 0) (oi := { dst := some 81, op := Op.move (Operand.tmp 7), type := 58, pos := _, after := #[], guard := none }) (v := .slice (some ⟨pb, 0, none⟩) k pc) rfl (by kernel_rfl) (by kernel_rfl) (by kernel_rfl) (by kernel_rfl) (fun _ _ _ h => h) (by rfl) (fun u hu => ?_) hS0 ?_
                · (try dsimp only at hu); go_simp
                (try simp only [Act.put, List.setIfInBounds_toArray, List.set_cons_zero, List.set_cons_succ])
                refine G_take (i := 1) (oi := { dst := some 82, op := Op.move (Operand.tmp 13), type := 3, pos := _, after := #[], guard := none }) (v := .int .i64 (j : Nat)) rfl (by kernel_rfl) (by kernel_rfl) (by kernel_rfl) (by kernel_rfl) (fun _ _ _ h => h) (by rfl) (fun u hu => ?_) hS0 ?_
                · (try dsimp only at hu); go_simp
                (try simp only [Act.put, List.setIfInBounds_toArray, List.set_cons_zero, List.set_cons_succ])
                refine G_take (i := 2) (oi := { dst := some 83, op := Op.indexAddr 58 (Operand.tmp 81) (Operand.tmp 82), type := 0, pos := _, after := #[{ on := 0, ground := Ground.data }, { on := 1, ground := Ground.data }], guard := none }) (v := .pointer (some ⟨pb, j * 2, none⟩)) rfl (by kernel_rfl) (by kernel_rfl) (by kernel_rfl) (by kernel_rfl) (fun _ _ _ h => h) (by rfl) (fun u hu => ?_) hS0 ?_
                · (try dsimp only at hu); go_simp
                (try simp only [Act.put, List.setIfInBounds_toArray, List.set_cons_zero, List.set_cons_succ])
                refine G_take (i := 3) (oi := { dst := some 84, op := Op.indexAddr 59 (Operand.tmp 83) (Operand.const (Value.int IntKind.i64 1)), type := 0, pos := _, after := #[{ on := 2, ground := Ground.data }], guard := none }) (v := .pointer (some ⟨pb, j * 2 + 1, none⟩)) rfl (by kernel_rfl) (by kernel_rfl) (by kernel_rfl) (by kernel_rfl) (fun _ _ _ h => h) (by rfl) (fun u hu => ?_) hS0 ?_
                · (try dsimp only at hu); go_simp
                (try simp only [Act.put, List.setIfInBounds_toArray, List.set_cons_zero, List.set_cons_succ])
                refine G_take (i := 4) (oi := { dst := some 85, op := Op.load 3 (Operand.tmp 84), type := 3, pos := _, after := #[{ on := 3, ground := Ground.data }], guard := none }) (v := .int .i64 (py : Nat)) rfl (by kernel_rfl) (by kernel_rfl) (by kernel_rfl) (by kernel_rfl) (fun _ _ _ h => h) (by rfl) (fun u hu => ?_) hS0 ?_
                · (try dsimp only at hu); go_simp
                (try simp only [Act.put, List.setIfInBounds_toArray, List.set_cons_zero, List.set_cons_succ])
                refine G_take (i := 5) (oi := { dst := some 86, op := Op.binOp BinOp.eql 3 (Operand.tmp 85) (Operand.const (Value.int IntKind.i64 0)) 3, type := 4, pos := _, after := #[{ on := 4, ground := Ground.data }], guard := none }) (v := .bool true) rfl (by kernel_rfl) (by kernel_rfl) (by kernel_rfl) (by kernel_rfl) (fun _ _ _ h => h) (by rfl) (fun u hu => ?_) hS0 ?_
                · (try dsimp only at hu); go_simp
                (try simp only [Act.put, List.setIfInBounds_toArray, List.set_cons_zero, List.set_cons_succ])
                refine G_take (i := 6) (oi := { dst := some 87, op := Op.move (Operand.tmp 86), type := 4, pos := _, after := #[{ on := 5, ground := Ground.data }], guard := none }) (v := .bool true) rfl (by kernel_rfl) (by kernel_rfl) (by kernel_rfl) (by kernel_rfl) (fun _ _ _ h => h) (by rfl) (fun u hu => ?_) hS0 ?_
                · (try dsimp only at hu); go_simp
                (try simp only [Act.put, List.setIfInBounds_toArray, List.set_cons_zero, List.set_cons_succ])
                refine G_take (i := 7) (oi := { dst := some 88, op := Op.load 3 (Operand.tmp 4), type := 3, pos := _, after := #[{ on := 6, ground := Ground.guard }], guard := some (6, true) }) (v := .int .i64 (A.K : Nat)) rfl (by kernel_rfl) (by kernel_rfl) (by kernel_rfl) (by kernel_rfl) (fun _ _ _ h => h) (by rfl) (fun u hu => ?_) hS0 ?_
                · (try dsimp only at hu); go_simp
                (try simp only [Act.put, List.setIfInBounds_toArray, List.set_cons_zero, List.set_cons_succ])
                refine G_take (i := 8) (oi := { dst := some 89, op := Op.binOp BinOp.eql 3 (Operand.tmp 88) (Operand.const (Value.int IntKind.i64 0)) 3, type := 4, pos := _, after := #[{ on := 7, ground := Ground.data }, { on := 6, ground := Ground.guard }], guard := some (6, true) }) (v := .bool true) rfl (by kernel_rfl) (by kernel_rfl) (by kernel_rfl) (by kernel_rfl) (fun _ _ _ h => h) (by rfl) (fun u hu => ?_) hS0 ?_
                · (try dsimp only at hu); go_simp
                (try simp only [Act.put, List.setIfInBounds_toArray, List.set_cons_zero, List.set_cons_succ])
                refine G_take (i := 9) (oi := { dst := some 90, op := Op.move (Operand.tmp 89), type := 4, pos := _, after := #[{ on := 8, ground := Ground.data }, { on := 6, ground := Ground.chain }, { on := 6, ground := Ground.guard }], guard := some (6, true) }) (v := .bool true) rfl (by kernel_rfl) (by kernel_rfl) (by kernel_rfl) (by kernel_rfl) (fun _ _ _ h => h) (by rfl) (fun u hu => ?_) hS0 ?_
                · (try dsimp only at hu); go_simp
                (try simp only [Act.put, List.setIfInBounds_toArray, List.set_cons_zero, List.set_cons_succ])
                refine G_skip (i := 10) (oi := { dst := some 91, op := Op.fieldAddr 26 (Operand.tmp 1) 4, type := 0, pos := _, after := #[{ on := 9, ground := Ground.guard }], guard := some (9, false) }) rfl (by kernel_rfl) (by kernel_rfl) (by kernel_rfl) (by kernel_rfl) (fun _ _ _ h => h) (by rfl) hS0 ?_
                (try simp only [Act.put, List.setIfInBounds_toArray, List.set_cons_zero, List.set_cons_succ])
                refine G_skip (i := 11) (oi := { dst := some 92, op := Op.load 23 (Operand.tmp 91), type := 23, pos := _, after := #[{ on := 10, ground := Ground.data }, { on := 9, ground := Ground.guard }], guard := some (9, false) }) rfl (by kernel_rfl) (by kernel_rfl) (by kernel_rfl) (by kernel_rfl) (fun _ _ _ h => h) (by rfl) hS0 ?_
                (try simp only [Act.put, List.setIfInBounds_toArray, List.set_cons_zero, List.set_cons_succ])
                refine G_skip (i := 12) (oi := { dst := some 93, op := Op.indexAddr 23 (Operand.tmp 92) (Operand.const (Value.int IntKind.i64 0)), type := 0, pos := _, after := #[{ on := 11, ground := Ground.data }, { on := 9, ground := Ground.guard }], guard := some (9, false) }) rfl (by kernel_rfl) (by kernel_rfl) (by kernel_rfl) (by kernel_rfl) (fun _ _ _ h => h) (by rfl) hS0 ?_
                (try simp only [Act.put, List.setIfInBounds_toArray, List.set_cons_zero, List.set_cons_succ])
                refine G_skip (i := 13) (oi := { dst := some 94, op := Op.load 22 (Operand.tmp 93), type := 22, pos := _, after := #[{ on := 12, ground := Ground.data }, { on := 9, ground := Ground.guard }], guard := some (9, false) }) rfl (by kernel_rfl) (by kernel_rfl) (by kernel_rfl) (by kernel_rfl) (fun _ _ _ h => h) (by rfl) hS0 ?_
                (try simp only [Act.put, List.setIfInBounds_toArray, List.set_cons_zero, List.set_cons_succ])
                refine G_skip (i := 14) (oi := { dst := some 95, op := Op.move (Operand.tmp 7), type := 58, pos := _, after := #[{ on := 9, ground := Ground.guard }], guard := some (9, false) }) rfl (by kernel_rfl) (by kernel_rfl) (by kernel_rfl) (by kernel_rfl) (fun _ _ _ h => h) (by rfl) hS0 ?_
                (try simp only [Act.put, List.setIfInBounds_toArray, List.set_cons_zero, List.set_cons_succ])
                refine G_skip (i := 15) (oi := { dst := some 96, op := Op.move (Operand.tmp 13), type := 3, pos := _, after := #[{ on := 9, ground := Ground.guard }], guard := some (9, false) }) rfl (by kernel_rfl) (by kernel_rfl) (by kernel_rfl) (by kernel_rfl) (fun _ _ _ h => h) (by rfl) hS0 ?_
                (try simp only [Act.put, List.setIfInBounds_toArray, List.set_cons_zero, List.set_cons_succ])
                refine G_skip (i := 16) (oi := { dst := some 97, op := Op.indexAddr 58 (Operand.tmp 95) (Operand.tmp 96), type := 0, pos := _, after := #[{ on := 14, ground := Ground.data }, { on := 15, ground := Ground.data }, { on := 9, ground := Ground.guard }], guard := some (9, false) }) rfl (by kernel_rfl) (by kernel_rfl) (by kernel_rfl) (by kernel_rfl) (fun _ _ _ h => h) (by rfl) hS0 ?_
                (try simp only [Act.put, List.setIfInBounds_toArray, List.set_cons_zero, List.set_cons_succ])
                refine G_skip (i := 17) (oi := { dst := some 98, op := Op.indexAddr 59 (Operand.tmp 97) (Operand.const (Value.int IntKind.i64 0)), type := 0, pos := _, after := #[{ on := 16, ground := Ground.data }, { on := 9, ground := Ground.guard }], guard := some (9, false) }) rfl (by kernel_rfl) (by kernel_rfl) (by kernel_rfl) (by kernel_rfl) (fun _ _ _ h => h) (by rfl) hS0 ?_
                (try simp only [Act.put, List.setIfInBounds_toArray, List.set_cons_zero, List.set_cons_succ])
                refine G_skip (i := 18) (oi := { dst := some 99, op := Op.load 3 (Operand.tmp 98), type := 3, pos := _, after := #[{ on := 17, ground := Ground.data }, { on := 9, ground := Ground.guard }], guard := some (9, false) }) rfl (by kernel_rfl) (by kernel_rfl) (by kernel_rfl) (by kernel_rfl) (fun _ _ _ h => h) (by rfl) hS0 ?_
                (try simp only [Act.put, List.setIfInBounds_toArray, List.set_cons_zero, List.set_cons_succ])
                refine G_skip (i := 19) (oi := { dst := some 100, op := Op.call { callee := Callee.value (Operand.func 26), args := #[Operand.tmp 94, Operand.tmp 99], argTypes := #[22, 3] }, type := 4, pos := _, after := #[{ on := 13, ground := Ground.data }, { on := 18, ground := Ground.data }, { on := 9, ground := Ground.chain }, { on := 9, ground := Ground.guard }], guard := some (9, false) }) rfl (by kernel_rfl) (by kernel_rfl) (by kernel_rfl) (by kernel_rfl) (fun _ _ _ h => h) (by rfl) hS0 ?_
                (try simp only [Act.put, List.setIfInBounds_toArray, List.set_cons_zero, List.set_cons_succ])
                refine G_take (i := 20) (oi := { dst := some 101, op := Op.pick (Operand.tmp 90) (Operand.const (Value.bool true)) (Operand.tmp 100), type := 4, pos := _, after := #[{ on := 9, ground := Ground.data }, { on := 19, ground := Ground.data }, { on := 6, ground := Ground.guard }], guard := some (6, true) }) (v := .bool true) rfl (by kernel_rfl) (by kernel_rfl) (by kernel_rfl) (by kernel_rfl) (fun _ _ _ h => h) (by rfl) (fun u hu => ?_) hS0 ?_
                · (try dsimp only at hu); go_simp
                (try simp only [Act.put, List.setIfInBounds_toArray, List.set_cons_zero, List.set_cons_succ])
                refine G_take (i := 21) (oi := { dst := some 102, op := Op.pick (Operand.tmp 87) (Operand.tmp 101) (Operand.const (Value.bool false)), type := 4, pos := _, after := #[{ on := 6, ground := Ground.data }, { on := 20, ground := Ground.data }], guard := none }) (v := .bool true) rfl (by kernel_rfl) (by kernel_rfl) (by kernel_rfl) (by kernel_rfl) (fun _ _ _ h => h) (by rfl) (fun u hu => ?_) hS0 ?_
                · (try dsimp only at hu); go_simp
                (try simp only [Act.put, List.setIfInBounds_toArray, List.set_cons_zero, List.set_cons_succ])
                refine G_done (by kernel_rfl) ?_ _
                (try dsimp only [Exit.then])
                have HON : Hid (W7'.drew.ownsRow w11.heap.size 3 1 (.slice g0 gn gc) gn (vals (cs (whN Pf j)))) := hid (by have := owns_below HOG.out (Below.refl _ _).drew; rw [HPJ.out.2.2] at this; exact this)
                have hds : W7'.drew.heap.size = W7'.heap.size := rfl
                go_wp2_with (at_builtin; refine wpList_append_own_at _ rfl _ _ 22 rfl w11.heap.size 3 i0 (.int .i64 0) 1 8 Try.underlying22 HI.out.1 HI.out.2.1 HI.out.2.2.1 HI.out.2.2.2 rfl (by decide) _ _ _ rfl (HON.out.alloc _) ⟨W7'.heap.size, 0, none⟩ 1 1 [.int .i64 (j : Nat)] rfl rfl (cell_one_new _ _ _) (ints_oneCell .i64 [(j : Int)]) (by unfold maxLen; omega) (by omega) (by simp; omega) ?_; intro v' w3 hown' hgrow hnil hloc; have G := hid (HET.out _ _ _ HPE.out (by rw [HPJ.out.2.2]; exact hown') hgrow); clear hown' hgrow hnil hloc)
                go_roundw
                case rel => exact ⟨j + 1, _, _, by omega, by go_num, G⟩
                case measure => simp [intOf]; omega
              · have g1 : (((A.K : Nat) : Int) == 0) = false := beq_eq_false_iff_ne.2 (by omega)
                have hK0 : 0 < A.K := by omega
                obtain ⟨fb, fo, hfa, hfc⟩ := (H.out.below HW11.out).fair
                obtain ⟨ra, rc, hfk, hrow⟩ := hfc 0 hK0
                rw [Nat.add_zero] at hfk
                rw [hfa hK0] at zf
                have zr := below_cell' wl (World.block_lt_of_cell? _ _ hfk) hfk
                have hrow2 := hrow.below (show Below w11.heap.size w11 W7'.drew from wl.trans ((Below.refl W7'.heap.size W7').drew.mono hs7))
                obtain ⟨fq, hfq⟩ : ∃ fq, aFr A 0 px = fq := ⟨_, rfl⟩
                have CI : Hid (Calls Try.prog 26 #[.slice ra (A.FL 0) rc, .int .i64 ((px : Nat) : Int)] W7'.drew fun e w' => e = .returned (.bool fq) ∧ w' = W7'.drew) := hid (by
                  rw [← hfq]
                  exact conI ra (A.FL 0) rc (A.FZ 0) (px : Nat) W7'.drew (H.out.f47 0 hK0) hrow2)
                have HPE : Hid (Pf j = fq) := hid (by rw [HPJ.out.1]; unfold sgF; rw [hfq]; simp [HPY.out, hK])
                have hS0 : (fun z : World => z.cell? ⟨pb, j * 2 + 1, none⟩ = some (.int .i64 (py : Nat)) ∧ z.cell? ⟨w.heap.size + 2, 0, none⟩ = some (.int .i64 (A.K : Nat)) ∧ z.cell? ⟨w.heap.size, 4, none⟩ = some (.slice (some ⟨fb, fo, none⟩) A.K A.fc) ∧ z.cell? ⟨fb, fo, none⟩ = some (.slice ra (A.FL 0) rc) ∧ z.cell? ⟨pb, j * 2, none⟩ = some (.int .i64 (px : Nat))) W7'.drew := ⟨z21, zk, zf, zr, z11⟩
                clear hK hfa hfc hfk hrow hrow2 hfq
                cases fq
                · go_wp2_with fail
                  refine G_region (fun z : World => z.cell? ⟨pb, j * 2 + 1, none⟩ = some (.int .i64 (py : Nat)) ∧ z.cell? ⟨w.heap.size + 2, 0, none⟩ = some (.int .i64 (A.K : Nat)) ∧ z.cell? ⟨w.heap.size, 4, none⟩ = some (.slice (some ⟨fb, fo, none⟩) A.K A.fc) ∧ z.cell? ⟨fb, fo, none⟩ = some (.slice ra (A.FL 0) rc) ∧ z.cell? ⟨pb, j * 2, none⟩ = some (.int .i64 (px : Nat))) (fun _ => false) (by kernel_rfl) hS0 (fun _ => ?_)
                  refine G_take (i := 0) (oi := { dst := some 81, op := Op.move (Operand.tmp 7), type := 58, pos := _, after := #[], guard := none }) (v := .slice (some ⟨pb, 0, none⟩) k pc) rfl (by kernel_rfl) (by kernel_rfl) (by kernel_rfl) (by kernel_rfl) (fun _ _ _ h => h) (by rfl) (fun u hu => ?_) hS0 ?_
                  · (try dsimp only at hu); go_simp
                  (try simp only [Act.put, List.setIfInBounds_toArray, List.set_cons_zero, List.set_cons_succ])
                  refine G_take (i := 1) (oi := { dst := some 82, op := Op.move (Operand.tmp 13), type := 3, pos := _, after := #[], guard := none }) (v := .int .i64 (j : Nat)) rfl (by kernel_rfl) (by kernel_rfl) (by kernel_rfl) (by kernel_rfl) (fun _ _ _ h => h) (by rfl) (fun u hu => ?_) hS0 ?_
                  · (try dsimp only at hu); go_simp
                  (try simp only [Act.put, List.setIfInBounds_toArray, List.set_cons_zero, List.set_cons_succ])
                  refine G_take (i := 2) (oi := { dst := some 83, op := Op.indexAddr 58 (Operand.tmp 81) (Operand.tmp 82), type := 0, pos := _, after := #[{ on := 0, ground := Ground.data }, { on := 1, ground := Ground.data }], guard := none }) (v := .pointer (some ⟨pb, j * 2, none⟩)) rfl (by kernel_rfl) (by kernel_rfl) (by kernel_rfl) (by kernel_rfl) (fun _ _ _ h => h) (by rfl) (fun u hu => ?_) hS0 ?_
                  · (try dsimp only at hu); go_simp
                  (try simp only [Act.put, List.setIfInBounds_toArray, List.set_cons_zero, List.set_cons_succ])
                  refine G_take (i := 3) (oi := { dst := some 84, op := Op.indexAddr 59 (Operand.tmp 83) (Operand.const (Value.int IntKind.i64 1)), type := 0, pos := _, after := #[{ on := 2, ground := Ground.data }], guard := none }) (v := .pointer (some ⟨pb, j * 2 + 1, none⟩)) rfl (by kernel_rfl) (by kernel_rfl) (by kernel_rfl) (by kernel_rfl) (fun _ _ _ h => h) (by rfl) (fun u hu => ?_) hS0 ?_
                  · (try dsimp only at hu); go_simp
                  (try simp only [Act.put, List.setIfInBounds_toArray, List.set_cons_zero, List.set_cons_succ])
                  refine G_take (i := 4) (oi := { dst := some 85, op := Op.load 3 (Operand.tmp 84), type := 3, pos := _, after := #[{ on := 3, ground := Ground.data }], guard := none }) (v := .int .i64 (py : Nat)) rfl (by kernel_rfl) (by kernel_rfl) (by kernel_rfl) (by kernel_rfl) (fun _ _ _ h => h) (by rfl) (fun u hu => ?_) hS0 ?_
                  · (try dsimp only at hu); go_simp
                  (try simp only [Act.put, List.setIfInBounds_toArray, List.set_cons_zero, List.set_cons_succ])
                  refine G_take (i := 5) (oi := { dst := some 86, op := Op.binOp BinOp.eql 3 (Operand.tmp 85) (Operand.const (Value.int IntKind.i64 0)) 3, type := 4, pos := _, after := #[{ on := 4, ground := Ground.data }], guard := none }) (v := .bool true) rfl (by kernel_rfl) (by kernel_rfl) (by kernel_rfl) (by kernel_rfl) (fun _ _ _ h => h) (by rfl) (fun u hu => ?_) hS0 ?_
                  · (try dsimp only at hu); go_simp
                  (try simp only [Act.put, List.setIfInBounds_toArray, List.set_cons_zero, List.set_cons_succ])
                  refine G_take (i := 6) (oi := { dst := some 87, op := Op.move (Operand.tmp 86), type := 4, pos := _, after := #[{ on := 5, ground := Ground.data }], guard := none }) (v := .bool true) rfl (by kernel_rfl) (by kernel_rfl) (by kernel_rfl) (by kernel_rfl) (fun _ _ _ h => h) (by rfl) (fun u hu => ?_) hS0 ?_
                  · (try dsimp only at hu); go_simp
                  (try simp only [Act.put, List.setIfInBounds_toArray, List.set_cons_zero, List.set_cons_succ])
                  refine G_take (i := 7) (oi := { dst := some 88, op := Op.load 3 (Operand.tmp 4), type := 3, pos := _, after := #[{ on := 6, ground := Ground.guard }], guard := some (6, true) }) (v := .int .i64 (A.K : Nat)) rfl (by kernel_rfl) (by kernel_rfl) (by kernel_rfl) (by kernel_rfl) (fun _ _ _ h => h) (by rfl) (fun u hu => ?_) hS0 ?_
                  · (try dsimp only at hu); go_simp
                  (try simp only [Act.put, List.setIfInBounds_toArray, List.set_cons_zero, List.set_cons_succ])
                  refine G_take (i := 8) (oi := { dst := some 89, op := Op.binOp BinOp.eql 3 (Operand.tmp 88) (Operand.const (Value.int IntKind.i64 0)) 3, type := 4, pos := _, after := #[{ on := 7, ground := Ground.data }, { on := 6, ground := Ground.guard }], guard := some (6, true) }) (v := .bool false) rfl (by kernel_rfl) (by kernel_rfl) (by kernel_rfl) (by kernel_rfl) (fun _ _ _ h => h) (by rfl) (fun u hu => ?_) hS0 ?_
                  · (try dsimp only at hu); go_simp
                  (try simp only [Act.put, List.setIfInBounds_toArray, List.set_cons_zero, List.set_cons_succ])
                  refine G_take (i := 9) (oi := { dst := some 90, op := Op.move (Operand.tmp 89), type := 4, pos := _, after := #[{ on := 8, ground := Ground.data }, { on := 6, ground := Ground.chain }, { on := 6, ground := Ground.guard }], guard := some (6, true) }) (v := .bool false) rfl (by kernel_rfl) (by kernel_rfl) (by kernel_rfl) (by kernel_rfl) (fun _ _ _ h => h) (by rfl) (fun u hu => ?_) hS0 ?_
                  · (try dsimp only at hu); go_simp
                  (try simp only [Act.put, List.setIfInBounds_toArray, List.set_cons_zero, List.set_cons_succ])
                  refine G_take (i := 10) (oi := { dst := some 91, op := Op.fieldAddr 26 (Operand.tmp 1) 4, type := 0, pos := _, after := #[{ on := 9, ground := Ground.guard }], guard := some (9, false) }) (v := .pointer (some ⟨w.heap.size, 4, none⟩)) rfl (by kernel_rfl) (by kernel_rfl) (by kernel_rfl) (by kernel_rfl) (fun _ _ _ h => h) (by rfl) (fun u hu => ?_) hS0 ?_
                  · (try dsimp only at hu); go_simp
                  (try simp only [Act.put, List.setIfInBounds_toArray, List.set_cons_zero, List.set_cons_succ])
                  refine G_take (i := 11) (oi := { dst := some 92, op := Op.load 23 (Operand.tmp 91), type := 23, pos := _, after := #[{ on := 10, ground := Ground.data }, { on := 9, ground := Ground.guard }], guard := some (9, false) }) (v := .slice (some ⟨fb, fo, none⟩) A.K A.fc) rfl (by kernel_rfl) (by kernel_rfl) (by kernel_rfl) (by kernel_rfl) (fun _ _ _ h => h) (by rfl) (fun u hu => ?_) hS0 ?_
                  · (try dsimp only at hu); go_simp
                  (try simp only [Act.put, List.setIfInBounds_toArray, List.set_cons_zero, List.set_cons_succ])
                  refine G_take (i := 12) (oi := { dst := some 93, op := Op.indexAddr 23 (Operand.tmp 92) (Operand.const (Value.int IntKind.i64 0)), type := 0, pos := _, after := #[{ on := 11, ground := Ground.data }, { on := 9, ground := Ground.guard }], guard := some (9, false) }) (v := .pointer (some ⟨fb, fo, none⟩)) rfl (by kernel_rfl) (by kernel_rfl) (by kernel_rfl) (by kernel_rfl) (fun _ _ _ h => h) (by rfl) (fun u hu => ?_) hS0 ?_
                  · (try dsimp only at hu); go_simp
                  (try simp only [Act.put, List.setIfInBounds_toArray, List.set_cons_zero, List.set_cons_succ])
                  refine G_take (i := 13) (oi := { dst := some 94, op := Op.load 22 (Operand.tmp 93), type := 22, pos := _, after := #[{ on := 12, ground := Ground.data }, { on := 9, ground := Ground.guard }], guard := some (9, false) }) (v := .slice ra (A.FL 0) rc) rfl (by kernel_rfl) (by kernel_rfl) (by kernel_rfl) (by kernel_rfl) (fun _ _ _ h => h) (by rfl) (fun u hu => ?_) hS0 ?_
                  · (try dsimp only at hu); go_simp
                  (try simp only [Act.put, List.setIfInBounds_toArray, List.set_cons_zero, List.set_cons_succ])
                  refine G_take (i := 14) (oi := { dst := some 95, op := Op.move (Operand.tmp 7), type := 58, pos := _, after := #[{ on := 9, ground := Ground.guard }], guard := some (9, false) }) (v := .slice (some ⟨pb, 0, none⟩) k pc) rfl (by kernel_rfl) (by kernel_rfl) (by kernel_rfl) (by kernel_rfl) (fun _ _ _ h => h) (by rfl) (fun u hu => ?_) hS0 ?_
                  · (try dsimp only at hu); go_simp
                  (try simp only [Act.put, List.setIfInBounds_toArray, List.set_cons_zero, List.set_cons_succ])
                  refine G_take (i := 15) (oi := { dst := some 96, op := Op.move (Operand.tmp 13), type := 3, pos := _, after := #[{ on := 9, ground := Ground.guard }], guard := some (9, false) }) (v := .int .i64 (j : Nat)) rfl (by kernel_rfl) (by kernel_rfl) (by kernel_rfl) (by kernel_rfl) (fun _ _ _ h => h) (by rfl) (fun u hu => ?_) hS0 ?_
                  · (try dsimp only at hu); go_simp
                  (try simp only [Act.put, List.setIfInBounds_toArray, List.set_cons_zero, List.set_cons_succ])
                  refine G_take (i := 16) (oi := { dst := some 97, op := Op.indexAddr 58 (Operand.tmp 95) (Operand.tmp 96), type := 0, pos := _, after := #[{ on := 14, ground := Ground.data }, { on := 15, ground := Ground.data }, { on := 9, ground := Ground.guard }], guard := some (9, false) }) (v := .pointer (some ⟨pb, j * 2, none⟩)) rfl (by kernel_rfl) (by kernel_rfl) (by kernel_rfl) (by kernel_rfl) (fun _ _ _ h => h) (by rfl) (fun u hu => ?_) hS0 ?_
                  · (try dsimp only at hu); go_simp
                  (try simp only [Act.put, List.setIfInBounds_toArray, List.set_cons_zero, List.set_cons_succ])
                  refine G_take (i := 17) (oi := { dst := some 98, op := Op.indexAddr 59 (Operand.tmp 97) (Operand.const (Value.int IntKind.i64 0)), type := 0, pos := _, after := #[{ on := 16, ground := Ground.data }, { on := 9, ground := Ground.guard }], guard := some (9, false) }) (v := .pointer (some ⟨pb, j * 2, none⟩)) rfl (by kernel_rfl) (by kernel_rfl) (by kernel_rfl) (by kernel_rfl) (fun _ _ _ h => h) (by rfl) (fun u hu => ?_) hS0 ?_
                  · (try dsimp only at hu); go_simp
                  (try simp only [Act.put, List.setIfInBounds_toArray, List.set_cons_zero, List.set_cons_succ])
                  refine G_take (i := 18) (oi := { dst := some 99, op := Op.load 3 (Operand.tmp 98), type := 3, pos := _, after := #[{ on := 17, ground := Ground.data }, { on := 9, ground := Ground.guard }], guard := some (9, false) }) (v := .int .i64 (px : Nat)) rfl (by kernel_rfl) (by kernel_rfl) (by kernel_rfl) (by kernel_rfl) (fun _ _ _ h => h) (by rfl) (fun u hu => ?_) hS0 ?_
                  · (try dsimp only at hu); go_simp
                  (try simp only [Act.put, List.setIfInBounds_toArray, List.set_cons_zero, List.set_cons_succ])
                  refine G_step (i := 19) (o := { dst := some 100, op := Op.call { callee := Callee.value (Operand.func 26), args := #[Operand.tmp 94, Operand.tmp 99], argTypes := #[22, 3] }, type := 4, pos := _, after := #[{ on := 13, ground := Ground.data }, { on := 18, ground := Ground.data }, { on := 9, ground := Ground.chain }, { on := 9, ground := Ground.guard }], guard := some (9, false) }) (by kernel_rfl) rfl (fun K' hK => ?_)
                  go_simp
                  refine CI.out.mono ?_
                  rintro e z1 ⟨rfl, hq⟩
                  obtain rfl := hq.symm
                  dsimp only
                  refine hK.out _ _ (fun _ => hS0) (fun _ => ?_)
                  (try simp only [Act.put, List.setIfInBounds_toArray, List.set_cons_zero, List.set_cons_succ])
                  refine G_take (i := 20) (oi := { dst := some 101, op := Op.pick (Operand.tmp 90) (Operand.const (Value.bool true)) (Operand.tmp 100), type := 4, pos := _, after := #[{ on := 9, ground := Ground.data }, { on := 19, ground := Ground.data }, { on := 6, ground := Ground.guard }], guard := some (6, true) }) (v := .bool false) rfl (by kernel_rfl) (by kernel_rfl) (by kernel_rfl) (by kernel_rfl) (fun _ _ _ h => h) (by rfl) (fun u hu => ?_) hS0 ?_
                  · (try dsimp only at hu); go_simp
                  (try simp only [Act.put, List.setIfInBounds_toArray, List.set_cons_zero, List.set_cons_succ])
                  refine G_take (i := 21) (oi := { dst := some 102, op := Op.pick (Operand.tmp 87) (Operand.tmp 101) (Operand.const (Value.bool false)), type := 4, pos := _, after := #[{ on := 6, ground := Ground.data }, { on := 20, ground := Ground.data }], guard := none }) (v := .bool false) rfl (by kernel_rfl) (by kernel_rfl) (by kernel_rfl) (by kernel_rfl) (fun _ _ _ h => h) (by rfl) (fun u hu => ?_) hS0 ?_
                  · (try dsimp only at hu); go_simp
                  (try simp only [Act.put, List.setIfInBounds_toArray, List.set_cons_zero, List.set_cons_succ])
                  refine G_done (by kernel_rfl) ?_ _
                  (try dsimp only [Exit.then])
                  go_wp2
                  go_roundw
                  case rel => exact ⟨j + 1, _, _, by omega, by go_num, hid ⟨HL6'.out.below (Below.refl _ _).drew, owns_below (HEF.out HPE.out) (Below.refl _ _).drew⟩⟩
                  case measure => simp [intOf]; omega
                · go_wp2_with fail
                  refine G_region (fun z : World => z.cell? ⟨pb, j * 2 + 1, none⟩ = some (.int .i64 (py : Nat)) ∧ z.cell? ⟨w.heap.size + 2, 0, none⟩ = some (.int .i64 (A.K : Nat)) ∧ z.cell? ⟨w.heap.size, 4, none⟩ = some (.slice (some ⟨fb, fo, none⟩) A.K A.fc) ∧ z.cell? ⟨fb, fo, none⟩ = some (.slice ra (A.FL 0) rc) ∧ z.cell? ⟨pb, j * 2, none⟩ = some (.int .i64 (px : Nat))) (fun _ => false) (by kernel_rfl) hS0 (fun _ => ?_)
                  refine G_take (i := 0) (oi := { dst := some 81, op := Op.move (Operand.tmp 7), type := 58, pos := _, after := #[], guard := none }) (v := .slice (some ⟨pb, 0, none⟩) k pc) rfl (by kernel_rfl) (by kernel_rfl) (by kernel_rfl) (by kernel_rfl) (fun _ _ _ h => h) (by rfl) (fun u hu => ?_) hS0 ?_
                  · (try dsimp only at hu); go_simp
                  (try simp only [Act.put, List.setIfInBounds_toArray, List.set_cons_zero, List.set_cons_succ])
                  refine G_take (i := 1) (oi := { dst := some 82, op := Op.move (Operand.tmp 13), type := 3, pos := _, after := #[], guard := none }) (v := .int .i64 (j : Nat)) rfl (by kernel_rfl) (by kernel_rfl) (by kernel_rfl) (by kernel_rfl) (fun _ _ _ h => h) (by rfl) (fun u hu => ?_) hS0 ?_
                  · (try dsimp only at hu); go_simp
                  (try simp only [Act.put, List.setIfInBounds_toArray, List.set_cons_zero, List.set_cons_succ])
                  refine G_take (i := 2) (oi := { dst := some 83, op := Op.indexAddr 58 (Operand.tmp 81) (Operand.tmp 82), type := 0, pos := _, after := #[{ on := 0, ground := Ground.data }, { on := 1, ground := Ground.data }], guard := none }) (v := .pointer (some ⟨pb, j * 2, none⟩)) rfl (by kernel_rfl) (by kernel_rfl) (by kernel_rfl) (by kernel_rfl) (fun _ _ _ h => h) (by rfl) (fun u hu => ?_) hS0 ?_
                  · (try dsimp only at hu); go_simp
                  (try simp only [Act.put, List.setIfInBounds_toArray, List.set_cons_zero, List.set_cons_succ])
                  refine G_take (i := 3) (oi := { dst := some 84, op := Op.indexAddr 59 (Operand.tmp 83) (Operand.const (Value.int IntKind.i64 1)), type := 0, pos := _, after := #[{ on := 2, ground := Ground.data }], guard := none }) (v := .pointer (some ⟨pb, j * 2 + 1, none⟩)) rfl (by kernel_rfl) (by kernel_rfl) (by kernel_rfl) (by kernel_rfl) (fun _ _ _ h => h) (by rfl) (fun u hu => ?_) hS0 ?_
                  · (try dsimp only at hu); go_simp
                  (try simp only [Act.put, List.setIfInBounds_toArray, List.set_cons_zero, List.set_cons_succ])
                  refine G_take (i := 4) (oi := { dst := some 85, op := Op.load 3 (Operand.tmp 84), type := 3, pos := _, after := #[{ on := 3, ground := Ground.data }], guard := none }) (v := .int .i64 (py : Nat)) rfl (by kernel_rfl) (by kernel_rfl) (by kernel_rfl) (by kernel_rfl) (fun _ _ _ h => h) (by rfl) (fun u hu => ?_) hS0 ?_
                  · (try dsimp only at hu); go_simp
                  (try simp only [Act.put, List.setIfInBounds_toArray, List.set_cons_zero, List.set_cons_succ])
                  refine G_take (i := 5) (oi := { dst := some 86, op := Op.binOp BinOp.eql 3 (Operand.tmp 85) (Operand.const (Value.int IntKind.i64 0)) 3, type := 4, pos := _, after := #[{ on := 4, ground := Ground.data }], guard := none }) (v := .bool true) rfl (by kernel_rfl) (by kernel_rfl) (by kernel_rfl) (by kernel_rfl) (fun _ _ _ h => h) (by rfl) (fun u hu => ?_) hS0 ?_
                  · (try dsimp only at hu); go_simp
                  (try simp only [Act.put, List.setIfInBounds_toArray, List.set_cons_zero, List.set_cons_succ])
                  refine G_take (i := 6) (oi := { dst := some 87, op := Op.move (Operand.tmp 86), type := 4, pos := _, after := #[{ on := 5, ground := Ground.data }], guard := none }) (v := .bool true) rfl (by kernel_rfl) (by kernel_rfl) (by kernel_rfl) (by kernel_rfl) (fun _ _ _ h => h) (by rfl) (fun u hu => ?_) hS0 ?_
                  · (try dsimp only at hu); go_simp
                  (try simp only [Act.put, List.setIfInBounds_toArray, List.set_cons_zero, List.set_cons_succ])
                  refine G_take (i := 7) (oi := { dst := some 88, op := Op.load 3 (Operand.tmp 4), type := 3, pos := _, after := #[{ on := 6, ground := Ground.guard }], guard := some (6, true) }) (v := .int .i64 (A.K : Nat)) rfl (by kernel_rfl) (by kernel_rfl) (by kernel_rfl) (by kernel_rfl) (fun _ _ _ h => h) (by rfl) (fun u hu => ?_) hS0 ?_
                  · (try dsimp only at hu); go_simp
                  (try simp only [Act.put, List.setIfInBounds_toArray, List.set_cons_zero, List.set_cons_succ])
                  refine G_take (i := 8) (oi := { dst := some 89, op := Op.binOp BinOp.eql 3 (Operand.tmp 88) (Operand.const (Value.int IntKind.i64 0)) 3, type := 4, pos := _, after := #[{ on := 7, ground := Ground.data }, { on := 6, ground := Ground.guard }], guard := some (6, true) }) (v := .bool false) rfl (by kernel_rfl) (by kernel_rfl) (by kernel_rfl) (by kernel_rfl) (fun _ _ _ h => h) (by rfl) (fun u hu => ?_) hS0 ?_
                  · (try dsimp only at hu); go_simp
                  (try simp only [Act.put, List.setIfInBounds_toArray, List.set_cons_zero, List.set_cons_succ])
                  refine G_take (i := 9) (oi := { dst := some 90, op := Op.move (Operand.tmp 89), type := 4, pos := _, after := #[{ on := 8, ground := Ground.data }, { on := 6, ground := Ground.chain }, { on := 6, ground := Ground.guard }], guard := some (6, true) }) (v := .bool false) rfl (by kernel_rfl) (by kernel_rfl) (by kernel_rfl) (by kernel_rfl) (fun _ _ _ h => h) (by rfl) (fun u hu => ?_) hS0 ?_
                  · (try dsimp only at hu); go_simp
                  (try simp only [Act.put, List.setIfInBounds_toArray, List.set_cons_zero, List.set_cons_succ])
                  refine G_take (i := 10) (oi := { dst := some 91, op := Op.fieldAddr 26 (Operand.tmp 1) 4, type := 0, pos := _, after := #[{ on := 9, ground := Ground.guard }], guard := some (9, false) }) (v := .pointer (some ⟨w.heap.size, 4, none⟩)) rfl (by kernel_rfl) (by kernel_rfl) (by kernel_rfl) (by kernel_rfl) (fun _ _ _ h => h) (by rfl) (fun u hu => ?_) hS0 ?_
                  · (try dsimp only at hu); go_simp
                  (try simp only [Act.put, List.setIfInBounds_toArray, List.set_cons_zero, List.set_cons_succ])
                  refine G_take (i := 11) (oi := { dst := some 92, op := Op.load 23 (Operand.tmp 91), type := 23, pos := _, after := #[{ on := 10, ground := Ground.data }, { on := 9, ground := Ground.guard }], guard := some (9, false) }) (v := .slice (some ⟨fb, fo, none⟩) A.K A.fc) rfl (by kernel_rfl) (by kernel_rfl) (by kernel_rfl) (by kernel_rfl) (fun _ _ _ h => h) (by rfl) (fun u hu => ?_) hS0 ?_
                  · (try dsimp only at hu); go_simp
                  (try simp only [Act.put, List.setIfInBounds_toArray, List.set_cons_zero, List.set_cons_succ])
                  refine G_take (i := 12) (oi := { dst := some 93, op := Op.indexAddr 23 (Operand.tmp 92) (Operand.const (Value.int IntKind.i64 0)), type := 0, pos := _, after := #[{ on := 11, ground := Ground.data }, { on := 9, ground := Ground.guard }], guard := some (9, false) }) (v := .pointer (some ⟨fb, fo, none⟩)) rfl (by kernel_rfl) (by kernel_rfl) (by kernel_rfl) (by kernel_rfl) (fun _ _ _ h => h) (by rfl) (fun u hu => ?_) hS0 ?_
                  · (try dsimp only at hu); go_simp
                  (try simp only [Act.put, List.setIfInBounds_toArray, List.set_cons_zero, List.set_cons_succ])
                  refine G_take (i := 13) (oi := { dst := some 94, op := Op.load 22 (Operand.tmp 93), type := 22, pos := _, after := #[{ on := 12, ground := Ground.data }, { on := 9, ground := Ground.guard }], guard := some (9, false) }) (v := .slice ra (A.FL 0) rc) rfl (by kernel_rfl) (by kernel_rfl) (by kernel_rfl) (by kernel_rfl) (fun _ _ _ h => h) (by rfl) (fun u hu => ?_) hS0 ?_
                  · (try dsimp only at hu); go_simp
                  (try simp only [Act.put, List.setIfInBounds_toArray, List.set_cons_zero, List.set_cons_succ])
                  refine G_take (i := 14) (oi := { dst := some 95, op := Op.move (Operand.tmp 7), type := 58, pos := _, after := #[{ on := 9, ground := Ground.guard }], guard := some (9, false) }) (v := .slice (some ⟨pb, 0, none⟩) k pc) rfl (by kernel_rfl) (by kernel_rfl) (by kernel_rfl) (by kernel_rfl) (fun _ _ _ h => h) (by rfl) (fun u hu => ?_) hS0 ?_
                  · (try dsimp only at hu); go_simp
                  (try simp only [Act.put, List.setIfInBounds_toArray, List.set_cons_zero, List.set_cons_succ])
                  refine G_take (i := 15) (oi := { dst := some 96, op := Op.move (Operand.tmp 13), type := 3, pos := _, after := #[{ on := 9, ground := Ground.guard }], guard := some (9, false) }) (v := .int .i64 (j : Nat)) rfl (by kernel_rfl) (by kernel_rfl) (by kernel_rfl) (by kernel_rfl) (fun _ _ _ h => h) (by rfl) (fun u hu => ?_) hS0 ?_
                  · (try dsimp only at hu); go_simp
                  (try simp only [Act.put, List.setIfInBounds_toArray, List.set_cons_zero, List.set_cons_succ])
                  refine G_take (i := 16) (oi := { dst := some 97, op := Op.indexAddr 58 (Operand.tmp 95) (Operand.tmp 96), type := 0, pos := _, after := #[{ on := 14, ground := Ground.data }, { on := 15, ground := Ground.data }, { on := 9, ground := Ground.guard }], guard := some (9, false) }) (v := .pointer (some ⟨pb, j * 2, none⟩)) rfl (by kernel_rfl) (by kernel_rfl) (by kernel_rfl) (by kernel_rfl) (fun _ _ _ h => h) (by rfl) (fun u hu => ?_) hS0 ?_
                  · (try dsimp only at hu); go_simp
                  (try simp only [Act.put, List.setIfInBounds_toArray, List.set_cons_zero, List.set_cons_succ])
                  refine G_take (i := 17) (oi := { dst := some 98, op := Op.indexAddr 59 (Operand.tmp 97) (Operand.const (Value.int IntKind.i64 0)), type := 0, pos := _, after := #[{ on := 16, ground := Ground.data }, { on := 9, ground := Ground.guard }], guard := some (9, false) }) (v := .pointer (some ⟨pb, j * 2, none⟩)) rfl (by kernel_rfl) (by kernel_rfl) (by kernel_rfl) (by kernel_rfl) (fun _ _ _ h => h) (by rfl) (fun u hu => ?_) hS0 ?_
                  · (try dsimp only at hu); go_simp
                  (try simp only [Act.put, List.setIfInBounds_toArray, List.set_cons_zero, List.set_cons_succ])
                  refine G_take (i := 18) (oi := { dst := some 99, op := Op.load 3 (Operand.tmp 98), type := 3, pos := _, after := #[{ on := 17, ground := Ground.data }, { on := 9, ground := Ground.guard }], guard := some (9, false) }) (v := .int .i64 (px : Nat)) rfl (by kernel_rfl) (by kernel_rfl) (by kernel_rfl) (by kernel_rfl) (fun _ _ _ h => h) (by rfl) (fun u hu => ?_) hS0 ?_
                  · (try dsimp only at hu); go_simp
                  (try simp only [Act.put, List.setIfInBounds_toArray, List.set_cons_zero, List.set_cons_succ])
                  refine G_step (i := 19) (o := { dst := some 100, op := Op.call { callee := Callee.value (Operand.func 26), args := #[Operand.tmp 94, Operand.tmp 99], argTypes := #[22, 3] }, type := 4, pos := _, after := #[{ on := 13, ground := Ground.data }, { on := 18, ground := Ground.data }, { on := 9, ground := Ground.chain }, { on := 9, ground := Ground.guard }], guard := some (9, false) }) (by kernel_rfl) rfl (fun K' hK => ?_)
                  go_simp
                  refine CI.out.mono ?_
                  rintro e z1 ⟨rfl, hq⟩
                  obtain rfl := hq.symm
                  dsimp only
                  refine hK.out _ _ (fun _ => hS0) (fun _ => ?_)
                  (try simp only [Act.put, List.setIfInBounds_toArray, List.set_cons_zero, List.set_cons_succ])
                  refine G_take (i := 20) (oi := { dst := some 101, op := Op.pick (Operand.tmp 90) (Operand.const (Value.bool true)) (Operand.tmp 100), type := 4, pos := _, after := #[{ on := 9, ground := Ground.data }, { on := 19, ground := Ground.data }, { on := 6, ground := Ground.guard }], guard := some (6, true) }) (v := .bool true) rfl (by kernel_rfl) (by kernel_rfl) (by kernel_rfl) (by kernel_rfl) (fun _ _ _ h => h) (by rfl) (fun u hu => ?_) hS0 ?_
                  · (try dsimp only at hu); go_simp
                  (try simp only [Act.put, List.setIfInBounds_toArray, List.set_cons_zero, List.set_cons_succ])
                  refine G_take (i := 21) (oi := { dst := some 102, op := Op.pick (Operand.tmp 87) (Operand.tmp 101) (Operand.const (Value.bool false)), type := 4, pos := _, after := #[{ on := 6, ground := Ground.data }, { on := 20, ground := Ground.data }], guard := none }) (v := .bool true) rfl (by kernel_rfl) (by kernel_rfl) (by kernel_rfl) (by kernel_rfl) (fun _ _ _ h => h) (by rfl) (fun u hu => ?_) hS0 ?_
                  · (try dsimp only at hu); go_simp
                  (try simp only [Act.put, List.setIfInBounds_toArray, List.set_cons_zero, List.set_cons_succ])
                  refine G_done (by kernel_rfl) ?_ _
                  (try dsimp only [Exit.then])
                  have HON : Hid (W7'.drew.ownsRow w11.heap.size 3 1 (.slice g0 gn gc) gn (vals (cs (whN Pf j)))) := hid (by have := owns_below HOG.out (Below.refl _ _).drew; rw [HPJ.out.2.2] at this; exact this)
                  have hds : W7'.drew.heap.size = W7'.heap.size := rfl
                  go_wp2_with (at_builtin; refine wpList_append_own_at _ rfl _ _ 22 rfl w11.heap.size 3 i0 (.int .i64 0) 1 8 Try.underlying22 HI.out.1 HI.out.2.1 HI.out.2.2.1 HI.out.2.2.2 rfl (by decide) _ _ _ rfl (HON.out.alloc _) ⟨W7'.heap.size, 0, none⟩ 1 1 [.int .i64 (j : Nat)] rfl rfl (cell_one_new _ _ _) (ints_oneCell .i64 [(j : Int)]) (by unfold maxLen; omega) (by omega) (by simp; omega) ?_; intro v' w3 hown' hgrow hnil hloc; have G := hid (HET.out _ _ _ HPE.out (by rw [HPJ.out.2.2]; exact hown') hgrow); clear hown' hgrow hnil hloc)
                  go_roundw
                  case rel => exact ⟨j + 1, _, _, by omega, by go_num, G⟩
                  case measure => simp [intOf]; omega
            · have hq2 : (((py : Nat) : Int) == 0) = false := beq_eq_false_iff_ne.2 (by omega)
              have HPE : Hid (Pf j = false) := hid (by rw [HPJ.out.1]; unfold sgF; simp [hpy])
              have hS0 : (fun z : World => z.cell? ⟨pb, j * 2 + 1, none⟩ = some (.int .i64 (py : Nat))) W7'.drew := z21
              clear hpy
              go_wp2_with fail
              refine G_region (fun z : World => z.cell? ⟨pb, j * 2 + 1, none⟩ = some (.int .i64 (py : Nat))) (fun _ => false) (by kernel_rfl) hS0 (fun _ => ?_)
              refine G_take (i := 0) (oi := { dst := some 81, op := Op.move (Operand.tmp 7), type := 58, pos := _, after := #[], guard := none }) (v := .slice (some ⟨pb, 0, none⟩) k pc) rfl (by kernel_rfl) (by kernel_rfl) (by kernel_rfl) (by kernel_rfl) (fun _ _ _ h => h) (by rfl) (fun u hu => ?_) hS0 ?_
              · (try dsimp only at hu); go_simp
              (try simp only [Act.put, List.setIfInBounds_toArray, List.set_cons_zero, List.set_cons_succ])
              refine G_take (i := 1) (oi := { dst := some 82, op := Op.move (Operand.tmp 13), type := 3, pos := _, after := #[], guard := none }) (v := .int .i64 (j : Nat)) rfl (by kernel_rfl) (by kernel_rfl) (by kernel_rfl) (by kernel_rfl) (fun _ _ _ h => h) (by rfl) (fun u hu => ?_) hS0 ?_
              · (try dsimp only at hu); go_simp
              (try simp only [Act.put, List.setIfInBounds_toArray, List.set_cons_zero, List.set_cons_succ])
              refine G_take (i := 2) (oi := { dst := some 83, op := Op.indexAddr 58 (Operand.tmp 81) (Operand.tmp 82), type := 0, pos := _, after := #[{ on := 0, ground := Ground.data }, { on := 1, ground := Ground.data }], guard := none }) (v := .pointer (some ⟨pb, j * 2, none⟩)) rfl (by kernel_rfl) (by kernel_rfl) (by kernel_rfl) (by kernel_rfl) (fun _ _ _ h => h) (by rfl) (fun u hu => ?_) hS0 ?_
              · (try dsimp only at hu); go_simp
              (try simp only [Act.put, List.setIfInBounds_toArray, List.set_cons_zero, List.set_cons_succ])
              refine G_take (i := 3) (oi := { dst := some 84, op := Op.indexAddr 59 (Operand.tmp 83) (Operand.const (Value.int IntKind.i64 1)), type := 0, pos := _, after := #[{ on := 2, ground := Ground.data }], guard := none }) (v := .pointer (some ⟨pb, j * 2 + 1, none⟩)) rfl (by kernel_rfl) (by kernel_rfl) (by kernel_rfl) (by kernel_rfl) (fun _ _ _ h => h) (by rfl) (fun u hu => ?_) hS0 ?_
              · (try dsimp only at hu); go_simp
              (try simp only [Act.put, List.setIfInBounds_toArray, List.set_cons_zero, List.set_cons_succ])
              refine G_take (i := 4) (oi := { dst := some 85, op := Op.load 3 (Operand.tmp 84), type := 3, pos := _, after := #[{ on := 3, ground := Ground.data }], guard := none }) (v := .int .i64 (py : Nat)) rfl (by kernel_rfl) (by kernel_rfl) (by kernel_rfl) (by kernel_rfl) (fun _ _ _ h => h) (by rfl) (fun u hu => ?_) hS0 ?_
              · (try dsimp only at hu); go_simp
              (try simp only [Act.put, List.setIfInBounds_toArray, List.set_cons_zero, List.set_cons_succ])
              refine G_take (i := 5) (oi := { dst := some 86, op := Op.binOp BinOp.eql 3 (Operand.tmp 85) (Operand.const (Value.int IntKind.i64 0)) 3, type := 4, pos := _, after := #[{ on := 4, ground := Ground.data }], guard := none }) (v := .bool false) rfl (by kernel_rfl) (by kernel_rfl) (by kernel_rfl) (by kernel_rfl) (fun _ _ _ h => h) (by rfl) (fun u hu => ?_) hS0 ?_
              · (try dsimp only at hu); go_simp
              (try simp only [Act.put, List.setIfInBounds_toArray, List.set_cons_zero, List.set_cons_succ])
              refine G_take (i := 6) (oi := { dst := some 87, op := Op.move (Operand.tmp 86), type := 4, pos := _, after := #[{ on := 5, ground := Ground.data }], guard := none }) (v := .bool false) rfl (by kernel_rfl) (by kernel_rfl) (by kernel_rfl) (by kernel_rfl) (fun _ _ _ h => h) (by rfl) (fun u hu => ?_) hS0 ?_
              · (try dsimp only at hu); go_simp
              (try simp only [Act.put, List.setIfInBounds_toArray, List.set_cons_zero, List.set_cons_succ])
              refine G_skip (i := 7) (oi := { dst := some 88, op := Op.load 3 (Operand.tmp 4), type := 3, pos := _, after := #[{ on := 6, ground := Ground.guard }], guard := some (6, true) }) rfl (by kernel_rfl) (by kernel_rfl) (by kernel_rfl) (by kernel_rfl) (fun _ _ _ h => h) (by rfl) hS0 ?_
              (try simp only [Act.put, List.setIfInBounds_toArray, List.set_cons_zero, List.set_cons_succ])
              refine G_skip (i := 8) (oi := { dst := some 89, op := Op.binOp BinOp.eql 3 (Operand.tmp 88) (Operand.const (Value.int IntKind.i64 0)) 3, type := 4, pos := _, after := #[{ on := 7, ground := Ground.data }, { on := 6, ground := Ground.guard }], guard := some (6, true) }) rfl (by kernel_rfl) (by kernel_rfl) (by kernel_rfl) (by kernel_rfl) (fun _ _ _ h => h) (by rfl) hS0 ?_
              (try simp only [Act.put, List.setIfInBounds_toArray, List.set_cons_zero, List.set_cons_succ])
              refine G_skip (i := 9) (oi := { dst := some 90, op := Op.move (Operand.tmp 89), type := 4, pos := _, after := #[{ on := 8, ground := Ground.data }, { on := 6, ground := Ground.chain }, { on := 6, ground := Ground.guard }], guard := some (6, true) }) rfl (by kernel_rfl) (by kernel_rfl) (by kernel_rfl) (by kernel_rfl) (fun _ _ _ h => h) (by rfl) hS0 ?_
              (try simp only [Act.put, List.setIfInBounds_toArray, List.set_cons_zero, List.set_cons_succ])
              refine G_skip (i := 10) (oi := { dst := some 91, op := Op.fieldAddr 26 (Operand.tmp 1) 4, type := 0, pos := _, after := #[{ on := 9, ground := Ground.guard }], guard := some (9, false) }) rfl (by kernel_rfl) (by kernel_rfl) (by kernel_rfl) (by kernel_rfl) (fun _ _ _ h => h) (by rfl) hS0 ?_
              (try simp only [Act.put, List.setIfInBounds_toArray, List.set_cons_zero, List.set_cons_succ])
              refine G_skip (i := 11) (oi := { dst := some 92, op := Op.load 23 (Operand.tmp 91), type := 23, pos := _, after := #[{ on := 10, ground := Ground.data }, { on := 9, ground := Ground.guard }], guard := some (9, false) }) rfl (by kernel_rfl) (by kernel_rfl) (by kernel_rfl) (by kernel_rfl) (fun _ _ _ h => h) (by rfl) hS0 ?_
              (try simp only [Act.put, List.setIfInBounds_toArray, List.set_cons_zero, List.set_cons_succ])
              refine G_skip (i := 12) (oi := { dst := some 93, op := Op.indexAddr 23 (Operand.tmp 92) (Operand.const (Value.int IntKind.i64 0)), type := 0, pos := _, after := #[{ on := 11, ground := Ground.data }, { on := 9, ground := Ground.guard }], guard := some (9, false) }) rfl (by kernel_rfl) (by kernel_rfl) (by kernel_rfl) (by kernel_rfl) (fun _ _ _ h => h) (by rfl) hS0 ?_
              (try simp only [Act.put, List.setIfInBounds_toArray, List.set_cons_zero, List.set_cons_succ])
              refine G_skip (i := 13) (oi := { dst := some 94, op := Op.load 22 (Operand.tmp 93), type := 22, pos := _, after := #[{ on := 12, ground := Ground.data }, { on := 9, ground := Ground.guard }], guard := some (9, false) }) rfl (by kernel_rfl) (by kernel_rfl) (by kernel_rfl) (by kernel_rfl) (fun _ _ _ h => h) (by rfl) hS0 ?_
              (try simp only [Act.put, List.setIfInBounds_toArray, List.set_cons_zero, List.set_cons_succ])
              refine G_skip (i := 14) (oi := { dst := some 95, op := Op.move (Operand.tmp 7), type := 58, pos := _, after := #[{ on := 9, ground := Ground.guard }], guard := some (9, false) }) rfl (by kernel_rfl) (by kernel_rfl) (by kernel_rfl) (by kernel_rfl) (fun _ _ _ h => h) (by rfl) hS0 ?_
              (try simp only [Act.put, List.setIfInBounds_toArray, List.set_cons_zero, List.set_cons_succ])
              refine G_skip (i := 15) (oi := { dst := some 96, op := Op.move (Operand.tmp 13), type := 3, pos := _, after := #[{ on := 9, ground := Ground.guard }], guard := some (9, false) }) rfl (by kernel_rfl) (by kernel_rfl) (by kernel_rfl) (by kernel_rfl) (fun _ _ _ h => h) (by rfl) hS0 ?_
              (try simp only [Act.put, List.setIfInBounds_toArray, List.set_cons_zero, List.set_cons_succ])
              refine G_skip (i := 16) (oi := { dst := some 97, op := Op.indexAddr 58 (Operand.tmp 95) (Operand.tmp 96), type := 0, pos := _, after := #[{ on := 14, ground := Ground.data }, { on := 15, ground := Ground.data }, { on := 9, ground := Ground.guard }], guard := some (9, false) }) rfl (by kernel_rfl) (by kernel_rfl) (by kernel_rfl) (by kernel_rfl) (fun _ _ _ h => h) (by rfl) hS0 ?_
              (try simp only [Act.put, List.setIfInBounds_toArray, List.set_cons_zero, List.set_cons_succ])
              refine G_skip (i := 17) (oi := { dst := some 98, op := Op.indexAddr 59 (Operand.tmp 97) (Operand.const (Value.int IntKind.i64 0)), type := 0, pos := _, after := #[{ on := 16, ground := Ground.data }, { on := 9, ground := Ground.guard }], guard := some (9, false) }) rfl (by kernel_rfl) (by kernel_rfl) (by kernel_rfl) (by kernel_rfl) (fun _ _ _ h => h) (by rfl) hS0 ?_
              (try simp only [Act.put, List.setIfInBounds_toArray, List.set_cons_zero, List.set_cons_succ])
              refine G_skip (i := 18) (oi := { dst := some 99, op := Op.load 3 (Operand.tmp 98), type := 3, pos := _, after := #[{ on := 17, ground := Ground.data }, { on := 9, ground := Ground.guard }], guard := some (9, false) }) rfl (by kernel_rfl) (by kernel_rfl) (by kernel_rfl) (by kernel_rfl) (fun _ _ _ h => h) (by rfl) hS0 ?_
              (try simp only [Act.put, List.setIfInBounds_toArray, List.set_cons_zero, List.set_cons_succ])
              refine G_skip (i := 19) (oi := { dst := some 100, op := Op.call { callee := Callee.value (Operand.func 26), args := #[Operand.tmp 94, Operand.tmp 99], argTypes := #[22, 3] }, type := 4, pos := _, after := #[{ on := 13, ground := Ground.data }, { on := 18, ground := Ground.data }, { on := 9, ground := Ground.chain }, { on := 9, ground := Ground.guard }], guard := some (9, false) }) rfl (by kernel_rfl) (by kernel_rfl) (by kernel_rfl) (by kernel_rfl) (fun _ _ _ h => h) (by rfl) hS0 ?_
              (try simp only [Act.put, List.setIfInBounds_toArray, List.set_cons_zero, List.set_cons_succ])
              refine G_skip (i := 20) (oi := { dst := some 101, op := Op.pick (Operand.tmp 90) (Operand.const (Value.bool true)) (Operand.tmp 100), type := 4, pos := _, after := #[{ on := 9, ground := Ground.data }, { on := 19, ground := Ground.data }, { on := 6, ground := Ground.guard }], guard := some (6, true) }) rfl (by kernel_rfl) (by kernel_rfl) (by kernel_rfl) (by kernel_rfl) (fun _ _ _ h => h) (by rfl) hS0 ?_
              (try simp only [Act.put, List.setIfInBounds_toArray, List.set_cons_zero, List.set_cons_succ])
              refine G_take (i := 21) (oi := { dst := some 102, op := Op.pick (Operand.tmp 87) (Operand.tmp 101) (Operand.const (Value.bool false)), type := 4, pos := _, after := #[{ on := 6, ground := Ground.data }, { on := 20, ground := Ground.data }], guard := none }) (v := .bool false) rfl (by kernel_rfl) (by kernel_rfl) (by kernel_rfl) (by kernel_rfl) (fun _ _ _ h => h) (by rfl) (fun u hu => ?_) hS0 ?_
              · (try dsimp only at hu); go_simp
              (try simp only [Act.put, List.setIfInBounds_toArray, List.set_cons_zero, List.set_cons_succ])
              refine G_done (by kernel_rfl) ?_ _
              (try dsimp only [Exit.then])
              go_wp2
              go_roundw
              case rel => exact ⟨j + 1, _, _, by omega, by go_num, hid ⟨HL6'.out.below (Below.refl _ _).drew, owns_below (HEF.out HPE.out) (Below.refl _ _).drew⟩⟩
              case measure => simp [intOf]; omega
          · have HJE : Hid (j = k) := hid (by omega)
            have hLz : Lq w11 (.slice sa1 sn1 sc1) (.slice na1 k nc1) (.slice m1 j c1) (.slice m2 j c2) (fun i => A.Mu (nAt (sgL A k) i).1) (fun i => A.No (nAt (sgL A k) i).1) k k wr := by
              obtain rfl := HJE.out
              rw [HMN.out.1, HMN.out.2.1]
              exact HLq.out.1
            have hGz : wr.ownsRow w11.heap.size 3 1 (.slice g0 gn gc) (cs (whN (fun i => sgF A (nAt (sgL A k) i)) k)).length (vals (cs (whN (fun i => sgF A (nAt (sgL A k) i)) k))) := by
              obtain rfl := HJE.out
              rw [HMN.out.2.2]
              exact HLq.out.2
            obtain ⟨e4, ef4, e22⟩ := si_fin2 H0.out HG.out.1 hk2 HW0.out HG.out.2.2.1 HRES11.out HG.out.2.2.2.1 HG.out.2.2.2.2.1 hLz hGz
            obtain ⟨W22, hW22⟩ : ∃ W22, (wr.alloc (.cells #[.slice g0 gn gc] 22)).setCell ⟨w11.heap.size, 4, none⟩ (.slice (some ⟨wr.heap.size, 0, none⟩) 1 1) = W22 := ⟨_, rfl⟩
            obtain ⟨i1, i2, i3, i4⟩ := e22 W22 hW22
            obtain ⟨⟨u0, u1, u2, u3, u4⟩, _⟩ := five_cells i1
            obtain ⟨⟨y0, y1, y2, y3, y4⟩, yf⟩ := nil_cells i2
            have f0 := yf 0
            have f1 := yf 1
            have f2 := yf 2
            have f3 := yf 3
            have f4 := yf 4
            obtain ⟨X, hX⟩ : ∃ X, (((((W22.setCell ⟨w.heap.size + 1, 0, none⟩ (.slice sa1 sn1 sc1)).setCell ⟨w.heap.size + 1, 1, none⟩ (.slice na1 k nc1)).setCell ⟨w.heap.size + 1, 2, none⟩ (.slice m1 j c1)).setCell ⟨w.heap.size + 1, 3, none⟩ (.slice m2 j c2)).setCell ⟨w.heap.size + 1, 4, none⟩ (.slice (some ⟨wr.heap.size, 0, none⟩) 1 1)) = X := ⟨_, rfl⟩
            obtain ⟨hx5, hxb⟩ := set5 _ _ _ _ _ i2 hX
            obtain ⟨⟨k0, k1, k2, k3, k4⟩, _⟩ := five_cells hx5
            have HI4 := hid (i4 X hxb)
            clear i1 i2 i4 yf hx5 hxb e22 hLz hGz hpa hpc hBo
            go_wp2
            refine ⟨rfl, .tuple #[.agg #[.slice sa1 sn1 sc1, .slice na1 k nc1, .slice m1 j c1, .slice m2 j c2, .slice (some ⟨wr.heap.size, 0, none⟩) 1 1], .int .i64 0], by simp [results, Try.f7, go_sem, k0, k1, k2, k3, k4], ?_⟩
            exact HI4.out
      · clear hN C24
        have hb11 : Below w.heap.size w w11 := HW0.out.trans (HG.out.2.mono HW0.out.size)
        have hres11 : w11.heap[w.heap.size + 1]? = some (.cells nil5 26) := (HG.out.2.block _ (Array.getElem?_eq_some_iff.1 HRES2.out).1).trans HRES2.out
        obtain ⟨⟨y0, y1, y2, y3, y4⟩, yf⟩ := nil_cells hres11
        have f0 := yf 0
        have f1 := yf 1
        have f2 := yf 2
        have f3 := yf 3
        have f4 := yf 4
        obtain ⟨X, hX⟩ : ∃ X, (((((w11.setCell ⟨w.heap.size + 1, 0, none⟩ (.slice none 0 0)).setCell ⟨w.heap.size + 1, 1, none⟩ (.slice none 0 0)).setCell ⟨w.heap.size + 1, 2, none⟩ (.slice none 0 0)).setCell ⟨w.heap.size + 1, 3, none⟩ (.slice none 0 0)).setCell ⟨w.heap.size + 1, 4, none⟩ (.slice none 0 0)) = X := ⟨_, rfl⟩
        obtain ⟨hx5, hxb⟩ := set5 _ _ _ _ _ hres11 hX
        obtain ⟨⟨k0, k1, k2, k3, k4⟩, _⟩ := five_cells hx5
        have HXB := hid (hb11.trans (hxb.below (Nat.le_succ _) hb11.size))
        clear yf hxb hx5 hres11 hb11
        go_wp2
        refine ⟨rfl, .tuple #[.agg nil5, .int .i64 2], by simp [results, Try.f7, go_sem, k0, k1, k2, k3, k4], ?_⟩
        exact Or.inr (Or.inl ⟨H0.out, HG.out.1, rfl, HXB.out⟩)
end Go.Proofs.Ytdncjikmknkkpaa
