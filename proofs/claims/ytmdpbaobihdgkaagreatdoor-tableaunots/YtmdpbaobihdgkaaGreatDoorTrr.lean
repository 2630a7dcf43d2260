
import Derived.Test.YtmdpbaobihdgkaaGreatDoorAFamJ
/- tableau: truths of a part with Kids. -/
set_option linter.unusedSimpArgs false
namespace Go.Proofs.YtmdpbaobihdgkaaGreatDoor
open Go.RowKit
structure Txb (w : World) (B : Nat) (ea : Option Addr) (N ec : Nat) (k x : Int) (a : Option Addr) (c cap : Nat) (v : Value) : Prop where
 b0 : w.heap[B]? = some (.cells #[.slice ea N ec] 53 (0, 0))
 b1 : w.heap[B + 1]? = some (.cells #[.int .i64 k, .int .i64 x, .slice a c cap] 24 (0, 0))
 b2 : w.heap[B + 1 + 1]? = some (.cells #[v] 100 (0, 0))
theorem Txb.low {w w' : World} {B : Nat} {ea : Option Addr} {N ec : Nat} {k x : Int} {a : Option Addr} {c cap : Nat} {v : Value} (h : Txb w B ea N ec k x a c cap v) (hb : ∀ q, q < B + 3 → w'.heap[q]? = w.heap[q]?) : Txb w' B ea N ec k x a c cap v :=
 ⟨(hb B (by omega)).trans h.b0, (hb (B + 1) (by omega)).trans h.b1, (hb (B + 1 + 1) (by omega)).trans h.b2⟩
theorem Txb.lt {w : World} {B : Nat} {ea : Option Addr} {N ec : Nat} {k x : Int} {a : Option Addr} {c cap : Nat} {v : Value} (h : Txb w B ea N ec k x a c cap v) : B + 3 ≤ w.heap.size := (jq4.1 h.b2).1
theorem Txb.below {w w' : World} {B : Nat} {ea : Option Addr} {N ec : Nat} {k x : Int} {a : Option Addr} {c cap : Nat} {v : Value} (h : Txb w B ea N ec k x a c cap v) (hb : Below w.heap.size w w') : Txb w' B ea N ec k x a c cap v :=
 h.low (fun q hq => hb.block q (by have := h.lt; omega))
theorem Txb.set {w : World} {B : Nat} {ea : Option Addr} {N ec : Nat} {k x : Int} {a : Option Addr} {c cap : Nat} {v : Value} (h : Txb w B ea N ec k x a c cap v) (y : Value) : Txb (w.setCell ⟨B + 1 + 1, 0, none⟩ y) B ea N ec k x a c cap y := by
 have hb : ∀ q, q ≠ B + 1 + 1 → (w.setCell ⟨B + 1 + 1, 0, none⟩ y).heap[q]? = w.heap[q]? := fun q hq => Go.Deep.blk_setCell_other _ _ _ _ hq
 refine ⟨(hb B (by omega)).trans h.b0, (hb (B + 1) (by omega)).trans h.b1, ?_⟩
 have := h.b2
 unfold World.setCell
 simp only [Array.getElem?_modify, if_true, this, Option.map_some]
 rfl
set_option maxHeartbeats 8000000 in
theorem truths_rest {w0 : World} {E : List Fml} {ea : Option Addr} {ec : Nat} {t : Fml} (hw : Wf t) (h3 : t.kind ≠ 3) (h7 : t.kind ≠ 7) (hE : t.kind = 8 ∨ t.kind = 9 → t ∈ E) (ih : ∀ i, i < t.cnt → Tt w0 E ea ec (t.kid i)) : Tt w0 E ea ec t := by
 intro a cap w hC hK
 obtain ⟨i0, hi, hz0, hz1, hz2⟩ := info_parts Tryz.info44'
 have HI : Hid (Tryz.prog.info? 44 = some i0 ∧ i0.zero = some (.slice none 0 0) ∧ i0.size = 1 ∧ i0.bytes = 24) := ⟨hi, hz0, hz1, hz2⟩
 obtain ⟨b, o, ha, hkid⟩ := hK.out
 have hc2 := wf_cnt hw
 obtain ⟨K, hKd⟩ : ∃ K : Nat → Nat → Bool, K = fun i => trv E (t.kid i) := ⟨_, rfl⟩
 have b3 : (t.kind == 3) = false := beq_eq_false_iff_ne.2 h3
 have b7 : (t.kind == 7) = false := beq_eq_false_iff_ne.2 h7
 obtain ⟨u, hu⟩ : ∃ y, y = ((w.alloc (.cells #[.slice ea E.length ec] 53)).alloc (.cells #[.int .i64 t.kind, .int .i64 t.num, .slice a t.cnt cap] 24)).alloc (.cells #[.slice none 0 0] 100) := ⟨_, rfl⟩
 have HS : Hid (Below w.heap.size w u ∧ Txb u w.heap.size ea E.length ec t.kind t.num a t.cnt cap (.slice none 0 0) ∧ Kt u (w.heap.size + 1 + 1 + 1) 0 (2 ^ E.length) K (.slice none 0 0)) := by
  obtain ⟨q1, q2, q3⟩ := three_boxes w #[.slice ea E.length ec] #[.int .i64 t.kind, .int .i64 t.num, .slice a t.cnt cap] #[.slice none 0 0] 53 24 100
  have hb3 := below_alloc3 w (.cells #[.slice ea E.length ec] 53) (.cells #[.int .i64 t.kind, .int .i64 t.num, .slice a t.cnt cap] 24) (.cells #[.slice none 0 0] 100)
  rw [← hu] at q1 q2 q3 hb3
  exact ⟨hb3, ⟨q1, q2, q3⟩, Kt.start _ _ _ _⟩
 have HU := hid hu
 have HA := hid ha
 have HKid := hid hkid
 have HC := hid hC
 have HIH : Hid (∀ j, j < t.cnt → ∀ (ai : Option Addr) (ci : Nat) (z : World), Below w.heap.size w z → Kds z (t.kid j) ai → Kds w0 (t.kid j) ai → Calls Tryz.prog 18 #[.agg #[.slice ea E.length ec], .agg #[.int .i64 (t.kid j).kind, .int .i64 (t.kid j).num, .slice ai (t.kid j).cnt ci]] z fun e w' => NewB z (2 ^ E.length) (K j) e w') := fun j hj ai ci z hz _ h0 => by
  rw [hKd]
  exact ih j hj ai ci z (hC.below hz) h0
 obtain ⟨rr, hrr⟩ : ∃ rr, rr = t.reds (fun _ => false) (trF E) := ⟨_, rfl⟩
 have HTF : Hid (∀ s, trv E t s = trF E t rr s ∧ ∀ i, i < t.cnt → rr i s = K i s) := hid (fun s => ⟨by rw [hrr]; exact trv_eq E t s, fun i hi => by rw [hrr, hKd, trv_kid hi]⟩)
 clear hrr
 have HAR := hid (fit_kind hw.out.1)
 have HPE : Hid (t.kind = 8 ∨ t.kind = 9 → plc t (lf E) E.length = ((pl E t : Nat) : Int) ∧ pl E t < E.length) := hid (fun q => pl_at (hE q))
 have HK0 := hid hK
 have HBG := hid (wf_big hw)
 clear hE
 clear hu ha hkid hC ih hi hz0 hz1 hz2 hKd
 go_enter Tryz.func18, Tryz.ntmps18
 go_wp2
 clear hw
 rw [← HU.out]
 clear HU
 obtain ⟨N, hN⟩ : ∃ N, N = E.length := ⟨_, rfl⟩
 have HN := hid hN
 rw [← hN] at HS HIH ⊢
 obtain ⟨n, hn⟩ : ∃ n, n = 2 ^ N := ⟨_, rfl⟩
 have HNN := hid hn
 rw [← hn] at HS HIH
 clear hN hn
 go_loopw [21] (fun i wr => ∃ j : Nat, j ≤ t.cnt ∧ i = .int .i64 j ∧ ∃ v, Hid (Below w.heap.size w wr ∧ Txb wr w.heap.size ea N ec t.kind t.num a t.cnt cap v ∧ Kt wr (w.heap.size + 1 + 1 + 1) j n K v)) (fun i _ => t.cnt - (intOf i).toNat)
 case atStart => exact ⟨0, Nat.zero_le _, rfl, _, HS⟩
 case round =>
  obtain ⟨j, hj, rfl, v, HJ⟩ := hrel
  clear HS
  by_cases hlt : j < t.cnt
  ·obtain rfl := HA.out (by omega)
   obtain ⟨ai, ci, p1, p2, p3, p4, p5⟩ := HKid.out j hlt
   have hbw0 : Below w0.heap.size w0 wr := HC.out.bel.trans (HJ.out.1.mono HC.out.bel.size)
   have y1 := below_cell hbw0 jq0 p1
   have y2 := below_cell hbw0 jq0 p2
   have y3 := below_cell hbw0 jq0 p3
   clear hbw0
   have hjz : (j : Int) < t.cnt := by omega
   have C : Hid (∀ z : World, Below w.heap.size w z → Calls Tryz.prog 18 #[.agg #[.slice ea N ec], .agg #[.int .i64 (t.kid j).kind, .int .i64 (t.kid j).num, .slice ai (t.kid j).cnt ci]] z fun e w' => NewB z n (K j) e w') := fun z hz => HIH.out j hlt ai ci z hz (p5.below (HC.out.bel.trans (hz.mono HC.out.bel.size))) p5
   obtain ⟨kk, hkk⟩ : ∃ y, y = t.kid j := ⟨_, rfl⟩
   rw [← hkk] at y1 y2 y3 C
   obtain ⟨U0, hU0⟩ : ∃ y, y = wr.alloc (.cells #[.int .i64 kk.kind, .int .i64 kk.num, .slice ai kk.cnt ci] 24) := ⟨_, rfl⟩
   have hB0 : Below wr.heap.size wr U0 := by rw [hU0]; exact box_below _ _
   have hx0 : Tri U0 wr.heap.size (.int .i64 kk.kind) (.int .i64 kk.num) (.slice ai kk.cnt ci) := by rw [hU0]; exact tri_new _ _ _ _
   have H0 : Hid (Below w.heap.size w U0 ∧ Txb U0 w.heap.size ea N ec t.kind t.num (some ⟨b, o, none⟩) t.cnt cap v ∧ Kt U0 (w.heap.size + 1 + 1 + 1) j n K v) := ⟨HJ.out.1.trans (hB0.mono HJ.out.1.size), HJ.out.2.1.below hB0, HJ.out.2.2.below hB0⟩
   have hgb := HJ.out.2.1.lt
   obtain ⟨d0, d1, d2⟩ := (tri_cells hx0).1
   have kv : U0.cell? ⟨w.heap.size + 1 + 1, 0, none⟩ = some v := cell_of_cells H0.out.2.1.b2 rfl
   have c0 : U0.cell? ⟨w.heap.size, 0, none⟩ = some (.slice ea N ec) := cell_of_cells H0.out.2.1.b0 rfl
   have HU0 := hid hU0
   clear hU0 hB0 hx0 hkk p1 p2 p3 p4 p5
   go_wp2
   rw [← HU0.out]
   clear HU0 y1 y2 y3
   refine G_region (fun z => z.cell? ⟨w.heap.size + 1 + 1, 0, none⟩ = some v ∧ z.cell? ⟨w.heap.size, 0, none⟩ = some (.slice ea N ec) ∧ z.cell? ⟨wr.heap.size, 0, none⟩ = some (.int .i64 kk.kind) ∧ z.cell? ⟨wr.heap.size, 1, none⟩ = some (.int .i64 kk.num) ∧ z.cell? ⟨wr.heap.size, 2, none⟩ = some (.slice ai kk.cnt ci)) (fun j => j == 6) (by kernel_rfl) ⟨kv, c0, d0, d1, d2⟩ (fun hHeld => ?_)
   refine G_tk (i := 0) (oi := { dst := some 25, op := Op.load 100 (Operand.tmp 5), type := 100, pos := _, after := #[], guard := none }) (v := v) hHeld ?_
   (try simp only [Act.put, jq1, jq2, jq3])
   refine G_tk (i := 1) (oi := { dst := some 26, op := Op.load 53 (Operand.tmp 2), type := 53, pos := _, after := #[], guard := none }) (v := .agg #[.slice ea N ec]) hHeld ?_
   (try simp only [Act.put, jq1, jq2, jq3])
   refine G_tk (i := 2) (oi := { dst := some 27, op := Op.load 24 (Operand.tmp 7), type := 24, pos := _, after := #[], guard := none }) (v := .agg #[.int .i64 kk.kind, .int .i64 kk.num, .slice ai kk.cnt ci]) hHeld ?_
   (try simp only [Act.put, jq1, jq2, jq3])
   refine G_step (i := 3) (o := _) (by kernel_rfl) rfl (fun K' hK => ?_)
   go_simp
   go_at_call 18
   refine (C.out _ (below_drewN H0.out.1 1)).mono ?_
   rintro e w2 ⟨g, rfl, g1, g2, g3⟩
   dsimp only
   have hv4 := below_of_drew g3
   have akv := below_cell hv4 jq0 kv
   have ac0 := below_cell hv4 jq0 c0
   have ad0 := below_cell hv4 jq0 d0
   have ad1 := below_cell hv4 jq0 d1
   have ad2 := below_cell hv4 jq0 d2
   refine hK.out _ _ (fun _ => ?_) (fun hS2 => ?_)
   ·exact ⟨akv, ac0, ad0, ad1, ad2⟩
   have hHeld2 := hS2 rfl
   clear hK K' hS2 hHeld
   (try simp only [Act.put, jq1, jq2, jq3])
   have H2 : Hid (Below w.heap.size w w2 ∧ Txb w2 w.heap.size ea N ec t.kind t.num (some ⟨b, o, none⟩) t.cnt cap v ∧ Kt w2 (w.heap.size + 1 + 1 + 1) j n K v ∧ w2.rowIs g 4 n (fun p => .bool (K j p))) :=
    ⟨H0.out.1.trans (hv4.mono H0.out.1.size), H0.out.2.1.below hv4, H0.out.2.2.below hv4, g2⟩
   clear g1 g2 g3 hv4 C
   refine G_step (i := 4) (o := _) (by kernel_rfl) rfl (fun K' hK => ?_)
   go_simp
   obtain ⟨U, hU⟩ : ∃ y, y = w2.alloc (.cells #[.slice (some ⟨g, 0, none⟩) n n] 44) := ⟨_, rfl⟩
   have hBU : Below w2.heap.size w2 U := by rw [hU]; exact box_below _ _
   have hUb : U.heap[w2.heap.size]? = some (.cells #[.slice (some ⟨g, 0, none⟩) n n] 44) := by rw [hU]; exact Go.Deep.blk_alloc_new _ _
   have hUs : U.heap.size = w2.heap.size + 1 := by rw [hU]; simp
   rw [← hU]
   clear hU
   have bkv := below_cell hBU jq0 akv
   have bc0 := below_cell hBU jq0 ac0
   have bd0 := below_cell hBU jq0 ad0
   have bd1 := below_cell hBU jq0 ad1
   have bd2 := below_cell hBU jq0 ad2
   refine hK.out _ _ (fun _ => ?_) (fun hS2 => ?_)
   ·exact ⟨bkv, bc0, bd0, bd1, bd2⟩
   have hHeld3 := hS2 rfl
   clear hK K' hS2 hHeld2
   (try simp only [Act.put, jq1, jq2, jq3])
   have HGU : Hid (Below w.heap.size w U ∧ Txb U w.heap.size ea N ec t.kind t.num (some ⟨b, o, none⟩) t.cnt cap v ∧ Kt U (w.heap.size + 1 + 1 + 1) j n K v ∧ U.rowIs g 4 n (fun p => .bool (K j p))) := ⟨H2.out.1.trans (hBU.mono H2.out.1.size), H2.out.2.1.below hBU, H2.out.2.2.1.below hBU, rowIs_below H2.out.2.2.2 hBU⟩
   obtain ⟨V, hown0, hV0⟩ := HGU.out.2.2.1.list
   have HO : Hid (U.ownsRow (w.heap.size + 1 + 1 + 1) 44 1 v j (vls V n j) ∧ ∀ i, i < j → U.rowIs (V i) 4 n (fun p => .bool (K i p))) := ⟨hown0, hV0⟩
   have HKS : Hid (w.heap.size + 1 + 1 + 1 ≤ U.heap.size) := HGU.out.2.1.lt
   have hj2 : j ≤ 2 := by omega
   clear hown0 hV0
   refine G_step (i := 5) (o := _) (by kernel_rfl) rfl (fun K' hK => ?_)
   refine step_append_lies _ (by rfl) _ _ _ (by rfl) (w.heap.size + 1 + 1 + 1) 44 i0 _ 1 24 Tryz.underlying100 HI.out.1 HI.out.2.1 HI.out.2.2.1 HI.out.2.2.2 rfl (by omega) v j (vls V n j) (by rfl) HO.out.1 ⟨w2.heap.size, 0, none⟩ 1 1 [.slice (some ⟨g, 0, none⟩) n n] (by rfl) (by rfl) (World.news_of_block (cs := #[.slice (some ⟨g, 0, none⟩) n n]) (t := 44) (fr := (0, 0)) hUb) (by intro q hq; simp at hq; subst hq; rfl) (by omega) (by unfold maxLen; omega) (by omega) HKS.out (w2.heap.size + 1) hUs ?_
   intro gg gc w4 hown hgrow hat _
   have hkeep : ∀ q, q < U.heap.size → v.ownBlock ≠ some q → w4.heap[q]? = U.heap[q]? := fun q hq hne => grown_block hgrow hq hne
   have hown3 := HGU.out.2.2.1.own
   have hlow : ∀ q, q < w.heap.size + 3 → w4.heap[q]? = U.heap[q]? := fun q hq => hkeep q (by have := HKS.out; omega) (fun e => by have := (hown3 q e).1; omega)
   have hx4 : w4.heap[wr.heap.size]? = U.heap[wr.heap.size]? := hkeep _ (World.block_lt_of_cell? _ _ bd0) (fun e => by have := (HJ.out.2.2.own _ e).2; omega)
   have cd0 : w4.cell? ⟨wr.heap.size, 0, none⟩ = some (.int .i64 kk.kind) := by rw [World.cell?_of_block hx4]; exact bd0
   have cd1 : w4.cell? ⟨wr.heap.size, 1, none⟩ = some (.int .i64 kk.num) := by rw [World.cell?_of_block hx4]; exact bd1
   have cd2 : w4.cell? ⟨wr.heap.size, 2, none⟩ = some (.slice ai kk.cnt ci) := by rw [World.cell?_of_block hx4]; exact bd2
   have hbx4 : Txb w4 w.heap.size ea N ec t.kind t.num (some ⟨b, o, none⟩) t.cnt cap v := HGU.out.2.1.low hlow
   have ckv : w4.cell? ⟨w.heap.size + 1 + 1, 0, none⟩ = some v := cell_of_cells hbx4.b2 rfl
   have cc0 : w4.cell? ⟨w.heap.size, 0, none⟩ = some (.slice ea N ec) := cell_of_cells hbx4.b0 rfl
   have cfz : w4.frozen? ⟨w.heap.size + 1 + 1, 0, none⟩ = false := by simp [World.frozen?, hbx4.b2]
   have hB4 : Below w.heap.size w w4 := HGU.out.1.grown hgrow HGU.out.1.size (fun q hq => by have := (hown3 q hq).1; omega)
   have H4 : Hid (Below w.heap.size w (w4.setCell ⟨w.heap.size + 1 + 1, 0, none⟩ (.slice (some ⟨gg, 0, none⟩) (j + 1) gc)) ∧ Txb (w4.setCell ⟨w.heap.size + 1 + 1, 0, none⟩ (.slice (some ⟨gg, 0, none⟩) (j + 1) gc)) w.heap.size ea N ec t.kind t.num (some ⟨b, o, none⟩) t.cnt cap (.slice (some ⟨gg, 0, none⟩) (j + 1) gc) ∧ Kt (w4.setCell ⟨w.heap.size + 1 + 1, 0, none⟩ (.slice (some ⟨gg, 0, none⟩) (j + 1) gc)) (w.heap.size + 1 + 1 + 1) (j + 1) n K (.slice (some ⟨gg, 0, none⟩) (j + 1) gc)) :=
    ⟨hB4.setCell (show w.heap.size ≤ w.heap.size + 1 + 1 by omega) _, hbx4.set _, (Kt.step HO.out.1 HO.out.2 HGU.out.2.2.2 hgrow hown).set (by omega) hbx4.b2 _⟩
   refine hK.out _ _ (fun _ => ?_) (fun hS2 => ?_)
   ·exact ⟨ckv, cc0, cd0, cd1, cd2⟩
   have hHeld4 := hS2 rfl
   clear hK K' hS2 hHeld3
   (try simp only [Act.put, jq1, jq2, jq3])
   refine G_step (i := 6) (o := _) (by kernel_rfl) rfl (fun K' hK => ?_)
   go_simp
   refine hK.out _ _ (fun h => absurd h (by decide)) (fun _ => ?_)
   clear hK K' hHeld4
   (try simp only [Act.put, jq1, jq2, jq3])
   refine G_done (by kernel_rfl) ?_ _
   clear H2 HGU HO HKS hBU hUb hUs hown hgrow hat akv ac0 ad0 ad1 ad2 bkv bc0 bd0 bd1 bd2 ckv cc0 cd0 cd1 cd2 cfz hx4 d0 d1 d2 kv c0 HJ H0 hkeep hown3 hlow hbx4 hB4 hgb
   go_wp2
   go_roundw
   case rel => exact ⟨j + 1, by omega, by go_num, _, H4⟩
   case measure => simp [intOf]; omega
  ·obtain rfl : j = t.cnt := by omega
   obtain ⟨ka, kc, rfl, hKb⟩ := HJ.out.2.2.kb
   have kv : wr.cell? ⟨w.heap.size + 1 + 1, 0, none⟩ = some (.slice ka t.cnt kc) := cell_of_cells HJ.out.2.1.b2 rfl
   have c0 : wr.cell? ⟨w.heap.size, 0, none⟩ = some (.slice ea N ec) := cell_of_cells HJ.out.2.1.b0 rfl
   have f0 : wr.cell? ⟨w.heap.size + 1, 0, none⟩ = some (.int .i64 t.kind) := cell_of_cells HJ.out.2.1.b1 rfl
   have f1 : wr.cell? ⟨w.heap.size + 1, 1, none⟩ = some (.int .i64 t.num) := cell_of_cells HJ.out.2.1.b1 rfl
   have f2 : wr.cell? ⟨w.heap.size + 1, 2, none⟩ = some (.slice a t.cnt cap) := cell_of_cells HJ.out.2.1.b1 rfl
   have HLE : Hid (N ≤ 10) := hid (by rw [HN.out]; exact HC.out.le)
   have HJB : Hid (Below w.heap.size w wr) := hid HJ.out.1
   have HWR := hid HJ.out.2.1.lt
   clear HJ HIH HKid HA
   by_cases h4 : t.kind = 4
   ·have hcn : t.cnt = 1 := by
     have h := HAR.out.2.2
     rw [h4] at h
     have e : ar 4 = 1 := by decide
     omega
    have HR : Hid (∀ s, trv E t s = (!K 0 s)) := hid (fun s => by
     have q1 := (HTF.out s).1
     have q2 := (HTF.out s).2
     rw [q1]
     unfold trF
     simp [h4, q2 0 (by omega)])
    have C := hid (each51_52 wr ea N ec (fun s => !K 0 s) (.pointer (some ⟨w.heap.size + 1 + 1, 0, none⟩)) HLE.out (fun s u hs hu => (tr52 (below_cell hu jq0 kv) (hKb.below hu) (by omega) s (by rw [HNN.out]; exact hs)).mono (fun e u' q => ⟨q.1, by rw [q.2]; exact Below.refl _ _⟩)))
    rw [h4] at f0
    generalize t.cnt = cc at *
    go_wp2_with fail
    refine C.out.mono ?_
    rintro e z2 ⟨g, rfl, g1, g2, g3⟩
    have HG : Hid (w.heap.size ≤ g ∧ z2.rowIs g 4 (2 ^ N) (fun i => .bool (trv E t i)) ∧ Below w.heap.size w z2) := hid ⟨Nat.le_trans HJB.out.size g1, g2.congr (fun i _ => by rw [HR.out i]), HJB.out.trans (g3.mono HJB.out.size)⟩
    clear g1 g2 g3 C
    go_wp2
    go_ret
    exact ⟨g, by rw [← HN.out]; rfl, HG.out.1, by rw [← HN.out]; exact HG.out.2.1, HG.out.2.2⟩
   by_cases h5 : t.kind = 5
   ·have hcn : t.cnt = 2 := by
     have h := HAR.out.2.2
     rw [h5] at h
     have e : ar 5 = 2 := by decide
     omega
    have HR : Hid (∀ s, trv E t s = (K 0 s && K 1 s)) := hid (fun s => by
     have q1 := (HTF.out s).1
     have q2 := (HTF.out s).2
     rw [q1]
     unfold trF
     simp [h5, q2 0 (by omega), q2 1 (by omega)])
    have C := hid (each51_53 wr ea N ec (fun s => K 0 s && K 1 s) (.pointer (some ⟨w.heap.size + 1 + 1, 0, none⟩)) HLE.out (fun s u hs hu => (tr53 (below_cell hu jq0 kv) (hKb.below hu) (by omega) s (by rw [HNN.out]; exact hs)).mono (fun e u' q => ⟨q.1, by rw [q.2]; exact Below.refl _ _⟩)))
    rw [h5] at f0
    generalize t.cnt = cc at *
    go_wp2_with fail
    refine C.out.mono ?_
    rintro e z2 ⟨g, rfl, g1, g2, g3⟩
    have HG : Hid (w.heap.size ≤ g ∧ z2.rowIs g 4 (2 ^ N) (fun i => .bool (trv E t i)) ∧ Below w.heap.size w z2) := hid ⟨Nat.le_trans HJB.out.size g1, g2.congr (fun i _ => by rw [HR.out i]), HJB.out.trans (g3.mono HJB.out.size)⟩
    clear g1 g2 g3 C
    go_wp2
    go_ret
    exact ⟨g, by rw [← HN.out]; rfl, HG.out.1, by rw [← HN.out]; exact HG.out.2.1, HG.out.2.2⟩
   by_cases h6 : t.kind = 6
   ·have hcn : t.cnt = 2 := by
     have h := HAR.out.2.2
     rw [h6] at h
     have e : ar 6 = 2 := by decide
     omega
    have HR : Hid (∀ s, trv E t s = (K 0 s || K 1 s)) := hid (fun s => by
     have q1 := (HTF.out s).1
     have q2 := (HTF.out s).2
     rw [q1]
     unfold trF
     simp [h6, q2 0 (by omega), q2 1 (by omega)])
    have C := hid (each51_54 wr ea N ec (fun s => K 0 s || K 1 s) (.pointer (some ⟨w.heap.size + 1 + 1, 0, none⟩)) HLE.out (fun s u hs hu => (tr54 (below_cell hu jq0 kv) (hKb.below hu) (by omega) s (by rw [HNN.out]; exact hs)).mono (fun e u' q => ⟨q.1, by rw [q.2]; exact Below.refl _ _⟩)))
    rw [h6] at f0
    generalize t.cnt = cc at *
    go_wp2_with fail
    refine C.out.mono ?_
    rintro e z2 ⟨g, rfl, g1, g2, g3⟩
    have HG : Hid (w.heap.size ≤ g ∧ z2.rowIs g 4 (2 ^ N) (fun i => .bool (trv E t i)) ∧ Below w.heap.size w z2) := hid ⟨Nat.le_trans HJB.out.size g1, g2.congr (fun i _ => by rw [HR.out i]), HJB.out.trans (g3.mono HJB.out.size)⟩
    clear g1 g2 g3 C
    go_wp2
    go_ret
    exact ⟨g, by rw [← HN.out]; rfl, HG.out.1, by rw [← HN.out]; exact HG.out.2.1, HG.out.2.2⟩
   by_cases h8 : t.kind = 8
   ·have hcn : t.cnt = 2 := by
     have h := HAR.out.2.2
     rw [h8] at h
     have e : ar 8 = 2 := by decide
     omega
    obtain ⟨hpp, hpl⟩ := HPE.out (by omega)
    have HR : Hid (∀ s, trv E t s = (K 1 s || (K 0 s && bt s (pl E t)))) := hid (fun s => by
     have q1 := (HTF.out s).1
     have q2 := (HTF.out s).2
     rw [q1]
     unfold trF
     simp [h8, q2 0 (by omega), q2 1 (by omega)])
    have C1 := hid (chosen50 (tc := cap) (HC.out.below HJB.out) HK0.out HBG.out hpp hpl)
    rw [← HN.out] at C1
    rw [h8] at f0 C1
    rw [hcn] at C1
    clear hpp hpl
    generalize t.cnt = cc at *
    go_wp2_with fail
    refine C1.out.mono ?_
    rintro e z1 ⟨lg, rfl, l1, l2, l3⟩
    clear C1
    obtain ⟨z2, hz2⟩ : ∃ y, y = z1.alloc (.cells #[.slice (some ⟨lg, 0, none⟩) (2 ^ N) (2 ^ N)] 44) := ⟨_, rfl⟩
    have hb2 : Below wr.heap.size wr z2 := by rw [hz2]; exact l3.alloc l3.size _
    have kv2 := below_cell hb2 jq0 kv
    have c02 := below_cell l3 jq0 c0
    have hlz : w.heap.size < z1.heap.size := Nat.lt_of_lt_of_le (by have := HWR.out; omega) l3.size
    have lb2 : z2.cell? ⟨z1.heap.size, 0, none⟩ = some (.slice (some ⟨lg, 0, none⟩) n n) := by rw [hz2, HNN.out]; exact cell_of_alloc rfl
    have lr2 : z2.rowIs lg 4 n (fun s => .bool (bt s (pl E t))) := by rw [hz2, HNN.out]; exact rowIs_below l2 (box_below _ _)
    have kb2 := hKb.below hb2
    have C := hid (each51_55 z2 ea N ec (fun s => K 1 s || (K 0 s && bt s (pl E t))) (.pointer (some ⟨w.heap.size + 1 + 1, 0, none⟩)) (.pointer (some ⟨z1.heap.size, 0, none⟩)) HLE.out (fun s u hs hu => (tr55 (F := fun s => bt s (pl E t)) (below_cell hu jq0 kv2) (kb2.below hu) (below_cell hu jq0 lb2) (rowIs_rowB (rowIs_below lr2 hu)) (by omega) s (by rw [HNN.out]; exact hs)).mono (fun e u' q => ⟨q.1, by rw [q.2]; exact Below.refl _ _⟩)))
    have HZ2 := hid hz2
    have HB2 : Hid (Below w.heap.size w z2) := hid (HJB.out.trans (hb2.mono HJB.out.size))
    clear hz2 hb2 l1 l2 l3 lb2 lr2 kb2 kv2
    go_wp2_with fail
    try rw [← HZ2.out]
    refine C.out.mono ?_
    rintro e z3 ⟨g, rfl, g1, g2, g3⟩
    have HG : Hid (w.heap.size ≤ g ∧ z3.rowIs g 4 (2 ^ N) (fun i => .bool (trv E t i)) ∧ Below w.heap.size w z3) := hid ⟨Nat.le_trans HB2.out.size g1, g2.congr (fun i _ => by rw [HR.out i]), HB2.out.trans (g3.mono HB2.out.size)⟩
    clear g1 g2 g3 C
    go_wp2
    go_ret
    exact ⟨g, by rw [← HN.out]; rfl, HG.out.1, by rw [← HN.out]; exact HG.out.2.1, HG.out.2.2⟩
   by_cases h9 : t.kind = 9
   ·have hcn : t.cnt = 2 := by
     have h := HAR.out.2.2
     rw [h9] at h
     have e : ar 9 = 2 := by decide
     omega
    obtain ⟨hpp, hpl⟩ := HPE.out (by omega)
    have HR : Hid (∀ s, trv E t s = (K 1 s && (K 0 s || bt s (pl E t)))) := hid (fun s => by
     have q1 := (HTF.out s).1
     have q2 := (HTF.out s).2
     rw [q1]
     unfold trF
     simp [h9, q2 0 (by omega), q2 1 (by omega)])
    have C1 := hid (chosen50 (tc := cap) (HC.out.below HJB.out) HK0.out HBG.out hpp hpl)
    rw [← HN.out] at C1
    rw [h9] at f0 C1
    rw [hcn] at C1
    clear hpp hpl
    generalize t.cnt = cc at *
    go_wp2_with fail
    refine C1.out.mono ?_
    rintro e z1 ⟨lg, rfl, l1, l2, l3⟩
    clear C1
    obtain ⟨z2, hz2⟩ : ∃ y, y = z1.alloc (.cells #[.slice (some ⟨lg, 0, none⟩) (2 ^ N) (2 ^ N)] 44) := ⟨_, rfl⟩
    have hb2 : Below wr.heap.size wr z2 := by rw [hz2]; exact l3.alloc l3.size _
    have kv2 := below_cell hb2 jq0 kv
    have c02 := below_cell l3 jq0 c0
    have hlz : w.heap.size < z1.heap.size := Nat.lt_of_lt_of_le (by have := HWR.out; omega) l3.size
    have lb2 : z2.cell? ⟨z1.heap.size, 0, none⟩ = some (.slice (some ⟨lg, 0, none⟩) n n) := by rw [hz2, HNN.out]; exact cell_of_alloc rfl
    have lr2 : z2.rowIs lg 4 n (fun s => .bool (bt s (pl E t))) := by rw [hz2, HNN.out]; exact rowIs_below l2 (box_below _ _)
    have kb2 := hKb.below hb2
    have C := hid (each51_56 z2 ea N ec (fun s => K 1 s && (K 0 s || bt s (pl E t))) (.pointer (some ⟨w.heap.size + 1 + 1, 0, none⟩)) (.pointer (some ⟨z1.heap.size, 0, none⟩)) HLE.out (fun s u hs hu => (tr56 (F := fun s => bt s (pl E t)) (below_cell hu jq0 kv2) (kb2.below hu) (below_cell hu jq0 lb2) (rowIs_rowB (rowIs_below lr2 hu)) (by omega) s (by rw [HNN.out]; exact hs)).mono (fun e u' q => ⟨q.1, by rw [q.2]; exact Below.refl _ _⟩)))
    have HZ2 := hid hz2
    have HB2 : Hid (Below w.heap.size w z2) := hid (HJB.out.trans (hb2.mono HJB.out.size))
    clear hz2 hb2 l1 l2 l3 lb2 lr2 kb2 kv2
    go_wp2_with fail
    try rw [← HZ2.out]
    refine C.out.mono ?_
    rintro e z3 ⟨g, rfl, g1, g2, g3⟩
    have HG : Hid (w.heap.size ≤ g ∧ z3.rowIs g 4 (2 ^ N) (fun i => .bool (trv E t i)) ∧ Below w.heap.size w z3) := hid ⟨Nat.le_trans HB2.out.size g1, g2.congr (fun i _ => by rw [HR.out i]), HB2.out.trans (g3.mono HB2.out.size)⟩
    clear g1 g2 g3 C
    go_wp2
    go_ret
    exact ⟨g, by rw [← HN.out]; rfl, HG.out.1, by rw [← HN.out]; exact HG.out.2.1, HG.out.2.2⟩
   have HR : Hid (∀ s, trv E t s = (t.kind == 1)) := hid (fun s => by
    have q1 := (HTF.out s).1
    rw [q1]
    unfold trF
    simp [h3, h7, h4, h5, h6, h8, h9])
   have b4 : (t.kind == 4) = false := beq_eq_false_iff_ne.2 h4
   have b5 : (t.kind == 5) = false := beq_eq_false_iff_ne.2 h5
   have b6 : (t.kind == 6) = false := beq_eq_false_iff_ne.2 h6
   have b8 : (t.kind == 8) = false := beq_eq_false_iff_ne.2 h8
   have b9 : (t.kind == 9) = false := beq_eq_false_iff_ne.2 h9
   have C := hid (each51_57 wr ea N ec (fun _ => t.kind == 1) (.pointer (some ⟨w.heap.size + 1, 0, none⟩)) HLE.out (fun s u hs hu => (tr57 (below_cell hu jq0 f0) s).mono (fun e u' q => ⟨q.1, by rw [q.2]; exact Below.refl _ _⟩)))
   go_wp2_with fail
   refine C.out.mono ?_
   rintro e z2 ⟨g, rfl, g1, g2, g3⟩
   have HG : Hid (w.heap.size ≤ g ∧ z2.rowIs g 4 (2 ^ N) (fun i => .bool (trv E t i)) ∧ Below w.heap.size w z2) := hid ⟨Nat.le_trans HJB.out.size g1, g2.congr (fun i _ => by rw [HR.out i]), HJB.out.trans (g3.mono HJB.out.size)⟩
   clear g1 g2 g3 C
   go_wp2
   go_ret
   exact ⟨g, by rw [← HN.out]; rfl, HG.out.1, by rw [← HN.out]; exact HG.out.2.1, HG.out.2.2⟩
theorem truths_any {w0 : World} {E : List Fml} {ea : Option Addr} {ec : Nat} : ∀ t, Wf t → InE E t → Tt w0 E ea ec t := by
 intro t
 induction t using Fml.ind with
 | h t ih =>
  intro hw hE
  have hself : (t.kind = 3 ∨ t.kind = 7 ∨ t.kind = 8 ∨ t.kind = 9) → t ∈ E := hE t (by rw [pts_eq]; exact List.mem_cons_self)
  by_cases h3 : t.kind = 3
  ·exact truths_early hw (hself (Or.inl h3)) (Or.inl h3)
  by_cases h7 : t.kind = 7
  ·exact truths_early hw (hself (Or.inr (Or.inl h7))) (Or.inr h7)
  exact truths_rest hw h3 h7 (fun q => hself (Or.inr (Or.inr q))) (fun i hi => ih i hi (hw.out.2 i hi) (hE.kid hi))
end Go.Proofs.YtmdpbaobihdgkaaGreatDoor
