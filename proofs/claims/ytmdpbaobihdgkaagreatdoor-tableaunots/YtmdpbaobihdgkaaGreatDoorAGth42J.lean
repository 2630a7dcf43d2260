/-   -/
import Derived.Test.YtmdpbaobihdgkaaGreatDoorAGthJ
import Derived.Test.YtmdpbaobihdgkaaGreatDoorARl2
/- gather, over the closure 42. -/
/- The closures of Single; where. -/
set_option linter.unusedSimpArgs false
namespace Go.Proofs.YtmdpbaobihdgkaaGreatDoor
open Go.RowKit Go.Shelf Go.Maps
def ItD (u u' : World) (B : Nat) (v : Value) (xs : List (Nat × Nat)) (all : List Pr) : Prop :=
 ∃ gf lb bs, v = .func (.func gf) #[] lb ∧ Itd 8 gf lb all bs u' ∧ (∀ args w, (callFunc gf args).run Tryz.prog w = .ok (.enter gf args) w) ∧ all.map prn = xs ∧ (∀ b, bs b → b < u'.heap.size ∧ (b < B ∨ u.heap.size ≤ b)) ∧ all.length ≤ 4194304
set_option maxRecDepth 100000 in
set_option maxHeartbeats 4000000 in
theorem gather42_any (v0 : Value) (caps : Array Value) (all0 : List Pr) (nx : Nat × Nat → List (Nat × Nat)) (Pd : Nat × Nat → Prop) (w w0 : World) (hb0 : Below w0.heap.size w0 w) (hst : ItD w0 w0 w.heap.size v0 (all0.map prn) all0) (c1 c2 c3 : Value) (hcaps : caps = #[c1, c2, c3])
  (h0 : ∀ x ∈ all0, Pd (prn x)) (hPd : ∀ p, Pd p → ∀ q ∈ nx p, Pd q)
  (hnx : ∀ (p : Nat × Nat) (u : World), Below w.heap.size w u → Pd p → Calls Tryz.prog 36 #[.agg #[.int .i64 ((p.1 : Nat) : Int), .int .i64 ((p.2 : Nat) : Int)], c1, c2, c3] u fun e u' => ∃ v all, e = .returned v ∧ Below u.heap.size u u' ∧ ItD u u' w.heap.size v (nx p) all) :
  Calls Tryz.prog 33 #[v0, .func (.func 36) #[] caps] w fun e w' => GaIs w all0 nx e w' := by
 subst hcaps
 obtain ⟨gf, lb, bs, rfl, hit, hent, _, hbs, hlen⟩ := hst
 obtain ⟨W0, hW0, hbW, hsW, hRW, hres⟩ := ga_world w
 have H42 := hid hnx
 have HPD := hid (And.intro h0 hPd)
 have hmm := @run_makeMap Tryz.prog
 have C := hid (rlist_any2 gf lb all0 bs (w.heap.size + 1 + 1) (w.heap.size + 1) (.slice none 0 0) [] (.map []) W0 w0 hent hit (hb0.trans (hbW.mono hb0.size)) hRW (by simp) (fun b hb => by
  have h1 := (hbs b hb).1
  have h2 := hb0.size
  have h3 := hbW.size
  refine ⟨by omega, fun hx => ?_⟩
  rcases hx with hx | hx | hx
  ·omega
  ·omega
  ·simp [Value.ownBlock] at hx) hlen)
 have HW := hid (And.intro hW0 (And.intro hbW (And.intro hsW (And.intro hRW hres))))
 obtain ⟨i0, hi, hz0, hz1, hz2⟩ := info_parts Tryz.info29
 have HI : Hid (Tryz.prog.info? 29 = some i0 ∧ i0.zero = some (.slice none 0 0) ∧ i0.size = 1 ∧ i0.bytes = 24) := ⟨hi, hz0, hz1, hz2⟩
 clear hi hz0 hz1 hz2 h0 hPd hnx hit hent hbs hlen hb0 hbW hsW hRW hres hW0
 go_enter Tryz.func33, Tryz.ntmps33
 go_wp2_with fail
 rw [HW.out.1]
 refine C.out.mono ?_
 rintro e w1 hRl
 have hab : w.heap.size < w1.heap.size := by
  have h1 := HW.out.2.2.1
  rcases hRl with ⟨_, _, _, _, _, _, _, h, _⟩ | ⟨_, _, h⟩ <;> have := h.size <;> omega
 rcases hRl with ⟨hl2, lv, pv, D, rfl, hR1, hown1, hf1, hloc1, hap1⟩ | ⟨hbig, rfl, hf1⟩
 ·have hq0 : qp [] all0 = gQ nx (all0.map prn) 0 := rfl
  rw [hq0] at hl2 hR1 hown1
  obtain ⟨la, lc, hlv, _⟩ := owns_row hown1
  subst hlv
  have hbw1 := hf1.below HW.out.2.1 (fun b hb hx => by
   rcases hx with hx | hx | hx
   ·omega
   ·omega
   ·simp [Value.ownBlock] at hx)
  have hres1 : w1.heap[w.heap.size]? = some (.cells nil5 32) := by
   rw [hf1.block _ (by have := HW.out.2.2.1; omega) (fun hx => by
    rcases hx with hx | hx | hx
    ·omega
    ·omega
    ·simp [Value.ownBlock] at hx)]
   exact HW.out.2.2.2.2
  have hbx := box_below w1 (.cells (two5 (.slice la (cs (nms (gQ nx (all0.map prn) 0) all0)).length lc) (.slice none 0 0)) 32)
  have HG0 : Hid (Ga w (w.heap.size + 1 + 1) (w.heap.size + 1) w1.heap.size (.slice la (cs (nms (gQ nx (all0.map prn) 0) all0)).length lc) all0 nx 0 (w1.alloc (.cells (two5 (.slice la (cs (nms (gQ nx (all0.map prn) 0) all0)).length lc) (.slice none 0 0)) 32)) pv (.slice none 0 0) [] D) := by
   refine hid ⟨hR1.below hbx, ⟨Go.Deep.blk_alloc_new _ _, owns_below (owns_mono hown1 HW.out.2.1.size) hbx, ⟨World.ownsRow_nil _ _ _ _, fun i hi => absurd hi (Nat.not_lt_zero _)⟩, hbw1.trans (hbx.mono hbw1.size), (hbx.block _ hab).trans hres1⟩, fun b hb => ?_, Nat.zero_le _, hl2⟩
   rcases hloc1 with e | e
   ·rw [e] at hb; simp [Value.ownBlock] at hb
   ·exact Nat.le_trans HW.out.2.1.size (e b hb)
  have HAB := hid hab
  obtain ⟨ab, habe⟩ : ∃ ab, w1.heap.size = ab := ⟨_, rfl⟩
  clear hf1 hloc1 hap1 hR1 hown1 hres1 hbw1 hbx hl2 hq0 C hmm hab
  go_wp2
  rw [habe] at HG0 HAB
  generalize (w1.alloc (.cells (two5 (.slice la (cs (nms (gQ nx (all0.map prn) 0) all0)).length lc) (.slice none 0 0)) 32)) = w2 at *
  clear habe
  generalize (Value.slice la (cs (nms (gQ nx (all0.map prn) 0) all0)).length lc) = sv at *
  go_loopw [11] (fun i wr => ∃ (k : Nat) (pv nv : Value) (V : List Value) (D : DataW Unit), k ≤ 2048 ∧ i = .int .i64 k ∧ Hid (Ga w (w.heap.size + 1 + 1) (w.heap.size + 1) ab sv all0 nx k wr pv nv V D)) (fun i _ => 2049 - (intOf i).toNat)
  case atStart => exact ⟨0, pv, _, _, D, by omega, rfl, HG0.out⟩
  case round =>
   clear HG0
   obtain ⟨k, pv, nv, V, D, hk, rfl, H⟩ := hrel
   have hle := H.out.le
   have hl2 := H.out.l2
   obtain ⟨pa, pc, hpv, ⟨pb, hpa, hpc⟩, _⟩ := owns_pr H.out.rol.own
   have yr1 : wr.cell? ⟨w.heap.size + 1 + 1, 1, none⟩ = some pv := cell_of_cells H.out.rol.blk rfl
   subst hpv
   obtain ⟨L, hL⟩ : ∃ L, gQ nx (all0.map prn) k = L := ⟨_, rfl⟩
   rw [hL] at hpa hpc yr1 hle hl2
   by_cases hlt : k < L.length
   ·obtain rfl := hpa (by omega)
    obtain ⟨z0, z1⟩ := hpc k hlt
    obtain ⟨p, hp⟩ : ∃ p, nAt L k = p := ⟨_, rfl⟩
    rw [hp] at z0 z1
    have hpd : Pd p := by
     have hm : p ∈ nAll nx k (all0.map prn) := by rw [show nAll nx k (all0.map prn) = L from hL, ← hp]; exact nAt_mem hlt
     refine nRun_all (P := Pd) HPD.out.2 k 0 (fun x hx => ?_) p hm
     rcases (mem_nAdds _ _).1 hx with hx | hx
     ·cases hx
     ·obtain ⟨y, hy, rfl⟩ := List.mem_map.1 hx
      exact HPD.out.1 y hy
    have C1 := hid (H42.out p wr H.out.mem.low hpd)
    clear hpc hpd
    go_wp2_with fail
    refine C1.out.mono ?_
    rintro e W1 ⟨v, all, rfl, hb1, hItD⟩
    obtain ⟨gf1, lb1, bs1, rfl, hit1, hent1, hall1, hbs1, hlen1⟩ := hItD
    have hR1 := H.out.rol.below hb1
    rw [hL] at hR1
    have hap := H.out.rol.apart
    have hwl := H.out.mem.low.size
    have C2 := hid (rlist_any2 gf1 lb1 all bs1 (w.heap.size + 1 + 1) (w.heap.size + 1) (.slice (some ⟨pb, 0, none⟩) L.length pc) L D W1 W1 hent1 hit1 (Below.refl _ _) hR1 hl2 (fun b hb => by
     obtain ⟨h1, h2⟩ := hbs1 b hb
     refine ⟨h1, fun hx => ?_⟩
     have hq : b < wr.heap.size ∧ w.heap.size ≤ b := by
      rcases hx with hx | hx | hx
      ·exact ⟨by rw [hx]; exact hap.2.2.1, by omega⟩
      ·exact ⟨by rw [hx]; exact hap.2.2.2, by omega⟩
      ·have hx2 : (Value.slice (some ⟨pb, 0, none⟩) (gQ nx (all0.map prn) k).length pc).ownBlock = some b := hx
       exact ⟨(H.out.rol.own.lt b hx2).2, H.out.pvb b hx2⟩
     omega) hlen1)
    have HB1 := hid hb1
    have HAL := hid hall1
    clear hit1 hent1 hbs1 hlen1 hb1 hR1 hap z0 z1 yr1 hall1
    go_wp2_with fail
    refine C2.out.mono ?_
    rintro e W2 hRl
    have hf2 : Fr (rex (w.heap.size + 1 + 1) (w.heap.size + 1) (.slice (some ⟨pb, 0, none⟩) L.length pc)) W1 W2 := by
     rcases hRl with ⟨_, _, _, _, _, _, _, h, _⟩ | ⟨_, _, h⟩ <;> exact h
    have hM2 : Gm w ab sv _ k _ W2 nv V := (H.out.mem.below HB1.out).roll (H.out.rol.below HB1.out) (by omega) (by omega) H.out.pvb (by rw [hL]; exact hf2)
    have HM2 := hid hM2
    rcases hRl with ⟨hq2, lv, pv', D', rfl, hR2, hown2, _, hloc2, _⟩ | ⟨hbig, rfl, _⟩
    ·obtain ⟨la2, lc2, hlv, _⟩ := owns_row hown2
     subst hlv
     have x1 : W2.cell? ⟨ab, 1, none⟩ = some nv := cell_of_cells hM2.aut rfl
     obtain ⟨na, nc, hnv⟩ := owns_sl hM2.rws.top
     have hVl : V.length = k := by have := hM2.rws.top.1; omega
     have HH := hid (And.intro hq2 (And.intro hR2 (And.intro hown2 (And.intro hloc2 hf2))))
     have hw2 : w.heap.size ≤ W2.heap.size := hM2.low.size
     subst hnv
     clear hq2 hR2 hown2 hloc2 hf2 hM2 C2 C1
     go_wp2_with (at_builtin; refine wpList_append_own_at _ rfl _ _ 30 rfl w.heap.size 29 i0 (.slice none 0 0) 1 24 Tryz.underlying30 HI.out.1 HI.out.2.1 HI.out.2.2.1 HI.out.2.2.2 rfl (by decide) _ _ _ rfl (HM2.out.rws.top.alloc _) ⟨W2.heap.size, 0, none⟩ 1 1 [.slice la2 (cs (nms (qp L all) all)).length lc2] rfl rfl (cell_one_new _ _ _) (by simp [Value.oneCell']) (by unfold maxLen; omega) (by omega) (by simp; omega) ?_; intro v' W3 hown' hgrow hnil hloc; subst hL; subst hp; obtain ⟨g1, g2, G⟩ := H.out.next hlt HAB.out (by omega) (by omega) HAL.out HB1.out HH.out.1 HH.out.2.1 HH.out.2.2.1 HH.out.2.2.2.2 HH.out.2.2.2.1 hown' hgrow; obtain ⟨na2, nc2, hnv2⟩ := owns_sl hown'; subst hnv2; clear hown' hgrow hnil hloc x1)
     go_roundw
     case rel => exact ⟨k + 1, _, _, _, _, by omega, by go_num, G⟩
     case measure => simp [intOf]; omega
    ·obtain ⟨⟨y0, y1, y2, y3, y4⟩, yf⟩ := five_cells hM2.res
     have f0 := yf 0
     have f1 := yf 1
     have f2 := yf 2
     have f3 := yf 3
     have f4 := yf 4
     obtain ⟨X, hX⟩ : ∃ X, (((((W2.setCell ⟨w.heap.size, 0, none⟩ (.slice none 0 0)).setCell ⟨w.heap.size, 1, none⟩ (.slice none 0 0)).setCell ⟨w.heap.size, 2, none⟩ (.slice none 0 0)).setCell ⟨w.heap.size, 3, none⟩ (.slice none 0 0)).setCell ⟨w.heap.size, 4, none⟩ (.slice none 0 0)) = X := ⟨_, rfl⟩
     obtain ⟨hx5, hxb⟩ := set5 _ _ _ _ _ hM2.res hX
     obtain ⟨⟨k0, k1, k2, k3, k4⟩, _⟩ := five_cells hx5
     have hb := hM2.low
     have HXB := hid (hb.trans (hxb.below jq0 hb.size))
     have HBG : Hid (2048 < (gQ nx (all0.map prn) (k + 1)).length) := by
      subst hL
      rw [gQ_some (nAt_some hlt), hp, ← HAL.out]
      exact hbig
     clear hbig hf2 yf C2 C1 hxb hx5 hM2 hb
     go_wp2
     refine ⟨rfl, .tuple #[.agg nil5, .slice none 0 0, .int .i64 2], by simp [results, Tryz.f33, go_sem, k0, k1, k2, k3, k4], ?_⟩
     exact Or.inr ⟨⟨k + 1, HBG.out⟩, rfl, HXB.out⟩
   ·subst hL
    have HKL : Hid ((gQ nx (all0.map prn) k).length = k) := hid (by omega)
    have hM := H.out.mem
    obtain ⟨sa, sc, hsv⟩ := owns_sl hM.sta
    rename_i sv' _
    obtain ⟨na, nc, hnv⟩ := owns_sl hM.rws.top
    subst hsv
    subst hnv
    obtain ⟨⟨x0, x1, x2, x3, x4⟩, _⟩ := five_cells hM.aut
    obtain ⟨⟨y0, y1, y2, y3, y4⟩, yf⟩ := five_cells hM.res
    have f0 := yf 0
    have f1 := yf 1
    have f2 := yf 2
    have f3 := yf 3
    have f4 := yf 4
    obtain ⟨X, hX⟩ : ∃ X, (((((wr.setCell ⟨w.heap.size, 0, none⟩ (.slice sa (cs (nms (gQ nx (all0.map prn) k) all0)).length sc)).setCell ⟨w.heap.size, 1, none⟩ (.slice na k nc)).setCell ⟨w.heap.size, 2, none⟩ (.slice none 0 0)).setCell ⟨w.heap.size, 3, none⟩ (.slice none 0 0)).setCell ⟨w.heap.size, 4, none⟩ (.slice none 0 0)) = X := ⟨_, rfl⟩
    obtain ⟨hx5, hxb⟩ := set5 _ _ _ _ _ hM.res hX
    obtain ⟨⟨k0, k1, k2, k3, k4⟩, _⟩ := five_cells hx5
    have HF := hid (H.out.fin HKL.out (hxb.trans ((Sm.refl X).drew.but _)))
    have hne : ab ≠ w.heap.size := by have := HAB.out; omega
    have hS0 : (fun z : World => z.cell? ⟨ab, 0, none⟩ = some (.slice sa (cs (nms (gQ nx (all0.map prn) k) all0)).length sc) ∧ z.cell? ⟨ab, 1, none⟩ = some (.slice na k nc) ∧ z.cell? ⟨ab, 2, none⟩ = some (.slice none 0 0) ∧ z.cell? ⟨ab, 3, none⟩ = some (.slice none 0 0) ∧ z.cell? ⟨ab, 4, none⟩ = some (.slice none 0 0) ∧ z.cell? ⟨w.heap.size + 1 + 1, 1, none⟩ = some (.slice pa (gQ nx (all0.map prn) k).length pc)) wr.drew := ⟨x0, x1, x2, x3, x4, yr1⟩
    have hS1 : (fun z : World => z.cell? ⟨ab, 0, none⟩ = some (.slice sa (cs (nms (gQ nx (all0.map prn) k) all0)).length sc) ∧ z.cell? ⟨ab, 1, none⟩ = some (.slice na k nc) ∧ z.cell? ⟨ab, 2, none⟩ = some (.slice none 0 0) ∧ z.cell? ⟨ab, 3, none⟩ = some (.slice none 0 0) ∧ z.cell? ⟨ab, 4, none⟩ = some (.slice none 0 0) ∧ z.cell? ⟨w.heap.size + 1 + 1, 1, none⟩ = some (.slice pa (gQ nx (all0.map prn) k).length pc)) X.drew := ⟨hxb.cell hne x0, hxb.cell hne x1, hxb.cell hne x2, hxb.cell hne x3, hxb.cell hne x4, hxb.cell (by show w.heap.size + 1 + 1 ≠ w.heap.size; omega) yr1⟩
    clear hpc hM yf hx5 hxb
    go_wp2_with fail
    refine G_region (fun z : World => z.cell? ⟨ab, 0, none⟩ = some (.slice sa (cs (nms (gQ nx (all0.map prn) k) all0)).length sc) ∧ z.cell? ⟨ab, 1, none⟩ = some (.slice na k nc) ∧ z.cell? ⟨ab, 2, none⟩ = some (.slice none 0 0) ∧ z.cell? ⟨ab, 3, none⟩ = some (.slice none 0 0) ∧ z.cell? ⟨ab, 4, none⟩ = some (.slice none 0 0) ∧ z.cell? ⟨w.heap.size + 1 + 1, 1, none⟩ = some (.slice pa (gQ nx (all0.map prn) k).length pc)) (fun _ => false) (by kernel_rfl) hS0 (fun _ => ?_)
    refine G_tk (i := 0) (oi := { dst := some 55, op := Op.load 32 (Operand.tmp 10), type := 32, pos := _, after := #[], guard := none }) (v := .agg #[.slice sa (cs (nms (gQ nx (all0.map prn) k) all0)).length sc, .slice na k nc, .slice none 0 0, .slice none 0 0, .slice none 0 0]) hS0 ?_
    (try simp only [Act.put, jq1, jq2, jq3])
    refine G_tk (i := 1) (oi := { dst := some 56, op := Op.fieldAddr 128 (Operand.tmp 7) 1, type := 0, pos := _, after := #[{ on := 3, ground := Ground.gcOnly Departure.lateStores }], guard := none }) (v := .pointer (some ⟨w.heap.size + 1 + 1, 1, none⟩)) hS0 ?_
    (try simp only [Act.put, jq1, jq2, jq3])
    refine G_tk (i := 2) (oi := { dst := some 57, op := Op.load 78 (Operand.tmp 56), type := 78, pos := _, after := #[{ on := 1, ground := Ground.data }, { on := 3, ground := Ground.gcOnly Departure.lateStores }], guard := none }) (v := .slice pa (gQ nx (all0.map prn) k).length pc) hS0 ?_
    (try simp only [Act.put, jq1, jq2, jq3])
    refine G_step (i := 3) (o := _) (by kernel_rfl) rfl (fun K' hK => ?_)
    go_simp
    (try rw [hX])
    refine hK.out _ _ (fun _ => hS1) (fun _ => ?_)
    (try simp only [Act.put, jq1, jq2, jq3])
    refine G_step (i := 4) (o := _) (by kernel_rfl) rfl (fun K' hK => ?_)
    go_simp
    refine hK.out _ _ (fun _ => hS1) (fun _ => ?_)
    (try simp only [Act.put, jq1, jq2, jq3])
    refine G_step (i := 5) (o := _) (by kernel_rfl) rfl (fun K' hK => ?_)
    go_simp
    refine hK.out _ _ (fun _ => hS1) (fun _ => ?_)
    (try simp only [Act.put, jq1, jq2, jq3])
    refine G_done (by kernel_rfl) ?_ _
    dsimp only [Exit.then]
    go_wp2
    refine ⟨rfl, .tuple #[.agg #[.slice sa (cs (nms (gQ nx (all0.map prn) k) all0)).length sc, .slice na k nc, .slice none 0 0, .slice none 0 0, .slice none 0 0], .slice pa (gQ nx (all0.map prn) k).length pc, .int .i64 0], by simp [results, Tryz.f33, go_sem, k0, k1, k2, k3, k4], ?_⟩
    exact HF.out
 ·have hres1 : w1.heap[w.heap.size]? = some (.cells nil5 32) := by
   rw [hf1.block _ (by have := HW.out.2.2.1; omega) (fun hx => by
    rcases hx with hx | hx | hx
    ·omega
    ·omega
    ·simp [Value.ownBlock] at hx)]
   exact HW.out.2.2.2.2
  obtain ⟨⟨y0, y1, y2, y3, y4⟩, yf⟩ := five_cells hres1
  have f0 := yf 0
  have f1 := yf 1
  have f2 := yf 2
  have f3 := yf 3
  have f4 := yf 4
  have HF := hid (And.intro hbig hf1)
  obtain ⟨X, hX⟩ : ∃ X, (((((w1.setCell ⟨w.heap.size, 0, none⟩ (.slice none 0 0)).setCell ⟨w.heap.size, 1, none⟩ (.slice none 0 0)).setCell ⟨w.heap.size, 2, none⟩ (.slice none 0 0)).setCell ⟨w.heap.size, 3, none⟩ (.slice none 0 0)).setCell ⟨w.heap.size, 4, none⟩ (.slice none 0 0)) = X := ⟨_, rfl⟩
  obtain ⟨hx5, hxb⟩ := set5 _ _ _ _ _ hres1 hX
  obtain ⟨⟨k0, k1, k2, k3, k4⟩, _⟩ := five_cells hx5
  have HXB := hid hxb
  clear hbig hf1 hres1 yf C hxb hx5
  go_wp2
  refine ⟨rfl, .tuple #[.agg nil5, .slice none 0 0, .int .i64 2], by simp [results, Tryz.f33, go_sem, k0, k1, k2, k3, k4], ?_⟩
  have hb := HF.out.2.below HW.out.2.1 (fun b hb hx => by
   rcases hx with hx | hx | hx
   ·omega
   ·omega
   ·simp [Value.ownBlock] at hx)
  exact Or.inr ⟨⟨0, HF.out.1⟩, rfl, hb.trans (HXB.out.below jq0 hb.size)⟩
end Go.Proofs.YtmdpbaobihdgkaaGreatDoor
namespace Go.Proofs.YtmdpbaobihdgkaaGreatDoor
open Go.RowKit Go.Shelf Go.Maps
theorem box2 (w : World) (x y : Value) (t : TypeId) : ∃ W, w.alloc (.cells #[x, y] t) = W ∧ Below w.heap.size w W ∧ W.heap.size = w.heap.size + 1 ∧ W.cell? ⟨w.heap.size, 0, none⟩ = some x ∧ W.cell? ⟨w.heap.size, 1, none⟩ = some y :=
 ⟨_, rfl, box_below _ _, by simp, cell_of_alloc rfl, cell_of_alloc rfl⟩
theorem onN_le {Z : Nat → Int} {k G : Nat} (hG : G ≤ 2048) (h : ∀ i, i < k → 0 ≤ Z i ∧ Z i < G) : (onN Z k).length ≤ 2048 := onN_len (fun i hi => by have := h i hi; omega)
theorem aNx_len {A : Ax} (h : chkA A = 0) (q : Nat) : (aNx A q).length ≤ 2048 := by
 obtain ⟨hG, _, _, _, _, h1, _⟩ := chkA_ok h
 unfold aNx
 by_cases hq : q < A.G
 ·rw [if_pos hq]; exact onN_le hG (h1 q hq)
 ·rw [if_neg hq]; simp
theorem aSt_len {A : Ax} (h : chkA A = 0) : (aSt A).length ≤ 2048 := by
 obtain ⟨hG, _, _, _, h1, _⟩ := chkA_ok h
 exact onN_le hG h1
end Go.Proofs.YtmdpbaobihdgkaaGreatDoor
