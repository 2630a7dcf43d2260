/- The document's True, of formulas of the Kind 8. -/
import Derived.Test.YtejombhfkobcbaaDoorOw
namespace Go.Proofs.YtejombhfkobcbaaDoor
open Go.RowKit

set_option maxHeartbeats 16000000 in
set_option maxRecDepth 20000 in
theorem true_k8 (sa : Option Addr) (s sc : Nat) (la : Option Addr) (m n lc : Nat) (S L : Nat → Int) (R : Fml → Nat → Bool) (HN : Hid (n = s + m)) (HR : Hid (R = hb n (atm s m S L))) (hn60 : n ≤ 60) (hm : 0 < m) :
    ∀ (t : Fml), t.kind = 8 → (∀ i, i < t.cnt → ∀ (a : Option Addr) (cap : Nat) (w : World), Kds w (t.kid i) a → Wf (t.kid i) → Wd w sa s la m S L → Calls Tryd.prog 15 #[.agg #[.int .i64 (t.kid i).kind, .int .i64 (t.kid i).num, .slice a (t.kid i).cnt cap], .agg #[.slice sa s sc, .slice la m lc]] w fun e w' => NewB w n (R (t.kid i)) e w') →
    ∀ (a : Option Addr) (cap : Nat) (w : World), Kds w t a → Wf t → Wd w sa s la m S L →
    Calls Tryd.prog 15 #[.agg #[.int .i64 t.kind, .int .i64 t.num, .slice a t.cnt cap], .agg #[.slice sa s sc, .slice la m lc]] w fun e w' => NewB w n (R t) e w' := by
  intro t hkd0 ih a cap w hK hW hZ
  obtain ⟨b, o, ha, hkid⟩ := hK.out
  obtain ⟨hfit, hWk⟩ := hW.out
  obtain ⟨_, _, har⟩ := fit_kind hfit
  have hx3 := (fit_parts hfit).2
  have HP : Hid (∀ p, R t p = hbF n (atm s m S L) t (t.reds (fun _ => false) (hbF n (atm s m S L))) p) := fun p => by rw [HR.out]; exact hb_eq _ _ t p
  have HKK : Hid (∀ i, i < t.cnt → t.reds (fun _ => false) (hbF n (atm s m S L)) i = R (t.kid i)) := fun i hi => by rw [HR.out]; exact hb_kid hi
  have HPer : Hid (∀ i, Per s m (R (t.kid i))) := fun i => by rw [HR.out, HN.out]; exact hb_per hm (atm_per s m S L) _
  have hc2 : t.cnt ≤ 2 := by
    have : ar t.kind ≤ 2 := by unfold ar; split; omega; split; omega; split <;> omega
    omega
  obtain ⟨i0, hi0, hz0, hz1, hz2⟩ := info_parts Tryd.info34
  have HI : Hid (Tryd.prog.info? 34 = some i0 ∧ i0.zero = some (.slice none 0 0) ∧ i0.size = 1 ∧ i0.bytes = 24) := ⟨hi0, hz0, hz1, hz2⟩
  clear hi0 hz0 hz1 hz2
  have hsm : ((s : Int) + m) = (n : Int) := by have := HN.out; omega
  generalize hrr : t.reds (fun _ => false) (hbF n (atm s m S L)) = rr at *
  unfold hbF at HP
  obtain ⟨u, hu⟩ : ∃ y, y = (w.alloc (.cells #[.int .i64 t.kind, .int .i64 t.num, .slice a t.cnt cap] 24)).alloc (.cells #[.slice sa s sc, .slice la m lc] 27) := ⟨_, rfl⟩
  have hB : Below w.heap.size w u := by rw [hu]; exact below_alloc2 _ _ _
  have hus : u.heap.size = w.heap.size + 1 + 1 := by rw [hu]; simp
  have HFx : Hid (Fx u w.heap.size t a cap sa s sc la m lc) := by rw [hu]; exact hid (fx_new _ _ _ _ _ _ _ _ _ _)
  have HU0 := hid hu
  have hkk : t.kind = 8 := hkd0
  rw [hkd0] at HP har hx3 HU0 ⊢
  clear hkd0
  generalize hnn : t.num = x at *
  generalize hcc : t.cnt = c at *
  generalize hkd : t.kid = kid at *
  have HT : Hid (t.kind = 8 ∧ t.num = x ∧ t.cnt = c) := ⟨hkk, hnn, hcc⟩
  have HX3 := hid hx3
  have HAR := hid har
  have HKid := hid hkid
  have HA := hid ha
  have HIH := hid ih
  have HWk := hid hWk
  have HZ := hid hZ
  have HBu := hid hB
  have f0 := HFx.out.f0
  have f1 := HFx.out.f1
  have f2 := HFx.out.f2
  have g0 := HFx.out.g0
  have g1 := HFx.out.g1
  rw [hkk] at f0
  rw [hnn] at f1
  rw [hcc] at f2
  clear hkk hnn hcc hkd hrr hx3 har hkid ha ih hWk hZ hK hW hfit hu hB
  go_enter Tryd.func15, Tryd.ntmps15
  go_upto_region 1 with fail
  rw [← HU0.out]
  clear HU0
  go_cut [5, 6] from 17 to 26 (fun v5 v6 wc => ∃ nb mb, v5 = .pointer (some ⟨nb, 0, none⟩) ∧ v6 = .pointer (some ⟨mb, 0, none⟩) ∧ Hid (Below u.heap.size u wc ∧ wc.heap.size = u.heap.size + 1 + 1 ∧ nb < wc.heap.size ∧ mb < wc.heap.size ∧ wc.cell? ⟨nb, 0, none⟩ = some (.int .i64 n) ∧ wc.cell? ⟨mb, 0, none⟩ = some (.int .i64 m)))
  case first =>
    have n1 : w.heap.size < u.heap.size := by omega
    have n2 : w.heap.size + 1 < u.heap.size := by omega
    go_region
    · obtain ⟨q1, q2, q3, q4⟩ := two_new u (.int .i64 n) (.int .i64 m) (w.heap.size + 1 + 1) hus
      have HQ := hid (And.intro q1 (And.intro q2 (And.intro q3 q4)))
      clear q1 q2 q3 q4
      go_wp2_with fail
      go_meet
      refine ⟨_, _, rfl, rfl, hid ⟨HQ.out.1, HQ.out.2.1, ?_, ?_, HQ.out.2.2.1, HQ.out.2.2.2⟩⟩
      · have := HQ.out.2.1; omega
      · have := HQ.out.2.1; omega
    · obtain ⟨q1, q2, q3, q4⟩ := two_new u (.int .i64 m) (.int .i64 n) (w.heap.size + 1 + 1) hus
      have HQ := hid (And.intro q1 (And.intro q2 (And.intro q3 q4)))
      clear q1 q2 q3 q4
      go_wp2_with fail
      go_meet
      refine ⟨_, _, rfl, rfl, hid ⟨HQ.out.1, HQ.out.2.1, ?_, ?_, HQ.out.2.2.2, HQ.out.2.2.1⟩⟩
      · have := HQ.out.2.1; omega
      · have := HQ.out.2.1; omega
  obtain ⟨nb, mb, rfl, rfl, HC⟩ := hcut
  have hkb : wc.heap.size = w.heap.size + 1 + 1 + 1 + 1 := by have := HC.out.2.1; omega
  have hnb : nb < wc.heap.size := HC.out.2.2.1
  have hmb : mb < wc.heap.size := HC.out.2.2.2.1
  obtain ⟨w1, hw1⟩ : ∃ y, y = wc.alloc (.cells #[.slice none 0 0] 66) := ⟨_, rfl⟩
  have HW1 := hid hw1
  have HS : Hid (Below w.heap.size w w1 ∧ Tv w1 w.heap.size nb mb t a cap sa s sc la m lc n ∧ Tk w1 wc.heap.size n 0 (fun i => R (kid i)) (.slice none 0 0)) := by
    have hb1 : Below wc.heap.size wc w1 := by rw [hw1]; exact box_below _ _
    have hub := HC.out.1
    have hub1 : Below u.heap.size u w1 := hub.trans (hb1.mono hub.size)
    refine ⟨HBu.out.trans (hub1.mono HBu.out.size), ⟨HFx.out.below hub1, below_cell hb1 (Nat.le_refl _) HC.out.2.2.2.2.1, below_cell hb1 (Nat.le_refl _) HC.out.2.2.2.2.2⟩, ⟨?_, fun _ => 0, World.ownsRow_nil _ _ _ _, fun i hi => by omega⟩⟩
    rw [hw1]
    exact Go.Deep.blk_alloc_new _ _
  obtain ⟨kb, hkbe⟩ : ∃ y, y = wc.heap.size := ⟨_, rfl⟩
  rw [← hkbe] at HS hnb hmb
  have hB1 : w.heap.size + 1 < kb := by omega
  have HKB := hid hkbe
  clear hw1 HC f0 f1 f2 g0 g1 hkb hus
  clear hkbe
  go_wp2
  rw [← HW1.out, ← HKB.out]
  clear HW1 HKB
  go_loopw [8] (fun i wr => ∃ j : Nat, j ≤ c ∧ i = .int .i64 j ∧ ∃ v, Hid (Below w.heap.size w wr ∧ Tv wr w.heap.size nb mb t a cap sa s sc la m lc n ∧ Tk wr kb n j (fun i => R (kid i)) v)) (fun i _ => c - (intOf i).toNat)
  case atStart => exact ⟨0, Nat.zero_le _, rfl, _, HS⟩
  case round =>
    obtain ⟨j, hj, rfl, v, HJ⟩ := hrel
    clear HS
    have f0 := HJ.out.2.1.fx.f0
    have f1 := HJ.out.2.1.fx.f1
    have f2 := HJ.out.2.1.fx.f2
    have g0 := HJ.out.2.1.fx.g0
    have g1 := HJ.out.2.1.fx.g1
    have cn := HJ.out.2.1.cn
    have cm := HJ.out.2.1.cm
    have kv := HJ.out.2.2.cell
    rw [HT.out.1] at f0
    rw [HT.out.2.1] at f1
    rw [HT.out.2.2] at f2
    by_cases hlt : j < c
    · obtain rfl := HA.out (by omega)
      obtain ⟨ai, ci, e1, e2, e3, e4, e5⟩ := HKid.out j hlt
      have y1 := below_cell HJ.out.1 (Nat.le_refl _) e1
      have y2 := below_cell HJ.out.1 (Nat.le_refl _) e2
      have y3 := below_cell HJ.out.1 (Nat.le_refl _) e3
      have hjz : (j : Int) < c := by omega
      obtain ⟨kk, hkk⟩ : ∃ y, y = kid j := ⟨_, rfl⟩
      have HKJ := hid hkk
      rw [← hkk] at y1 y2 y3
      have C : Hid (∀ z : World, Below w.heap.size w z → Calls Tryd.prog 15 #[.agg #[.int .i64 kk.kind, .int .i64 kk.num, .slice ai kk.cnt ci], .agg #[.slice sa s sc, .slice la m lc]] z fun e w' => NewB z n (R kk) e w') := fun z hz => by
        have := HIH.out j hlt ai ci z (e5.below hz) (HWk.out j hlt) (HZ.out.below hz)
        rw [← hkk] at this
        exact this
      obtain ⟨V, hV, hVr⟩ := HJ.out.2.2.lists
      have HV := hid (And.intro hV hVr)
      have hbk : b < kb := by
        have h1 : b < w.heap.size := World.block_lt_of_cell? _ _ e1
        omega
      have hvn : j ≤ 2 := by omega
      clear e1 e2 e3 e4 e5 hkk HIH HWk hV hVr
      go_wp2
      refine G_region (fun z => z.cell? ⟨kb, 0, none⟩ = some v ∧ z.cell? ⟨w.heap.size, 2, none⟩ = some (.slice (some ⟨b, o, none⟩) c cap) ∧ z.cell? ⟨b, o + j * 3, none⟩ = some (.int .i64 kk.kind) ∧ z.cell? ⟨b, o + j * 3 + 1, none⟩ = some (.int .i64 kk.num) ∧ z.cell? ⟨b, o + j * 3 + 2, none⟩ = some (.slice ai kk.cnt ci) ∧ z.cell? ⟨w.heap.size + 1, 0, none⟩ = some (.slice sa s sc) ∧ z.cell? ⟨w.heap.size + 1, 1, none⟩ = some (.slice la m lc)) (fun j => j == 10) (by kernel_rfl) ⟨kv, f2, y1, y2, y3, g0, g1⟩ (fun hHeld => ?_)
      refine G_take (i := 0) (oi := { dst := some 34, op := Op.load 66 (Operand.tmp 7), type := 66, pos := _, after := #[], guard := none }) (v := v) rfl (by kernel_rfl) (by kernel_rfl) (by kernel_rfl) (by kernel_rfl) (fun _ _ _ h => h) (by rfl) (fun u hu => ?_) hHeld ?_
      · (try dsimp only at hu); go_simp
      (try simp only [Act.put, List.setIfInBounds_toArray, List.set_cons_zero, List.set_cons_succ])
      refine G_take (i := 1) (oi := { dst := some 35, op := Op.fieldAddr 24 (Operand.tmp 2) 2, type := 0, pos := _, after := #[], guard := none }) (v := .pointer (some ⟨w.heap.size, 2, none⟩)) rfl (by kernel_rfl) (by kernel_rfl) (by kernel_rfl) (by kernel_rfl) (fun _ _ _ h => h) (by rfl) (fun u hu => ?_) hHeld ?_
      · (try dsimp only at hu); go_simp
      (try simp only [Act.put, List.setIfInBounds_toArray, List.set_cons_zero, List.set_cons_succ])
      refine G_take (i := 2) (oi := { dst := some 36, op := Op.load 22 (Operand.tmp 35), type := 22, pos := _, after := #[{ on := 1, ground := Ground.data }], guard := none }) (v := .slice (some ⟨b, o, none⟩) c cap) rfl (by kernel_rfl) (by kernel_rfl) (by kernel_rfl) (by kernel_rfl) (fun _ _ _ h => h) (by rfl) (fun u hu => ?_) hHeld ?_
      · (try dsimp only at hu); go_simp
      (try simp only [Act.put, List.setIfInBounds_toArray, List.set_cons_zero, List.set_cons_succ])
      refine G_take (i := 3) (oi := { dst := some 37, op := Op.move (Operand.tmp 8), type := 3, pos := _, after := #[], guard := none }) (v := .int .i64 j) rfl (by kernel_rfl) (by kernel_rfl) (by kernel_rfl) (by kernel_rfl) (fun _ _ _ h => h) (by rfl) (fun u hu => ?_) hHeld ?_
      · (try dsimp only at hu); go_simp
      (try simp only [Act.put, List.setIfInBounds_toArray, List.set_cons_zero, List.set_cons_succ])
      refine G_take (i := 4) (oi := { dst := some 38, op := Op.indexAddr 22 (Operand.tmp 36) (Operand.tmp 37), type := 0, pos := _, after := #[{ on := 2, ground := Ground.data }, { on := 3, ground := Ground.data }], guard := none }) (v := .pointer (some ⟨b, o + j * 3, none⟩)) rfl (by kernel_rfl) (by kernel_rfl) (by kernel_rfl) (by kernel_rfl) (fun _ _ _ h => h) (by rfl) (fun u hu => ?_) hHeld ?_
      · (try dsimp only at hu); go_simp
      (try simp only [Act.put, List.setIfInBounds_toArray, List.set_cons_zero, List.set_cons_succ])
      refine G_take (i := 5) (oi := { dst := some 39, op := Op.load 24 (Operand.tmp 38), type := 24, pos := _, after := #[{ on := 4, ground := Ground.data }], guard := none }) (v := .agg #[.int .i64 kk.kind, .int .i64 kk.num, .slice ai kk.cnt ci]) rfl (by kernel_rfl) (by kernel_rfl) (by kernel_rfl) (by kernel_rfl) (fun _ _ _ h => h) (by rfl) (fun u hu => ?_) hHeld ?_
      · (try dsimp only at hu); go_simp
      (try simp only [Act.put, List.setIfInBounds_toArray, List.set_cons_zero, List.set_cons_succ])
      refine G_take (i := 6) (oi := { dst := some 40, op := Op.load 27 (Operand.tmp 3), type := 27, pos := _, after := #[], guard := none }) (v := .agg #[.slice sa s sc, .slice la m lc]) rfl (by kernel_rfl) (by kernel_rfl) (by kernel_rfl) (by kernel_rfl) (fun _ _ _ h => h) (by rfl) (fun u hu => ?_) hHeld ?_
      · (try dsimp only at hu); go_simp
      (try simp only [Act.put, List.setIfInBounds_toArray, List.set_cons_zero, List.set_cons_succ])
      refine G_step (i := 7) (o := { dst := some 41, op := Op.call { callee := Callee.value (Operand.func 15), args := #[Operand.tmp 39, Operand.tmp 40], argTypes := #[24, 27] }, type := 34, pos := _, after := #[{ on := 5, ground := Ground.data }, { on := 6, ground := Ground.data }], guard := none }) (by kernel_rfl) rfl (fun K' hK => ?_)
      go_simp
      go_at_call 15
      refine (C.out _ (below_drewN HJ.out.1 1)).mono ?_
      rintro e w2 ⟨v3, rfl, hv1, hv2, hv3⟩
      dsimp only
      have hv4 := below_of_drew hv3
      have akv := below_cell hv4 (Nat.le_refl _) kv
      have af2 := below_cell hv4 (Nat.le_refl _) f2
      have ay1 := below_cell hv4 (Nat.le_refl _) y1
      have ay2 := below_cell hv4 (Nat.le_refl _) y2
      have ay3 := below_cell hv4 (Nat.le_refl _) y3
      have ag0 := below_cell hv4 (Nat.le_refl _) g0
      have ag1 := below_cell hv4 (Nat.le_refl _) g1
      refine hK.out _ _ (fun _ => ?_) (fun hS2 => ?_)
      · exact ⟨akv, af2, ay1, ay2, ay3, ag0, ag1⟩
      have hHeld2 := hS2 rfl
      clear hK K' hS2 hHeld
      (try simp only [Act.put, List.setIfInBounds_toArray, List.set_cons_zero, List.set_cons_succ])
      have hTk2 := HJ.out.2.2.below hv4
      have hTv2 := HJ.out.2.1.below hv4
      have hB2 := HJ.out.1.trans (hv4.mono HJ.out.1.size)
      have HX2 : Hid (Tk w2 kb n j (fun i => R (kid i)) v ∧ Tv w2 w.heap.size nb mb t (some ⟨b, o, none⟩) cap sa s sc la m lc n ∧ Below w.heap.size w w2 ∧ w2.rowIs v3 4 n (fun p => .bool (R kk p)) ∧ w2.ownsRow (kb + 1) 34 1 v j (klist V n j) ∧ ∀ i, i < j → w2.rowIs (V i) 4 n (fun p => .bool (R (kid i) p))) := ⟨hTk2, hTv2, hB2, hv2, owns_below HV.out.1 hv4, fun i hi => rowIs_below (HV.out.2 i hi) hv4⟩
      clear hTk2 hTv2 hB2 hv1 hv2 hv3 hv4 C
      refine G_step (i := 8) (o := { dst := some 42, op := Op.buildSlice 66 1 #[(0, Operand.tmp 41)], type := 66, pos := _, after := #[{ on := 7, ground := Ground.data }], guard := none }) (by kernel_rfl) rfl (fun K' hK => ?_)
      go_simp
      obtain ⟨U, hU⟩ : ∃ y, y = w2.alloc (.cells #[.slice (some ⟨v3, 0, none⟩) n n] 34) := ⟨_, rfl⟩
      have hBU : Below w2.heap.size w2 U := by rw [hU]; exact box_below _ _
      have hUb : U.heap[w2.heap.size]? = some (.cells #[.slice (some ⟨v3, 0, none⟩) n n] 34) := by rw [hU]; exact Go.Deep.blk_alloc_new _ _
      have hUs : U.heap.size = w2.heap.size + 1 := by rw [hU]; simp
      rw [← hU]
      clear hU
      have bkv := below_cell hBU (Nat.le_refl _) akv
      have bf2 := below_cell hBU (Nat.le_refl _) af2
      have by1 := below_cell hBU (Nat.le_refl _) ay1
      have by2 := below_cell hBU (Nat.le_refl _) ay2
      have by3 := below_cell hBU (Nat.le_refl _) ay3
      have bg0 := below_cell hBU (Nat.le_refl _) ag0
      have bg1 := below_cell hBU (Nat.le_refl _) ag1
      refine hK.out _ _ (fun _ => ?_) (fun hS2 => ?_)
      · exact ⟨bkv, bf2, by1, by2, by3, bg0, bg1⟩
      have hHeld3 := hS2 rfl
      clear hK K' hS2 hHeld2
      (try simp only [Act.put, List.setIfInBounds_toArray, List.set_cons_zero, List.set_cons_succ])
      have HU2 : Hid (Tk U kb n j (fun i => R (kid i)) v ∧ U.ownsRow (kb + 1) 34 1 v j (klist V n j)) := ⟨HX2.out.1.below hBU, owns_below HX2.out.2.2.2.2.1 hBU⟩
      have HKS : Hid (kb + 1 ≤ U.heap.size) := HU2.out.1.lt
      refine G_step (i := 9) (o := { dst := some 43, op := Op.call { callee := Callee.builtin Builtin.append, args := #[Operand.tmp 34, Operand.tmp 42], argTypes := #[66, 66] }, type := 66, pos := _, after := #[{ on := 0, ground := Ground.data }, { on := 8, ground := Ground.data }, { on := 7, ground := Ground.chain }], guard := none }) (by kernel_rfl) rfl (fun K' hK => ?_)
      refine step_append_lies _ (by rfl) _ _ _ (by rfl) (kb + 1) 34 i0 _ 1 24 Tryd.underlying66 HI.out.1 HI.out.2.1 HI.out.2.2.1 HI.out.2.2.2 rfl (by omega) v j (klist V n j) (by rfl) HU2.out.2 ⟨w2.heap.size, 0, none⟩ 1 1 [.slice (some ⟨v3, 0, none⟩) n n] (by rfl) (by rfl) (World.news_of_block (cs := #[.slice (some ⟨v3, 0, none⟩) n n]) (t := 34) (fr := (0, 0)) hUb) (by simp [Value.oneCell']) (by omega) (by unfold maxLen; omega) (by omega) HKS.out (w2.heap.size + 1) hUs ?_
      intro gg gc w4 hown hgrow _ _
      have ckv := HU2.out.1.keep hgrow (Nat.le_refl _) bkv
      have cf2 := HU2.out.1.keep hgrow (by show w.heap.size ≤ kb; omega) bf2
      have cy1 := HU2.out.1.keep hgrow (by show b ≤ kb; omega) by1
      have cy2 := HU2.out.1.keep hgrow (by show b ≤ kb; omega) by2
      have cy3 := HU2.out.1.keep hgrow (by show b ≤ kb; omega) by3
      have cg0 := HU2.out.1.keep hgrow (by show w.heap.size + 1 ≤ kb; omega) bg0
      have cg1 := HU2.out.1.keep hgrow (by show w.heap.size + 1 ≤ kb; omega) bg1
      have cfz := HU2.out.1.keepz hgrow
      refine hK.out _ _ (fun _ => ?_) (fun hS2 => ?_)
      · exact ⟨ckv, cf2, cy1, cy2, cy3, cg0, cg1⟩
      have hHeld4 := hS2 rfl
      clear hK K' hS2 hHeld3
      (try simp only [Act.put, List.setIfInBounds_toArray, List.set_cons_zero, List.set_cons_succ])
      refine G_step (i := 10) (o := { dst := none, op := Op.store 66 (Operand.tmp 7) (Operand.tmp 43), type := 0, pos := _, after := #[{ on := 9, ground := Ground.data }, { on := 9, ground := Ground.chain }, { on := 0, ground := Ground.phase }, { on := 1, ground := Ground.phase }, { on := 2, ground := Ground.phase }, { on := 3, ground := Ground.phase }, { on := 4, ground := Ground.phase }, { on := 5, ground := Ground.phase }, { on := 6, ground := Ground.phase }, { on := 7, ground := Ground.phase }, { on := 8, ground := Ground.phase }, { on := 9, ground := Ground.phase }], guard := none }) (by kernel_rfl) rfl (fun K' hK => ?_)
      go_simp
      refine hK.out _ _ (fun h => absurd h (by decide)) (fun _ => ?_)
      clear hK K' hHeld4
      (try simp only [Act.put, List.setIfInBounds_toArray, List.set_cons_zero, List.set_cons_succ])
      refine G_done (by kernel_rfl) ?_ _
      have H3 : Hid (Below w.heap.size w (w4.setCell ⟨kb, 0, none⟩ (.slice (some ⟨gg, 0, none⟩) (j + 1) gc)) ∧ Tv (w4.setCell ⟨kb, 0, none⟩ (.slice (some ⟨gg, 0, none⟩) (j + 1) gc)) w.heap.size nb mb t (some ⟨b, o, none⟩) cap sa s sc la m lc n ∧ Tk (w4.setCell ⟨kb, 0, none⟩ (.slice (some ⟨gg, 0, none⟩) (j + 1) gc)) kb n (j + 1) (fun i => R (kid i)) (.slice (some ⟨gg, 0, none⟩) (j + 1) gc)) := by
        have hlow := HU2.out.1.grown_low hgrow (.slice (some ⟨gg, 0, none⟩) (j + 1) gc)
        have hBU2 : Below w.heap.size w U := HX2.out.2.2.1.trans (hBU.mono HX2.out.2.2.1.size)
        have hrk : U.rowIs v3 4 n (fun p => .bool (R (kid j) p)) := by
          have := rowIs_below HX2.out.2.2.2.1 hBU
          rw [HKJ.out] at this
          exact this
        exact ⟨hBU2.trans (hlow.mono (by omega)), (HX2.out.2.1.below hBU).low hlow hB1 hnb hmb, HU2.out.1.step (fun i hi => rowIs_below (HX2.out.2.2.2.2.2 i hi) hBU) hrk hgrow hown⟩
      clear HX2 HU2 HKS hBU hUb hUs hown hgrow akv af2 ay1 ay2 ay3 ag0 ag1 bkv bf2 by1 by2 by3 bg0 bg1 ckv cf2 cy1 cy2 cy3 cg0 cg1 cfz y1 y2 y3 kv f0 f1 f2 g0 g1 cn cm HJ HV HKJ
      go_wp2
      go_roundw
      case rel => exact ⟨j + 1, by omega, by go_num, _, H3⟩
      case measure => simp [intOf]; omega
    · obtain rfl : c = j := by omega
      obtain ⟨ka, kc, rfl, hKb⟩ := HJ.out.2.2.kb
      obtain ⟨wo, hwo⟩ : ∃ y, y = wr := ⟨_, rfl⟩
      rw [← hwo] at f0 f1 f2 g0 g1 cn cm kv hKb HJ ⊢
      clear hwo
      have HB := hid HJ.out.1
      have HWo : Hid (Wd wo sa s la m S L) := HZ.out.below HJ.out.1
      have KC : Hid (∀ z, Below wo.heap.size wo z → ∀ j, j < c → ∀ i : Nat, i ≤ 1000 → Calls Tryd.prog 35 #[.int .i64 j, .int .i64 i, .pointer (some ⟨nb, 0, none⟩), .pointer (some ⟨mb, 0, none⟩), .pointer (some ⟨kb, 0, none⟩)] z fun e w' => e = .returned (.bool (R (kid j) i)) ∧ w' = z) := fun z hz j hj i hi =>
        kidR_any HN.out hn60 hm (below_cell hz (Nat.le_refl _) cn) (below_cell hz (Nat.le_refl _) cm) (below_cell hz (Nat.le_refl _) kv) (hKb.below hz) j hj (HPer.out j) i hi
      have HCell : Hid (∀ z, Below wo.heap.size wo z → z.cell? ⟨w.heap.size, 0, none⟩ = some (.int .i64 8) ∧ z.cell? ⟨w.heap.size, 1, none⟩ = some (.int .i64 x) ∧ z.cell? ⟨w.heap.size + 1, 0, none⟩ = some (.slice sa s sc) ∧ z.cell? ⟨w.heap.size + 1, 1, none⟩ = some (.slice la m lc) ∧ z.cell? ⟨nb, 0, none⟩ = some (.int .i64 n) ∧ z.cell? ⟨mb, 0, none⟩ = some (.int .i64 m)) := fun z hz =>
        ⟨below_cell hz (Nat.le_refl _) f0, below_cell hz (Nat.le_refl _) f1, below_cell hz (Nat.le_refl _) g0, below_cell hz (Nat.le_refl _) g1, below_cell hz (Nat.le_refl _) cn, below_cell hz (Nat.le_refl _) cm⟩
      have hmk := run_make_row' (P := Tryd.prog) 34 4 (.bool false) 1 Tryd.underlying34 Tryd.info4 rfl .i64 .i64 n (by omega) (by omega)
      clear hlt hj hKb HJ HIH HKid HWk HA f0 f1 g0 g1 cm kv HBu HFx
      clear HT
      · have hcn : c = 2 := by
          have h := HAR.out
          have e : ar 8 = 2 := by decide
          omega
        have HC := hid hcn
        clear hcn HAR
        have HV : Hid (∀ p, R t p = unt (R (kid 0)) (R (kid 1)) n p) := fun p => by have h := HP.out p; rw [HKK.out 0 (by have := HC.out; omega), HKK.out 1 (by have := HC.out; omega)] at h; simpa using h
        have HD : Hid (∀ p, p < n → R t p = unt (R (kid 0)) (R (kid 1)) (n + m - p) p) := fun p hp => by have h := unt_doc (f := R (kid 0)) hm (HPer.out 1) (i := p) (by have := HN.out; omega); rw [← HN.out] at h; rw [HV.out p, h]
        clear HP HKK
        go_wp2
        clear hmk cn f2
        go_loopw [11] (fun i wr => ∃ p : Nat, p ≤ n ∧ i = .int .i64 p ∧ Hid (Ow wo wr n (R t) p false)) (fun i _ => n - (intOf i).toNat)
        case atStart => exact ⟨0, Nat.zero_le _, rfl, hid (ow_start _ _ _)⟩
        case round =>
          obtain ⟨p, hp, rfl, HO⟩ := hrel
          obtain ⟨f0, f1, g0, g1, cn, cm⟩ := HCell.out wr HO.out.below
          by_cases hlt : p < n
          · have hpz : (p : Int) < n := by omega
            have hc0 := HO.out.cell hlt
            have hz0 := HO.out.frozen
            have HDp := hid (HD.out p hlt)
            have hm60 : m ≤ 60 := by have := HN.out; omega
            have HO1 : Hid (Ow wo wr n (R t) p (unt (R (kid 0)) (R (kid 1)) 0 p)) := HO.out
            go_wp2
            clear hc0 hz0 f0 f1 g0 g1 cn cm HO
            go_loopw [15, 14] (fun i v wr => ∃ q : Nat, p + q ≤ n + m ∧ i = .int .i64 ((p : Int) + q) ∧ v = .bool (alB (R (kid 0)) p q) ∧ Hid (Ow wo wr n (R t) p (unt (R (kid 0)) (R (kid 1)) q p))) (fun i _ _ => n + m - (intOf i).toNat)
            case atStart => exact ⟨0, by omega, by simp, rfl, HO1⟩
            case round =>
              obtain ⟨q, hq, rfl, rfl, HQ⟩ := hrel
              obtain ⟨f0, f1, g0, g1, cn, cm⟩ := HCell.out wr HQ.out.below
              have hc0 := HQ.out.cell hlt
              have hz0 := HQ.out.frozen
              have HS : Hid (unt (R (kid 0)) (R (kid 1)) (q + 1) p = (unt (R (kid 0)) (R (kid 1)) q p || (alB (R (kid 0)) p q && R (kid 1) (p + q)))) := unt_snoc _ _ q p
              have HAs : Hid (alB (R (kid 0)) p (q + 1) = (alB (R (kid 0)) p q && R (kid 0) (p + q))) := hid rfl
              have HMo : Hid (unt (R (kid 0)) (R (kid 1)) q p = true → R t p = true) := fun h => by rw [HDp.out]; exact unt_mono h (by omega)
              have HEn : Hid (p + q = n + m → R t p = unt (R (kid 0)) (R (kid 1)) q p) := fun h => by rw [HDp.out, show n + m - p = q by omega]
              by_cases hq2 : p + q < n + m
              · have hqz : (p : Int) + q < (n : Int) + m := by omega
                have C0 : Hid (∀ z, Below wo.heap.size wo z → Calls Tryd.prog 35 #[.int .i64 0, .int .i64 ((p : Int) + q), .pointer (some ⟨nb, 0, none⟩), .pointer (some ⟨mb, 0, none⟩), .pointer (some ⟨kb, 0, none⟩)] z fun e w' => e = .returned (.bool (R (kid 0) (p + q))) ∧ w' = z) := fun z hz => by
                  have h := KC.out z hz 0 (by have := HC.out; omega) (p + q) (by omega)
                  rw [show ((p + q : Nat) : Int) = (p : Int) + q by omega] at h
                  exact h
                have C1 := hid (KC.out wr HQ.out.below 1 (by have := HC.out; omega) (p + q) (by omega))
                rw [show ((p + q : Nat) : Int) = (p : Int) + q by omega] at C1
                generalize R (kid 0) (p + q) = y0 at *
                generalize R (kid 1) (p + q) = y1 at *
                generalize unt (R (kid 0)) (R (kid 1)) q p = uq at *
                generalize alB (R (kid 0)) p q = al at *
                cases uq
                · cases al
                  · skip
                    go_wp2
                    go_roundw
                    case rel => exact ⟨q + 1, by omega, by go_num, by rw [HAs.out]; rfl, hid ((HQ.out.set _).same (by rw [HS.out]; simp))⟩
                    case measure => simp [intOf]; omega
                  · go_wp2_with fail
                    refine C1.out.mono ?_
                    rintro e w2 ⟨rfl, rfl⟩
                    have HQ2 := hid (HQ.out.set y1)
                    have C2 := hid (C0.out _ HQ2.out.below)
                    go_wp2_with fail
                    refine C2.out.mono ?_
                    rintro e w2 ⟨rfl, rfl⟩
                    go_wp2
                    go_roundw
                    case rel => exact ⟨q + 1, by omega, by go_num, by rw [HAs.out]; rfl, hid (HQ2.out.same (by rw [HS.out]; simp))⟩
                    case measure => simp [intOf]; omega
                · have HT1 := hid (HMo.out rfl)
                  go_wp2
                  go_roundw
                  case rel => exact ⟨p + 1, by omega, by go_num, hid (HQ.out.next HT1.out.symm)⟩
                  case measure => simp [intOf]; omega
              · have hqz : ¬ (p : Int) + q < (n : Int) + m := by omega
                have HT1 := hid (HEn.out (by omega))
                generalize unt (R (kid 0)) (R (kid 1)) q p = uq at *
                go_wp2
                go_roundw
                case rel => exact ⟨p + 1, by omega, by go_num, hid (HQ.out.next HT1.out.symm)⟩
                case measure => simp [intOf]; omega
          · obtain rfl : p = n := by omega
            go_wp2
            go_ret
            exact ⟨wo.heap.size, rfl, HB.out.size, HO.out.done, HB.out.trans (HO.out.below.mono HB.out.size)⟩

end Go.Proofs.YtejombhfkobcbaaDoor
