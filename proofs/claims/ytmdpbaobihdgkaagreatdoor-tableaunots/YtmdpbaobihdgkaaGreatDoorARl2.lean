
import Derived.Test.YtmdpbaobihdgkaaGreatDoorAItdJ
import Derived.Test.YtmdpbaobihdgkaaGreatDoorAGth0J
/- The roll's list, of pairs from an iterator with memory of its own. -/
set_option linter.unusedSimpArgs false
namespace Go.Proofs.YtmdpbaobihdgkaaGreatDoor
open Go.RowKit Go.Shelf Go.Maps
attribute [local go_sem] Oper.semAt_some
def Fpt (w1 : World) (D : Nat → Prop) (v : Value) : Prop := ∀ b, v.ownBlock = some b → b < w1.heap.size ∨ D b
theorem Fpt.mono {w1 : World} {D D' : Nat → Prop} {v : Value} (h : Fpt w1 D v) (hd : ∀ b, D b → D' b) : Fpt w1 D' v := fun b hb => (h b hb).imp id (hd b)
theorem Ri.stay {w w1 : World} {rb mb : Nat} {pv : Value} {Q : List (Nat × Nat)} {nums : List Nat} {W W' : World} {pv' lv : Value} {D' : DataW Unit} {D : Nat → Prop} (c : Rcl w w1 rb mb pv) (h : Ri w w1 rb mb pv Q nums W pv' lv D') (hp : Fpt w1 D pv') (hl : Fpt w1 D lv) (hf : Fr (fun b => w1.heap.size ≤ b ∧ ¬ D b) W W') : Ri w w1 rb mb pv Q nums W' pv' lv D' := by
 have s1 := c.s1
 have hlt : ∀ k, k < w1.heap.size → W'.heap[k]? = W.heap[k]? := fun k hk => hf.block k (Nat.lt_of_lt_of_le hk h.sz) (fun hx => by omega)
 have hown : ∀ {base : Nat} {e : TypeId} {size : Nat} {v : Value} {m : Nat} {xs : List Value}, Fpt w1 D v → W.ownsRow base e size v m xs → W'.ownsRow base e size v m xs := fun {base e size v m xs} hv ho => owns_of_blk ho (fun b hb => by
  rcases hv b hb with h1 | h1
  ·exact hlt b h1
  ·exact hf.block b (ho.lt b hb).2 (fun hx => hx.2 h1))
 refine ⟨h.rol.of (hlt _ (by have := c.rb; omega)) (hlt _ (by have := c.mb; omega)) (hown hp h.rol.own), fun b h1 h2 => (hlt b (by omega)).trans (h.old b h1 h2), (hlt _ (by omega)).trans h.lst, hown hl h.own, h.fr.trans hf (fun x hx hn => by omega), Nat.le_trans h.sz hf.size, h.loc, h.ap⟩
theorem num_fr {w : World} {W w7 : World} {lv lv' : Value} {o : Obj} (hgrow : (W.alloc o).grownBy w7 lv.ownBlock) (hloc : lv'.ownBlock = lv.ownBlock ∨ lv'.ownBlock = some (W.alloc o).heap.size) :
  Fr (fun b => b = w.heap.size + 3 ∨ lv.ownBlock = some b) W (w7.setCell ⟨w.heap.size + 3, 0, none⟩ lv') ∧ ∀ b, lv'.ownBlock = some b → lv.ownBlock = some b ∨ W.heap.size ≤ b := by
 have hg := (World.grownBy_alloc W o lv.ownBlock).trans hgrow
 refine ⟨Fr.setCell (ex := fun b => b = w.heap.size + 3 ∨ lv.ownBlock = some b) (p := ⟨w.heap.size + 3, 0, none⟩) ⟨hg.os, hg.tape, hg.output, hg.size, fun b hb hn => hg.block b hb (fun e => hn (Or.inr e.symm))⟩ (fun _ => Or.inl rfl) _, fun b hb => ?_⟩
 rcases hloc with e | e
 ·exact Or.inl (e.symm.trans hb)
 ·rw [e, Option.some.injEq, World.size_alloc] at hb
  exact Or.inr (by omega)
theorem add_fr {W w2 w4 : World} {rb mb : Nat} {pv' v6 : Value} {o : Obj} (hg : W.grownBy w2 (some mb)) (hgrow : (w2.alloc o).grownBy w4 pv'.ownBlock) (hloc : v6.ownBlock = pv'.ownBlock ∨ v6.ownBlock = some (w2.alloc o).heap.size) :
  Fr (fun b => b = rb ∨ b = mb ∨ pv'.ownBlock = some b) W (w4.setCell ⟨rb, 1, none⟩ v6) ∧ ∀ b, v6.ownBlock = some b → pv'.ownBlock = some b ∨ W.heap.size ≤ b := by
 have hg4 := (World.grownBy_alloc w2 o pv'.ownBlock).trans hgrow
 have f1 : Fr (fun b => b = rb ∨ b = mb ∨ pv'.ownBlock = some b) W w2 := (fr_gb hg).wide (fun b _ e => Or.inr (Or.inl e))
 refine ⟨Fr.setCell (ex := fun b => b = rb ∨ b = mb ∨ pv'.ownBlock = some b) (p := ⟨rb, 1, none⟩) (f1.grown hg4 (fun b e _ => Or.inr (Or.inr e))) (fun _ => Or.inl rfl) _, fun b hb => ?_⟩
 rcases hloc with e | e
 ·exact Or.inl (e.symm.trans hb)
 ·rw [e, Option.some.injEq, World.size_alloc] at hb
  have := hg.size
  exact Or.inr (by omega)
set_option maxRecDepth 100000 in
set_option maxHeartbeats 4000000 in
theorem rlist_any2 (gf : Nat) (lb : Array Value) (all : List Pr) (bs : Nat → Prop) (rb mb : Nat) (pv : Value) (P : List (Nat × Nat)) (D : DataW Unit) (w w0 : World) (hent : ∀ args w, (callFunc gf args).run Tryz.prog w = .ok (.enter gf args) w) (hit : Itd 8 gf lb all bs w0) (hb0 : Below w0.heap.size w0 w)
  (hR : Rol w rb mb pv P D) (hP : P.length ≤ 2048) (hbs : ∀ b, bs b → b < w.heap.size ∧ ¬ rex rb mb pv b) (hall : all.length ≤ 4194304) :
  Calls Tryz.prog 80 #[.pointer (some ⟨rb, 0, none⟩), .func (.func gf) #[] lb] w fun e w' => RlIs rb mb pv P all w e w' := by
 obtain ⟨i0, hi, hz0, hz1, hz2⟩ := info_parts Tryz.info3
 have HI : Hid (Tryz.prog.info? 3 = some i0 ∧ i0.zero = some (.int .i64 0) ∧ i0.size = 1 ∧ i0.bytes = 8) := ⟨hi, hz0, hz1, hz2⟩
 clear hi hz0 hz1 hz2
 obtain ⟨i7, hi, hz0, hz1, hz2⟩ := info_parts Tryz.info86
 have HJ : Hid (Tryz.prog.info? 86 = some i7 ∧ i7.zero = some (.agg #[.int .i64 0, .int .i64 0]) ∧ i7.size = 2 ∧ i7.bytes = 16) := ⟨hi, hz0, hz1, hz2⟩
 clear hi hz0 hz1 hz2
 have HR := hid hR
 have HBS := hid hbs
 have HB0 := hid hb0
 have HIT := hid hit
 have HEN := hid hent
 have HP := hid hP
 have HAL := hid hall
 clear hR hbs hb0 hit hent hP hall
 refine (callsIn_wide (n := 9)).1 (callsIn_of_wp_marks Tryz.func80 rfl trivial ?_ rfl)
 simp only [Tryz.ntmps80, List.size_toArray, List.length_cons, List.length_nil, Nat.reduceAdd, Nat.reduceSub, Array.replicate_succ, Array.replicate_zero, List.push_toArray, List.append_toArray, List.nil_append, List.cons_append]
 refine wpIn_wide.2 ?_
 go_wp2_with fail
 obtain ⟨w1, hw1, hb1, hs1, n0, n1, n2, n3⟩ := rl_world w rb
 rw [hw1]
 clear hw1
 have hap := HR.out.apart
 have C : Rcl w w1 rb mb pv := ⟨hs1, hap.2.2.1, hap.2.2.2, fun b hb => (HR.out.own.lt b hb).2⟩
 have HC := hid C
 have HI0 : Hid (Ri w w1 rb mb pv P [] w1 pv (.slice none 0 0) D) := hid ⟨HR.out.below hb1, fun _ _ _ => rfl, n3, World.ownsRow_nil _ _ _ _, Fr.of_below hb1, Nat.le_refl _, Or.inl rfl, fun b hb => by simp [Value.ownBlock] at hb⟩
 have HN := hid (And.intro n0 (And.intro n1 n2))
 have HB1 := hid hb1
 have HS1 := hid hs1
 clear hs1 hap C hb1 n0 n1 n2 n3
 refine (wpIn_wide (n := 9)).1 ?_
 refine range_D (n := 9) (by decide) (gf := gf) (lb := lb) rfl HEN.out HIT.out (HB0.out.trans (HB1.out.mono HB0.out.size)) (fun b hb => by have h1 := (HBS.out b hb).1; have h2 := HB1.out.size; omega) (fun _ => rfl)
  (fun pre Dp W => Hid ((qp P pre).length ≤ 2048 ∧ ∃ pv' lv, (∃ D', Ri w w1 rb mb pv (qp P pre) (nms (qp P pre) pre) W pv' lv D') ∧ Fpt w1 Dp pv' ∧ Fpt w1 Dp lv))
  (fun c pre _ W => c = .ret ∧ Hid (Fr (rex rb mb pv) w W ∧ W.cell? ⟨w.heap.size + 1, 0, none⟩ = some (.slice none 0 0) ∧ W.cell? ⟨w.heap.size + 1 + 1, 0, none⟩ = some (.int .i64 2) ∧ w1.heap.size ≤ W.heap.size ∧ 2048 < (qp P pre).length))
  ?hI ?hIx ?hIm ?hIxm ?h0 (fun x a' W => ∃ Bq, w1.heap.size + 2 ≤ Bq ∧ W.cell? ⟨Bq, 0, none⟩ = some (.int .i64 ((x.1.1 : Nat) : Int)) ∧ W.cell? ⟨Bq, 1, none⟩ = some (.int .i64 ((x.2.1 : Nat) : Int)) ∧ a' = { tmps := #[.pointer (some ⟨rb, 0, none⟩), .func (.func gf) #[] lb, .pointer (some ⟨w.heap.size, 0, none⟩), undef, .pointer (some ⟨w.heap.size + 1, 0, none⟩), .pointer (some ⟨w.heap.size + 1 + 1, 0, none⟩), .pointer (some ⟨w.heap.size + 1 + 1 + 1, 0, none⟩), .pointer (some ⟨Bq, 0, none⟩), undef, undef, .func (.func gf) #[] lb, .agg #[.int .i64 ((x.1.1 : Nat) : Int), .int .i64 ((x.2.1 : Nat) : Int)], undef, undef, undef, undef, undef, undef, undef, undef, undef, undef, undef, undef, undef, undef, undef, undef, undef, undef, undef, undef, undef, undef, undef, undef, undef, undef, undef, undef, undef, undef, undef, undef, undef, undef, undef, undef, undef, undef, undef, undef, undef, undef, undef], defers := [] }) ?hAx ?assign ?body ?done ?stop
 case hI =>
  intro pre Dp A B hs hf
  obtain ⟨h1, pv', lv, ⟨D', h2⟩, h3, h4⟩ := hs.out
  exact hid ⟨h1, pv', lv, ⟨D', h2.stay HC.out h3 h4 hf⟩, h3, h4⟩
 case hIx =>
  intro c pre Dp A B hs hf
  obtain ⟨h1, h2, h3, h4, h5⟩ := hs.2.out
  have hs1 := HS1.out
  exact ⟨hs.1, hid ⟨h1.trans hf (fun x hx hn => by omega), (World.cell?_of_block (w := A) (hf.block _ (World.block_lt_of_cell? _ _ h2) (fun hx => by dsimp only at hx; omega))).trans h2, (World.cell?_of_block (w := A) (hf.block _ (World.block_lt_of_cell? _ _ h3) (fun hx => by dsimp only at hx; omega))).trans h3, Nat.le_trans h4 hf.size, h5⟩⟩
 case hIm =>
  intro pre D1 D2 W hs hd
  obtain ⟨h1, pv', lv, h2, h3, h4⟩ := hs.out
  exact hid ⟨h1, pv', lv, h2, h3.mono hd, h4.mono hd⟩
 case hIxm => exact fun _ _ _ _ _ hs _ => hs
 case h0 => exact hid ⟨HP.out, pv, _, ⟨D, HI0.out⟩, fun b hb => Or.inl (by have h1 := (HR.out.own.lt b hb).2; have h2 := HB1.out.size; omega), fun b hb => by simp [Value.ownBlock] at hb⟩
 case hAx =>
  intro x a' A B hs hf
  obtain ⟨Bq, h1, h2, h3, h4⟩ := hs
  exact ⟨Bq, h1, (World.cell?_of_block (w := A) (hf.block _ (World.block_lt_of_cell? _ _ h2) (fun hx => by dsimp only at hx; omega))).trans h2, (World.cell?_of_block (w := A) (hf.block _ (World.block_lt_of_cell? _ _ h3) (fun hx => by dsimp only at hx; omega))).trans h3, h4⟩
 case assign =>
  rintro l x W K hsz hK
  gi_wp2
  exact hK _ _ (Fr.of_below (box_below _ _)) ⟨W.heap.size, hsz, cell_of_alloc rfl, cell_of_alloc rfl, rfl⟩
 case body =>
  rintro l pre x a' Dp W ⟨rr, hrr⟩ hi ⟨Bq, hBq, z0, z1, rfl⟩ hlen2 hsz2 hDp
  obtain ⟨hq, pv', lv, ⟨D', hRi⟩, hfp, hfl⟩ := hi.out
  have HFP := hid (And.intro hfp hfl)
  have HDP := hid hDp
  have hpvD : ∀ b, pv'.ownBlock = some b → (b < w1.heap.size ∧ ¬ bs b) ∨ Dp b := fun b hb => by
   rcases hfp b hb with h1 | h1
   ·refine Or.inl ⟨h1, fun h2 => ?_⟩
    rcases hRi.loc with e | e
    ·exact (HBS.out b h2).2 (Or.inr (Or.inr (by rw [← e]; exact hb)))
    ·have := e b hb; omega
   ·exact Or.inr h1
  have hlvD : ∀ b, lv.ownBlock = some b → (b < w1.heap.size ∧ ¬ bs b) ∨ Dp b := fun b hb => by
   rcases hfl b hb with h1 | h1
   ·have := (hRi.own.lt b hb).1; omega
   ·exact Or.inr h1
  have HVD := hid (And.intro hpvD hlvD)
  have h3D : ∀ k, k < 4 → (w.heap.size + k < w1.heap.size ∧ ¬ bs (w.heap.size + k)) := fun k hk => ⟨by have := HS1.out; omega, fun h => by have := (HBS.out _ h).1; omega⟩
  have HKD := hid h3D
  clear hi hfp hfl hDp hpvD hlvD h3D
  obtain ⟨pa, pc, hpv, _, _⟩ := owns_pr hRi.rol.own
  obtain ⟨la, lc, hlv, _⟩ := owns_row hRi.own
  have HRi := hid hRi
  have y0 : W.cell? ⟨w.heap.size, 0, none⟩ = some (.pointer (some ⟨rb, 0, none⟩)) := cell_of_cells ((hRi.old _ (by omega) (by omega)).trans HN.out.1) rfl
  have yr0 : W.cell? ⟨rb, 0, none⟩ = some (.map (some mb)) := cell_of_cells hRi.rol.blk rfl
  have yr1 : W.cell? ⟨rb, 1, none⟩ = some pv' := cell_of_cells hRi.rol.blk rfl
  have yb : W.heap[w.heap.size + 1]? = some (.cells #[.slice none 0 0] 29) := (hRi.old _ (by omega) (by omega)).trans HN.out.2.1
  have yc : W.heap[w.heap.size + 1 + 1]? = some (.cells #[.int .i64 0] 33) := (hRi.old _ (by omega) (by omega)).trans HN.out.2.2
  have yd : W.cell? ⟨w.heap.size + 1 + 1 + 1, 0, none⟩ = some lv := cell_of_cells hRi.lst rfl
  obtain ⟨cn, kn, hlook, HLK⟩ := Rol.look (w := W.drew) (hRi.rol.below ((Sm.refl W).drew.below _)) (prn_sml x)
  dsimp only [prn] at hlook
  have hlen3 : (cs (nms (qp P pre) pre)).length ≤ 4194304 := by rw [nms_len]; have := HAL.out; omega
  refine wpIn_block (wpIn_seq ?_)
  refine G_round (fun z => z = W.drew) (fun _ => false) (by kernel_rfl) (fun ⟨_, _, h⟩ => h) (by kernel_rfl) rfl (fun _ => ?_)
  refine G_take (i := 0) (oi := { dst := some 13, op := Op.load 156 (Operand.tmp 2), type := 156, pos := _, after := #[], guard := none }) (v := .pointer (some ⟨rb, 0, none⟩)) rfl (by kernel_rfl) (by kernel_rfl) (by kernel_rfl) (by kernel_rfl) (fun _ _ _ h => h) (by rfl) (fun u hu => ?_) rfl ?_
  ·(try dsimp only at hu); subst hu; go_simp
  (try simp only [Act.put, jq1, jq2, jq3])
  refine G_take (i := 1) (oi := { dst := some 14, op := Op.nilCheck (Operand.tmp 13), type := 0, pos := _, after := #[{ on := 0, ground := Ground.data }], guard := none }) (v := .pointer (some ⟨rb, 0, none⟩)) rfl (by kernel_rfl) (by kernel_rfl) (by kernel_rfl) (by kernel_rfl) (fun _ _ _ h => h) (by rfl) (fun u hu => ?_) rfl ?_
  ·(try dsimp only at hu); subst hu; go_simp
  (try simp only [Act.put, jq1, jq2, jq3])
  refine G_take (i := 2) (oi := { dst := some 15, op := Op.fieldAddr 128 (Operand.tmp 14) 0, type := 0, pos := _, after := #[{ on := 1, ground := Ground.data }], guard := none }) (v := .pointer (some ⟨rb, 0, none⟩)) rfl (by kernel_rfl) (by kernel_rfl) (by kernel_rfl) (by kernel_rfl) (fun _ _ _ h => h) (by rfl) (fun u hu => ?_) rfl ?_
  ·(try dsimp only at hu); subst hu; go_simp
  (try simp only [Act.put, jq1, jq2, jq3])
  refine G_take (i := 3) (oi := { dst := some 16, op := Op.load 126 (Operand.tmp 15), type := 126, pos := _, after := #[{ on := 2, ground := Ground.data }], guard := none }) (v := .map (some mb)) rfl (by kernel_rfl) (by kernel_rfl) (by kernel_rfl) (by kernel_rfl) (fun _ _ _ h => h) (by rfl) (fun u hu => ?_) rfl ?_
  ·(try dsimp only at hu); subst hu; go_simp
  (try simp only [Act.put, jq1, jq2, jq3])
  refine G_take (i := 4) (oi := { dst := some 17, op := Op.load 86 (Operand.tmp 7), type := 86, pos := _, after := #[], guard := none }) (v := .agg #[.int .i64 ((x.1.1 : Nat) : Int), .int .i64 ((x.2.1 : Nat) : Int)]) rfl (by kernel_rfl) (by kernel_rfl) (by kernel_rfl) (by kernel_rfl) (fun _ _ _ h => h) (by rfl) (fun u hu => ?_) rfl ?_
  ·(try dsimp only at hu); subst hu; go_simp
  (try simp only [Act.put, jq1, jq2, jq3])
  refine G_take (i := 5) (oi := { dst := some 18, op := Op.lookup 126 (Operand.tmp 16) (Operand.tmp 17) true, type := 157, pos := _, after := #[{ on := 3, ground := Ground.data }, { on := 4, ground := Ground.data }], guard := none }) (v := .tuple #[.int .i64 cn, .bool kn]) rfl (by kernel_rfl) (by kernel_rfl) (by kernel_rfl) (by kernel_rfl) (fun _ _ _ h => h) (by rfl) (fun u hu => ?_) rfl ?_
  ·(try dsimp only at hu); subst hu; go_simp
  (try simp only [Act.put, jq1, jq2, jq3])
  refine G_take (i := 6) (oi := { dst := some 12, op := Op.move (Operand.tmp 18), type := 157, pos := _, after := #[{ on := 5, ground := Ground.data }], guard := none }) (v := .tuple #[.int .i64 cn, .bool kn]) rfl (by kernel_rfl) (by kernel_rfl) (by kernel_rfl) (by kernel_rfl) (fun _ _ _ h => h) (by rfl) (fun u hu => ?_) rfl ?_
  ·(try dsimp only at hu); subst hu; go_simp
  (try simp only [Act.put, jq1, jq2, jq3])
  refine G_take (i := 7) (oi := { dst := some 19, op := Op.extract (Operand.tmp 12) 0, type := 3, pos := _, after := #[{ on := 6, ground := Ground.data }], guard := none }) (v := .int .i64 cn) rfl (by kernel_rfl) (by kernel_rfl) (by kernel_rfl) (by kernel_rfl) (fun _ _ _ h => h) (by rfl) (fun u hu => ?_) rfl ?_
  ·(try dsimp only at hu); subst hu; go_simp
  (try simp only [Act.put, jq1, jq2, jq3])
  refine G_take (i := 8) (oi := { dst := some 20, op := Op.extract (Operand.tmp 12) 1, type := 4, pos := _, after := #[{ on := 6, ground := Ground.data }, { on := 9, ground := Ground.gcOnly Departure.lateStores }], guard := none }) (v := .bool kn) rfl (by kernel_rfl) (by kernel_rfl) (by kernel_rfl) (by kernel_rfl) (fun _ _ _ h => h) (by rfl) (fun u hu => ?_) rfl ?_
  ·(try dsimp only at hu); subst hu; go_simp
  (try simp only [Act.put, jq1, jq2, jq3])
  refine G_take (i := 9) (oi := { dst := some 8, op := Op.assign (Operand.tmp 19), type := 3, pos := _, after := #[{ on := 7, ground := Ground.data }, { on := 0, ground := Ground.phase }, { on := 1, ground := Ground.phase }, { on := 2, ground := Ground.phase }, { on := 3, ground := Ground.phase }, { on := 4, ground := Ground.phase }, { on := 5, ground := Ground.phase }, { on := 6, ground := Ground.phase }, { on := 7, ground := Ground.phase }, { on := 8, ground := Ground.textOnly Departure.lateStores }], guard := none }) (v := .int .i64 cn) rfl (by kernel_rfl) (by kernel_rfl) (by kernel_rfl) (by kernel_rfl) (fun _ _ _ h => h) (by rfl) (fun u hu => ?_) rfl ?_
  ·(try dsimp only at hu); subst hu; go_simp
  (try simp only [Act.put, jq1, jq2, jq3])
  refine G_take (i := 10) (oi := { dst := some 9, op := Op.assign (Operand.tmp 20), type := 4, pos := _, after := #[{ on := 8, ground := Ground.data }, { on := 9, ground := Ground.chain }, { on := 0, ground := Ground.phase }, { on := 1, ground := Ground.phase }, { on := 2, ground := Ground.phase }, { on := 3, ground := Ground.phase }, { on := 4, ground := Ground.phase }, { on := 5, ground := Ground.phase }, { on := 6, ground := Ground.phase }, { on := 7, ground := Ground.phase }, { on := 8, ground := Ground.phase }, { on := 9, ground := Ground.phase }], guard := none }) (v := .bool kn) rfl (by kernel_rfl) (by kernel_rfl) (by kernel_rfl) (by kernel_rfl) (fun _ _ _ h => h) (by rfl) (fun u hu => ?_) rfl ?_
  ·(try dsimp only at hu); subst hu; go_simp
  (try simp only [Act.put, jq1, jq2, jq3])
  refine G_done (by kernel_rfl) ?_ _
  dsimp only [Exit.then]
  subst hpv
  subst hlv
  by_cases hk : prn x ∈ qp P pre
  ·obtain rfl : kn = true := HLK.out.1.2 hk
   obtain rfl := HLK.out.2 hk
   clear hlook y0 yr0 yr1 yb yc
   generalize hixe : ix (prn x) (qp P pre) = kx
   gi_wp2_with (gi_at_builtin; refine wpListIn_append_own_at _ rfl _ _ 29 rfl w1.heap.size 3 i0 (.int .i64 0) 1 8 Tryz.underlying29 HI.out.1 HI.out.2.1 HI.out.2.2.1 HI.out.2.2.2 rfl (by decide) _ _ _ rfl ((HRi.out.own.alloc _).drew) ⟨W.heap.size, 0, none⟩ 1 1 [.int .i64 (kx : Int)] rfl rfl (cell_one_new W _ _) (ints_oneCell .i64 [(kx : Int)]) (by unfold maxLen; omega) (by omega) (by have := HRi.out.sz; simp; omega) ?_; intro v' w7 hown' hgrow hnil hloc; have GF := hid (num_fr (w := w) (W := W) (lv := .slice la (cs (nms (qp P pre) pre)).length lc) (lv' := v') (o := .cells #[.int .i64 (kx : Int)] 3) ⟨hgrow.os, hgrow.tape, hgrow.output, hgrow.size, hgrow.block⟩ hloc); obtain ⟨g1, g2, G⟩ := HRi.out.num HC.out (k := kx) hown' ⟨hgrow.os, hgrow.tape, hgrow.output, hgrow.size, hgrow.block⟩ hloc; replace g1 : w7.cell? ⟨w.heap.size + 1 + 1 + 1, 0, none⟩ = some _ := g1; replace g2 : w7.frozen? ⟨w.heap.size + 1 + 1 + 1, 0, none⟩ = false := g2; obtain ⟨la2, lc2, hlv2, _⟩ := owns_row' hown'; subst hlv2; clear hown' hgrow hnil hloc)
   have e1 : qp P (pre ++ [x]) = qp P pre := by rw [qp_snoc, nAdd, if_pos hk]
   have hfin : (qp P (pre ++ [x])).length ≤ 2048 ∧ ∃ pv' lv, (∃ D', Ri w w1 rb mb pv (qp P (pre ++ [x])) (nms (qp P (pre ++ [x])) (pre ++ [x])) (w7.setCell ⟨w.heap.size + 3, 0, none⟩ (.slice la2 ((cs (nms (qp P pre) pre)).length + 1) lc2)) pv' lv D') ∧ Fpt w1 (grew Dp W (w7.setCell ⟨w.heap.size + 3, 0, none⟩ (.slice la2 ((cs (nms (qp P pre) pre)).length + 1) lc2))) pv' ∧ Fpt w1 (grew Dp W (w7.setCell ⟨w.heap.size + 3, 0, none⟩ (.slice la2 ((cs (nms (qp P pre) pre)).length + 1) lc2))) lv := by
    rw [e1, nms_snoc, hixe]
    refine ⟨hq, _, _, ⟨_, G.out.1⟩, HFP.out.1.mono (fun b hb => Or.inl hb), fun b hb => ?_⟩
    rcases GF.out.2 b hb with h1 | h1
    ·exact (HFP.out.2 b h1).imp id Or.inl
    ·exact Or.inr (Or.inr ⟨h1, (G.out.1.own.lt b hb).2⟩)
   refine ⟨GF.out.1.wide (fun b _ hb => ?_), hid hfin⟩
   rcases hb with rfl | hb
   ·exact Or.inl (HKD.out 3 (by decide))
   ·exact HVD.out.2 b hb
  ·obtain rfl : kn = false := by cases hh : kn with | false => rfl | true => exact absurd (HLK.out.1.1 hh) hk
   by_cases hf : (qp P pre).length = 2048
   ·have hff : (((qp P pre).length : Int) == 2048) = true := by rw [hf]; rfl
    have y1 : W.cell? ⟨w.heap.size + 1, 0, none⟩ = some (.slice none 0 0) := cell_of_cells yb rfl
    have y2 : W.cell? ⟨w.heap.size + 1 + 1, 0, none⟩ = some (.int .i64 0) := cell_of_cells yc rfl
    have f1 : W.frozen? ⟨w.heap.size + 1, 0, none⟩ = false := by simp [World.frozen?, yb]
    have f2 : W.frozen? ⟨w.heap.size + 1 + 1, 0, none⟩ = false := by simp [World.frozen?, yc]
    have HF := hid hf
    clear hlook yb yc hf
    gi_wp2
    have s1 := HS1.out
    have hfr := (HRi.out.fr.setCell (p := ⟨w.heap.size + 1, 0, none⟩) (fun hb => by dsimp only at hb; omega) (.slice none 0 0)).setCell (p := ⟨w.heap.size + 1 + 1, 0, none⟩) (fun hb => by dsimp only at hb; omega) (.int .i64 2)
    have hf2 : Fr (fun b => (b < w1.heap.size ∧ ¬ bs b) ∨ Dp b) W ((W.setCell ⟨w.heap.size + 1, 0, none⟩ (.slice none 0 0)).setCell ⟨w.heap.size + 1 + 1, 0, none⟩ (.int .i64 2)) := Fr.setCell (p := ⟨w.heap.size + 1 + 1, 0, none⟩) (Fr.setCell (p := ⟨w.heap.size + 1, 0, none⟩) (Fr.refl _ _) (fun _ => Or.inl (HKD.out 1 (by decide))) _) (fun _ => Or.inl (HKD.out 2 (by decide))) _
    refine ⟨⟨hf2.os, hf2.tape, hf2.output, hf2.size, hf2.block⟩, rfl, hid ⟨⟨hfr.os, hfr.tape, hfr.output, hfr.size, hfr.block⟩, ?_, ?_, ?_, ?_⟩⟩
    ·exact ((Sm.refl _).drew.cell _).trans <| (World.cell?_setCell_other _ _ _ _ (by intro hh; simp only [Addr.mk.injEq] at hh; omega)).trans (World.cell?_setCell_same _ _ _ y1)
    ·exact ((Sm.refl _).drew.cell _).trans <| World.cell?_setCell_same _ _ _ ((World.cell?_setCell_other _ _ _ _ (by intro hh; simp only [Addr.mk.injEq] at hh; omega)).trans y2)
    ·simp only [World.size_drew, World.size_setCell]; exact HRi.out.sz
    ·rw [qp_snoc, nAdd, if_neg hk, List.length_append, HF.out]; simp
   ·have hff : (((qp P pre).length : Int) == 2048) = false := by simp; omega
    clear hlook yb yc
    gi_wp2_with fail
    obtain ⟨w2, D2, hupd, hg2, hm2, hnm⟩ := Rol.store (w := W.drew.drew) (HRi.out.rol.below ((Sm.refl W).drew.drew.below _)) (prn_sml x) hk hq
    dsimp only [prn] at hupd
    refine G_round (fun z => z = W.drew.drew) (fun i => i == 6) (by kernel_rfl) (fun ⟨_, _, h⟩ => h) (by kernel_rfl) rfl (fun _ => ?_)
    refine G_take (i := 0) (oi := { dst := some 34, op := Op.load 156 (Operand.tmp 2), type := 156, pos := _, after := #[], guard := none }) (v := .pointer (some ⟨rb, 0, none⟩)) rfl (by kernel_rfl) (by kernel_rfl) (by kernel_rfl) (by kernel_rfl) (fun _ _ _ h => h) (by rfl) (fun u hu => ?_) rfl ?_
    ·(try dsimp only at hu); subst hu; go_simp
    (try simp only [Act.put, jq1, jq2, jq3])
    refine G_take (i := 1) (oi := { dst := some 35, op := Op.nilCheck (Operand.tmp 34), type := 0, pos := _, after := #[{ on := 0, ground := Ground.data }], guard := none }) (v := .pointer (some ⟨rb, 0, none⟩)) rfl (by kernel_rfl) (by kernel_rfl) (by kernel_rfl) (by kernel_rfl) (fun _ _ _ h => h) (by rfl) (fun u hu => ?_) rfl ?_
    ·(try dsimp only at hu); subst hu; go_simp
    (try simp only [Act.put, jq1, jq2, jq3])
    refine G_take (i := 2) (oi := { dst := some 36, op := Op.fieldAddr 128 (Operand.tmp 35) 0, type := 0, pos := _, after := #[{ on := 1, ground := Ground.data }], guard := none }) (v := .pointer (some ⟨rb, 0, none⟩)) rfl (by kernel_rfl) (by kernel_rfl) (by kernel_rfl) (by kernel_rfl) (fun _ _ _ h => h) (by rfl) (fun u hu => ?_) rfl ?_
    ·(try dsimp only at hu); subst hu; go_simp
    (try simp only [Act.put, jq1, jq2, jq3])
    refine G_take (i := 3) (oi := { dst := some 37, op := Op.load 126 (Operand.tmp 36), type := 126, pos := _, after := #[{ on := 2, ground := Ground.data }], guard := none }) (v := .map (some mb)) rfl (by kernel_rfl) (by kernel_rfl) (by kernel_rfl) (by kernel_rfl) (fun _ _ _ h => h) (by rfl) (fun u hu => ?_) rfl ?_
    ·(try dsimp only at hu); subst hu; go_simp
    (try simp only [Act.put, jq1, jq2, jq3])
    refine G_take (i := 4) (oi := { dst := some 38, op := Op.load 86 (Operand.tmp 7), type := 86, pos := _, after := #[], guard := none }) (v := .agg #[.int .i64 ((x.1.1 : Nat) : Int), .int .i64 ((x.2.1 : Nat) : Int)]) rfl (by kernel_rfl) (by kernel_rfl) (by kernel_rfl) (by kernel_rfl) (fun _ _ _ h => h) (by rfl) (fun u hu => ?_) rfl ?_
    ·(try dsimp only at hu); subst hu; go_simp
    (try simp only [Act.put, jq1, jq2, jq3])
    refine G_take (i := 5) (oi := { dst := some 39, op := Op.move (Operand.tmp 8), type := 3, pos := _, after := #[], guard := none }) (v := .int .i64 ((qp P pre).length : Nat)) rfl (by kernel_rfl) (by kernel_rfl) (by kernel_rfl) (by kernel_rfl) (fun _ _ _ h => h) (by rfl) (fun u hu => ?_) rfl ?_
    ·(try dsimp only at hu); subst hu; go_simp
    (try simp only [Act.put, jq1, jq2, jq3])
    refine G_step (i := 6) (o := _) (by kernel_rfl) rfl (fun K' hK => ?_)
    go_simp
    refine hK.out _ _ (fun h => absurd h (by decide)) (fun _ => ?_)
    (try simp only [Act.put, jq1, jq2, jq3])
    refine G_done (by kernel_rfl) ?_ _
    dsimp only [Exit.then]
    gi_wp2_with fail
    have hg2' : W.grownBy w2 (some mb) := ⟨hg2.os, hg2.tape, hg2.output, hg2.size, hg2.block⟩
    obtain ⟨m1, m2, m3, m4, m5⟩ := HRi.out.map HC.out hg2'
    have hmbl := HC.out.mb
    have hs1' := HS1.out
    have hBl : Bq < W.heap.size := World.block_lt_of_cell? _ _ z0
    have hWl : w1.heap.size ≤ W.heap.size := HRi.out.sz
    have x0 : w2.cell? ⟨w.heap.size, 0, none⟩ = some (.pointer (some ⟨rb, 0, none⟩)) := (World.cell?_of_block (w := W) (m3 _ jq0 (by dsimp only; omega))).trans y0
    have x1 : w2.cell? ⟨rb, 1, none⟩ = some (.slice pa (qp P pre).length pc) := (World.cell?_of_block (w := W) m1).trans yr1
    have x2 : w2.cell? ⟨Bq, 0, none⟩ = some (.int .i64 ((x.1.1 : Nat) : Int)) := (World.cell?_of_block (w := W) (m3 _ (by dsimp only; omega) hBl)).trans z0
    have x3 : w2.cell? ⟨Bq, 1, none⟩ = some (.int .i64 ((x.2.1 : Nat) : Int)) := (World.cell?_of_block (w := W) (m3 _ (by dsimp only; omega) hBl)).trans z1
    have HM2 := hid m2
    have hUb : (w2.alloc (.cells #[.int .i64 ((x.1.1 : Nat) : Int), .int .i64 ((x.2.1 : Nat) : Int)] 86)).heap[w2.heap.size]? = some (.cells #[.int .i64 ((x.1.1 : Nat) : Int), .int .i64 ((x.2.1 : Nat) : Int)] 86) := Go.Deep.blk_alloc_new _ _
    have hS0 : (fun z : World => z.cell? ⟨w.heap.size, 0, none⟩ = some (.pointer (some ⟨rb, 0, none⟩)) ∧ z.cell? ⟨rb, 1, none⟩ = some (.slice pa (qp P pre).length pc)) w2.drew := ⟨x0, x1⟩
    have hS1 : (fun z : World => z.cell? ⟨w.heap.size, 0, none⟩ = some (.pointer (some ⟨rb, 0, none⟩)) ∧ z.cell? ⟨rb, 1, none⟩ = some (.slice pa (qp P pre).length pc)) (w2.alloc (.cells #[.int .i64 ((x.1.1 : Nat) : Int), .int .i64 ((x.2.1 : Nat) : Int)] 86)).drew := ⟨cell_alloc1 _ x0, cell_alloc1 _ x1⟩
    clear m1 m2 m3 m4 m5 z0 z1 y0 yr0 yr1 hupd
    refine G_round (fun z : World => z.cell? ⟨w.heap.size, 0, none⟩ = some (.pointer (some ⟨rb, 0, none⟩)) ∧ z.cell? ⟨rb, 1, none⟩ = some (.slice pa (qp P pre).length pc)) (fun i => i == 10) (by kernel_rfl) (fun ⟨_, _, h⟩ => h) (by kernel_rfl) hS0 (fun _ => ?_)
    refine G_tk (i := 0) (oi := { dst := some 40, op := Op.load 156 (Operand.tmp 2), type := 156, pos := _, after := #[], guard := none }) (v := .pointer (some ⟨rb, 0, none⟩)) hS0 ?_
    (try simp only [Act.put, jq1, jq2, jq3])
    refine G_tk (i := 1) (oi := { dst := some 41, op := Op.load 156 (Operand.tmp 2), type := 156, pos := _, after := #[], guard := none }) (v := .pointer (some ⟨rb, 0, none⟩)) hS0 ?_
    (try simp only [Act.put, jq1, jq2, jq3])
    refine G_tk (i := 2) (oi := { dst := some 42, op := Op.nilCheck (Operand.tmp 41), type := 0, pos := _, after := #[{ on := 1, ground := Ground.data }], guard := none }) (v := .pointer (some ⟨rb, 0, none⟩)) hS0 ?_
    (try simp only [Act.put, jq1, jq2, jq3])
    refine G_tk (i := 3) (oi := { dst := some 43, op := Op.fieldAddr 128 (Operand.tmp 42) 1, type := 0, pos := _, after := #[{ on := 2, ground := Ground.data }], guard := none }) (v := .pointer (some ⟨rb, 1, none⟩)) hS0 ?_
    (try simp only [Act.put, jq1, jq2, jq3])
    refine G_tk (i := 4) (oi := { dst := some 44, op := Op.load 78 (Operand.tmp 43), type := 78, pos := _, after := #[{ on := 3, ground := Ground.data }], guard := none }) (v := .slice pa (qp P pre).length pc) hS0 ?_
    (try simp only [Act.put, jq1, jq2, jq3])
    refine G_step (i := 5) (o := _) (by kernel_rfl) rfl (fun K' hK => ?_)
    go_simp
    refine hK.out _ _ (fun _ => hS0) (fun _ => ?_)
    (try simp only [Act.put, jq1, jq2, jq3])
    refine G_step (i := 6) (o := _) (by kernel_rfl) rfl (fun K' hK => ?_)
    go_simp
    refine hK.out _ _ (fun _ => hS1) (fun _ => ?_)
    (try simp only [Act.put, jq1, jq2, jq3])
    refine G_step (i := 7) (o := _) (by kernel_rfl) rfl (fun K' hK => ?_)
    refine step_append_lies _ (by rfl) _ _ _ (by rfl) 0 86 i7 _ 2 16 Tryz.underlying78 HJ.out.1 HJ.out.2.1 HJ.out.2.2.1 HJ.out.2.2.2 rfl (by omega) (.slice pa (qp P pre).length pc) (qp P pre).length (pcells (qp P pre)) (by rfl) ((HM2.out.alloc _).drew) ⟨w2.heap.size, 0, none⟩ 1 1 [.int .i64 ((x.1.1 : Nat) : Int), .int .i64 ((x.2.1 : Nat) : Int)] (by rfl) (by rfl) (World.news_of_block (w := (w2.alloc (.cells #[.int .i64 ((x.1.1 : Nat) : Int), .int .i64 ((x.2.1 : Nat) : Int)] 86)).drew) (cs := #[.int .i64 ((x.1.1 : Nat) : Int), .int .i64 ((x.2.1 : Nat) : Int)]) (t := 86) (fr := (0, 0)) hUb) (by simp [Value.oneCell']) (by omega) (by unfold maxLen; omega) (by omega) (Nat.zero_le _) _ rfl ?_
    intro g cap w4 hown4 hgrow4 hat4 hlt4
    have hgr : (w2.alloc (.cells #[.int .i64 ((x.1.1 : Nat) : Int), .int .i64 ((x.2.1 : Nat) : Int)] 86)).grownBy w4 (Value.slice pa (qp P pre).length pc).ownBlock := ⟨hgrow4.os, hgrow4.tape, hgrow4.output, hgrow4.size, hgrow4.block⟩
    have GA := hid (add_fr (rb := rb) (pv' := .slice pa (qp P pre).length pc) (v6 := .slice (some ⟨g, 0, none⟩) ((qp P pre).length + 1) cap) hg2' hgr (hat4.imp (fun e => by rw [e]; simp [Value.ownBlock]) (fun e => by rw [e]; simp [Value.ownBlock])))
    obtain ⟨hrb4, HG⟩ := HRi.out.add HC.out hg2' hm2 hnm (v6 := .slice (some ⟨g, 0, none⟩) ((qp P pre).length + 1) cap) hown4 hgr (hat4.imp (fun e => by rw [e]; simp [Value.ownBlock]) (fun e => by rw [e]; simp [Value.ownBlock]))
    have hb04 : w4.cell? ⟨w.heap.size, 0, none⟩ = some (.pointer (some ⟨rb, 0, none⟩)) := (World.cell?_of_block (w := w2.alloc (.cells #[.int .i64 ((x.1.1 : Nat) : Int), .int .i64 ((x.2.1 : Nat) : Int)] 86)) (hgr.block _ (by have := hg2'.size; simp; omega) (fun e => by rcases HRi.out.pvn HC.out e.symm with h3 | h3 <;> dsimp only at h3 <;> omega))).trans (cell_alloc1 _ x0)
    have hb14 : w4.cell? ⟨rb, 1, none⟩ = some (.slice pa (qp P pre).length pc) := cell_of_cells hrb4 rfl
    have hf14 : w4.frozen? ⟨rb, 1, none⟩ = false := by simp [World.frozen?, hrb4]
    clear hown4 hgrow4 hgr hat4 hlt4 hUb hrb4 x0 x1 x2 x3
    refine hK.out _ _ (fun _ => ⟨hb04, hb14⟩) (fun _ => ?_)
    (try simp only [Act.put, jq1, jq2, jq3])
    refine G_step (i := 8) (o := _) (by kernel_rfl) rfl (fun K' hK => ?_)
    go_simp
    refine hK.out _ _ (fun _ => ⟨hb04, hb14⟩) (fun _ => ?_)
    (try simp only [Act.put, jq1, jq2, jq3])
    refine G_step (i := 9) (o := _) (by kernel_rfl) rfl (fun K' hK => ?_)
    go_simp
    refine hK.out _ _ (fun _ => ⟨hb04, hb14⟩) (fun _ => ?_)
    (try simp only [Act.put, jq1, jq2, jq3])
    refine G_step (i := 10) (o := _) (by kernel_rfl) rfl (fun K' hK => ?_)
    go_simp
    refine hK.out _ _ (fun h => absurd h (by decide)) (fun _ => ?_)
    (try simp only [Act.put, jq1, jq2, jq3])
    refine G_done (by kernel_rfl) ?_ _
    dsimp only [Exit.then]
    have HR5 := hid HG.out.1
    have HK5 := hid HG.out.2
    have yd5 : (w4.setCell ⟨rb, 1, none⟩ (.slice (some ⟨g, 0, none⟩) ((qp P pre).length + 1) cap)).cell? ⟨w.heap.size + 1 + 1 + 1, 0, none⟩ = some (.slice la (cs (nms (qp P pre) pre)).length lc) := cell_of_cells HG.out.1.lst rfl
    generalize w4.setCell ⟨rb, 1, none⟩ (.slice (some ⟨g, 0, none⟩) ((qp P pre).length + 1) cap) = w5 at *
    have e1 : qp P (pre ++ [x]) = qp P pre ++ [prn x] := by rw [qp_snoc, nAdd, if_neg hk]
    have e2 : nms (qp P pre ++ [prn x]) (pre ++ [x]) = nms (qp P pre) pre ++ [(qp P pre).length] := by rw [nms_snoc, ix_new hk, nms_pre (List.prefix_append _ _) (qp_mem P pre)]
    have HE := hid (And.intro e1 e2)
    have hq2 : (qp P (pre ++ [x])).length ≤ 2048 := by rw [e1, List.length_append, List.length_singleton]; omega
    clear hb04 hb14 hf14 HG yd hS0 hS1 e1 e2 hs1'
    gi_wp2_with (gi_at_builtin; refine wpListIn_append_own_at _ rfl _ _ 29 rfl w1.heap.size 3 i0 (.int .i64 0) 1 8 Tryz.underlying29 HI.out.1 HI.out.2.1 HI.out.2.2.1 HI.out.2.2.2 rfl (by decide) _ _ _ rfl (HR5.out.own.alloc _) ⟨w5.heap.size, 0, none⟩ 1 1 [.int .i64 ((qp P pre).length : Int)] rfl rfl (cell_one_new w5 _ _) (ints_oneCell .i64 [((qp P pre).length : Int)]) (by unfold maxLen; omega) (by omega) (by have := HR5.out.sz; simp; omega) ?_; intro v' w7 hown' hgrow hnil hloc; have GF := hid (num_fr (w := w) (W := w5) (lv := .slice la (cs (nms (qp P pre) pre)).length lc) (lv' := v') (o := .cells #[.int .i64 ((qp P pre).length : Int)] 3) ⟨hgrow.os, hgrow.tape, hgrow.output, hgrow.size, hgrow.block⟩ hloc); obtain ⟨g1, g2, G⟩ := HR5.out.num HC.out (k := (qp P pre).length) hown' ⟨hgrow.os, hgrow.tape, hgrow.output, hgrow.size, hgrow.block⟩ hloc; replace g1 : w7.cell? ⟨w.heap.size + 1 + 1 + 1, 0, none⟩ = some _ := g1; replace g2 : w7.frozen? ⟨w.heap.size + 1 + 1 + 1, 0, none⟩ = false := g2; obtain ⟨la2, lc2, hlv2, _⟩ := owns_row' hown'; subst hlv2; clear hown' hgrow hnil hloc)
    have hfin : (qp P (pre ++ [x])).length ≤ 2048 ∧ ∃ pv' lv, (∃ D', Ri w w1 rb mb pv (qp P (pre ++ [x])) (nms (qp P (pre ++ [x])) (pre ++ [x])) (w7.setCell ⟨w.heap.size + 3, 0, none⟩ (.slice la2 ((cs (nms (qp P pre) pre)).length + 1) lc2)) pv' lv D') ∧ Fpt w1 (grew Dp W (w7.setCell ⟨w.heap.size + 3, 0, none⟩ (.slice la2 ((cs (nms (qp P pre) pre)).length + 1) lc2))) pv' ∧ Fpt w1 (grew Dp W (w7.setCell ⟨w.heap.size + 3, 0, none⟩ (.slice la2 ((cs (nms (qp P pre) pre)).length + 1) lc2))) lv := by
     rw [HE.out.1] at hq2 ⊢
     rw [HE.out.2]
     refine ⟨hq2, _, _, ⟨_, G.out.1⟩, fun b hb => ?_, fun b hb => ?_⟩
     ·rcases GA.out.2 b hb with h1 | h1
      ·exact (HFP.out.1 b h1).imp id Or.inl
      ·exact Or.inr (Or.inr ⟨h1, (G.out.1.rol.own.lt b hb).2⟩)
     ·rcases GF.out.2 b hb with h1 | h1
      ·exact (HFP.out.2 b h1).imp id Or.inl
      ·exact Or.inr (Or.inr ⟨by have := GA.out.1.size; omega, (G.out.1.own.lt b hb).2⟩)
    have hA : Fr (fun b => (b < w1.heap.size ∧ ¬ bs b) ∨ Dp b) W w5 := GA.out.1.wide (fun b _ hb => by
     rcases hb with rfl | rfl | hb
     ·exact Or.inl ⟨by have := HC.out.rb; have := HS1.out; omega, fun h => (HBS.out _ h).2 (Or.inl rfl)⟩
     ·exact Or.inl ⟨by have := HC.out.mb; have := HS1.out; omega, fun h => (HBS.out _ h).2 (Or.inr (Or.inl rfl))⟩
     ·exact HVD.out.1 b hb)
    refine ⟨hA.trans GF.out.1 (fun b _ hb => ?_), hid hfin⟩
    rcases hb with rfl | hb
    ·exact Or.inl (HKD.out 3 (by decide))
    ·exact HVD.out.2 b hb
 case done =>
  rintro Dd Dq W hD hI hK
  obtain ⟨h1, pv', lv, ⟨D', h2⟩, _, _⟩ := hI.out
  obtain ⟨la, lc, hlv, _⟩ := owns_row h2.own
  have yb : W.heap[w.heap.size + 1]? = some (.cells #[.slice none 0 0] 29) := (h2.old _ (by omega) (by omega)).trans HN.out.2.1
  have yc : W.heap[w.heap.size + 1 + 1]? = some (.cells #[.int .i64 0] 33) := (h2.old _ (by omega) (by omega)).trans HN.out.2.2
  have yd : W.cell? ⟨w.heap.size + 1 + 1 + 1, 0, none⟩ = some lv := cell_of_cells h2.lst rfl
  have y1 : W.cell? ⟨w.heap.size + 1, 0, none⟩ = some (.slice none 0 0) := cell_of_cells yb rfl
  have y2 : W.cell? ⟨w.heap.size + 1 + 1, 0, none⟩ = some (.int .i64 0) := cell_of_cells yc rfl
  have f1 : W.frozen? ⟨w.heap.size + 1, 0, none⟩ = false := by simp [World.frozen?, yb]
  have f2 : W.frozen? ⟨w.heap.size + 1 + 1, 0, none⟩ = false := by simp [World.frozen?, yc]
  subst hlv
  obtain ⟨X, hX⟩ : ∃ X, (W.setCell ⟨w.heap.size + 1, 0, none⟩ (.slice la (cs (nms (qp P all) all)).length lc)).setCell ⟨w.heap.size + 1 + 1, 0, none⟩ (.int .i64 0) = X := ⟨_, rfl⟩
  obtain ⟨hKX, hfin⟩ := h2.fin HC.out hD hK rfl _ _ _ hX y1 y2
  have HF := hid (And.intro hfin (And.intro h1 (And.intro h2.loc h2.ap)))
  clear h2 h1 hfin hI yb yc
  go_wp2
  refine ⟨by simp, .inl ⟨_, _, rfl, run_takeDeferred hKX, ?_⟩⟩
  obtain ⟨a1, a2, a3, a4, a5⟩ := HF.out.1 _ (grownBy_putObj' X Dd (.deferred none))
  refine ⟨.tuple #[.slice la (cs (nms (qp P all) all)).length lc, .int .i64 0], by simp [results, Tryz.f80, go_sem, a1, a2], ?_⟩
  refine Or.inl ⟨HF.out.2.1, _, pv', D', rfl, a3, a4, a5, HF.out.2.2.1.imp id (fun e b hb => by have := e b hb; have := HS1.out; omega), HF.out.2.2.2⟩
 case stop =>
  rintro Dd Dq c pre W hD hp ⟨rfl, hI⟩ hK
  obtain ⟨h1, h2, h3, h4, h5⟩ := hI.out
  have HF := hid (And.intro h1 h5)
  clear hI h1 h5
  refine wpIn_wide.2 ?_
  go_wp2
  refine ⟨by simp, .inl ⟨_, _, rfl, run_takeDeferred hK, ?_⟩⟩
  have hg5 := grownBy_putObj' W Dd (.deferred none)
  have a1 := cell_kept h2 hg5 (fun r e => by cases e; exact ⟨_, hK, rfl⟩)
  have a2 := cell_kept h3 hg5 (fun r e => by cases e; exact ⟨_, hK, rfl⟩)
  refine ⟨.tuple #[.slice none 0 0, .int .i64 2], by simp [results, Tryz.f80, go_sem, a1, a2], ?_⟩
  exact Or.inr ⟨Nat.lt_of_lt_of_le HF.out.2 (qp_pre hp).length_le, rfl, HF.out.1.grown hg5 (fun b e hb => by cases e; have := HS1.out; omega)⟩
end Go.Proofs.YtmdpbaobihdgkaaGreatDoor
