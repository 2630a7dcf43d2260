/- The document's WordOf. -/
import Derived.Test.YtgahdclbaifcbaaWdp
import Derived.Deep.AppendLies
namespace Go.Proofs.Ytgahdclbaifcbaa
open Go.RowKit

theorem owns_blk {w : World} {base : Nat} {e : TypeId} {size : Nat} {v : Value} {n : Nat} {xs : List Value} (h : w.ownsRow base e size v n xs) {b : Nat} (hb : v.ownBlock = some b) : ∃ c z, w.heap[b]? = some (.cells c e z) := by
  rcases h.2 with ⟨rfl, h0⟩ | ⟨g, cap, cur, rfl, hb2, hg, _⟩
  · simp [Value.ownBlock] at hb
  · simp [Value.ownBlock] at hb
    subst hb
    exact ⟨_, _, hg⟩
theorem owns_of_blk {W W' : World} {base : Nat} {e : TypeId} {size : Nat} {v : Value} {m : Nat} {xs : List Value} (h : W.ownsRow base e size v m xs) (hb : ∀ b, v.ownBlock = some b → W'.heap[b]? = W.heap[b]?) : W'.ownsRow base e size v m xs :=
  ⟨h.1, h.2.imp id (fun ⟨g, cap, cur, e1, h1, h2, r⟩ => ⟨g, cap, cur, e1, h1, (hb g (by rw [e1]; rfl)).trans h2, r⟩)⟩
theorem owns_below {w w' : World} {base : Nat} {e : TypeId} {size : Nat} {v : Value} {n : Nat} {xs : List Value} (h : w.ownsRow base e size v n xs) (hb : Below w.heap.size w w') : w'.ownsRow base e size v n xs :=
  h.kept (row := none) ⟨hb.os, hb.tape, hb.output, hb.size, fun k hk _ => hb.block k hk⟩ (by
    cases hv : v.ownBlock with
    | none => exact Or.inl rfl
    | some b => exact Or.inr (fun e => by cases e))
def vu (M : Nat → Nat) (j : Nat) : List Value := (List.range j).map fun i => .int .u64 ((M i : Nat) : Int)
theorem vu_succ (M : Nat → Nat) (j : Nat) : vu M (j + 1) = vu M j ++ [.int .u64 ((M j : Nat) : Int)] := by simp [vu, List.range_succ]
theorem vu_len (M : Nat → Nat) (j : Nat) : (vu M j).length = j := by simp [vu]
theorem owns_rowU {w : World} {base : Nat} {v : Value} {M : Nat → Nat} {n : Nat} (h : w.ownsRow base 70 1 v n (vu M n)) : ∃ a c, v = .slice a n c ∧ RowU w a n (fun i => ((M i : Nat) : Int)) := by
  rcases h.2 with ⟨rfl, h0⟩ | ⟨g, cap, cur, rfl, hb, hg, _⟩
  · exact ⟨none, 0, by rw [h0], 0, 0, fun hh => by omega, fun i hi => by omega⟩
  · refine ⟨some ⟨g, 0, none⟩, cap, rfl, g, 0, fun _ => rfl, fun i hi => ?_⟩
    have := h.cells (g := g) rfl i (.int .u64 ((M i : Nat) : Int)) (by simp [vu, hi])
    rwa [addr_none] at this

/-- While a word is made. -/
structure Lw (w0 : World) (mv ov : Value) (M N : Nat → Nat) (jm jo : Nat) (W : World) : Prop where
  aut : W.heap[w0.heap.size]? = some (.cells #[mv, ov] 41)
  ms : W.ownsRow w0.heap.size 70 1 mv jm (vu M jm)
  os : W.ownsRow w0.heap.size 70 1 ov jo (vu N jo)
  low : Below w0.heap.size w0 W
  ap : ∀ b, mv.ownBlock = some b → ov.ownBlock ≠ some b

theorem lw_start (w0 : World) (M N : Nat → Nat) : Lw w0 (.slice none 0 0) (.slice none 0 0) M N 0 0 (w0.alloc (.cells #[.slice none 0 0, .slice none 0 0] 41)) :=
  ⟨Go.Deep.blk_alloc_new _ _, World.ownsRow_nil _ _ _ _, World.ownsRow_nil _ _ _ _, box_below _ _, fun b hb => by simp [Value.ownBlock] at hb⟩
/-- A block that no list of words lies in. -/
def Oth (w0 W : World) (b : Nat) : Prop := b < w0.heap.size ∨ ∃ c t z, W.heap[b]? = some (.cells c t z) ∧ t ≠ 70

/-- One word more in Must. -/
theorem Lw.must {w0 : World} {mv ov mv' : Value} {M N : Nat → Nat} {jm jo : Nat} {W W4 : World} {o : Obj} (h : Lw w0 mv ov M N jm jo W) (hown : W4.ownsRow w0.heap.size 70 1 mv' (jm + 1) (vu M jm ++ [.int .u64 ((M jm : Nat) : Int)])) (hgr : (W.alloc o).grownBy W4 mv.ownBlock) (hat : mv.ownBlock = mv'.ownBlock ∨ mv'.ownBlock = some (W.heap.size + 1)) :
    (∀ b, b < W.heap.size → Oth w0 W b → W4.heap[b]? = W.heap[b]?) ∧ W4.frozen? ⟨w0.heap.size, 0, none⟩ = false ∧ Lw w0 mv' ov M N (jm + 1) jo (W4.setCell ⟨w0.heap.size, 0, none⟩ mv') ∧ But w0.heap.size W4 (W4.setCell ⟨w0.heap.size, 0, none⟩ mv') := by
  have hg := (World.grownBy_alloc W o mv.ownBlock).trans hgr
  have hk : ∀ b, b < W.heap.size → mv.ownBlock ≠ some b → W4.heap[b]? = W.heap[b]? := fun b hb hn => hg.block b hb (fun e => hn e.symm)
  have hoth : ∀ b, b < W.heap.size → Oth w0 W b → W4.heap[b]? = W.heap[b]? := fun b hb ho => hk b hb (fun e => by
    rcases ho with h1 | ⟨c, t, z, h1, h2⟩
    · have := (h.ms.lt b e).1; omega
    · obtain ⟨c2, z2, h3⟩ := owns_blk h.ms e
      rw [h1] at h3
      cases h3
      exact h2 rfl)
  have hl0 := (Array.getElem?_eq_some_iff.1 h.aut).1
  have ha : W4.heap[w0.heap.size]? = _ := (hoth _ hl0 (Or.inr ⟨_, _, _, h.aut, by decide⟩)).trans h.aut
  have hbut : But w0.heap.size W4 (W4.setCell ⟨w0.heap.size, 0, none⟩ mv') := (But.refl _ _).setCell 0 _
  have hset : ∀ {v : Value} {n : Nat} {xs : List Value}, W4.ownsRow w0.heap.size 70 1 v n xs → (W4.setCell ⟨w0.heap.size, 0, none⟩ mv').ownsRow w0.heap.size 70 1 v n xs := fun {v n xs} h1 => owns_of_blk h1 (fun b e => by
    obtain ⟨c, z, h2⟩ := owns_blk h1 e
    exact hbut.block b (Array.getElem?_eq_some_iff.1 h2).1 (fun e2 => by
      rw [e2, ha] at h2
      cases h2))
  refine ⟨hoth, by simp [World.frozen?, ha], ⟨?_, hset (by rw [vu_succ]; exact hown), hset (owns_of_blk h.os (fun b e => ?_)), ?_, fun b hb => ?_⟩, hbut⟩
  · have e := blk_setCell (i := 0) (v := mv') ha
    simpa using e
  · exact hk b (h.os.lt b e).2 (fun e2 => h.ap b e2 e)
  · exact (h.low.grown hg h.low.size (fun b hb => (h.ms.lt b hb).1)).setCell (Nat.le_refl _) _
  · rcases hat with e | e
    · exact h.ap b (e.trans hb)
    · rw [e] at hb
      intro h2
      have := (h.os.lt b h2).2
      have hb2 : W.heap.size + 1 = b := Option.some.inj hb
      omega

/-- One word more in Not. -/
theorem Lw.nots {w0 : World} {mv ov ov' : Value} {M N : Nat → Nat} {jm jo : Nat} {W W4 : World} {o : Obj} (h : Lw w0 mv ov M N jm jo W) (hown : W4.ownsRow w0.heap.size 70 1 ov' (jo + 1) (vu N jo ++ [.int .u64 ((N jo : Nat) : Int)])) (hgr : (W.alloc o).grownBy W4 ov.ownBlock) (hat : ov.ownBlock = ov'.ownBlock ∨ ov'.ownBlock = some (W.heap.size + 1)) :
    (∀ b, b < W.heap.size → Oth w0 W b → W4.heap[b]? = W.heap[b]?) ∧ W4.frozen? ⟨w0.heap.size, 1, none⟩ = false ∧ Lw w0 mv ov' M N jm (jo + 1) (W4.setCell ⟨w0.heap.size, 1, none⟩ ov') ∧ But w0.heap.size W4 (W4.setCell ⟨w0.heap.size, 1, none⟩ ov') := by
  have hg := (World.grownBy_alloc W o ov.ownBlock).trans hgr
  have hk : ∀ b, b < W.heap.size → ov.ownBlock ≠ some b → W4.heap[b]? = W.heap[b]? := fun b hb hn => hg.block b hb (fun e => hn e.symm)
  have hoth : ∀ b, b < W.heap.size → Oth w0 W b → W4.heap[b]? = W.heap[b]? := fun b hb ho => hk b hb (fun e => by
    rcases ho with h1 | ⟨c, t, z, h1, h2⟩
    · have := (h.os.lt b e).1; omega
    · obtain ⟨c2, z2, h3⟩ := owns_blk h.os e
      rw [h1] at h3
      cases h3
      exact h2 rfl)
  have hl0 := (Array.getElem?_eq_some_iff.1 h.aut).1
  have ha : W4.heap[w0.heap.size]? = _ := (hoth _ hl0 (Or.inr ⟨_, _, _, h.aut, by decide⟩)).trans h.aut
  have hbut : But w0.heap.size W4 (W4.setCell ⟨w0.heap.size, 1, none⟩ ov') := (But.refl _ _).setCell 1 _
  have hset : ∀ {v : Value} {n : Nat} {xs : List Value}, W4.ownsRow w0.heap.size 70 1 v n xs → (W4.setCell ⟨w0.heap.size, 1, none⟩ ov').ownsRow w0.heap.size 70 1 v n xs := fun {v n xs} h1 => owns_of_blk h1 (fun b e => by
    obtain ⟨c, z, h2⟩ := owns_blk h1 e
    exact hbut.block b (Array.getElem?_eq_some_iff.1 h2).1 (fun e2 => by
      rw [e2, ha] at h2
      cases h2))
  refine ⟨hoth, by simp [World.frozen?, ha], ⟨?_, hset (owns_of_blk h.ms (fun b e => ?_)), hset (by rw [vu_succ]; exact hown), ?_, fun b hb hb2 => ?_⟩, hbut⟩
  · have e := blk_setCell (i := 1) (v := ov') ha
    simpa using e
  · exact hk b (h.ms.lt b e).2 (fun e2 => h.ap b e e2)
  · exact (h.low.grown hg h.low.size (fun b hb => (h.os.lt b hb).1)).setCell (Nat.le_refl _) _
  · rcases hat with e | e
    · exact h.ap b hb (e.trans hb2)
    · rw [e] at hb2
      have := (h.ms.lt b hb).2
      have hb3 : W.heap.size + 1 = b := Option.some.inj hb2
      omega
theorem oth_cell {w0 W W4 : World} (h : ∀ b, b < W.heap.size → Oth w0 W b → W4.heap[b]? = W.heap[b]?) {p : Addr} {v : Value} (ho : Oth w0 W p.block) (hc : W.cell? p = some v) : W4.cell? p = some v :=
  (World.cell?_of_block (w := W) (h _ (World.block_lt_of_cell? _ _ hc) ho)).trans hc

set_option maxRecDepth 100000 in
set_option maxHeartbeats 4000000 in
theorem wordOf_any (A : Wx) (pa : Option Addr) (s pc : Nat) (qa : Option Addr) (m qc : Nat) (P Q : Nat → Int) (w : World) (h : Ww w A) (hp : Pw w pa s pc qa m qc P Q) (hM : A.M = A.G) (hPi : allIn s P A.G = true) (hQi : allIn m Q A.G = true) :
    Calls Try.prog 18 #[.agg #[.slice A.sa A.sn A.sc, .slice A.na A.G A.nc, .slice A.la A.M A.lc, .slice A.fa A.K A.fc], .agg #[.slice pa s pc, .slice qa m qc]] w fun e w' => ∃ (xa : Option Addr) (xc : Nat) (ya : Option Addr) (yc : Nat), e = .returned (.agg #[.slice xa s xc, .slice ya m yc]) ∧ Hid (RowU w' xa s (fun i => (A.Lb (P i).toNat : Int)) ∧ RowU w' ya m (fun i => (A.Lb (Q i).toNat : Int)) ∧ Below w.heap.size w w') := by
  obtain ⟨W1, hW1, hb1, hs1, hbw⟩ := boxw w A
  obtain ⟨W2, hW2, hb2, hs2, y0, y1⟩ := box2 W1 (.slice pa s pc) (.slice qa m qc) 37
  obtain ⟨W3, hW3, hb3, hs3, _, _⟩ := box2 W2 (.slice none 0 0) (.slice none 0 0) 41
  have hk3 : W3.heap[W2.heap.size]? = some (.cells #[.slice none 0 0, .slice none 0 0] 41) := by rw [← hW3]; exact Go.Deep.blk_alloc_new _ _
  have h3 : Below w.heap.size w W3 := (hb1.trans (hb2.mono hb1.size)).trans (hb3.mono (by omega))
  obtain ⟨lb, lo, hla, hlc⟩ := (h.below h3).label
  obtain ⟨pb, po, hpa, hpc⟩ := (hp.below h3).stem
  obtain ⟨qb, qo, hqa, hqc⟩ := (hp.below h3).loop
  have HB3 := hid h3
  have HLA : Hid (0 < A.M → A.la = some ⟨lb, lo, none⟩) := hid hla
  have HLC := hid hlc
  have HPC := hid hpc
  have HQC := hid hqc
  have HPI := hid (And.intro (allIn_all hPi) (allIn_all hQi))
  have HM := hid hM
  have hs8 := hp.s8
  have hm8 := hp.m8
  have HBW := hid ((hbw.below hb2).below hb3)
  have HY := hid (And.intro (below_cell hb3 (Nat.le_refl _) y0) (below_cell hb3 (Nat.le_refl _) y1))
  obtain ⟨p1, hp1⟩ : ∃ p1, W1.heap.size = p1 := ⟨_, rfl⟩
  obtain ⟨p2, hp2⟩ : ∃ p2, W2.heap.size = p2 := ⟨_, rfl⟩
  rw [hp2] at hk3
  rw [hp1] at HY
  have HP2 : Hid (w.heap.size ≤ p2 ∧ p2 < W3.heap.size ∧ p2 ≠ p1 ∧ p1 < W3.heap.size ∧ w.heap.size < W3.heap.size) := hid (by omega)
  have HK3 := hid hk3
  have HLB := hid h.lb
  obtain ⟨iu, hi, hz0, hz1, hz2⟩ := info_parts Try.info70
  have HU : Hid (Try.prog.info? 70 = some iu ∧ iu.zero = some (.int .u64 0) ∧ iu.size = 1 ∧ iu.bytes = 8) := ⟨hi, hz0, hz1, hz2⟩
  clear hi hz0 hz1 hz2 h hp hb1 hs1 hb2 hs2 hbw h3 hb3 hs3 y0 y1 hk3 hla hlc hpc hqc hPi hQi hM
  obtain ⟨sa, sn, sc, na, G, nc, la, M, lc, fa, K, fc, S, L, Z, Lb, FL, FZ⟩ := A
  dsimp only at *
  obtain ⟨Mf, hMf⟩ : ∃ Mf : Nat → Nat, (fun i => Lb (P i).toNat) = Mf := ⟨_, rfl⟩
  obtain ⟨Nf, hNf⟩ : ∃ Nf : Nat → Nat, (fun i => Lb (Q i).toNat) = Nf := ⟨_, rfl⟩
  have HMN := hid (And.intro hMf hNf)
  have HLS := hid (lw_start W3 Mf Nf)
  clear hMf hNf
  go_enter Try.func18, Try.ntmps18
  go_wp2_with fail
  (try rw [hp1])
  (try rw [hp2])
  generalize W3.alloc (.cells #[.slice none 0 0, .slice none 0 0] 41) = W4 at *
  go_loopw [6] (fun i wr => ∃ (j : Nat) (mv : Value), j ≤ s ∧ i = .int .i64 j ∧ Hid (Lw W3 mv (.slice none 0 0) Mf Nf j 0 wr)) (fun i _ => s - (intOf i).toNat)
  case atStart => exact ⟨0, _, Nat.zero_le _, rfl, HLS⟩
  case round =>
    obtain ⟨j, mv, hj, rfl, HLq⟩ := hrel
    clear HLS
    obtain ⟨m1, c1, hmv⟩ := owns_sl HLq.out.ms
    subst hmv
    have wl := HLq.out.low
    obtain ⟨q0, q1, q2, q3⟩ : Bw wr w.heap.size ⟨sa, sn, sc, na, G, nc, la, M, lc, fa, K, fc, S, L, Z, Lb, FL, FZ⟩ := HBW.out.below wl
    dsimp only at q0 q1 q2 q3
    have z0 := below_cell wl (Nat.le_refl _) HY.out.1
    have z1 := below_cell wl (Nat.le_refl _) HY.out.2
    by_cases hlt : j < s
    · have hz := HPI.out.1 j hlt
      have hGM := HM.out
      obtain rfl := hpa (by omega)
      obtain rfl := HLA.out (by omega)
      obtain ⟨px, hpx⟩ : ∃ t : Nat, P j = t := ⟨(P j).toNat, by omega⟩
      have hpM : px < M := by omega
      have zp := below_cell wl (Nat.le_refl _) (HPC.out j hlt)
      have zl := below_cell wl (Nat.le_refl _) (HLC.out px hpM)
      have hF : Mf j = Lb px := by rw [← HMN.out.1]; show Lb (P j).toNat = _; rw [hpx]; rfl
      rw [hpx] at zp
      (try dsimp only at zl)
      rw [← hF] at zl
      have hlw : w.heap.size < W3.heap.size := HP2.out.2.2.2.2
      have hl1 : p1 < W3.heap.size := HP2.out.2.2.2.1
      have hlp := World.block_lt_of_cell? _ _ (HPC.out j hlt)
      have hll := World.block_lt_of_cell? _ _ (HLC.out px hpM)
      dsimp only at hlp hll
      have hc := (two_c HLq.out.aut).1
      have hs5 : W3.heap.size ≤ wr.heap.size := wl.size
      have hUb : (wr.alloc (.cells #[.int .u64 ((Mf j : Nat) : Int)] 70)).heap[wr.heap.size]? = some (.cells #[.int .u64 ((Mf j : Nat) : Int)] 70) := Go.Deep.blk_alloc_new _ _
      have HOW : Hid (((wr.alloc (.cells #[.int .u64 ((Mf j : Nat) : Int)] 70)).drew).ownsRow W3.heap.size 70 1 (.slice m1 j c1) j (vu Mf j)) := hid ((HLq.out.ms.alloc _).drew)
      have hS0 : (fun z : World => z.cell? ⟨W3.heap.size, 0, none⟩ = some (.slice m1 j c1) ∧ z.cell? ⟨w.heap.size, 2, none⟩ = some (.slice (some ⟨lb, lo, none⟩) M lc) ∧ z.cell? ⟨p1, 0, none⟩ = some (.slice (some ⟨pb, po, none⟩) s pc) ∧ z.cell? ⟨pb, po + j, none⟩ = some (.int .i64 (px : Nat)) ∧ z.cell? ⟨lb, lo + px, none⟩ = some (.int .u64 ((Mf j : Nat) : Int))) wr.drew := ⟨hc, q2, z0, zp, zl⟩
      have hS1 : (fun z : World => z.cell? ⟨W3.heap.size, 0, none⟩ = some (.slice m1 j c1) ∧ z.cell? ⟨w.heap.size, 2, none⟩ = some (.slice (some ⟨lb, lo, none⟩) M lc) ∧ z.cell? ⟨p1, 0, none⟩ = some (.slice (some ⟨pb, po, none⟩) s pc) ∧ z.cell? ⟨pb, po + j, none⟩ = some (.int .i64 (px : Nat)) ∧ z.cell? ⟨lb, lo + px, none⟩ = some (.int .u64 ((Mf j : Nat) : Int))) (wr.alloc (.cells #[.int .u64 ((Mf j : Nat) : Int)] 70)).drew := ⟨cell_alloc1 _ hc, cell_alloc1 _ q2, cell_alloc1 _ z0, cell_alloc1 _ zp, cell_alloc1 _ zl⟩
      clear hz hGM hF hpx
      go_wp2_with fail
      refine G_region (fun z : World => z.cell? ⟨W3.heap.size, 0, none⟩ = some (.slice m1 j c1) ∧ z.cell? ⟨w.heap.size, 2, none⟩ = some (.slice (some ⟨lb, lo, none⟩) M lc) ∧ z.cell? ⟨p1, 0, none⟩ = some (.slice (some ⟨pb, po, none⟩) s pc) ∧ z.cell? ⟨pb, po + j, none⟩ = some (.int .i64 (px : Nat)) ∧ z.cell? ⟨lb, lo + px, none⟩ = some (.int .u64 ((Mf j : Nat) : Int))) (fun i => i == 14) (by kernel_rfl) hS0 (fun _ => ?_)
      refine G_take (i := 0) (oi := { dst := some 15, op := Op.fieldAddr 41 (Operand.tmp 5) 0, type := 0, pos := _, after := #[], guard := none }) (v := .pointer (some ⟨W3.heap.size, 0, none⟩)) rfl (by kernel_rfl) (by kernel_rfl) (by kernel_rfl) (by kernel_rfl) (fun _ _ _ h => h) (by rfl) (fun u hu => ?_) hS0 ?_
      · (try dsimp only at hu); go_simp
      (try simp only [Act.put, List.setIfInBounds_toArray, List.set_cons_zero, List.set_cons_succ])
      refine G_take (i := 1) (oi := { dst := some 16, op := Op.load 24 (Operand.tmp 15), type := 24, pos := _, after := #[{ on := 0, ground := Ground.data }], guard := none }) (v := .slice m1 j c1) rfl (by kernel_rfl) (by kernel_rfl) (by kernel_rfl) (by kernel_rfl) (fun _ _ _ h => h) (by rfl) (fun u hu => ?_) hS0 ?_
      · (try dsimp only at hu); go_simp
      (try simp only [Act.put, List.setIfInBounds_toArray, List.set_cons_zero, List.set_cons_succ])
      refine G_take (i := 2) (oi := { dst := some 17, op := Op.fieldAddr 26 (Operand.tmp 2) 2, type := 0, pos := _, after := #[], guard := none }) (v := .pointer (some ⟨w.heap.size, 2, none⟩)) rfl (by kernel_rfl) (by kernel_rfl) (by kernel_rfl) (by kernel_rfl) (fun _ _ _ h => h) (by rfl) (fun u hu => ?_) hS0 ?_
      · (try dsimp only at hu); go_simp
      (try simp only [Act.put, List.setIfInBounds_toArray, List.set_cons_zero, List.set_cons_succ])
      refine G_take (i := 3) (oi := { dst := some 18, op := Op.load 24 (Operand.tmp 17), type := 24, pos := _, after := #[{ on := 2, ground := Ground.data }], guard := none }) (v := .slice (some ⟨lb, lo, none⟩) M lc) rfl (by kernel_rfl) (by kernel_rfl) (by kernel_rfl) (by kernel_rfl) (fun _ _ _ h => h) (by rfl) (fun u hu => ?_) hS0 ?_
      · (try dsimp only at hu); go_simp
      (try simp only [Act.put, List.setIfInBounds_toArray, List.set_cons_zero, List.set_cons_succ])
      refine G_take (i := 4) (oi := { dst := some 19, op := Op.fieldAddr 37 (Operand.tmp 3) 0, type := 0, pos := _, after := #[], guard := none }) (v := .pointer (some ⟨p1, 0, none⟩)) rfl (by kernel_rfl) (by kernel_rfl) (by kernel_rfl) (by kernel_rfl) (fun _ _ _ h => h) (by rfl) (fun u hu => ?_) hS0 ?_
      · (try dsimp only at hu); go_simp
      (try simp only [Act.put, List.setIfInBounds_toArray, List.set_cons_zero, List.set_cons_succ])
      refine G_take (i := 5) (oi := { dst := some 20, op := Op.load 22 (Operand.tmp 19), type := 22, pos := _, after := #[{ on := 4, ground := Ground.data }], guard := none }) (v := .slice (some ⟨pb, po, none⟩) s pc) rfl (by kernel_rfl) (by kernel_rfl) (by kernel_rfl) (by kernel_rfl) (fun _ _ _ h => h) (by rfl) (fun u hu => ?_) hS0 ?_
      · (try dsimp only at hu); go_simp
      (try simp only [Act.put, List.setIfInBounds_toArray, List.set_cons_zero, List.set_cons_succ])
      refine G_take (i := 6) (oi := { dst := some 21, op := Op.move (Operand.tmp 6), type := 3, pos := _, after := #[], guard := none }) (v := .int .i64 (j : Nat)) rfl (by kernel_rfl) (by kernel_rfl) (by kernel_rfl) (by kernel_rfl) (fun _ _ _ h => h) (by rfl) (fun u hu => ?_) hS0 ?_
      · (try dsimp only at hu); go_simp
      (try simp only [Act.put, List.setIfInBounds_toArray, List.set_cons_zero, List.set_cons_succ])
      refine G_take (i := 7) (oi := { dst := some 22, op := Op.indexAddr 22 (Operand.tmp 20) (Operand.tmp 21), type := 0, pos := _, after := #[{ on := 5, ground := Ground.data }, { on := 6, ground := Ground.data }], guard := none }) (v := .pointer (some ⟨pb, po + j, none⟩)) rfl (by kernel_rfl) (by kernel_rfl) (by kernel_rfl) (by kernel_rfl) (fun _ _ _ h => h) (by rfl) (fun u hu => ?_) hS0 ?_
      · (try dsimp only at hu); go_simp
      (try simp only [Act.put, List.setIfInBounds_toArray, List.set_cons_zero, List.set_cons_succ])
      refine G_take (i := 8) (oi := { dst := some 23, op := Op.load 3 (Operand.tmp 22), type := 3, pos := _, after := #[{ on := 7, ground := Ground.data }], guard := none }) (v := .int .i64 (px : Nat)) rfl (by kernel_rfl) (by kernel_rfl) (by kernel_rfl) (by kernel_rfl) (fun _ _ _ h => h) (by rfl) (fun u hu => ?_) hS0 ?_
      · (try dsimp only at hu); go_simp
      (try simp only [Act.put, List.setIfInBounds_toArray, List.set_cons_zero, List.set_cons_succ])
      refine G_take (i := 9) (oi := { dst := some 24, op := Op.indexAddr 24 (Operand.tmp 18) (Operand.tmp 23), type := 0, pos := _, after := #[{ on := 3, ground := Ground.data }, { on := 8, ground := Ground.data }], guard := none }) (v := .pointer (some ⟨lb, lo + px, none⟩)) rfl (by kernel_rfl) (by kernel_rfl) (by kernel_rfl) (by kernel_rfl) (fun _ _ _ h => h) (by rfl) (fun u hu => ?_) hS0 ?_
      · (try dsimp only at hu); go_simp
      (try simp only [Act.put, List.setIfInBounds_toArray, List.set_cons_zero, List.set_cons_succ])
      refine G_take (i := 10) (oi := { dst := some 25, op := Op.load 70 (Operand.tmp 24), type := 70, pos := _, after := #[{ on := 9, ground := Ground.data }], guard := none }) (v := .int .u64 ((Mf j : Nat) : Int)) rfl (by kernel_rfl) (by kernel_rfl) (by kernel_rfl) (by kernel_rfl) (fun _ _ _ h => h) (by rfl) (fun u hu => ?_) hS0 ?_
      · (try dsimp only at hu); go_simp
      (try simp only [Act.put, List.setIfInBounds_toArray, List.set_cons_zero, List.set_cons_succ])
      refine G_step (i := 11) (o := { dst := some 26, op := Op.buildSlice 24 1 #[(0, Operand.tmp 25)], type := 24, pos := _, after := #[{ on := 10, ground := Ground.data }], guard := none }) (by kernel_rfl) rfl (fun K' hK => ?_)
      go_simp
      refine hK.out _ _ (fun _ => hS1) (fun _ => ?_)
      (try simp only [Act.put, List.setIfInBounds_toArray, List.set_cons_zero, List.set_cons_succ])
      refine G_step (i := 12) (o := { dst := some 27, op := Op.call { callee := Callee.builtin Builtin.append, args := #[Operand.tmp 16, Operand.tmp 26], argTypes := #[24, 24] }, type := 24, pos := _, after := #[{ on := 1, ground := Ground.data }, { on := 11, ground := Ground.data }], guard := none }) (by kernel_rfl) rfl (fun K' hK => ?_)
      refine step_append_lies _ (by rfl) _ _ _ (by rfl) W3.heap.size 70 iu _ 1 8 Try.underlying24 HU.out.1 HU.out.2.1 HU.out.2.2.1 HU.out.2.2.2 rfl (by omega) (.slice m1 j c1) j (vu Mf j) (by rfl) (HOW.out) ⟨wr.heap.size, 0, none⟩ 1 1 [.int .u64 ((Mf j : Nat) : Int)] (by rfl) (by rfl) (World.news_of_block (w := (wr.alloc (.cells #[.int .u64 ((Mf j : Nat) : Int)] 70)).drew) (cs := #[.int .u64 ((Mf j : Nat) : Int)]) (t := 70) (fr := (0, 0)) hUb) (by simp [Value.oneCell']) (by omega) (by unfold maxLen; omega) (by omega) (by simp; omega) (wr.heap.size + 1) (by simp) ?_
      intro g cap w4 hown4 hgrow4 hat4 hlt4
      have hgr : (wr.alloc (.cells #[.int .u64 ((Mf j : Nat) : Int)] 70)).grownBy w4 (Value.ownBlock (.slice m1 j c1)) := ⟨hgrow4.os, hgrow4.tape, hgrow4.output, hgrow4.size, hgrow4.block⟩
      obtain ⟨hoth, hfz, HL4', hbut⟩ := HLq.out.must (mv' := .slice (some ⟨g, 0, none⟩) (j + 1) cap) hown4 hgr (hat4.imp (fun e => by rw [e]; simp [Value.ownBlock]) (fun e => by rw [e]; simp [Value.ownBlock]))
      have s4 : (fun z : World => z.cell? ⟨W3.heap.size, 0, none⟩ = some (.slice m1 j c1) ∧ z.cell? ⟨w.heap.size, 2, none⟩ = some (.slice (some ⟨lb, lo, none⟩) M lc) ∧ z.cell? ⟨p1, 0, none⟩ = some (.slice (some ⟨pb, po, none⟩) s pc) ∧ z.cell? ⟨pb, po + j, none⟩ = some (.int .i64 (px : Nat)) ∧ z.cell? ⟨lb, lo + px, none⟩ = some (.int .u64 ((Mf j : Nat) : Int))) w4 := ⟨oth_cell hoth (Or.inr ⟨_, _, _, HLq.out.aut, by decide⟩) hc, oth_cell hoth (Or.inl hlw) q2, oth_cell hoth (Or.inl hl1) z0, oth_cell hoth (Or.inl hlp) zp, oth_cell hoth (Or.inl hll) zl⟩
      have HL6 := hid HL4'
      have hs4 := s4.1
      clear hown4 hgrow4 hgr hat4 hlt4 hoth HL4' hUb HOW hS1
      refine hK.out _ _ (fun _ => s4) (fun _ => ?_)
      (try simp only [Act.put, List.setIfInBounds_toArray, List.set_cons_zero, List.set_cons_succ])
      refine G_step (i := 13) (o := { dst := some 28, op := Op.fieldAddr 41 (Operand.tmp 5) 0, type := 0, pos := _, after := #[{ on := 0, ground := Ground.phase }, { on := 1, ground := Ground.phase }, { on := 2, ground := Ground.phase }, { on := 3, ground := Ground.phase }, { on := 4, ground := Ground.phase }, { on := 5, ground := Ground.phase }, { on := 6, ground := Ground.phase }, { on := 7, ground := Ground.phase }, { on := 8, ground := Ground.phase }, { on := 9, ground := Ground.phase }, { on := 10, ground := Ground.phase }, { on := 11, ground := Ground.phase }, { on := 12, ground := Ground.phase }], guard := none }) (by kernel_rfl) rfl (fun K' hK => ?_)
      go_simp
      refine hK.out _ _ (fun _ => s4) (fun _ => ?_)
      (try simp only [Act.put, List.setIfInBounds_toArray, List.set_cons_zero, List.set_cons_succ])
      refine G_step (i := 14) (o := { dst := none, op := Op.store 24 (Operand.tmp 28) (Operand.tmp 27), type := 0, pos := _, after := #[{ on := 13, ground := Ground.data }, { on := 12, ground := Ground.data }, { on := 12, ground := Ground.chain }, { on := 0, ground := Ground.phase }, { on := 1, ground := Ground.phase }, { on := 2, ground := Ground.phase }, { on := 3, ground := Ground.phase }, { on := 4, ground := Ground.phase }, { on := 5, ground := Ground.phase }, { on := 6, ground := Ground.phase }, { on := 7, ground := Ground.phase }, { on := 8, ground := Ground.phase }, { on := 9, ground := Ground.phase }, { on := 10, ground := Ground.phase }, { on := 11, ground := Ground.phase }, { on := 12, ground := Ground.phase }], guard := none }) (by kernel_rfl) rfl (fun K' hK => ?_)
      go_simp
      refine hK.out _ _ (fun h => absurd h (by decide)) (fun _ => ?_)
      (try simp only [Act.put, List.setIfInBounds_toArray, List.set_cons_zero, List.set_cons_succ])
      refine G_done (by kernel_rfl) ?_ _
      (try dsimp only [Exit.then])
      clear s4 hs4 hfz hS0 hc q0 q1 q2 q3 z0 z1 zp zl hbut HLq wl
      generalize w4.setCell ⟨W3.heap.size, 0, none⟩ (.slice (some ⟨g, 0, none⟩) (j + 1) cap) = W7' at *
      go_wp2
      go_roundw
      case rel => exact ⟨j + 1, _, by omega, by go_num, HL6⟩
      case measure => simp [intOf]; omega
    · have HJE : Hid (j = s) := hid (by omega)
      have HLT := HLq
      rw [HJE.out] at HLT
      rw [HJE.out]
      clear HLq HJE hj hlt wl q0 q1 q2 q3
      go_wp2
      clear z0 z1
      go_loopw [7] (fun i wr => ∃ (j : Nat) (ov : Value), j ≤ m ∧ i = .int .i64 j ∧ Hid (Lw W3 (.slice m1 s c1) ov Mf Nf s j wr)) (fun i _ => m - (intOf i).toNat)
      case atStart => exact ⟨0, _, Nat.zero_le _, rfl, HLT⟩
      case round =>
        obtain ⟨j, ov, hj, rfl, HLq⟩ := hrel
        clear HLT
        obtain ⟨m2, c2, hov⟩ := owns_sl HLq.out.os
        subst hov
        have wl := HLq.out.low
        obtain ⟨q0, q1, q2, q3⟩ : Bw wr w.heap.size ⟨sa, sn, sc, na, G, nc, la, M, lc, fa, K, fc, S, L, Z, Lb, FL, FZ⟩ := HBW.out.below wl
        dsimp only at q0 q1 q2 q3
        have z0 := below_cell wl (Nat.le_refl _) HY.out.1
        have z1 := below_cell wl (Nat.le_refl _) HY.out.2
        by_cases hlt : j < m
        · have hz := HPI.out.2 j hlt
          have hGM := HM.out
          obtain rfl := hqa (by omega)
          obtain rfl := HLA.out (by omega)
          obtain ⟨px, hpx⟩ : ∃ t : Nat, Q j = t := ⟨(Q j).toNat, by omega⟩
          have hpM : px < M := by omega
          have zp := below_cell wl (Nat.le_refl _) (HQC.out j hlt)
          have zl := below_cell wl (Nat.le_refl _) (HLC.out px hpM)
          have hF : Nf j = Lb px := by rw [← HMN.out.2]; show Lb (Q j).toNat = _; rw [hpx]; rfl
          rw [hpx] at zp
          (try dsimp only at zl)
          rw [← hF] at zl
          have hlw : w.heap.size < W3.heap.size := HP2.out.2.2.2.2
          have hl1 : p1 < W3.heap.size := HP2.out.2.2.2.1
          have hlp := World.block_lt_of_cell? _ _ (HQC.out j hlt)
          have hll := World.block_lt_of_cell? _ _ (HLC.out px hpM)
          dsimp only at hlp hll
          have hc := (two_c HLq.out.aut).2.1
          have hs5 : W3.heap.size ≤ wr.heap.size := wl.size
          have hUb : (wr.alloc (.cells #[.int .u64 ((Nf j : Nat) : Int)] 70)).heap[wr.heap.size]? = some (.cells #[.int .u64 ((Nf j : Nat) : Int)] 70) := Go.Deep.blk_alloc_new _ _
          have HOW : Hid (((wr.alloc (.cells #[.int .u64 ((Nf j : Nat) : Int)] 70)).drew).ownsRow W3.heap.size 70 1 (.slice m2 j c2) j (vu Nf j)) := hid ((HLq.out.os.alloc _).drew)
          have hS0 : (fun z : World => z.cell? ⟨W3.heap.size, 1, none⟩ = some (.slice m2 j c2) ∧ z.cell? ⟨w.heap.size, 2, none⟩ = some (.slice (some ⟨lb, lo, none⟩) M lc) ∧ z.cell? ⟨p1, 1, none⟩ = some (.slice (some ⟨qb, qo, none⟩) m qc) ∧ z.cell? ⟨qb, qo + j, none⟩ = some (.int .i64 (px : Nat)) ∧ z.cell? ⟨lb, lo + px, none⟩ = some (.int .u64 ((Nf j : Nat) : Int))) wr.drew := ⟨hc, q2, z1, zp, zl⟩
          have hS1 : (fun z : World => z.cell? ⟨W3.heap.size, 1, none⟩ = some (.slice m2 j c2) ∧ z.cell? ⟨w.heap.size, 2, none⟩ = some (.slice (some ⟨lb, lo, none⟩) M lc) ∧ z.cell? ⟨p1, 1, none⟩ = some (.slice (some ⟨qb, qo, none⟩) m qc) ∧ z.cell? ⟨qb, qo + j, none⟩ = some (.int .i64 (px : Nat)) ∧ z.cell? ⟨lb, lo + px, none⟩ = some (.int .u64 ((Nf j : Nat) : Int))) (wr.alloc (.cells #[.int .u64 ((Nf j : Nat) : Int)] 70)).drew := ⟨cell_alloc1 _ hc, cell_alloc1 _ q2, cell_alloc1 _ z1, cell_alloc1 _ zp, cell_alloc1 _ zl⟩
          clear hz hGM hF hpx
          go_wp2_with fail
          refine G_region (fun z : World => z.cell? ⟨W3.heap.size, 1, none⟩ = some (.slice m2 j c2) ∧ z.cell? ⟨w.heap.size, 2, none⟩ = some (.slice (some ⟨lb, lo, none⟩) M lc) ∧ z.cell? ⟨p1, 1, none⟩ = some (.slice (some ⟨qb, qo, none⟩) m qc) ∧ z.cell? ⟨qb, qo + j, none⟩ = some (.int .i64 (px : Nat)) ∧ z.cell? ⟨lb, lo + px, none⟩ = some (.int .u64 ((Nf j : Nat) : Int))) (fun i => i == 14) (by kernel_rfl) hS0 (fun _ => ?_)
          refine G_take (i := 0) (oi := { dst := some 36, op := Op.fieldAddr 41 (Operand.tmp 5) 1, type := 0, pos := _, after := #[], guard := none }) (v := .pointer (some ⟨W3.heap.size, 1, none⟩)) rfl (by kernel_rfl) (by kernel_rfl) (by kernel_rfl) (by kernel_rfl) (fun _ _ _ h => h) (by rfl) (fun u hu => ?_) hS0 ?_
          · (try dsimp only at hu); go_simp
          (try simp only [Act.put, List.setIfInBounds_toArray, List.set_cons_zero, List.set_cons_succ])
          refine G_take (i := 1) (oi := { dst := some 37, op := Op.load 24 (Operand.tmp 36), type := 24, pos := _, after := #[{ on := 0, ground := Ground.data }], guard := none }) (v := .slice m2 j c2) rfl (by kernel_rfl) (by kernel_rfl) (by kernel_rfl) (by kernel_rfl) (fun _ _ _ h => h) (by rfl) (fun u hu => ?_) hS0 ?_
          · (try dsimp only at hu); go_simp
          (try simp only [Act.put, List.setIfInBounds_toArray, List.set_cons_zero, List.set_cons_succ])
          refine G_take (i := 2) (oi := { dst := some 38, op := Op.fieldAddr 26 (Operand.tmp 2) 2, type := 0, pos := _, after := #[], guard := none }) (v := .pointer (some ⟨w.heap.size, 2, none⟩)) rfl (by kernel_rfl) (by kernel_rfl) (by kernel_rfl) (by kernel_rfl) (fun _ _ _ h => h) (by rfl) (fun u hu => ?_) hS0 ?_
          · (try dsimp only at hu); go_simp
          (try simp only [Act.put, List.setIfInBounds_toArray, List.set_cons_zero, List.set_cons_succ])
          refine G_take (i := 3) (oi := { dst := some 39, op := Op.load 24 (Operand.tmp 38), type := 24, pos := _, after := #[{ on := 2, ground := Ground.data }], guard := none }) (v := .slice (some ⟨lb, lo, none⟩) M lc) rfl (by kernel_rfl) (by kernel_rfl) (by kernel_rfl) (by kernel_rfl) (fun _ _ _ h => h) (by rfl) (fun u hu => ?_) hS0 ?_
          · (try dsimp only at hu); go_simp
          (try simp only [Act.put, List.setIfInBounds_toArray, List.set_cons_zero, List.set_cons_succ])
          refine G_take (i := 4) (oi := { dst := some 40, op := Op.fieldAddr 37 (Operand.tmp 3) 1, type := 0, pos := _, after := #[], guard := none }) (v := .pointer (some ⟨p1, 1, none⟩)) rfl (by kernel_rfl) (by kernel_rfl) (by kernel_rfl) (by kernel_rfl) (fun _ _ _ h => h) (by rfl) (fun u hu => ?_) hS0 ?_
          · (try dsimp only at hu); go_simp
          (try simp only [Act.put, List.setIfInBounds_toArray, List.set_cons_zero, List.set_cons_succ])
          refine G_take (i := 5) (oi := { dst := some 41, op := Op.load 22 (Operand.tmp 40), type := 22, pos := _, after := #[{ on := 4, ground := Ground.data }], guard := none }) (v := .slice (some ⟨qb, qo, none⟩) m qc) rfl (by kernel_rfl) (by kernel_rfl) (by kernel_rfl) (by kernel_rfl) (fun _ _ _ h => h) (by rfl) (fun u hu => ?_) hS0 ?_
          · (try dsimp only at hu); go_simp
          (try simp only [Act.put, List.setIfInBounds_toArray, List.set_cons_zero, List.set_cons_succ])
          refine G_take (i := 6) (oi := { dst := some 42, op := Op.move (Operand.tmp 7), type := 3, pos := _, after := #[], guard := none }) (v := .int .i64 (j : Nat)) rfl (by kernel_rfl) (by kernel_rfl) (by kernel_rfl) (by kernel_rfl) (fun _ _ _ h => h) (by rfl) (fun u hu => ?_) hS0 ?_
          · (try dsimp only at hu); go_simp
          (try simp only [Act.put, List.setIfInBounds_toArray, List.set_cons_zero, List.set_cons_succ])
          refine G_take (i := 7) (oi := { dst := some 43, op := Op.indexAddr 22 (Operand.tmp 41) (Operand.tmp 42), type := 0, pos := _, after := #[{ on := 5, ground := Ground.data }, { on := 6, ground := Ground.data }], guard := none }) (v := .pointer (some ⟨qb, qo + j, none⟩)) rfl (by kernel_rfl) (by kernel_rfl) (by kernel_rfl) (by kernel_rfl) (fun _ _ _ h => h) (by rfl) (fun u hu => ?_) hS0 ?_
          · (try dsimp only at hu); go_simp
          (try simp only [Act.put, List.setIfInBounds_toArray, List.set_cons_zero, List.set_cons_succ])
          refine G_take (i := 8) (oi := { dst := some 44, op := Op.load 3 (Operand.tmp 43), type := 3, pos := _, after := #[{ on := 7, ground := Ground.data }], guard := none }) (v := .int .i64 (px : Nat)) rfl (by kernel_rfl) (by kernel_rfl) (by kernel_rfl) (by kernel_rfl) (fun _ _ _ h => h) (by rfl) (fun u hu => ?_) hS0 ?_
          · (try dsimp only at hu); go_simp
          (try simp only [Act.put, List.setIfInBounds_toArray, List.set_cons_zero, List.set_cons_succ])
          refine G_take (i := 9) (oi := { dst := some 45, op := Op.indexAddr 24 (Operand.tmp 39) (Operand.tmp 44), type := 0, pos := _, after := #[{ on := 3, ground := Ground.data }, { on := 8, ground := Ground.data }], guard := none }) (v := .pointer (some ⟨lb, lo + px, none⟩)) rfl (by kernel_rfl) (by kernel_rfl) (by kernel_rfl) (by kernel_rfl) (fun _ _ _ h => h) (by rfl) (fun u hu => ?_) hS0 ?_
          · (try dsimp only at hu); go_simp
          (try simp only [Act.put, List.setIfInBounds_toArray, List.set_cons_zero, List.set_cons_succ])
          refine G_take (i := 10) (oi := { dst := some 46, op := Op.load 70 (Operand.tmp 45), type := 70, pos := _, after := #[{ on := 9, ground := Ground.data }], guard := none }) (v := .int .u64 ((Nf j : Nat) : Int)) rfl (by kernel_rfl) (by kernel_rfl) (by kernel_rfl) (by kernel_rfl) (fun _ _ _ h => h) (by rfl) (fun u hu => ?_) hS0 ?_
          · (try dsimp only at hu); go_simp
          (try simp only [Act.put, List.setIfInBounds_toArray, List.set_cons_zero, List.set_cons_succ])
          refine G_step (i := 11) (o := { dst := some 47, op := Op.buildSlice 24 1 #[(0, Operand.tmp 46)], type := 24, pos := _, after := #[{ on := 10, ground := Ground.data }], guard := none }) (by kernel_rfl) rfl (fun K' hK => ?_)
          go_simp
          refine hK.out _ _ (fun _ => hS1) (fun _ => ?_)
          (try simp only [Act.put, List.setIfInBounds_toArray, List.set_cons_zero, List.set_cons_succ])
          refine G_step (i := 12) (o := { dst := some 48, op := Op.call { callee := Callee.builtin Builtin.append, args := #[Operand.tmp 37, Operand.tmp 47], argTypes := #[24, 24] }, type := 24, pos := _, after := #[{ on := 1, ground := Ground.data }, { on := 11, ground := Ground.data }], guard := none }) (by kernel_rfl) rfl (fun K' hK => ?_)
          refine step_append_lies _ (by rfl) _ _ _ (by rfl) W3.heap.size 70 iu _ 1 8 Try.underlying24 HU.out.1 HU.out.2.1 HU.out.2.2.1 HU.out.2.2.2 rfl (by omega) (.slice m2 j c2) j (vu Nf j) (by rfl) (HOW.out) ⟨wr.heap.size, 0, none⟩ 1 1 [.int .u64 ((Nf j : Nat) : Int)] (by rfl) (by rfl) (World.news_of_block (w := (wr.alloc (.cells #[.int .u64 ((Nf j : Nat) : Int)] 70)).drew) (cs := #[.int .u64 ((Nf j : Nat) : Int)]) (t := 70) (fr := (0, 0)) hUb) (by simp [Value.oneCell']) (by omega) (by unfold maxLen; omega) (by omega) (by simp; omega) (wr.heap.size + 1) (by simp) ?_
          intro g cap w4 hown4 hgrow4 hat4 hlt4
          have hgr : (wr.alloc (.cells #[.int .u64 ((Nf j : Nat) : Int)] 70)).grownBy w4 (Value.ownBlock (.slice m2 j c2)) := ⟨hgrow4.os, hgrow4.tape, hgrow4.output, hgrow4.size, hgrow4.block⟩
          obtain ⟨hoth, hfz, HL4', hbut⟩ := HLq.out.nots (ov' := .slice (some ⟨g, 0, none⟩) (j + 1) cap) hown4 hgr (hat4.imp (fun e => by rw [e]; simp [Value.ownBlock]) (fun e => by rw [e]; simp [Value.ownBlock]))
          have s4 : (fun z : World => z.cell? ⟨W3.heap.size, 1, none⟩ = some (.slice m2 j c2) ∧ z.cell? ⟨w.heap.size, 2, none⟩ = some (.slice (some ⟨lb, lo, none⟩) M lc) ∧ z.cell? ⟨p1, 1, none⟩ = some (.slice (some ⟨qb, qo, none⟩) m qc) ∧ z.cell? ⟨qb, qo + j, none⟩ = some (.int .i64 (px : Nat)) ∧ z.cell? ⟨lb, lo + px, none⟩ = some (.int .u64 ((Nf j : Nat) : Int))) w4 := ⟨oth_cell hoth (Or.inr ⟨_, _, _, HLq.out.aut, by decide⟩) hc, oth_cell hoth (Or.inl hlw) q2, oth_cell hoth (Or.inl hl1) z1, oth_cell hoth (Or.inl hlp) zp, oth_cell hoth (Or.inl hll) zl⟩
          have HL6 := hid HL4'
          have hs4 := s4.1
          clear hown4 hgrow4 hgr hat4 hlt4 hoth HL4' hUb HOW hS1
          refine hK.out _ _ (fun _ => s4) (fun _ => ?_)
          (try simp only [Act.put, List.setIfInBounds_toArray, List.set_cons_zero, List.set_cons_succ])
          refine G_step (i := 13) (o := { dst := some 49, op := Op.fieldAddr 41 (Operand.tmp 5) 1, type := 0, pos := _, after := #[{ on := 0, ground := Ground.phase }, { on := 1, ground := Ground.phase }, { on := 2, ground := Ground.phase }, { on := 3, ground := Ground.phase }, { on := 4, ground := Ground.phase }, { on := 5, ground := Ground.phase }, { on := 6, ground := Ground.phase }, { on := 7, ground := Ground.phase }, { on := 8, ground := Ground.phase }, { on := 9, ground := Ground.phase }, { on := 10, ground := Ground.phase }, { on := 11, ground := Ground.phase }, { on := 12, ground := Ground.phase }], guard := none }) (by kernel_rfl) rfl (fun K' hK => ?_)
          go_simp
          refine hK.out _ _ (fun _ => s4) (fun _ => ?_)
          (try simp only [Act.put, List.setIfInBounds_toArray, List.set_cons_zero, List.set_cons_succ])
          refine G_step (i := 14) (o := { dst := none, op := Op.store 24 (Operand.tmp 49) (Operand.tmp 48), type := 0, pos := _, after := #[{ on := 13, ground := Ground.data }, { on := 12, ground := Ground.data }, { on := 12, ground := Ground.chain }, { on := 0, ground := Ground.phase }, { on := 1, ground := Ground.phase }, { on := 2, ground := Ground.phase }, { on := 3, ground := Ground.phase }, { on := 4, ground := Ground.phase }, { on := 5, ground := Ground.phase }, { on := 6, ground := Ground.phase }, { on := 7, ground := Ground.phase }, { on := 8, ground := Ground.phase }, { on := 9, ground := Ground.phase }, { on := 10, ground := Ground.phase }, { on := 11, ground := Ground.phase }, { on := 12, ground := Ground.phase }], guard := none }) (by kernel_rfl) rfl (fun K' hK => ?_)
          go_simp
          refine hK.out _ _ (fun h => absurd h (by decide)) (fun _ => ?_)
          (try simp only [Act.put, List.setIfInBounds_toArray, List.set_cons_zero, List.set_cons_succ])
          refine G_done (by kernel_rfl) ?_ _
          (try dsimp only [Exit.then])
          clear s4 hs4 hfz hS0 hc q0 q1 q2 q3 z0 z1 zp zl hbut HLq wl
          generalize w4.setCell ⟨W3.heap.size, 1, none⟩ (.slice (some ⟨g, 0, none⟩) (j + 1) cap) = W7' at *
          go_wp2
          go_roundw
          case rel => exact ⟨j + 1, _, by omega, by go_num, HL6⟩
          case measure => simp [intOf]; omega
        · have HJE : Hid (j = m) := hid (by omega)
          obtain ⟨f0, f1, _, _⟩ := two_c HLq.out.aut
          have HLZ := HLq
          rw [HJE.out] at HLZ
          have HKz : Hid (wr.heap[p2]? = some (.cells #[.slice none 0 0, .slice none 0 0] 41)) := hid ((wl.block _ HP2.out.2.1).trans HK3.out)
          obtain ⟨e0, e1, g0, g1⟩ := two_c HKz.out
          obtain ⟨k0, k1, _, hbt⟩ := two_set (.slice m1 s c1) (.slice m2 j c2) HKz.out
          have HF : Hid (RowU ((wr.setCell ⟨p2, 0, none⟩ (.slice m1 s c1)).setCell ⟨p2, 1, none⟩ (.slice m2 j c2)) m1 s (fun i => (Lb (P i).toNat : Int)) ∧ RowU ((wr.setCell ⟨p2, 0, none⟩ (.slice m1 s c1)).setCell ⟨p2, 1, none⟩ (.slice m2 j c2)) m2 m (fun i => (Lb (Q i).toNat : Int)) ∧ Below w.heap.size w ((wr.setCell ⟨p2, 0, none⟩ (.slice m1 s c1)).setCell ⟨p2, 1, none⟩ (.slice m2 j c2))) := hid (by
            have hw : Below w.heap.size w wr := HB3.out.trans (wl.mono HB3.out.size)
            obtain ⟨xa, xc, hx, hr1⟩ := owns_rowU HLZ.out.ms
            obtain ⟨ya, yc, hy, hr2⟩ := owns_rowU HLZ.out.os
            cases hx
            cases hy
            rw [← HMN.out.1] at hr1
            rw [← HMN.out.2] at hr2
            exact ⟨rowU_but41 hr1 HKz.out hbt, rowU_but41 hr2 HKz.out hbt, hw.trans (hbt.below HP2.out.1 hw.size)⟩)
          clear hbt wl q0 q1 q2 q3
          go_wp2
          refine ⟨rfl, .agg #[.slice m1 s c1, .slice m2 j c2], by simp [results, Try.f18, go_sem, k0, k1], ?_⟩
          exact ⟨m1, c1, m2, c2, by rw [HJE.out], HF⟩
end Go.Proofs.Ytgahdclbaifcbaa
