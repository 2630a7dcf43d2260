/- Word. -/
import Derived.Test.YtgahdclbaifcbaaGdwJ
import Derived.Test.YtgahdclbaifcbaaWck
import Derived.Deep.DeepCutAuto
import Derived.Deep.CutRange
namespace Go.Proofs.Ytgahdclbaifcbaa
open Go.RowKit

section
variable {P : Program} {ops : Array Oper} {Q : Exit → Act → World → Prop} {md : Region.Mode} {S : World → Prop} {ex : Nat → Bool}
/-- Whichever of those that are ready comes up. -/
theorem G_alt {f : Nat} {listed : Array Bool} {a : Act} {w : World} {l : List Nat} (hr : Region.ready md ops listed = l) (hl : l ≠ [])
    (h : ∀ i, i ∈ l → ∃ o, ops[i]? = some o ∧ ∀ K' : Act → World → Prop, Shut (∀ a w, (ex i = false → S w) → ((ex i = false → S w) → wpAnyG P md ops Q S ex f (listed.setIfInBounds i true) a w) → K' a w) → if Region.wanted o (yielded ops a.tmps) = true then Oper.wp P o a w K' Q else K' (a.put o.dst undef) w) :
    wpAnyG P md ops Q S ex (f + 1) listed a w := by
  refine ⟨fun h0 => absurd (hr.symm.trans h0) hl, fun j hj => ?_⟩
  rw [hr] at hj
  obtain ⟨o, ho, hh⟩ := h j hj
  exact wpOp_step ho (fun K' hK => hh K' (fun a w hS hW => hK a w ⟨hS, hW hS⟩))
end

theorem two_c {W : World} {b : Nat} {v0 v1 : Value} {t : TypeId} (h : W.heap[b]? = some (.cells #[v0, v1] t)) : W.cell? ⟨b, 0, none⟩ = some v0 ∧ W.cell? ⟨b, 1, none⟩ = some v1 ∧ W.frozen? ⟨b, 0, none⟩ = false ∧ W.frozen? ⟨b, 1, none⟩ = false :=
  ⟨cell_of_cells h rfl, cell_of_cells h rfl, by simp [World.frozen?, h], by simp [World.frozen?, h]⟩
theorem two_set {W : World} {b : Nat} {v0 v1 : Value} {t : TypeId} (u0 u1 : Value) (h : W.heap[b]? = some (.cells #[v0, v1] t)) :
    ((W.setCell ⟨b, 0, none⟩ u0).setCell ⟨b, 1, none⟩ u1).cell? ⟨b, 0, none⟩ = some u0 ∧ ((W.setCell ⟨b, 0, none⟩ u0).setCell ⟨b, 1, none⟩ u1).cell? ⟨b, 1, none⟩ = some u1 ∧ ((W.setCell ⟨b, 0, none⟩ u0).setCell ⟨b, 1, none⟩ u1).heap[b]? = some (.cells #[u0, u1] t) ∧ But b W ((W.setCell ⟨b, 0, none⟩ u0).setCell ⟨b, 1, none⟩ u1) := by
  have e := blk_setCell (i := 1) (v := u1) (blk_setCell (i := 0) (v := u0) h)
  have e2 : ((W.setCell ⟨b, 0, none⟩ u0).setCell ⟨b, 1, none⟩ u1).heap[b]? = some (.cells #[u0, u1] t) := by simpa using e
  exact ⟨cell_of_cells e2 rfl, cell_of_cells e2 rfl, e2, ((But.refl b W).setCell 0 u0).setCell 1 u1⟩
theorem rowU_but41 {y yf : World} {b n : Nat} {a : Option Addr} {Z : Nat → Int} {x0 x1 : Option Addr} {n0 c0 n1 c1 : Nat} (h : RowU y a n Z) (hr : y.heap[b]? = some (.cells #[.slice x0 n0 c0, .slice x1 n1 c1] 41)) (hb : But b y yf) : RowU yf a n Z := by
  obtain ⟨g, o, h1, h2⟩ := h
  refine ⟨g, o, h1, fun i hi => hb.cell (fun e => ?_) (h2 i hi)⟩
  have h3 := h2 i hi
  have e' : g = b := e
  rw [e'] at h3
  unfold World.cell? at h3
  simp only [hr] at h3
  rcases hj : o + i with _ | _ | j
  · simp [hj] at h3
  · simp [hj] at h3
  · simp [hj] at h3

/-- What Word's error is. -/
def wdE (A : Wx) (s m : Nat) (P Q : Nat → Int) : Int := if chkW A ≠ 0 then chkW A else if (decide (0 < m) && allIn s P A.G && allIn m Q A.G) = false then 1 else wchk s m

/-- What Word answers. -/
def WdIs (A : Wx) (s m : Nat) (P Q : Nat → Int) (w : World) (e : Ending) (w' : World) : Prop :=
  ∃ (xa : Option Addr) (xn xc : Nat) (ya : Option Addr) (yn yc : Nat) (er : Int), e = .returned (.tuple #[.agg #[.slice xa xn xc, .slice ya yn yc], .int .i64 er]) ∧ Hid (er = wdE A s m P Q ∧ (er ≠ 0 → xa = none ∧ xn = 0 ∧ xc = 0 ∧ ya = none ∧ yn = 0 ∧ yc = 0) ∧ (er = 0 → xn = s ∧ yn = m ∧ RowU w' xa s (fun i => (A.Lb (P i).toNat : Int)) ∧ RowU w' ya m (fun i => (A.Lb (Q i).toNat : Int))) ∧ Below w.heap.size w w' ∧ (er = 0 → xc = s ∧ yc = m ∧ xa ≠ none ∧ ya ≠ none))

set_option maxRecDepth 100000 in
set_option maxHeartbeats 4000000 in
theorem word_any (A : Wx) (pa : Option Addr) (s pc : Nat) (qa : Option Addr) (m qc : Nat) (P Q : Nat → Int) (w : World) (h : Ww w A) (hp : Pw w pa s pc qa m qc P Q) :
    Calls Try.prog 14 #[.agg #[.slice A.sa A.sn A.sc, .slice A.na A.G A.nc, .slice A.la A.M A.lc, .slice A.fa A.K A.fc], .agg #[.slice pa s pc, .slice qa m qc]] w fun e w' => WdIs A s m P Q w e w' := by
  obtain ⟨W1, hW1, hb1, hs1, hbw⟩ := boxw w A
  obtain ⟨W2, hW2, hb2, hs2, y0, y1⟩ := box2 W1 (.slice pa s pc) (.slice qa m qc) 37
  obtain ⟨W3, hW3, hb3, hs3, _, _⟩ := box2 W2 (.slice none 0 0) (.slice none 0 0) 41
  have hk3 : W3.heap[W2.heap.size]? = some (.cells #[.slice none 0 0, .slice none 0 0] 41) := by rw [← hW3]; exact Go.Deep.blk_alloc_new _ _
  have h2 : Below w.heap.size w W2 := hb1.trans (hb2.mono hb1.size)
  have h3 : Below w.heap.size w W3 := h2.trans (hb3.mono h2.size)
  have HB3 := hid h3
  have HBW := hid ((hbw.below hb2).below hb3)
  have HY := hid (And.intro (below_cell hb3 (Nat.le_refl _) y0) (below_cell hb3 (Nat.le_refl _) y1))
  have HH := hid (And.intro h hp)
  have C9 : Hid (Calls Try.prog 9 #[.agg #[.slice A.sa A.sn A.sc, .slice A.na A.G A.nc, .slice A.la A.M A.lc, .slice A.fa A.K A.fc]] W3 fun e w' => e = .returned (.int .i64 (chkW A)) ∧ Below W3.heap.size W3 w') := hid (chkW_any A W3 (h.below h3))
  have hs8 := hp.s8
  have hm8 := hp.m8
  obtain ⟨p1, hp1⟩ : ∃ p1, W1.heap.size = p1 := ⟨_, rfl⟩
  obtain ⟨p2, hp2⟩ : ∃ p2, W2.heap.size = p2 := ⟨_, rfl⟩
  rw [hp2] at hk3
  rw [hp1] at HY
  have HP2 : Hid (w.heap.size ≤ p2 ∧ p2 < W3.heap.size ∧ p2 ≠ p1) := hid (by omega)
  have HK3 := hid hk3
  obtain ⟨q0, q1, q2, q3⟩ := HBW.out
  obtain ⟨z0, z1⟩ := HY.out
  obtain ⟨ck, hck⟩ : ∃ ck, chkW A = ck := ⟨_, rfl⟩
  rw [hck] at C9
  have HCK := hid hck
  have HGE : Hid (wdE A s m P Q = if ck ≠ 0 then ck else if (decide (0 < m) && allIn s P A.G && allIn m Q A.G) = false then 1 else wchk s m) := hid (by unfold wdE; rw [hck])
  clear h hp hb1 hs1 hb2 hs2 hbw h2 h3 hb3 hs3 y0 y1 hck hk3
  go_enter Try.func14, Try.ntmps14
  go_wp2_with fail
  (try rw [hp1])
  (try rw [hp2])
  refine C9.out.mono ?_
  rintro e w4 ⟨rfl, hb4⟩
  have HB4 := hid (HB3.out.trans (hb4.mono HB3.out.size))
  have HBW4 := hid (HBW.out.below hb4)
  have x0 := below_cell hb4 (Nat.le_refl _) z0
  have x1 := below_cell hb4 (Nat.le_refl _) z1
  have HK4 : Hid (w4.heap[p2]? = some (.cells #[.slice none 0 0, .slice none 0 0] 41)) := hid ((hb4.block _ HP2.out.2.1).trans HK3.out)
  have HX4 := hid (And.intro x0 x1)
  clear hb4 q0 q1 q2 q3 z0 z1 C9
  by_cases h0 : ck = 0
  · have g0 : (ck != 0) = false := by simp [h0]
    have HC0 := hid h0
    obtain ⟨q0, q1, q2, q3⟩ := HBW4.out
    have C36 := hid (goesRound_any A pa s pc qa m qc P Q w4 (HH.out.1.below HB4.out) (by omega) (by omega) ((HH.out.2.below HB4.out).stem) ((HH.out.2.below HB4.out).loop))
    obtain ⟨g, hg⟩ : ∃ g, (decide (0 < m) && allIn s P A.G && allIn m Q A.G) = g := ⟨_, rfl⟩
    rw [hg] at C36 HGE
    have HG := hid hg
    clear h0 hg
    go_wp2_with fail
    refine C36.out.mono ?_
    rintro e u ⟨rfl, hb5⟩
    have HB5 := hid (HB4.out.trans (hb5.mono HB4.out.size))
    have HBW5 := hid (HBW4.out.below hb5)
    have x0' := below_cell hb5 (Nat.le_refl _) x0
    have x1' := below_cell hb5 (Nat.le_refl _) x1
    have HK5 : Hid (u.heap[p2]? = some (.cells #[.slice none 0 0, .slice none 0 0] 41)) := hid ((hb5.block _ (Array.getElem?_eq_some_iff.1 HK4.out).1).trans HK4.out)
    clear q0 q1 q2 q3 hb5 x0 x1 C36
    cases g
    · have HNE : Hid ((1 : Int) ≠ 0) := hid (by decide)
      obtain ⟨f0, f1, g0, g1⟩ := two_c HK5.out
      obtain ⟨k0, k1, _, hbt⟩ := two_set (.slice none 0 0) (.slice none 0 0) HK5.out
      have HF : Hid (Below w.heap.size w ((u.setCell ⟨p2, 0, none⟩ (.slice none 0 0)).setCell ⟨p2, 1, none⟩ (.slice none 0 0))) := hid (HB5.out.trans (hbt.below HP2.out.1 HB5.out.size))
      clear hbt
      go_wp2
      refine bodyPost_ret (v := .tuple #[.agg #[.slice none 0 0, .slice none 0 0], .int .i64 (1)]) (by simp [results, Try.f14, go_sem, k0, k1]) rfl ?_
      exact ⟨none, 0, 0, none, 0, 0, _, rfl, hid ⟨by rw [HGE.out, if_neg (by rw [HC0.out]; simp)]; simp, fun _ => ⟨rfl, rfl, rfl, rfl, rfl, rfl⟩, fun e => absurd e HNE.out, HF.out, fun e => absurd e HNE.out⟩⟩
    · have hgg : 0 < m ∧ allIn s P A.G = true ∧ allIn m Q A.G = true := by
        have h := HG.out
        simp only [Bool.and_eq_true, decide_eq_true_eq] at h
        exact ⟨h.1.1, h.1.2, h.2⟩
      have HGG := hid hgg
      clear hgg
      obtain ⟨q0, q1, q2, q3⟩ := HBW5.out
      have hM : A.M = A.G := (chkW_ok (HCK.out.trans HC0.out)).2.2.1
      have D1 := hid (fun (z : World) (hz : Below u.heap.size u z) => letters_any A pa s pc P z ((HH.out.1.below HB5.out).below hz) hM hs8 (((HH.out.2.below HB5.out).below hz).stem) HGG.out.2.1)
      have D2 := hid (fun (z : World) (hz : Below u.heap.size u z) => letters_any A qa m qc Q z ((HH.out.1.below HB5.out).below hz) hM hm8 (((HH.out.2.below HB5.out).below hz).loop) HGG.out.2.2)
      have HS : Hid (∀ z, Below u.heap.size u z → (fun y : World => y.cell? ⟨w.heap.size, 0, none⟩ = some (.slice A.sa A.sn A.sc) ∧ y.cell? ⟨w.heap.size, 1, none⟩ = some (.slice A.na A.G A.nc) ∧ y.cell? ⟨w.heap.size, 2, none⟩ = some (.slice A.la A.M A.lc) ∧ y.cell? ⟨w.heap.size, 3, none⟩ = some (.slice A.fa A.K A.fc) ∧ y.cell? ⟨p1, 0, none⟩ = some (.slice pa s pc) ∧ y.cell? ⟨p1, 1, none⟩ = some (.slice qa m qc)) z) := hid (fun z hz => ⟨below_cell hz (Nat.le_refl _) q0, below_cell hz (Nat.le_refl _) q1, below_cell hz (Nat.le_refl _) q2, below_cell hz (Nat.le_refl _) q3, below_cell hz (Nat.le_refl _) x0', below_cell hz (Nat.le_refl _) x1'⟩)
      clear hM
      go_wp2_with fail
      go_cut [7] from 20 to 29 (fun v7 wc => ∃ x7 b0 b1, v7 = .pointer (some ⟨x7, 0, none⟩) ∧ Hid (Below u.heap.size u wc ∧ wc.heap[x7]? = some (.cells #[.slice (some ⟨b0, 0, none⟩) s s, .slice (some ⟨b1, 0, none⟩) m m] 41) ∧ RowU wc (some ⟨b0, 0, none⟩) s (fun i => (A.Lb (P i).toNat : Int)) ∧ RowU wc (some ⟨b1, 0, none⟩) m (fun i => (A.Lb (Q i).toNat : Int)) ∧ u.heap.size ≤ x7))
      case first =>
        have hB0 : Below u.heap.size u u.drew := below_drewN (Below.refl _ _) 1
        refine G_region (fun y : World => y.cell? ⟨w.heap.size, 0, none⟩ = some (.slice A.sa A.sn A.sc) ∧ y.cell? ⟨w.heap.size, 1, none⟩ = some (.slice A.na A.G A.nc) ∧ y.cell? ⟨w.heap.size, 2, none⟩ = some (.slice A.la A.M A.lc) ∧ y.cell? ⟨w.heap.size, 3, none⟩ = some (.slice A.fa A.K A.fc) ∧ y.cell? ⟨p1, 0, none⟩ = some (.slice pa s pc) ∧ y.cell? ⟨p1, 1, none⟩ = some (.slice qa m qc)) (fun _ => false) (by kernel_rfl) (HS.out _ hB0) (fun _ => ?_)
        refine G_take (i := 0) (oi := { dst := some 20, op := Op.load 26 (Operand.tmp 2), type := 26, pos := _, after := #[], guard := none }) (v := .agg #[.slice A.sa A.sn A.sc, .slice A.na A.G A.nc, .slice A.la A.M A.lc, .slice A.fa A.K A.fc]) rfl (by kernel_rfl) (by kernel_rfl) (by kernel_rfl) (by kernel_rfl) (fun _ _ _ h => h) (by rfl) (fun u hu => ?_) (HS.out _ hB0) ?_
        · (try dsimp only at hu); go_simp
        (try simp only [Act.put, List.setIfInBounds_toArray, List.set_cons_zero, List.set_cons_succ])
        refine G_take (i := 1) (oi := { dst := some 21, op := Op.fieldAddr 37 (Operand.tmp 3) 0, type := 0, pos := _, after := #[], guard := none }) (v := .pointer (some ⟨p1, 0, none⟩)) rfl (by kernel_rfl) (by kernel_rfl) (by kernel_rfl) (by kernel_rfl) (fun _ _ _ h => h) (by rfl) (fun u hu => ?_) (HS.out _ hB0) ?_
        · (try dsimp only at hu); go_simp
        (try simp only [Act.put, List.setIfInBounds_toArray, List.set_cons_zero, List.set_cons_succ])
        refine G_take (i := 2) (oi := { dst := some 22, op := Op.load 22 (Operand.tmp 21), type := 22, pos := _, after := #[{ on := 1, ground := Ground.data }], guard := none }) (v := .slice pa s pc) rfl (by kernel_rfl) (by kernel_rfl) (by kernel_rfl) (by kernel_rfl) (fun _ _ _ h => h) (by rfl) (fun u hu => ?_) (HS.out _ hB0) ?_
        · (try dsimp only at hu); go_simp
        (try simp only [Act.put, List.setIfInBounds_toArray, List.set_cons_zero, List.set_cons_succ])
        refine G_take (i := 4) (oi := { dst := some 24, op := Op.load 26 (Operand.tmp 2), type := 26, pos := _, after := #[], guard := none }) (v := .agg #[.slice A.sa A.sn A.sc, .slice A.na A.G A.nc, .slice A.la A.M A.lc, .slice A.fa A.K A.fc]) rfl (by kernel_rfl) (by kernel_rfl) (by kernel_rfl) (by kernel_rfl) (fun _ _ _ h => h) (by rfl) (fun u hu => ?_) (HS.out _ hB0) ?_
        · (try dsimp only at hu); go_simp
        (try simp only [Act.put, List.setIfInBounds_toArray, List.set_cons_zero, List.set_cons_succ])
        refine G_take (i := 5) (oi := { dst := some 25, op := Op.fieldAddr 37 (Operand.tmp 3) 1, type := 0, pos := _, after := #[], guard := none }) (v := .pointer (some ⟨p1, 1, none⟩)) rfl (by kernel_rfl) (by kernel_rfl) (by kernel_rfl) (by kernel_rfl) (fun _ _ _ h => h) (by rfl) (fun u hu => ?_) (HS.out _ hB0) ?_
        · (try dsimp only at hu); go_simp
        (try simp only [Act.put, List.setIfInBounds_toArray, List.set_cons_zero, List.set_cons_succ])
        refine G_take (i := 6) (oi := { dst := some 26, op := Op.load 22 (Operand.tmp 25), type := 22, pos := _, after := #[{ on := 5, ground := Ground.data }], guard := none }) (v := .slice qa m qc) rfl (by kernel_rfl) (by kernel_rfl) (by kernel_rfl) (by kernel_rfl) (fun _ _ _ h => h) (by rfl) (fun u hu => ?_) (HS.out _ hB0) ?_
        · (try dsimp only at hu); go_simp
        (try simp only [Act.put, List.setIfInBounds_toArray, List.set_cons_zero, List.set_cons_succ])
        obtain ⟨y0, hy0⟩ : ∃ q, q = u.drew := ⟨_, rfl⟩
        rw [← hy0] at hB0 ⊢
        have hz0 : u.heap.size ≤ y0.heap.size := hB0.size
        clear hy0
        refine G_alt (l := [3, 9]) (by kernel_rfl) (by decide) ?_
        intro i hi
        have hi2 : i = 3 ∨ i = 9 := by simpa using hi
        clear hi
        rcases hi2 with rfl | rfl
        · refine ⟨{ dst := some 23, op := Op.call { callee := Callee.value (Operand.func 39), args := #[Operand.tmp 20, Operand.tmp 22], argTypes := #[26, 22] }, type := 24, pos := _, after := #[{ on := 0, ground := Ground.data }, { on := 2, ground := Ground.data }], guard := none }, rfl, fun K' hK => ?_⟩
          go_simp
          refine (D1.out y0 hB0).mono ?_
          rintro e y1 ⟨b0, rfl, HR0⟩
          obtain ⟨hl0, hb1, hg0⟩ := HR0.out
          dsimp only
          have hB1 := hB0.trans (hb1.mono hB0.size)
          have hz1 := hb1.size
          refine hK.out _ _ (fun _ => HS.out _ hB1) (fun _ => ?_)
          clear hK K' HR0 hg0
          (try simp only [Act.put, List.setIfInBounds_toArray, List.set_cons_zero, List.set_cons_succ])
          refine G_alt (l := [7, 9]) (by kernel_rfl) (by decide) ?_
          intro i hi
          have hi2 : i = 7 ∨ i = 9 := by simpa using hi
          clear hi
          rcases hi2 with rfl | rfl
          · refine ⟨{ dst := some 27, op := Op.call { callee := Callee.value (Operand.func 39), args := #[Operand.tmp 24, Operand.tmp 26], argTypes := #[26, 22] }, type := 24, pos := _, after := #[{ on := 4, ground := Ground.data }, { on := 6, ground := Ground.data }, { on := 3, ground := Ground.chain }], guard := none }, rfl, fun K' hK => ?_⟩
            go_simp
            refine (D2.out y1 hB1).mono ?_
            rintro e y2 ⟨b1, rfl, HR1⟩
            obtain ⟨hl1, hb2, hg1⟩ := HR1.out
            dsimp only
            have hB2 := hB1.trans (hb2.mono hB1.size)
            have hz2 := hb2.size
            have hl0 := hl0.below hb2
            refine hK.out _ _ (fun _ => HS.out _ hB2) (fun _ => ?_)
            clear hK K' HR1 hg1
            (try simp only [Act.put, List.setIfInBounds_toArray, List.set_cons_zero, List.set_cons_succ])
            refine G_take (i := 8) (oi := { dst := some 28, op := Op.build 41 #[(0, Operand.tmp 23), (1, Operand.tmp 27)], type := 41, pos := _, after := #[{ on := 3, ground := Ground.data }, { on := 7, ground := Ground.data }], guard := none }) (v := .agg #[.slice (some ⟨b0, 0, none⟩) s s, .slice (some ⟨b1, 0, none⟩) m m]) rfl (by kernel_rfl) (by kernel_rfl) (by kernel_rfl) (by kernel_rfl) (fun _ _ _ h => h) (by rfl) (fun u hu => ?_) (HS.out _ hB2) ?_
            · (try dsimp only at hu); go_simp
            (try simp only [Act.put, List.setIfInBounds_toArray, List.set_cons_zero, List.set_cons_succ])
            refine G_step (i := 9) (o := { dst := some 7, op := Op.alloc 41, type := 0, pos := _, after := #[], guard := none }) (by kernel_rfl) rfl (fun K' hK => ?_)
            go_simp
            obtain ⟨y3, hy3⟩ : ∃ q, q = y2.alloc (.cells #[.slice none 0 0, .slice none 0 0] 41) := ⟨_, rfl⟩
            have hb3 : Below y2.heap.size y2 y3 := by rw [hy3]; exact box_below _ _
            have hr : y3.heap[y2.heap.size]? = some (.cells #[.slice none 0 0, .slice none 0 0] 41) := by rw [hy3]; exact Go.Deep.blk_alloc_new _ _
            rw [← hy3]
            have hB3 := hB2.trans (hb3.mono hB2.size)
            have hz3 := hb3.size
            have kr : y2.heap.size < y3.heap.size := (Array.getElem?_eq_some_iff.1 hr).1
            clear hy3
            have hl0 := hl0.below hb3
            have hl1 := hl1.below hb3
            refine hK.out _ _ (fun _ => HS.out _ hB3) (fun _ => ?_)
            clear hK K'
            (try simp only [Act.put, List.setIfInBounds_toArray, List.set_cons_zero, List.set_cons_succ])
            obtain ⟨f0, f1, g0, g1⟩ := two_c hr
            obtain ⟨e0, e1, hrq, hbt⟩ := two_set (.slice (some ⟨b0, 0, none⟩) s s) (.slice (some ⟨b1, 0, none⟩) m m) hr
            refine G_step (i := 10) (o := { dst := none, op := Op.store 41 (Operand.tmp 7) (Operand.tmp 28), type := 0, pos := _, after := #[{ on := 9, ground := Ground.data }, { on := 8, ground := Ground.data }, { on := 7, ground := Ground.chain }, { on := 0, ground := Ground.phase }, { on := 1, ground := Ground.phase }, { on := 2, ground := Ground.phase }, { on := 3, ground := Ground.phase }, { on := 4, ground := Ground.phase }, { on := 5, ground := Ground.phase }, { on := 6, ground := Ground.phase }, { on := 7, ground := Ground.phase }, { on := 8, ground := Ground.phase }, { on := 9, ground := Ground.phase }], guard := none }) (by kernel_rfl) rfl (fun K' hK => ?_)
            go_simp
            generalize (y3.setCell ⟨y2.heap.size, 0, none⟩ (.slice (some ⟨b0, 0, none⟩) s s)).setCell ⟨y2.heap.size, 1, none⟩ (.slice (some ⟨b1, 0, none⟩) m m) = yf at *
            have hBf : Below u.heap.size u yf := hB3.trans (hbt.below (by omega) hB3.size)
            refine hK.out _ _ (fun _ => HS.out _ hBf) (fun _ => ?_)
            clear hK K' f0 f1 g0 g1
            (try simp only [Act.put, List.setIfInBounds_toArray, List.set_cons_zero, List.set_cons_succ])
            refine G_done (by kernel_rfl) ?_ _
            have HFIN : Hid (Below u.heap.size u yf ∧ yf.heap[y2.heap.size]? = some (.cells #[.slice (some ⟨b0, 0, none⟩) s s, .slice (some ⟨b1, 0, none⟩) m m] 41) ∧ RowU yf (some ⟨b0, 0, none⟩) s (fun i => (A.Lb (P i).toNat : Int)) ∧ RowU yf (some ⟨b1, 0, none⟩) m (fun i => (A.Lb (Q i).toNat : Int)) ∧ u.heap.size ≤ y2.heap.size) :=
              hid ⟨hBf, hrq, rowU_but41 hl0 hr hbt, rowU_but41 hl1 hr hbt, by omega⟩
            clear hBf hrq hbt
            go_wp2_with fail
            go_meet
            exact ⟨y2.heap.size, b0, b1, rfl, HFIN⟩
          · refine ⟨{ dst := some 7, op := Op.alloc 41, type := 0, pos := _, after := #[], guard := none }, rfl, fun K' hK => ?_⟩
            go_simp
            obtain ⟨y2, hy2⟩ : ∃ q, q = y1.alloc (.cells #[.slice none 0 0, .slice none 0 0] 41) := ⟨_, rfl⟩
            have hb2 : Below y1.heap.size y1 y2 := by rw [hy2]; exact box_below _ _
            have hr : y2.heap[y1.heap.size]? = some (.cells #[.slice none 0 0, .slice none 0 0] 41) := by rw [hy2]; exact Go.Deep.blk_alloc_new _ _
            rw [← hy2]
            have hB2 := hB1.trans (hb2.mono hB1.size)
            have hz2 := hb2.size
            have kr : y1.heap.size < y2.heap.size := (Array.getElem?_eq_some_iff.1 hr).1
            clear hy2
            have hl0 := hl0.below hb2
            refine hK.out _ _ (fun _ => HS.out _ hB2) (fun _ => ?_)
            clear hK K'
            (try simp only [Act.put, List.setIfInBounds_toArray, List.set_cons_zero, List.set_cons_succ])
            refine G_step (i := 7) (o := { dst := some 27, op := Op.call { callee := Callee.value (Operand.func 39), args := #[Operand.tmp 24, Operand.tmp 26], argTypes := #[26, 22] }, type := 24, pos := _, after := #[{ on := 4, ground := Ground.data }, { on := 6, ground := Ground.data }, { on := 3, ground := Ground.chain }], guard := none }) (by kernel_rfl) rfl (fun K' hK => ?_)
            go_simp
            refine (D2.out y2 hB2).mono ?_
            rintro e y3 ⟨b1, rfl, HR1⟩
            obtain ⟨hl1, hb3, hg1⟩ := HR1.out
            dsimp only
            have hB3 := hB2.trans (hb3.mono hB2.size)
            have hz3 := hb3.size
            have hl0 := hl0.below hb3
            have hr := (hb3.block _ (Array.getElem?_eq_some_iff.1 hr).1).trans hr
            refine hK.out _ _ (fun _ => HS.out _ hB3) (fun _ => ?_)
            clear hK K' HR1 hg1
            (try simp only [Act.put, List.setIfInBounds_toArray, List.set_cons_zero, List.set_cons_succ])
            refine G_take (i := 8) (oi := { dst := some 28, op := Op.build 41 #[(0, Operand.tmp 23), (1, Operand.tmp 27)], type := 41, pos := _, after := #[{ on := 3, ground := Ground.data }, { on := 7, ground := Ground.data }], guard := none }) (v := .agg #[.slice (some ⟨b0, 0, none⟩) s s, .slice (some ⟨b1, 0, none⟩) m m]) rfl (by kernel_rfl) (by kernel_rfl) (by kernel_rfl) (by kernel_rfl) (fun _ _ _ h => h) (by rfl) (fun u hu => ?_) (HS.out _ hB3) ?_
            · (try dsimp only at hu); go_simp
            (try simp only [Act.put, List.setIfInBounds_toArray, List.set_cons_zero, List.set_cons_succ])
            obtain ⟨f0, f1, g0, g1⟩ := two_c hr
            obtain ⟨e0, e1, hrq, hbt⟩ := two_set (.slice (some ⟨b0, 0, none⟩) s s) (.slice (some ⟨b1, 0, none⟩) m m) hr
            refine G_step (i := 10) (o := { dst := none, op := Op.store 41 (Operand.tmp 7) (Operand.tmp 28), type := 0, pos := _, after := #[{ on := 9, ground := Ground.data }, { on := 8, ground := Ground.data }, { on := 7, ground := Ground.chain }, { on := 0, ground := Ground.phase }, { on := 1, ground := Ground.phase }, { on := 2, ground := Ground.phase }, { on := 3, ground := Ground.phase }, { on := 4, ground := Ground.phase }, { on := 5, ground := Ground.phase }, { on := 6, ground := Ground.phase }, { on := 7, ground := Ground.phase }, { on := 8, ground := Ground.phase }, { on := 9, ground := Ground.phase }], guard := none }) (by kernel_rfl) rfl (fun K' hK => ?_)
            go_simp
            generalize (y3.setCell ⟨y1.heap.size, 0, none⟩ (.slice (some ⟨b0, 0, none⟩) s s)).setCell ⟨y1.heap.size, 1, none⟩ (.slice (some ⟨b1, 0, none⟩) m m) = yf at *
            have hBf : Below u.heap.size u yf := hB3.trans (hbt.below (by omega) hB3.size)
            refine hK.out _ _ (fun _ => HS.out _ hBf) (fun _ => ?_)
            clear hK K' f0 f1 g0 g1
            (try simp only [Act.put, List.setIfInBounds_toArray, List.set_cons_zero, List.set_cons_succ])
            refine G_done (by kernel_rfl) ?_ _
            have HFIN : Hid (Below u.heap.size u yf ∧ yf.heap[y1.heap.size]? = some (.cells #[.slice (some ⟨b0, 0, none⟩) s s, .slice (some ⟨b1, 0, none⟩) m m] 41) ∧ RowU yf (some ⟨b0, 0, none⟩) s (fun i => (A.Lb (P i).toNat : Int)) ∧ RowU yf (some ⟨b1, 0, none⟩) m (fun i => (A.Lb (Q i).toNat : Int)) ∧ u.heap.size ≤ y1.heap.size) :=
              hid ⟨hBf, hrq, rowU_but41 hl0 hr hbt, rowU_but41 hl1 hr hbt, by omega⟩
            clear hBf hrq hbt
            go_wp2_with fail
            go_meet
            exact ⟨y1.heap.size, b0, b1, rfl, HFIN⟩
        · refine ⟨{ dst := some 7, op := Op.alloc 41, type := 0, pos := _, after := #[], guard := none }, rfl, fun K' hK => ?_⟩
          go_simp
          obtain ⟨y1, hy1⟩ : ∃ q, q = y0.alloc (.cells #[.slice none 0 0, .slice none 0 0] 41) := ⟨_, rfl⟩
          have hb1 : Below y0.heap.size y0 y1 := by rw [hy1]; exact box_below _ _
          have hr : y1.heap[y0.heap.size]? = some (.cells #[.slice none 0 0, .slice none 0 0] 41) := by rw [hy1]; exact Go.Deep.blk_alloc_new _ _
          rw [← hy1]
          have hB1 := hB0.trans (hb1.mono hB0.size)
          have hz1 := hb1.size
          have kr : y0.heap.size < y1.heap.size := (Array.getElem?_eq_some_iff.1 hr).1
          clear hy1
          refine hK.out _ _ (fun _ => HS.out _ hB1) (fun _ => ?_)
          clear hK K'
          (try simp only [Act.put, List.setIfInBounds_toArray, List.set_cons_zero, List.set_cons_succ])
          refine G_step (i := 3) (o := { dst := some 23, op := Op.call { callee := Callee.value (Operand.func 39), args := #[Operand.tmp 20, Operand.tmp 22], argTypes := #[26, 22] }, type := 24, pos := _, after := #[{ on := 0, ground := Ground.data }, { on := 2, ground := Ground.data }], guard := none }) (by kernel_rfl) rfl (fun K' hK => ?_)
          go_simp
          refine (D1.out y1 hB1).mono ?_
          rintro e y2 ⟨b0, rfl, HR0⟩
          obtain ⟨hl0, hb2, hg0⟩ := HR0.out
          dsimp only
          have hB2 := hB1.trans (hb2.mono hB1.size)
          have hz2 := hb2.size
          have hr := (hb2.block _ (Array.getElem?_eq_some_iff.1 hr).1).trans hr
          refine hK.out _ _ (fun _ => HS.out _ hB2) (fun _ => ?_)
          clear hK K' HR0 hg0
          (try simp only [Act.put, List.setIfInBounds_toArray, List.set_cons_zero, List.set_cons_succ])
          refine G_step (i := 7) (o := { dst := some 27, op := Op.call { callee := Callee.value (Operand.func 39), args := #[Operand.tmp 24, Operand.tmp 26], argTypes := #[26, 22] }, type := 24, pos := _, after := #[{ on := 4, ground := Ground.data }, { on := 6, ground := Ground.data }, { on := 3, ground := Ground.chain }], guard := none }) (by kernel_rfl) rfl (fun K' hK => ?_)
          go_simp
          refine (D2.out y2 hB2).mono ?_
          rintro e y3 ⟨b1, rfl, HR1⟩
          obtain ⟨hl1, hb3, hg1⟩ := HR1.out
          dsimp only
          have hB3 := hB2.trans (hb3.mono hB2.size)
          have hz3 := hb3.size
          have hl0 := hl0.below hb3
          have hr := (hb3.block _ (Array.getElem?_eq_some_iff.1 hr).1).trans hr
          refine hK.out _ _ (fun _ => HS.out _ hB3) (fun _ => ?_)
          clear hK K' HR1 hg1
          (try simp only [Act.put, List.setIfInBounds_toArray, List.set_cons_zero, List.set_cons_succ])
          refine G_take (i := 8) (oi := { dst := some 28, op := Op.build 41 #[(0, Operand.tmp 23), (1, Operand.tmp 27)], type := 41, pos := _, after := #[{ on := 3, ground := Ground.data }, { on := 7, ground := Ground.data }], guard := none }) (v := .agg #[.slice (some ⟨b0, 0, none⟩) s s, .slice (some ⟨b1, 0, none⟩) m m]) rfl (by kernel_rfl) (by kernel_rfl) (by kernel_rfl) (by kernel_rfl) (fun _ _ _ h => h) (by rfl) (fun u hu => ?_) (HS.out _ hB3) ?_
          · (try dsimp only at hu); go_simp
          (try simp only [Act.put, List.setIfInBounds_toArray, List.set_cons_zero, List.set_cons_succ])
          obtain ⟨f0, f1, g0, g1⟩ := two_c hr
          obtain ⟨e0, e1, hrq, hbt⟩ := two_set (.slice (some ⟨b0, 0, none⟩) s s) (.slice (some ⟨b1, 0, none⟩) m m) hr
          refine G_step (i := 10) (o := { dst := none, op := Op.store 41 (Operand.tmp 7) (Operand.tmp 28), type := 0, pos := _, after := #[{ on := 9, ground := Ground.data }, { on := 8, ground := Ground.data }, { on := 7, ground := Ground.chain }, { on := 0, ground := Ground.phase }, { on := 1, ground := Ground.phase }, { on := 2, ground := Ground.phase }, { on := 3, ground := Ground.phase }, { on := 4, ground := Ground.phase }, { on := 5, ground := Ground.phase }, { on := 6, ground := Ground.phase }, { on := 7, ground := Ground.phase }, { on := 8, ground := Ground.phase }, { on := 9, ground := Ground.phase }], guard := none }) (by kernel_rfl) rfl (fun K' hK => ?_)
          go_simp
          generalize (y3.setCell ⟨y0.heap.size, 0, none⟩ (.slice (some ⟨b0, 0, none⟩) s s)).setCell ⟨y0.heap.size, 1, none⟩ (.slice (some ⟨b1, 0, none⟩) m m) = yf at *
          have hBf : Below u.heap.size u yf := hB3.trans (hbt.below (by omega) hB3.size)
          refine hK.out _ _ (fun _ => HS.out _ hBf) (fun _ => ?_)
          clear hK K' f0 f1 g0 g1
          (try simp only [Act.put, List.setIfInBounds_toArray, List.set_cons_zero, List.set_cons_succ])
          refine G_done (by kernel_rfl) ?_ _
          have HFIN : Hid (Below u.heap.size u yf ∧ yf.heap[y0.heap.size]? = some (.cells #[.slice (some ⟨b0, 0, none⟩) s s, .slice (some ⟨b1, 0, none⟩) m m] 41) ∧ RowU yf (some ⟨b0, 0, none⟩) s (fun i => (A.Lb (P i).toNat : Int)) ∧ RowU yf (some ⟨b1, 0, none⟩) m (fun i => (A.Lb (Q i).toNat : Int)) ∧ u.heap.size ≤ y0.heap.size) :=
            hid ⟨hBf, hrq, rowU_but41 hl0 hr hbt, rowU_but41 hl1 hr hbt, by omega⟩
          clear hBf hrq hbt
          go_wp2_with fail
          go_meet
          exact ⟨y0.heap.size, b0, b1, rfl, HFIN⟩
      case rest =>
        obtain ⟨x7, b0, b1, rfl, HC⟩ := hcut
        have HBc := hid (HB5.out.trans (HC.out.1.mono HB5.out.size))
        have HKc : Hid (wc.heap[p2]? = some (.cells #[.slice none 0 0, .slice none 0 0] 41)) := hid ((HC.out.1.block _ (Array.getElem?_eq_some_iff.1 HK5.out).1).trans HK5.out)
        obtain ⟨t0, t1, _, _⟩ := two_c HC.out.2.1
        have C40 := hid (wcheck_any (some ⟨b0, 0, none⟩) s s (some ⟨b1, 0, none⟩) m m wc (by omega) (by omega))
        obtain ⟨wk, hwk⟩ : ∃ wk, wchk s m = wk := ⟨_, rfl⟩
        rw [hwk] at C40 HGE
        clear q0 q1 q2 q3 x0' x1' HS D1 D2 hwk
        go_wp2_with fail
        refine C40.out.mono ?_
        rintro e w6 ⟨rfl, hb6⟩
        have HB6 := hid (HBc.out.trans (hb6.mono HBc.out.size))
        have HK6 : Hid (w6.heap[p2]? = some (.cells #[.slice none 0 0, .slice none 0 0] 41)) := hid ((hb6.block _ (Array.getElem?_eq_some_iff.1 HKc.out).1).trans HKc.out)
        have HR6 := hid (And.intro (HC.out.2.2.1.below hb6) (HC.out.2.2.2.1.below hb6))
        have t0' := below_cell hb6 (Nat.le_refl _) t0
        have t1' := below_cell hb6 (Nat.le_refl _) t1
        clear t0 t1 hb6 C40
        by_cases hw0 : wk = 0
        · have g1 : (wk != 0) = false := by simp [hw0]
          have HE0 : Hid ((0 : Int) = wdE A s m P Q) := hid (by rw [HGE.out, if_neg (by rw [HC0.out]; simp), hw0]; simp)
          clear hw0
          obtain ⟨f0, f1, g2, g3⟩ := two_c HK6.out
          obtain ⟨k0, k1, _, hbt⟩ := two_set (.slice (some ⟨b0, 0, none⟩) s s) (.slice (some ⟨b1, 0, none⟩) m m) HK6.out
          have HF := hid (And.intro (HB6.out.trans (hbt.below HP2.out.1 HB6.out.size)) (And.intro (rowU_but41 HR6.out.1 HK6.out hbt) (rowU_but41 HR6.out.2 HK6.out hbt)))
          clear hbt
          go_wp2
          refine bodyPost_ret (v := .tuple #[.agg #[.slice (some ⟨b0, 0, none⟩) s s, .slice (some ⟨b1, 0, none⟩) m m], .int .i64 0]) (by simp [results, Try.f14, go_sem, k0, k1]) rfl ?_
          exact ⟨_, _, _, _, _, _, _, rfl, hid ⟨HE0.out, fun e => absurd rfl e, fun _ => ⟨rfl, rfl, HF.out.2.1, HF.out.2.2⟩, HF.out.1, fun _ => ⟨rfl, rfl, by simp, by simp⟩⟩⟩
        · have g1 : (wk != 0) = true := by simp [hw0]
          have HNE := hid hw0
          clear hw0
          obtain ⟨f0, f1, g0, g1⟩ := two_c HK6.out
          obtain ⟨k0, k1, _, hbt⟩ := two_set (.slice none 0 0) (.slice none 0 0) HK6.out
          have HF : Hid (Below w.heap.size w ((w6.setCell ⟨p2, 0, none⟩ (.slice none 0 0)).setCell ⟨p2, 1, none⟩ (.slice none 0 0))) := hid (HB6.out.trans (hbt.below HP2.out.1 HB6.out.size))
          clear hbt
          go_wp2
          refine bodyPost_ret (v := .tuple #[.agg #[.slice none 0 0, .slice none 0 0], .int .i64 (wk)]) (by simp [results, Try.f14, go_sem, k0, k1]) rfl ?_
          exact ⟨none, 0, 0, none, 0, 0, _, rfl, hid ⟨by rw [HGE.out, if_neg (by rw [HC0.out]; simp)]; simp, fun _ => ⟨rfl, rfl, rfl, rfl, rfl, rfl⟩, fun e => absurd e HNE.out, HF.out, fun e => absurd e HNE.out⟩⟩
  · have g0 : (ck != 0) = true := by simp [h0]
    have HNE := hid h0
    clear h0
    obtain ⟨f0, f1, g0, g1⟩ := two_c HK4.out
    obtain ⟨k0, k1, _, hbt⟩ := two_set (.slice none 0 0) (.slice none 0 0) HK4.out
    have HF : Hid (Below w.heap.size w ((w4.setCell ⟨p2, 0, none⟩ (.slice none 0 0)).setCell ⟨p2, 1, none⟩ (.slice none 0 0))) := hid (HB4.out.trans (hbt.below HP2.out.1 HB4.out.size))
    clear hbt
    go_wp2
    refine bodyPost_ret (v := .tuple #[.agg #[.slice none 0 0, .slice none 0 0], .int .i64 (ck)]) (by simp [results, Try.f14, go_sem, k0, k1]) rfl ?_
    exact ⟨none, 0, 0, none, 0, 0, _, rfl, hid ⟨by rw [HGE.out, if_pos HNE.out], fun _ => ⟨rfl, rfl, rfl, rfl, rfl, rfl⟩, fun e => absurd e HNE.out, HF.out, fun e => absurd e HNE.out⟩⟩
end Go.Proofs.Ytgahdclbaifcbaa
