/- Parse. -/
import Derived.Test.YtnpdkpbhkjnbhaaDoorJoin
namespace Go.Proofs.YtnpdkpbhkjnbhaaDoor
open Go.RowKit

theorem results_cell_tmp2 {P : Program} {fn : Func} {p u v : Tmp} {ty : TypeId} (h : fn.results = #[.cell p ty, .tmp u, .tmp v]) (tmps : Array Value) (w : World) (g : Nat) (t : TypeId) (cs : Array Value) (fr : Nat × Nat) (d : TypeDesc)
    (hp : tmps.getD p undef = .pointer (some ⟨g, 0, none⟩)) (hg : w.heap[g]? = some (.cells cs t fr))
    (hu : P.underlying ty = some d) (hd : (match d with | .struct _ | .array _ _ => true | _ => false) = true) (hi : (P.info? ty).map (·.size) = some cs.size) :
    (results fn tmps).run P w = .ok (.tuple #[.agg cs, tmps.getD u undef, tmps.getD v undef]) w := by
  have hp' : tmps[p]?.getD undef = .pointer (some ⟨g, 0, none⟩) := by simpa using hp
  simp [results, h, hp', asAddr, run_loadVar_row w g t ty cs fr d hg hu hd hi]

/-- Two slices lie in block r. -/
def Two (w : World) (r : Nat) (a b : Option Addr) (n m c e : Nat) : Prop := w.heap[r]? = some (.cells #[.slice a n c, .slice b m e] 25 (0, 0))

theorem cell_set_other {w : World} {r i : Nat} {u : Value} {p : Addr} (h : p.block ≠ r) : (w.setCell ⟨r, i, none⟩ u).cell? p = w.cell? p :=
  World.cell?_of_block (Go.Deep.blk_setCell_other _ _ _ _ h)

theorem two_ne {w : World} {r b o n m c e : Nat} {a a' : Option Addr} {v : Value} (h : Two w r a a' n m c e) (hv : ∀ x y z, v ≠ .slice x y z) (hc : w.cell? ⟨b, o, none⟩ = some v) : b ≠ r := by
  intro eb
  subst eb
  unfold Two at h
  simp only [World.cell?, h] at hc
  rcases o with _ | _ | o
  · simp at hc; exact hv _ _ _ hc.symm
  · simp at hc; exact hv _ _ _ hc.symm
  · simp at hc

theorem Nds.set {w : World} {a x x' : Option Addr} {N r n m c e i : Nat} {M : Nat → ByteArray} {K : Nat → Int} {u : Value} (h : Nds w a N M K) (hr : Two w r x x' n m c e) : Nds (w.setCell ⟨r, i, none⟩ u) a N M K := by
  obtain ⟨b, o, ha, hc⟩ := h
  refine ⟨b, o, ha, fun j hj => ?_⟩
  obtain ⟨h1, h2⟩ := hc j hj
  have hb := two_ne hr (by intro x y z hh; cases hh) h1
  rw [cell_set_other hb, cell_set_other hb]
  exact ⟨h1, h2⟩

theorem Fls.set {w : World} {a x x' : Option Addr} {F r n m c e i : Nat} {A B : Nat → Int} {u : Value} (h : Fls w a F A B) (hr : Two w r x x' n m c e) : Fls (w.setCell ⟨r, i, none⟩ u) a F A B := by
  obtain ⟨b, o, ha, hc⟩ := h
  refine ⟨b, o, ha, fun j hj => ?_⟩
  obtain ⟨h1, h2⟩ := hc j hj
  have hb := two_ne hr (by intro x y z hh; cases hh) h1
  rw [cell_set_other hb, cell_set_other hb]
  exact ⟨h1, h2⟩

theorem two_set {w : World} {r n m c e n' m' c' e' : Nat} {a b a' b' : Option Addr} (h : Two w r a b n m c e) : Two ((w.setCell ⟨r, 0, none⟩ (.slice a' n' c')).setCell ⟨r, 1, none⟩ (.slice b' m' e')) r a' b' n' m' c' e' := by
  unfold Two at *
  rw [blk_setCell_self (blk_setCell_self h)]
  rfl

theorem two_cells0 {w : World} {r n m c e : Nat} {a b : Option Addr} (h : Two w r a b n m c e) : w.cell? ⟨r, 0, none⟩ = some (.slice a n c) ∧ w.cell? ⟨r, 1, none⟩ = some (.slice b m e) ∧ w.frozen? ⟨r, 0, none⟩ = false ∧ w.frozen? ⟨r, 1, none⟩ = false := by
  unfold Two at h
  exact ⟨cell_of_cells h rfl, cell_of_cells h rfl, by simp [World.frozen?, h], by simp [World.frozen?, h]⟩

/-- What Parse answers beside an error: nothing. -/
def noProc (at_ e : Int) : Ending := .returned (.tuple #[.agg #[.slice none 0 0, .slice none 0 0], .int .i64 at_, .int .i64 e])

/-- What Parse answers. -/
def PaIs (s : List UInt8) (e : Ending) (w' : World) : Prop :=
  (4096 < s.length ∧ e = noProc 0 2) ∨
  (s.length ≤ 4096 ∧ ((∃ k r x, st s k = some (r, x) ∧ r ≠ [] ∧ st s (k + 1) = none ∧ e = noProc ((k + 1 : Nat) : Int) 3) ∨
    ∃ k x, st s k = some ([], x) ∧ ((∃ i, i < x.2.length ∧ (jA x i = -1 ∨ jB x i = -1) ∧ (∀ j, j < i → jA x j ≠ -1 ∧ jB x j ≠ -1) ∧ e = noProc ((x.1.length + i + 1 : Nat) : Int) 4) ∨
      (∀ j, j < x.2.length → jA x j ≠ -1 ∧ jB x j ≠ -1) ∧ ∃ e0, ChkIs x.1.length x.2.length (mM x.1) (mK x.1) (jA x) (jB x) e0 ∧
        ((e0 ≠ 0 ∧ e = noProc 0 e0) ∨ (e0 = 0 ∧ ∃ na nc fa fc, e = .returned (.tuple #[.agg #[.slice na x.1.length nc, .slice fa x.2.length fc], .int .i64 0, .int .i64 0]) ∧ Prc w' na x.1.length nc fa x.2.length (mM x.1) (mK x.1) (jA x) (jB x))))))

set_option maxRecDepth 20000 in
set_option maxHeartbeats 4000000 in
theorem parse_any (s : List UInt8) (w : World) (hg : Gl w) (hw2 : 2 ≤ w.heap.size) :
    Calls Tryd.prog 9 #[.string (byt s)] w fun e w' => PaIs s e w' ∧ Below w.heap.size w w' := by
  have HG : Hid (Gl w) := hg
  have hsz : (byt s).size = s.length := by show s.toArray.size = _; simp
  obtain ⟨bs, hbs⟩ : ∃ b, b = byt s := ⟨_, rfl⟩
  rw [← hbs] at hsz ⊢
  have HBs : Hid (bs = byt s) := hbs
  clear hbs hg
  by_cases hl : 4096 < s.length
  · have HT0 : Hid (Two (w.alloc (.cells #[.slice none 0 0, .slice none 0 0] 25)) w.heap.size none none 0 0 0 0) := Go.Deep.blk_alloc_new _ _
    have HL : Hid (4096 < s.length) := hl
    have hz : (4096 : Int) < s.length := by omega
    clear hl
    go_enter Tryd.func9, Tryd.ntmps9
    go_wp2
    (try simp only [Exit.inBlock, Exit.then])
    refine bodyPost_ret (results_cell_tmp2 rfl _ _ w.heap.size 25 #[.slice none 0 0, .slice none 0 0] (0, 0) _ rfl HT0.out Tryd.underlying25 rfl (by kernel_rfl)) rfl ?_
    exact ⟨Or.inl ⟨HL.out, rfl⟩, box_below w _⟩
  · obtain ⟨U, eU⟩ : ∃ v, v = (w.alloc (.cells #[.slice none 0 0, .slice none 0 0] 25)).alloc (.cells #[.slice none 0 0, .slice none 0 0] 57) := ⟨_, rfl⟩
    have HU : Hid (Below w.heap.size w U ∧ Two U w.heap.size none none 0 0 0 0 ∧ U.heap.size = w.heap.size + 2 ∧ Df U (w.heap.size + 1) (w.heap.size + 1) ([], []) (.slice none 0 0) (.slice none 0 0)) := by
      subst eU
      have e1 : (w.alloc (.cells #[.slice none 0 0, .slice none 0 0] 25)).heap.size = w.heap.size + 1 := by simp
      refine ⟨(box_below _ _).trans ((box_below _ _).mono (by simp)), ?_, by simp, ⟨Nat.le_refl _, ?_, World.ownsRow_nil _ _ _ _, World.ownsRow_nil _ _ _ _⟩⟩
      · unfold Two
        rw [Go.Deep.blk_alloc_lt _ _ _ (by simp), Go.Deep.blk_alloc_new]
      · rw [← e1, Go.Deep.blk_alloc_new]
    have HUe : Hid ((w.alloc (.cells #[.slice none 0 0, .slice none 0 0] 25)).alloc (.cells #[.slice none 0 0, .slice none 0 0] 57) = U) := eU.symm
    clear eU
    have C1 : Hid (Calls Tryd.prog 22 #[.pointer (some ⟨w.heap.size + 1, 0, none⟩), .string bs] U fun e w' => RdOut U (w.heap.size + 1) (w.heap.size + 1) s e w') := by
      rw [HBs.out]
      exact read_any s HU.out.2.2.2 (by have := HU.out.2.2.1; omega) (by omega) (HG.out.below HU.out.1 hw2) (by omega)
    have hz : ¬ (4096 : Int) < s.length := by omega
    have HLs : Hid (s.length ≤ 4096) := by show _ ≤ _; omega
    have hl' : s.length ≤ 4096 := HLs.out
    go_enter Tryd.func9, Tryd.ntmps9
    go_wp2_with fail
    rw [HUe.out]
    refine C1.out.mono ?_
    rintro e w1 ⟨hb1, k, r, x, hst, hrd⟩
    have HB1 : Hid (Below (w.heap.size + 1) U w1) := hb1
    have HBw1 : Hid (Below w.heap.size w w1) := HU.out.1.trans (hb1.mono (by omega))
    have HT1 : Hid (Two w1 w.heap.size none none 0 0 0 0) := (hb1.block _ (by omega)).trans HU.out.2.1
    have HST : Hid (st s k = some (r, x)) := hst
    clear hb1 hst C1
    rcases hrd with ⟨hr, rfl, vn, vf, hdf⟩ | ⟨hr, hst1, rfl⟩
    · subst hr
      obtain ⟨na, nc, hvn, hnc⟩ := owns_form hdf.nds
      subst hvn
      have hsm := st_small HST.out hl'
      have CJ : Hid (Calls Tryd.prog 23 #[.pointer (some ⟨w.heap.size + 1, 0, none⟩)] w1 fun e w' => Below w1.heap.size w1 w' ∧ JnOut x e w') := join_any hdf hsm.1 hsm.2.1
      have HD1 : Hid (Df w1 (w.heap.size + 1) (w.heap.size + 1) x (.slice na x.1.length nc) vf) := hdf
      clear hdf
      go_wp2_with fail
      refine CJ.out.mono ?_
      rintro e w2 ⟨hb2, hjn⟩
      have HBw2 : Hid (Below w.heap.size w w2) := HBw1.out.trans (hb2.mono HBw1.out.size)
      have hlt1 : w.heap.size + 1 < w1.heap.size := (Array.getElem?_eq_some_iff.1 HD1.out.blk).1
      have HT2 : Hid (Two w2 w.heap.size none none 0 0 0 0) := (hb2.block _ (by omega)).trans HT1.out
      have HD2 : Hid (Df w2 (w.heap.size + 1) (w.heap.size + 1) x (.slice na x.1.length nc) vf) := HD1.out.later hb2
      clear hb2 CJ HT1 HD1
      rcases hjn with ⟨i, hi, hbad, hfirst, rfl⟩ | ⟨hall, fa, fc, rfl, hfls⟩
      · have HN : Hid (i < x.2.length ∧ (jA x i = -1 ∨ jB x i = -1) ∧ (∀ j, j < i → jA x j ≠ -1 ∧ jB x j ≠ -1)) := ⟨hi, hbad, hfirst⟩
        clear hi hbad hfirst
        have hk0 : (((x.1.length + i + 1 : Nat) : Int) != 0) = true := by rw [bne_iff_ne]; omega
        obtain ⟨kk, hkk⟩ : ∃ z : Int, z = ((x.1.length + i + 1 : Nat) : Int) := ⟨_, rfl⟩
        rw [← hkk] at hk0 ⊢
        have HK : Hid (kk = ((x.1.length + i + 1 : Nat) : Int)) := hkk
        clear hkk
        obtain ⟨hr0, hr1, hf0, hf1⟩ := two_cells0 HT2.out
        go_wp2
        (try simp only [Exit.inBlock, Exit.then])
        refine bodyPost_ret (results_cell_tmp2 rfl _ _ w.heap.size 25 #[.slice none 0 0, .slice none 0 0] (0, 0) _ rfl (two_set HT2.out) Tryd.underlying25 rfl (by kernel_rfl)) rfl ?_
        exact ⟨Or.inr ⟨HLs.out, Or.inr ⟨k, x, HST.out, Or.inl ⟨i, HN.out.1, HN.out.2.1, HN.out.2.2, by rw [← HK.out]; rfl⟩⟩⟩, ((HBw2.out.setCell (Nat.le_refl _) _).setCell (Nat.le_refl _) _)⟩
      · have HAl : Hid (∀ j, j < x.2.length → jA x j ≠ -1 ∧ jB x j ≠ -1) := hall
        obtain ⟨e0, he0⟩ := chk_ex x.1.length x.2.length (mM x.1) (mK x.1) (jA x) (jB x)
        have HE : Hid (ChkIs x.1.length x.2.length (mM x.1) (mK x.1) (jA x) (jB x) e0) := he0
        have HP2 : Hid (Prc w2 na x.1.length nc fa x.2.length (mM x.1) (mK x.1) (jA x) (jB x)) := ⟨owns_nds HD2.out.nds, hfls, hnc, by omega, by omega⟩
        have hdc : w2.cell? ⟨w.heap.size + 1, 0, none⟩ = some (.slice na x.1.length nc) := cell_of_cells HD2.out.blk rfl
        clear hall he0 hfls hnc
        obtain ⟨N, hN⟩ : ∃ n, n = x.1.length := ⟨_, rfl⟩
        obtain ⟨F, hF⟩ : ∃ n, n = x.2.length := ⟨_, rfl⟩
        have HNF : Hid (x.1.length = N ∧ x.2.length = F) := ⟨hN.symm, hF.symm⟩
        rw [← hN] at HP2 hdc
        rw [← hF] at HP2 ⊢
        have C3 : Hid (∀ u, Below w2.heap.size w2 u → Calls Tryd.prog 13 #[.agg #[.slice na N nc, .slice fa F fc]] u fun e w' => e = .returned (.int .i64 e0) ∧ Below u.heap.size u w') := fun u hu => procCheck_any na fa N nc F fc _ _ _ _ e0 u (HP2.out.below hu) (by rw [hN, hF]; exact HE.out)
        clear hN hF hsm
        obtain ⟨V, eV⟩ : ∃ v, v = w2.alloc (.cells #[.slice na N nc, .slice fa F fc] 25) := ⟨_, rfl⟩
        have HV : Hid (Below w2.heap.size w2 V ∧ V.cell? ⟨w2.heap.size, 0, none⟩ = some (.slice na N nc) ∧ V.cell? ⟨w2.heap.size, 1, none⟩ = some (.slice fa F fc)) := by subst eV; exact ⟨box_below _ _, cell_of_alloc rfl, cell_of_alloc rfl⟩
        have HVe : Hid (w2.alloc (.cells #[.slice na N nc, .slice fa F fc] 25) = V) := eV.symm
        clear eV
        go_wp2_with fail
        rw [HVe.out]
        refine (C3.out V HV.out.1).mono ?_
        rintro e w3 ⟨rfl, hb3⟩
        have HB23 : Hid (Below w2.heap.size w2 w3) := HV.out.1.trans (hb3.mono HV.out.1.size)
        have hp0 := (hb3.cell (p := ⟨w2.heap.size, 0, none⟩) (World.block_lt_of_cell? _ _ HV.out.2.1)).trans HV.out.2.1
        have hp1 := (hb3.cell (p := ⟨w2.heap.size, 1, none⟩) (World.block_lt_of_cell? _ _ HV.out.2.2)).trans HV.out.2.2
        have HBw3 : Hid (Below w.heap.size w w3) := HBw2.out.trans (HB23.out.mono HBw2.out.size)
        have HT3 : Hid (Two w3 w.heap.size none none 0 0 0 0) := (HB23.out.block _ (Array.getElem?_eq_some_iff.1 HT2.out).1).trans HT2.out
        have HP3 : Hid (Prc w3 na N nc fa F (mM x.1) (mK x.1) (jA x) (jB x)) := HP2.out.below HB23.out
        obtain ⟨hr0, hr1, hf0, hf1⟩ := two_cells0 HT3.out
        clear hb3 C3 HT2 HP2
        by_cases hz0 : e0 = 0
        · subst hz0
          go_wp2
          (try simp only [Exit.inBlock, Exit.then])
          refine bodyPost_ret (results_cell_tmp2 rfl _ _ w.heap.size 25 #[.slice na N nc, .slice fa F fc] (0, 0) _ rfl (two_set HT3.out) Tryd.underlying25 rfl (by kernel_rfl)) rfl ?_
          refine ⟨Or.inr ⟨HLs.out, Or.inr ⟨k, x, HST.out, Or.inr ⟨HAl.out, 0, HE.out, Or.inr ⟨rfl, na, nc, fa, fc, by rw [HNF.out.1, HNF.out.2]; rfl, ?_⟩⟩⟩⟩, ((HBw3.out.setCell (Nat.le_refl _) _).setCell (Nat.le_refl _) _)⟩
          rw [HNF.out.1, HNF.out.2]
          have hT4 : Two (w3.setCell ⟨w.heap.size, 0, none⟩ (.slice na N nc)) w.heap.size na none N 0 nc 0 := by
            have h := HT3.out
            unfold Two at *
            rw [blk_setCell_self h]
            rfl
          exact ⟨(HP3.out.nds.set HT3.out).set hT4, (HP3.out.fls.set HT3.out).set hT4, HP3.out.cap, HP3.out.nN, HP3.out.nF⟩
        · have hz' : (e0 != 0) = true := by rw [bne_iff_ne]; exact hz0
          have HZ : Hid (e0 ≠ 0) := hz0
          clear hz0
          go_wp2
          (try simp only [Exit.inBlock, Exit.then])
          refine bodyPost_ret (results_cell_tmp2 rfl _ _ w.heap.size 25 #[.slice none 0 0, .slice none 0 0] (0, 0) _ rfl (two_set HT3.out) Tryd.underlying25 rfl (by kernel_rfl)) rfl ?_
          exact ⟨Or.inr ⟨HLs.out, Or.inr ⟨k, x, HST.out, Or.inr ⟨HAl.out, e0, HE.out, Or.inl ⟨HZ.out, rfl⟩⟩⟩⟩, ((HBw3.out.setCell (Nat.le_refl _) _).setCell (Nat.le_refl _) _)⟩
    · have HN : Hid (r ≠ [] ∧ st s (k + 1) = none) := ⟨hr, hst1⟩
      clear hr hst1
      have hk0 : (((k + 1 : Nat) : Int) != 0) = true := by rw [bne_iff_ne]; omega
      obtain ⟨kk, hkk⟩ : ∃ z : Int, z = ((k + 1 : Nat) : Int) := ⟨_, rfl⟩
      rw [← hkk] at hk0 ⊢
      have HK : Hid (kk = ((k + 1 : Nat) : Int)) := hkk
      clear hkk
      obtain ⟨hr0, hr1, hf0, hf1⟩ := two_cells0 HT1.out
      go_wp2
      (try simp only [Exit.inBlock, Exit.then])
      refine bodyPost_ret (results_cell_tmp2 rfl _ _ w.heap.size 25 #[.slice none 0 0, .slice none 0 0] (0, 0) _ rfl (two_set HT1.out) Tryd.underlying25 rfl (by kernel_rfl)) rfl ?_
      exact ⟨Or.inr ⟨HLs.out, Or.inl ⟨k, r, x, HST.out, HN.out.1, HN.out.2, by rw [← HK.out]; rfl⟩⟩, ((HBw1.out.setCell (Nat.le_refl _) _).setCell (Nat.le_refl _) _)⟩

end Go.Proofs.YtnpdkpbhkjnbhaaDoor
