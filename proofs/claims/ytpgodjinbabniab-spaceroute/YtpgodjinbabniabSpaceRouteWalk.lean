/- The law SpaceRoute, walked. -/
import Derived.Test.YtpgodjinbabniabSpRoute
namespace Go.Proofs.Ytpgodjinbabniab
open Go.RowKit Go.Maps

set_option maxRecDepth 20000 in
set_option maxHeartbeats 8000000 in
theorem spaceRoute_walk {na fa : Option Addr} {N nc F fc : Nat} {M : Nat → ByteArray} {K A B : Nat → Int} {w : World} (hp : Prc w na N nc fa F M K A B) (tk st : Int) :
    Calls Try.prog 7 #[.agg #[.slice na N nc, .slice fa F fc], .int .i64 tk, .int .i64 st] w fun e w' => e = .returned (.bool true) ∧ Below w.heap.size w w' := by
  obtain ⟨e0, he⟩ := chk_ex N F M K A B
  obtain ⟨X, hX⟩ := xok_ex K A B F (stAll K A B F N)
  have HE : Hid (ChkIs N F M K A B e0) := he
  have HXo : Hid (XOk K A B F (stAll K A B F N) X) := hX
  obtain ⟨W, eW⟩ : ∃ x, x = (w.alloc (.cells #[.slice na N nc, .slice fa F fc] 25)).alloc (.cells #[.int .i64 tk] 3) := ⟨_, rfl⟩
  have HW : Hid (Below w.heap.size w W) := by
    subst eW
    exact (box_below _ _).alloc (box_below _ _).size _
  have HBx : Hid (∀ w1, Below W.heap.size W w1 → w1.cell? ⟨w.heap.size, 0, none⟩ = some (.slice na N nc) ∧ w1.cell? ⟨w.heap.size, 1, none⟩ = some (.slice fa F fc) ∧ w1.cell? ⟨w.heap.size + 1, 0, none⟩ = some (.int .i64 tk)) := fun w1 h => by
    subst eW
    have h2 : Below (w.alloc (.cells #[.slice na N nc, .slice fa F fc] 25)).heap.size (w.alloc (.cells #[.slice na N nc, .slice fa F fc] 25)) w1 := (box_below _ _).trans (h.mono (box_below _ _).size)
    refine ⟨new_alloc h2 rfl, new_alloc h2 rfl, ?_⟩
    have h3 := new_alloc (i := 0) h rfl
    simpa using h3
  have HEW : Hid ((w.alloc (.cells #[.slice na N nc, .slice fa F fc] 25)).alloc (.cells #[.int .i64 tk] 3) = W) := eW.symm
  have HPW : Hid (Prc W na N nc fa F M K A B) := hp.below HW.out
  have C1 : Hid (Calls Try.prog 10 #[] W fun e w' => (∃ na fa, e = .returned (.agg #[.slice na 3 3, .slice fa 2 2]) ∧ Prc w' na 3 3 fa 2 sMs sKs sAs sBs) ∧ Below W.heap.size W w') := straight_any W
  have hFF := hp.nF
  clear eW hp he hX
  go_enter Try.func7, Try.ntmps7
  go_wp2_with fail
  rw [HEW.out]
  refine C1.out.mono ?_
  rintro e w1 ⟨⟨na', fa', rfl, hp1⟩, hb1⟩
  have HB1 : Hid (Below W.heap.size W w1) := hb1
  have C2 : Hid (Calls Try.prog 27 #[.agg #[.slice na' 3 3, .slice fa' 2 2], .int .i64 1, .int .i64 2] w1 fun e w' => Below w1.heap.size w1 w' ∧ ∃ (a : Option Addr) (c : Nat), e = .returned (.tuple #[.slice a 2 c, .int .i64 8]) ∧ Row w' a 2 (fun i => if i = 0 then 0 else 1)) := rt_straight hp1
  clear hb1 hp1 C1
  go_wp2_with fail
  refine C2.out.mono ?_
  rintro e w2 ⟨hb2, ra, rc, rfl, hr2⟩
  have HB2 : Hid (Below W.heap.size W w2) := HB1.out.trans (hb2.mono HB1.out.size)
  have C3 : Hid (Calls Try.prog 11 #[.slice ra 2 rc, .slice (some ⟨w2.heap.size, 0, none⟩) 2 2] (w2.alloc (.cells #[.int .i64 0, .int .i64 1] 3)) fun e w' => e = .returned (.bool true) ∧ ∃ q, w' = (w2.alloc (.cells #[.int .i64 0, .int .i64 1] 3)).drewN q) := by
    have := equal_any ra (some ⟨w2.heap.size, 0, none⟩) 2 rc 2 2 _ _ (w2.alloc (.cells #[.int .i64 0, .int .i64 1] 3)) (by omega) (hr2.below (box_below _ _)) (rt_row w2 0 1)
    rwa [same_yes rfl (fun i _ => rfl)] at this
  clear hb2 hr2 C2
  go_wp2_with fail
  refine C3.out.mono ?_
  rintro e w3 ⟨rfl, q3, hw3⟩
  have HB3 : Hid (Below W.heap.size W w3) := by subst hw3; exact below_drewn (HB2.out.alloc HB2.out.size _) _
  obtain ⟨hc0, hc1, hc2⟩ := HBx.out w3 HB3.out
  obtain ⟨L, hL⟩ : ∃ L, L = xW (spE e0 (stAll K A B F N).length) tk st (xall tk st K A B F (stAll K A B F N) X) := ⟨_, rfl⟩
  obtain ⟨y, hy⟩ : ∃ y, y = xE (spE e0 (stAll K A B F N).length) tk st (xall tk st K A B F (stAll K A B F N) X) := ⟨_, rfl⟩
  have C4 : Hid (Calls Try.prog 27 #[.agg #[.slice na N nc, .slice fa F fc], .int .i64 tk, .int .i64 st] w3 fun e w' => Below w3.heap.size w3 w' ∧ ∃ a c, e = .returned (.tuple #[.slice a L.length c, .int .i64 y]) ∧ Row w' a L.length (fun i => L.getD i 0)) := by
    have := routeF_any (fc := fc) (HPW.out.below HB3.out) HE.out tk st HXo.out hL
    rwa [← hy] at this
  have HS := rt_says hL hy
  clear hw3 C3 hL hy
  go_wp2_with fail
  refine C4.out.mono ?_
  rintro e w4 ⟨hb4, la, lc, rfl, hr4⟩
  have HB4 : Hid (Below W.heap.size W w4) := HB3.out.trans (hb4.mono HB3.out.size)
  have HBw4 : Hid (Below w.heap.size w w4) := HW.out.trans (HB4.out.mono HW.out.size)
  have HR4 : Hid (Row w4 la L.length (fun i => L.getD i 0)) := hr4
  clear hb4 hr4 C4 hc0 hc1 hc2
  rcases HS with rfl | ⟨hE, hb, hbad⟩
  · by_cases h7 : y = 7
    · have h7' : (y != 7) = false := by simp [h7]
      clear h7
      go_wp2
      go_ret
      exact ⟨rfl, HBw4.out⟩
    · have h7' : (y != 7) = true := by simp [h7]
      by_cases h8 : y = 8
      · have h8' : (y != 8) = false := by simp [h8]
        clear h7 h8
        go_wp2
        go_ret
        exact ⟨rfl, HBw4.out⟩
      · have h8' : (y != 8) = true := by simp [h8]
        clear h7 h8
        go_wp2
        go_ret
        exact ⟨rfl, HBw4.out⟩
  have h6 := spE_zero hE
  have hbb := bnd_all hb
  have HEz : Hid (ChkIs N F M K A B 0) := by have := HE.out; rw [h6.1] at this; exact this
  have hF30 : F ≤ 30 := (chk_zero HEz.out).1.2
  obtain ⟨n, hn, hnq, hplay⟩ := rt_play HXo.out (rt_lt HEz.out) hbb.1.2 hbad
  have hst : (n : Int) + 1 ≤ st ∧ n < 200 := by omega
  have HPl : Hid (∀ kk Ns z, PyD K A B F (stAll K A B F N) L.length (fun i => L.getD i 0) kk Ns z →
      ((y = 7 ∧ z = 7 ∧ kk = n) ∨ (y = 7 ∧ z = 0 ∧ kk = n + 1 ∧ ∃ j, j < F ∧ tk < Ns (n + 1) j) ∨ (y = 8 ∧ z = 0 ∧ kk = n + 1 ∧ ∀ i, i < n + 1 → same F F (Ns i) (Ns (n + 1)) = false))) := hplay
  have hy78 : y = 7 ∨ y = 8 := xbad_code hbad
  obtain ⟨hc0, hc1, hc2⟩ := HBx.out w4 HB4.out
  have C5 : Hid (Calls Try.prog 9 #[.agg #[.slice na N nc, .slice fa F fc], .slice la (n + 1) lc] w4 fun e w' => Below w4.heap.size w4 w' ∧ PyIc 0 K A B F (stAll K A B F N) (n + 1) (fun i => L.getD i 0) e w') := by
    have hr := HR4.out
    rw [hn] at hr
    have := play_cap (HPW.out.below HB4.out) HE.out (dc := lc) (fc := fc) (by omega) hr
    rwa [hE] at this
  rw [hn] at HPl
  clear hplay hbad hE hb hbb hnq h6 HR4
  rw [hn]
  clear hn
  have hnz : (((n : Int) + 1) == 0) = false := beq_eq_false_iff_ne.2 (by omega)
  have hn1 : IntKind.i64.wrap ((n : Int) + 1 - 1) = n := by rw [IntKind.wrap_i64]; omega
  have hn2 : IntKind.i64.wrap ((n : Int) + 1 + 1 - 1) = n + 1 := by rw [IntKind.wrap_i64]; omega
  have hnl : n < 200 := hst.2
  have hst' : (n : Int) + 1 ≤ st := hst.1
  clear hst
  have cont : ∀ (f : Ending → World → Prop), True := fun _ => trivial
  clear cont
  rcases hy78 with rfl | rfl
  · go_wp2_with fail
    refine C5.out.mono ?_
    rintro e w5 ⟨hb5, hp5⟩
    have HB5 : Hid (Below W.heap.size W w5) := HB4.out.trans (hb5.mono HB4.out.size)
    have HBw5 : Hid (Below w.heap.size w w5) := HW.out.trans (HB5.out.mono HW.out.size)
    clear hc0 hc1 hc2
    obtain ⟨hc0, hc1, hc2⟩ := HBx.out w5 HB5.out
    rcases hp5 with ⟨h1, _⟩ | ⟨_, h1, _⟩ | ⟨_, _, k, Ns, ga, gc, z, hk, hpos, hpth, hgr, rfl, hz, hcap⟩
    · exact absurd rfl h1
    · omega
    rcases HPl.out k Ns z ⟨hk, hpos, hpth, hz⟩ with ⟨_, rfl, rfl⟩ | ⟨_, rfl, rfl, hj⟩ | ⟨h8, _⟩
    · clear hz hpos hpth hk hgr
      go_wp2
      go_ret
      exact ⟨rfl, HBw5.out⟩
    · obtain ⟨gb, go, hga, hgc⟩ := hgr
      obtain rfl := hga (by omega)
      obtain ⟨ma, mc, hgn, hrn⟩ := hgc (n + 1) (by omega)
      have HRn : Hid (Row w5 ma F (Ns (n + 1))) := hrn
      have HJ : Hid (∃ j, j < F ∧ tk < Ns (n + 1) j) := hj
      have hgl : gb < w5.heap.size := World.block_lt_of_cell? _ _ hgn
      have hl2 : w.heap.size + 1 < w5.heap.size := World.block_lt_of_cell? _ _ hc2
      obtain ⟨V, eV⟩ : ∃ x, x = w5.alloc (.cells #[.slice ma F mc] 26) := ⟨_, rfl⟩
      have C6 : Hid (Calls Try.prog 21 #[.slice ma F mc, .func (Fn.func 28) #[] #[.pointer (some ⟨w.heap.size + 1, 0, none⟩)]] V fun e w' => e = .returned (.bool true) ∧ w' = V) := by
        subst eV
        exact rtSome (((box_below _ _).cell (p := ⟨w.heap.size + 1, 0, none⟩) hl2).trans hc2) (by omega) (hrn.below (box_below _ _)) hj
      have HF : Hid (Below w.heap.size w V) := by subst eV; exact HBw5.out.alloc HBw5.out.size _
      have HEV : Hid (w5.alloc (.cells #[.slice ma F mc] 26) = V) := eV.symm
      clear hz hpos hpth hk hgc hga hrn hj C5 eV
      go_wp2_with fail
      rw [HEV.out]
      refine C6.out.mono ?_
      rintro e w6 ⟨rfl, rfl⟩
      clear C6
      go_wp2
      go_ret
      exact ⟨rfl, HF.out⟩
    · omega
  · go_wp2_with fail
    refine C5.out.mono ?_
    rintro e w5 ⟨hb5, hp5⟩
    have HB5 : Hid (Below W.heap.size W w5) := HB4.out.trans (hb5.mono HB4.out.size)
    have HBw5 : Hid (Below w.heap.size w w5) := HW.out.trans (HB5.out.mono HW.out.size)
    clear hc0 hc1 hc2
    rcases hp5 with ⟨h1, _⟩ | ⟨_, h1, _⟩ | ⟨_, _, k, Ns, ga, gc, z, hk, hpos, hpth, hgr, rfl, hz, hcap⟩
    · exact absurd rfl h1
    · omega
    rcases HPl.out k Ns z ⟨hk, hpos, hpth, hz⟩ with ⟨h7, _⟩ | ⟨h7, _⟩ | ⟨_, rfl, rfl, hne⟩
    · omega
    · omega
    have HGr : Hid (Gr w5 ga (n + 1) (fun _ => F) Ns) := by
      obtain ⟨gb, go, hga, hgc⟩ := hgr
      exact ⟨gb, go, fun _ => hga (by omega), fun r hr => hgc r (by omega)⟩
    obtain ⟨gb, go, hga, hgc⟩ := hgr
    obtain rfl := hga (by omega)
    obtain ⟨ma, mc, hgn, hrn⟩ := hgc (n + 1) (by omega)
    have hgl : gb < w5.heap.size := World.block_lt_of_cell? _ _ hgn
    have hgcap : n + 1 ≤ gc := by omega
    have hgcz : (n : Int) + 1 ≤ gc := by omega
    obtain ⟨V, eV⟩ : ∃ x, x = w5.alloc (.cells #[.slice ma F mc] 26) := ⟨_, rfl⟩
    have C6 : Hid (∀ c2, Calls Try.prog 23 #[.slice (some ⟨gb, go, none⟩) (n + 1) c2, .func (Fn.func 29) #[] #[.pointer (some ⟨w5.heap.size, 0, none⟩)]] V fun e w' => e = .returned (.bool false) ∧ ∃ q, w' = V.drewN q) := fun c2 => by
      subst eV
      exact rtEqNone (by omega) (by omega) (cell_of_alloc rfl) (HGr.out.below (box_below _ _)) (hrn.below (box_below _ _)) hne
    have HF : Hid (Below w.heap.size w V) := by subst eV; exact HBw5.out.alloc HBw5.out.size _
    have HEV : Hid (w5.alloc (.cells #[.slice ma F mc] 26) = V) := eV.symm
    clear hz hpos hpth hk hgc hga hrn hne C5 eV
    go_wp2_with fail
    rw [HEV.out]
    refine (C6.out _).mono ?_
    rintro e w6 ⟨rfl, q, hw6⟩
    have HF6 : Hid (Below w.heap.size w w6) := by subst hw6; exact below_drewn HF.out _
    clear C6 hw6
    go_wp2
    go_ret
    exact ⟨rfl, HF6.out⟩

end Go.Proofs.Ytpgodjinbabniab
