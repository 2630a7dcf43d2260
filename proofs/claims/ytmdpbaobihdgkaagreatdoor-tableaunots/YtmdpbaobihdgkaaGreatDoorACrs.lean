
import Derived.Test.YtmdpbaobihdgkaaGreatDoorAGthJ
/- cross: its iterator, walked. -/
namespace Go.Proofs.YtmdpbaobihdgkaaGreatDoor
open Go.RowKit Go.Shelf
attribute [local go_sem] Oper.semAt_some
theorem mem_sec {ss : List Nat} (h : ∀ y ∈ ss, y < 2048) (s : Nat) : mem (ofL (fun i => ((ss.getD i 0 : Nat) : Int)) ss.length) s = decide (s ∈ ss) := by
 rw [mem_ofL s (fun i hi => by
  have : ss.getD i 0 ∈ ss := by rw [List.getD_eq_getElem?_getD, List.getElem?_eq_getElem hi]; exact List.getElem_mem hi
  have := h _ this
  omega)]
 unfold has
 rw [decide_eq_decide]
 constructor
 ·rintro ⟨i, hi, e⟩
  dsimp only at e
  have e2 : ss.getD i 0 = s := by omega
  rw [← e2, List.getD_eq_getElem?_getD, List.getElem?_eq_getElem hi]
  exact List.getElem_mem hi
 ·intro hm
  refine ⟨ix s ss, ix_lt hm, ?_⟩
  show ((ss.getD (ix s ss) 0 : Nat) : Int) = s
  rw [List.getD_eq_getElem?_getD, ix_at hm]
  rfl
theorem getD_mem {l : List Nat} {i : Nat} (h : i < l.length) : l.getD i 0 ∈ l := by rw [List.getD_eq_getElem?_getD, List.getElem?_eq_getElem h]; exact List.getElem_mem h
theorem getD_some {l : List Nat} {i : Nat} (h : i < l.length) : l[i]? = some (l.getD i 0) := by rw [List.getD_eq_getElem?_getD, List.getElem?_eq_getElem h]; rfl
def plK (ss : List Nat) (k x : Nat) : Nat := if ix x ss < k then ix x ss else 0
theorem plK_upd {ss : List Nat} (hnd : ss.Nodup) {k : Nat} (hk : k < ss.length) (x : Nat) (hx : x ∈ ss) : plK ss (k + 1) x = upd (plK ss k) (ss.getD k 0) k x := by
 have h1 := at_ix hnd (getD_some hk)
 unfold upd plK
 by_cases e : x = ss.getD k 0
 ·rw [if_pos e, e, h1, if_pos (by omega)]
 ·rw [if_neg e]
  have : ix x ss ≠ k := fun e2 => e (by
   have := ix_at hx
   rw [e2, getD_some hk] at this
   exact (Option.some.inj this).symm)
  by_cases h : ix x ss < k
  ·rw [if_pos h, if_pos (by omega)]
  ·rw [if_neg h, if_neg (by omega)]
structure Crl (J : List Pr → (Nat → Prop) → World → Prop) (bs : Nat → Prop) (ss : List Nat) (Ba Bp : Nat) (X : Nat → Nat) (W0 : World) (pre : List Pr) (D : Nat → Prop) (a : Option Addr) (L : List Nat) (wr : World) : Prop where
 c : Crw J bs ss Ba Bp X W0 pre D wr
 l : ∀ p, a = some p → p = ⟨p.block, 0, none⟩ ∧ W0.heap.size ≤ p.block ∧ p.block < wr.heap.size ∧ ¬ D p.block ∧ ∀ i, i < L.length → wr.cell? ⟨p.block, i, none⟩ = some (.int .i64 ((L.getD i 0 : Nat) : Int))
theorem Crl.yield {J : List Pr → (Nat → Prop) → World → Prop} {bs : Nat → Prop} {ss : List Nat} {Ba Bp : Nat} {X : Nat → Nat} {W0 : World} {pre pre' : List Pr} {D : Nat → Prop} {a : Option Addr} {L : List Nat} {wr wr' : World} (h : Crl J bs ss Ba Bp X W0 pre D a L wr) (hbs : ∀ b, bs b → b < W0.heap.size)
  (hf : Fr (fun b => (b < W0.heap.size ∧ ¬ bs b) ∨ D b) wr wr') (hj : J pre' (grew D wr wr') wr') : Crl J bs ss Ba Bp X W0 pre' (grew D wr wr') a L wr' := by
 refine ⟨h.c.yield hbs hf hj, fun p hp => ?_⟩
 obtain ⟨h0, h1, hlt, h2, h3⟩ := h.l p hp
 refine ⟨h0, h1, Nat.lt_of_lt_of_le hlt hf.size, fun hd => ?_, fun i hi => (World.cell?_of_block (w := wr) (a := ⟨p.block, i, none⟩) (hf.block p.block hlt (fun hx => hx.elim (fun h4 => by omega) h2))).trans (h3 i hi)⟩
 rcases hd with hd | hd
 ·exact h2 hd
 ·omega
set_option maxRecDepth 100000 in
set_option maxHeartbeats 8000000 in
theorem cross_stops (n : Nat) {ok : Nat → Nat → Bool} {bs : Nat → Prop} {Bs Bf Bw sb so fb fo wb G H : Nat} {sa fa : Option Addr} {sc fc wc : Nat} {fs ss : List Nat} {F : Nat → Nat → Nat} {w : World} (h : Cap bs Bs Bf Bw sb so fb fo wb G sa fa sc fc wc fs ss F w)
  (hbw : ∀ b, bs b → b < w.heap.size) (hnd : ss.Nodup) (hs2 : ∀ y ∈ ss, y < H) (hH : H ≤ 2048) (hf2 : ∀ x ∈ fs, x < G) (hG : G ≤ 2048) (hF : ∀ x y, x < G → mem (F x) y = (decide (y < H) && ok x y)) (hlf : fs.length ≤ 2048) (hls : ss.length ≤ 2048) :
  Itd n 81 #[.pointer (some ⟨Bs, 0, none⟩), .pointer (some ⟨Bf, 0, none⟩), .pointer (some ⟨Bw, 0, none⟩)] (crP ok fs ss) bs w := fun l J Jx W hW hJ hJx hY h0 => by
 refine callsIn_wide.2 ?_
 show Calls Tryz.prog 81 #[.func (.yield l) #[] #[], .pointer (some ⟨Bs, 0, none⟩), .pointer (some ⟨Bf, 0, none⟩), .pointer (some ⟨Bw, 0, none⟩)] W _
 have hbW : ∀ b, bs b → b < W.heap.size := fun b hb => Nat.lt_of_lt_of_le (hbw b hb) hW.size
 have hcW : Cap bs Bs Bf Bw sb so fb fo wb G sa fa sc fc wc fs ss F W := h.of (fun b hb => hW.block b (hbw b hb))
 have hs3 : ∀ y ∈ ss, y < 2048 := fun y hy => by have := hs2 y hy; omega
 have C25 := hid (setOf_any sa ss.length sc (fun i => ((ss.getD i 0 : Nat) : Int)) W (by omega) ⟨sb, so, hcW.sa, hcW.sr⟩ (fun i hi => by have := hs3 _ (getD_mem hi); omega))
 have HX : Hid (∀ i, i < 32 → ofL (fun i => ((ss.getD i 0 : Nat) : Int)) ss.length i < 18446744073709551616) := hid (ofL_small (fun i hi => by have := hs3 _ (getD_mem hi); omega))
 have HMX := hid (mem_sec hs3)
 obtain ⟨X, hX⟩ : ∃ X, ofL (fun i => ((ss.getD i 0 : Nat) : Int)) ss.length = X := ⟨_, rfl⟩
 rw [hX] at C25 HX HMX
 have HC := hid hcW
 have HBW := hid hbW
 have HND := hid (And.intro hnd (And.intro hs2 (And.intro hf2 (And.intro hF hs3))))
 have HJ := hid (And.intro hJ (And.intro hJx h0))
 have HY := hid hY
 have y1 := hcW.cs
 have hmf : ∀ (fn : Fn) (first cap : Array Value) (w : World), (Instr.makeFunc fn first cap).run Tryz.prog w = .ok (.func fn first cap) w := fun _ _ _ _ => rfl
 clear h hbw hnd hs2 hf2 hF hW hJ hJx hY h0 hbW hcW hs3 hX
 go_enter Tryz.func81, Tryz.ntmps81
 go_wp2_with fail
 refine C25.out.mono ?_
 rintro e w1 ⟨rfl, hb1⟩
 have hbz := bx_new w1 (fun _ => 0) (fun _ _ => by decide)
 have hbz2 := box_below w1 (.cells (cellsS (fun _ => 0)) 69)
 have HZ := hid (And.intro hbz hbz2)
 have HB1 := hid hb1
 clear hbz hbz2 hb1 C25 y1
 go_wp2_with (refine wl_store rfl _ _ rfl w1.heap.size X rfl rfl (fun _ => 0) HZ.out.1 HX.out ?_; intro w2 hb2 hs2 hx2; have hB2 : Below w1.heap.size w1 w2 := HZ.out.2.trans (hb2.below jq0 HZ.out.2.size); have hbp := box_below w2 (.cells Tryz.zeroCells131 131); have hpl := pl_new w2; have hsz := (World.size_alloc w2 (.cells Tryz.zeroCells131 131)); have H3 := hid (And.intro (HB1.out.trans ((hB2.mono HB1.out.size).trans (hbp.mono (Nat.le_trans HB1.out.size hB2.size)))) (And.intro (hx2.below hbp (bx_lt hx2)) (And.intro hpl (And.intro hsz (And.intro HB1.out.size (bx_lt hx2)))))); clear hb2 hs2 hx2 hB2 hbp hpl hsz; obtain ⟨Bp, hBp⟩ : ∃ Bp, w2.heap.size = Bp := ⟨_, rfl⟩; rw [hBp] at H3; obtain ⟨W3, hW3⟩ : ∃ W3, w2.alloc (.cells Tryz.zeroCells131 131) = W3 := ⟨_, rfl⟩; rw [hW3] at H3; have y3 := (HC.out.of (w' := W3) (fun b hb => H3.out.1.block b (HBW.out b hb))).cs)
 obtain ⟨Ba, hBa⟩ : ∃ Ba, w1.heap.size = Ba := ⟨_, rfl⟩
 rw [hBa] at H3 ⊢
 clear HZ HB1 hBa y3 hBp hW3
 go_loopw [19] (fun i wr => ∃ k : Nat, k ≤ ss.length ∧ i = .int .i64 k ∧ Hid (Below W.heap.size W wr ∧ Bx wr Ba X ∧ wr.heap.size = W3.heap.size ∧ ∃ f, a_Pl wr Bp f ∧ ∀ x, x ∈ ss → f x = plK ss k x)) (fun i _ => ss.length - (intOf i).toNat)
 case atStart => exact ⟨0, Nat.zero_le _, rfl, hid ⟨H3.out.1, H3.out.2.1, rfl, _, H3.out.2.2.1, fun x _ => by unfold plK; rw [if_neg (Nat.not_lt_zero _)]⟩⟩
 case round =>
  obtain ⟨k, hk, rfl, H⟩ := hrel
  by_cases hlt : k < ss.length
  ·obtain rfl := HC.out.sa (by omega)
   have z1 := (HC.out.of (w' := wr) (fun b hb => H.out.1.block b (HBW.out b hb))).sr k hlt
   obtain ⟨f, hpl, hf⟩ := H.out.2.2.2
   obtain ⟨y, hy⟩ : ∃ y, ss.getD k 0 = y := ⟨_, rfl⟩
   have hyl : y < 2048 := by rw [← hy]; exact HND.out.2.2.2.2 _ (getD_mem hlt)
   rw [hy] at z1
   obtain ⟨z2, z3⟩ := hpl y hyl
   have HYE := hid hy
   have HP := hid (And.intro hpl hf)
   have hBpW : W.heap.size ≤ Bp := by have h1 := H3.out.2.2.2.2.1; have h2 := H3.out.2.2.2.2.2; omega
   clear hpl hf hy
   go_wp2
   go_roundw
   case rel =>
    have hpl2 := HP.out.1.set (v := k) hyl
    refine ⟨k + 1, by omega, by go_num, hid ⟨H.out.1.setCell hBpW _, ?_, by simpa [World.setCell] using H.out.2.2.1, _, hpl2, fun x hx => ?_⟩⟩
    ·exact H.out.2.1.but ((But.refl Bp wr).setCell _ _) (by have h2 := H3.out.2.2.2.2.2; omega)
    ·rw [plK_upd HND.out.1 hlt x hx, HYE.out]
     unfold upd
     by_cases e : x = y
     ·rw [if_pos e, if_pos e]
     ·rw [if_neg e, if_neg e]; exact HP.out.2 x hx
   case measure => simp [intOf]; omega
  ·have hc0 : Crw J bs ss Ba Bp X W (cPI ok fs ss 0) (fun _ => False) wr := by
    obtain ⟨f, hpl, hf⟩ := H.out.2.2.2
    have hke : k = ss.length := by omega
    refine ⟨HJ.out.1 _ _ _ _ HJ.out.2.2 (Fr.of_below H.out.1), fun b hb => hb.elim, H.out.1.size, fun b hb => H.out.1.block b (HBW.out b hb), H.out.2.1, fun i hi => ?_, ⟨?_, fun h => h⟩, ⟨?_, ?_, fun h => h⟩⟩
    ·rw [(hpl _ (HND.out.2.2.2.2 _ (getD_mem hi))).1, hf _ (getD_mem hi)]
     unfold plK
     rw [at_ix HND.out.1 (getD_some hi), if_pos (by omega)]
    ·have h1 := H3.out.2.2.2.2.1; omega
    ·have h1 := H3.out.2.2.2.2.1; have h2 := H3.out.2.2.2.2.2; omega
    ·have h1 := H3.out.2.2.2.1; have h2 := H.out.2.2.1; omega
   have HC0 := hid hc0
   have y2 := (HC.out.of (w' := wr) (fun b hb => H.out.1.block b (HBW.out b hb))).cf
   clear hc0
   go_wp2
   clear y2
   go_loopw [30] (fun i wr => ∃ k : Nat, k ≤ fs.length ∧ i = .int .i64 k ∧ Hid (∃ D, Crw J bs ss Ba Bp X W (cPI ok fs ss k) D wr)) (fun i _ => fs.length - (intOf i).toNat)
   case atStart => exact ⟨0, Nat.zero_le _, rfl, hid ⟨_, HC0.out⟩⟩
   case round =>
    clear HC0 H
    obtain ⟨k, hk, rfl, H⟩ := hrel
    by_cases hlt : k < fs.length
    ·obtain ⟨D, hcr⟩ := H.out
     obtain ⟨x, hx⟩ : ∃ x, fs.getD k 0 = x := ⟨_, rfl⟩
     have hxs : fs[k]? = some x := by rw [← hx]; exact getD_some hlt
     have hxG : x < G := by rw [← hx]; exact HND.out.2.2.1 _ (getD_mem hlt)
     have hcap := HC.out.of (w' := wr) hcr.old
     obtain rfl := hcap.fa (by omega)
     have z1 := hcap.fr k hlt
     rw [hx] at z1
     have z2 := hcap.cw
     have hst := hcap.wl x hxG
     have C27 := hid (meet_any Ba 0 wb (x * 32) X (F x) wr hcr.amo.st hst)
     have HSM : Hid (∀ i, i < 32 → sand X (F x) i < 18446744073709551616) := hid (fun i hi => Nat.lt_of_le_of_lt Nat.and_le_left (HX.out i hi))
     have HCR := hid hcr
     have HXS := hid (And.intro hxs hxG)
     have HTB := hid hcap.tb
     clear hcr hcap hx hst hxs
     go_wp2_with fail
     refine C27.out.mono ?_
     rintro e w5 ⟨rfl, hb5⟩
     have HZ5 := hid (And.intro (bx_new w5 (fun _ => 0) (fun _ _ => by decide)) (box_below w5 (.cells (cellsS (fun _ => 0)) 69)))
     have HB5 := hid hb5
     clear hb5 C27 z1 z2
     go_wp2_with (refine wl_store rfl _ _ rfl w5.heap.size (sand X (F x)) rfl rfl (fun _ => 0) HZ5.out.1 HSM.out ?_; intro w6 hb6 hs6 hx6; have hB6 : Below wr.heap.size wr w6 := HB5.out.trans ((HZ5.out.2.trans (hb6.below jq0 HZ5.out.2.size)).mono HB5.out.size); have C65 := hid (list_any w5.heap.size 0 (sand X (F x)) w6 hx6.st (fun j hj => below_cell hB6 jq0 (HTB.out j hj))); have HB6 := hid hB6; clear hb6 hs6 hx6 hB6)
     refine C65.out.mono ?_
     rintro e w7 ⟨v, rfl, hown, hb7⟩
     obtain ⟨T, hT⟩ : ∃ T, (List.range 2048).filter (fun s => mem (sand X (F x)) s) = T := ⟨_, rfl⟩
     have hlst : lstN (sand X (F x)) 2048 = cs T := by rw [← hT]; rfl
     rw [hlst] at hown
     obtain ⟨a, cap, hv⟩ := owns_sl hown
     have hTn : T.Nodup := by rw [← hT]; exact List.Pairwise.filter _ List.nodup_range
     have hTok : ∀ s, s ∈ T ↔ s ∈ ss ∧ ok x s = true := fun s => by
      rw [← hT, List.mem_filter, List.mem_range, mem_and, HMX.out, HND.out.2.2.2.1 x s HXS.out.2]
      constructor
      ·rintro ⟨_, h2⟩
       simp at h2
       exact ⟨h2.1, h2.2.2⟩
      ·rintro ⟨h1, h2⟩
       have h3 := HND.out.2.1 s h1
       refine ⟨by omega, ?_⟩
       simp [h1, h2, h3]
     have hB7 : Below wr.heap.size wr w7 := HB6.out.trans (hb7.mono HB6.out.size)
     have hcr7 := HCR.out.own HJ.out.1 HBW.out hB7
     have hab : ∀ p, a = some p → p = ⟨p.block, 0, none⟩ ∧ wr.heap.size ≤ p.block ∧ p.block < w7.heap.size := fun p hp => by
      rcases hown.2 with ⟨e, _⟩ | ⟨g, cap', cur, e, hg1, hg2, _⟩
      ·rw [hv] at e; injection e with e1 _ _; rw [e1] at hp; cases hp
      ·rw [hv] at e; injection e with e1 _ _; rw [e1] at hp; cases hp
       exact ⟨rfl, Nat.le_trans HB6.out.size hg1, (jq4.1 hg2).1⟩
     have C78 := hid (sort78 ss T (ok x) Bp a cap w6.heap.size w7 HND.out.1 HND.out.2.2.2.2 hls hTn hTok (by rw [← hv]; exact hown) hcr7.pla (fun p hp => by have h1 := (hab p hp).2.1; have h2 := HCR.out.np.2.1; omega))
     have hcn : (cs T).length = T.length := cs_len T
     have hne : 0 < T.length → ∃ p, a = some p := fun h0 => by
      rcases hown.2 with ⟨e, h1⟩ | ⟨g, cap', cur, e, _⟩
      ·rw [hcn] at h1; omega
      ·rw [hv] at e; injection e with e1 _ _; exact ⟨_, e1⟩
     have htl : T.length ≤ 2048 := by
      rw [← hT]
      have := List.length_filter_le (fun s => mem (sand X (F x)) s) (List.range 2048)
      simpa using this
     obtain ⟨tn, htn⟩ : ∃ tn, T.length = tn := ⟨_, rfl⟩
     rw [htn] at htl
     rw [hcn, htn] at hv
     rw [hcn] at C78
     rw [htn] at C78 hne
     have HAB := hid (And.intro hab hne)
     have HB7 := hid hB7
     subst hv
     clear hown hb7 hTn hTok hcr7 hab hne hcn htn C65 hT hlst hB7
     go_wp2_with fail
     refine C78.out.mono ?_
     rintro e w8 ⟨⟨v8, rfl⟩, H8⟩
     have hB8 : Below wr.heap.size wr w8 := HB7.out.grown H8.out.2.1 HB7.out.size (fun b hb => by
      cases a with
      | none => cases hb
      | some p => cases hb; exact (HAB.out.1 p rfl).2.1)
     have hcr8 := HCR.out.own HJ.out.1 HBW.out hB8
     obtain ⟨L, hL⟩ : ∃ L, ss.filter (ok x) = L := ⟨_, rfl⟩
     rw [hL] at H8
     have hLn : L.length = tn := H8.out.1
     have HLN := hid (And.intro hL hLn)
     have hcl : Crl J bs ss Ba Bp X W (cPJ ok fs ss k x 0) D a L w8 := by
      rw [cPJ_zero]
      refine ⟨hcr8, fun p hp => ?_⟩
      obtain ⟨h1, h2, h3⟩ := HAB.out.1 p hp
      refine ⟨h1, Nat.le_trans HCR.out.sz h2, Nat.lt_of_lt_of_le h3 H8.out.2.1.size, fun hd => by have := (HCR.out.d _ hd).2; omega, fun i hi => H8.out.2.2 p hp i (by omega)⟩
     have HCL := hid hcl
     clear hB8 hcr8 hcl hL hLn H8 C78
     go_wp2
     go_loopw [44] (fun i wr => ∃ j : Nat, j ≤ tn ∧ i = .int .i64 j ∧ Hid (∃ D, Crl J bs ss Ba Bp X W (cPJ ok fs ss k x j) D a L wr)) (fun i _ => tn - (intOf i).toNat)
     case atStart => exact ⟨0, Nat.zero_le _, rfl, hid ⟨_, HCL.out⟩⟩
     case round =>
      clear HCL H HCR
      obtain ⟨j, hj, rfl, H⟩ := hrel
      by_cases hjt : j < tn
      ·obtain ⟨D, hcl⟩ := H.out
       obtain ⟨p, hp⟩ := HAB.out.2 (by omega)
       obtain ⟨h1, _, _, _, h5⟩ := hcl.l p hp
       have hjL : j < L.length := by rw [HLN.out.2]; exact hjt
       have z1 := h5 j hjL
       obtain ⟨y, hy⟩ : ∃ y, L.getD j 0 = y := ⟨_, rfl⟩
       rw [hy] at z1
       have hyL : L[j]? = some y := by rw [← hy]; exact getD_some hjL
       have hyS : y ∈ ss := by
        have := List.mem_of_getElem? hyL
        rw [← HLN.out.1] at this
        exact (List.mem_filter.1 this).1
       have hyl : y < 2048 := HND.out.2.2.2.2 y hyS
       have hsn : cPJ ok fs ss k x j ++ [mkPr (x, y)] = cPJ ok fs ss k x (j + 1) := cPJ_snoc (by rw [HLN.out.1]; exact hyL)
       have hpre := cPJ_pre (ok := ok) (ss := ss) HXS.out.1 (j + 1)
       have hlen : (cPJ ok fs ss k x j).length < (crP ok fs ss).length := by
        have := hpre.length_le
        rw [← hsn, List.length_append, List.length_singleton] at this
        omega
       obtain ⟨fn, tmps, assign, body, hyy, hR⟩ := HY.out (cPJ ok fs ss k x j) (mkPr (x, y)) D wr hcl.c.j hcl.c.d hcl.c.sz hlen
       have hp1 : (mkPr (x, y)).1.1 = x := Nat.mod_eq_of_lt (by omega)
       have hp2 : (mkPr (x, y)).2.1 = y := Nat.mod_eq_of_lt (by omega)
       simp only [encP, hp1, hp2] at hyy
       have HR := hid hR
       have HCL := hid (And.intro hcl (And.intro hsn hpre))
       rw [h1] at hp
       subst hp
       clear hR hcl hsn hpre hlen h5 hy hyL hyS hp1 hp2 h1
       refine (wpIn_wide (n := n)).1 ?_
       gi_wp2
       refine ⟨fun h => by simp [Fence.wide] at h, ?_⟩
       refine HR.out.mono ?_
       rintro e W4 ⟨hf4, (⟨rfl, hJ4⟩ | ⟨rfl, hJ4⟩)⟩
       ·have HN := hid (HCL.out.1.yield HBW.out hf4 hJ4)
        clear hf4 hJ4
        gi_wp2
        go_roundw
        case rel => exact ⟨j + 1, by omega, by go_num, hid ⟨_, by rw [← HCL.out.2.1]; exact HN.out⟩⟩
        case measure => simp [intOf]; omega
       ·have HF : Hid (∃ D, (∀ b, D b → W.heap.size ≤ b) ∧ (J (crP ok fs ss) D W4 ∨ ∃ pre, pre <+: crP ok fs ss ∧ Jx pre D W4)) := hid ⟨_, fun b hb => hb.elim (fun h => (HCL.out.1.c.d b h).1) (fun h => by have := HCL.out.1.c.sz; omega), Or.inr ⟨_, by rw [HCL.out.2.1]; exact HCL.out.2.2, hJ4⟩⟩
        clear hf4 hJ4
        gi_wp2
        refine bodyPost_ret (results_none rfl _ _ _) rfl ?_
        exact ⟨⟨_, rfl⟩, HF.out⟩
      ·have hje : j = tn := by omega
       have HN : Hid (∃ D, Crw J bs ss Ba Bp X W (cPI ok fs ss (k + 1)) D wr) := hid (by
        obtain ⟨D, hcl⟩ := H.out
        refine ⟨D, ?_⟩
        rw [← cPJ_full (j := j) HXS.out.1 (by rw [hje, ← HLN.out.2, HLN.out.1])]
        exact hcl.c)
       clear hje
       go_wp2
       go_roundw
       case rel => exact ⟨k + 1, by omega, by go_num, HN⟩
       case measure => simp [intOf]; omega
    ·have hke : k = fs.length := by omega
     have HF : Hid (∃ D, (∀ b, D b → W.heap.size ≤ b) ∧ (J (crP ok fs ss) D wr ∨ ∃ pre, pre <+: crP ok fs ss ∧ Jx pre D wr)) := hid (by
      obtain ⟨D, hcr⟩ := H.out
      refine ⟨D, fun b hb => (hcr.d b hb).1, Or.inl ?_⟩
      have := hcr.j
      rw [hke, cPI_all] at this
      exact this)
     clear hke
     go_wp2
     go_end0
     exact ⟨⟨_, rfl⟩, HF.out⟩
end Go.Proofs.YtmdpbaobihdgkaaGreatDoor
