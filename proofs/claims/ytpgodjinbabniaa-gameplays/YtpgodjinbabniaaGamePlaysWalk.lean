/- The law GamePlays, walked. -/
import Derived.Test.YtpgodjinbabniaaRefStep
import Derived.Test.YtpgodjinbabniaaGamePlay
import Derived.Deep.RegionHeld3
namespace Go.Proofs.Ytpgodjinbabniaa
open Go.RowKit

theorem pth_eq {K A B : Nat → Int} {F : Nat} {l : List St3} {n k : Nat} {Ms Ns : Nat → Nat → Int} {S T : Nat → Nat} (h : Pth K A B F l n Ms S) (h' : Pth K A B F l k Ns T) (hk : k ≤ n) (hS : ∀ i, i < k → S i = T i) : ∀ i, i ≤ k → Ms i = Ns i
  | 0, _ => h.zero.trans h'.zero.symm
  | i + 1, hi => by
    have ih := pth_eq h h' hk hS i (by omega)
    rw [(h.step i (by omega)).2.2, (h'.step i (by omega)).2.2, hS i (by omega), ih]

theorem ferr_not {K A B : Nat → Int} {F : Nat} {l : List St3} {m : Nat → Int} {step y : Int} (h : FErr K A B F l m step y) (h1 : 0 ≤ step) (h2 : step.toNat < l.length) (h3 : enb K A B F m (l.getD step.toNat (0, 0, 0))) (h4 : ∀ j, j < F → frs K A B (l.getD step.toNat (0, 0, 0)) m j ≤ 9) : False := by
  rcases h with ⟨a, _⟩ | ⟨_, a, _⟩ | ⟨_, _, ⟨j, hj, a⟩, _⟩
  · exact a ⟨h1, by omega⟩
  · exact a h3
  · have := h4 j hj
    omega

theorem ferr_one {K A B : Nat → Int} {F : Nat} {l : List St3} {m : Nat → Int} {step y y' : Int} (h : FErr K A B F l m step y) (h' : FErr K A B F l m step y') : y = y' := by
  rcases h with ⟨a, rfl⟩ | ⟨a, b, rfl⟩ | ⟨a, b, c, rfl⟩ <;> rcases h' with ⟨a', rfl⟩ | ⟨a', b', rfl⟩ | ⟨a', b', c', rfl⟩ <;> first | rfl | exact absurd a' a | exact absurd a a' | exact absurd b' b | exact absurd b b'

/-- What Play found. -/
def PyD (K A B : Nat → Int) (F : Nat) (l : List St3) (n : Nat) (d : Nat → Int) (k : Nat) (Ms : Nat → Nat → Int) (y : Int) : Prop :=
  k ≤ n ∧ (∀ i, i < k → 0 ≤ d i) ∧ Pth K A B F l k Ms (fun i => (d i).toNat) ∧ ((k = n ∧ y = 0) ∨ (k < n ∧ FErr K A B F l (Ms k) (d k) y))

theorem py_not {K A B : Nat → Int} {F : Nat} {l : List St3} {n : Nat} {d : Nat → Int} {k kk : Nat} {Ms Ns : Nat → Nat → Int} {y : Int} (hpos : ∀ i, i < k → 0 ≤ d i) (hp : Pth K A B F l k Ms (fun i => (d i).toNat)) (hk : k ≤ n) (h : PyD K A B F l n d kk Ns y) : ¬ kk < k := fun hlt => by
  obtain ⟨_, _, h3, h4⟩ := h
  have hs := pth_eq hp h3 (by omega) (fun _ _ => rfl)
  rcases h4 with ⟨h5, _⟩ | ⟨_, h5⟩
  · omega
  · rw [← hs kk (Nat.le_refl _)] at h5
    obtain ⟨s1, s2, s3⟩ := hp.step kk hlt
    exact ferr_not h5 (hpos kk hlt) s1 s2 (fun j hj => by rw [← s3]; exact (hp.ok (kk + 1) (by omega) j hj).2)

theorem py_stop {K A B : Nat → Int} {F : Nat} {l : List St3} {n : Nat} {d : Nat → Int} {k kk : Nat} {Ms Ns : Nat → Nat → Int} {y y0 : Int} (hpos : ∀ i, i < k → 0 ≤ d i) (hp : Pth K A B F l k Ms (fun i => (d i).toNat)) (hk : k < n) (hf : FErr K A B F l (Ms k) (d k) y0) (h : PyD K A B F l n d kk Ns y) :
    kk = k ∧ y = y0 ∧ ∀ i, i ≤ k → Ns i = Ms i := by
  have hno := py_not hpos hp (by omega) h
  obtain ⟨h1, h2, h3, h4⟩ := h
  have hno2 : ¬ k < kk := py_not h2 h3 h1 ⟨by omega, hpos, hp, Or.inr ⟨hk, hf⟩⟩
  obtain rfl : kk = k := by omega
  have hs := pth_eq h3 hp (Nat.le_refl _) (fun _ _ => rfl)
  refine ⟨rfl, ?_, hs⟩
  rcases h4 with ⟨h5, _⟩ | ⟨_, h5⟩
  · omega
  · rw [hs kk (Nat.le_refl _)] at h5
    exact ferr_one h5 hf

theorem py_end {K A B : Nat → Int} {F : Nat} {l : List St3} {n : Nat} {d : Nat → Int} {kk : Nat} {Ms Ns : Nat → Nat → Int} {y : Int} (hpos : ∀ i, i < n → 0 ≤ d i) (hp : Pth K A B F l n Ms (fun i => (d i).toNat)) (h : PyD K A B F l n d kk Ns y) :
    kk = n ∧ y = 0 ∧ ∀ i, i ≤ n → Ns i = Ms i := by
  have hno := py_not hpos hp (Nat.le_refl _) h
  obtain ⟨h1, _, h3, h4⟩ := h
  obtain rfl : kk = n := by omega
  refine ⟨rfl, ?_, pth_eq h3 hp (Nat.le_refl _) (fun _ _ => rfl)⟩
  rcases h4 with ⟨_, h5⟩ | ⟨h5, _⟩
  · exact h5
  · omega

theorem lists_true {a a' : Option Addr} {n c c' F : Nat} {Y Z : Nat → Nat → Int} {w : World} (hn : n ≤ 140737488355328) (hF : F ≤ 140737488355328) (h : Gr w a n (fun _ => F) Y) (h' : Gr w a' n (fun _ => F) Z) (e : ∀ i, i < n → Y i = Z i) :
    Calls Try.prog 20 #[.slice a n c, .slice a' n c'] w fun e w' => e = .returned (.bool true) ∧ Below w.heap.size w w' := by
  refine (lists_any a a' n c n c' (fun _ => F) (fun _ => F) Y Z w hn (fun _ _ => hF) h h').mono fun x w' ⟨h1, q, h2⟩ => ⟨?_, ?_⟩
  · rw [h1, sameG_yes rfl (fun r hr => by rw [e r hr]; exact same_yes rfl (fun _ _ => rfl))]
  · rw [h2]; exact below_drewn (Below.refl _ _) q

set_option maxRecDepth 20000 in
set_option maxHeartbeats 8000000 in
theorem gamePlays_walk {na fa : Option Addr} {N nc F fc : Nat} {M : Nat → ByteArray} {K A B : Nat → Int} {w : World} (hp : Prc w na N nc fa F M K A B) (hM : ∀ i, i < N → (M i).size ≤ maxLen) {da : Option Addr} {n dc : Nat} {d : Nat → Int} (hn : n ≤ 140737488355328) (hd : Row w da n d) :
    Calls Try.prog 4 #[.agg #[.slice na N nc, .slice fa F fc], .slice da n dc] w fun e w' => e = .returned (.bool true) ∧ Below w.heap.size w w' := by
  obtain ⟨e0, he⟩ := chk_ex N F M K A B
  have HD : Hid (Row w da n d) := hd
  have HE : Hid (ChkIs N F M K A B e0) := he
  obtain ⟨i1, hi, hz0, hz1, hz2⟩ := info_parts Try.info26
  have HI1 : Hid (Try.prog.info? 26 = some i1 ∧ i1.zero = some (.slice none 0 0) ∧ i1.size = 1 ∧ i1.bytes = 24) := ⟨hi, hz0, hz1, hz2⟩
  clear hi hz0 hz1 hz2
  obtain ⟨W, eW⟩ : ∃ x, x = w.alloc (.cells #[.slice na N nc, .slice fa F fc] 25) := ⟨_, rfl⟩
  have HW : Hid (Below w.heap.size w W ∧ W.heap.size = w.heap.size + 1) := by subst eW; exact ⟨box_below _ _, by simp⟩
  have HBx : Hid (∀ w1, Below W.heap.size W w1 → w1.cell? ⟨w.heap.size, 0, none⟩ = some (.slice na N nc) ∧ w1.cell? ⟨w.heap.size, 1, none⟩ = some (.slice fa F fc)) := fun w1 h => by
    subst eW
    exact ⟨new_alloc h rfl, new_alloc h rfl⟩
  have HEW : Hid (w.alloc (.cells #[.slice na N nc, .slice fa F fc] 25) = W) := eW.symm
  have HPW : Hid (Prc W na N nc fa F M K A B) := hp.below HW.out.1
  have C1 : Hid (Calls Try.prog 19 #[.agg #[.slice na N nc, .slice fa F fc], .slice da n dc] W fun e w' => Below W.heap.size W w' ∧ PyIs (spE e0 (stAll K A B F N).length) K A B F (stAll K A B F N) n d e w') := play_any HPW.out HE.out hn (HD.out.below HW.out.1)
  have C2 : Hid (∀ u, Below W.heap.size W u → Calls Try.prog 9 #[.agg #[.slice na N nc, .slice fa F fc]] u fun e w' => Below u.heap.size u w' ∧ SpIs e0 (stAll K A B F N) e w') := fun u hu => steps_any na fa N nc F fc M K A B e0 u (HPW.out.below hu) hM HE.out
  clear eW hp hM he hd
  go_enter Try.func4, Try.ntmps4
  go_wp2_with fail
  rw [HEW.out]
  refine C1.out.mono ?_
  rintro e w1 ⟨hb1, hs1⟩
  have HB1 : Hid (Below W.heap.size W w1) := hb1
  obtain ⟨hc0, hc1⟩ := HBx.out w1 hb1
  clear C1 hb1
  rcases hs1 with ⟨hE, rfl⟩ | ⟨hE, h500, rfl⟩ | ⟨hE, h500, kk, Ns, ga, gc, y, h1, h2, h3, h4, rfl, h5⟩
  · go_wp2_with fail
    refine (C2.out w1 HB1.out).mono ?_
    rintro e w2 ⟨hb2, hs2⟩
    rcases spAns hs2 with ⟨_, rfl⟩ | ⟨h, _⟩
    rotate_left
    · exact absurd h hE
    have HBw2 : Hid (Below w.heap.size w w2) := HW.out.1.trans ((HB1.out.trans (hb2.mono HB1.out.size)).mono HW.out.1.size)
    clear C2 hb2 hs2
    generalize hEE : spE e0 (stAll K A B F N).length = E at *
    have hE' : (E != 0) = true := by rw [bne_iff_ne]; exact hE
    have hE2 : (E == 0) = false := by rw [beq_eq_false_iff_ne]; exact hE
    have hEq : (E == E) = true := by simp
    clear hEE
    go_wp2
    go_ret
    exact ⟨rfl, HBw2.out⟩
  · go_wp2_with fail
    refine (C2.out w1 HB1.out).mono ?_
    rintro e w2 ⟨hb2, hs2⟩
    rcases spAns hs2 with ⟨h, _⟩ | ⟨_, sa, sc, rfl, _⟩
    · exact absurd hE h
    have HBw2 : Hid (Below w.heap.size w w2) := HW.out.1.trans ((HB1.out.trans (hb2.mono HB1.out.size)).mono HW.out.1.size)
    have h5i : (n : Int) > 500 := by omega
    clear C2 hb2 hs2 hE
    go_wp2
    go_ret
    exact ⟨rfl, HBw2.out⟩
  · have HPy : Hid (PyD K A B F (stAll K A B F N) n d kk Ns y) := ⟨h1, h2, h3, h5⟩
    have HGa1 : Hid (Gr w1 ga (kk + 1) (fun _ => F) Ns) := h4
    have hkn : kk ≤ n := h1
    clear h1 h2 h3 h4 h5
    go_wp2_with fail
    refine (C2.out w1 HB1.out).mono ?_
    rintro e w2 ⟨hb2, hs2⟩
    rcases spAns hs2 with ⟨h, _⟩ | ⟨_, sa, sc, rfl, hst⟩
    · exact absurd hE h
    have HSt : Hid (Sts w2 sa (stAll K A B F N).length (fun i => (stAll K A B F N).getD i (0, 0, 0))) := hst
    have HB2 : Hid (Below W.heap.size W w2) := HB1.out.trans (hb2.mono HB1.out.size)
    have HBw2 : Hid (Below w.heap.size w w2) := HW.out.1.trans (HB2.out.mono HW.out.1.size)
    have HGa : Hid (Gr w2 ga (kk + 1) (fun _ => F) Ns) := HGa1.out.below hb2
    have HE0 : Hid (e0 = 0 ∧ (stAll K A B F N).length ≤ 60) := spE_zero hE
    have HEz : Hid (ChkIs N F M K A B 0) := by have := HE.out; rw [HE0.out.1] at this; exact this
    have hF30 : F ≤ 30 := (chk_zero HEz.out).1.2
    have hF0 : 0 < F := chk_some HEz.out
    have hl60 : (stAll K A B F N).length ≤ 60 := HE0.out.2
    have h5i : ¬ ((n : Int) > 500) := by omega
    clear C2 hb2 hs2 hE hst HGa1 hc0 hc1
    obtain ⟨hc0, hc1⟩ := HBx.out w2 HB2.out
    have C3 : Hid (Calls Try.prog 14 #[.agg #[.slice na N nc, .slice fa F fc]] w2 fun e w' => Below w2.heap.size w2 w' ∧ ∃ g, e = .returned (.slice (some ⟨g, 0, none⟩) F F) ∧ Mk w' g F (bgn K A)) := beginRef_any (HPW.out.below HB2.out) HEz.out
    go_wp2_with fail
    refine C3.out.mono ?_
    rintro e w3 ⟨hb3, g0, rfl, hm3⟩
    have HS0 : Hid (Pld w2 (w3.alloc (.cells #[.slice (some ⟨g0, 0, none⟩) F F] 26)) K A B F (stAll K A B F N) d 0 (.slice (some ⟨w3.heap.size, 0, none⟩) 1 1) (fun _ => bgn K A) (fun _ => g0)) :=
      ⟨hb3.alloc hb3.size _, mrs_start hb3.size hm3, (fun i hi => by omega), pth_zero K A B F _ _⟩
    clear hb3 hm3 C3 hc0 hc1
    go_wp2
    go_loopw [10, 54] (fun v i wr => ∃ (k : Nat) (wa : Option Addr) (wc : Nat) (Ms : Nat → Nat → Int) (G : Nat → Nat), k ≤ n ∧ i = .int .i64 k ∧ v = .slice wa (k + 1) wc ∧ Hid (Pld w2 wr K A B F (stAll K A B F N) d k (.slice wa (k + 1) wc) Ms G)) (fun _ i _ => n - (intOf i).toNat)
    case atStart => exact ⟨0, _, _, _, _, Nat.zero_le _, rfl, rfl, HS0.out⟩
    case round =>
      obtain ⟨k, wa, wc, Ms, G, hk, rfl, rfl, HT⟩ := hrel
      clear HS0
      have HB1r : Hid (Below w2.heap.size w2 wr) := HT.out.below
      have HBr : Hid (Below W.heap.size W wr) := HB2.out.trans (HT.out.below.mono HB2.out.size)
      have HBwr : Hid (Below w.heap.size w wr) := HBw2.out.trans (HT.out.below.mono HBw2.out.size)
      obtain ⟨gb, go, hga, hgc⟩ := HT.out.mrs.gr
      obtain rfl := hga (by omega)
      by_cases hlt : k < n
      · obtain ⟨b, o', ha, hc⟩ := HD.out
        obtain rfl := ha (by omega)
        have hdk := row_at hc HBwr.out hlt
        obtain ⟨hc0, hc1⟩ := HBx.out wr HBr.out
        obtain ⟨ma, mc, hgk, hrk⟩ := hgc k (by omega)
        have HRk : Hid (Row wr ma F (Ms k)) := hrk
        have hk1 : (k : Int) < (k : Int) + 1 := by omega
        clear hc ha hgc hga hrk
        by_cases hs : 0 ≤ d k ∧ d k < (stAll K A B F N).length
        · obtain ⟨s, hds⟩ : ∃ s : Nat, d k = s := ⟨(d k).toNat, by omega⟩
          have hsl : s < (stAll K A B F N).length := by omega
          have hsn : (d k).toNat = s := by omega
          obtain ⟨sb, so, hsa, hsc⟩ := HSt.out
          obtain rfl := hsa (by omega)
          obtain ⟨d0, d1, d2⟩ := Sts.at hsc HB1r.out hsl
          obtain ⟨j, x, o, ht, hmay, hfire⟩ := ref_step HEz.out hsl
          rw [ht] at d0 d1 d2
          simp only at d0 d1 d2
          rw [hds] at hdk
          generalize hls : stAll K A B F N = ls at *
          have htd : ls.getD (d k).toNat (0, 0, 0) = ls.getD s (0, 0, 0) := by rw [hsn]
          generalize htt : ls.getD s (0, 0, 0) = t at *
          have hkl : (s : Int) < ls.length := by omega
          have hs0 : ¬ ((s : Int) < 0) := by omega
          have hge : ¬ ((s : Int) ≥ ls.length) := by omega
          by_cases hen : enb K A B F (Ms k) t
          · have C16 : Hid (∀ u, Below wr.heap.size wr u → Calls Try.prog 17 #[.agg #[.slice na N nc, .slice fa F fc], .slice ma F mc, .agg #[.int .i64 j, .int .i64 x, .int .i64 o]] u fun e w' => e = .returned (.bool true) ∧ Below u.heap.size u w') := fun u hu => hmay u na fa ma nc fc mc _ true ((HPW.out.below HBr.out).below hu) (HRk.out.below hu) (by simp [hen])
            have C17 : Hid (∀ u, Below wr.heap.size wr u → Calls Try.prog 18 #[.agg #[.slice na N nc, .slice fa F fc], .slice ma F mc, .agg #[.int .i64 j, .int .i64 x, .int .i64 o]] u fun e w' => Below u.heap.size u w' ∧ RfIs K A B F (Ms k) t e w') := fun u hu => hfire u na fa ma nc fc mc _ ((HPW.out.below HBr.out).below hu) (HRk.out.below hu) (HT.out.pth.ok k (Nat.le_refl _))
            have HEn : Hid (enb K A B F (Ms k) t) := hen
            by_cases h7 : ∃ q, q < F ∧ 9 < frs K A B t (Ms k) q
            · have hfe : FErr K A B F ls (Ms k) (d k) 7 := Or.inr (Or.inr ⟨hs, by rw [htd]; exact hen, by rw [htd]; exact h7, rfl⟩)
              have H7 : Hid (∃ q, q < F ∧ 9 < frs K A B t (Ms k) q) := h7
              obtain ⟨hkk, hyy, hsm⟩ := py_stop HT.out.pos HT.out.pth hlt hfe HPy.out
              subst hkk
              subst hyy
              have HSm : Hid (∀ i, i ≤ kk → Ns i = Ms i) := hsm
              have hEq1 : ((kk : Int) == (kk : Int)) = true := by simp
              clear hsm hfe HPy
              clear ht hls htt htd hmay hfire hsc hsa hs hsl hsn hen h7
              go_wp2
              go_region_held3 (fun u => u.cell? ⟨w.heap.size, 0, none⟩ = some (.slice na N nc) ∧ u.cell? ⟨w.heap.size, 1, none⟩ = some (.slice fa F fc) ∧ u.cell? ⟨sb, so + s * 3, none⟩ = some (.int .i64 j) ∧ u.cell? ⟨sb, so + s * 3 + 1, none⟩ = some (.int .i64 x) ∧ u.cell? ⟨sb, so + s * 3 + 2, none⟩ = some (.int .i64 o))
                (first | (exact ⟨by assumption, by assumption, by assumption, by assumption, by assumption⟩) | go_keep)
                (first | (go_at_call 17; refine (C16.out _ (below_drew_iff.2 (Below.refl _ _))).mono ?_; rintro e w10 ⟨rfl, hb⟩; have hb' : Below wr.heap.size wr w10 := (below_drew_iff.2 (Below.refl _ _)).trans hb; obtain ⟨x0, x1⟩ := HBx.out w10 (HBr.out.trans (hb'.mono HBr.out.size)); have x3 := (hb'.cell (p := ⟨sb, so + s * 3, none⟩) (World.block_lt_of_cell? _ _ d0)).trans d0; have x4 := (hb'.cell (p := ⟨sb, so + s * 3 + 1, none⟩) (World.block_lt_of_cell? _ _ d1)).trans d1; have x5 := (hb'.cell (p := ⟨sb, so + s * 3 + 2, none⟩) (World.block_lt_of_cell? _ _ d2)).trans d2; dsimp only))
              have HBr10 : Hid (Below wr.heap.size wr w10) := hb'
              have HB10 : Hid (Below W.heap.size W w10) := HBr.out.trans (hb'.mono HBr.out.size)
              clear hb hb' C16 hc0 hc1 d0 d1 d2
              have d0 := x3
              have d1 := x4
              have d2 := x5
              have hc0 := x0
              have hc1 := x1
              clear x0 x1 x3 x4 x5
              have C18 := hid (fun (u : World) (hu : Below w10.heap.size w10 u) => C17.out u (HBr10.out.trans (hu.mono HBr10.out.size)))
              clear C17
              go_wp2
              go_region_held3 (fun u => u.cell? ⟨w.heap.size, 0, none⟩ = some (.slice na N nc) ∧ u.cell? ⟨w.heap.size, 1, none⟩ = some (.slice fa F fc) ∧ u.cell? ⟨sb, so + s * 3, none⟩ = some (.int .i64 j) ∧ u.cell? ⟨sb, so + s * 3 + 1, none⟩ = some (.int .i64 x) ∧ u.cell? ⟨sb, so + s * 3 + 2, none⟩ = some (.int .i64 o))
                (first | (exact ⟨by assumption, by assumption, by assumption, by assumption, by assumption⟩) | go_keep)
                (first | (go_at_call 18; refine (C18.out _ (below_drew_iff.2 (Below.refl _ _))).mono ?_; rintro e w11 ⟨hb, hf⟩; obtain ⟨u1, u2, rfl⟩ := rf_tuple hf; have hb' : Below w10.heap.size w10 w11 := (below_drew_iff.2 (Below.refl _ _)).trans hb; obtain ⟨x0, x1⟩ := HBx.out w11 (HB10.out.trans (hb'.mono HB10.out.size)); have x3 := (hb'.cell (p := ⟨sb, so + s * 3, none⟩) (World.block_lt_of_cell? _ _ d0)).trans d0; have x4 := (hb'.cell (p := ⟨sb, so + s * 3 + 1, none⟩) (World.block_lt_of_cell? _ _ d1)).trans d1; have x5 := (hb'.cell (p := ⟨sb, so + s * 3 + 2, none⟩) (World.block_lt_of_cell? _ _ d2)).trans d2; dsimp only))
              have HBr11 : Hid (Below wr.heap.size wr w11) := HBr10.out.trans (hb'.mono HBr10.out.size)
              clear hb hb' C18 hc0 hc1 d0 d1 d2 x0 x1 x3 x4 x5
              rcases hf with ⟨_, he⟩ | ⟨h8, _⟩
              rotate_left
              · obtain ⟨q, hq, h7⟩ := H7.out
                have := h8 q hq
                omega
              cases he
              have C19 : Hid (Calls Try.prog 20 #[.slice ga (kk + 1) gc, .slice (some ⟨gb, go, none⟩) (kk + 1) wc] w11 fun e w' => e = .returned (.bool true) ∧ Below w11.heap.size w11 w') := lists_true (by omega) (by omega) (HGa.out.below (HB1r.out.trans (HBr11.out.mono HB1r.out.size))) (HT.out.mrs.gr.below HBr11.out) (fun i hi => HSm.out i (by omega))
              have HBwE : Hid (Below w.heap.size w w11) := HBwr.out.trans (HBr11.out.mono HBwr.out.size)
              clear HSm HGa
              go_wp2_with fail
              refine C19.out.mono ?_
              rintro e w19 ⟨rfl, hb19⟩
              have HBw19 : Hid (Below w.heap.size w w19) := HBwE.out.trans (hb19.mono HBwE.out.size)
              clear hb19 C19
              go_wp2
              go_ret
              exact ⟨rfl, HBw19.out⟩
            · have HS5 : Hid ((0 ≤ d k ∧ d k < ls.length) ∧ enb K A B F (Ms k) (ls.getD (d k).toNat (0, 0, 0)) ∧ (∀ j, j < F → frs K A B (ls.getD (d k).toNat (0, 0, 0)) (Ms k) j ≤ 9) ∧ ls.getD (d k).toNat (0, 0, 0) = t) := ⟨hs, by rw [htd]; exact hen, fun j hj => by rw [htd]; exact Int.not_lt.1 (fun hh => h7 ⟨j, hj, hh⟩), htd⟩
              have H7 : Hid (¬ ∃ q, q < F ∧ 9 < frs K A B t (Ms k) q) := h7
              clear ht hls htt htd hmay hfire hsc hsa hs hsl hsn hen h7
              go_wp2
              go_region_held3 (fun u => u.cell? ⟨w.heap.size, 0, none⟩ = some (.slice na N nc) ∧ u.cell? ⟨w.heap.size, 1, none⟩ = some (.slice fa F fc) ∧ u.cell? ⟨sb, so + s * 3, none⟩ = some (.int .i64 j) ∧ u.cell? ⟨sb, so + s * 3 + 1, none⟩ = some (.int .i64 x) ∧ u.cell? ⟨sb, so + s * 3 + 2, none⟩ = some (.int .i64 o))
                (first | (exact ⟨by assumption, by assumption, by assumption, by assumption, by assumption⟩) | go_keep)
                (first | (go_at_call 17; refine (C16.out _ (below_drew_iff.2 (Below.refl _ _))).mono ?_; rintro e w10 ⟨rfl, hb⟩; have hb' : Below wr.heap.size wr w10 := (below_drew_iff.2 (Below.refl _ _)).trans hb; obtain ⟨x0, x1⟩ := HBx.out w10 (HBr.out.trans (hb'.mono HBr.out.size)); have x3 := (hb'.cell (p := ⟨sb, so + s * 3, none⟩) (World.block_lt_of_cell? _ _ d0)).trans d0; have x4 := (hb'.cell (p := ⟨sb, so + s * 3 + 1, none⟩) (World.block_lt_of_cell? _ _ d1)).trans d1; have x5 := (hb'.cell (p := ⟨sb, so + s * 3 + 2, none⟩) (World.block_lt_of_cell? _ _ d2)).trans d2; dsimp only))
              have HBr10 : Hid (Below wr.heap.size wr w10) := hb'
              have HB10 : Hid (Below W.heap.size W w10) := HBr.out.trans (hb'.mono HBr.out.size)
              clear hb hb' C16 hc0 hc1 d0 d1 d2
              have d0 := x3
              have d1 := x4
              have d2 := x5
              have hc0 := x0
              have hc1 := x1
              clear x0 x1 x3 x4 x5
              have C18 := hid (fun (u : World) (hu : Below w10.heap.size w10 u) => C17.out u (HBr10.out.trans (hu.mono HBr10.out.size)))
              clear C17
              go_wp2
              go_region_held3 (fun u => u.cell? ⟨w.heap.size, 0, none⟩ = some (.slice na N nc) ∧ u.cell? ⟨w.heap.size, 1, none⟩ = some (.slice fa F fc) ∧ u.cell? ⟨sb, so + s * 3, none⟩ = some (.int .i64 j) ∧ u.cell? ⟨sb, so + s * 3 + 1, none⟩ = some (.int .i64 x) ∧ u.cell? ⟨sb, so + s * 3 + 2, none⟩ = some (.int .i64 o))
                (first | (exact ⟨by assumption, by assumption, by assumption, by assumption, by assumption⟩) | go_keep)
                (first | (go_at_call 18; refine (C18.out _ (below_drew_iff.2 (Below.refl _ _))).mono ?_; rintro e w11 ⟨hb, hf⟩; obtain ⟨u1, u2, rfl⟩ := rf_tuple hf; have hb' : Below w10.heap.size w10 w11 := (below_drew_iff.2 (Below.refl _ _)).trans hb; obtain ⟨x0, x1⟩ := HBx.out w11 (HB10.out.trans (hb'.mono HB10.out.size)); have x3 := (hb'.cell (p := ⟨sb, so + s * 3, none⟩) (World.block_lt_of_cell? _ _ d0)).trans d0; have x4 := (hb'.cell (p := ⟨sb, so + s * 3 + 1, none⟩) (World.block_lt_of_cell? _ _ d1)).trans d1; have x5 := (hb'.cell (p := ⟨sb, so + s * 3 + 2, none⟩) (World.block_lt_of_cell? _ _ d2)).trans d2; dsimp only))
              have HBr11 : Hid (Below wr.heap.size wr w11) := HBr10.out.trans (hb'.mono HBr10.out.size)
              clear hb hb' C18 hc0 hc1 d0 d1 d2 x0 x1 x3 x4 x5
              rcases hf with ⟨h8, _⟩ | ⟨_, g5, c5, he, hm5⟩
              · exact absurd h8 H7.out
              cases he
              have HM5 : Hid (Mk w11 g5 F (frs K A B (ls.getD (d k).toNat (0, 0, 0)) (Ms k))) := by rw [HS5.out.2.2.2]; exact hm5
              obtain ⟨Vs, hVs⟩ := (HT.out.mrs.below HBr11.out).own
              have HVs : Hid (w11.ownsRow w2.heap.size 26 1 (.slice (some ⟨gb, go, none⟩) (k + 1) wc) (k + 1) Vs ∧ ∀ i, i < k + 1 → ∃ c, Vs[i]? = some (.slice (some ⟨G i, 0, none⟩) F c)) := hVs
              have HSz5 : Hid (w2.heap.size ≤ w11.heap.size) := Nat.le_trans HT.out.below.size HBr11.out.size
              clear hm5 hVs hgk H7
              go_wp2_with (at_builtin; refine wpList_append_own_at _ rfl _ _ 44 rfl w2.heap.size 26 i1 (.slice none 0 0) 1 24 Try.underlying44 HI1.out.1 HI1.out.2.1 HI1.out.2.2.1 HI1.out.2.2.2 rfl (by decide) _ _ _ rfl (HVs.out.1.alloc _) ⟨w11.heap.size, 0, none⟩ 1 1 [.slice (some ⟨g5, 0, none⟩) F c5] rfl rfl (World.news_of_block (cs := #[.slice (some ⟨g5, 0, none⟩) F c5]) (t := 26) (fr := (0, 0)) (heap_alloc_new w11 _)) (by simp [Value.oneCell']) (by unfold maxLen; omega) (by omega) (by have := HSz5.out; simp; omega) ?_; intro v6 w6 hown6 hgrow6 _ _; obtain ⟨⟨a6, c6, rfl⟩, H6⟩ := Pld.app HT.out HBr11.out HS5.out.1 HS5.out.2.1 HS5.out.2.2.1 HM5.out HVs.out hown6 hgrow6; clear hown6 hgrow6)
              go_roundw
              case rel => exact ⟨k + 1, a6, c6, _, _, by omega, by go_num, rfl, H6.out⟩
              case measure => simp [intOf]; omega
          · have C16 : Hid (∀ u, Below wr.heap.size wr u → Calls Try.prog 17 #[.agg #[.slice na N nc, .slice fa F fc], .slice ma F mc, .agg #[.int .i64 j, .int .i64 x, .int .i64 o]] u fun e w' => e = .returned (.bool false) ∧ Below u.heap.size u w') := fun u hu => hmay u na fa ma nc fc mc _ false ((HPW.out.below HBr.out).below hu) (HRk.out.below hu) (by simp [hen])
            have hfe : FErr K A B F ls (Ms k) (d k) 9 := Or.inr (Or.inl ⟨hs, by rw [htd]; exact hen, rfl⟩)
            obtain ⟨hkk, hyy, hsm⟩ := py_stop HT.out.pos HT.out.pth hlt hfe HPy.out
            subst hkk
            subst hyy
            have HSm : Hid (∀ i, i ≤ kk → Ns i = Ms i) := hsm
            have hEq1 : ((kk : Int) == (kk : Int)) = true := by simp
            clear hsm hfe HPy
            clear ht hls htt htd hmay hfire hsc hsa hs hsl hsn hen
            go_wp2
            go_region_held3 (fun u => u.cell? ⟨w.heap.size, 0, none⟩ = some (.slice na N nc) ∧ u.cell? ⟨w.heap.size, 1, none⟩ = some (.slice fa F fc) ∧ u.cell? ⟨sb, so + s * 3, none⟩ = some (.int .i64 j) ∧ u.cell? ⟨sb, so + s * 3 + 1, none⟩ = some (.int .i64 x) ∧ u.cell? ⟨sb, so + s * 3 + 2, none⟩ = some (.int .i64 o))
              (first | (exact ⟨by assumption, by assumption, by assumption, by assumption, by assumption⟩) | go_keep)
              (first | (go_at_call 17; refine (C16.out _ (below_drew_iff.2 (Below.refl _ _))).mono ?_; rintro e w10 ⟨rfl, hb⟩; have hb' : Below wr.heap.size wr w10 := (below_drew_iff.2 (Below.refl _ _)).trans hb; obtain ⟨x0, x1⟩ := HBx.out w10 (HBr.out.trans (hb'.mono HBr.out.size)); have x3 := (hb'.cell (p := ⟨sb, so + s * 3, none⟩) (World.block_lt_of_cell? _ _ d0)).trans d0; have x4 := (hb'.cell (p := ⟨sb, so + s * 3 + 1, none⟩) (World.block_lt_of_cell? _ _ d1)).trans d1; have x5 := (hb'.cell (p := ⟨sb, so + s * 3 + 2, none⟩) (World.block_lt_of_cell? _ _ d2)).trans d2; dsimp only))
            have HBr10 : Hid (Below wr.heap.size wr w10) := hb'
            clear hb hb' C16 hc0 hc1 d0 d1 d2 x0 x1 x3 x4 x5
            have C19 : Hid (Calls Try.prog 20 #[.slice ga (kk + 1) gc, .slice (some ⟨gb, go, none⟩) (kk + 1) wc] w10 fun e w' => e = .returned (.bool true) ∧ Below w10.heap.size w10 w') := lists_true (by omega) (by omega) (HGa.out.below (HB1r.out.trans (HBr10.out.mono HB1r.out.size))) (HT.out.mrs.gr.below HBr10.out) (fun i hi => HSm.out i (by omega))
            have HBwE : Hid (Below w.heap.size w w10) := HBwr.out.trans (HBr10.out.mono HBwr.out.size)
            clear HSm HGa
            go_wp2_with fail
            refine C19.out.mono ?_
            rintro e w19 ⟨rfl, hb19⟩
            have HBw19 : Hid (Below w.heap.size w w19) := HBwE.out.trans (hb19.mono HBwE.out.size)
            clear hb19 C19
            go_wp2
            go_ret
            exact ⟨rfl, HBw19.out⟩
        · have hfe : FErr K A B F (stAll K A B F N) (Ms k) (d k) 1 := Or.inl ⟨hs, rfl⟩
          obtain ⟨hkk, hyy, hsm⟩ := py_stop HT.out.pos HT.out.pth hlt hfe HPy.out
          subst hkk
          subst hyy
          have HSm : Hid (∀ i, i ≤ kk → Ns i = Ms i) := hsm
          have hEq1 : ((kk : Int) == (kk : Int)) = true := by simp
          clear hsm hfe HPy
          by_cases h0 : d kk < 0
          · clear hs
            have C19 : Hid (Calls Try.prog 20 #[.slice ga (kk + 1) gc, .slice (some ⟨gb, go, none⟩) (kk + 1) wc] wr fun e w' => e = .returned (.bool true) ∧ Below wr.heap.size wr w') := lists_true (by omega) (by omega) (HGa.out.below (HB1r.out.trans ((Below.refl _ _).mono HB1r.out.size))) (HT.out.mrs.gr.below (Below.refl _ _)) (fun i hi => HSm.out i (by omega))
            have HBwE : Hid (Below w.heap.size w wr) := HBwr.out.trans ((Below.refl _ _).mono HBwr.out.size)
            clear HSm HGa
            go_wp2_with fail
            refine C19.out.mono ?_
            rintro e w19 ⟨rfl, hb19⟩
            have HBw19 : Hid (Below w.heap.size w w19) := HBwE.out.trans (hb19.mono HBwE.out.size)
            clear hb19 C19
            go_wp2
            go_ret
            exact ⟨rfl, HBw19.out⟩
          · have hge : d kk ≥ ((stAll K A B F N).length : Int) := by omega
            clear hs
            have C19 : Hid (Calls Try.prog 20 #[.slice ga (kk + 1) gc, .slice (some ⟨gb, go, none⟩) (kk + 1) wc] wr fun e w' => e = .returned (.bool true) ∧ Below wr.heap.size wr w') := lists_true (by omega) (by omega) (HGa.out.below (HB1r.out.trans ((Below.refl _ _).mono HB1r.out.size))) (HT.out.mrs.gr.below (Below.refl _ _)) (fun i hi => HSm.out i (by omega))
            have HBwE : Hid (Below w.heap.size w wr) := HBwr.out.trans ((Below.refl _ _).mono HBwr.out.size)
            clear HSm HGa
            go_wp2_with fail
            refine C19.out.mono ?_
            rintro e w19 ⟨rfl, hb19⟩
            have HBw19 : Hid (Below w.heap.size w w19) := HBwE.out.trans (hb19.mono HBwE.out.size)
            clear hb19 C19
            go_wp2
            go_ret
            exact ⟨rfl, HBw19.out⟩
      · obtain rfl : n = k := by omega
        obtain ⟨hkk, hyy, hsm⟩ := py_end HT.out.pos HT.out.pth HPy.out
        subst hkk
        subst hyy
        have HSm : Hid (∀ i, i ≤ kk → Ns i = Ms i) := hsm
        have hEq1 : ((kk : Int) == (kk : Int)) = true := by simp
        clear hsm HPy hgc hga
        have C19 : Hid (Calls Try.prog 20 #[.slice ga (kk + 1) gc, .slice (some ⟨gb, go, none⟩) (kk + 1) wc] wr fun e w' => e = .returned (.bool true) ∧ Below wr.heap.size wr w') := lists_true (by omega) (by omega) (HGa.out.below (HB1r.out.trans ((Below.refl _ _).mono HB1r.out.size))) (HT.out.mrs.gr.below (Below.refl _ _)) (fun i hi => HSm.out i (by omega))
        have HBwE : Hid (Below w.heap.size w wr) := HBwr.out.trans ((Below.refl _ _).mono HBwr.out.size)
        clear HSm HGa
        go_wp2_with fail
        refine C19.out.mono ?_
        rintro e w19 ⟨rfl, hb19⟩
        have HBw19 : Hid (Below w.heap.size w w19) := HBwE.out.trans (hb19.mono HBwE.out.size)
        clear hb19 C19
        go_wp2
        go_ret
        exact ⟨rfl, HBw19.out⟩

end Go.Proofs.Ytpgodjinbabniaa
