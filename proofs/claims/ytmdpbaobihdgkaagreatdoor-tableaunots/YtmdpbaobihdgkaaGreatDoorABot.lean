
import Derived.Test.YtmdpbaobihdgkaaGreatDoorASgwJ
/- Both. -/
set_option linter.unusedSimpArgs false
namespace Go.Proofs.YtmdpbaobihdgkaaGreatDoor
open Go.RowKit Go.Shelf Go.Maps
theorem oth_cellB {w0 W W4 : World} (h : ∀ b, b < W.heap.size → Oth w0 W b → W4.heap[b]? = W.heap[b]?) {p : Addr} {v : Value} (ho : Oth w0 W p.block) (hc : W.cell? p = some v) : W4.cell? p = some v :=
 (World.cell?_of_block (w := W) (h _ (World.block_lt_of_cell? _ _ hc) ho)).trans hc
theorem bo_world (w : World) (A B : Ax) : ∃ W, ((w.alloc (.cells #[.slice A.sa A.sn A.sc, .slice A.na A.G A.nc, .slice A.ma A.M A.mc, .slice A.oa A.O A.oc, .slice A.fa A.K A.fc] 32)).alloc (.cells #[.slice B.sa B.sn B.sc, .slice B.na B.G B.nc, .slice B.ma B.M B.mc, .slice B.oa B.O B.oc, .slice B.fa B.K B.fc] 32)).alloc (.cells nil5 32) = W ∧
  Below w.heap.size w W ∧ W.heap.size = w.heap.size + 3 ∧ Bo W w.heap.size A ∧ Bo W (w.heap.size + 1) B ∧ W.heap[w.heap.size + 1 + 1]? = some (.cells nil5 32) := by
 obtain ⟨W1, hW1, hb1, h1⟩ := box5p w A
 have s1 : W1.heap.size = w.heap.size + 1 := by rw [← hW1]; simp
 rw [hW1]
 obtain ⟨W2, hW2, hb2, h2⟩ := box5p W1 B
 have s2 : W2.heap.size = w.heap.size + 1 + 1 := by rw [← hW2]; simp [s1]
 rw [hW2]
 rw [s1] at h2
 have hb3 := box_below W2 (.cells nil5 32)
 have hn : (W2.alloc (.cells nil5 32)).heap[W2.heap.size]? = some (.cells nil5 32) := Go.Deep.blk_alloc_new _ _
 rw [s2] at hn
 exact ⟨_, rfl, (hb1.trans (hb2.mono (by omega))).trans (hb3.mono (by omega)), by simp [s2], (h1.below hb2).below hb3, h2.below hb3, hn⟩
set_option maxRecDepth 100000 in
set_option maxHeartbeats 16000000 in
theorem both_ok (A B : Ax) (w : World) (hA : Aw w A) (hB : Aw w B) (hT : Tb w) (hA0 : chkA A = 0) (hB0 : chkA B = 0) (hK : ¬ 80 < A.K + B.K) : Calls Tryz.prog 12 #[A.val, B.val] w fun e w' => BoIs w A B e w' := by
 show Calls Tryz.prog 12 #[.agg #[.slice A.sa A.sn A.sc, .slice A.na A.G A.nc, .slice A.ma A.M A.mc, .slice A.oa A.O A.oc, .slice A.fa A.K A.fc], .agg #[.slice B.sa B.sn B.sc, .slice B.na B.G B.nc, .slice B.ma B.M B.mc, .slice B.oa B.O B.oc, .slice B.fa B.K B.fc]] w _
 obtain ⟨W1, hW1, hb1, hs1, hboA, hboB, hres⟩ := bo_world w A B
 have CA : Hid (Calls Tryz.prog 23 #[.agg #[.slice A.sa A.sn A.sc, .slice A.na A.G A.nc, .slice A.ma A.M A.mc, .slice A.oa A.O A.oc, .slice A.fa A.K A.fc]] W1 fun e w' => e = .returned (.int .i64 0) ∧ Below W1.heap.size W1 w') := hid (by rw [← hA0]; exact chkA_any A W1 (hA.below hb1))
 have CB : Hid (∀ z, Below w.heap.size w z → Calls Tryz.prog 23 #[.agg #[.slice B.sa B.sn B.sc, .slice B.na B.G B.nc, .slice B.ma B.M B.mc, .slice B.oa B.O B.oc, .slice B.fa B.K B.fc]] z fun e w' => e = .returned (.int .i64 0) ∧ Below z.heap.size z w') := hid (fun z hz => by rw [← hB0]; exact chkA_any B z (hB.below hz))
 have HH := hid (And.intro hA (And.intro hB (And.intro hT (And.intro hA0 (And.intro hB0 hK)))))
 have HB1 := hid (And.intro hb1 (And.intro hs1 (And.intro hboA (And.intro hboB hres))))
 obtain ⟨q0, q1, q2, q3, q4⟩ := hboA
 have hKA : A.K ≤ 80 := (chkA_ok hA0).2.1
 have hKB : B.K ≤ 80 := (chkA_ok hB0).2.1
 have hK2 : ¬ (80 : Int) < (A.K : Nat) + (B.K : Nat) := by omega
 have hmf : ∀ (fn : Fn) (first cap : Array Value) (w : World), (Instr.makeFunc fn first cap).run Tryz.prog w = .ok (.func fn first cap) w := fun _ _ _ _ => rfl
 clear hA hB hT hA0 hB0 hb1 hs1 hboB hres
 go_enter Tryz.func12, Tryz.ntmps12
 go_wp2_with fail
 refine CA.out.mono ?_
 rintro e w2 ⟨rfl, hb2⟩
 have HL2 : Hid (Below w.heap.size w w2) := hid (HB1.out.1.trans (hb2.mono HB1.out.1.size))
 have HBA2 := hid (HB1.out.2.2.1.below hb2)
 have HBB2 := hid (HB1.out.2.2.2.1.below hb2)
 have HRE2 : Hid (w2.heap[w.heap.size + 1 + 1]? = some (.cells nil5 32)) := hid ((hb2.block _ (jq4.1 HB1.out.2.2.2.2).1).trans HB1.out.2.2.2.2)
 obtain ⟨r0, r1, r2, r3, r4⟩ := HBB2.out
 clear hb2 q0 q1 q2 q3 q4 CA
 go_wp2_with fail
 refine (CB.out w2 HL2.out).mono ?_
 rintro e w3 ⟨rfl, hb3⟩
 have HL3 : Hid (Below w.heap.size w w3) := hid (HL2.out.trans (hb3.mono HL2.out.size))
 have HBA3 := hid (HBA2.out.below hb3)
 have HBB3 := hid (HBB2.out.below hb3)
 have HRE3 : Hid (w3.heap[w.heap.size + 1 + 1]? = some (.cells nil5 32)) := hid ((hb3.block _ (jq4.1 HRE2.out).1).trans HRE2.out)
 have s4 := HBA3.out.r4
 have s5 := HBB3.out.r4
 have hS9 : (fun z : World => z.cell? ⟨w.heap.size, 0, none⟩ = some (.slice A.sa A.sn A.sc) ∧ z.cell? ⟨w.heap.size, 1, none⟩ = some (.slice A.na A.G A.nc) ∧ z.cell? ⟨w.heap.size, 2, none⟩ = some (.slice A.ma A.M A.mc) ∧ z.cell? ⟨w.heap.size, 3, none⟩ = some (.slice A.oa A.O A.oc) ∧ z.cell? ⟨w.heap.size, 4, none⟩ = some (.slice A.fa A.K A.fc) ∧ z.cell? ⟨w.heap.size + 1, 0, none⟩ = some (.slice B.sa B.sn B.sc) ∧ z.cell? ⟨w.heap.size + 1, 1, none⟩ = some (.slice B.na B.G B.nc) ∧ z.cell? ⟨w.heap.size + 1, 2, none⟩ = some (.slice B.ma B.M B.mc) ∧ z.cell? ⟨w.heap.size + 1, 3, none⟩ = some (.slice B.oa B.O B.oc) ∧ z.cell? ⟨w.heap.size + 1, 4, none⟩ = some (.slice B.fa B.K B.fc)) w3.drew := ⟨HBA3.out.r0, HBA3.out.r1, HBA3.out.r2, HBA3.out.r3, HBA3.out.r4, HBB3.out.r0, HBB3.out.r1, HBB3.out.r2, HBB3.out.r3, HBB3.out.r4⟩
 clear hb3 r0 r1 r2 r3 r4 CB
 go_wp2_with fail
 refine G_region (fun z : World => z.cell? ⟨w.heap.size, 0, none⟩ = some (.slice A.sa A.sn A.sc) ∧ z.cell? ⟨w.heap.size, 1, none⟩ = some (.slice A.na A.G A.nc) ∧ z.cell? ⟨w.heap.size, 2, none⟩ = some (.slice A.ma A.M A.mc) ∧ z.cell? ⟨w.heap.size, 3, none⟩ = some (.slice A.oa A.O A.oc) ∧ z.cell? ⟨w.heap.size, 4, none⟩ = some (.slice A.fa A.K A.fc) ∧ z.cell? ⟨w.heap.size + 1, 0, none⟩ = some (.slice B.sa B.sn B.sc) ∧ z.cell? ⟨w.heap.size + 1, 1, none⟩ = some (.slice B.na B.G B.nc) ∧ z.cell? ⟨w.heap.size + 1, 2, none⟩ = some (.slice B.ma B.M B.mc) ∧ z.cell? ⟨w.heap.size + 1, 3, none⟩ = some (.slice B.oa B.O B.oc) ∧ z.cell? ⟨w.heap.size + 1, 4, none⟩ = some (.slice B.fa B.K B.fc)) (fun _ => false) (by kernel_rfl) hS9 (fun _ => ?_)
 have hd3 : Below w.heap.size w w3.drew := HL3.out.drew
 refine reg9 A B (w.heap.size) (w.heap.size + 1) _ _ _ _ _ _ _ _ _ _ _ _ _ _ _ _ _ _ _ _ _ _ _ _ _ _ _ _ _ _ _ _ _ _ _ _ _ _ _ _ _ _ _ _ _ _ _ _ _ _ _ _ _ _ _ _ _ _ _ _ _ _ _ _ _ _ _ _ _ _ _ _ _ _ _ _ _ _ _ _ _ _ _ _ _ _ _ _ _ _ _ _ _ _ _ _ _ _ _ _ _ _ _ _ _ _ _ _ _ _ _ _ _ _ _ _ _ _ _ _ _ _ _ _ _ _ _ _ _ _ _ _ _ _ _ _ _ _ _ _ _ _ _ _ _ _ _ _ _ _ _ _ _ _ _ _ _ _ _ w3.drew (fun _ _ _ _ _ h => h) (HH.out.1.below hd3) (HH.out.2.1.below hd3) HH.out.2.2.2.1 HH.out.2.2.2.2.1 (fun j hj => below_cell hd3 jq0 (HH.out.2.2.1 j hj)) ⟨HBA3.out.r0, HBA3.out.r1, HBA3.out.r2, HBA3.out.r3, HBA3.out.r4⟩ ⟨HBB3.out.r0, HBB3.out.r1, HBB3.out.r2, HBB3.out.r3, HBB3.out.r4⟩ (fun b8 b9 b10 wb nb mb V U z4 hz4 hg4 hb4 => ?_)
 (try dsimp only [Exit.then])
 have hl4 : Below w.heap.size w z4 := hd3.trans (hz4.mono HL3.out.size)
 have hzz : Below w3.heap.size w3 z4 := HL3.out.size |> fun _ => ((Below.refl w3.heap.size w3).drew).trans hz4
 have HL4 := hid hl4
 have HBA4 := hid (HBA3.out.below hzz)
 have HBB4 := hid (HBB3.out.below hzz)
 have HRE4 : Hid (z4.heap[w.heap.size + 1 + 1]? = some (.cells nil5 32)) := hid ((hzz.block _ (jq4.1 HRE3.out).1).trans HRE3.out)
 have HG4 := hid hg4
 have hS10 : (fun z : World => z.cell? ⟨w.heap.size, 0, none⟩ = some (.slice A.sa A.sn A.sc) ∧ z.cell? ⟨w.heap.size + 1, 0, none⟩ = some (.slice B.sa B.sn B.sc) ∧ z.cell? ⟨b8, 0, none⟩ = some (.slice (some ⟨wb, 0, none⟩) A.G A.G)) z4.drew := ⟨HBA4.out.r0, HBB4.out.r0, hg4.bw⟩
 clear s4 s5 hS9 hd3 hl4 hzz hg4 hz4 hb4 HBA2 HBB2 HRE2 HL2 HB1
 go_wp2_with fail
 refine G_region (fun z : World => z.cell? ⟨w.heap.size, 0, none⟩ = some (.slice A.sa A.sn A.sc) ∧ z.cell? ⟨w.heap.size + 1, 0, none⟩ = some (.slice B.sa B.sn B.sc) ∧ z.cell? ⟨b8, 0, none⟩ = some (.slice (some ⟨wb, 0, none⟩) A.G A.G)) (fun _ => false) (by kernel_rfl) hS10 (fun _ => ?_)
 have hd4 : Below w.heap.size w z4.drew := HL4.out.drew
 refine reg10 A B (w.heap.size) (w.heap.size + 1) b8 b9 b10 wb nb mb V U _ _ _ _ _ _ _ _ _ _ _ _ _ _ _ _ _ _ _ _ _ _ _ _ _ _ _ _ _ _ _ _ _ _ _ _ _ _ _ _ _ _ _ _ _ _ _ _ _ _ _ _ _ _ _ _ _ _ _ _ _ _ _ _ _ _ _ _ _ _ _ _ _ _ _ _ _ _ _ _ _ _ _ _ _ _ _ _ _ _ _ _ _ _ _ _ _ _ _ _ _ _ _ _ _ _ _ _ _ _ _ _ _ _ _ _ _ _ _ _ _ _ _ _ _ _ _ _ _ _ _ _ _ _ _ _ _ _ _ _ _ _ _ _ _ _ _ _ _ _ _ _ _ _ _ _ _ _ _ z4.drew (fun _ _ _ _ _ h => h) (HH.out.1.below hd4) (HH.out.2.1.below hd4) ⟨HBA4.out.r0, HBA4.out.r1, HBA4.out.r2, HBA4.out.r3, HBA4.out.r4⟩ ⟨HBB4.out.r0, HBB4.out.r1, HBB4.out.r2, HBB4.out.r3, HBB4.out.r4⟩ (HG4.out.below (Below.refl _ _).drew) (fun b11 f1 f3 s1 s3 Bf Bs Bq e1 e2 e3 n1 n2 n3 p1 p2 p3 k er z5 hz5 hb11 haut hF => ?_)
 (try dsimp only [Exit.then])
 have hl5 : Below w.heap.size w z5 := hd4.trans (hz5.mono HL4.out.size)
 have hz45 : Below z4.heap.size z4 z5 := ((Below.refl z4.heap.size z4).drew).trans hz5
 have HL5 := hid hl5
 have HBA5 := hid (HBA4.out.below hz45)
 have HBB5 := hid (HBB4.out.below hz45)
 have HRE5 : Hid (z5.heap[w.heap.size + 1 + 1]? = some (.cells nil5 32)) := hid ((hz45.block _ (jq4.1 HRE4.out).1).trans HRE4.out)
 have HB11 : Hid (z4.heap.size ≤ b11 ∧ w.heap.size + 1 + 1 < z4.heap.size) := hid ⟨hb11, (jq4.1 HRE4.out).1⟩
 have HW4 : Hid (w.heap.size ≤ z4.heap.size) := hid HL4.out.size
 have HAUT := hid haut
 clear hS10 hd4 hl5 hz45 hz5 hb11 haut HBA3 HBB3 HRE3 HL3 HBA4 HBB4 HRE4 HG4
 rcases hF with ⟨rfl, hk, hk2, hsv, ⟨V2, hnv⟩, hpv⟩ | ⟨rfl, hbig⟩
 ·have hpv' : z5.ownsRow z4.drew.heap.size 86 2 (.slice p1 p2 p3) (bL A B k).length (pcells (bL A B k)) := by rw [hk]; exact hpv
  obtain ⟨pa, pc, hpe, hsp, hpq⟩ := owns_pr hpv'
  have HPN : Hid (∀ p, pa = some p → p.block ≠ b11) := hid (fun p hp e => by
   obtain ⟨c, z, hcz⟩ := owns_blk hpv' (hpq p hp).2.2
   rw [e, HAUT.out] at hcz
   cases hcz)
  clear hpq
  rw [hk] at hpe hsp
  injection hpe with hq1 hq2 hq3
  subst hq1 hq2 hq3
  have HG := hid (And.intro hk (And.intro hk2 (And.intro hsv (And.intro hnv hsp))))
  obtain ⟨Mf, hMf⟩ : ∃ Mf : Nat → Nat, (fun i => A.Mu (nAt (bL A B p2) i).1 ||| B.Mu (nAt (bL A B p2) i).2) = Mf := ⟨_, rfl⟩
  obtain ⟨Nf, hNf⟩ : ∃ Nf : Nat → Nat, (fun i => A.No (nAt (bL A B p2) i).1 ||| B.No (nAt (bL A B p2) i).2) = Nf := ⟨_, rfl⟩
  have HMN := hid (And.intro hMf hNf)
  have HLS := hid (lb_start (ab := b11) (w0 := z5) (sv := .slice e1 e2 e3) (nv := .slice n1 n2 n3) (fv := .slice none 0 0) Mf Nf HAUT.out)
  obtain ⟨iu, hi, hz0, hz1, hz2⟩ := info_parts Tryz.info48
  have HU : Hid (Tryz.prog.info? 48 = some iu ∧ iu.zero = some (.int .u64 0) ∧ iu.size = 1 ∧ iu.bytes = 8) := ⟨hi, hz0, hz1, hz2⟩
  clear hi hz0 hz1 hz2 hpv hpv' hsp hk hsv hnv hMf hNf
  go_wp2
  go_loopw [70] (fun i wr => ∃ (j : Nat) (mv ov : Value), j ≤ p2 ∧ i = .int .i64 j ∧ Hid (Lb b11 z5 (.slice e1 e2 e3) (.slice n1 n2 n3) mv ov (.slice none 0 0) Mf Nf j j wr)) (fun i _ => p2 - (intOf i).toNat)
  case atStart => exact ⟨0, _, _, Nat.zero_le _, rfl, HLS⟩
  case round =>
   obtain ⟨j, mv, ov, hj, rfl, HLq⟩ := hrel
   clear HLS
   obtain ⟨⟨m1, hmv⟩, ⟨m2, hov⟩⟩ := And.intro (owns_sl HLq.out.ms) (owns_sl HLq.out.os)
   obtain ⟨c1, hmv⟩ := hmv
   obtain ⟨c2, hov⟩ := hov
   subst hmv
   subst hov
   obtain ⟨pb, hpa, hpc⟩ := HG.out.2.2.2.2
   by_cases hlt : j < p2
   ·obtain rfl := hpa (by omega)
    obtain ⟨z1, z2⟩ := hpc j hlt
    have hP : bP A B (nAt (bL A B p2) j) := bL_all HH.out.2.2.2.1 HH.out.2.2.2.2.1 p2 _ (nAt_mem (by have := HG.out.1; omega))
    have hMj : Mf j = A.Mu (nAt (bL A B p2) j).1 ||| B.Mu (nAt (bL A B p2) j).2 := by rw [← HMN.out.1]
    have hNj : Nf j = A.No (nAt (bL A B p2) j).1 ||| B.No (nAt (bL A B p2) j).2 := by rw [← HMN.out.2]
    have hAz := HH.out.1.below HL5.out
    have hBz := HH.out.2.1.below HL5.out
    obtain ⟨mb1, mo1, hma1, hmc1⟩ := HH.out.1.must
    obtain ⟨mb2, mo2, hma2, hmc2⟩ := HH.out.2.1.must
    obtain ⟨nb1, no1, hna1, hnc1⟩ := HH.out.1.nots
    obtain ⟨nb2, no2, hna2, hnc2⟩ := HH.out.2.1.nots
    obtain ⟨_, _, hMA, hOA, _⟩ := chkA_ok HH.out.2.2.2.1
    obtain ⟨_, _, hMB, hOB, _⟩ := chkA_ok HH.out.2.2.2.2.1
    obtain ⟨hp1, hp2⟩ := hP
    have hx1 : (nAt (bL A B p2) j).1 < A.M := by omega
    have hx2 : (nAt (bL A B p2) j).1 < A.O := by omega
    have hx3 : (nAt (bL A B p2) j).2 < B.M := by omega
    have hx4 : (nAt (bL A B p2) j).2 < B.O := by omega
    have zm1 := hmc1 _ hx1
    have zm2 := hmc2 _ hx3
    have zn1 := hnc1 _ hx2
    have zn2 := hnc2 _ hx4
    (try dsimp only at zm1 zm2 zn1 zn2)
    have lm1 := HH.out.1.mu _ hx1
    have lm2 := HH.out.2.1.mu _ hx3
    have ln1 := HH.out.1.no _ hx2
    have ln2 := HH.out.2.1.no _ hx4
    have b12 := HBA5.out.r2
    have b22 := HBB5.out.r2
    have b13 := HBA5.out.r3
    have b23 := HBB5.out.r3
    rw [hma1 (by omega)] at b12
    rw [hma2 (by omega)] at b22
    rw [hna1 (by omega)] at b13
    rw [hna2 (by omega)] at b23
    clear hma1 hma2 hna1 hna2 hmc1 hmc2 hnc1 hnc2 hMA hOA hMB hOB hAz hBz
    generalize A.Mu (nAt (bL A B p2) j).1 = am at *
    generalize B.Mu (nAt (bL A B p2) j).2 = bm at *
    generalize A.No (nAt (bL A B p2) j).1 = an at *
    generalize B.No (nAt (bL A B p2) j).2 = bn at *
    generalize (nAt (bL A B p2) j).1 = px at *
    generalize (nAt (bL A B p2) j).2 = py at *
    have E1 := hid (bits_or_u64_nat am bm lm1 lm2)
    have E2 := hid (bits_or_u64_nat an bn ln1 ln2)
    rw [← hMj] at E1
    rw [← hNj] at E2
    have hab1 : b11 ≠ w.heap.size := by have h1 := HB11.out.1; have h2 := HB11.out.2; omega
    have hab2 : b11 ≠ w.heap.size + 1 := by have h1 := HB11.out.1; have h2 := HB11.out.2; omega
    have old1 : ∀ {p : Addr} {v : Value}, w.cell? p = some v → z5.cell? p = some v ∧ p.block ≠ b11 := fun {p v} hc => ⟨below_cell HL5.out jq0 hc, by have h1 := World.block_lt_of_cell? _ _ hc; have h2 := HW4.out; have h3 := HB11.out.1; omega⟩
    have HZ := hid (And.intro (old1 zm1) (And.intro (old1 zm2) (And.intro (old1 zn1) (old1 zn2))))
    have HBX := hid (And.intro b12 (And.intro b22 (And.intro b13 b23)))
    have hpb : pb ≠ b11 := HPN.out _ rfl
    have z1' := HLq.out.old z1 hpb
    have z2' := HLq.out.old z2 hpb
    obtain ⟨WW, hWW, hbW, hsW, x0, x1⟩ := box2 wr (.int .i64 (px : Nat)) (.int .i64 (py : Nat)) 86
    have hblk : WW.heap[wr.heap.size]? = some (.cells #[.int .i64 (px : Nat), .int .i64 (py : Nat)] 86) := by rw [← hWW]; exact Go.Deep.blk_alloc_new _ _
    have HLW := hid (HLq.out.below hbW)
    have HBK := hid hblk
    obtain ⟨Bp, hBp⟩ : ∃ Bp, wr.heap.size = Bp := ⟨_, rfl⟩
    rw [hBp] at x0 x1 HBK hsW
    have hBlt : z5.heap.size ≤ Bp := by rw [← hBp]; exact HLq.out.fr.size
    have hc2 : WW.cell? ⟨b11, 2, none⟩ = some (.slice m1 j c1) := cell_of_cells HLW.out.aut rfl
    have HSW := hid hsW
    have k12 := HLW.out.old b12 (Ne.symm hab1)
    have k22 := HLW.out.old b22 (Ne.symm hab2)
    have km1 := HLW.out.old HZ.out.1.1 HZ.out.1.2
    have km2 := HLW.out.old HZ.out.2.1.1 HZ.out.2.1.2
    have hzl : w.heap.size + 1 < z5.heap.size := World.block_lt_of_cell? _ _ b22
    have hlm1 := World.block_lt_of_cell? _ _ HZ.out.1.1
    have hlm2 := World.block_lt_of_cell? _ _ HZ.out.2.1.1
    have hln1 := World.block_lt_of_cell? _ _ HZ.out.2.2.1.1
    have hln2 := World.block_lt_of_cell? _ _ HZ.out.2.2.2.1
    dsimp only at hlm1 hlm2 hln1 hln2
    have hsW2 : z5.heap.size ≤ WW.heap.size := HLW.out.fr.size
    have hUb : (WW.alloc (.cells #[.int .u64 ((Mf j : Nat) : Int)] 48)).heap[WW.heap.size]? = some (.cells #[.int .u64 ((Mf j : Nat) : Int)] 48) := Go.Deep.blk_alloc_new _ _
    have HOW : Hid (((WW.alloc (.cells #[.int .u64 ((Mf j : Nat) : Int)] 48)).drew).ownsRow z5.heap.size 48 1 (.slice m1 j c1) j (vu Mf j)) := hid ((HLW.out.ms.alloc _).drew)
    have hS0 : (fun z : World => z.cell? ⟨b11, 2, none⟩ = some (.slice m1 j c1) ∧ z.cell? ⟨w.heap.size, 2, none⟩ = some (.slice (some ⟨mb1, mo1, none⟩) A.M A.mc) ∧ z.cell? ⟨Bp, 0, none⟩ = some (.int .i64 (px : Nat)) ∧ z.cell? ⟨mb1, mo1 + px, none⟩ = some (.int .u64 ((am : Nat) : Int)) ∧ z.cell? ⟨w.heap.size + 1, 2, none⟩ = some (.slice (some ⟨mb2, mo2, none⟩) B.M B.mc) ∧ z.cell? ⟨Bp, 1, none⟩ = some (.int .i64 (py : Nat)) ∧ z.cell? ⟨mb2, mo2 + py, none⟩ = some (.int .u64 ((bm : Nat) : Int))) WW.drew := ⟨hc2, k12, x0, km1, k22, x1, km2⟩
    have hS1 : (fun z : World => z.cell? ⟨b11, 2, none⟩ = some (.slice m1 j c1) ∧ z.cell? ⟨w.heap.size, 2, none⟩ = some (.slice (some ⟨mb1, mo1, none⟩) A.M A.mc) ∧ z.cell? ⟨Bp, 0, none⟩ = some (.int .i64 (px : Nat)) ∧ z.cell? ⟨mb1, mo1 + px, none⟩ = some (.int .u64 ((am : Nat) : Int)) ∧ z.cell? ⟨w.heap.size + 1, 2, none⟩ = some (.slice (some ⟨mb2, mo2, none⟩) B.M B.mc) ∧ z.cell? ⟨Bp, 1, none⟩ = some (.int .i64 (py : Nat)) ∧ z.cell? ⟨mb2, mo2 + py, none⟩ = some (.int .u64 ((bm : Nat) : Int))) (WW.alloc (.cells #[.int .u64 ((Mf j : Nat) : Int)] 48)).drew := ⟨cell_alloc1 _ hc2, cell_alloc1 _ k12, cell_alloc1 _ x0, cell_alloc1 _ km1, cell_alloc1 _ k22, cell_alloc1 _ x1, cell_alloc1 _ km2⟩
    clear z1 z2 hpc hMj hNj hblk hbW zm1 zm2 zn1 zn2 hpa hsW old1 b12 b22 b13 b23 lm1 lm2 ln1 ln2
    go_wp2_with fail
    refine G_region (fun z : World => z.cell? ⟨b11, 2, none⟩ = some (.slice m1 j c1) ∧ z.cell? ⟨w.heap.size, 2, none⟩ = some (.slice (some ⟨mb1, mo1, none⟩) A.M A.mc) ∧ z.cell? ⟨Bp, 0, none⟩ = some (.int .i64 (px : Nat)) ∧ z.cell? ⟨mb1, mo1 + px, none⟩ = some (.int .u64 ((am : Nat) : Int)) ∧ z.cell? ⟨w.heap.size + 1, 2, none⟩ = some (.slice (some ⟨mb2, mo2, none⟩) B.M B.mc) ∧ z.cell? ⟨Bp, 1, none⟩ = some (.int .i64 (py : Nat)) ∧ z.cell? ⟨mb2, mo2 + py, none⟩ = some (.int .u64 ((bm : Nat) : Int))) (fun i => i == 18) (by kernel_rfl) hS0 (fun _ => ?_)
    refine G_tk (i := 0) (oi := { dst := some 74, op := Op.fieldAddr 32 (Operand.tmp 11) 2, type := 0, pos := _, after := #[], guard := none }) (v := .pointer (some ⟨b11, 2, none⟩)) hS0 ?_
    (try simp only [Act.put, jq1, jq2, jq3])
    refine G_tk (i := 1) (oi := { dst := some 75, op := Op.load 25 (Operand.tmp 74), type := 25, pos := _, after := #[{ on := 0, ground := Ground.data }], guard := none }) (v := .slice m1 j c1) hS0 ?_
    (try simp only [Act.put, jq1, jq2, jq3])
    refine G_tk (i := 2) (oi := { dst := some 76, op := Op.fieldAddr 32 (Operand.tmp 2) 2, type := 0, pos := _, after := #[], guard := none }) (v := .pointer (some ⟨w.heap.size, 2, none⟩)) hS0 ?_
    (try simp only [Act.put, jq1, jq2, jq3])
    refine G_tk (i := 3) (oi := { dst := some 77, op := Op.load 25 (Operand.tmp 76), type := 25, pos := _, after := #[{ on := 2, ground := Ground.data }], guard := none }) (v := .slice (some ⟨mb1, mo1, none⟩) A.M A.mc) hS0 ?_
    (try simp only [Act.put, jq1, jq2, jq3])
    refine G_tk (i := 4) (oi := { dst := some 78, op := Op.fieldAddr 86 (Operand.tmp 15) 0, type := 0, pos := _, after := #[], guard := none }) (v := .pointer (some ⟨Bp, 0, none⟩)) hS0 ?_
    (try simp only [Act.put, jq1, jq2, jq3])
    refine G_tk (i := 5) (oi := { dst := some 79, op := Op.load 3 (Operand.tmp 78), type := 3, pos := _, after := #[{ on := 4, ground := Ground.data }], guard := none }) (v := .int .i64 (px : Nat)) hS0 ?_
    (try simp only [Act.put, jq1, jq2, jq3])
    refine G_tk (i := 6) (oi := { dst := some 80, op := Op.indexAddr 25 (Operand.tmp 77) (Operand.tmp 79), type := 0, pos := _, after := #[{ on := 3, ground := Ground.data }, { on := 5, ground := Ground.data }], guard := none }) (v := .pointer (some ⟨mb1, mo1 + px, none⟩)) hS0 ?_
    (try simp only [Act.put, jq1, jq2, jq3])
    refine G_tk (i := 7) (oi := { dst := some 81, op := Op.load 48 (Operand.tmp 80), type := 48, pos := _, after := #[{ on := 6, ground := Ground.data }], guard := none }) (v := .int .u64 ((am : Nat) : Int)) hS0 ?_
    (try simp only [Act.put, jq1, jq2, jq3])
    refine G_tk (i := 8) (oi := { dst := some 82, op := Op.fieldAddr 32 (Operand.tmp 3) 2, type := 0, pos := _, after := #[], guard := none }) (v := .pointer (some ⟨w.heap.size + 1, 2, none⟩)) hS0 ?_
    (try simp only [Act.put, jq1, jq2, jq3])
    refine G_tk (i := 9) (oi := { dst := some 83, op := Op.load 25 (Operand.tmp 82), type := 25, pos := _, after := #[{ on := 8, ground := Ground.data }], guard := none }) (v := .slice (some ⟨mb2, mo2, none⟩) B.M B.mc) hS0 ?_
    (try simp only [Act.put, jq1, jq2, jq3])
    refine G_tk (i := 10) (oi := { dst := some 84, op := Op.fieldAddr 86 (Operand.tmp 15) 1, type := 0, pos := _, after := #[], guard := none }) (v := .pointer (some ⟨Bp, 1, none⟩)) hS0 ?_
    (try simp only [Act.put, jq1, jq2, jq3])
    refine G_tk (i := 11) (oi := { dst := some 85, op := Op.load 3 (Operand.tmp 84), type := 3, pos := _, after := #[{ on := 10, ground := Ground.data }], guard := none }) (v := .int .i64 (py : Nat)) hS0 ?_
    (try simp only [Act.put, jq1, jq2, jq3])
    refine G_tk (i := 12) (oi := { dst := some 86, op := Op.indexAddr 25 (Operand.tmp 83) (Operand.tmp 85), type := 0, pos := _, after := #[{ on := 9, ground := Ground.data }, { on := 11, ground := Ground.data }], guard := none }) (v := .pointer (some ⟨mb2, mo2 + py, none⟩)) hS0 ?_
    (try simp only [Act.put, jq1, jq2, jq3])
    refine G_tk (i := 13) (oi := { dst := some 87, op := Op.load 48 (Operand.tmp 86), type := 48, pos := _, after := #[{ on := 12, ground := Ground.data }], guard := none }) (v := .int .u64 ((bm : Nat) : Int)) hS0 ?_
    (try simp only [Act.put, jq1, jq2, jq3])
    refine G_take (i := 14) (oi := { dst := some 88, op := Op.binOp BinOp.or 48 (Operand.tmp 81) (Operand.tmp 87) 48, type := 48, pos := _, after := #[{ on := 7, ground := Ground.data }, { on := 13, ground := Ground.data }], guard := none }) (v := .int .u64 ((Mf j : Nat) : Int)) rfl (by kernel_rfl) (by kernel_rfl) (by kernel_rfl) (by kernel_rfl) (fun _ _ _ h => h) (by rfl) (fun u hu => ?_) hS0 ?_
    ·(try dsimp only at hu); go_simp; rw [E1.out]
    (try simp only [Act.put, jq1, jq2, jq3])
    refine G_step (i := 15) (o := _) (by kernel_rfl) rfl (fun K' hK => ?_)
    go_simp
    refine hK.out _ _ (fun _ => hS1) (fun _ => ?_)
    (try simp only [Act.put, jq1, jq2, jq3])
    refine G_step (i := 16) (o := _) (by kernel_rfl) rfl (fun K' hK => ?_)
    refine step_append_lies _ (by rfl) _ _ _ (by rfl) z5.heap.size 48 iu _ 1 8 Tryz.underlying25 HU.out.1 HU.out.2.1 HU.out.2.2.1 HU.out.2.2.2 rfl (by omega) (.slice m1 j c1) j (vu Mf j) (by rfl) (HOW.out) ⟨WW.heap.size, 0, none⟩ 1 1 [.int .u64 ((Mf j : Nat) : Int)] (by rfl) (by rfl) (World.news_of_block (w := (WW.alloc (.cells #[.int .u64 ((Mf j : Nat) : Int)] 48)).drew) (cs := #[.int .u64 ((Mf j : Nat) : Int)]) (t := 48) (fr := (0, 0)) hUb) (by simp [Value.oneCell']) (by omega) (by unfold maxLen; omega) (by omega) (by simp; omega) (WW.heap.size + 1) (by simp) ?_
    intro g cap w4 hown4 hgrow4 hat4 hlt4
    have hgr : (WW.alloc (.cells #[.int .u64 ((Mf j : Nat) : Int)] 48)).grownBy w4 (Value.slice m1 j c1).ownBlock := ⟨hgrow4.os, hgrow4.tape, hgrow4.output, hgrow4.size, hgrow4.block⟩
    obtain ⟨hoth, hfz, HL4', hbut⟩ := HLW.out.must (mv' := .slice (some ⟨g, 0, none⟩) (j + 1) cap) hown4 hgr (hat4.imp (fun e => by rw [e]; simp [Value.ownBlock]) (fun e => by rw [e]; simp [Value.ownBlock]))
    have s4 : (fun z : World => z.cell? ⟨b11, 2, none⟩ = some (.slice m1 j c1) ∧ z.cell? ⟨w.heap.size, 2, none⟩ = some (.slice (some ⟨mb1, mo1, none⟩) A.M A.mc) ∧ z.cell? ⟨Bp, 0, none⟩ = some (.int .i64 (px : Nat)) ∧ z.cell? ⟨mb1, mo1 + px, none⟩ = some (.int .u64 ((am : Nat) : Int)) ∧ z.cell? ⟨w.heap.size + 1, 2, none⟩ = some (.slice (some ⟨mb2, mo2, none⟩) B.M B.mc) ∧ z.cell? ⟨Bp, 1, none⟩ = some (.int .i64 (py : Nat)) ∧ z.cell? ⟨mb2, mo2 + py, none⟩ = some (.int .u64 ((bm : Nat) : Int))) w4 := ⟨oth_cellB hoth (Or.inr ⟨_, _, _, HLW.out.aut, by decide⟩) hc2, oth_cellB hoth (Or.inl (by dsimp only; omega)) k12, oth_cellB hoth (Or.inr ⟨_, _, _, HBK.out, by decide⟩) x0, oth_cellB hoth (Or.inl hlm1) km1, oth_cellB hoth (Or.inl hzl) k22, oth_cellB hoth (Or.inr ⟨_, _, _, HBK.out, by decide⟩) x1, oth_cellB hoth (Or.inl hlm2) km2⟩
    have HBK4 : Hid (w4.heap[Bp]? = some (.cells #[.int .i64 (px : Nat), .int .i64 (py : Nat)] 86)) := hid ((hoth Bp (by have := HSW.out; omega) (Or.inr ⟨_, _, _, HBK.out, by decide⟩)).trans HBK.out)
    have HL6 := hid HL4'
    have hs4 := s4.1
    clear hown4 hgrow4 hgr hat4 hlt4 hoth HL4' hUb HOW hS1
    refine hK.out _ _ (fun _ => s4) (fun _ => ?_)
    (try simp only [Act.put, jq1, jq2, jq3])
    refine G_step (i := 17) (o := _) (by kernel_rfl) rfl (fun K' hK => ?_)
    go_simp
    refine hK.out _ _ (fun _ => s4) (fun _ => ?_)
    (try simp only [Act.put, jq1, jq2, jq3])
    refine G_step (i := 18) (o := _) (by kernel_rfl) rfl (fun K' hK => ?_)
    go_simp
    refine hK.out _ _ (fun h => absurd h (by decide)) (fun _ => ?_)
    (try simp only [Act.put, jq1, jq2, jq3])
    refine G_done (by kernel_rfl) ?_ _
    (try dsimp only [Exit.then])
    have hBne : Bp ≠ b11 := fun e => by have := HLW.out.aut; rw [← e, HBK.out] at this; cases this
    have HBK5 : Hid ((w4.setCell ⟨b11, 2, none⟩ (.slice (some ⟨g, 0, none⟩) (j + 1) cap)).heap[Bp]? = some (.cells #[.int .i64 (px : Nat), .int .i64 (py : Nat)] 86)) := hid ((hbut.block Bp (jq4.1 HBK4.out).1 hBne).trans HBK4.out)
    clear s4 hs4 hfz hS0 hc2 x0 x1 k12 k22 km1 km2 hbut HBK4 HBK HLW hWW HLq z1' z2' HSW hBp
    generalize w4.setCell ⟨b11, 2, none⟩ (.slice (some ⟨g, 0, none⟩) (j + 1) cap) = W5' at *
    have x0 : W5'.cell? ⟨Bp, 0, none⟩ = some (.int .i64 (px : Nat)) := cell_of_cells HBK5.out rfl
    have x1 : W5'.cell? ⟨Bp, 1, none⟩ = some (.int .i64 (py : Nat)) := cell_of_cells HBK5.out rfl
    have hc3 : W5'.cell? ⟨b11, 3, none⟩ = some (.slice m2 j c2) := cell_of_cells HL6.out.aut rfl
    have k13 := HL6.out.old HBX.out.2.2.1 (Ne.symm hab1)
    have k23 := HL6.out.old HBX.out.2.2.2 (Ne.symm hab2)
    have kn1 := HL6.out.old HZ.out.2.2.1.1 HZ.out.2.2.1.2
    have kn2 := HL6.out.old HZ.out.2.2.2.1 HZ.out.2.2.2.2
    have hs5 : z5.heap.size ≤ W5'.heap.size := HL6.out.fr.size
    have hUb : (W5'.alloc (.cells #[.int .u64 ((Nf j : Nat) : Int)] 48)).heap[W5'.heap.size]? = some (.cells #[.int .u64 ((Nf j : Nat) : Int)] 48) := Go.Deep.blk_alloc_new _ _
    have HOW : Hid (((W5'.alloc (.cells #[.int .u64 ((Nf j : Nat) : Int)] 48)).drew).ownsRow z5.heap.size 48 1 (.slice m2 j c2) j (vu Nf j)) := hid ((HL6.out.os.alloc _).drew)
    have hS0 : (fun z : World => z.cell? ⟨b11, 3, none⟩ = some (.slice m2 j c2) ∧ z.cell? ⟨w.heap.size, 3, none⟩ = some (.slice (some ⟨nb1, no1, none⟩) A.O A.oc) ∧ z.cell? ⟨Bp, 0, none⟩ = some (.int .i64 (px : Nat)) ∧ z.cell? ⟨nb1, no1 + px, none⟩ = some (.int .u64 ((an : Nat) : Int)) ∧ z.cell? ⟨w.heap.size + 1, 3, none⟩ = some (.slice (some ⟨nb2, no2, none⟩) B.O B.oc) ∧ z.cell? ⟨Bp, 1, none⟩ = some (.int .i64 (py : Nat)) ∧ z.cell? ⟨nb2, no2 + py, none⟩ = some (.int .u64 ((bn : Nat) : Int))) W5'.drew := ⟨hc3, k13, x0, kn1, k23, x1, kn2⟩
    have hS1 : (fun z : World => z.cell? ⟨b11, 3, none⟩ = some (.slice m2 j c2) ∧ z.cell? ⟨w.heap.size, 3, none⟩ = some (.slice (some ⟨nb1, no1, none⟩) A.O A.oc) ∧ z.cell? ⟨Bp, 0, none⟩ = some (.int .i64 (px : Nat)) ∧ z.cell? ⟨nb1, no1 + px, none⟩ = some (.int .u64 ((an : Nat) : Int)) ∧ z.cell? ⟨w.heap.size + 1, 3, none⟩ = some (.slice (some ⟨nb2, no2, none⟩) B.O B.oc) ∧ z.cell? ⟨Bp, 1, none⟩ = some (.int .i64 (py : Nat)) ∧ z.cell? ⟨nb2, no2 + py, none⟩ = some (.int .u64 ((bn : Nat) : Int))) (W5'.alloc (.cells #[.int .u64 ((Nf j : Nat) : Int)] 48)).drew := ⟨cell_alloc1 _ hc3, cell_alloc1 _ k13, cell_alloc1 _ x0, cell_alloc1 _ kn1, cell_alloc1 _ k23, cell_alloc1 _ x1, cell_alloc1 _ kn2⟩
    go_wp2_with fail
    refine G_region (fun z : World => z.cell? ⟨b11, 3, none⟩ = some (.slice m2 j c2) ∧ z.cell? ⟨w.heap.size, 3, none⟩ = some (.slice (some ⟨nb1, no1, none⟩) A.O A.oc) ∧ z.cell? ⟨Bp, 0, none⟩ = some (.int .i64 (px : Nat)) ∧ z.cell? ⟨nb1, no1 + px, none⟩ = some (.int .u64 ((an : Nat) : Int)) ∧ z.cell? ⟨w.heap.size + 1, 3, none⟩ = some (.slice (some ⟨nb2, no2, none⟩) B.O B.oc) ∧ z.cell? ⟨Bp, 1, none⟩ = some (.int .i64 (py : Nat)) ∧ z.cell? ⟨nb2, no2 + py, none⟩ = some (.int .u64 ((bn : Nat) : Int))) (fun i => i == 18) (by kernel_rfl) hS0 (fun _ => ?_)
    refine G_tk (i := 0) (oi := { dst := some 92, op := Op.fieldAddr 32 (Operand.tmp 11) 3, type := 0, pos := _, after := #[], guard := none }) (v := .pointer (some ⟨b11, 3, none⟩)) hS0 ?_
    (try simp only [Act.put, jq1, jq2, jq3])
    refine G_tk (i := 1) (oi := { dst := some 93, op := Op.load 25 (Operand.tmp 92), type := 25, pos := _, after := #[{ on := 0, ground := Ground.data }], guard := none }) (v := .slice m2 j c2) hS0 ?_
    (try simp only [Act.put, jq1, jq2, jq3])
    refine G_tk (i := 2) (oi := { dst := some 94, op := Op.fieldAddr 32 (Operand.tmp 2) 3, type := 0, pos := _, after := #[], guard := none }) (v := .pointer (some ⟨w.heap.size, 3, none⟩)) hS0 ?_
    (try simp only [Act.put, jq1, jq2, jq3])
    refine G_tk (i := 3) (oi := { dst := some 95, op := Op.load 25 (Operand.tmp 94), type := 25, pos := _, after := #[{ on := 2, ground := Ground.data }], guard := none }) (v := .slice (some ⟨nb1, no1, none⟩) A.O A.oc) hS0 ?_
    (try simp only [Act.put, jq1, jq2, jq3])
    refine G_tk (i := 4) (oi := { dst := some 96, op := Op.fieldAddr 86 (Operand.tmp 15) 0, type := 0, pos := _, after := #[], guard := none }) (v := .pointer (some ⟨Bp, 0, none⟩)) hS0 ?_
    (try simp only [Act.put, jq1, jq2, jq3])
    refine G_tk (i := 5) (oi := { dst := some 97, op := Op.load 3 (Operand.tmp 96), type := 3, pos := _, after := #[{ on := 4, ground := Ground.data }], guard := none }) (v := .int .i64 (px : Nat)) hS0 ?_
    (try simp only [Act.put, jq1, jq2, jq3])
    refine G_tk (i := 6) (oi := { dst := some 98, op := Op.indexAddr 25 (Operand.tmp 95) (Operand.tmp 97), type := 0, pos := _, after := #[{ on := 3, ground := Ground.data }, { on := 5, ground := Ground.data }], guard := none }) (v := .pointer (some ⟨nb1, no1 + px, none⟩)) hS0 ?_
    (try simp only [Act.put, jq1, jq2, jq3])
    refine G_tk (i := 7) (oi := { dst := some 99, op := Op.load 48 (Operand.tmp 98), type := 48, pos := _, after := #[{ on := 6, ground := Ground.data }], guard := none }) (v := .int .u64 ((an : Nat) : Int)) hS0 ?_
    (try simp only [Act.put, jq1, jq2, jq3])
    refine G_tk (i := 8) (oi := { dst := some 100, op := Op.fieldAddr 32 (Operand.tmp 3) 3, type := 0, pos := _, after := #[], guard := none }) (v := .pointer (some ⟨w.heap.size + 1, 3, none⟩)) hS0 ?_
    (try simp only [Act.put, jq1, jq2, jq3])
    refine G_tk (i := 9) (oi := { dst := some 101, op := Op.load 25 (Operand.tmp 100), type := 25, pos := _, after := #[{ on := 8, ground := Ground.data }], guard := none }) (v := .slice (some ⟨nb2, no2, none⟩) B.O B.oc) hS0 ?_
    (try simp only [Act.put, jq1, jq2, jq3])
    refine G_tk (i := 10) (oi := { dst := some 102, op := Op.fieldAddr 86 (Operand.tmp 15) 1, type := 0, pos := _, after := #[], guard := none }) (v := .pointer (some ⟨Bp, 1, none⟩)) hS0 ?_
    (try simp only [Act.put, jq1, jq2, jq3])
    refine G_tk (i := 11) (oi := { dst := some 103, op := Op.load 3 (Operand.tmp 102), type := 3, pos := _, after := #[{ on := 10, ground := Ground.data }], guard := none }) (v := .int .i64 (py : Nat)) hS0 ?_
    (try simp only [Act.put, jq1, jq2, jq3])
    refine G_tk (i := 12) (oi := { dst := some 104, op := Op.indexAddr 25 (Operand.tmp 101) (Operand.tmp 103), type := 0, pos := _, after := #[{ on := 9, ground := Ground.data }, { on := 11, ground := Ground.data }], guard := none }) (v := .pointer (some ⟨nb2, no2 + py, none⟩)) hS0 ?_
    (try simp only [Act.put, jq1, jq2, jq3])
    refine G_tk (i := 13) (oi := { dst := some 105, op := Op.load 48 (Operand.tmp 104), type := 48, pos := _, after := #[{ on := 12, ground := Ground.data }], guard := none }) (v := .int .u64 ((bn : Nat) : Int)) hS0 ?_
    (try simp only [Act.put, jq1, jq2, jq3])
    refine G_take (i := 14) (oi := { dst := some 106, op := Op.binOp BinOp.or 48 (Operand.tmp 99) (Operand.tmp 105) 48, type := 48, pos := _, after := #[{ on := 7, ground := Ground.data }, { on := 13, ground := Ground.data }], guard := none }) (v := .int .u64 ((Nf j : Nat) : Int)) rfl (by kernel_rfl) (by kernel_rfl) (by kernel_rfl) (by kernel_rfl) (fun _ _ _ h => h) (by rfl) (fun u hu => ?_) hS0 ?_
    ·(try dsimp only at hu); go_simp; rw [E2.out]
    (try simp only [Act.put, jq1, jq2, jq3])
    refine G_step (i := 15) (o := _) (by kernel_rfl) rfl (fun K' hKB => ?_)
    go_simp
    refine hKB.out _ _ (fun _ => hS1) (fun _ => ?_)
    (try simp only [Act.put, jq1, jq2, jq3])
    refine G_step (i := 16) (o := _) (by kernel_rfl) rfl (fun K' hKB => ?_)
    refine step_append_lies _ (by rfl) _ _ _ (by rfl) z5.heap.size 48 iu _ 1 8 Tryz.underlying25 HU.out.1 HU.out.2.1 HU.out.2.2.1 HU.out.2.2.2 rfl (by omega) (.slice m2 j c2) j (vu Nf j) (by rfl) (HOW.out) ⟨W5'.heap.size, 0, none⟩ 1 1 [.int .u64 ((Nf j : Nat) : Int)] (by rfl) (by rfl) (World.news_of_block (w := (W5'.alloc (.cells #[.int .u64 ((Nf j : Nat) : Int)] 48)).drew) (cs := #[.int .u64 ((Nf j : Nat) : Int)]) (t := 48) (fr := (0, 0)) hUb) (by simp [Value.oneCell']) (by omega) (by unfold maxLen; omega) (by omega) (by simp; omega) (W5'.heap.size + 1) (by simp) ?_
    intro g2 cap2 w6 hown4 hgrow4 hat4 hlt4
    have hgr : (W5'.alloc (.cells #[.int .u64 ((Nf j : Nat) : Int)] 48)).grownBy w6 (Value.slice m2 j c2).ownBlock := ⟨hgrow4.os, hgrow4.tape, hgrow4.output, hgrow4.size, hgrow4.block⟩
    obtain ⟨hoth, hfz, HL7, _⟩ := HL6.out.nots (ov' := .slice (some ⟨g2, 0, none⟩) (j + 1) cap2) hown4 hgr (hat4.imp (fun e => by rw [e]; simp [Value.ownBlock]) (fun e => by rw [e]; simp [Value.ownBlock]))
    have s4 : (fun z : World => z.cell? ⟨b11, 3, none⟩ = some (.slice m2 j c2) ∧ z.cell? ⟨w.heap.size, 3, none⟩ = some (.slice (some ⟨nb1, no1, none⟩) A.O A.oc) ∧ z.cell? ⟨Bp, 0, none⟩ = some (.int .i64 (px : Nat)) ∧ z.cell? ⟨nb1, no1 + px, none⟩ = some (.int .u64 ((an : Nat) : Int)) ∧ z.cell? ⟨w.heap.size + 1, 3, none⟩ = some (.slice (some ⟨nb2, no2, none⟩) B.O B.oc) ∧ z.cell? ⟨Bp, 1, none⟩ = some (.int .i64 (py : Nat)) ∧ z.cell? ⟨nb2, no2 + py, none⟩ = some (.int .u64 ((bn : Nat) : Int))) w6 := ⟨oth_cellB hoth (Or.inr ⟨_, _, _, HL6.out.aut, by decide⟩) hc3, oth_cellB hoth (Or.inl (by dsimp only; omega)) k13, oth_cellB hoth (Or.inr ⟨_, _, _, HBK5.out, by decide⟩) x0, oth_cellB hoth (Or.inl hln1) kn1, oth_cellB hoth (Or.inl hzl) k23, oth_cellB hoth (Or.inr ⟨_, _, _, HBK5.out, by decide⟩) x1, oth_cellB hoth (Or.inl hln2) kn2⟩
    have HL7' := hid HL7
    have hs4 := s4.1
    clear hown4 hgrow4 hgr hat4 hlt4 hoth HL7 hUb HOW hS1
    refine hKB.out _ _ (fun _ => s4) (fun _ => ?_)
    (try simp only [Act.put, jq1, jq2, jq3])
    refine G_step (i := 17) (o := _) (by kernel_rfl) rfl (fun K' hKB => ?_)
    go_simp
    refine hKB.out _ _ (fun _ => s4) (fun _ => ?_)
    (try simp only [Act.put, jq1, jq2, jq3])
    refine G_step (i := 18) (o := _) (by kernel_rfl) rfl (fun K' hKB => ?_)
    go_simp
    refine hKB.out _ _ (fun h => absurd h (by decide)) (fun _ => ?_)
    (try simp only [Act.put, jq1, jq2, jq3])
    refine G_done (by kernel_rfl) ?_ _
    (try dsimp only [Exit.then])
    clear s4 hs4 hfz hS0 hc3 x0 x1 kn1 kn2 k13 k23 HBK5 HL6
    generalize w6.setCell ⟨b11, 3, none⟩ (.slice (some ⟨g2, 0, none⟩) (j + 1) cap2) = W7' at *
    go_wp2
    go_roundw
    case rel => exact ⟨j + 1, _, _, by omega, by go_num, HL7'⟩
    case measure => simp [intOf]; omega
   ·have HJE : Hid (j = p2) := hid (by omega)
    have HLe := HLq
    rw [HJE.out] at HLe
    have HLF1 := hid (lf_start (bFS A B p2) HLe.out)
    obtain ⟨iv, hi, hz0, hz1, hz2⟩ := info_parts Tryz.info29
    have HV : Hid (Tryz.prog.info? 29 = some iv ∧ iv.zero = some (.slice none 0 0) ∧ iv.size = 1 ∧ iv.bytes = 24) := ⟨hi, hz0, hz1, hz2⟩
    clear hi hz0 hz1 hz2 HLe HLq HJE
    obtain ⟨_, hKAx, _, _, _, _, hFA, _⟩ := chkA_ok HH.out.2.2.2.1
    have HGA := hid ((HH.out.1.below HL5.out).fair)
    have C23 : Hid (Calls Tryz.prog 25 #[.slice A.fa A.K A.fc] wr fun e w' => e = .returned (.slice (some ⟨wr.heap.size, 0, none⟩) A.K A.K) ∧ Hid (Ls w' wr.heap.size A.K (fun r => ofL (A.FZ r) (A.FL r)) ∧ Below wr.heap.size wr w' ∧ wr.heap.size < w'.heap.size)) := hid (by
     refine (setsOf_any A.fa A.K A.fc A.FL A.FZ wr (by omega) HH.out.1.f47 (HH.out.1.fair.below (HLF1.out.l.fr.below HL5.out (fun b hb e => by have h1 := HW4.out; have h2 := HB11.out.1; omega))) (fun r hr i hi => by have := hFA r hr i hi; omega)).mono ?_
     rintro e w' ⟨rfl, h1, h2, h3⟩
     exact ⟨rfl, hid ⟨h1, h2, h3⟩⟩)
    have k4 := HLF1.out.l.old HBA5.out.r4 (show w.heap.size ≠ b11 by have h1 := HB11.out.1; have h2 := HB11.out.2; omega)
    clear hKAx hFA HGA
    go_wp2_with fail
    refine C23.out.mono ?_
    rintro e z6 ⟨rfl, hq⟩
    obtain ⟨sb, hsb⟩ : ∃ sb, wr.heap.size = sb := ⟨_, rfl⟩
    obtain ⟨fv0, V0, HLG⟩ : ∃ (fv : Value) (V : List Value), Hid (Lg b11 z5 (.slice e1 e2 e3) (.slice n1 n2 n3) (.slice m1 p2 c1) (.slice m2 p2 c2) fv Mf Nf p2 (bFS A B p2) (0) V sb A.K (fun r => ofL (A.FZ r) (A.FL r)) z6) := ⟨_, _, hid (by rw [← hsb]; exact lg_start HLF1.out hq.out.2.1 hq.out.1 hq.out.2.2)⟩
    rw [hsb]
    clear C23 hq k4 hsb
    go_wp2
    go_loopw [115] (fun i wr => ∃ (j : Nat) (fv : Value) (V : List Value), j ≤ A.K ∧ i = .int .i64 j ∧ Hid (Lg b11 z5 (.slice e1 e2 e3) (.slice n1 n2 n3) (.slice m1 p2 c1) (.slice m2 p2 c2) fv Mf Nf p2 (bFS A B p2) (j) V sb A.K (fun r => ofL (A.FZ r) (A.FL r)) wr)) (fun i _ => A.K - (intOf i).toNat)
    case atStart => exact ⟨0, _, _, Nat.zero_le _, rfl, HLG⟩
    case round =>
     obtain ⟨j, fv, V, hj, rfl, HLq⟩ := hrel
     clear HLG
     by_cases hlt : j < A.K
     ·obtain ⟨g1, g3, hfv⟩ := owns_sl HLq.out.f.r.top
      subst hfv
      have hst := HLq.out.s j hlt
      (try dsimp only at hst)
      have hsm := hst.small
      have hK80 : j ≤ 80 := by have := HH.out.2.2.2.2.2; omega
      have HFS := hid (bFS_A (A := A) (B := B) HH.out.2.2.2.1 (k := p2) hlt)
      generalize ofL (A.FZ j) (A.FL j) = xs at *
      go_wp2_with (first | (refine wl_load rfl _ rfl sb (j * 32) rfl _ hst ?_) | (refine wl_store rfl _ _ rfl wr.heap.size xs rfl rfl _ (bx_alloc0 wr) hsm ?_; intro w1 hb1 hs1 hx1) | fail)
      have hbl : Below wr.heap.size wr w1 := (box_below wr _).trans (hb1.below jq0 (by simp))
      have HL1 := hid (HLq.out.below hbl)
      have HX1 := hid hx1
      have hc4 : w1.cell? ⟨b11, 4, none⟩ = some (.slice g1 (j) g3) := cell_of_cells HL1.out.f.l.aut rfl
      have CW := hid (where44 p1 p2 p3 (nAt (bL A B p2)) (fun i => mem xs (nAt (bL A B p2) i).1) (.pointer (some ⟨wr.heap.size, 0, none⟩)) w1.drew HG.out.2.1 (((HL1.out.f.l.sp HG.out.2.2.2.2 HPN.out)).below (Below.refl _ _).drew) (fun i hi u hu => b44 wr.heap.size xs _ _ u (by
       have hP : bP A B (nAt (bL A B p2) i) := bL_all HH.out.2.2.2.1 HH.out.2.2.2.2.1 p2 _ (nAt_mem (by have := HG.out.1; omega))
       have h3 := (chkA_ok HH.out.2.2.2.1).1
       have h4 := hP.1
       omega) ((show Bx w1.drew wr.heap.size xs from ⟨HX1.out.blk, HX1.out.small⟩).below hu (bx_lt (w := w1) HX1.out))))
      have hS0 : (fun z : World => z.cell? ⟨b11, 4, none⟩ = some (.slice g1 (j) g3)) w1.drew := hc4
      clear hst hsm hb1 hs1 hx1 hbl
      go_wp2_with fail
      refine G_region (fun z : World => z.cell? ⟨b11, 4, none⟩ = some (.slice g1 (j) g3)) (fun i => i == 8) (by kernel_rfl) hS0 (fun _ => ?_)
      refine G_tk (i := 0) (oi := { dst := some 119, op := Op.fieldAddr 32 (Operand.tmp 11) 4, type := 0, pos := _, after := #[], guard := none }) (v := .pointer (some ⟨b11, 4, none⟩)) hS0 ?_
      (try simp only [Act.put, jq1, jq2, jq3])
      refine G_tk (i := 1) (oi := { dst := some 120, op := Op.load 30 (Operand.tmp 119), type := 30, pos := _, after := #[{ on := 0, ground := Ground.data }], guard := none }) (v := .slice g1 (j) g3) hS0 ?_
      (try simp only [Act.put, jq1, jq2, jq3])
      refine G_tk (i := 2) (oi := { dst := some 121, op := Op.move (Operand.tmp 12), type := 78, pos := _, after := #[], guard := none }) (v := .slice p1 p2 p3) hS0 ?_
      (try simp only [Act.put, jq1, jq2, jq3])
      refine G_take (i := 3) (oi := { dst := some 122, op := Op.makeFunc (.func 38) #[] #[Operand.tmp 17], type := 90, pos := _, after := #[], guard := none }) (v := .func (.func 38) #[] #[.pointer (some ⟨wr.heap.size, 0, none⟩)]) rfl (by kernel_rfl) (by kernel_rfl) (by kernel_rfl) (by kernel_rfl) (fun _ _ _ h => h) (by rfl) (fun u hu => ?_) hS0 ?_
      ·(try dsimp only at hu); (first | go_simp | simp [hmf])
      (try simp only [Act.put, jq1, jq2, jq3])
      refine G_step (i := 4) (o := _) (by kernel_rfl) rfl (fun K' hK => ?_)
      go_simp
      refine CW.out.mono ?_
      rintro e w2 ⟨v, rfl, hv, hb2⟩
      obtain ⟨va, vc, hvv⟩ := owns_sl hv
      subst hvv
      have hb12 : Below w1.heap.size w1 w2 := ((Below.refl w1.heap.size w1).drew).trans hb2
      have HL2 := hid (HL1.out.below hb12)
      have hz51 : z5.heap.size ≤ w1.drew.heap.size := HL1.out.f.l.fr.size
      have HV2 := hid (owns_mono hv hz51)
      rw [HFS.out] at HV2
      have hz52 : z5.heap.size ≤ w2.heap.size := HL2.out.f.l.fr.size
      have hcl : (cs (whN (fun i => mem xs (nAt (bL A B p2) i).1) p2)).length = (cs (bFS A B p2 (j))).length := by rw [HFS.out]
      rw [hcl]
      obtain ⟨vn, hvn⟩ : ∃ vn, (cs (bFS A B p2 (j))).length = vn := ⟨_, rfl⟩
      rw [hvn]
      have HV3 : Hid (w2.ownsRow z5.heap.size 3 1 (.slice va vn vc) (cs (bFS A B p2 (j))).length (vals (cs (bFS A B p2 (j))))) := hid (by have := HV2.out; rw [← hvn]; first | exact this | (rw [hcl] at this; exact this))
      have hS2 : (fun z : World => z.cell? ⟨b11, 4, none⟩ = some (.slice g1 (j) g3)) w2 := below_cell hb12 jq0 hc4
      have hUb : (w2.alloc (.cells #[.slice va vn vc] 29)).heap[w2.heap.size]? = some (.cells #[.slice va vn vc] 29) := Go.Deep.blk_alloc_new _ _
      have HOW : Hid ((w2.alloc (.cells #[.slice va vn vc] 29)).ownsRow z5.heap.size 29 1 (.slice g1 (j) g3) (j) V) := hid (HL2.out.f.r.top.alloc _)
      have hS3 : (fun z : World => z.cell? ⟨b11, 4, none⟩ = some (.slice g1 (j) g3)) (w2.alloc (.cells #[.slice va vn vc] 29)) := cell_alloc1 _ hS2
      clear hv hb2 hb12 hcl hvn HV2 CW
      try dsimp only
      refine hK.out _ _ (fun _ => hS2) (fun _ => ?_)
      (try simp only [Act.put, jq1, jq2, jq3])
      refine G_step (i := 5) (o := _) (by kernel_rfl) rfl (fun K' hK => ?_)
      go_simp
      refine hK.out _ _ (fun _ => hS3) (fun _ => ?_)
      (try simp only [Act.put, jq1, jq2, jq3])
      refine G_step (i := 6) (o := _) (by kernel_rfl) rfl (fun K' hK => ?_)
      refine step_append_lies _ (by rfl) _ _ _ (by rfl) z5.heap.size 29 iv _ 1 24 Tryz.underlying30 HV.out.1 HV.out.2.1 HV.out.2.2.1 HV.out.2.2.2 rfl (by omega) (.slice g1 (j) g3) (j) V (by rfl) (HOW.out) ⟨w2.heap.size, 0, none⟩ 1 1 [.slice va vn vc] (by rfl) (by rfl) (World.news_of_block (w := (w2.alloc (.cells #[.slice va vn vc] 29))) (cs := #[.slice va vn vc]) (t := 29) (fr := (0, 0)) hUb) (by simp [Value.oneCell']) (by omega) (by unfold maxLen; omega) (by omega) (by simp; omega) (w2.heap.size + 1) (by simp) ?_
      intro g cap w4 hown4 hgrow4 hat4 hlt4
      have hgr : (w2.alloc (.cells #[.slice va vn vc] 29)).grownBy w4 (Value.slice g1 (j) g3).ownBlock := ⟨hgrow4.os, hgrow4.tape, hgrow4.output, hgrow4.size, hgrow4.block⟩
      obtain ⟨hs4, hfz, HL6⟩ := HL2.out.app (fv' := .slice (some ⟨g, 0, none⟩) (j + 1) cap) (v := .slice va vn vc) HV3.out hown4 hgr (hat4.imp (fun e => by rw [e]; simp [Value.ownBlock]) (fun e => by rw [e]; simp [Value.ownBlock]))
      have s4 : (fun z : World => z.cell? ⟨b11, 4, none⟩ = some (.slice g1 (j) g3)) w4 := hs4
      clear hown4 hgrow4 hgr hat4 hlt4 hUb HOW hS3 hS2
      refine hK.out _ _ (fun _ => s4) (fun _ => ?_)
      (try simp only [Act.put, jq1, jq2, jq3])
      refine G_step (i := 7) (o := _) (by kernel_rfl) rfl (fun K' hK => ?_)
      go_simp
      refine hK.out _ _ (fun _ => s4) (fun _ => ?_)
      (try simp only [Act.put, jq1, jq2, jq3])
      refine G_step (i := 8) (o := _) (by kernel_rfl) rfl (fun K' hK => ?_)
      go_simp
      refine hK.out _ _ (fun h => absurd h (by decide)) (fun _ => ?_)
      (try simp only [Act.put, jq1, jq2, jq3])
      refine G_done (by kernel_rfl) ?_ _
      (try dsimp only [Exit.then])
      clear s4 hs4 hfz hS0 hc4
      generalize w4.setCell ⟨b11, 4, none⟩ (.slice (some ⟨g, 0, none⟩) (j + 1) cap) = W7' at *
      go_wp2
      go_roundw
      case rel => exact ⟨j + 1, _, _, by omega, by go_num, HL6⟩
      case measure => simp [intOf]; omega
     ·have HJE : Hid (j = A.K) := hid (by omega)
      have HLX := HLq
      rw [HJE.out] at HLX
      have HLF2 := hid HLX.out.f
      clear HLq HLX HJE
      obtain ⟨_, hKBx, _, _, _, _, hFB, _⟩ := chkA_ok HH.out.2.2.2.2.1
      have HGB := hid ((HH.out.2.1.below HL5.out).fair)
      have C23 : Hid (Calls Tryz.prog 25 #[.slice B.fa B.K B.fc] wr fun e w' => e = .returned (.slice (some ⟨wr.heap.size, 0, none⟩) B.K B.K) ∧ Hid (Ls w' wr.heap.size B.K (fun r => ofL (B.FZ r) (B.FL r)) ∧ Below wr.heap.size wr w' ∧ wr.heap.size < w'.heap.size)) := hid (by
       refine (setsOf_any B.fa B.K B.fc B.FL B.FZ wr (by omega) HH.out.2.1.f47 (HH.out.2.1.fair.below (HLF2.out.l.fr.below HL5.out (fun b hb e => by have h1 := HW4.out; have h2 := HB11.out.1; omega))) (fun r hr i hi => by have := hFB r hr i hi; omega)).mono ?_
       rintro e w' ⟨rfl, h1, h2, h3⟩
       exact ⟨rfl, hid ⟨h1, h2, h3⟩⟩)
      have k4 := HLF2.out.l.old HBB5.out.r4 (show w.heap.size + 1 ≠ b11 by have h1 := HB11.out.1; have h2 := HB11.out.2; omega)
      clear hKBx hFB HGB
      go_wp2_with fail
      refine C23.out.mono ?_
      rintro e z7 ⟨rfl, hq⟩
      obtain ⟨sb, hsb⟩ : ∃ sb, wr.heap.size = sb := ⟨_, rfl⟩
      obtain ⟨fv0, V0, HLG⟩ : ∃ (fv : Value) (V : List Value), Hid (Lg b11 z5 (.slice e1 e2 e3) (.slice n1 n2 n3) (.slice m1 p2 c1) (.slice m2 p2 c2) fv Mf Nf p2 (bFS A B p2) (A.K + 0) V sb B.K (fun r => ofL (B.FZ r) (B.FL r)) z7) := ⟨_, _, hid (by rw [← hsb]; exact lg_start HLF2.out hq.out.2.1 hq.out.1 hq.out.2.2)⟩
      rw [hsb]
      clear C23 hq k4 hsb
      go_wp2
      go_loopw [132] (fun i wr => ∃ (j : Nat) (fv : Value) (V : List Value), j ≤ B.K ∧ i = .int .i64 j ∧ Hid (Lg b11 z5 (.slice e1 e2 e3) (.slice n1 n2 n3) (.slice m1 p2 c1) (.slice m2 p2 c2) fv Mf Nf p2 (bFS A B p2) (A.K + j) V sb B.K (fun r => ofL (B.FZ r) (B.FL r)) wr)) (fun i _ => B.K - (intOf i).toNat)
      case atStart => exact ⟨0, _, _, Nat.zero_le _, rfl, HLG⟩
      case round =>
       obtain ⟨j, fv, V, hj, rfl, HLq⟩ := hrel
       clear HLG
       by_cases hlt : j < B.K
       ·obtain ⟨g1, g3, hfv⟩ := owns_sl HLq.out.f.r.top
        subst hfv
        have hst := HLq.out.s j hlt
        (try dsimp only at hst)
        have hsm := hst.small
        have hK80 : A.K + j ≤ 80 := by have := HH.out.2.2.2.2.2; omega
        have HFS := hid (bFS_B (A := A) (B := B) HH.out.2.2.2.2.1 (k := p2) hlt)
        generalize ofL (B.FZ j) (B.FL j) = xs at *
        go_wp2_with (first | (refine wl_load rfl _ rfl sb (j * 32) rfl _ hst ?_) | (refine wl_store rfl _ _ rfl wr.heap.size xs rfl rfl _ (bx_alloc0 wr) hsm ?_; intro w1 hb1 hs1 hx1) | fail)
        have hbl : Below wr.heap.size wr w1 := (box_below wr _).trans (hb1.below jq0 (by simp))
        have HL1 := hid (HLq.out.below hbl)
        have HX1 := hid hx1
        have hc4 : w1.cell? ⟨b11, 4, none⟩ = some (.slice g1 (A.K + j) g3) := cell_of_cells HL1.out.f.l.aut rfl
        have CW := hid (where46 p1 p2 p3 (nAt (bL A B p2)) (fun i => mem xs (nAt (bL A B p2) i).2) (.pointer (some ⟨wr.heap.size, 0, none⟩)) w1.drew HG.out.2.1 (((HL1.out.f.l.sp HG.out.2.2.2.2 HPN.out)).below (Below.refl _ _).drew) (fun i hi u hu => b46 wr.heap.size xs _ _ u (by
         have hP : bP A B (nAt (bL A B p2) i) := bL_all HH.out.2.2.2.1 HH.out.2.2.2.2.1 p2 _ (nAt_mem (by have := HG.out.1; omega))
         have h3 := (chkA_ok HH.out.2.2.2.2.1).1
         have h4 := hP.2
         omega) ((show Bx w1.drew wr.heap.size xs from ⟨HX1.out.blk, HX1.out.small⟩).below hu (bx_lt (w := w1) HX1.out))))
        have hS0 : (fun z : World => z.cell? ⟨b11, 4, none⟩ = some (.slice g1 (A.K + j) g3)) w1.drew := hc4
        clear hst hsm hb1 hs1 hx1 hbl
        go_wp2_with fail
        refine G_region (fun z : World => z.cell? ⟨b11, 4, none⟩ = some (.slice g1 (A.K + j) g3)) (fun i => i == 8) (by kernel_rfl) hS0 (fun _ => ?_)
        refine G_tk (i := 0) (oi := { dst := some 136, op := Op.fieldAddr 32 (Operand.tmp 11) 4, type := 0, pos := _, after := #[], guard := none }) (v := .pointer (some ⟨b11, 4, none⟩)) hS0 ?_
        (try simp only [Act.put, jq1, jq2, jq3])
        refine G_tk (i := 1) (oi := { dst := some 137, op := Op.load 30 (Operand.tmp 136), type := 30, pos := _, after := #[{ on := 0, ground := Ground.data }], guard := none }) (v := .slice g1 (A.K + j) g3) hS0 ?_
        (try simp only [Act.put, jq1, jq2, jq3])
        refine G_tk (i := 2) (oi := { dst := some 138, op := Op.move (Operand.tmp 12), type := 78, pos := _, after := #[], guard := none }) (v := .slice p1 p2 p3) hS0 ?_
        (try simp only [Act.put, jq1, jq2, jq3])
        refine G_take (i := 3) (oi := { dst := some 139, op := Op.makeFunc (.func 40) #[] #[Operand.tmp 19], type := 90, pos := _, after := #[], guard := none }) (v := .func (.func 40) #[] #[.pointer (some ⟨wr.heap.size, 0, none⟩)]) rfl (by kernel_rfl) (by kernel_rfl) (by kernel_rfl) (by kernel_rfl) (fun _ _ _ h => h) (by rfl) (fun u hu => ?_) hS0 ?_
        ·(try dsimp only at hu); (first | go_simp | simp [hmf])
        (try simp only [Act.put, jq1, jq2, jq3])
        refine G_step (i := 4) (o := _) (by kernel_rfl) rfl (fun K' hK => ?_)
        go_simp
        refine CW.out.mono ?_
        rintro e w2 ⟨v, rfl, hv, hb2⟩
        obtain ⟨va, vc, hvv⟩ := owns_sl hv
        subst hvv
        have hb12 : Below w1.heap.size w1 w2 := ((Below.refl w1.heap.size w1).drew).trans hb2
        have HL2 := hid (HL1.out.below hb12)
        have hz51 : z5.heap.size ≤ w1.drew.heap.size := HL1.out.f.l.fr.size
        have HV2 := hid (owns_mono hv hz51)
        rw [HFS.out] at HV2
        have hz52 : z5.heap.size ≤ w2.heap.size := HL2.out.f.l.fr.size
        have hcl : (cs (whN (fun i => mem xs (nAt (bL A B p2) i).2) p2)).length = (cs (bFS A B p2 (A.K + j))).length := by rw [HFS.out]
        rw [hcl]
        obtain ⟨vn, hvn⟩ : ∃ vn, (cs (bFS A B p2 (A.K + j))).length = vn := ⟨_, rfl⟩
        rw [hvn]
        have HV3 : Hid (w2.ownsRow z5.heap.size 3 1 (.slice va vn vc) (cs (bFS A B p2 (A.K + j))).length (vals (cs (bFS A B p2 (A.K + j))))) := hid (by have := HV2.out; rw [← hvn]; first | exact this | (rw [hcl] at this; exact this))
        have hS2 : (fun z : World => z.cell? ⟨b11, 4, none⟩ = some (.slice g1 (A.K + j) g3)) w2 := below_cell hb12 jq0 hc4
        have hUb : (w2.alloc (.cells #[.slice va vn vc] 29)).heap[w2.heap.size]? = some (.cells #[.slice va vn vc] 29) := Go.Deep.blk_alloc_new _ _
        have HOW : Hid ((w2.alloc (.cells #[.slice va vn vc] 29)).ownsRow z5.heap.size 29 1 (.slice g1 (A.K + j) g3) (A.K + j) V) := hid (HL2.out.f.r.top.alloc _)
        have hS3 : (fun z : World => z.cell? ⟨b11, 4, none⟩ = some (.slice g1 (A.K + j) g3)) (w2.alloc (.cells #[.slice va vn vc] 29)) := cell_alloc1 _ hS2
        clear hv hb2 hb12 hcl hvn HV2 CW
        try dsimp only
        refine hK.out _ _ (fun _ => hS2) (fun _ => ?_)
        (try simp only [Act.put, jq1, jq2, jq3])
        refine G_step (i := 5) (o := _) (by kernel_rfl) rfl (fun K' hK => ?_)
        go_simp
        refine hK.out _ _ (fun _ => hS3) (fun _ => ?_)
        (try simp only [Act.put, jq1, jq2, jq3])
        refine G_step (i := 6) (o := _) (by kernel_rfl) rfl (fun K' hK => ?_)
        refine step_append_lies _ (by rfl) _ _ _ (by rfl) z5.heap.size 29 iv _ 1 24 Tryz.underlying30 HV.out.1 HV.out.2.1 HV.out.2.2.1 HV.out.2.2.2 rfl (by omega) (.slice g1 (A.K + j) g3) (A.K + j) V (by rfl) (HOW.out) ⟨w2.heap.size, 0, none⟩ 1 1 [.slice va vn vc] (by rfl) (by rfl) (World.news_of_block (w := (w2.alloc (.cells #[.slice va vn vc] 29))) (cs := #[.slice va vn vc]) (t := 29) (fr := (0, 0)) hUb) (by simp [Value.oneCell']) (by omega) (by unfold maxLen; omega) (by omega) (by simp; omega) (w2.heap.size + 1) (by simp) ?_
        intro g cap w4 hown4 hgrow4 hat4 hlt4
        have hgr : (w2.alloc (.cells #[.slice va vn vc] 29)).grownBy w4 (Value.slice g1 (A.K + j) g3).ownBlock := ⟨hgrow4.os, hgrow4.tape, hgrow4.output, hgrow4.size, hgrow4.block⟩
        obtain ⟨hs4, hfz, HL6⟩ := HL2.out.app (fv' := .slice (some ⟨g, 0, none⟩) (A.K + j + 1) cap) (v := .slice va vn vc) HV3.out hown4 hgr (hat4.imp (fun e => by rw [e]; simp [Value.ownBlock]) (fun e => by rw [e]; simp [Value.ownBlock]))
        have s4 : (fun z : World => z.cell? ⟨b11, 4, none⟩ = some (.slice g1 (A.K + j) g3)) w4 := hs4
        clear hown4 hgrow4 hgr hat4 hlt4 hUb HOW hS3 hS2
        refine hK.out _ _ (fun _ => s4) (fun _ => ?_)
        (try simp only [Act.put, jq1, jq2, jq3])
        refine G_step (i := 7) (o := _) (by kernel_rfl) rfl (fun K' hK => ?_)
        go_simp
        refine hK.out _ _ (fun _ => s4) (fun _ => ?_)
        (try simp only [Act.put, jq1, jq2, jq3])
        refine G_step (i := 8) (o := _) (by kernel_rfl) rfl (fun K' hK => ?_)
        go_simp
        refine hK.out _ _ (fun h => absurd h (by decide)) (fun _ => ?_)
        (try simp only [Act.put, jq1, jq2, jq3])
        refine G_done (by kernel_rfl) ?_ _
        (try dsimp only [Exit.then])
        clear s4 hs4 hfz hS0 hc4
        generalize w4.setCell ⟨b11, 4, none⟩ (.slice (some ⟨g, 0, none⟩) (A.K + j + 1) cap) = W7' at *
        go_wp2
        go_roundw
        case rel => exact ⟨j + 1, _, _, by omega, by go_num, HL6⟩
        case measure => simp [intOf]; omega
       ·have HJE : Hid (j = B.K) := hid (by omega)
        have HLX := HLq
        rw [HJE.out] at HLX
        obtain ⟨g1, g3, hfv⟩ := owns_sl HLX.out.f.r.top
        subst hfv
        have HLF3 := hid HLX.out.f
        have hBne : w.heap.size + 1 + 1 ≠ b11 := by have h1 := HB11.out.1; have h2 := HB11.out.2; omega
        have hres : wr.heap[w.heap.size + 1 + 1]? = some (.cells nil5 32) := (HLF3.out.l.fr.block _ (jq4.1 HRE5.out).1 hBne).trans HRE5.out
        obtain ⟨⟨u0, u1, u2, u3, u4⟩, _⟩ := five_cells HLF3.out.l.aut
        obtain ⟨⟨y0, y1, y2, y3, y4⟩, yf⟩ := five_cells hres
        have g0 := yf 0
        have gg1 := yf 1
        have gg2 := yf 2
        have gg3 := yf 3
        have gg4 := yf 4
        obtain ⟨X, hX⟩ : ∃ X, (((((wr.setCell ⟨w.heap.size + 1 + 1, 0, none⟩ (.slice e1 e2 e3)).setCell ⟨w.heap.size + 1 + 1, 1, none⟩ (.slice n1 n2 n3)).setCell ⟨w.heap.size + 1 + 1, 2, none⟩ (.slice m1 p2 c1)).setCell ⟨w.heap.size + 1 + 1, 3, none⟩ (.slice m2 p2 c2)).setCell ⟨w.heap.size + 1 + 1, 4, none⟩ (.slice g1 (A.K + B.K) g3)) = X := ⟨_, rfl⟩
        obtain ⟨hx5, hxb⟩ := set5 _ _ _ _ _ hres hX
        obtain ⟨⟨k0, k1, k2, k3, k4⟩, _⟩ := five_cells hx5
        have HF : Hid (BoIs w A B (.returned (.tuple #[.agg #[.slice e1 e2 e3, .slice n1 n2 n3, .slice m1 p2 c1, .slice m2 p2 c2, .slice g1 (A.K + B.K) g3], .int .i64 0])) X) := hid (bo_end HH.out.2.2.2.1 HH.out.2.2.2.2.1 HH.out.2.2.2.2.2 HL5.out (Nat.le_trans HW4.out HB11.out.1) HAUT.out HLF3.out hres hxb (by omega) HW4.out HG.out.2.2.1 HG.out.2.2.2.1 HMN.out.1 HMN.out.2 HG.out.1 HG.out.2.1)
        clear yf hxb hx5 hres HLX HLF3 HLq
        go_wp2
        refine ⟨rfl, .tuple #[.agg #[.slice e1 e2 e3, .slice n1 n2 n3, .slice m1 p2 c1, .slice m2 p2 c2, .slice g1 (A.K + B.K) g3], .int .i64 0], by simp [results, Tryz.f12, go_sem, k0, k1, k2, k3, k4], ?_⟩
        exact HF.out
 ·obtain ⟨⟨y0, y1, y2, y3, y4⟩, yf⟩ := five_cells HRE5.out
  have g0 := yf 0
  have g1 := yf 1
  have g2 := yf 2
  have g3 := yf 3
  have g4 := yf 4
  obtain ⟨X, hX⟩ : ∃ X, (((((z5.setCell ⟨w.heap.size + 1 + 1, 0, none⟩ (.slice none 0 0)).setCell ⟨w.heap.size + 1 + 1, 1, none⟩ (.slice none 0 0)).setCell ⟨w.heap.size + 1 + 1, 2, none⟩ (.slice none 0 0)).setCell ⟨w.heap.size + 1 + 1, 3, none⟩ (.slice none 0 0)).setCell ⟨w.heap.size + 1 + 1, 4, none⟩ (.slice none 0 0)) = X := ⟨_, rfl⟩
  obtain ⟨hx5, hxb⟩ := set5 _ _ _ _ _ HRE5.out hX
  obtain ⟨⟨k0, k1, k2, k3, k4⟩, _⟩ := five_cells hx5
  have HF : Hid (BoIs w A B (.returned (.tuple #[.agg nil5, .int .i64 2])) X) := hid (Or.inr (Or.inr (Or.inl ⟨HH.out.2.2.2.1, HH.out.2.2.2.2.1, Or.inr hbig, rfl, HL5.out.trans (hxb.below (by omega) HL5.out.size)⟩)))
  clear yf hxb hx5 hbig
  go_wp2
  refine ⟨rfl, .tuple #[.agg nil5, .int .i64 2], by simp [results, Tryz.f12, go_sem, k0, k1, k2, k3, k4], ?_⟩
  exact HF.out
end Go.Proofs.YtmdpbaobihdgkaaGreatDoor
