/- The law WorldPaths. -/
import Derived.Test.YtgahdclbaifcbaaPth
import Derived.Test.YtgahdclbaifcbaaLea
namespace Go.Proofs.Ytgahdclbaifcbaa
open Go.RowKit

theorem set_same {W : World} {b i : Nat} {c : Array Value} {t : TypeId} {v : Value} (h : W.heap[b]? = some (.cells c t)) (hv : c[i]? = some v) : W.setCell ⟨b, i, none⟩ v = W := by
  have hc : c.setIfInBounds i v = c := by
    refine Array.ext_getElem? fun k => ?_
    rw [Array.getElem?_setIfInBounds]
    split
    · rename_i e
      subst e
      split
      · exact hv.symm
      · rename_i h2
        rw [Array.getElem?_eq_none (by omega)] at hv
        cases hv
    · rfl
  unfold World.setCell
  have hh : ∀ f : Obj → Obj, f (.cells c t) = .cells c t → W.heap.modify b f = W.heap := fun f hf => by
    refine Array.ext_getElem? fun k => ?_
    rw [Array.getElem?_modify]
    split
    · rename_i e
      subst e
      rw [h]
      simp [hf]
    · rfl
  simp only
  rw [hh]
  simp [hc]

theorem sameU_refl (n : Nat) (Y : Nat → Int) : sameU n n Y Y = true := by
  unfold sameU
  simp

set_option maxHeartbeats 1000000 in
/-- Two words that hold the same. -/
theorem sameW_any {w : World} {xa xa' ya ya' : Option Addr} {s m xc xc' yc yc' : Nat} {S L : Nat → Int} (hs : s ≤ 1000) (hm : m ≤ 1000) (h1 : RowU w xa s S) (h2 : RowU w xa' s S) (h3 : RowU w ya m L) (h4 : RowU w ya' m L) :
    Calls Try.prog 15 #[.agg #[.slice xa s xc, .slice ya m yc], .agg #[.slice xa' s xc', .slice ya' m yc']] w fun e w' => e = .returned (.bool true) ∧ Below w.heap.size w w' := by
  obtain ⟨W1, hW1, hb1, hs1, y0, y1⟩ := box2 w (.slice xa s xc) (.slice ya m yc) 41
  obtain ⟨W2, hW2, hb2, hs2, z0, z1⟩ := box2 W1 (.slice xa' s xc') (.slice ya' m yc') 41
  have h02 : Below w.heap.size w W2 := hb1.trans (hb2.mono hb1.size)
  have y0' := below_cell hb2 (Nat.le_refl _) y0
  have y1' := below_cell hb2 (Nat.le_refl _) y1
  have HB2 := hid h02
  have C1 := hid (equalU_any (c := xc) (c' := xc') hs (h1.below h02) (h2.below h02))
  have C2 := hid (fun (z : World) (hz : Below w.heap.size w z) => equalU_any (c := yc) (c' := yc') hm (h3.below hz) (h4.below hz))
  rw [sameU_refl] at C1
  clear h1 h2 h3 h4 hb1 hb2 h02 y0 y1 hs1 hs2
  go_enter Try.func15, Try.ntmps15
  go_wp2_with fail
  refine C1.out.mono ?_
  rintro e w3 ⟨rfl, q, rfl⟩
  have HB3 : Hid (Below w.heap.size w (W2.drewN q)) := hid (below_drewN HB2.out q)
  have y0 : (W2.drewN q).cell? ⟨w.heap.size, 0, none⟩ = some (.slice xa s xc) := y0'
  have y1 : (W2.drewN q).cell? ⟨w.heap.size, 1, none⟩ = some (.slice ya m yc) := y1'
  have x0 : (W2.drewN q).cell? ⟨W1.heap.size, 0, none⟩ = some (.slice xa' s xc') := z0
  have x1 : (W2.drewN q).cell? ⟨W1.heap.size, 1, none⟩ = some (.slice ya' m yc') := z1
  have D2 := hid (C2.out _ HB3.out)
  rw [sameU_refl] at D2
  clear y0' y1' z0 z1 C1 C2
  generalize W2.drewN q = w3 at *
  go_wp2_with fail
  refine D2.out.mono ?_
  rintro e w4 ⟨rfl, q2, rfl⟩
  have HB4 : Hid (Below w.heap.size w (w3.drewN q2)) := hid (below_drewN HB3.out q2)
  clear D2 y0 y1 x0 x1
  generalize w3.drewN q2 = w4 at *
  go_wp2
  go_ret
  exact ⟨rfl, HB4.out⟩

theorem sameN_any (w : World) : Calls Try.prog 15 #[.agg #[.slice none 0 0, .slice none 0 0], .agg #[.slice none 0 0, .slice none 0 0]] w fun e w' => e = .returned (.bool true) ∧ Below w.heap.size w w' :=
  sameW_any (S := fun _ => 0) (L := fun _ => 0) (by omega) (by omega) ⟨0, 0, fun h => absurd h (Nat.not_lt_zero _), fun _ h => absurd h (Nat.not_lt_zero _)⟩ ⟨0, 0, fun h => absurd h (Nat.not_lt_zero _), fun _ h => absurd h (Nat.not_lt_zero _)⟩ ⟨0, 0, fun h => absurd h (Nat.not_lt_zero _), fun _ h => absurd h (Nat.not_lt_zero _)⟩ ⟨0, 0, fun h => absurd h (Nat.not_lt_zero _), fun _ h => absurd h (Nat.not_lt_zero _)⟩

set_option maxRecDepth 100000 in
set_option maxHeartbeats 16000000 in
theorem worldPaths_walk (A : Wx) (pa : Option Addr) (s pc : Nat) (qa : Option Addr) (m qc : Nat) (P Q : Nat → Int) (w : World) (h : Ww w A) (hp : Pw w pa s pc qa m qc P Q) :
    Calls Try.prog 4 #[.agg #[.slice A.sa A.sn A.sc, .slice A.na A.G A.nc, .slice A.la A.M A.lc, .slice A.fa A.K A.fc], .agg #[.slice pa s pc, .slice qa m qc]] w fun e w' => e = .returned (.bool true) ∧ Below w.heap.size w w' := by
  obtain ⟨W1, hW1, hb1, hs1, hbw⟩ := boxw w A
  obtain ⟨W2, hW2, hb2, hs2, y0, y1⟩ := box2 W1 (.slice pa s pc) (.slice qa m qc) 37
  have h2 : Below w.heap.size w W2 := hb1.trans (hb2.mono hb1.size)
  have HB2 := hid h2
  have HBW := hid (hbw.below hb2)
  have HH := hid (And.intro h hp)
  obtain ⟨p1, hp1⟩ : ∃ p1, W1.heap.size = p1 := ⟨_, rfl⟩
  rw [hp1] at y0 y1
  have HY := hid (And.intro y0 y1)
  have C7 : Hid (Calls Try.prog 7 #[.agg #[.slice A.sa A.sn A.sc, .slice A.na A.G A.nc, .slice A.la A.M A.lc, .slice A.fa A.K A.fc]] W2 fun e w' => e = .returned (.int .i64 (chkW A)) ∧ Below W2.heap.size W2 w') := hid (worldRef_any A W2 (h.below h2))
  have C13 := hid (fun (z : World) (hz : Below w.heap.size w z) => good_any A pa s pc qa m qc P Q z (h.below hz) (hp.below hz))
  have C14 := hid (fun (z : World) (hz : Below w.heap.size w z) => word_any A pa s pc qa m qc P Q z (h.below hz) (hp.below hz))
  have hs8 := hp.s8
  have hm8 := hp.m8
  obtain ⟨q0, q1, q2, q3⟩ := HBW.out
  obtain ⟨ck, hck⟩ : ∃ ck, chkW A = ck := ⟨_, rfl⟩
  rw [hck] at C7
  have HCK := hid hck
  clear h hp hb1 hs1 hb2 hs2 hbw h2 hck
  go_enter Try.func4, Try.ntmps4
  go_wp2_with fail
  (try rw [hp1])
  refine C7.out.mono ?_
  rintro e w3 ⟨rfl, hb3⟩
  have HB3 := hid (HB2.out.trans (hb3.mono HB2.out.size))
  have HBW3 := hid (HBW.out.below hb3)
  have HY3 := hid (And.intro (below_cell hb3 (Nat.le_refl _) y0) (below_cell hb3 (Nat.le_refl _) y1))
  have D13 := hid (C13.out w3 HB3.out)
  clear q0 q1 q2 q3 y0 y1 hb3 C7 C13
  obtain ⟨q0, q1, q2, q3⟩ := HBW3.out
  obtain ⟨y0, y1⟩ := HY3.out
  go_wp2_with fail
  refine D13.out.mono ?_
  rintro e w4 ⟨bg, eg, rfl, HG⟩
  have hb4 := HG.out.2.2.2
  have HB4 := hid (HB3.out.trans (hb4.mono HB3.out.size))
  have HBW4 := hid (HBW3.out.below hb4)
  have HY4 := hid (And.intro (below_cell hb4 (Nat.le_refl _) y0) (below_cell hb4 (Nat.le_refl _) y1))
  have D14 := hid (C14.out w4 HB4.out)
  have hegE : eg = gdE A s m := HG.out.1
  have HEG := hid hegE
  clear q0 q1 q2 q3 y0 y1 hb4 D13 C14 hegE
  obtain ⟨q0, q1, q2, q3⟩ := HBW4.out
  obtain ⟨y0, y1⟩ := HY4.out
  go_wp2_with fail
  refine D14.out.mono ?_
  rintro e w5 ⟨xa, xn, xc, ya, yn, yc, er, rfl, HX⟩
  obtain ⟨W6, hW6, hb6, hs6, x0, x1⟩ := box2 w5 (.slice xa xn xc) (.slice ya yn yc) 41
  have hb46 : Below w4.heap.size w4 W6 := HX.out.2.2.2.trans (hb6.mono HX.out.2.2.2.size)
  have HB6 := hid (HB4.out.trans (hb46.mono HB4.out.size))
  have HBW6 := hid (HBW4.out.below hb46)
  have HY6 := hid (And.intro (below_cell hb46 (Nat.le_refl _) y0) (below_cell hb46 (Nat.le_refl _) y1))
  have HX6 := hid (And.intro x0 x1)
  have HK6 : Hid (W6.heap[w5.heap.size]? = some (.cells #[.slice xa xn xc, .slice ya yn yc] 41)) := hid (by rw [← hW6]; exact Go.Deep.blk_alloc_new _ _)
  have HR6 : Hid (er = 0 → xn = s ∧ yn = m ∧ RowU W6 xa s (fun i => (A.Lb (P i).toNat : Int)) ∧ RowU W6 ya m (fun i => (A.Lb (Q i).toNat : Int))) := hid (fun e => ⟨(HX.out.2.2.1 e).1, (HX.out.2.2.1 e).2.1, (HX.out.2.2.1 e).2.2.1.below hb6, (HX.out.2.2.1 e).2.2.2.below hb6⟩)
  have HER : Hid (er = wdE A s m P Q ∧ (er ≠ 0 → xa = none ∧ xn = 0 ∧ xc = 0 ∧ ya = none ∧ yn = 0 ∧ yc = 0)) := hid ⟨HX.out.1, HX.out.2.1⟩
  have HGG : Hid ((eg ≠ 0 → bg = false) ∧ (eg = 0 → bg = gdB A s m P Q)) := hid ⟨HG.out.2.1, HG.out.2.2.1⟩
  have CN := hid (fun (z : World) => sameN_any z)
  clear hb46 hb6 hs6 HX HG D14 q0 q1 q2 q3 y0 y1
  by_cases h0 : ck = 0
  · have g0 : (ck != 0) = false := by simp [h0]
    have HC0 : Hid (chkW A = 0) := hid (HCK.out.trans h0)
    obtain ⟨g, hg⟩ : ∃ g, (decide (0 < m) && allIn s P A.G && allIn m Q A.G) = g := ⟨_, rfl⟩
    have HWE : Hid (er = if g = false then 1 else wchk s m) := hid (by rw [HER.out.1]; unfold wdE; rw [if_neg (by rw [HC0.out]; simp), hg])
    have HGD : Hid (eg = if 60000 < s + m then 2 else 0) := hid (by rw [HEG.out]; unfold gdE; rw [if_neg (by rw [HC0.out]; simp)])
    have HM : Hid (A.M = A.G) := hid (chkW_ok HC0.out).2.2.1
    have HGF := hid hg
    clear h0 hg
    cases g
    · have he1 : er = 1 := by rw [HWE.out, if_pos rfl]
      subst he1
      obtain ⟨rfl, rfl, rfl, rfl, rfl, rfl⟩ := HER.out.2 (by decide)
      subst hW6
      have ge : ((1 : Int) == 1) = true := by decide
      by_cases hz1 : 60000 < s
      · have e1 : (60000 : Int) < (s : Nat) := by omega
        have he : eg = 2 := by rw [HGD.out, if_pos (by omega)]
        subst he
        obtain rfl : bg = false := HGG.out.1 (by decide)
        have HZ := hid hz1
        clear hz1
        obtain ⟨q0, q1, q2, q3⟩ := HBW6.out
        obtain ⟨y0, y1⟩ := HY6.out
        obtain ⟨x0, x1⟩ := HX6.out
        by_cases hm0 : m = 0
        · have gm : (((m : Nat) : Int) == 0) = true := by rw [hm0]; rfl
          clear hm0
          go_wp2_with fail
          refine (CN.out (w5.alloc (.cells #[.slice none 0 0, .slice none 0 0] 41))).mono ?_
          rintro e w8 ⟨rfl, hb8⟩
          have HB8 := hid (HB6.out.trans (hb8.mono HB6.out.size))
          clear q0 q1 q2 q3 y0 y1 x0 x1 hb8 CN
          go_wp2
          go_ret
          exact ⟨rfl, HB8.out⟩
        have gm : (((m : Nat) : Int) == 0) = false := beq_eq_false_iff_ne.2 (by omega)
        have I1 := hid (inRef_any pa s pc P A.G (w5.alloc (.cells #[.slice none 0 0, .slice none 0 0] 41)) (by omega) ((HH.out.2.below HB6.out).stem))
        have I2 := hid (inRef_any qa m qc Q A.G (w5.alloc (.cells #[.slice none 0 0, .slice none 0 0] 41)) (by omega) ((HH.out.2.below HB6.out).loop))
        cases hA1 : allIn s P A.G
        · rw [hA1] at I1
          clear hA1 hm0
          go_wp2_with fail
          refine I1.out.mono ?_
          rintro e w' ⟨rfl, hq⟩
          obtain rfl := hq.symm
          go_wp2_with fail
          refine (CN.out (w5.alloc (.cells #[.slice none 0 0, .slice none 0 0] 41))).mono ?_
          rintro e w8 ⟨rfl, hb8⟩
          have HB8 := hid (HB6.out.trans (hb8.mono HB6.out.size))
          clear q0 q1 q2 q3 y0 y1 x0 x1 hb8 CN
          go_wp2
          go_ret
          exact ⟨rfl, HB8.out⟩
        · have hA2 : allIn m Q A.G = false := by
            have hh := HGF.out
            rw [hA1, decide_eq_true (show 0 < m by omega)] at hh
            simpa using hh
          rw [hA1] at I1
          rw [hA2] at I2
          clear hA1 hA2 hm0
          go_wp2_with fail
          refine I1.out.mono ?_
          rintro e w' ⟨rfl, hq⟩
          obtain rfl := hq.symm
          go_wp2_with fail
          refine I2.out.mono ?_
          rintro e w' ⟨rfl, hq⟩
          obtain rfl := hq.symm
          go_wp2_with fail
          refine (CN.out (w5.alloc (.cells #[.slice none 0 0, .slice none 0 0] 41))).mono ?_
          rintro e w8 ⟨rfl, hb8⟩
          have HB8 := hid (HB6.out.trans (hb8.mono HB6.out.size))
          clear q0 q1 q2 q3 y0 y1 x0 x1 hb8 CN
          go_wp2
          go_ret
          exact ⟨rfl, HB8.out⟩
      by_cases hz2 : 60000 < s + m
      · have e1 : ¬ (60000 : Int) < (s : Nat) := by omega
        have e2 : (60000 : Int) - (s : Nat) < (m : Nat) := by omega
        have e3 : IntKind.i64.wrap ((60000 : Int) - (s : Nat)) = (60000 : Int) - (s : Nat) := by rw [IntKind.wrap_i64] <;> omega
        have he : eg = 2 := by rw [HGD.out, if_pos (by omega)]
        subst he
        obtain rfl : bg = false := HGG.out.1 (by decide)
        have HZ := hid hz2
        clear hz1 hz2
        obtain ⟨q0, q1, q2, q3⟩ := HBW6.out
        obtain ⟨y0, y1⟩ := HY6.out
        obtain ⟨x0, x1⟩ := HX6.out
        by_cases hm0 : m = 0
        · have gm : (((m : Nat) : Int) == 0) = true := by rw [hm0]; rfl
          clear hm0
          go_wp2_with fail
          refine (CN.out (w5.alloc (.cells #[.slice none 0 0, .slice none 0 0] 41))).mono ?_
          rintro e w8 ⟨rfl, hb8⟩
          have HB8 := hid (HB6.out.trans (hb8.mono HB6.out.size))
          clear q0 q1 q2 q3 y0 y1 x0 x1 hb8 CN
          go_wp2
          go_ret
          exact ⟨rfl, HB8.out⟩
        have gm : (((m : Nat) : Int) == 0) = false := beq_eq_false_iff_ne.2 (by omega)
        have I1 := hid (inRef_any pa s pc P A.G (w5.alloc (.cells #[.slice none 0 0, .slice none 0 0] 41)) (by omega) ((HH.out.2.below HB6.out).stem))
        have I2 := hid (inRef_any qa m qc Q A.G (w5.alloc (.cells #[.slice none 0 0, .slice none 0 0] 41)) (by omega) ((HH.out.2.below HB6.out).loop))
        cases hA1 : allIn s P A.G
        · rw [hA1] at I1
          clear hA1 hm0
          go_wp2_with fail
          refine I1.out.mono ?_
          rintro e w' ⟨rfl, hq⟩
          obtain rfl := hq.symm
          go_wp2_with fail
          refine (CN.out (w5.alloc (.cells #[.slice none 0 0, .slice none 0 0] 41))).mono ?_
          rintro e w8 ⟨rfl, hb8⟩
          have HB8 := hid (HB6.out.trans (hb8.mono HB6.out.size))
          clear q0 q1 q2 q3 y0 y1 x0 x1 hb8 CN
          go_wp2
          go_ret
          exact ⟨rfl, HB8.out⟩
        · have hA2 : allIn m Q A.G = false := by
            have hh := HGF.out
            rw [hA1, decide_eq_true (show 0 < m by omega)] at hh
            simpa using hh
          rw [hA1] at I1
          rw [hA2] at I2
          clear hA1 hA2 hm0
          go_wp2_with fail
          refine I1.out.mono ?_
          rintro e w' ⟨rfl, hq⟩
          obtain rfl := hq.symm
          go_wp2_with fail
          refine I2.out.mono ?_
          rintro e w' ⟨rfl, hq⟩
          obtain rfl := hq.symm
          go_wp2_with fail
          refine (CN.out (w5.alloc (.cells #[.slice none 0 0, .slice none 0 0] 41))).mono ?_
          rintro e w8 ⟨rfl, hb8⟩
          have HB8 := hid (HB6.out.trans (hb8.mono HB6.out.size))
          clear q0 q1 q2 q3 y0 y1 x0 x1 hb8 CN
          go_wp2
          go_ret
          exact ⟨rfl, HB8.out⟩
      have e1 : ¬ (60000 : Int) < (s : Nat) := by omega
      have e2 : ¬ (60000 : Int) - (s : Nat) < (m : Nat) := by omega
      have e3 : IntKind.i64.wrap ((60000 : Int) - (s : Nat)) = (60000 : Int) - (s : Nat) := by rw [IntKind.wrap_i64] <;> omega
      have he : eg = 0 := by rw [HGD.out, if_neg hz2]
      subst he
      have C16 := hid (pathRef_any A pa s pc qa m qc P Q (w5.alloc (.cells #[.slice none 0 0, .slice none 0 0] 41)) (HH.out.1.below HB6.out) (HH.out.2.below HB6.out) HC0.out (by omega))
      have hbg : bg = gdB A s m P Q := HGG.out.2 rfl
      rw [← hbg] at C16
      have HZ := hid hz2
      have hbb : (bg != bg) = false := by cases bg <;> rfl
      clear hz1 hz2 hbg
      obtain ⟨q0, q1, q2, q3⟩ := HBW6.out
      obtain ⟨y0, y1⟩ := HY6.out
      obtain ⟨x0, x1⟩ := HX6.out
      go_wp2_with fail
      refine C16.out.mono ?_
      rintro e w7 ⟨rfl, hb7⟩
      have HB7 := hid (HB6.out.trans (hb7.mono HB6.out.size))
      have HBW7 := hid (HBW6.out.below hb7)
      have HY7 := hid (And.intro (below_cell hb7 (Nat.le_refl _) y0) (below_cell hb7 (Nat.le_refl _) y1))
      have HX7 := hid (And.intro (below_cell hb7 (Nat.le_refl _) x0) (below_cell hb7 (Nat.le_refl _) x1))
      clear q0 q1 q2 q3 y0 y1 x0 x1 hb7 C16
      obtain ⟨q0, q1, q2, q3⟩ := HBW7.out
      obtain ⟨y0, y1⟩ := HY7.out
      obtain ⟨x0, x1⟩ := HX7.out
      by_cases hm0 : m = 0
      · have gm : (((m : Nat) : Int) == 0) = true := by rw [hm0]; rfl
        clear hm0
        go_wp2_with fail
        refine (CN.out w7).mono ?_
        rintro e w8 ⟨rfl, hb8⟩
        have HB8 := hid (HB7.out.trans (hb8.mono HB7.out.size))
        clear q0 q1 q2 q3 y0 y1 x0 x1 hb8 CN
        go_wp2
        go_ret
        exact ⟨rfl, HB8.out⟩
      have gm : (((m : Nat) : Int) == 0) = false := beq_eq_false_iff_ne.2 (by omega)
      have I1 := hid (inRef_any pa s pc P A.G w7 (by omega) ((HH.out.2.below HB7.out).stem))
      have I2 := hid (inRef_any qa m qc Q A.G w7 (by omega) ((HH.out.2.below HB7.out).loop))
      cases hA1 : allIn s P A.G
      · rw [hA1] at I1
        clear hA1 hm0
        go_wp2_with fail
        refine I1.out.mono ?_
        rintro e w' ⟨rfl, hq⟩
        obtain rfl := hq.symm
        go_wp2_with fail
        refine (CN.out w7).mono ?_
        rintro e w8 ⟨rfl, hb8⟩
        have HB8 := hid (HB7.out.trans (hb8.mono HB7.out.size))
        clear q0 q1 q2 q3 y0 y1 x0 x1 hb8 CN
        go_wp2
        go_ret
        exact ⟨rfl, HB8.out⟩
      · have hA2 : allIn m Q A.G = false := by
          have hh := HGF.out
          rw [hA1, decide_eq_true (show 0 < m by omega)] at hh
          simpa using hh
        rw [hA1] at I1
        rw [hA2] at I2
        clear hA1 hA2 hm0
        go_wp2_with fail
        refine I1.out.mono ?_
        rintro e w' ⟨rfl, hq⟩
        obtain rfl := hq.symm
        go_wp2_with fail
        refine I2.out.mono ?_
        rintro e w' ⟨rfl, hq⟩
        obtain rfl := hq.symm
        go_wp2_with fail
        refine (CN.out w7).mono ?_
        rintro e w8 ⟨rfl, hb8⟩
        have HB8 := hid (HB7.out.trans (hb8.mono HB7.out.size))
        clear q0 q1 q2 q3 y0 y1 x0 x1 hb8 CN
        go_wp2
        go_ret
        exact ⟨rfl, HB8.out⟩
    · have hgg : 0 < m ∧ allIn s P A.G = true ∧ allIn m Q A.G = true := by
        have h := HGF.out
        simp only [Bool.and_eq_true, decide_eq_true_eq] at h
        exact ⟨h.1.1, h.1.2, h.2⟩
      have HQ := hid hgg
      have gm : (((m : Nat) : Int) == 0) = false := beq_eq_false_iff_ne.2 (by omega)
      clear hgg
      by_cases hw0 : wchk s m = 0
      · have he0 : er = 0 := by rw [HWE.out, if_neg (by simp)]; exact hw0
        subst he0
        have hsz : s + m ≤ 60 := by
          unfold wchk at hw0
          split at hw0
          · cases hw0
          · omega
        obtain ⟨hx, hy, hr1, hr2⟩ := HR6.out rfl
        have hx' := hx.symm
        have hy' := hy.symm
        subst hx'
        subst hy'
        have HR := hid (And.intro hr1 hr2)
        have HW0 := hid hw0
        have ge : ((0 : Int) == 0) = true := by decide
        have hz2 : ¬ 60000 < s + m := by omega
        have e1 : ¬ (60000 : Int) < (s : Nat) := by omega
        have e2 : ¬ (60000 : Int) - (s : Nat) < (m : Nat) := by omega
        have e3 : IntKind.i64.wrap ((60000 : Int) - (s : Nat)) = (60000 : Int) - (s : Nat) := by rw [IntKind.wrap_i64] <;> omega
        have he : eg = 0 := by rw [HGD.out, if_neg hz2]
        subst he
        have C16 := hid (pathRef_any A pa s pc qa m qc P Q W6 (HH.out.1.below HB6.out) (HH.out.2.below HB6.out) HC0.out (by omega))
        have hbg : bg = gdB A s m P Q := HGG.out.2 rfl
        rw [← hbg] at C16
        have hbb : (bg != bg) = false := by cases bg <;> rfl
        clear hbg hr1 hr2 hw0 hx hy
        obtain ⟨q0, q1, q2, q3⟩ := HBW6.out
        obtain ⟨y0, y1⟩ := HY6.out
        obtain ⟨x0, x1⟩ := HX6.out
        go_wp2_with fail
        refine C16.out.mono ?_
        rintro e w7 ⟨rfl, hb7⟩
        have HB7 := hid (HB6.out.trans (hb7.mono HB6.out.size))
        have HR7 := hid (And.intro (HR.out.1.below hb7) (HR.out.2.below hb7))
        have HBW7 := hid (HBW6.out.below hb7)
        have HY7 := hid (And.intro (below_cell hb7 (Nat.le_refl _) y0) (below_cell hb7 (Nat.le_refl _) y1))
        have HX7 := hid (And.intro (below_cell hb7 (Nat.le_refl _) x0) (below_cell hb7 (Nat.le_refl _) x1))
        clear q0 q1 q2 q3 y0 y1 x0 x1 hb7 C16
        obtain ⟨q0, q1, q2, q3⟩ := HBW7.out
        obtain ⟨y0, y1⟩ := HY7.out
        obtain ⟨x0, x1⟩ := HX7.out
        have I1 := hid (inRef_any pa s pc P A.G w7 (by omega) ((HH.out.2.below HB7.out).stem))
        have I2 := hid (inRef_any qa m qc Q A.G w7 (by omega) ((HH.out.2.below HB7.out).loop))
        rw [HQ.out.2.1] at I1
        rw [HQ.out.2.2] at I2
        have C18 := hid (wordOf_any A pa s pc qa m qc P Q w7 (HH.out.1.below HB7.out) (HH.out.2.below HB7.out) HM.out HQ.out.2.1 HQ.out.2.2)
        go_wp2_with fail
        refine I1.out.mono ?_
        rintro e w' ⟨rfl, hq⟩
        obtain rfl := hq.symm
        go_wp2_with fail
        refine I2.out.mono ?_
        rintro e w' ⟨rfl, hq⟩
        obtain rfl := hq.symm
        go_wp2_with fail
        refine C18.out.mono ?_
        rintro e v8 ⟨za, zc, ta, tc, rfl, HW⟩
        obtain ⟨V8, hV8, hc8, hs8', v0, v1⟩ := box2 v8 (.slice za s zc) (.slice ta m tc) 41
        have hb8 : Below w7.heap.size w7 V8 := HW.out.2.2.trans (hc8.mono HW.out.2.2.size)
        have HB8 := hid (HB7.out.trans (hb8.mono HB7.out.size))
        have HWR := hid (And.intro (HW.out.1.below hc8) (HW.out.2.1.below hc8))
        have x0' := below_cell hb8 (Nat.le_refl _) x0
        have x1' := below_cell hb8 (Nat.le_refl _) x1
        have HB88 := hid hb8
        have C19 := hid (wordRef_any za s zc ta m tc V8 (by omega) (by omega))
        clear q0 q1 q2 q3 y0 y1 x0 x1 hb8 hc8 hs8' I1 I2 C18 HW
        go_wp2_with fail
        refine C19.out.mono ?_
        rintro e w9 ⟨rfl, hb9⟩
        have HB9 := hid (HB8.out.trans (hb9.mono HB8.out.size))
        have u0 := below_cell hb9 (Nat.le_refl _) x0'
        have u1 := below_cell hb9 (Nat.le_refl _) x1'
        have t0 := below_cell hb9 (Nat.le_refl _) v0
        have t1 := below_cell hb9 (Nat.le_refl _) v1
        have HWR9 := hid (And.intro (HWR.out.1.below hb9) (HWR.out.2.below hb9))
        have HB99 := hid hb9
        clear x0' x1' v0 v1 hb9 C19
        have C15 := hid (sameW_any (xc := xc) (xc' := zc) (yc := yc) (yc' := tc) (by omega) (by omega) ((HR7.out.1.below HB88.out).below HB99.out) HWR9.out.1 ((HR7.out.2.below HB88.out).below HB99.out) HWR9.out.2)
        have hw0' : wchk s m = 0 := HW0.out
        rw [hw0']
        clear hw0'
        go_wp2_with fail
        refine C15.out.mono ?_
        rintro e w10 ⟨rfl, hb10⟩
        have HB10 := hid (HB9.out.trans (hb10.mono HB9.out.size))
        clear u0 u1 t0 t1 hb10 C15
        go_wp2
        go_ret
        exact ⟨rfl, HB10.out⟩
      · have he0 : er = wchk s m := by rw [HWE.out, if_neg (by simp)]
        obtain ⟨rfl, rfl, rfl, rfl, rfl, rfl⟩ := HER.out.2 (by rw [he0]; exact hw0)
        obtain ⟨wk, hwk⟩ : ∃ wk, wchk s m = wk := ⟨_, rfl⟩
        rw [hwk] at he0 hw0
        subst he0
        have HWK := hid hwk
        have ge : (er == er) = true := by simp
        subst hW6
        have gn : (er != 0) = true := by simp [hw0]
        clear hw0 hwk
        by_cases hz1 : 60000 < s
        · have e1 : (60000 : Int) < (s : Nat) := by omega
          have he : eg = 2 := by rw [HGD.out, if_pos (by omega)]
          subst he
          obtain rfl : bg = false := HGG.out.1 (by decide)
          have HZ := hid hz1
          clear hz1
          obtain ⟨q0, q1, q2, q3⟩ := HBW6.out
          obtain ⟨y0, y1⟩ := HY6.out
          obtain ⟨x0, x1⟩ := HX6.out
          have I1 := hid (inRef_any pa s pc P A.G (w5.alloc (.cells #[.slice none 0 0, .slice none 0 0] 41)) (by omega) ((HH.out.2.below HB6.out).stem))
          have I2 := hid (inRef_any qa m qc Q A.G (w5.alloc (.cells #[.slice none 0 0, .slice none 0 0] 41)) (by omega) ((HH.out.2.below HB6.out).loop))
          rw [HQ.out.2.1] at I1
          rw [HQ.out.2.2] at I2
          have C18 := hid (wordOf_any A pa s pc qa m qc P Q (w5.alloc (.cells #[.slice none 0 0, .slice none 0 0] 41)) (HH.out.1.below HB6.out) (HH.out.2.below HB6.out) HM.out HQ.out.2.1 HQ.out.2.2)
          go_wp2_with fail
          refine I1.out.mono ?_
          rintro e w' ⟨rfl, hq⟩
          obtain rfl := hq.symm
          go_wp2_with fail
          refine I2.out.mono ?_
          rintro e w' ⟨rfl, hq⟩
          obtain rfl := hq.symm
          go_wp2_with fail
          refine C18.out.mono ?_
          rintro e v8 ⟨za, zc, ta, tc, rfl, HW⟩
          obtain ⟨V8, hV8, hc8, hs8', v0, v1⟩ := box2 v8 (.slice za s zc) (.slice ta m tc) 41
          have hb8 : Below (w5.alloc (.cells #[.slice none 0 0, .slice none 0 0] 41)).heap.size (w5.alloc (.cells #[.slice none 0 0, .slice none 0 0] 41)) V8 := HW.out.2.2.trans (hc8.mono HW.out.2.2.size)
          have HB8 := hid (HB6.out.trans (hb8.mono HB6.out.size))
          have HWR := hid (And.intro (HW.out.1.below hc8) (HW.out.2.1.below hc8))
          have x0' := below_cell hb8 (Nat.le_refl _) x0
          have x1' := below_cell hb8 (Nat.le_refl _) x1
          have HB88 := hid hb8
          have C19 := hid (wordRef_any za s zc ta m tc V8 (by omega) (by omega))
          clear q0 q1 q2 q3 y0 y1 x0 x1 hb8 hc8 hs8' I1 I2 C18 HW
          go_wp2_with fail
          refine C19.out.mono ?_
          rintro e w9 ⟨rfl, hb9⟩
          have HB9 := hid (HB8.out.trans (hb9.mono HB8.out.size))
          have u0 := below_cell hb9 (Nat.le_refl _) x0'
          have u1 := below_cell hb9 (Nat.le_refl _) x1'
          have t0 := below_cell hb9 (Nat.le_refl _) v0
          have t1 := below_cell hb9 (Nat.le_refl _) v1
          have HWR9 := hid (And.intro (HWR.out.1.below hb9) (HWR.out.2.below hb9))
          have HB99 := hid hb9
          clear x0' x1' v0 v1 hb9 C19
          rw [HWK.out]
          go_wp2_with fail
          refine (CN.out w9).mono ?_
          rintro e w10 ⟨rfl, hb10⟩
          have HB10 := hid (HB9.out.trans (hb10.mono HB9.out.size))
          clear u0 u1 t0 t1 hb10 CN
          go_wp2
          go_ret
          exact ⟨rfl, HB10.out⟩
        by_cases hz2 : 60000 < s + m
        · have e1 : ¬ (60000 : Int) < (s : Nat) := by omega
          have e2 : (60000 : Int) - (s : Nat) < (m : Nat) := by omega
          have e3 : IntKind.i64.wrap ((60000 : Int) - (s : Nat)) = (60000 : Int) - (s : Nat) := by rw [IntKind.wrap_i64] <;> omega
          have he : eg = 2 := by rw [HGD.out, if_pos (by omega)]
          subst he
          obtain rfl : bg = false := HGG.out.1 (by decide)
          have HZ := hid hz2
          clear hz1 hz2
          obtain ⟨q0, q1, q2, q3⟩ := HBW6.out
          obtain ⟨y0, y1⟩ := HY6.out
          obtain ⟨x0, x1⟩ := HX6.out
          have I1 := hid (inRef_any pa s pc P A.G (w5.alloc (.cells #[.slice none 0 0, .slice none 0 0] 41)) (by omega) ((HH.out.2.below HB6.out).stem))
          have I2 := hid (inRef_any qa m qc Q A.G (w5.alloc (.cells #[.slice none 0 0, .slice none 0 0] 41)) (by omega) ((HH.out.2.below HB6.out).loop))
          rw [HQ.out.2.1] at I1
          rw [HQ.out.2.2] at I2
          have C18 := hid (wordOf_any A pa s pc qa m qc P Q (w5.alloc (.cells #[.slice none 0 0, .slice none 0 0] 41)) (HH.out.1.below HB6.out) (HH.out.2.below HB6.out) HM.out HQ.out.2.1 HQ.out.2.2)
          go_wp2_with fail
          refine I1.out.mono ?_
          rintro e w' ⟨rfl, hq⟩
          obtain rfl := hq.symm
          go_wp2_with fail
          refine I2.out.mono ?_
          rintro e w' ⟨rfl, hq⟩
          obtain rfl := hq.symm
          go_wp2_with fail
          refine C18.out.mono ?_
          rintro e v8 ⟨za, zc, ta, tc, rfl, HW⟩
          obtain ⟨V8, hV8, hc8, hs8', v0, v1⟩ := box2 v8 (.slice za s zc) (.slice ta m tc) 41
          have hb8 : Below (w5.alloc (.cells #[.slice none 0 0, .slice none 0 0] 41)).heap.size (w5.alloc (.cells #[.slice none 0 0, .slice none 0 0] 41)) V8 := HW.out.2.2.trans (hc8.mono HW.out.2.2.size)
          have HB8 := hid (HB6.out.trans (hb8.mono HB6.out.size))
          have HWR := hid (And.intro (HW.out.1.below hc8) (HW.out.2.1.below hc8))
          have x0' := below_cell hb8 (Nat.le_refl _) x0
          have x1' := below_cell hb8 (Nat.le_refl _) x1
          have HB88 := hid hb8
          have C19 := hid (wordRef_any za s zc ta m tc V8 (by omega) (by omega))
          clear q0 q1 q2 q3 y0 y1 x0 x1 hb8 hc8 hs8' I1 I2 C18 HW
          go_wp2_with fail
          refine C19.out.mono ?_
          rintro e w9 ⟨rfl, hb9⟩
          have HB9 := hid (HB8.out.trans (hb9.mono HB8.out.size))
          have u0 := below_cell hb9 (Nat.le_refl _) x0'
          have u1 := below_cell hb9 (Nat.le_refl _) x1'
          have t0 := below_cell hb9 (Nat.le_refl _) v0
          have t1 := below_cell hb9 (Nat.le_refl _) v1
          have HWR9 := hid (And.intro (HWR.out.1.below hb9) (HWR.out.2.below hb9))
          have HB99 := hid hb9
          clear x0' x1' v0 v1 hb9 C19
          rw [HWK.out]
          go_wp2_with fail
          refine (CN.out w9).mono ?_
          rintro e w10 ⟨rfl, hb10⟩
          have HB10 := hid (HB9.out.trans (hb10.mono HB9.out.size))
          clear u0 u1 t0 t1 hb10 CN
          go_wp2
          go_ret
          exact ⟨rfl, HB10.out⟩
        have e1 : ¬ (60000 : Int) < (s : Nat) := by omega
        have e2 : ¬ (60000 : Int) - (s : Nat) < (m : Nat) := by omega
        have e3 : IntKind.i64.wrap ((60000 : Int) - (s : Nat)) = (60000 : Int) - (s : Nat) := by rw [IntKind.wrap_i64] <;> omega
        have he : eg = 0 := by rw [HGD.out, if_neg hz2]
        subst he
        have C16 := hid (pathRef_any A pa s pc qa m qc P Q (w5.alloc (.cells #[.slice none 0 0, .slice none 0 0] 41)) (HH.out.1.below HB6.out) (HH.out.2.below HB6.out) HC0.out (by omega))
        have hbg : bg = gdB A s m P Q := HGG.out.2 rfl
        rw [← hbg] at C16
        have HZ := hid hz2
        have hbb : (bg != bg) = false := by cases bg <;> rfl
        clear hz1 hz2 hbg
        obtain ⟨q0, q1, q2, q3⟩ := HBW6.out
        obtain ⟨y0, y1⟩ := HY6.out
        obtain ⟨x0, x1⟩ := HX6.out
        go_wp2_with fail
        refine C16.out.mono ?_
        rintro e w7 ⟨rfl, hb7⟩
        have HB7 := hid (HB6.out.trans (hb7.mono HB6.out.size))
        have HBW7 := hid (HBW6.out.below hb7)
        have HY7 := hid (And.intro (below_cell hb7 (Nat.le_refl _) y0) (below_cell hb7 (Nat.le_refl _) y1))
        have HX7 := hid (And.intro (below_cell hb7 (Nat.le_refl _) x0) (below_cell hb7 (Nat.le_refl _) x1))
        clear q0 q1 q2 q3 y0 y1 x0 x1 hb7 C16
        obtain ⟨q0, q1, q2, q3⟩ := HBW7.out
        obtain ⟨y0, y1⟩ := HY7.out
        obtain ⟨x0, x1⟩ := HX7.out
        have I1 := hid (inRef_any pa s pc P A.G w7 (by omega) ((HH.out.2.below HB7.out).stem))
        have I2 := hid (inRef_any qa m qc Q A.G w7 (by omega) ((HH.out.2.below HB7.out).loop))
        rw [HQ.out.2.1] at I1
        rw [HQ.out.2.2] at I2
        have C18 := hid (wordOf_any A pa s pc qa m qc P Q w7 (HH.out.1.below HB7.out) (HH.out.2.below HB7.out) HM.out HQ.out.2.1 HQ.out.2.2)
        go_wp2_with fail
        refine I1.out.mono ?_
        rintro e w' ⟨rfl, hq⟩
        obtain rfl := hq.symm
        go_wp2_with fail
        refine I2.out.mono ?_
        rintro e w' ⟨rfl, hq⟩
        obtain rfl := hq.symm
        go_wp2_with fail
        refine C18.out.mono ?_
        rintro e v8 ⟨za, zc, ta, tc, rfl, HW⟩
        obtain ⟨V8, hV8, hc8, hs8', v0, v1⟩ := box2 v8 (.slice za s zc) (.slice ta m tc) 41
        have hb8 : Below w7.heap.size w7 V8 := HW.out.2.2.trans (hc8.mono HW.out.2.2.size)
        have HB8 := hid (HB7.out.trans (hb8.mono HB7.out.size))
        have HWR := hid (And.intro (HW.out.1.below hc8) (HW.out.2.1.below hc8))
        have x0' := below_cell hb8 (Nat.le_refl _) x0
        have x1' := below_cell hb8 (Nat.le_refl _) x1
        have HB88 := hid hb8
        have C19 := hid (wordRef_any za s zc ta m tc V8 (by omega) (by omega))
        clear q0 q1 q2 q3 y0 y1 x0 x1 hb8 hc8 hs8' I1 I2 C18 HW
        go_wp2_with fail
        refine C19.out.mono ?_
        rintro e w9 ⟨rfl, hb9⟩
        have HB9 := hid (HB8.out.trans (hb9.mono HB8.out.size))
        have u0 := below_cell hb9 (Nat.le_refl _) x0'
        have u1 := below_cell hb9 (Nat.le_refl _) x1'
        have t0 := below_cell hb9 (Nat.le_refl _) v0
        have t1 := below_cell hb9 (Nat.le_refl _) v1
        have HWR9 := hid (And.intro (HWR.out.1.below hb9) (HWR.out.2.below hb9))
        have HB99 := hid hb9
        clear x0' x1' v0 v1 hb9 C19
        rw [HWK.out]
        go_wp2_with fail
        refine (CN.out w9).mono ?_
        rintro e w10 ⟨rfl, hb10⟩
        have HB10 := hid (HB9.out.trans (hb10.mono HB9.out.size))
        clear u0 u1 t0 t1 hb10 CN
        go_wp2
        go_ret
        exact ⟨rfl, HB10.out⟩
  · have g0 : (ck != 0) = true := by simp [h0]
    have he : eg = ck := by rw [HEG.out]; unfold gdE; rw [HCK.out, if_pos h0]
    have hw : er = ck := by rw [HER.out.1]; unfold wdE; rw [HCK.out, if_pos h0]
    obtain rfl : bg = false := HGG.out.1 (by rw [he]; exact h0)
    obtain ⟨rfl, rfl, rfl, rfl, rfl, rfl⟩ := HER.out.2 (by rw [hw]; exact h0)
    subst hW6
    clear HGG HER HEG HR6
    subst he
    subst hw
    have ge : ∀ x : Int, (x == x) = true := fun x => by simp
    clear h0
    obtain ⟨q0, q1, q2, q3⟩ := HBW6.out
    obtain ⟨y0, y1⟩ := HY6.out
    obtain ⟨x0, x1⟩ := HX6.out
    go_wp2_with fail
    refine (CN.out _).mono ?_
    rintro e w8 ⟨rfl, hb8⟩
    have HB8 := hid (HB6.out.trans (hb8.mono HB6.out.size))
    clear q0 q1 q2 q3 y0 y1 x0 x1 hb8 CN
    go_wp2
    go_ret
    exact ⟨rfl, HB8.out⟩
end Go.Proofs.Ytgahdclbaifcbaa
