/- Check of a world: the program's and the document's. -/
import Derived.Test.YtgahdclbaifcbaaWld
namespace Go.Proofs.Ytgahdclbaifcbaa
open Go.RowKit

set_option maxHeartbeats 4000000 in
theorem chkW_any (A : Wx) (w : World) (h : Ww w A) : Calls Try.prog 9 #[.agg #[.slice A.sa A.sn A.sc, .slice A.na A.G A.nc, .slice A.la A.M A.lc, .slice A.fa A.K A.fc]] w fun e w' => e = .returned (.int .i64 (chkW A)) ∧ Below w.heap.size w w' := by
  have H := hid h
  have hmf : ∀ (fn : Fn) (first cap : Array Value) (w : World), (Instr.makeFunc fn first cap).run Try.prog w = .ok (.func fn first cap) w := fun _ _ _ _ => rfl
  have g47 := h.g47
  have k47 := h.k47
  have m47 := h.m47
  clear h
  obtain ⟨W1, hW1, hb1, hs1, hbw⟩ := boxw w A
  obtain ⟨q0, q1, q2, q3⟩ := hbw
  have HB1 := hid hb1
  clear hb1 hs1
  by_cases h1 : 600 < A.G ∨ 80 < A.K
  · have E : Hid (chkW A = 2) := hid (if_pos h1)
    by_cases h2 : 600 < A.G
    · have h3 : (600 : Int) < A.G := by omega
      go_enter Try.func9, Try.ntmps9
      go_wp2
      go_ret
      exact ⟨ret_int E.out.symm, HB1.out⟩
    · have h3 : ¬ (600 : Int) < A.G := by omega
      have h4 : (80 : Int) < A.K := by omega
      go_enter Try.func9, Try.ntmps9
      go_wp2
      go_ret
      exact ⟨ret_int E.out.symm, HB1.out⟩
  have h3 : ¬ (600 : Int) < A.G := by omega
  have h4 : ¬ (80 : Int) < A.K := by omega
  by_cases h2 : A.M ≠ A.G
  · have E : Hid (chkW A = 1) := hid ((if_neg h1).trans (if_pos h2))
    have h6 : ((A.M : Int) != (A.G : Int)) = true := by simp; omega
    clear h1 h2
    go_enter Try.func9, Try.ntmps9
    go_wp2
    go_ret
    exact ⟨ret_int E.out.symm, HB1.out⟩
  · have h6 : ((A.M : Int) != (A.G : Int)) = false := by simp; omega
    have E : Hid (chkW A = if allIn A.sn A.S A.G = true ∧ onL A.G A.L = true ∧ okL A.G A.L A.Z A.G = true ∧ okL A.K A.FL A.FZ A.G = true then 0 else 1) := hid ((if_neg h1).trans (if_neg h2))
    clear h1 h2
    have HW := hid (H.out.below HB1.out)
    have HBW : Hid (Bw W1 w.heap.size A) := hid ⟨q0, q1, q2, q3⟩
    have C1 : Hid (Calls Try.prog 33 #[.slice A.na A.G A.nc, .func (.func 30) #[] #[]] W1 fun e w' => e = .returned (.bool (!onL A.G A.L)) ∧ Below W1.heap.size W1 w') := hid (cfLs_any A.na A.G A.nc A.L A.Z 30 #[] (fun r => decide (A.L r = 0)) (!onL A.G A.L) W1 g47 HW.out.next (Or.inl ⟨rfl, rfl⟩) (fun r a c u hr hu hrow => (ends_any a (A.L r) c u).mono (by rintro e w' ⟨rfl, rfl⟩; exact ⟨rfl, Below.refl _ _⟩)) (by
      constructor
      · intro hh
        have h5 : onL A.G A.L = false := by simpa using hh
        unfold onL at h5
        rw [decide_eq_false_iff_not] at h5
        refine Classical.byContradiction fun hn => h5 fun r hr e => hn ⟨r, hr, by simp [e]⟩
      · rintro ⟨k, hk, hk2⟩
        rw [onL_no k hk (by simpa using hk2)]
        rfl))
    have C2 : Hid (∀ z, Below W1.heap.size W1 z → Calls Try.prog 31 #[.slice A.sa A.sn A.sc, .pointer (some ⟨w.heap.size, 0, none⟩)] z fun e w' => e = .returned (.bool (!allIn A.sn A.S A.G)) ∧ Below z.heap.size z w') := hid (fun z hz => isWrong_any A w.heap.size A.sa A.sn A.sc A.S z H.out.s47 ((HW.out.below hz).start) g47 (HBW.out.below hz))
    have CL : Hid (∀ (fa : Option Addr) (K fc : Nat) (FL : Nat → Nat) (FZ : Nat → Nat → Int) (z : World), K ≤ 140737488355328 → (∀ r, r < K → FL r ≤ 140737488355328) → Gr z fa K FL FZ → Below W1.heap.size W1 z → Calls Try.prog 33 #[.slice fa K fc, .func (.func 31) #[] #[.pointer (some ⟨w.heap.size, 0, none⟩)]] z fun e w' => e = .returned (.bool (!okL K FL FZ A.G)) ∧ Below z.heap.size z w') := hid (fun fa K fc FL FZ z hK hL hg hz => cfLs_any fa K fc FL FZ 31 #[.pointer (some ⟨w.heap.size, 0, none⟩)] (fun r => !allIn (FL r) (FZ r) A.G) (!okL K FL FZ A.G) z hK hg (Or.inr (Or.inl ⟨rfl, _, rfl⟩)) (fun r a c u hr hu hrow => isWrong_any A w.heap.size a (FL r) c (FZ r) u (hL r hr) hrow g47 (HBW.out.below (hz.trans (hu.mono hz.size)))) (by
      constructor
      · intro hh
        have h5 : okL K FL FZ A.G = false := by simpa using hh
        unfold okL at h5
        rw [decide_eq_false_iff_not] at h5
        refine Classical.byContradiction fun hn => h5 fun r hr => ?_
        cases e : allIn (FL r) (FZ r) A.G
        · exact absurd ⟨r, hr, by simp [e]⟩ hn
        · rfl
      · rintro ⟨k, hk, hk2⟩
        rw [okL_no k hk (by simpa using hk2)]
        rfl))
    have C3 : Hid (∀ z, Below W1.heap.size W1 z → Calls Try.prog 33 #[.slice A.na A.G A.nc, .func (.func 31) #[] #[.pointer (some ⟨w.heap.size, 0, none⟩)]] z fun e w' => e = .returned (.bool (!okL A.G A.L A.Z A.G)) ∧ Below z.heap.size z w') := hid (fun z hz => CL.out A.na A.G A.nc A.L A.Z z g47 H.out.l47 ((HW.out.below hz).next) hz)
    have C4 : Hid (∀ z, Below W1.heap.size W1 z → Calls Try.prog 33 #[.slice A.fa A.K A.fc, .func (.func 31) #[] #[.pointer (some ⟨w.heap.size, 0, none⟩)]] z fun e w' => e = .returned (.bool (!okL A.K A.FL A.FZ A.G)) ∧ Below z.heap.size z w') := hid (fun z hz => CL.out A.fa A.K A.fc A.FL A.FZ z k47 H.out.f47 ((HW.out.below hz).fair) hz)
    clear CL
    generalize allIn A.sn A.S A.G = p1 at *
    generalize onL A.G A.L = p2 at *
    generalize okL A.G A.L A.Z A.G = p3 at *
    generalize okL A.K A.FL A.FZ A.G = p4 at *
    go_enter Try.func9, Try.ntmps9
    go_wp2_with fail
    refine C1.out.mono ?_
    rintro e w1 ⟨rfl, hb⟩
    have HX1 := hid hb
    obtain ⟨t0, t1, t2, t3⟩ := HBW.out.below hb
    clear hb q0 q1 q2 q3 C1
    cases p2
    · rw [if_neg (by simp)] at E
      go_wp2
      go_ret
      exact ⟨ret_int E.out.symm, HB1.out.trans (HX1.out.mono HB1.out.size)⟩
    have D2 := hid (C2.out w1 HX1.out)
    go_wp2_with fail
    refine D2.out.mono ?_
    rintro e w2 ⟨rfl, hb⟩
    have HX2 := hid (HX1.out.trans (hb.mono HX1.out.size))
    clear hb t0 t1 t2 t3 D2
    obtain ⟨t0, t1, t2, t3⟩ := HBW.out.below HX2.out
    cases p1
    · rw [if_neg (by simp)] at E
      go_wp2
      go_ret
      exact ⟨ret_int E.out.symm, HB1.out.trans (HX2.out.mono HB1.out.size)⟩
    have D3 := hid (C3.out w2 HX2.out)
    go_wp2_with fail
    refine D3.out.mono ?_
    rintro e w3 ⟨rfl, hb⟩
    have HX3 := hid (HX2.out.trans (hb.mono HX2.out.size))
    clear hb t0 t1 t2 t3 D3
    obtain ⟨t0, t1, t2, t3⟩ := HBW.out.below HX3.out
    cases p3
    · rw [if_neg (by simp)] at E
      go_wp2
      go_ret
      exact ⟨ret_int E.out.symm, HB1.out.trans (HX3.out.mono HB1.out.size)⟩
    have D4 := hid (C4.out w3 HX3.out)
    go_wp2_with fail
    refine D4.out.mono ?_
    rintro e w4 ⟨rfl, hb⟩
    have HX4 := hid (HX3.out.trans (hb.mono HX3.out.size))
    clear hb t0 t1 t2 t3 D4
    cases p4
    · rw [if_neg (by simp)] at E
      go_wp2
      go_ret
      exact ⟨ret_int E.out.symm, HB1.out.trans (HX4.out.mono HB1.out.size)⟩
    · rw [if_pos (by simp)] at E
      go_wp2
      go_ret
      exact ⟨ret_int E.out.symm, HB1.out.trans (HX4.out.mono HB1.out.size)⟩

set_option maxHeartbeats 4000000 in
/-- The document's. -/
theorem worldRef_any (A : Wx) (w : World) (h : Ww w A) : Calls Try.prog 7 #[.agg #[.slice A.sa A.sn A.sc, .slice A.na A.G A.nc, .slice A.la A.M A.lc, .slice A.fa A.K A.fc]] w fun e w' => e = .returned (.int .i64 (chkW A)) ∧ Below w.heap.size w w' := by
  have H := hid h
  have g47 := h.g47
  have k47 := h.k47
  have m47 := h.m47
  clear h
  obtain ⟨W1, hW1, hb1, hs1, hbw⟩ := boxw w A
  obtain ⟨q0, q1, q2, q3⟩ := hbw
  have HB1 := hid hb1
  clear hb1 hs1
  by_cases h1 : 600 < A.G ∨ 80 < A.K
  · have E : Hid (chkW A = 2) := hid (if_pos h1)
    by_cases h2 : 600 < A.G
    · have h3 : (600 : Int) < A.G := by omega
      go_enter Try.func7, Try.ntmps7
      go_wp2
      go_ret
      exact ⟨ret_int E.out.symm, HB1.out⟩
    · have h3 : ¬ (600 : Int) < A.G := by omega
      have h4 : (80 : Int) < A.K := by omega
      go_enter Try.func7, Try.ntmps7
      go_wp2
      go_ret
      exact ⟨ret_int E.out.symm, HB1.out⟩
  have h3 : ¬ (600 : Int) < A.G := by omega
  have h4 : ¬ (80 : Int) < A.K := by omega
  by_cases h2 : A.M ≠ A.G
  · have E : Hid (chkW A = 1) := hid ((if_neg h1).trans (if_pos h2))
    have h6 : ((A.M : Int) != (A.G : Int)) = true := by simp; omega
    clear h1 h2
    go_enter Try.func7, Try.ntmps7
    go_wp2
    go_ret
    exact ⟨ret_int E.out.symm, HB1.out⟩
  have h6 : ((A.M : Int) != (A.G : Int)) = false := by simp; omega
  have E : Hid (chkW A = if allIn A.sn A.S A.G = true ∧ onL A.G A.L = true ∧ okL A.G A.L A.Z A.G = true ∧ okL A.K A.FL A.FZ A.G = true then 0 else 1) := hid ((if_neg h1).trans (if_neg h2))
  clear h1 h2
  have HW := hid (H.out.below HB1.out)
  have C1 := hid (inRef_any A.sa A.sn A.sc A.S A.G W1 H.out.s47 HW.out.start)
  have C2 := hid (fun (a : Option Addr) (n c : Nat) (Z : Nat → Int) (hn : n ≤ 140737488355328) (hr : Row W1 a n Z) => inRef_any a n c Z A.G W1 hn hr)
  by_cases hS : allIn A.sn A.S A.G = true
  · rw [hS] at C1
    have HS := hid hS
    obtain ⟨nb, no, hna, hnc⟩ := HW.out.next
    obtain ⟨fb, fo, hfa, hfc⟩ := HW.out.fair
    have HNC := hid hnc
    have HFC := hid hfc
    clear hS hnc hfc
    go_enter Try.func7, Try.ntmps7
    go_wp2_with fail
    refine C1.out.mono ?_
    rintro e w1 ⟨rfl, rfl⟩
    clear C1
    go_wp2
    go_loop [4] (fun i => ∃ k : Nat, k ≤ A.G ∧ i = .int .i64 k ∧ Hid (∀ j, j < k → A.L j ≠ 0 ∧ allIn (A.L j) (A.Z j) A.G = true)) (fun i => A.G - (intOf i).toNat)
    case atStart => exact ⟨0, Nat.zero_le _, rfl, hid (fun j hj => absurd hj (Nat.not_lt_zero _))⟩
    case round =>
      obtain ⟨k, hk, rfl, HK⟩ := hrel
      by_cases hlt : k < A.G
      · have q1' := q1
        rw [hna (by omega)] at q1'
        obtain ⟨a, c, hck, hrow⟩ := HNC.out k hlt
        have D := hid (C2.out a (A.L k) c (A.Z k) (H.out.l47 k hlt) hrow)
        have HLE : Hid (A.L k = 0 → chkW A = 1) := hid (fun e => E.out.trans (if_neg (fun hh => by rw [onL_no k hlt e] at hh; exact absurd hh.2.1 (by simp))))
        have HZE : Hid (allIn (A.L k) (A.Z k) A.G = false → chkW A = 1) := hid (fun e => E.out.trans (if_neg (fun hh => by rw [okL_no k hlt e] at hh; exact absurd hh.2.2.1 (by simp))))
        have hL47 := H.out.l47 k hlt
        clear hrow q1
        by_cases hL : A.L k = 0
        · have h7 : (((A.L k : Nat) : Int) == 0) = true := by rw [hL]; rfl
          have EE := hid (HLE.out hL)
          clear hL
          go_wp2
          go_ret
          exact ⟨ret_int EE.out.symm, HB1.out⟩
        · have h7 : (((A.L k : Nat) : Int) == 0) = false := beq_eq_false_iff_ne.2 (by omega)
          have HL0 := hid hL
          clear hL
          cases hz : allIn (A.L k) (A.Z k) A.G
          · have EE := hid (HZE.out hz)
            rw [hz] at D
            clear hz
            go_wp2_with fail
            refine D.out.mono ?_
            rintro e w2 ⟨rfl, rfl⟩
            go_wp2
            go_ret
            exact ⟨ret_int EE.out.symm, HB1.out⟩
          · have HZ0 := hid hz
            rw [hz] at D
            clear hz
            go_wp2_with fail
            refine D.out.mono ?_
            rintro e w2 ⟨rfl, rfl⟩
            go_wp2
            go_round
            case rel => exact ⟨k + 1, by omega, by go_num, hid (snoc_all HK.out ⟨HL0.out, HZ0.out⟩)⟩
            case measure => simp [intOf]; omega
      · have HN : Hid (onL A.G A.L = true ∧ okL A.G A.L A.Z A.G = true) := hid ⟨onL_yes (fun r hr => (HK.out r (by omega)).1), okL_yes (fun r hr => (HK.out r (by omega)).2)⟩
        clear HK
        go_wp2
        go_loop [5] (fun i => ∃ k : Nat, k ≤ A.K ∧ i = .int .i64 k ∧ Hid (∀ j, j < k → allIn (A.FL j) (A.FZ j) A.G = true)) (fun i => A.K - (intOf i).toNat)
        case atStart => exact ⟨0, Nat.zero_le _, rfl, hid (fun j hj => absurd hj (Nat.not_lt_zero _))⟩
        case round =>
          obtain ⟨k, hk, rfl, HK⟩ := hrel
          by_cases hlt : k < A.K
          · have q3' := q3
            rw [hfa (by omega)] at q3'
            obtain ⟨a, c, hck, hrow⟩ := HFC.out k hlt
            have D := hid (C2.out a (A.FL k) c (A.FZ k) (H.out.f47 k hlt) hrow)
            have HZE : Hid (allIn (A.FL k) (A.FZ k) A.G = false → chkW A = 1) := hid (fun e => E.out.trans (if_neg (fun hh => by rw [okL_no k hlt e] at hh; exact absurd hh.2.2.2 (by simp))))
            clear hrow q3
            cases hz : allIn (A.FL k) (A.FZ k) A.G
            · have EE := hid (HZE.out hz)
              rw [hz] at D
              clear hz
              go_wp2_with fail
              refine D.out.mono ?_
              rintro e w2 ⟨rfl, rfl⟩
              go_wp2
              go_ret
              exact ⟨ret_int EE.out.symm, HB1.out⟩
            · have HZ0 := hid hz
              rw [hz] at D
              clear hz
              go_wp2_with fail
              refine D.out.mono ?_
              rintro e w2 ⟨rfl, rfl⟩
              go_wp2
              go_round
              case rel => exact ⟨k + 1, by omega, by go_num, hid (snoc_all HK.out HZ0.out)⟩
              case measure => simp [intOf]; omega
          · have HO : Hid (okL A.K A.FL A.FZ A.G = true) := hid (okL_yes (fun r hr => HK.out r (by omega)))
            go_wp2
            go_ret
            exact ⟨ret_int (E.out.trans (if_pos ⟨HS.out, HN.out.1, HN.out.2, HO.out⟩)).symm, HB1.out⟩
  · rw [Bool.not_eq_true] at hS
    rw [hS] at C1
    have EE : Hid (chkW A = 1) := hid (E.out.trans (if_neg (fun hh => by rw [hS] at hh; exact absurd hh.1 (by simp))))
    clear hS
    go_enter Try.func7, Try.ntmps7
    go_wp2_with fail
    refine C1.out.mono ?_
    rintro e w1 ⟨rfl, rfl⟩
    go_wp2
    go_ret
    exact ⟨ret_int EE.out.symm, HB1.out⟩

end Go.Proofs.Ytgahdclbaifcbaa
