/- The law SccWays, by the contracts of what it calls. -/
import Derived.Test.YtjfanphbjngfeaaRefWay
namespace Go.Proofs.Ytjfanphbjngfeaa
open Go.RowKit

theorem Near.same {G : Nat} {L : Nat → Nat} {Z : Nat → Nat → Int} {T : Nat → Bool} {n : Nat} {Y : Nat → Int} {F F' : Nat → Int} {len len' : Nat} (h : Near G L Z T n Y F len) (h' : Near G L Z T n Y F' len') : len = len' := by
  have one : ∀ {F F' : Nat → Int} {len len' : Nat}, Near G L Z T n Y F len → Near G L Z T n Y F' len' → len' ≤ len := fun {F F' len len'} h h' => by
    obtain ⟨t, ht, hT, hF⟩ := h.tgt
    obtain ⟨h0, _, hw⟩ := h.snd t ht (by omega)
    obtain ⟨h1, h2⟩ := h'.all _ t ht hw
    have := h'.min t ht hT h1
    omega
  have a := one h h'
  have b := one h' h
  omega

theorem Near.comes {G : Nat} {L : Nat → Nat} {Z : Nat → Nat → Int} {T : Nat → Bool} {n : Nat} {Y : Nat → Int} {F : Nat → Int} {len : Nat} (h : Near G L Z T n Y F len) : ∃ t, t < G ∧ T t = true ∧ Comes G L Z n Y t := by
  obtain ⟨t, ht, hT, hF⟩ := h.tgt
  obtain ⟨_, _, hw⟩ := h.snd t ht (by omega)
  exact ⟨t, ht, hT, _, by rw [src_eq, ed_ego]; exact hw⟩

theorem WayIs.either {G : Nat} {L : Nat → Nat} {Z : Nat → Nat → Int} {T : Nat → Bool} {n : Nat} {Y : Nat → Int} {w w' : World} {v : Value} {is : Bool} (h : WayIs G L Z T n Y w w' v is) : (∀ x, x < G → T x = true → ¬ Comes G L Z n Y x) ∨ ∃ (F : Nat → Int) (len : Nat), Near G L Z T n Y F len := by
  rcases h with ⟨_, _, h⟩ | ⟨_, F, len, h, _⟩
  · exact Or.inl h
  · exact Or.inr ⟨F, len, h⟩

/-- What a way is in memory: a slice that holds just the nodes of the way. -/
theorem WayIs.row {G : Nat} {L : Nat → Nat} {Z : Nat → Nat → Int} {T : Nat → Bool} {n : Nat} {Y : Nat → Int} {w w' : World} {v : Value} {is : Bool} (h : WayIs G L Z T n Y w w' v is) : ∃ (a : Option Addr) (k c : Nat) (R : Nat → Int), v = .slice a k c ∧ Row w' a k R ∧
    ((is = false ∧ k = 0 ∧ ∀ x, x < G → T x = true → ¬ Comes G L Z n Y x) ∨ (is = true ∧ ∃ (F : Nat → Int) (len : Nat), Near G L Z T n Y F len ∧ k = len + 1 ∧ ∀ i, i < len + 1 → R i = nd L Z n Y (byLev G L Z T len) i)) := by
  rcases h with ⟨h1, rfl, h2⟩ | ⟨h1, F, len, h2, h3⟩
  · exact ⟨none, 0, 0, fun _ => 0, rfl, row_zero _ _ _, Or.inl ⟨h1, rfl, h2⟩⟩
  · have hl := wayL_len L Z n Y (byLev G L Z T len) (len + 1)
    obtain ⟨a, c, e, hr⟩ := owns_row (l := wayL L Z n Y (byLev G L Z T len) (len + 1)) (by rw [hl]; exact h3)
    rw [hl] at e hr
    refine ⟨a, len + 1, c, _, e, hr, Or.inr ⟨h1, F, len, h2, rfl, fun i hi => ?_⟩⟩
    simp [wayL, hi]

/-- Two ways of one question are the same. -/
theorem WayIs.twice {G : Nat} {L : Nat → Nat} {Z : Nat → Nat → Int} {T : Nat → Bool} {n : Nat} {Y : Nat → Int} {w1 w1' w2 w2' : World} {v v' : Value} {is is' : Bool} (h : WayIs G L Z T n Y w1 w1' v is) (h' : WayIs G L Z T n Y w2 w2' v' is') (hb : Below w1'.heap.size w1' w2') :
    is = is' ∧ ∃ (a : Option Addr) (c : Nat) (a' : Option Addr) (c' : Nat) (k : Nat) (R R' : Nat → Int), v = .slice a k c ∧ v' = .slice a' k c' ∧ Row w2' a k R ∧ Row w2' a' k R' ∧ k ≤ G ∧ ∀ i, i < k → R i = R' i := by
  obtain ⟨a, k, c, R, rfl, hr, hk⟩ := h.row
  obtain ⟨a', k', c', R', rfl, hr', hk'⟩ := h'.row
  rcases hk with ⟨e, rfl, hno⟩ | ⟨e, F, len, hN, rfl, hR⟩
  · rcases hk' with ⟨e', rfl, _⟩ | ⟨_, F', len', hN', _⟩
    · exact ⟨by rw [e, e'], a, c, a', c', 0, R, R', rfl, rfl, hr.below hb, hr', Nat.zero_le _, fun i hi => by omega⟩
    · obtain ⟨t, ht, hT, hc⟩ := hN'.comes
      exact absurd hc (hno t ht hT)
  · rcases hk' with ⟨_, _, hno⟩ | ⟨e', F', len', hN', rfl, hR'⟩
    · obtain ⟨t, ht, hT, hc⟩ := hN.comes
      exact absurd hc (hno t ht hT)
    · have hs := hN.same hN'
      subst hs
      exact ⟨by rw [e, e'], a, c, a', c', len + 1, R, R', rfl, rfl, hr.below hb, hr', hN.lenG, fun i hi => by rw [hR i hi, hR' i hi]⟩

theorem errF_of_bad {G : Nat} {L : Nat → Nat} {Z : Nat → Nat → Int} {n : Nat} {Y : Nat → Int} {tn : Nat} (h : errG G L Z ≠ 0) : errW G L Z n Y tn = errG G L Z := by
  unfold errW errF
  rw [if_neg h, if_neg h]

set_option maxHeartbeats 1000000 in
theorem sccWays_walk (ga : Option Addr) (G gc : Nat) (L : Nat → Nat) (Z : Nat → Nat → Int) (a : Option Addr) (n c : Nat) (Y : Nat → Int) (ta : Option Addr) (tn tc : Nat) (T : Nat → Bool) (w : World)
    (hL : ∀ r, r < G → L r ≤ 140737488355328) (hn : n ≤ 140737488355328) (h : Gr w ga G L Z) (ha : Row w a n Y) (ht : Rowb w ta tn T) :
    Calls Try.prog 5 #[.slice ga G gc, .slice a n c, .slice ta tn tc] w fun e w' => e = .returned (.bool true) ∧ Below w.heap.size w w' := by
  have HL : Hid (∀ r, r < G → L r ≤ 140737488355328) := hL
  have HG : Hid (Gr w ga G L Z) := h
  have HA : Hid (Row w a n Y) := ha
  have HT : Hid (Rowb w ta tn T) := ht
  have C9 : Hid (Calls Try.prog 9 #[.slice ga G gc] w fun e w' => e = .returned (.int .i64 (errG G L Z)) ∧ w' = w) := graph_any ga G gc L Z w hL h
  have C18 : Hid (Calls Try.prog 18 #[.slice a n c, .int .i64 G] w fun e w' => e = .returned (.bool (allIn n Y G)) ∧ w' = w) := in_any a n c Y G w hn ha
  clear hL h ha ht
  by_cases hE : errG G L Z = 0
  · rw [hE] at C9
    cases hI : allIn n Y G
    · have HW : Hid (errW G L Z n Y tn = 1) := hid (by unfold errW errF; rw [if_pos hE, hI]; rfl)
      rw [hI] at C18
      clear hE hI
      go_enter Try.func5, Try.ntmps5
      go_wp2_with fail
      refine C9.out.mono ?_
      rintro e w' ⟨rfl, rfl⟩
      go_wp2_with fail
      refine C18.out.mono ?_
      rintro e w' ⟨rfl, rfl⟩
      go_wp2_with fail
      refine (way_bad ga G gc L Z a n c Y ta tn tc _ HL.out hn HG.out HA.out 1 HW.out (by omega)).mono ?_
      rintro e w' ⟨rfl, rfl⟩
      go_wp2
      go_ret
      exact ⟨rfl, Below.refl _ _⟩
    · rw [hI] at C18
      by_cases htn : tn = G
      · subst htn
        have HF : Hid (errF tn L Z n Y = 0) := hid (by unfold errF; rw [if_pos hE, hI]; rfl)
        have hG := (errG_zero hE).1
        clear hE hI
        by_cases hs : 300 < tn
        · have hsz : (300 : Int) < tn := by omega
          go_enter Try.func5, Try.ntmps5
          go_wp2_with fail
          refine C9.out.mono ?_
          rintro e w' ⟨rfl, rfl⟩
          go_wp2_with fail
          refine C18.out.mono ?_
          rintro e w' ⟨rfl, rfl⟩
          go_wp2_with fail
          refine (way_ok ga tn gc L Z a n c Y ta tc T _ HL.out hn HG.out HA.out HT.out HF.out).mono ?_
          rintro e w1 ⟨v, is, rfl, hbel, _⟩
          have HB : Hid (Below w'.heap.size w' w1) := hbel
          clear hbel
          go_wp2
          go_ret
          exact ⟨rfl, HB.out⟩
        · have hsz : ¬ (300 : Int) < tn := by omega
          go_enter Try.func5, Try.ntmps5
          go_wp2_with fail
          refine C9.out.mono ?_
          rintro e w' ⟨rfl, rfl⟩
          go_wp2_with fail
          refine C18.out.mono ?_
          rintro e w' ⟨rfl, rfl⟩
          go_wp2_with fail
          refine (way_ok ga tn gc L Z a n c Y ta tc T _ HL.out hn HG.out HA.out HT.out HF.out).mono ?_
          rintro e w1 ⟨v, is, rfl, hbel, hW⟩
          have HB : Hid (Below w'.heap.size w' w1) := hbel
          have HW : Hid (WayIs tn L Z T n Y w' w1 v is) := hW
          clear hbel hW
          go_wp2_with fail
          refine (refWay_any ga tn gc L Z a n c Y ta tc T _ HL.out hn (HG.out.below HB.out) (HA.out.below HB.out) (HT.out.below HB.out) HF.out HW.out.either).mono ?_
          rintro e w2 ⟨v2, is2, rfl, hbel2, hW2⟩
          obtain ⟨his, a1, c1, a2, c2, k, R, R', rfl, rfl, hr1, hr2, hk, hRR⟩ := HW.out.twice hW2 hbel2
          subst his
          have HB2 : Hid (Below w'.heap.size w' w2) := HB.out.trans (hbel2.mono HB.out.size)
          have C16 := equal_any a1 a2 k c1 k c2 R R' w2 (by omega) hr1 hr2
          rw [same_yes rfl hRR] at C16
          have HC : Hid (Calls Try.prog 16 #[.slice a1 k c1, .slice a2 k c2] w2 fun e w' => e = .returned (.bool true) ∧ ∃ q, w' = w2.drewN q) := C16
          have hbb : (is == is) = true := by simp
          clear hbel2 hW2 hr1 hr2 hRR C16
          go_wp2_with fail
          refine HC.out.mono ?_
          rintro e w3 ⟨rfl, q, rfl⟩
          go_wp2
          go_ret
          exact ⟨rfl, below_drewN HB2.out q⟩
      · have HW : Hid (errW G L Z n Y tn = 1) := hid (by unfold errW errF; rw [if_pos hE, hI]; simp [htn])
        have hz : ((tn : Int) != G) = true := by simp; omega
        clear hE hI htn
        go_enter Try.func5, Try.ntmps5
        go_wp2_with fail
        refine C9.out.mono ?_
        rintro e w' ⟨rfl, rfl⟩
        go_wp2_with fail
        refine C18.out.mono ?_
        rintro e w' ⟨rfl, rfl⟩
        go_wp2_with fail
        refine (way_bad ga G gc L Z a n c Y ta tn tc _ HL.out hn HG.out HA.out 1 HW.out (by omega)).mono ?_
        rintro e w' ⟨rfl, rfl⟩
        go_wp2
        go_ret
        exact ⟨rfl, Below.refl _ _⟩
  · have HW : Hid (errW G L Z n Y tn = errG G L Z) := errF_of_bad hE
    have H0 : Hid (errG G L Z ≠ 0) := hE
    have C21 : Hid (Calls Try.prog 21 #[.slice ga G gc, .slice a n c, .slice ta tn tc] w fun e w' => e = .returned (.tuple #[.slice none 0 0, .bool false, .int .i64 (errG G L Z)]) ∧ w' = w) := way_bad ga G gc L Z a n c Y ta tn tc _ HL.out hn HG.out HA.out _ HW.out hE
    have hz1 : (errG G L Z != 0) = true := by rw [bne_iff_ne]; exact hE
    have hz2 : (errG G L Z == 0) = false := beq_eq_false_iff_ne.2 hE
    clear hE
    generalize errG G L Z = E at *
    have hz3 : (E == E) = true := by simp
    go_enter Try.func5, Try.ntmps5
    go_wp2_with fail
    refine C9.out.mono ?_
    rintro e w' ⟨rfl, rfl⟩
    go_wp2_with fail
    refine C21.out.mono ?_
    rintro e w' ⟨rfl, rfl⟩
    go_wp2
    go_ret
    exact ⟨rfl, Below.refl _ _⟩

end Go.Proofs.Ytjfanphbjngfeaa
