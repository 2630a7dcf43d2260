/- The law AutoSays. -/
import Derived.Test.YtdncjikmknkkpaaDoorRac
import Derived.Test.YtdncjikmknkkpaaDoorAutoWordsWalk
namespace Go.Proofs.YtdncjikmknkkpaaDoor
open Go.RowKit

set_option maxRecDepth 100000 in
set_option maxHeartbeats 4000000 in
theorem autoSays_walk (A : Ax) (wsa : Option Addr) (s wsc : Nat) (wla : Option Addr) (m wlc : Nat) (S' L' : Nat → Int) (w : World) (h : Aw w A) (hw : Wd w wsa s wla m S' L') (hT : Tb w) (hL8 : ∀ r, r < A.G → A.L r * 8 ≤ 140737488355328) :
    Calls Tryd.prog 3 #[A.val, .agg #[.slice wsa s wsc, .slice wla m wlc]] w fun e w' => e = .returned (.bool true) ∧ Below w.heap.size w w' := by
  have hg47 := h.g47
  have C8 := hid (fun (z : World) (hz : Below w.heap.size w z) => autoRef_any A z (h.below hz))
  have C10 := hid (fun (z : World) (hz : Below w.heap.size w z) => chkA_any A z (h.below hz))
  have C9 := hid (fun (z : World) (hz : Below w.heap.size w z) => accepts_b A wsa s wsc wla m wlc S' L' z (h.below hz) (hw.below hz) (fun j hj => below_cell hz (Nat.le_refl _) (hT j hj)))
  have C11 := hid (fun (z : World) => wordRef_any wsa s wsc wla m wlc z hw.s47 hw.m47)
  have C12 := hid (fun (h0 : chkA A = 0) (h1 : wchk s m = 0) (hN : A.G * (s + m) ≤ 3000) (z : World) (hz : Below w.heap.size w z) => rac_any A wsa s wsc wla m wlc S' L' z (h.below hz) (hw.below hz) h0 h1 hN hL8)
  have HG := hid (fun (h0 : chkA A = 0) => (chkA_ok h0).1)
  have HW := hid (fun (h0 : wchk s m = 0) => (wchk_ok h0).1)
  clear h hw hT hL8
  obtain ⟨W1, hW1, hb1, hs1, hbo, hc0, hc1⟩ := ac_world w A wsa s wsc wla m wlc
  have HB1 := hid hb1
  obtain ⟨q0, q1, q2, q3, q4⟩ := hbo
  clear hb1
  obtain ⟨er, her⟩ : ∃ er, chkA A = er := ⟨_, rfl⟩
  obtain ⟨ew, hew⟩ : ∃ ew, wchk s m = ew := ⟨_, rfl⟩
  obtain ⟨ea, hea⟩ : ∃ ea, erA A s m = ea := ⟨_, rfl⟩
  obtain ⟨aut, haut⟩ : ∃ aut, autA A = aut := ⟨_, rfl⟩
  have hea2 : ea = if er = 0 then ew else er := by rw [← hea, ← her, ← hew]; rfl
  rw [her] at C8 C10
  rw [hew] at C11
  rw [hea, haut] at C9
  rw [haut] at C12
  rw [her, hew] at C12
  rw [her] at HG
  rw [hew] at HW
  have HEA := hid hea2
  clear her hew hea haut hea2
  obtain ⟨sa, sn, sc, na, G, nc, ma, M, mc, oa, O, oc, fa, K, fc, S, L, Z, Mu, No, FL, FZ⟩ := A
  dsimp only [Ax.val] at *
  go_enter Tryd.func3, Tryd.ntmps3
  go_wp2_with fail
  refine (C8.out _ HB1.out).mono ?_
  rintro e w2 ⟨rfl, hb2⟩
  have p0 := below_cell hb2 (Nat.le_refl _) q0
  have p1 := below_cell hb2 (Nat.le_refl _) q1
  have p2 := below_cell hb2 (Nat.le_refl _) q2
  have p3 := below_cell hb2 (Nat.le_refl _) q3
  have p4 := below_cell hb2 (Nat.le_refl _) q4
  have d0 := below_cell hb2 (Nat.le_refl _) hc0
  have d1 := below_cell hb2 (Nat.le_refl _) hc1
  have HB2 := hid (HB1.out.trans (hb2.mono HB1.out.size))
  clear hb2 q0 q1 q2 q3 q4 hc0 hc1 hs1 C8
  go_wp2_with fail
  refine (C9.out _ HB2.out).mono ?_
  rintro e w3 ⟨b, rfl, HBB⟩
  have hb3 := HBB.out.2.2
  have q0 := below_cell hb3 (Nat.le_refl _) p0
  have q1 := below_cell hb3 (Nat.le_refl _) p1
  have q2 := below_cell hb3 (Nat.le_refl _) p2
  have q3 := below_cell hb3 (Nat.le_refl _) p3
  have q4 := below_cell hb3 (Nat.le_refl _) p4
  have c0 := below_cell hb3 (Nat.le_refl _) d0
  have c1 := below_cell hb3 (Nat.le_refl _) d1
  have HB3 := hid (HB2.out.trans (hb3.mono HB2.out.size))
  clear hb3 p0 p1 p2 p3 p4 d0 d1 C9
  go_wp2_with fail
  refine (C10.out _ HB3.out).mono ?_
  rintro e w4 ⟨rfl, hb4⟩
  have p0 := below_cell hb4 (Nat.le_refl _) q0
  have p1 := below_cell hb4 (Nat.le_refl _) q1
  have p2 := below_cell hb4 (Nat.le_refl _) q2
  have p3 := below_cell hb4 (Nat.le_refl _) q3
  have p4 := below_cell hb4 (Nat.le_refl _) q4
  have d0 := below_cell hb4 (Nat.le_refl _) c0
  have d1 := below_cell hb4 (Nat.le_refl _) c1
  have HB4 := hid (HB3.out.trans (hb4.mono HB3.out.size))
  clear hb4 q0 q1 q2 q3 q4 c0 c1 C10
  have g0 : (er != er) = false := by simp
  by_cases h0 : er = 0
  · subst h0
    rw [if_pos rfl] at HEA
    obtain rfl := HEA.out
    go_wp2_with fail
    refine (C11.out w4).mono ?_
    rintro e w5 ⟨rfl, hb5⟩
    have q0 := below_cell hb5 (Nat.le_refl _) p0
    have q1 := below_cell hb5 (Nat.le_refl _) p1
    have q2 := below_cell hb5 (Nat.le_refl _) p2
    have q3 := below_cell hb5 (Nat.le_refl _) p3
    have q4 := below_cell hb5 (Nat.le_refl _) p4
    have c0 := below_cell hb5 (Nat.le_refl _) d0
    have c1 := below_cell hb5 (Nat.le_refl _) d1
    have HB5 := hid (HB4.out.trans (hb5.mono HB4.out.size))
    clear hb5 p0 p1 p2 p3 p4 d0 d1 C11
    by_cases h1 : ea = 0
    · subst h1
      have hb := HBB.out.2.1 rfl
      have hG := HG.out trivial
      have hsm := HW.out rfl
      obtain ⟨mm, hmm⟩ : ∃ mm, mm = s + m := ⟨_, rfl⟩
      obtain ⟨N, hNN⟩ : ∃ N, N = G * mm := ⟨_, rfl⟩
      have e1 : (s : Int) + (m : Int) = (mm : Int) := by omega
      have e2 : (G : Int) * (mm : Int) = (N : Int) := by rw [hNN]; push_cast; rfl
      have hNb : N ≤ 2048 * 60 := by rw [hNN]; exact Nat.mul_le_mul hG (by omega)
      have HBI := hid hb
      clear hb
      by_cases hN : N ≤ 3000
      · have D12 := hid (C12.out trivial rfl (by rw [← hmm, ← hNN]; exact hN) _ HB5.out)
        have g5 : ¬ (3000 : Int) < (N : Int) := by omega
        clear hmm hNN C12 HBB
        go_wp2_with fail
        refine D12.out.mono ?_
        rintro e w6 ⟨b2, rfl, hb6, hb7⟩
        have HB6 := hid (HB5.out.trans (hb7.mono HB5.out.size))
        have g6 : (b == b2) = true := by
          have h1 := HBI.out
          rw [beq_iff_eq, Bool.eq_iff_iff]
          exact h1.trans hb6.symm
        clear hb6 hb7
        go_wp2
        go_ret
        exact ⟨rfl, HB6.out⟩
      · have g5 : (3000 : Int) < (N : Int) := by omega
        clear hmm hNN C12 HBB
        go_wp2
        go_ret
        exact ⟨rfl, HB5.out⟩
    · have hb := HBB.out.1 h1
      subst hb
      have g1 : (ea != 0) = true := by simp [h1]
      have g2 : (ea == ea) = true := by simp
      go_wp2
      go_ret
      exact ⟨rfl, HB5.out⟩
  · rw [if_neg h0] at HEA
    obtain rfl := HEA.out
    have hb := HBB.out.1 h0
    subst hb
    have g1 : (ea != 0) = true := by simp [h0]
    have g3 : (ea == 0) = false := by simp [h0]
    have g2 : (ea == ea) = true := by simp
    go_wp2
    go_ret
    exact ⟨rfl, HB4.out⟩

end Go.Proofs.YtdncjikmknkkpaaDoor
