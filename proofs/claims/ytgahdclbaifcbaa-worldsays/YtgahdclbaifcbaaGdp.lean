/- Good's pieces: goesRound, among, goings, meetsAll. -/
import Derived.Test.YtgahdclbaifcbaaWld
import Derived.Test.YtgahdclbaifcbaaFamJ
import Derived.Test.YtgahdclbaifcbaaSgl
import Derived.Deep.Heap
namespace Go.Proofs.Ytgahdclbaifcbaa
open Go.RowKit

set_option maxHeartbeats 1000000 in
theorem goesRound_any (A : Wx) (pa : Option Addr) (s pc : Nat) (qa : Option Addr) (m qc : Nat) (P Q : Nat → Int) (w : World) (h : Ww w A) (hs : s ≤ 140737488355328) (hm : m ≤ 140737488355328) (hP : Row w pa s P) (hQ : Row w qa m Q) :
    Calls Try.prog 36 #[.agg #[.slice A.sa A.sn A.sc, .slice A.na A.G A.nc, .slice A.la A.M A.lc, .slice A.fa A.K A.fc], .agg #[.slice pa s pc, .slice qa m qc]] w fun e w' => e = .returned (.bool (decide (0 < m) && allIn s P A.G && allIn m Q A.G)) ∧ Below w.heap.size w w' := by
  obtain ⟨W1, hW1, hb1, hs1, hbw⟩ := boxw w A
  obtain ⟨W2, hW2, hb2, hs2, y0, y1⟩ := box2 W1 (.slice pa s pc) (.slice qa m qc) 37
  have h2 : Below w.heap.size w W2 := hb1.trans (hb2.mono hb1.size)
  have C1 := hid (fun (z : World) (hz : Below w.heap.size w z) => areStates_any A pa s pc P z hs (hP.below hz) h.g47)
  have C2 := hid (fun (z : World) (hz : Below w.heap.size w z) => areStates_any A qa m qc Q z hm (hQ.below hz) h.g47)
  have HB2 := hid h2
  have HBW := hid (hbw.below hb2)
  have HY := hid (And.intro y0 y1)
  obtain ⟨q0, q1, q2, q3⟩ := HBW.out
  clear hP hQ hb1 hb2 hs2 hbw h2 h hs1
  generalize allIn s P A.G = p1 at *
  generalize allIn m Q A.G = p2 at *
  by_cases hm0 : 0 < m
  · have g1 : (0 : Int) < (m : Nat) := by omega
    have E0 : Hid (decide (0 < m) = true) := hid (decide_eq_true hm0)
    have D1 := hid (C1.out W2 HB2.out)
    clear hm0
    go_enter Try.func36, Try.ntmps36
    go_wp2_with fail
    refine D1.out.mono ?_
    rintro e w3 ⟨rfl, hb⟩
    have HB3 := hid (HB2.out.trans (hb.mono HB2.out.size))
    have D2 := hid (C2.out w3 HB3.out)
    clear q0 q1 q2 q3 y0 y1
    obtain ⟨q0, q1, q2, q3⟩ := HBW.out.below hb
    have y0 := below_cell hb (Nat.le_refl _) HY.out.1
    have y1 := below_cell hb (Nat.le_refl _) HY.out.2
    clear hb D1
    cases p1
    · go_wp2
      go_ret
      exact ⟨ret_bool (by rw [E0.out]; rfl), HB3.out⟩
    · go_wp2_with fail
      refine D2.out.mono ?_
      rintro e w4 ⟨rfl, hb⟩
      have HB4 := hid (HB3.out.trans (hb.mono HB3.out.size))
      clear hb q0 q1 q2 q3 y0 y1 D2
      go_wp2
      go_ret
      exact ⟨ret_bool (by rw [E0.out]; simp), HB4.out⟩
  · obtain rfl : m = 0 := by omega
    go_enter Try.func36, Try.ntmps36
    go_wp2
    go_ret
    exact ⟨rfl, HB2.out⟩

set_option maxHeartbeats 1000000 in
/-- A list's states, marked. -/
theorem among_any (A : Wx) (a : Option Addr) (n c : Nat) (Z : Nat → Int) (w : World) (hn : n ≤ 140737488355328) (h : Row w a n Z) (hG : A.G ≤ 2048) (hin : allIn n Z A.G = true) :
    Calls Try.prog 56 #[.agg #[.slice A.sa A.sn A.sc, .slice A.na A.G A.nc, .slice A.la A.M A.lc, .slice A.fa A.K A.fc], .slice a n c] w fun e w' => ∃ b, e = .returned (.slice (some ⟨b, 0, none⟩) A.G A.G) ∧ Hid (w'.rowIs b 4 A.G (fun i => .bool (has n Z i)) ∧ Below w.heap.size w w' ∧ w.heap.size ≤ b) := by
  obtain ⟨W1, hW1, hb1, hs1, hbw⟩ := boxw w A
  have hmk := run_make_row' (P := Try.prog) 29 4 (.bool false) 1 Try.underlying29 Try.info4 rfl .i64 .i64 A.G (by omega) (by omega)
  obtain ⟨b, o, ha, hc⟩ := h
  have HC := hid (fun i hi => below_cell hb1 (Nat.le_refl _) (hc i hi))
  have HA := hid (allIn_all hin)
  have HB1 := hid hb1
  obtain ⟨q0, q1, q2, q3⟩ := hbw
  clear hc hin hb1 hs1
  generalize A.G = N at *
  go_enter Try.func56, Try.ntmps56
  go_wp2
  clear hmk
  go_loopw [14] (fun i wr => ∃ k : Nat, k ≤ n ∧ i = .int .i64 k ∧ Hid (Below W1.heap.size W1 wr ∧ wr.rowIs W1.heap.size 4 N (fun x => .bool (has k Z x)))) (fun i _ => n - (intOf i).toNat)
  case atStart => exact ⟨0, Nat.zero_le _, rfl, hid ⟨box_below _ _, (World.rowIs_made W1 (.bool false) N 4).congr (fun i _ => by rw [has_no (fun i hi => absurd hi (Nat.not_lt_zero i))])⟩⟩
  case round =>
    obtain ⟨k, hk, rfl, H⟩ := hrel
    by_cases hlt : k < n
    · obtain rfl := ha (by omega)
      have hz := HA.out k hlt
      obtain ⟨t, ht⟩ : ∃ t : Nat, Z k = t := ⟨(Z k).toNat, by omega⟩
      have htN : t < N := by omega
      have hck : wr.cell? ⟨b, o + k, none⟩ = some (.int .i64 t) := by rw [← ht]; exact below_cell H.out.1 (Nat.le_refl _) (HC.out k hlt)
      have htz : (t : Int) < N := by omega
      have hct := H.out.2.cell htN
      have hfz := H.out.2.frozen t
      have Ht := hid ht
      clear ht hz
      go_wp2
      go_roundw
      case rel =>
        refine ⟨k + 1, by omega, by go_num, hid ⟨H.out.1.setCell (by simp) _, (H.out.2.set t _).congr (fun i hi => ?_)⟩⟩
        by_cases e : i = t
        · subst e
          rw [if_pos rfl, has_yes k (by omega) Ht.out]
        · rw [if_neg e]
          by_cases e2 : has k Z i = true
          · have := e2
            unfold has at this
            rw [decide_eq_true_eq] at this
            obtain ⟨j, h1, h2⟩ := this
            rw [e2, has_yes j (by omega) h2]
          · rw [Bool.not_eq_true] at e2
            rw [e2, has_no]
            intro j hj hzj
            by_cases e3 : j = k
            · subst e3; rw [Ht.out] at hzj; omega
            · rw [has_yes j (by omega) hzj] at e2; cases e2
      case measure => simp [intOf]; omega
    · go_wp2
      go_ret
      obtain rfl : k = n := by omega
      exact ⟨_, rfl, hid ⟨H.out.2, HB1.out.trans (H.out.1.mono HB1.out.size), HB1.out.size⟩⟩

/-- Where one goes on from each, marked. -/
structure Gs (w : World) (G : Nat) (L : Nat → Nat) (Z : Nat → Nat → Int) (k : Nat) (rb : Nat → Nat) (wr : World) : Prop where
  low : Below w.heap.size w wr
  top : wr.rowIs w.heap.size 29 G (fun i => if i < k then .slice (some ⟨rb i, 0, none⟩) G G else .slice none 0 0)
  row : ∀ i, i < k → w.heap.size < rb i ∧ wr.rowIs (rb i) 4 G (fun x => .bool (has (L i) (Z i) x))

theorem Try.info29 : (Try.prog.info? 29).map (fun i => (i.zero, i.size, i.bytes)) = some (some (.slice none 0 0), 1, 24) := by kernel_rfl

theorem Gs.step {w wr w2 : World} {G : Nat} {L : Nat → Nat} {Z : Nat → Nat → Int} {k b : Nat} {rb : Nat → Nat} (h : Gs w G L Z k rb wr) (hb : Below wr.heap.size wr w2) (hk : k < G) (hlt : wr.heap.size ≤ b) (hr : w2.rowIs b 4 G (fun x => .bool (has (L k) (Z k) x))) :
    w2.cell? ⟨w.heap.size, k, none⟩ = some (.slice none 0 0) ∧ w2.frozen? ⟨w.heap.size, k, none⟩ = false ∧ Gs w G L Z (k + 1) (fun i => if i = k then b else rb i) (w2.setCell ⟨w.heap.size, k, none⟩ (.slice (some ⟨b, 0, none⟩) G G)) := by
  have ht := h.top.of_block (hb.block _ h.top.lt)
  have hl := h.top.lt
  have hbut : But w.heap.size w2 (w2.setCell ⟨w.heap.size, k, none⟩ (.slice (some ⟨b, 0, none⟩) G G)) := (But.refl _ _).setCell k _
  refine ⟨by have := ht.cell hk; rw [if_neg (Nat.lt_irrefl _)] at this; exact this, ht.frozen k, (h.low.trans (hb.mono h.low.size)).setCell (Nat.le_refl _) _, (ht.set k _).congr (fun i hi => ?_), fun i hi => ?_⟩
  · by_cases e : i = k
    · subst e
      rw [if_pos rfl, if_pos (by omega), if_pos rfl]
    · rw [if_neg e, if_neg e]
      by_cases e2 : i < k
      · rw [if_pos e2, if_pos (by omega)]
      · rw [if_neg e2, if_neg (by omega)]
  · by_cases e : i = k
    · subst e
      simp only [if_true]
      exact ⟨by omega, hr.of_block (hbut.block _ hr.lt (by omega))⟩
    · simp only [if_neg e]
      obtain ⟨h1, h2⟩ := h.row i (by omega)
      have h3 := h2.of_block (hb.block _ h2.lt)
      exact ⟨h1, h3.of_block (hbut.block _ h3.lt (by omega))⟩

set_option maxHeartbeats 1000000 in
theorem goings_any (A : Wx) (w : World) (h : Ww w A) (h0 : chkW A = 0) :
    Calls Try.prog 55 #[.agg #[.slice A.sa A.sn A.sc, .slice A.na A.G A.nc, .slice A.la A.M A.lc, .slice A.fa A.K A.fc]] w fun e w' => ∃ (b : Nat) (rb : Nat → Nat), e = .returned (.slice (some ⟨b, 0, none⟩) A.G A.G) ∧ Hid (Below w.heap.size w w' ∧ ∀ i, i < A.G → w'.cell? ⟨b, i, none⟩ = some (.slice (some ⟨rb i, 0, none⟩) A.G A.G) ∧ ∀ x, x < A.G → w'.cell? ⟨rb i, x, none⟩ = some (.bool (has (A.L i) (A.Z i) x))) := by
  obtain ⟨W1, hW1, hb1, hs1, hbw⟩ := boxw w A
  obtain ⟨hG, -, -, -, -, hz, -⟩ := chkW_ok h0
  have hmk := run_make_row' (P := Try.prog) 66 29 (.slice none 0 0) 24 Try.underlying66 Try.info29 rfl .i64 .i64 A.G (by omega) (by omega)
  obtain ⟨nb, no, hna, hnc⟩ := (h.below hb1).next
  have HC := hid hnc
  have HB1 := hid hb1
  have HBW := hid hbw
  have CA := hid (fun (a : Option Addr) (r c : Nat) (z : World) (hr : r < A.G) (hrow : Row z a (A.L r) (A.Z r)) => among_any A a (A.L r) c (A.Z r) z (h.l47 r hr) hrow (by omega) (allIn_yes (hz r hr)))
  obtain ⟨q0, q1, q2, q3⟩ := hbw
  have q1n : 0 < A.G → A.na = some ⟨nb, no, none⟩ := hna
  have HQN := hid q1n
  have q1b := below_cell (box_below W1 (.cells (madeCells #[.slice none 0 0] A.G) 29)) (Nat.le_refl _) q1
  clear hnc hb1 hs1 h h0 hz q1n hna
  obtain ⟨sa, sn, sc, na, G, nc, la, M, lc, fa, K, fc, S, L, Z, Lb, FL, FZ⟩ := A
  dsimp only at *
  go_enter Try.func55, Try.ntmps55
  go_wp2
  clear hmk
  have HL0 : Hid (Gs W1 G L Z 0 (fun _ => 0) (W1.alloc (.cells (madeCells #[.slice none 0 0] G) 29))) := hid ⟨box_below _ _, (World.rowIs_made W1 _ G 29).congr (fun i _ => by rw [if_neg (Nat.not_lt_zero _)]), fun i hi => absurd hi (Nat.not_lt_zero _)⟩
  clear q0 q1 q2 q3 q1b
  go_loopw [13] (fun i wr => ∃ (k : Nat) (rb : Nat → Nat), k ≤ G ∧ i = .int .i64 k ∧ Hid (Gs W1 G L Z k rb wr)) (fun i _ => G - (intOf i).toNat)
  case atStart => exact ⟨0, _, Nat.zero_le _, rfl, HL0⟩
  case round =>
    obtain ⟨k, rb, hk, rfl, H⟩ := hrel
    by_cases hlt : k < G
    · obtain rfl := HQN.out (by omega)
      obtain ⟨q0, q1, q2, q3⟩ := HBW.out.below H.out.low
      dsimp only at q0 q1 q2 q3
      obtain ⟨a, c, hck, hrow⟩ := HC.out k hlt
      have hck2 := below_cell H.out.low (Nat.le_refl _) hck
      have C := hid (CA.out a k c wr hlt (hrow.below H.out.low))
      clear hrow hck
      go_wp2_with fail
      refine C.out.mono ?_
      rintro e w2 ⟨b, rfl, HX⟩
      obtain ⟨s1, s2, s3⟩ := H.out.step HX.out.2.1 hlt HX.out.2.2 HX.out.1
      have HS := hid s3
      clear q0 q1 q2 q3 hck2 s3 C
      go_wp2
      go_roundw
      case rel => exact ⟨k + 1, _, by omega, by go_num, HS⟩
      case measure => simp [intOf]; omega
    · obtain rfl : k = G := by omega
      go_wp2
      go_ret
      refine ⟨_, rb, rfl, hid ⟨HB1.out.trans (H.out.low.mono HB1.out.size), fun i hi => ⟨?_, fun x hx => (H.out.row i hi).2.cell hx⟩⟩⟩
      have := H.out.top.cell hi
      rw [if_pos hi] at this
      exact this

end Go.Proofs.Ytgahdclbaifcbaa
