/- Good: what it answers. -/
import Derived.Test.YtgahdclbaifcbaaGdw
namespace Go.Proofs.Ytgahdclbaifcbaa
open Go.RowKit

/-- Is a path a fair way that goes round? -/
def gdB (A : Wx) (s m : Nat) (P Q : Nat → Int) : Bool := (decide (0 < m) && allIn s P A.G && allIn m Q A.G) && wyB A s m P Q && mtB A m Q
def gdE (A : Wx) (s m : Nat) : Int := if chkW A ≠ 0 then chkW A else if 60000 < s + m then 2 else 0

/-- A path in memory. -/
structure Pw (w : World) (pa : Option Addr) (s pc : Nat) (qa : Option Addr) (m qc : Nat) (P Q : Nat → Int) : Prop where
  stem : Row w pa s P
  loop : Row w qa m Q
  pn : pa = none → s = 0 ∧ pc = 0
  qn : qa = none → m = 0 ∧ qc = 0
  pl : s ≤ pc
  ql : m ≤ qc
  s8 : s * 8 ≤ 140737488355328
  m8 : m * 8 ≤ 140737488355328
theorem Pw.below {w w' : World} {pa : Option Addr} {s pc : Nat} {qa : Option Addr} {m qc : Nat} {P Q : Nat → Int} (h : Pw w pa s pc qa m qc P Q) (hb : Below w.heap.size w w') : Pw w' pa s pc qa m qc P Q :=
  ⟨h.stem.below hb, h.loop.below hb, h.pn, h.qn, h.pl, h.ql, h.s8, h.m8⟩

set_option maxRecDepth 100000 in
set_option maxHeartbeats 2000000 in
theorem good_any (A : Wx) (pa : Option Addr) (s pc : Nat) (qa : Option Addr) (m qc : Nat) (P Q : Nat → Int) (w : World) (h : Ww w A) (hp : Pw w pa s pc qa m qc P Q) :
    Calls Try.prog 13 #[.agg #[.slice A.sa A.sn A.sc, .slice A.na A.G A.nc, .slice A.la A.M A.lc, .slice A.fa A.K A.fc], .agg #[.slice pa s pc, .slice qa m qc]] w fun e w' => ∃ (b : Bool) (er : Int), e = .returned (.tuple #[.bool b, .int .i64 er]) ∧ Hid (er = gdE A s m ∧ (er ≠ 0 → b = false) ∧ (er = 0 → b = gdB A s m P Q) ∧ Below w.heap.size w w') := by
  obtain ⟨W1, hW1, hb1, hs1, hbw⟩ := boxw w A
  obtain ⟨W2, hW2, hb2, hs2, y0, y1⟩ := box2 W1 (.slice pa s pc) (.slice qa m qc) 37
  have h2 : Below w.heap.size w W2 := hb1.trans (hb2.mono hb1.size)
  have HB2 := hid h2
  have HBW := hid (hbw.below hb2)
  have HY := hid (And.intro y0 y1)
  have HH := hid (And.intro h hp)
  have C9 : Hid (Calls Try.prog 9 #[.agg #[.slice A.sa A.sn A.sc, .slice A.na A.G A.nc, .slice A.la A.M A.lc, .slice A.fa A.K A.fc]] W2 fun e w' => e = .returned (.int .i64 (chkW A)) ∧ Below W2.heap.size W2 w') := hid (chkW_any A W2 (h.below h2))
  have hs8 := hp.s8
  have hm8 := hp.m8
  obtain ⟨q0, q1, q2, q3⟩ := HBW.out
  obtain ⟨ck, hck⟩ : ∃ ck, chkW A = ck := ⟨_, rfl⟩
  rw [hck] at C9
  have HCK := hid hck
  have HGE : Hid (gdE A s m = if ck ≠ 0 then ck else if 60000 < s + m then 2 else 0) := hid (by unfold gdE; rw [hck])
  clear h hp hb1 hs1 hb2 hs2 hbw h2 hck
  go_enter Try.func13, Try.ntmps13
  go_wp2_with fail
  refine C9.out.mono ?_
  rintro e w3 ⟨rfl, hb3⟩
  have HB3 := hid (HB2.out.trans (hb3.mono HB2.out.size))
  have HBW3 := hid (HBW.out.below hb3)
  have z0 := below_cell hb3 (Nat.le_refl _) y0
  have z1 := below_cell hb3 (Nat.le_refl _) y1
  have HZ := hid (And.intro z0 z1)
  clear hb3 q0 q1 q2 q3 y0 y1 C9
  by_cases h0 : ck = 0
  · have g0 : (ck != 0) = false := by simp [h0]
    have HC0 := hid h0
    by_cases hl : 60000 < s + m
    · have hl2 : (60000 : Int) < (s : Nat) + (m : Nat) := by omega
      have HL := hid hl
      clear hl h0
      go_wp2
      refine bodyPost_ret (v := .tuple #[.bool false, .int .i64 2]) (by simp [results, Try.f13, go_sem]) rfl ?_
      exact ⟨_, _, rfl, hid ⟨by rw [HGE.out, if_neg (by rw [HC0.out]; simp), if_pos HL.out], fun _ => rfl, (fun e => by cases e), HB3.out⟩⟩
    · have hl2 : ¬ (60000 : Int) < (s : Nat) + (m : Nat) := by omega
      have HL := hid hl
      have HE0 : Hid ((0 : Int) = gdE A s m) := hid (by rw [HGE.out, if_neg (by rw [HC0.out]; simp), if_neg hl])
      obtain ⟨q0, q1, q2, q3⟩ := HBW3.out
      have C36 := hid (goesRound_any A pa s pc qa m qc P Q w3 (HH.out.1.below HB3.out) (by omega) (by omega) ((HH.out.2.below HB3.out).stem) ((HH.out.2.below HB3.out).loop))
      obtain ⟨g, hg⟩ : ∃ g, (decide (0 < m) && allIn s P A.G && allIn m Q A.G) = g := ⟨_, rfl⟩
      rw [hg] at C36
      have HG := hid hg
      clear hl h0 hg
      go_wp2_with fail
      refine C36.out.mono ?_
      rintro e w4 ⟨rfl, hb4⟩
      have HB4 := hid (HB3.out.trans (hb4.mono HB3.out.size))
      have HBW4 := hid (HBW3.out.below hb4)
      have x0 := below_cell hb4 (Nat.le_refl _) z0
      have x1 := below_cell hb4 (Nat.le_refl _) z1
      clear q0 q1 q2 q3 hb4 z0 z1 C36
      cases g
      · go_wp2
        refine bodyPost_ret (v := .tuple #[.bool false, .int .i64 0]) (by simp [results, Try.f13, go_sem]) rfl ?_
        exact ⟨_, _, rfl, hid ⟨HE0.out, fun e => absurd rfl e, fun _ => by unfold gdB; rw [HG.out]; rfl, HB4.out⟩⟩
      · have hgg : 0 < m ∧ allIn s P A.G = true ∧ allIn m Q A.G = true := by
          have h := HG.out
          simp only [Bool.and_eq_true, decide_eq_true_eq] at h
          exact ⟨h.1.1, h.1.2, h.2⟩
        have HGG := hid hgg
        clear hgg
        obtain ⟨q0, q1, q2, q3⟩ := HBW4.out
        have hpw := HH.out.2.below HB4.out
        have C37 := hid (isWay_any A pa s pc qa m qc P Q w4 (HH.out.1.below HB4.out) (HCK.out.trans HC0.out) hpw.stem hpw.loop hpw.pn hpw.qn hpw.ql (by have := HL.out; omega) HGG.out.1 HGG.out.2.1 HGG.out.2.2)
        obtain ⟨y, hy⟩ : ∃ y, wyB A s m P Q = y := ⟨_, rfl⟩
        rw [hy] at C37
        have HWY := hid hy
        clear hpw hy
        go_wp2_with fail
        refine C37.out.mono ?_
        rintro e w5 ⟨rfl, hb5⟩
        have HB5 := hid (HB4.out.trans (hb5.mono HB4.out.size))
        have HBW5 := hid (HBW4.out.below hb5)
        have v0 := below_cell hb5 (Nat.le_refl _) x0
        have v1 := below_cell hb5 (Nat.le_refl _) x1
        clear q0 q1 q2 q3 hb5 x0 x1 C37
        cases y
        · go_wp2
          refine bodyPost_ret (v := .tuple #[.bool false, .int .i64 0]) (by simp [results, Try.f13, go_sem]) rfl ?_
          exact ⟨_, _, rfl, hid ⟨HE0.out, fun e => absurd rfl e, fun _ => by unfold gdB; rw [HG.out, HWY.out]; rfl, HB5.out⟩⟩
        · obtain ⟨q0, q1, q2, q3⟩ := HBW5.out
          have C38 := hid (meetsAll_any A qa m qc Q w5 (HH.out.1.below HB5.out) (HCK.out.trans HC0.out) (by omega) ((HH.out.2.below HB5.out).loop) HGG.out.2.2)
          obtain ⟨t, ht⟩ : ∃ t, mtB A m Q = t := ⟨_, rfl⟩
          rw [ht] at C38
          have HT := hid ht
          clear ht
          go_wp2_with fail
          refine C38.out.mono ?_
          rintro e w6 ⟨rfl, hb6⟩
          have HB6 := hid (HB5.out.trans (hb6.mono HB5.out.size))
          clear q0 q1 q2 q3 hb6 v0 v1 C38
          go_wp2
          refine bodyPost_ret (v := .tuple #[.bool t, .int .i64 0]) (by simp [results, Try.f13, go_sem]) rfl ?_
          exact ⟨_, _, rfl, hid ⟨HE0.out, fun e => absurd rfl e, fun _ => by unfold gdB; rw [HG.out, HWY.out, HT.out]; rfl, HB6.out⟩⟩
  · have g0 : (ck != 0) = true := by simp [h0]
    have HC0 := hid h0
    clear h0
    go_wp2
    refine bodyPost_ret (v := .tuple #[.bool false, .int .i64 ck]) (by simp [results, Try.f13, go_sem]) rfl ?_
    exact ⟨_, _, rfl, hid ⟨by rw [HGE.out, if_pos HC0.out], fun _ => rfl, fun e => absurd e HC0.out, HB3.out⟩⟩

set_option maxHeartbeats 1000000 in
/-- The letters of a list's states. -/
theorem letters_any (A : Wx) (a : Option Addr) (n c : Nat) (Z : Nat → Int) (w : World) (h : Ww w A) (hM : A.M = A.G) (hn : n * 8 ≤ 140737488355328) (hr : Row w a n Z) (hin : allIn n Z A.G = true) :
    Calls Try.prog 39 #[.agg #[.slice A.sa A.sn A.sc, .slice A.na A.G A.nc, .slice A.la A.M A.lc, .slice A.fa A.K A.fc], .slice a n c] w fun e w' => ∃ b, e = .returned (.slice (some ⟨b, 0, none⟩) n n) ∧ Hid (RowU w' (some ⟨b, 0, none⟩) n (fun i => (A.Lb (Z i).toNat : Int)) ∧ Below w.heap.size w w' ∧ w.heap.size ≤ b) := by
  obtain ⟨W1, hW1, hb1, hs1, hbw⟩ := boxw w A
  have hmk := run_make_row' (P := Try.prog) 24 70 (.int .u64 0) 8 Try.underlying24 Try.info70 rfl .i64 .i64 n (by omega) (by omega)
  obtain ⟨b, o, ha, hc⟩ := hr
  obtain ⟨lb, lo, hla, hlc⟩ := (h.below hb1).label
  have HC := hid (fun i hi => below_cell hb1 (Nat.le_refl _) (hc i hi))
  have HA := hid (allIn_all hin)
  have HB1 := hid hb1
  have HLC := hid hlc
  have HLA : Hid (0 < A.M → A.la = some ⟨lb, lo, none⟩) := hid hla
  have HM := hid hM
  have HBW := hid hbw
  clear hc hin hb1 hs1 h hla hlc hM hbw
  obtain ⟨sa, sn, sc, na, G, nc, la, M, lc, fa, K, fc, S, L, Z2, Lb, FL, FZ⟩ := A
  dsimp only at *
  go_enter Try.func39, Try.ntmps39
  go_wp2
  clear hmk
  go_loopw [13] (fun i wr => ∃ k : Nat, k ≤ n ∧ i = .int .i64 k ∧ Hid (Below W1.heap.size W1 wr ∧ wr.rowIs W1.heap.size 70 n (fun x => .int .u64 (if x < k then (Lb (Z x).toNat : Int) else 0)))) (fun i _ => n - (intOf i).toNat)
  case atStart => exact ⟨0, Nat.zero_le _, rfl, hid ⟨box_below _ _, (World.rowIs_made W1 (.int .u64 0) n 70).congr (fun i _ => by rw [if_neg (Nat.not_lt_zero i)])⟩⟩
  case round =>
    obtain ⟨k, hk, rfl, H⟩ := hrel
    by_cases hlt : k < n
    · obtain rfl := ha (by omega)
      have hz := HA.out k hlt
      have hGM := HM.out
      obtain rfl := HLA.out (by omega)
      obtain ⟨t, ht⟩ : ∃ t : Nat, Z k = t := ⟨(Z k).toNat, by omega⟩
      have htM : t < M := by omega
      have hck : wr.cell? ⟨b, o + k, none⟩ = some (.int .i64 t) := by rw [← ht]; exact below_cell H.out.1 (Nat.le_refl _) (HC.out k hlt)
      have hlb := below_cell H.out.1 (Nat.le_refl _) (HLC.out t htM)
      have q2 := (HBW.out.below H.out.1).r2
      dsimp only at q2 hlb
      have hct := H.out.2.cell hlt
      have hfz := H.out.2.frozen k
      have Ht := hid ht
      clear ht hz hGM
      go_wp2
      go_roundw
      case rel =>
        refine ⟨k + 1, by omega, by go_num, hid ⟨H.out.1.setCell (by simp) _, (H.out.2.set k _).congr (fun i hi => ?_)⟩⟩
        by_cases e : i = k
        · subst e
          rw [if_pos rfl, if_pos (by omega), Ht.out]
          rfl
        · rw [if_neg e]
          by_cases e2 : i < k
          · rw [if_pos e2, if_pos (by omega)]
          · rw [if_neg e2, if_neg (by omega)]
      case measure => simp [intOf]; omega
    · go_wp2
      go_ret
      obtain rfl : k = n := by omega
      refine ⟨_, rfl, hid ⟨⟨W1.heap.size, 0, fun _ => rfl, fun i hi => ?_⟩, HB1.out.trans (H.out.1.mono HB1.out.size), HB1.out.size⟩⟩
      have := H.out.2.cell hi
      rw [if_pos hi] at this
      rw [Nat.zero_add]
      exact this

end Go.Proofs.Ytgahdclbaifcbaa
