/-     -/
import Derived.Deep.Heap
import Derived.Deep.RegionHeld3
import Derived.Deep.WholeRow
import Derived.Deep.MidRow
import Derived.Laws.Bits64b
import Derived.Lib.TrailingZeros
import Derived.Deep.OwnRows
import Derived.Maps.AppendAt
import Derived.WalkKit
import Derived.WalkSpells
import Derived.WalkLawsBesides
import Derived.Deep.QuietTactic
import Derived.BigQuiet
import Derived.Below
import Derived.Test.YthpbgfodejoecaaBfsJ
import Derived.Test.YthpbgfodejoecaaDistJ
import Derived.Test.YthpbgfodejoecaaDist2J
import Derived.Test.YthpbgfodejoecaaLeafJ
import Derived.Test.YthpbgfodejoecaaProc
import Derived.Test.YthpbgfodejoecaaProc2
import Derived.Test.YthpbgfodejoecaaSpFaceJ
import Derived.Test.YthpbgfodejoecaaWFaiJ
import Derived.Laws.AppendOwnNone
import Derived.Lib.AppendZeros
import Derived.Test.YthpbgfodejoecaaWBaseJ
import Derived.Deep.DrawnRows
import Derived.Deep.LoopGhost
import Derived.Deep.Cut
import Derived.RegionTactic
import Derived.Deep.Quiet
import Derived.Deep.AppendLies
import Derived.Deep.CutRange
import Derived.Great.BuildSlice
import Derived.Maps.OwnIn
import Derived.Maps.OwnSet
import Derived.Maps.OwnOps
import Derived.DeepKeys4
import Derived.RangeFuncNested
import Derived.RangeFuncBound
import Derived.RangeFuncCalls
import Derived.RangeFuncLeaves
import Derived.Shelf.Abstract
import Derived.Shelf.RegionOpen
import Derived.OwnWalkIn
import Derived.TacticsInMore
import Derived.LoopNIn
import Derived.LoopIn
import Derived.Lib.SliceRun
import Derived.WalkSmall
import Derived.Deep.RegionHeld
import Derived.Test.YthpbgfodejoecaaWScParts
/- Check of a world: the program's and the document's. -/
/- Lists of letters: append, Grow, Concat, Clone. -/
/- world.goingOn: in which parts one can go on. -/
/- Lists of numbers: append, Grow, Concat. -/
namespace Go.Proofs.Ythpbgfodejoecaa
open Go.RowKit

set_option maxHeartbeats 4000000 in
theorem chkW_any (A : Wx) (w : World) (h : Ww w A) : Calls Try.prog 37 #[.agg #[.slice A.sa A.sn A.sc, .slice A.na A.G A.nc, .slice A.la A.M A.lc, .slice A.fa A.K A.fc]] w fun e w' => e = .returned (.int .i64 (chkW A)) ∧ Below w.heap.size w w' := by
  have H := hid h
  have hmf : ∀ (fn : Fn) (first cap : Array Value) (w : World), (Instr.makeFunc fn first cap).run Try.prog w = .ok (.func fn first cap) w := fun _ _ _ _ => rfl
  have g47 := h.g47
  have k47 := h.k47
  have m47 := h.m47
  clear h
  obtain ⟨W1, hW1, hb1, hs1, hbw⟩ := boxw w A
  obtain ⟨q0, q1, q2, q3⟩ := hbw
  have HB1 := hid hb1
  clear hb1 hs1
  by_cases h1 : 600 < A.G ∨ 80 < A.K
  · have E : Hid (chkW A = 2) := hid (if_pos h1)
    by_cases h2 : 600 < A.G
    · have h3 : (600 : Int) < A.G := by omega
      go_enter Try.func37, Try.ntmps37
      go_wp2
      go_ret
      exact ⟨ret_int E.out.symm, HB1.out⟩
    · have h3 : ¬ (600 : Int) < A.G := by omega
      have h4 : (80 : Int) < A.K := by omega
      go_enter Try.func37, Try.ntmps37
      go_wp2
      go_ret
      exact ⟨ret_int E.out.symm, HB1.out⟩
  have h3 : ¬ (600 : Int) < A.G := by omega
  have h4 : ¬ (80 : Int) < A.K := by omega
  by_cases h2 : A.M ≠ A.G
  · have E : Hid (chkW A = 1) := hid ((if_neg h1).trans (if_pos h2))
    have h6 : ((A.M : Int) != (A.G : Int)) = true := by simp; omega
    clear h1 h2
    go_enter Try.func37, Try.ntmps37
    go_wp2
    go_ret
    exact ⟨ret_int E.out.symm, HB1.out⟩
  · have h6 : ((A.M : Int) != (A.G : Int)) = false := by simp; omega
    have E : Hid (chkW A = if allIn A.sn A.S A.G = true ∧ onL A.G A.L = true ∧ okL A.G A.L A.Z A.G = true ∧ okL A.K A.FL A.FZ A.G = true then 0 else 1) := hid ((if_neg h1).trans (if_neg h2))
    clear h1 h2
    have HW := hid (H.out.below HB1.out)
    have HBW : Hid (Bw W1 w.heap.size A) := hid ⟨q0, q1, q2, q3⟩
    have C1 : Hid (Calls Try.prog 61 #[.slice A.na A.G A.nc, .func (.func 58) #[] #[]] W1 fun e w' => e = .returned (.bool (!onL A.G A.L)) ∧ Below W1.heap.size W1 w') := hid (cfLs_any A.na A.G A.nc A.L A.Z 58 #[] (fun r => decide (A.L r = 0)) (!onL A.G A.L) W1 g47 HW.out.next (Or.inl ⟨rfl, rfl⟩) (fun r a c u hr hu hrow => (ends_any a (A.L r) c u).mono (by rintro e w' ⟨rfl, rfl⟩; exact ⟨rfl, Below.refl _ _⟩)) (by
      constructor
      · intro hh
        have h5 : onL A.G A.L = false := by simpa using hh
        unfold onL at h5
        rw [decide_eq_false_iff_not] at h5
        refine Classical.byContradiction fun hn => h5 fun r hr e => hn ⟨r, hr, by simp [e]⟩
      · rintro ⟨k, hk, hk2⟩
        rw [onL_no k hk (by simpa using hk2)]
        rfl))
    have C2 : Hid (∀ z, Below W1.heap.size W1 z → Calls Try.prog 59 #[.slice A.sa A.sn A.sc, .pointer (some ⟨w.heap.size, 0, none⟩)] z fun e w' => e = .returned (.bool (!allIn A.sn A.S A.G)) ∧ Below z.heap.size z w') := hid (fun z hz => isWrong_any A w.heap.size A.sa A.sn A.sc A.S z H.out.s47 ((HW.out.below hz).start) g47 (HBW.out.below hz))
    have CL : Hid (∀ (fa : Option Addr) (K fc : Nat) (FL : Nat → Nat) (FZ : Nat → Nat → Int) (z : World), K ≤ 140737488355328 → (∀ r, r < K → FL r ≤ 140737488355328) → Gr z fa K FL FZ → Below W1.heap.size W1 z → Calls Try.prog 61 #[.slice fa K fc, .func (.func 59) #[] #[.pointer (some ⟨w.heap.size, 0, none⟩)]] z fun e w' => e = .returned (.bool (!okL K FL FZ A.G)) ∧ Below z.heap.size z w') := hid (fun fa K fc FL FZ z hK hL hg hz => cfLs_any fa K fc FL FZ 59 #[.pointer (some ⟨w.heap.size, 0, none⟩)] (fun r => !allIn (FL r) (FZ r) A.G) (!okL K FL FZ A.G) z hK hg (Or.inr (Or.inl ⟨rfl, _, rfl⟩)) (fun r a c u hr hu hrow => isWrong_any A w.heap.size a (FL r) c (FZ r) u (hL r hr) hrow g47 (HBW.out.below (hz.trans (hu.mono hz.size)))) (by
      constructor
      · intro hh
        have h5 : okL K FL FZ A.G = false := by simpa using hh
        unfold okL at h5
        rw [decide_eq_false_iff_not] at h5
        refine Classical.byContradiction fun hn => h5 fun r hr => ?_
        cases e : allIn (FL r) (FZ r) A.G
        · exact absurd ⟨r, hr, by simp [e]⟩ hn
        · rfl
      · rintro ⟨k, hk, hk2⟩
        rw [okL_no k hk (by simpa using hk2)]
        rfl))
    have C3 : Hid (∀ z, Below W1.heap.size W1 z → Calls Try.prog 61 #[.slice A.na A.G A.nc, .func (.func 59) #[] #[.pointer (some ⟨w.heap.size, 0, none⟩)]] z fun e w' => e = .returned (.bool (!okL A.G A.L A.Z A.G)) ∧ Below z.heap.size z w') := hid (fun z hz => CL.out A.na A.G A.nc A.L A.Z z g47 H.out.l47 ((HW.out.below hz).next) hz)
    have C4 : Hid (∀ z, Below W1.heap.size W1 z → Calls Try.prog 61 #[.slice A.fa A.K A.fc, .func (.func 59) #[] #[.pointer (some ⟨w.heap.size, 0, none⟩)]] z fun e w' => e = .returned (.bool (!okL A.K A.FL A.FZ A.G)) ∧ Below z.heap.size z w') := hid (fun z hz => CL.out A.fa A.K A.fc A.FL A.FZ z k47 H.out.f47 ((HW.out.below hz).fair) hz)
    clear CL
    generalize allIn A.sn A.S A.G = p1 at *
    generalize onL A.G A.L = p2 at *
    generalize okL A.G A.L A.Z A.G = p3 at *
    generalize okL A.K A.FL A.FZ A.G = p4 at *
    go_enter Try.func37, Try.ntmps37
    go_wp2_with fail
    refine C1.out.mono ?_
    rintro e w1 ⟨rfl, hb⟩
    have HX1 := hid hb
    obtain ⟨t0, t1, t2, t3⟩ := HBW.out.below hb
    clear hb q0 q1 q2 q3 C1
    cases p2
    · rw [if_neg (by simp)] at E
      go_wp2
      go_ret
      exact ⟨ret_int E.out.symm, HB1.out.trans (HX1.out.mono HB1.out.size)⟩
    have D2 := hid (C2.out w1 HX1.out)
    go_wp2_with fail
    refine D2.out.mono ?_
    rintro e w2 ⟨rfl, hb⟩
    have HX2 := hid (HX1.out.trans (hb.mono HX1.out.size))
    clear hb t0 t1 t2 t3 D2
    obtain ⟨t0, t1, t2, t3⟩ := HBW.out.below HX2.out
    cases p1
    · rw [if_neg (by simp)] at E
      go_wp2
      go_ret
      exact ⟨ret_int E.out.symm, HB1.out.trans (HX2.out.mono HB1.out.size)⟩
    have D3 := hid (C3.out w2 HX2.out)
    go_wp2_with fail
    refine D3.out.mono ?_
    rintro e w3 ⟨rfl, hb⟩
    have HX3 := hid (HX2.out.trans (hb.mono HX2.out.size))
    clear hb t0 t1 t2 t3 D3
    obtain ⟨t0, t1, t2, t3⟩ := HBW.out.below HX3.out
    cases p3
    · rw [if_neg (by simp)] at E
      go_wp2
      go_ret
      exact ⟨ret_int E.out.symm, HB1.out.trans (HX3.out.mono HB1.out.size)⟩
    have D4 := hid (C4.out w3 HX3.out)
    go_wp2_with fail
    refine D4.out.mono ?_
    rintro e w4 ⟨rfl, hb⟩
    have HX4 := hid (HX3.out.trans (hb.mono HX3.out.size))
    clear hb t0 t1 t2 t3 D4
    cases p4
    · rw [if_neg (by simp)] at E
      go_wp2
      go_ret
      exact ⟨ret_int E.out.symm, HB1.out.trans (HX4.out.mono HB1.out.size)⟩
    · rw [if_pos (by simp)] at E
      go_wp2
      go_ret
      exact ⟨ret_int E.out.symm, HB1.out.trans (HX4.out.mono HB1.out.size)⟩

end Go.Proofs.Ythpbgfodejoecaa

namespace Go.Proofs.Ythpbgfodejoecaa
open Go.RowKit

theorem info_parts {P : Program} {e : TypeId} {z : Option Value} {s b : Nat} (h : (P.info? e).map (fun i => (i.zero, i.size, i.bytes)) = some (z, s, b)) : ∃ i, P.info? e = some i ∧ i.zero = z ∧ i.size = s ∧ i.bytes = b := by
  obtain ⟨i, hi, he⟩ := Option.map_eq_some_iff.1 h
  simp only [Prod.mk.injEq] at he
  exact ⟨i, hi, he⟩

end Go.Proofs.Ythpbgfodejoecaa

namespace Go.Proofs.Ythpbgfodejoecaa
open Go.RowKit

/-- A part in which one can go on, as far as the rows to k and j places of row k tell. -/
def On (L : Nat → Nat) (Z : Nat → Nat → Int) (p : Nat → Nat) (k j q : Nat) : Prop :=
  (∃ s, s < k ∧ ∃ i, i < L s ∧ p (Z s i).toNat = p s ∧ p s = q) ∨ ∃ i, i < j ∧ p (Z k i).toNat = p k ∧ p k = q

theorem on_next {L : Nat → Nat} {Z : Nat → Nat → Int} {p : Nat → Nat} {k q : Nat} : On L Z p (k + 1) 0 q ↔ On L Z p k (L k) q := by
  constructor
  · rintro (⟨s, hs, i, hi, h⟩ | ⟨i, hi, _⟩)
    · by_cases e : s = k
      · subst e
        exact Or.inr ⟨i, hi, h⟩
      · exact Or.inl ⟨s, by omega, i, hi, h⟩
    · omega
  · rintro (⟨s, hs, i, hi, h⟩ | ⟨i, hi, h⟩)
    · exact Or.inl ⟨s, by omega, i, hi, h⟩
    · exact Or.inl ⟨k, by omega, i, hi, h⟩
theorem on_yes {L : Nat → Nat} {Z : Nat → Nat → Int} {p : Nat → Nat} {k j q : Nat} (h : p (Z k j).toNat = p k) : On L Z p k (j + 1) q ↔ q = p k ∨ On L Z p k j q := by
  constructor
  · rintro (h1 | ⟨i, hi, h1, h2⟩)
    · exact Or.inr (Or.inl h1)
    · by_cases e : i = j
      · exact Or.inl h2.symm
      · exact Or.inr (Or.inr ⟨i, by omega, h1, h2⟩)
  · rintro (rfl | h1 | ⟨i, hi, h1, h2⟩)
    · exact Or.inr ⟨j, by omega, h, rfl⟩
    · exact Or.inl h1
    · exact Or.inr ⟨i, by omega, h1, h2⟩
theorem on_no {L : Nat → Nat} {Z : Nat → Nat → Int} {p : Nat → Nat} {k j q : Nat} (h : p (Z k j).toNat ≠ p k) : On L Z p k (j + 1) q ↔ On L Z p k j q := by
  constructor
  · rintro (h1 | ⟨i, hi, h1, h2⟩)
    · exact Or.inl h1
    · by_cases e : i = j
      · subst e; exact absurd h1 h
      · exact Or.inr ⟨i, by omega, h1, h2⟩
  · rintro (h1 | ⟨i, hi, h1, h2⟩)
    · exact Or.inl h1
    · exact Or.inr ⟨i, by omega, h1, h2⟩

/-- A row of marks that tells P. -/
def Mk4 (w wr : World) (b G : Nat) (P : Nat → Prop) : Prop :=
  Below w.heap.size w wr ∧ w.heap.size ≤ b ∧ ∃ R : Nat → Bool, wr.rowIs b 4 G (fun x => .bool (R x)) ∧ ∀ q, q < G → (R q = true ↔ P q)

theorem Mk4.congr {w wr : World} {b G : Nat} {P Q : Nat → Prop} (h : Mk4 w wr b G P) (e : ∀ q, q < G → (Q q ↔ P q)) : Mk4 w wr b G Q := by
  obtain ⟨h1, h2, R, h3, h4⟩ := h
  exact ⟨h1, h2, R, h3, fun q hq => (h4 q hq).trans (e q hq).symm⟩
theorem Mk4.set {w wr : World} {b G t : Nat} {P : Nat → Prop} (h : Mk4 w wr b G P) (x : Bool) : Mk4 w (wr.setCell ⟨b, t, none⟩ (.bool x)) b G (fun q => if q = t then x = true else P q) := by
  obtain ⟨h1, h2, R, h3, h4⟩ := h
  refine ⟨h1.setCell (by simpa using h2) _, h2, fun q => if q = t then x else R q, (h3.set t _).congr (fun i hi => ?_), fun q hq => ?_⟩
  · by_cases e : i = t
    · subst e; simp
    · simp [e]
  · by_cases e : q = t
    · subst e; simp
    · simp [e, h4 q hq]
theorem Mk4.cell {w wr : World} {b G t : Nat} {P : Nat → Prop} (h : Mk4 w wr b G P) (ht : t < G) : ∃ x, wr.cell? ⟨b, t, none⟩ = some (.bool x) ∧ wr.frozen? ⟨b, t, none⟩ = false ∧ (x = true ↔ P t) := by
  obtain ⟨h1, h2, R, h3, h4⟩ := h
  exact ⟨R t, h3.cell ht, h3.frozen t, h4 t ht⟩
theorem Mk4.below {w wr w2 : World} {b G : Nat} {P : Nat → Prop} (h : Mk4 w wr b G P) (h2 : Below wr.heap.size wr w2) : Mk4 w w2 b G P := by
  obtain ⟨h1, h3, R, h4, h5⟩ := h
  exact ⟨h1.trans (h2.mono h1.size), h3, R, h4.of_block (h2.block _ h4.lt), h5⟩

theorem Mk4.drew {w wr : World} {b G : Nat} {P : Nat → Prop} (h : Mk4 w wr b G P) : Mk4 w wr.drew b G P := by
  obtain ⟨h1, h3, R, h4, h5⟩ := h
  exact ⟨h1.trans (below_drewN (Below.refl _ _) 1), h3, R, h4, h5⟩

set_option maxHeartbeats 1000000 in
theorem goingOn_any (A : Wx) (pb : Nat) (p : Nat → Nat) (w : World) (h : Ww w A) (h0 : chkW A = 0) (hp : ∀ x, x < A.G → p x < A.G) (hr : ∀ x, x < A.G → w.cell? ⟨pb, x, none⟩ = some (.int .i64 (p x : Nat))) :
    Calls Try.prog 67 #[.agg #[.slice A.sa A.sn A.sc, .slice A.na A.G A.nc, .slice A.la A.M A.lc, .slice A.fa A.K A.fc], .slice (some ⟨pb, 0, none⟩) A.G A.G] w fun e w' => ∃ b, e = .returned (.slice (some ⟨b, 0, none⟩) A.G A.G) ∧ Hid (Mk4 w w' b A.G (On A.L A.Z p A.G 0)) := by
  obtain ⟨W1, hW1, hb1, hs1, hbw⟩ := boxw w A
  obtain ⟨hG, -, -, -, -, hz, -⟩ := chkW_ok h0
  have hmk := run_make_row' (P := Try.prog) 48 4 (.bool false) 1 Try.underlying48 Try.info4 rfl .i64 .i64 A.G (by omega) (by omega)
  obtain ⟨nb, no, hna, hnc⟩ := (h.below hb1).next
  have HC := hid hnc
  have HB1 := hid hb1
  have HZ := hid hz
  have HL := hid h.l47
  have HP := hid hp
  have HR := hid (fun x hx => below_cell hb1 (Nat.le_refl _) (hr x hx))
  obtain ⟨q0, q1, q2, q3⟩ := hbw
  have q1n : 0 < A.G → A.na = some ⟨nb, no, none⟩ := hna
  have HQN := hid q1n
  have q1b := below_cell (box_below W1 (.cells (madeCells #[.bool false] A.G) 4)) (Nat.le_refl _) q1
  clear hnc hb1 hs1 h h0 hz q1n hna hp hr
  obtain ⟨sa, sn, sc, na, G, nc, la, M, lc, fa, K, fc, S, L, Z, Lb, FL, FZ⟩ := A
  dsimp only at *
  go_enter Try.func67, Try.ntmps67
  go_wp2
  clear hmk
  have HL0 : Hid (Mk4 W1 (W1.alloc (.cells (madeCells #[.bool false] G) 4)) W1.heap.size G (On L Z p 0 0)) := hid ⟨box_below _ _, Nat.le_refl _, fun _ => false, (World.rowIs_made W1 (.bool false) G 4), fun q hq => ⟨fun e => (by cases e), fun e => (by rcases e with ⟨s, hs, _⟩ | ⟨i, hi, _⟩ <;> omega)⟩⟩
  clear q0 q1 q2 q3 q1b
  go_loopw [16] (fun i wr => ∃ k : Nat, k ≤ G ∧ i = .int .i64 k ∧ Hid (Mk4 W1 wr W1.heap.size G (On L Z p k 0))) (fun i _ => G - (intOf i).toNat)
  case atStart => exact ⟨0, Nat.zero_le _, rfl, HL0⟩
  case round =>
    obtain ⟨r, hr, rfl, H⟩ := hrel
    clear HL0
    by_cases hlt : r < G
    · obtain rfl := HQN.out (by omega)
      obtain ⟨a, c, hck0, hrow0⟩ := HC.out r hlt
      have hck := below_cell H.out.1 (Nat.le_refl _) hck0
      have HRw := hid hrow0
      have hLr := HL.out r hlt
      clear hrow0 hck0
      go_wp2
      go_loopw [23] (fun i wi => ∃ k : Nat, k ≤ L r ∧ i = .int .i64 k ∧ Hid (Mk4 W1 wi W1.heap.size G (On L Z p r k))) (fun i _ => L r - (intOf i).toNat)
      case atStart => exact ⟨0, Nat.zero_le _, rfl, H⟩
      case round =>
        clear H hck
        obtain ⟨k, hk, rfl, H⟩ := hrel
        by_cases hlk : k < L r
        · obtain ⟨b', o', ha', hc'⟩ := HRw.out
          obtain rfl := ha' (by omega)
          obtain ⟨t, ht⟩ : ∃ t : Nat, Z r k = t := ⟨(Z r k).toNat, by have := HZ.out r hlt k hlk; omega⟩
          have htG : t < G := by have := HZ.out r hlt k hlk; omega
          have htz : (t : Int) < G := by omega
          have hrz : (r : Int) < G := by omega
          have hcell := below_cell H.out.1 (Nat.le_refl _) (hc' k hlk)
          rw [ht] at hcell
          have hct := below_cell H.out.1 (Nat.le_refl _) (HR.out t htG)
          have hcr := below_cell H.out.1 (Nat.le_refl _) (HR.out r hlt)
          have hprG := HP.out r hlt
          have hpz : ((p r : Nat) : Int) < G := by omega
          obtain ⟨x, hx1, hx2, _⟩ := H.out.cell hprG
          have HT : Hid ((Z r k).toNat = t) := hid (by omega)
          clear ht hc' ha'
          by_cases he : p t = p r
          · have HE : Hid (p (Z r k).toNat = p r) := hid (by rw [HT.out]; exact he)
            have HM : Hid (Mk4 W1 (wr.setCell ⟨W1.heap.size, p r, none⟩ (.bool true)) W1.heap.size G (On L Z p r (k + 1))) := hid ((H.out.set (t := p r) true).congr (fun q _ => (on_yes HE.out).trans (by by_cases e : q = p r <;> simp [e])))
            rw [he] at hct
            generalize p r = u at *
            clear he
            go_wp2
            go_region
            go_wp2
            go_roundw
            case rel => exact ⟨k + 1, by omega, by go_num, hid HM.out.drew⟩
            case measure => simp [intOf]; omega
          · have HM : Hid (Mk4 W1 wr W1.heap.size G (On L Z p r (k + 1))) := hid (H.out.congr (fun q _ => on_no (by rw [HT.out]; exact he)))
            have ge : (((p t : Nat) : Int) == ((p r : Nat) : Int)) = false := beq_eq_false_iff_ne.2 (by omega)
            generalize p r = u at *
            generalize p t = v at *
            clear he
            go_wp2
            go_region
            go_wp2
            go_roundw
            case rel => exact ⟨k + 1, by omega, by go_num, hid HM.out.drew⟩
            case measure => simp [intOf]; omega
        · go_wp2
          obtain rfl : k = L r := by omega
          go_roundw
          case rel => exact ⟨r + 1, by omega, by go_num, hid (H.out.congr (fun q _ => on_next))⟩
          case measure => simp [intOf]; omega
    · go_wp2
      obtain rfl : r = G := by omega
      go_ret
      exact ⟨_, rfl, hid ⟨HB1.out.trans (H.out.1.mono HB1.out.size), HB1.out.size, H.out.2.2⟩⟩

end Go.Proofs.Ythpbgfodejoecaa

namespace Go.Proofs.Ythpbgfodejoecaa
open Go.RowKit

theorem grown_below {w0 w w1 : World} {v : Value} {n : Nat} {l : List Value} {e : TypeId} (hb : Below w0.heap.size w0 w) (ho : w.ownsRow w0.heap.size e 1 v n l) (hg : w.grownBy w1 v.ownBlock) : Below w0.heap.size w0 w1 :=
  hb.grown hg hb.size (fun k hk => (ho.lt k hk).1)

end Go.Proofs.Ythpbgfodejoecaa
