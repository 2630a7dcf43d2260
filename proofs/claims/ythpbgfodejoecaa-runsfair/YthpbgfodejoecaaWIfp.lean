
import Derived.Deep.DrawnRows
import Derived.Deep.LoopGhost
import Derived.Deep.Cut
import Derived.Deep.OwnRows
import Derived.Maps.AppendAt
import Derived.WalkKit
import Derived.WalkSpells
import Derived.WalkLawsBesides
import Derived.Deep.QuietTactic
import Derived.BigQuiet
import Derived.Below
import Derived.Deep.Heap
import Derived.RegionTactic
import Derived.Deep.Quiet
import Derived.Deep.RegionHeld3
import Derived.Deep.WholeRow
import Derived.Deep.MidRow
import Derived.Laws.Bits64b
import Derived.Lib.TrailingZeros
import Derived.Deep.AppendLies
import Derived.Deep.CutRange
import Derived.Great.BuildSlice
import Derived.Maps.OwnIn
import Derived.Maps.OwnSet
import Derived.Maps.OwnOps
import Derived.DeepKeys4
import Derived.RangeFuncNested
import Derived.RangeFuncBound
import Derived.RangeFuncCalls
import Derived.RangeFuncLeaves
import Derived.Shelf.Abstract
import Derived.Shelf.RegionOpen
import Derived.OwnWalkIn
import Derived.TacticsInMore
import Derived.LoopNIn
import Derived.LoopIn
import Derived.Lib.SliceRun
import Derived.WalkSmall
import Derived.Deep.RegionHeld
import Derived.Laws.AppendOwnNone
import Derived.Lib.AppendZeros
import Derived.Test.YthpbgfodejoecaaBfsJ
import Derived.Test.YthpbgfodejoecaaDistJ
import Derived.Test.YthpbgfodejoecaaDist2J
import Derived.Test.YthpbgfodejoecaaLeafJ
import Derived.Test.YthpbgfodejoecaaProc
import Derived.Test.YthpbgfodejoecaaProc2
import Derived.Test.YthpbgfodejoecaaSpFaceJ
import Derived.Test.YthpbgfodejoecaaWChwJ
/- world.inFairParts: the states of the fair parts. -/
namespace Go.Proofs.Ythpbgfodejoecaa
open Go.RowKit

theorem cs_mono (ml : Nat → Nat) {m n : Nat} (h : m ≤ n) : cs ml m ≤ cs ml n := by
  induction n with
  | zero => have : m = 0 := by omega
            subst this; exact Nat.le_refl _
  | succ n ih =>
    by_cases e : m = n + 1
    · subst e; exact Nat.le_refl _
    · have := ih (by omega)
      simp only [cs]
      omega

theorem cs_up {ml : Nat → Nat} {m n : Nat} (hm : ml m = m) (h : m < n) : cs ml m + 1 ≤ cs ml n := by
  have h1 := cs_mono ml (m := m + 1) (n := n) (by omega)
  simp only [cs] at h1
  rw [if_pos hm] at h1
  omega

theorem IsParts.idem {G : Nat} {L : Nat → Nat} {Z : Nat → Nat → Int} {ml : Nat → Nat} (h : IsParts G L Z ml) {x : Nat} (hx : x < G) : ml (ml x) = ml x := (h.self hx).2

theorem IsParts.eq_iff {G : Nat} {L : Nat → Nat} {Z : Nat → Nat → Int} {ml : Nat → Nat} (h : IsParts G L Z ml) {x y : Nat} (hx : x < G) (hy : y < G) : cs ml (ml x) = cs ml (ml y) ↔ Mut (Ego G L Z) x y := by
  constructor
  · intro e
    have hm : ml x = ml y := by
      rcases Nat.lt_trichotomy (ml x) (ml y) with h1 | h1 | h1
      · have := cs_up (h.idem hx) h1; omega
      · exact h1
      · have := cs_up (h.idem hy) h1; omega
    have h1 := (h x hx).2.1
    have h2 := (h y hy).2.1
    rw [← hm] at h2
    exact ⟨h1.1.trans h2.2, h2.1.trans h1.2⟩
  · intro e
    rw [((h x hx).2.2 y hy e).1]

/-- Parts: a number for each, the same just for those of which one comes to the other and back. -/
def Pt (G : Nat) (L : Nat → Nat) (Z : Nat → Nat → Int) (p : Nat → Nat) : Prop := (∀ x, x < G → p x < G) ∧ ∀ x y, x < G → y < G → (p x = p y ↔ Mut (Ego G L Z) x y)

/-- A fair part, as far as the first k sets tell. -/
def Fq (L : Nat → Nat) (Z : Nat → Nat → Int) (G : Nat) (FL : Nat → Nat) (FZ : Nat → Nat → Int) (p : Nat → Nat) (k q : Nat) : Prop := On L Z p G 0 q ∧ ∀ s, s < k → ∃ i, i < FL s ∧ p (FZ s i).toNat = q

theorem fq_next {L : Nat → Nat} {Z : Nat → Nat → Int} {G : Nat} {FL : Nat → Nat} {FZ : Nat → Nat → Int} {p : Nat → Nat} {k q : Nat} : Fq L Z G FL FZ p (k + 1) q ↔ Fq L Z G FL FZ p k q ∧ ∃ i, i < FL k ∧ p (FZ k i).toNat = q := by
  constructor
  · rintro ⟨h1, h2⟩
    exact ⟨⟨h1, fun s hs => h2 s (by omega)⟩, h2 k (by omega)⟩
  · rintro ⟨⟨h1, h2⟩, h3⟩
    refine ⟨h1, fun s hs => ?_⟩
    by_cases e : s = k
    · subst e; exact h3
    · exact h2 s (by omega)

def Mk0 (wr : World) (b G : Nat) (P : Nat → Prop) : Prop := ∃ R : Nat → Bool, wr.rowIs b 4 G (fun x => .bool (R x)) ∧ ∀ q, q < G → (R q = true ↔ P q)
theorem Mk0.cell {wr : World} {b G t : Nat} {P : Nat → Prop} (h : Mk0 wr b G P) (ht : t < G) : ∃ x, wr.cell? ⟨b, t, none⟩ = some (.bool x) ∧ (x = true ↔ P t) := by
  obtain ⟨R, h3, h4⟩ := h
  exact ⟨R t, h3.cell ht, h4 t ht⟩
theorem Mk0.but {wr w2 : World} {b bo G : Nat} {P : Nat → Prop} (h : Mk0 wr b G P) (hb : But bo wr w2) (hne : b ≠ bo) : Mk0 w2 b G P := by
  obtain ⟨R, h3, h4⟩ := h
  exact ⟨R, h3.of_block (hb.block _ h3.lt hne), h4⟩
theorem Mk4.lt {w wr : World} {b G : Nat} {P : Nat → Prop} (h : Mk4 w wr b G P) : b < wr.heap.size := by
  obtain ⟨_, _, R, h3, _⟩ := h
  exact h3.lt

/-- The list of the states of fair parts, as far as the first k states tell. -/
def Lq (w wr : World) (P : Nat → Prop) (k : Nat) (v : Value) : Prop :=
  ∃ l : List Int, Below w.heap.size w wr ∧ wr.ownsRow w.heap.size 3 1 v l.length (vals l) ∧ l.length ≤ k ∧ (∀ y ∈ l, 0 ≤ y) ∧ ∀ x : Nat, (x : Int) ∈ l ↔ x < k ∧ P x

theorem own_step {U wr w5 : World} {a : Option Addr} {c : Nat} {l : List Int} {v' : Value} {j : Int} {o : Obj} (hb : Below U.heap.size U wr) (ho : wr.ownsRow U.heap.size 3 1 (.slice a l.length c) l.length (vals l))
    (hown : w5.ownsRow U.heap.size 3 1 v' (l.length + 1) (vals l ++ [.int .i64 j])) (hgrow : (wr.alloc o).grownBy w5 (Value.ownBlock (.slice a l.length c))) :
    (∃ a c, v' = .slice a (l.length + 1) c) ∧ Hid (Below U.heap.size U w5 ∧ w5.ownsRow U.heap.size 3 1 v' (l ++ [j]).length (vals (l ++ [j]))) := by
  refine ⟨?_, hid ⟨grown_below (hb.alloc hb.size _) (ho.alloc _) hgrow, by simpa [vals] using hown⟩⟩
  rcases hown.2 with ⟨_, h0⟩ | ⟨g, cap, cur, rfl, _⟩
  · omega
  · exact ⟨_, _, rfl⟩

theorem ptOk {G : Nat} {L : Nat → Nat} {Z : Nat → Nat → Int} {ml : Nat → Nat} (h : IsParts G L Z ml) : Pt G L Z (fun x => cs ml (ml x)) :=
  ⟨fun x hx => by
    have h1 := cs_le ml (ml x)
    have h2 := (h.self hx).1
    show cs ml (ml x) < G
    omega, fun x y hx hy => h.eq_iff hx hy⟩

set_option maxHeartbeats 2000000 in
theorem inFair_any (A : Wx) (w : World) (h : Ww w A) (h0 : chkW A = 0) :
    Calls Try.prog 40 #[.agg #[.slice A.sa A.sn A.sc, .slice A.na A.G A.nc, .slice A.la A.M A.lc, .slice A.fa A.K A.fc]] w fun e w' => ∃ (a : Option Addr) (n c : Nat) (Y : Nat → Int) (p : Nat → Nat), e = .returned (.slice a n c) ∧ Hid (Below w.heap.size w w' ∧ Row w' a n Y ∧ n ≤ A.G ∧ Pt A.G A.L A.Z p ∧ (∀ i, i < n → 0 ≤ Y i) ∧ ∀ x : Nat, Src n Y x ↔ x < A.G ∧ Fq A.L A.Z A.G A.FL A.FZ p A.K (p x)) := by
  obtain ⟨W1, hW1, hb1, hs1, hbw⟩ := boxw w A
  obtain ⟨hG, hK, -, -, -, hz, hfz⟩ := chkW_ok h0
  have hE : errG A.G A.L A.Z = 0 := errG_ok (by omega) (okG_yes (fun r hr => allIn_yes (hz r hr)))
  have hmk := run_make_row' (P := Try.prog) 48 4 (.bool false) 1 Try.underlying48 Try.info4 rfl .i64 .i64 A.G (by omega) (by omega)
  have hw1 := h.below hb1
  have CP := hid (parts_ok W1 A.na A.G A.nc A.L A.Z hw1.l47 hw1.next hE)
  have CG := hid (fun (pb : Nat) (p : Nat → Nat) (y : World) (hy : Below W1.heap.size W1 y) => goingOn_any A pb p y (hw1.below hy) h0)
  obtain ⟨fb, fo, hfa, hfc⟩ := hw1.fair
  have HFC := hid hfc
  have HB1 := hid hb1
  have HFZ := hid hfz
  have HFL := hid h.f47
  have HBW := hid hbw
  have HMK := hid hmk
  have HFN : Hid (0 < A.K → A.fa = some ⟨fb, fo, none⟩) := hid hfa
  obtain ⟨i0, hi, hz0, hz1, hz2⟩ := info_parts Try.info3
  have HI : Hid (Try.prog.info? 3 = some i0 ∧ i0.zero = some (.int .i64 0) ∧ i0.size = 1 ∧ i0.bytes = 8) := ⟨hi, hz0, hz1, hz2⟩
  obtain ⟨q0, q1, q2, q3⟩ := hbw
  clear hi hz0 hz1 hz2 hfc hb1 hs1 h h0 hz hfz hfa hE hmk hw1
  obtain ⟨sa, sn, sc, na, G, nc, la, M, lc, fa, K, fc, S, L, Z, Lb, FL, FZ⟩ := A
  dsimp only at *
  go_enter Try.func40, Try.ntmps40
  go_wp2_with fail
  refine CP.out.mono ?_
  rintro e w2 ⟨pb, ml, rfl, hb2, hpb, hpr, hIP⟩
  obtain ⟨p, hpd⟩ : ∃ p : Nat → Nat, (fun x => cs ml (ml x)) = p := ⟨_, rfl⟩
  have hPt : Pt G L Z p := hpd ▸ ptOk hIP
  have hpr2 : w2.rowIs pb 3 G (fun x => .int .i64 (p x : Nat)) := by rw [← hpd]; exact hpr
  have HPT := hid hPt
  have HPR := hid hpr2
  have HB2 := hid hb2
  have C51 := hid (CG.out pb p w2 hb2 hPt.1 (fun x hx => hpr2.cell hx))
  clear hpr hpr2 hPt hIP hpd q0 q1 q2 q3 CP CG
  obtain ⟨q0, q1, q2, q3⟩ := HBW.out.below HB2.out
  dsimp only at q0 q1 q2 q3
  go_wp2_with fail
  refine C51.out.mono ?_
  rintro e w3 ⟨b5, rfl, HO⟩
  clear q0 q1 q2 q3 C51
  have HB3 := hid (HB2.out.trans (HO.out.1.mono HB2.out.size))
  have HS0 : Hid (Mk4 w2 w3 b5 G (Fq L Z G FL FZ p 0)) := hid (HO.out.congr (fun q _ => ⟨fun h => h.1, fun h => ⟨h, fun s hs => by omega⟩⟩))
  obtain ⟨q0, q1, q2, q3⟩ := HBW.out.below HB3.out
  dsimp only at q0 q1 q2 q3
  go_wp2
  clear q0 q1 q2 q3
  go_loopw [27] (fun i wr => ∃ k : Nat, k ≤ K ∧ i = .int .i64 k ∧ Hid (Mk4 w2 wr b5 G (Fq L Z G FL FZ p k))) (fun i _ => K - (intOf i).toNat)
  case atStart => exact ⟨0, Nat.zero_le _, rfl, HS0⟩
  case round =>
    clear HS0 HO
    obtain ⟨k, hk, rfl, H⟩ := hrel
    by_cases hlt : k < K
    · obtain rfl := HFN.out (by omega)
      obtain ⟨a, c, hck0, hrow0⟩ := HFC.out k hlt
      have HBr := hid (HB2.out.trans (H.out.1.mono HB2.out.size))
      have hck := below_cell HBr.out (Nat.le_refl _) hck0
      have HRw := hid hrow0
      have hLr := HFL.out k hlt
      have hmk := HMK.out
      clear hrow0 hck0
      generalize wr = wo at *
      go_wp2
      clear hmk hck
      have HM0 : Hid (Mk4 wo (wo.alloc (.cells (madeCells #[.bool false] G) 4)) wo.heap.size G (fun q => ∃ i, i < 0 ∧ p (FZ k i).toNat = q)) := hid ⟨box_below _ _, Nat.le_refl _, fun _ => false, (World.rowIs_made wo (.bool false) G 4), fun q hq => ⟨fun e => (by cases e), fun ⟨i, hi, _⟩ => by omega⟩⟩
      go_loopw [36] (fun i wi => ∃ j : Nat, j ≤ FL k ∧ i = .int .i64 j ∧ Hid (Mk4 wo wi wo.heap.size G (fun q => ∃ i, i < j ∧ p (FZ k i).toNat = q))) (fun i _ => FL k - (intOf i).toNat)
      case atStart => exact ⟨0, Nat.zero_le _, rfl, HM0⟩
      case round =>
        clear HM0
        obtain ⟨j, hj, rfl, HM⟩ := hrel
        have HBi := hid (HBr.out.trans (HM.out.1.mono HBr.out.size))
        by_cases hlj : j < FL k
        · obtain ⟨b', o', ha', hc'⟩ := HRw.out
          obtain rfl := ha' (by omega)
          obtain ⟨t, ht⟩ : ∃ t : Nat, FZ k j = t := ⟨(FZ k j).toNat, by have := HFZ.out k hlt j hlj; omega⟩
          have htG : t < G := by have := HFZ.out k hlt j hlj; omega
          have htz : (t : Int) < G := by omega
          have hcell := below_cell HBi.out (Nat.le_refl _) (hc' j hlj)
          rw [ht] at hcell
          have hct : wr.cell? ⟨pb, t, none⟩ = some (.int .i64 (p t : Nat)) := below_cell (H.out.1.trans (HM.out.1.mono H.out.1.size)) (Nat.le_refl _) (HPR.out.cell htG)
          have hptG := HPT.out.1 t htG
          have hpz : ((p t : Nat) : Int) < G := by omega
          obtain ⟨x, hx1, hx2, _⟩ := HM.out.cell hptG
          have HT : Hid ((FZ k j).toNat = t) := hid (by omega)
          clear ht hc' ha'
          have HN : Hid (Mk4 wo (wr.setCell ⟨wo.heap.size, p t, none⟩ (.bool true)) wo.heap.size G (fun q => ∃ i, i < j + 1 ∧ p (FZ k i).toNat = q)) := hid ((HM.out.set (t := p t) true).congr (fun q _ => by
            constructor
            · rintro ⟨i, hi, he⟩
              by_cases e : i = j
              · subst e; rw [HT.out] at he; simp [he]
              · by_cases e2 : q = p t
                · simp [e2]
                · simp only [e2, if_false]; exact ⟨i, by omega, he⟩
            · intro hq
              by_cases e2 : q = p t
              · exact ⟨j, by omega, by rw [HT.out]; exact e2.symm⟩
              · simp only [e2, if_false] at hq
                obtain ⟨i, hi, he⟩ := hq
                exact ⟨i, by omega, he⟩))
          generalize p t = u at *
          go_wp2
          go_roundw
          case rel => exact ⟨j + 1, by omega, by go_num, HN⟩
          case measure => simp [intOf]; omega
        · obtain rfl : j = FL k := by omega
          go_wp2
          have HS2 : Hid (Mk4 w2 wr b5 G (fun x => if x < 0 then Fq L Z G FL FZ p k x ∧ (∃ i, i < FL k ∧ p (FZ k i).toNat = x) else Fq L Z G FL FZ p k x) ∧ Mk0 wr wo.heap.size G (fun q => ∃ i, i < FL k ∧ p (FZ k i).toNat = q)) :=
            hid ⟨(H.out.below HM.out.1).congr (fun q _ => by rw [if_neg (by omega)]), HM.out.2.2⟩
          have hbo := H.out.lt
          generalize wo.heap.size = bm at *
          clear HM HBi
          go_loopw [49] (fun i wi => ∃ q : Nat, q ≤ G ∧ i = .int .i64 q ∧ Hid (Mk4 w2 wi b5 G (fun x => if x < q then Fq L Z G FL FZ p k x ∧ (∃ i, i < FL k ∧ p (FZ k i).toNat = x) else Fq L Z G FL FZ p k x) ∧ Mk0 wi bm G (fun q => ∃ i, i < FL k ∧ p (FZ k i).toNat = q))) (fun i _ => G - (intOf i).toNat)
          case atStart => exact ⟨0, Nat.zero_le _, rfl, HS2⟩
          case round =>
            clear HS2 H
            obtain ⟨q, hq, rfl, H⟩ := hrel
            by_cases hlq : q < G
            · obtain ⟨x, hx1, hx2, hx3⟩ := H.out.1.cell hlq
              obtain ⟨y, hy1, hy3⟩ := H.out.2.cell hlq
              rw [if_neg (Nat.lt_irrefl _)] at hx3
              have HX := hid (And.intro hx3 hy3)
              have hqz : (q : Int) < G := by omega
              have HN : Hid (Mk4 w2 (wr.setCell ⟨b5, q, none⟩ (.bool (x && y))) b5 G (fun x => if x < q + 1 then Fq L Z G FL FZ p k x ∧ (∃ i, i < FL k ∧ p (FZ k i).toNat = x) else Fq L Z G FL FZ p k x) ∧ Mk0 (wr.setCell ⟨b5, q, none⟩ (.bool (x && y))) bm G (fun q => ∃ i, i < FL k ∧ p (FZ k i).toNat = q)) :=
                hid ⟨(H.out.1.set (t := q) (x && y)).congr (fun z _ => by
                  by_cases e : z = q
                  · subst e
                    simp only [if_pos (Nat.lt_succ_self z), if_true, Bool.and_eq_true]
                    exact (and_congr HX.out.1 HX.out.2).symm
                  · by_cases e2 : z < q
                    · rw [if_pos (by omega), if_neg e, if_pos e2]
                    · rw [if_neg (by omega), if_neg e, if_neg e2]), H.out.2.but ((But.refl _ _).setCell q _) (by omega)⟩
              clear hx3 hy3
              cases x
              · go_wp2
                go_roundw
                case rel => exact ⟨q + 1, by omega, by go_num, HN⟩
                case measure => simp [intOf]; omega
              · simp only [Bool.true_and] at HN
                go_wp2
                go_roundw
                case rel => exact ⟨q + 1, by omega, by go_num, HN⟩
                case measure => simp [intOf]; omega
            · obtain rfl : q = G := by omega
              go_wp2
              go_roundw
              case rel => exact ⟨k + 1, by omega, by go_num, hid (H.out.1.congr (fun q hq => by rw [if_pos hq]; exact fq_next))⟩
              case measure => simp [intOf]; omega
    · obtain rfl : k = K := by omega
      generalize wr = U at *
      go_wp2
      have HBU := hid (HB2.out.trans (H.out.1.mono HB2.out.size))
      have HL0 : Hid (Lq U U (fun x => Fq L Z G FL FZ p k (p x)) 0 (.slice none 0 0)) := hid ⟨[], Below.refl _ _, World.ownsRow_nil _ _ _ _, Nat.le_refl _, fun y hy => (by cases hy), fun x => ⟨fun h => (by cases h), fun h => (by omega)⟩⟩
      go_loopw [12, 69] (fun v i wr => ∃ j : Nat, j ≤ G ∧ i = .int .i64 j ∧ (∃ a n c, v = .slice a n c) ∧ Hid (Lq U wr (fun x => Fq L Z G FL FZ p k (p x)) j v)) (fun _ i _ => G - (intOf i).toNat)
      case atStart => exact ⟨0, Nat.zero_le _, rfl, ⟨_, _, _, rfl⟩, HL0⟩
      case round =>
        clear HL0
        obtain ⟨j, hj, rfl, ⟨a, n, c, rfl⟩, l, hb, hown, hlen, hpos, hmem⟩ := hrel
        have HB := hid hb
        have HMem := hid hmem
        have HPos := hid hpos
        clear hmem hpos
        by_cases hlj : j < G
        · have hjz : (j : Int) < G := by omega
          have hcj : wr.cell? ⟨pb, j, none⟩ = some (.int .i64 (p j : Nat)) := below_cell (H.out.1.trans (hb.mono H.out.1.size)) (Nat.le_refl _) (HPR.out.cell hlj)
          have hpG := HPT.out.1 j hlj
          have hpz : ((p j : Nat) : Int) < G := by omega
          obtain ⟨x, hx1, _, hx3⟩ := (H.out.below hb).cell hpG
          have HX := hid hx3
          have hnl : n = l.length := by
            obtain ⟨a2, c2, hv, _⟩ := owns_row hown
            cases hv; rfl
          have HO := hid hown
          clear hx3 hb hown
          cases x
          · have HN : Hid (Lq U wr (fun x => Fq L Z G FL FZ p k (p x)) (j + 1) (.slice a n c)) := hid ⟨l, HB.out, HO.out, by omega, HPos.out, fun x => by
              rw [HMem.out x]
              constructor
              · rintro ⟨h1, h2⟩; exact ⟨by omega, h2⟩
              · rintro ⟨h1, h2⟩
                refine ⟨?_, h2⟩
                by_cases e : x = j
                · subst e; exact absurd (HX.out.2 h2) (by decide)
                · omega⟩
            generalize p j = u at *
            go_wp2
            go_roundw
            case rel => exact ⟨j + 1, by omega, by go_num, ⟨_, _, _, rfl⟩, HN⟩
            case measure => simp [intOf]; omega
          · have HXX := hid (HX.out.1 rfl)
            obtain ⟨u, hpu⟩ : ∃ u, p j = u := ⟨_, rfl⟩
            rw [hpu] at hcj hx1 hpz hpG
            have HPU := hid hpu
            clear hpu
            subst hnl
            have hUs := HB.out.size
            go_wp2_with (at_builtin; refine wpList_append_own_at _ rfl _ _ 26 rfl U.heap.size 3 i0 (.int .i64 0) 1 8 Try.underlying26 HI.out.1 HI.out.2.1 HI.out.2.2.1 HI.out.2.2.2 rfl (by decide) _ _ _ rfl (HO.out.alloc _) ⟨wr.heap.size, 0, none⟩ 1 1 [.int .i64 j] rfl rfl (cell_one_new _ _ _) (ints_oneCell .i64 [(j : Int)]) (by unfold maxLen; omega) (by omega) (by simp; omega) ?_; intro v' w5 hown' hgrow hnil hloc; obtain ⟨⟨a3, c3, rfl⟩, G3⟩ := own_step HB.out HO.out hown' hgrow; clear hown' hgrow hnil hloc)
            have HN : Hid (Lq U w5 (fun x => Fq L Z G FL FZ p k (p x)) (j + 1) (.slice a3 (l.length + 1) c3)) := hid ⟨l ++ [(j : Int)], G3.out.1, G3.out.2, by simp; omega, fun y hy => (by rcases List.mem_append.1 hy with h1 | h1; exact HPos.out y h1; rw [List.mem_singleton.1 h1]; omega), fun x => by
              rw [List.mem_append, HMem.out x, List.mem_singleton]
              constructor
              · rintro (⟨h1, h2⟩ | h1)
                · exact ⟨by omega, h2⟩
                · obtain rfl : x = j := by omega
                  exact ⟨by omega, by show Fq L Z G FL FZ p k (p x); exact HXX.out⟩
              · rintro ⟨h1, h2⟩
                by_cases e : x = j
                · exact Or.inr (by omega)
                · exact Or.inl ⟨by omega, h2⟩⟩
            go_roundw
            case rel => exact ⟨j + 1, by omega, by go_num, ⟨_, _, _, rfl⟩, HN⟩
            case measure => simp [intOf]; omega
        · obtain rfl : j = G := by omega
          obtain ⟨a2, c2, hv, hrow⟩ := owns_row hown
          cases hv
          have HF := hid hrow
          have hbU := HBU.out.trans (hb.mono HBU.out.size)
          have HBF := hid (HB1.out.trans (hbU.mono HB1.out.size))
          have HFin : Hid (Below w.heap.size w wr ∧ Row wr a l.length (fun i => l.getD i 0) ∧ l.length ≤ j ∧ Pt j L Z p ∧ (∀ i, i < l.length → 0 ≤ l.getD i 0) ∧ ∀ x : Nat, Src l.length (fun i => l.getD i 0) x ↔ x < j ∧ Fq L Z j FL FZ p k (p x)) := hid ⟨HBF.out, HF.out, hlen, HPT.out, fun i hi => (by rw [List.getD_eq_getElem?_getD, List.getElem?_eq_getElem hi]; exact HPos.out _ (List.getElem_mem hi)), fun x => by
            rw [← HMem.out x]
            unfold Src
            rw [has_iff]
            constructor
            · rintro ⟨i, hi, e⟩
              rw [← e, List.getD_eq_getElem?_getD, List.getElem?_eq_getElem hi]
              exact List.getElem_mem hi
            · intro hx
              obtain ⟨i, hi, e⟩ := List.mem_iff_getElem.1 hx
              exact ⟨i, hi, by rw [List.getD_eq_getElem?_getD, List.getElem?_eq_getElem hi]; exact e⟩⟩
          clear hrow hown hb hbU HF HBF HMem
          go_wp2
          go_ret
          first | exact ⟨_, p, HFin⟩ | exact ⟨_, _, _, _, p, rfl, HFin⟩

end Go.Proofs.Ythpbgfodejoecaa
