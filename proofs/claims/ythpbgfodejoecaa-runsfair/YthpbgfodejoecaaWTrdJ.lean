/-    -/
import Derived.RegionTactic
import Derived.Deep.OwnRows
import Derived.Maps.AppendAt
import Derived.WalkKit
import Derived.WalkSpells
import Derived.WalkLawsBesides
import Derived.Deep.QuietTactic
import Derived.BigQuiet
import Derived.Below
import Derived.Deep.Heap
import Derived.Deep.Quiet
import Derived.Deep.DrawnRows
import Derived.Deep.LoopGhost
import Derived.Deep.Cut
import Derived.Test.YthpbgfodejoecaaBfsJ
import Derived.Test.YthpbgfodejoecaaDistJ
import Derived.Test.YthpbgfodejoecaaDist2J
import Derived.Test.YthpbgfodejoecaaLeafJ
import Derived.Test.YthpbgfodejoecaaProc
import Derived.Test.YthpbgfodejoecaaProc2
import Derived.Test.YthpbgfodejoecaaSpFaceJ
import Derived.Test.YthpbgfodejoecaaWBaseJ
import Derived.Test.YthpbgfodejoecaaWScParts
import Derived.Deep.RegionHeld3
import Derived.Deep.WholeRow
import Derived.Deep.MidRow
import Derived.Laws.Bits64b
import Derived.Lib.TrailingZeros
import Derived.Deep.AppendLies
import Derived.Deep.CutRange
import Derived.Great.BuildSlice
import Derived.Maps.OwnIn
import Derived.Maps.OwnSet
import Derived.Maps.OwnOps
import Derived.DeepKeys4
import Derived.RangeFuncNested
import Derived.RangeFuncBound
import Derived.RangeFuncCalls
import Derived.RangeFuncLeaves
import Derived.Shelf.Abstract
import Derived.Shelf.RegionOpen
import Derived.OwnWalkIn
import Derived.TacticsInMore
import Derived.LoopNIn
import Derived.LoopIn
import Derived.Lib.SliceRun
import Derived.WalkSmall
import Derived.Deep.RegionHeld
import Derived.Laws.AppendOwnNone
import Derived.Lib.AppendZeros
import Derived.Test.YthpbgfodejoecaaWIfp
import Derived.Deep.DeepCutAuto
import Derived.Test.YthpbgfodejoecaaWFaiJ
import Derived.Test.YthpbgfodejoecaaWChwJ
/- The graph turned round: what comes (ported). -/
/- world.Fair: of each state whether a fair way begins there. -/
/- Where fair ways begin: one step on; without fair sets; in the world of two states. -/
namespace Go.Proofs.Ythpbgfodejoecaa
open Go.RowKit

/-- The graph turned round. -/
def tL (L : Nat → Nat) (Z : Nat → Nat → Int) (G j : Nat) : Nat := (tl L Z G j).length
def tZ (L : Nat → Nat) (Z : Nat → Nat → Int) (G j i : Nat) : Int := (tl L Z G j).getD i 0

section
variable {G : Nat} {L : Nat → Nat} {Z : Nat → Nat → Int}

theorem tl_mem (j : Nat) (x : Int) : x ∈ tl L Z G j ↔ ∃ q : Nat, q < G ∧ has (L q) (Z q) j = true ∧ x = q := by
  unfold tl
  rw [List.mem_map]
  constructor
  · rintro ⟨q, hq, rfl⟩
    obtain ⟨h1, h2⟩ := List.mem_filter.1 hq
    exact ⟨q, List.mem_range.1 h1, h2, rfl⟩
  · rintro ⟨q, hq, h, rfl⟩
    exact ⟨q, List.mem_filter.2 ⟨List.mem_range.2 hq, h⟩, rfl⟩

theorem tZ_mem (j i : Nat) (hi : i < tL L Z G j) : tZ L Z G j i ∈ tl L Z G j := by
  unfold tZ
  rw [List.getD_eq_getElem?_getD, List.getElem?_eq_getElem hi]
  exact List.getElem_mem hi

theorem has_turn (j q : Nat) : has (tL L Z G j) (tZ L Z G j) q = true ↔ q < G ∧ has (L q) (Z q) j = true := by
  rw [has_iff]
  constructor
  · rintro ⟨i, hi, e⟩
    have h := tZ_mem j i hi
    rw [e] at h
    obtain ⟨q', h1, h2, e'⟩ := (tl_mem j _).1 h
    have : q' = q := by omega
    subst this
    exact ⟨h1, h2⟩
  · rintro ⟨h1, h2⟩
    obtain ⟨i, hi, e⟩ := List.mem_iff_getElem.1 ((tl_mem (L := L) (Z := Z) (G := G) j q).2 ⟨q, h1, h2, rfl⟩)
    refine ⟨i, hi, ?_⟩
    unfold tZ
    rw [List.getD_eq_getElem?_getD, List.getElem?_eq_getElem hi]
    exact e

theorem turn_errG (h : errG G L Z = 0) : errG G (tL L Z G) (tZ L Z G) = 0 := by
  have hG := (errG_zero h).1
  refine errG_ok (by omega) ?_
  unfold okG
  rw [decide_eq_true_eq]
  intro r _
  refine allIn_yes (fun i hi => ?_)
  obtain ⟨q, h1, _, e⟩ := (tl_mem r _).1 (tZ_mem r i hi)
  omega

theorem ego_turn (h : errG G L Z = 0) (x y : Nat) : Ego G (tL L Z G) (tZ L Z G) x y ↔ Ego G L Z y x := by
  rw [← ed_ego, ← ed_ego]
  unfold Ed
  rw [has_turn]
  constructor
  · rintro ⟨_, h1, h2⟩; exact ⟨h1, h2⟩
  · rintro ⟨h1, h2⟩
    obtain ⟨i, hi, e⟩ := has_iff.1 h2
    have := (errG_zero h).2 y h1 i hi
    exact ⟨by omega, h1, h2⟩

theorem rch_back {E E' : Nat → Nat → Prop} (he : ∀ x y, E' x y → E y x) {x y : Nat} (h : RchW E' x y) : RchW E y x :=
  h.stay (P := fun z => RchW E z x) (fun _ _ hz e => (RchW.edge (he _ _ e)).trans hz) (RchW.refl x)

theorem rch_turn (h : errG G L Z = 0) (x y : Nat) : RchW (Ego G (tL L Z G) (tZ L Z G)) x y ↔ RchW (Ego G L Z) y x :=
  ⟨rch_back (fun a b e => (ego_turn h a b).1 e), rch_back (fun a b e => (ego_turn h b a).2 e)⟩

end

theorem Fam.gr' {w wr : World} {G : Nat} {L : Nat → Nat} {Z : Nat → Nat → Int} {V : Nat → Value} (h : Fam w wr G (tl L Z G) V) : Gr wr (some ⟨w.heap.size, 0, none⟩) G (tL L Z G) (tZ L Z G) := h.gr


/-- One comes to x in the graph turned round just if x comes to one. -/
theorem comes_turn {G : Nat} {L : Nat → Nat} {Z : Nat → Nat → Int} {n : Nat} {Y : Nat → Int} (h : errG G L Z = 0) (x : Nat) : Comes G (tL L Z G) (tZ L Z G) n Y x ↔ ∃ s, Src n Y s ∧ RchW (Ego G L Z) x s := by
  have key : ∀ k x, Wk (Src n Y) (Ed G (tL L Z G) (tZ L Z G)) k x → ∃ s, Src n Y s ∧ RchW (Ego G (tL L Z G) (tZ L Z G)) s x := by
    intro k
    induction k with
    | zero => intro x hx; exact ⟨x, hx, RchW.refl x⟩
    | succ k ih =>
      rintro x ⟨y, hy, e⟩
      obtain ⟨s, h1, h2⟩ := ih y hy
      rw [ed_ego] at e
      exact ⟨s, h1, h2.on e⟩
  have back : ∀ k x s, Src n Y s → Wk (fun z => z = s) (Ego G (tL L Z G) (tZ L Z G)) k x → Wk (Src n Y) (Ed G (tL L Z G) (tZ L Z G)) k x := by
    intro k
    induction k with
    | zero => intro x s hs hx; have : x = s := hx; subst this; exact hs
    | succ k ih =>
      rintro x s hs ⟨y, hy, e⟩
      exact ⟨y, ih y s hs hy, by rw [ed_ego]; exact e⟩
  constructor
  · rintro ⟨k, hk⟩
    obtain ⟨s, h1, h2⟩ := key k x hk
    exact ⟨s, h1, (rch_turn h s x).1 h2⟩
  · rintro ⟨s, h1, h2⟩
    obtain ⟨k, hk⟩ := (rch_turn h s x).2 h2
    exact ⟨k, back k x s h1 hk⟩

end Go.Proofs.Ythpbgfodejoecaa

namespace Go.Proofs.Ythpbgfodejoecaa
open Go.RowKit

/-- A state of a fair part. -/
def FairS (A : Wx) (s : Nat) : Prop := (∃ x, x < A.G ∧ ∃ i, i < A.L x ∧ Mut (Ego A.G A.L A.Z) (A.Z x i).toNat x ∧ Mut (Ego A.G A.L A.Z) x s) ∧ ∀ k, k < A.K → ∃ i, i < A.FL k ∧ Mut (Ego A.G A.L A.Z) (A.FZ k i).toNat s
/-- From x one comes to a fair part. -/
def Begins (A : Wx) (x : Nat) : Prop := ∃ s, s < A.G ∧ FairS A s ∧ RchW (Ego A.G A.L A.Z) x s

theorem fq_iff {A : Wx} {p : Nat → Nat} (h0 : chkW A = 0) (hp : Pt A.G A.L A.Z p) {s : Nat} (hs : s < A.G) : Fq A.L A.Z A.G A.FL A.FZ p A.K (p s) ↔ FairS A s := by
  obtain ⟨-, -, -, -, -, hz, hfz⟩ := chkW_ok h0
  have z1 : ∀ r, r < A.G → ∀ i, i < A.L r → (A.Z r i).toNat < A.G := fun r hr i hi => by have := hz r hr i hi; omega
  have z2 : ∀ r, r < A.K → ∀ i, i < A.FL r → (A.FZ r i).toNat < A.G := fun r hr i hi => by have := hfz r hr i hi; omega
  unfold Fq FairS
  refine and_congr ?_ ?_
  · unfold On
    constructor
    · rintro (⟨x, hx, i, hi, h1, h2⟩ | ⟨i, hi, _⟩)
      · exact ⟨x, hx, i, hi, (hp.2 _ _ (z1 x hx i hi) hx).1 h1, (hp.2 _ _ hx hs).1 h2⟩
      · omega
    · rintro ⟨x, hx, i, hi, h1, h2⟩
      exact Or.inl ⟨x, hx, i, hi, (hp.2 _ _ (z1 x hx i hi) hx).2 h1, (hp.2 _ _ hx hs).2 h2⟩
  · constructor
    · intro h k hk
      obtain ⟨i, hi, h1⟩ := h k hk
      exact ⟨i, hi, (hp.2 _ _ (z2 k hk i hi) hs).1 h1⟩
    · intro h k hk
      obtain ⟨i, hi, h1⟩ := h k hk
      exact ⟨i, hi, (hp.2 _ _ (z2 k hk i hi) hs).2 h1⟩

set_option maxHeartbeats 2000000 in
theorem fair_ok (A : Wx) (w : World) (h : Ww w A) (h0 : chkW A = 0) :
    Calls Try.prog 13 #[.agg #[.slice A.sa A.sn A.sc, .slice A.na A.G A.nc, .slice A.la A.M A.lc, .slice A.fa A.K A.fc]] w fun e w' => ∃ b, e = .returned (.tuple #[.slice (some ⟨b, 0, none⟩) A.G A.G, .int .i64 0]) ∧ Hid (Below w.heap.size w w' ∧ w.heap.size ≤ b ∧ Mk0 w' b A.G (Begins A)) := by
  obtain ⟨W1, hW1, hb1, hs1, hbw⟩ := boxw w A
  obtain ⟨hG, hK, -, -, -, hz, hfz⟩ := chkW_ok h0
  have hE : errG A.G A.L A.Z = 0 := errG_ok (by omega) (okG_yes (fun r hr => allIn_yes (hz r hr)))
  have hw1 := h.below hb1
  have C : Hid (Calls Try.prog 37 #[.agg #[.slice A.sa A.sn A.sc, .slice A.na A.G A.nc, .slice A.la A.M A.lc, .slice A.fa A.K A.fc]] W1 fun e w' => e = .returned (.int .i64 0) ∧ Below W1.heap.size W1 w') := hid (by
    have := chkW_any A W1 hw1
    rwa [h0] at this)
  have CT := hid (fun (y : World) (hy : Below W1.heap.size W1 y) => turn_ok A.na A.G A.nc A.L A.Z y hw1.l47 (hw1.below hy).next hE)
  have CI := hid (fun (y : World) (hy : Below W1.heap.size W1 y) => inFair_any A y (hw1.below hy) h0)
  have HE := hid hE
  have HQ := hid (fun (p : Nat → Nat) (hp : Pt A.G A.L A.Z p) (s : Nat) (hs : s < A.G) => fq_iff h0 hp hs)
  have HB1 := hid hb1
  have HBW := hid hbw
  have HBG : Hid (∀ x, Begins A x ↔ ∃ s, s < A.G ∧ FairS A s ∧ RchW (Ego A.G A.L A.Z) x s) := hid (fun x => Iff.rfl)
  generalize Begins A = BG at *
  generalize FairS A = FS1 at *
  obtain ⟨q0, q1, q2, q3⟩ := hbw
  clear hb1 hs1 h h0 hz hfz hE hw1
  obtain ⟨sa, sn, sc, na, G, nc, la, M, lc, fa, K, fc, S, L, Z, Lb, FL, FZ⟩ := A
  dsimp only at *
  go_enter Try.func13, Try.ntmps13
  go_wp2_with fail
  refine C.out.mono ?_
  rintro e w2 ⟨rfl, hb2⟩
  have HB2 := hid hb2
  have C27 := hid (CT.out w2 hb2)
  clear hb2 q0 q1 q2 q3 C CT
  obtain ⟨q0, q1, q2, q3⟩ := HBW.out.below HB2.out
  dsimp only at q0 q1 q2 q3
  go_wp2_with fail
  refine C27.out.mono ?_
  rintro e w3 ⟨rfl, V, hF⟩
  have HB3 := hid (HB2.out.trans (hF.below.mono HB2.out.size))
  have C29 := hid (CI.out w3 HB3.out)
  have HGr : Hid (Gr w3 (some ⟨w2.heap.size, 0, none⟩) G (tL L Z G) (tZ L Z G)) := hid hF.gr'
  have hgz : w2.heap.size < w3.heap.size := hF.size
  clear hF q0 q1 q2 q3 C27 CI
  obtain ⟨q0, q1, q2, q3⟩ := HBW.out.below HB3.out
  dsimp only at q0 q1 q2 q3
  go_wp2_with fail
  refine C29.out.mono ?_
  rintro e w4 ⟨a, n, c, Y, p, rfl, HX⟩
  have HB4 := hid (HB3.out.trans (HX.out.1.mono HB3.out.size))
  have hin : ∀ i, i < n → 0 ≤ Y i ∧ Y i < G := fun i hi => by
    have h1 := HX.out.2.2.2.2.1 i hi
    have h2 : Src n Y (Y i).toNat := by
      unfold Src
      rw [has_iff]
      exact ⟨i, hi, by omega⟩
    have h3 := ((HX.out.2.2.2.2.2 _).1 h2).1
    omega
  have hTE := turn_errG HE.out
  have hF0 : errF G (tL L Z G) (tZ L Z G) n Y = 0 := by
    unfold errF
    rw [if_pos hTE, if_pos (allIn_yes hin)]
  have hTL : ∀ r, r < G → tL L Z G r ≤ 140737488355328 := fun r _ => by
    have := tl_le L Z G r
    show (tl L Z G r).length ≤ _
    omega
  have hnG := HX.out.2.2.1
  have C28 := hid (reach_ok (some ⟨w2.heap.size, 0, none⟩) G G (tL L Z G) (tZ L Z G) a n c Y w4 hTL (by omega) (HGr.out.below HX.out.1) HX.out.2.1 hF0)
  clear q0 q1 q2 q3 C29 hin hTE hF0 hTL
  go_wp2_with fail
  refine C28.out.mono ?_
  rintro e w5 ⟨b, R, rfl, hb5, hlo, hrow, hR⟩
  have HF : Hid (Below w.heap.size w w5 ∧ w.heap.size ≤ b ∧ Mk0 w5 b G BG) := hid ⟨by
      have h1 := HB4.out.trans (hb5.mono HB4.out.size)
      exact HB1.out.trans (h1.mono HB1.out.size), by have := HB1.out.size; have := HB4.out.size; omega, R, hrow, fun x hx => by
      rw [hR x hx, comes_turn HE.out, HBG.out x]
      constructor
      · rintro ⟨s, h1, h2⟩
        have h3 := (HX.out.2.2.2.2.2 s).1 h1
        exact ⟨s, h3.1, (HQ.out p HX.out.2.2.2.1 s h3.1).1 h3.2, h2⟩
      · rintro ⟨s, h1, h2, h3⟩
        exact ⟨s, (HX.out.2.2.2.2.2 s).2 ⟨h1, (HQ.out p HX.out.2.2.2.1 s h1).2 h2⟩, h3⟩⟩
  clear hb5 hlo hrow hR C28 HX
  go_wp2
  go_ret2
  first | exact HF | exact ⟨_, rfl, HF⟩

end Go.Proofs.Ythpbgfodejoecaa

namespace Go.Proofs.Ythpbgfodejoecaa
open Go.RowKit

theorem ego_to {G : Nat} {L : Nat → Nat} {Z : Nat → Nat → Int} {x i : Nat} (hx : x < G) (hi : i < L x) (hz : 0 ≤ Z x i) : Ego G L Z x (Z x i).toNat := ⟨hx, i, hi, by omega⟩

end Go.Proofs.Ythpbgfodejoecaa
