/- Shortest ways, as plain mathematics: how far the next target is, and which nodes the least of the shortest ways goes by. leastWay and Way, by their contracts. What comes in a graph and in the one turned round; two ways. A space that is all there, as a graph.    -/
import Derived.Test.YthpbgfodejoecaaBfs
import Derived.Test.YthpbgfodejoecaaReachJ
import Derived.Test.YthpbgfodejoecaaTurnJ
import Derived.Test.YthpbgfodejoecaaLeafJ
import Derived.Test.YthpbgfodejoecaaSpFaceJ
import Derived.Test.YthpbgfodejoecaaSndLeafJ
import Derived.Test.YthpbgfodejoecaaStepsOf2
import Derived.WalkKit
import Derived.WalkSpells
import Derived.WalkLawsBesides
import Derived.Deep.QuietTactic
import Derived.BigQuiet
import Derived.Below
import Derived.Deep.Heap
import Derived.Test.YthpbgfodejoecaaDist2
import Derived.Test.YthpbgfodejoecaaLast
import Derived.Test.YthpbgfodejoecaaProc
import Derived.Test.YthpbgfodejoecaaProc2
import Derived.Deep.OwnRows
import Derived.Deep.RegionHeld3
import Derived.Deep.WholeRow
import Derived.Deep.MidRow
import Derived.Laws.Bits64b
import Derived.Lib.TrailingZeros
import Derived.Maps.AppendAt
/- Small words that all texts of this seat use. -/
/- Rows of letters and of bools in memory; a word; what Check says of one. -/
/- A world in memory; Check, the program's and the document's. -/
namespace Go.Proofs.Ythpbgfodejoecaa

section
variable {G : Nat} {L : Nat → Nat} {Z : Nat → Nat → Int} {T : Nat → Bool}

/-- One may go from x to y, both of them nodes. -/
def Ego (G : Nat) (L : Nat → Nat) (Z : Nat → Nat → Int) (x y : Nat) : Prop := x < G ∧ ∃ i, i < L x ∧ Z x i = (y : Int)

variable {n : Nat} {Y : Nat → Int} {F : Nat → Int} {len : Nat}

end
end Go.Proofs.Ythpbgfodejoecaa

namespace Go.Proofs.Ythpbgfodejoecaa
open Go.RowKit

/-- Two ways to say which nodes one may go to. -/
theorem ed_ego {G : Nat} {L : Nat → Nat} {Z : Nat → Nat → Int} : Ed G L Z = Ego G L Z := by
  funext x y
  unfold Ed Ego
  rw [has_iff]

theorem src_eq {n : Nat} {Y : Nat → Int} : Src n Y = fun x : Nat => ∃ i, i < n ∧ Y i = (x : Int) := by
  funext x
  unfold Src
  rw [has_iff]

end Go.Proofs.Ythpbgfodejoecaa

namespace Go.Proofs.Ythpbgfodejoecaa
open Go.RowKit

def RchG (E : Nat → Nat → Prop) (a b : Nat) : Prop := ∃ k, Wk (fun x => x = a) E k b

section
variable {E : Nat → Nat → Prop}
theorem RchG.refl (a : Nat) : RchG E a a := ⟨0, rfl⟩
theorem RchG.on {a b c : Nat} (h : RchG E a b) (e : E b c) : RchG E a c := by obtain ⟨k, hk⟩ := h; exact ⟨k + 1, b, hk, e⟩
end

theorem comes_one {G : Nat} {L : Nat → Nat} {Z : Nat → Nat → Int} {a b : Nat} : Comes G L Z 1 (fun _ => (a : Int)) b ↔ RchG (Ego G L Z) a b := by
  unfold Comes RchG
  rw [ed_ego, src_eq]
  have : (fun x : Nat => ∃ i : Nat, i < 1 ∧ (a : Int) = (x : Int)) = fun x => x = a := by
    funext x
    rw [eq_iff_iff]
    constructor
    · rintro ⟨_, _, e⟩; omega
    · intro e; exact ⟨0, by omega, by omega⟩
  rw [this]

section
variable {G : Nat} {L : Nat → Nat} {Z : Nat → Nat → Int}

end

end Go.Proofs.Ythpbgfodejoecaa

namespace Go.Proofs.Ythpbgfodejoecaa
open Go.RowKit Go.Maps

def mY (marks : List (List Int)) (i : Nat) : Nat → Int := fnl (marks.getD i [])

/-- What is wanted of a space. -/
structure Sok (N F : Nat) (l : List St3) (marks : List (List Int)) (nexts : List (List (Int × Int))) : Prop where
  len : nexts.length = marks.length
  pos : 0 < marks.length
  few : marks.length ≤ 200
  lfew : l.length ≤ 60
  F30 : F ≤ 30
  N20 : N ≤ 20
  small : ∀ r, r < marks.length → snL nexts r ≤ l.length
  stp : ∀ r, r < marks.length → ∀ i, i < snL nexts r → 0 ≤ snS nexts r i ∧ snS nexts r i < l.length
  tos : errG marks.length (snL nexts) (snZ nexts) = 0
  all : ∀ m, m < marks.length → Comes marks.length (snL nexts) (snZ nexts) 1 (fun _ => (0 : Int)) m
  one : ∀ i k, i < marks.length → k < marks.length → zB F (mY marks i) = true → zB F (mY marks k) = true → i = k
  nodes : ∀ s, s < l.length → 0 ≤ (l.getD s (0, 0, 0)).1 ∧ (l.getD s (0, 0, 0)).1 < N

theorem fl_in {X : Nat → Int} {x y : Int} : ∀ {n}, y ∈ fl X x n → 0 ≤ y ∧ y < n
  | 0, h => by cases h
  | n + 1, h => by
    by_cases e : X n = x
    · rw [fl_hit e] at h
      rcases List.mem_append.1 h with h | h
      · have := fl_in h
        omega
      · have := List.mem_singleton.1 h
        omega
    · rw [fl_miss e] at h
      have := fl_in h
      omega

theorem st_nodes {K A B : Nat → Int} {F N : Nat} : ∀ s, s < (stAll K A B F N).length → 0 ≤ ((stAll K A B F N).getD s (0, 0, 0)).1 ∧ ((stAll K A B F N).getD s (0, 0, 0)).1 < N := by
  intro s hs
  obtain ⟨k, hk, hm⟩ := mem_stAll.1 (getD3_mem hs)
  rw [stK_node hm]
  omega

theorem sok_of {N F : Nat} {M : Nat → ByteArray} {K A B : Nat → Int} {e0 tk st : Int} {X : List Int → Nat → Int} (he : ChkIs N F M K A B e0) (hX : XOk K A B F (stAll K A B F N) X) (h : xE (spE e0 (stAll K A B F N).length) tk st (xall tk st K A B F (stAll K A B F N) X) = 0) :
    Sok N F (stAll K A B F N) (xM (spE e0 (stAll K A B F N).length) tk st (xall tk st K A B F (stAll K A B F N) X)) (xN (spE e0 (stAll K A B F N).length) tk st (xall tk st K A B F (stAll K A B F N) X)) := by
  obtain ⟨hE, hb, T, h3, h4, h5, h6, h7⟩ := x_ok h
  obtain ⟨rfl, hfew⟩ := spE_zero hE
  have hl := steps_lt he
  obtain ⟨_, T', g4, g5, g7, g8, _, g9, g10, g11, g12, g13, g14⟩ := x_counts hX (fun _ => hl) h
  rw [h4] at g4
  rw [h5] at g5
  rw [h4, h5]
  rw [← g4] at g7 g8 g9 g10 g11 g13 g14
  rw [← g5] at g7 g12 g13 g14
  have hZ : ∀ r, r < T.marks.length → ∀ i, i < snL T.nexts r → 0 ≤ snZ T.nexts r i ∧ snZ T.nexts r i < T.marks.length := fun r hr i hi => by
    obtain ⟨k, h1, h2⟩ := g13 r (by omega) _ (getD2_mem hi)
    unfold snZ
    rw [h1]
    omega
  refine ⟨h7, g9, g8, hfew, (chk_zero he).1.2, (chk_zero he).1.1, fun r hr => g12 r (by omega), fun r hr i hi => ?_, errG_ok (by omega) (okG_yes (fun r hr => allIn_yes (fun i hi => hZ r hr i hi))), ?_, ?_, st_nodes⟩
  · have hr' : r < T.nexts.length := by omega
    obtain ⟨h8, _⟩ := h6.edges r (T.nexts.getD r []) (T.marks.getD r []) (by rw [List.getD_eq_getElem?_getD, List.getElem?_eq_getElem hr']; rfl) (by rw [List.getD_eq_getElem?_getD, List.getElem?_eq_getElem hr]; rfl)
    have hm : snS T.nexts r i ∈ (T.nexts.getD r []).map Prod.fst := List.mem_map.2 ⟨_, getD2_mem hi, rfl⟩
    rw [h8] at hm
    exact fl_in hm
  · have key : ∀ n m, m < n → m < T.marks.length → RchG (Ego T.marks.length (snL T.nexts) (snZ T.nexts)) 0 m := by
      intro n
      induction n with
      | zero => intro m hm; omega
      | succ n ih =>
        intro m hm hmG
        by_cases e : m = 0
        · subst e
          exact RchG.refl _
        · obtain ⟨q, e', h8, h9, h10⟩ := g14 m (by omega) hmG
          obtain ⟨i, hi, ei⟩ := List.mem_iff_getElem.1 h9
          refine (ih q (by omega) (by omega)).on ⟨by omega, i, hi, ?_⟩
          unfold snZ
          rw [List.getD_eq_getElem?_getD, List.getElem?_eq_getElem hi, ei]
          exact h10
    intro m hm
    have := comes_one.2 (key (m + 1) m (by omega) hm)
    exact this
  · intro i k hi hk h8 h9
    rcases Nat.lt_trichotomy i k with h10 | h10 | h10
    · have := marks_ne g10 (fun m hm => (g11 m hm).1) h10 hk
      rw [same_yes rfl (fun j hj => by rw [show fnl (T.marks.getD i []) j = 0 from zB_iff.1 h8 j hj, show fnl (T.marks.getD k []) j = 0 from zB_iff.1 h9 j hj])] at this
      cases this
    · exact h10
    · have := marks_ne g10 (fun m hm => (g11 m hm).1) h10 hi
      rw [same_yes rfl (fun j hj => by rw [show fnl (T.marks.getD i []) j = 0 from zB_iff.1 h8 j hj, show fnl (T.marks.getD k []) j = 0 from zB_iff.1 h9 j hj])] at this
      cases this

end Go.Proofs.Ythpbgfodejoecaa

namespace Go.Proofs.Ythpbgfodejoecaa
open Go.RowKit

theorem below_cell {B : Nat} {w w' : World} {p : Addr} {v : Value} (hb : Below B w w') (hB : w.heap.size ≤ B) (h : w.cell? p = some v) : w'.cell? p = some v := by
  rw [hb.cell (Nat.lt_of_lt_of_le (World.block_lt_of_cell? _ _ h) hB)]
  exact h

theorem below_drewN {B : Nat} {a w : World} (h : Below B a w) (n : Nat) : Below B a (w.drewN n) := ⟨h.os, h.tape, h.output, h.size, h.block⟩

end Go.Proofs.Ythpbgfodejoecaa

namespace Go.Proofs.Ythpbgfodejoecaa
open Go.RowKit

/-- In w the slice at a, of n cells, holds the letters Z. -/
def RowU (w : World) (a : Option Addr) (n : Nat) (Z : Nat → Int) : Prop :=
  ∃ b o, (0 < n → a = some ⟨b, o, none⟩) ∧ ∀ i, i < n → w.cell? ⟨b, o + i, none⟩ = some (.int .u64 (Z i))

theorem RowU.below {w w' : World} {a : Option Addr} {n : Nat} {Z : Nat → Int} (h : RowU w a n Z) (hb : Below w.heap.size w w') : RowU w' a n Z := by
  obtain ⟨b, o, h1, h2⟩ := h
  exact ⟨b, o, h1, fun i hi => below_cell hb (Nat.le_refl _) (h2 i hi)⟩
end Go.Proofs.Ythpbgfodejoecaa

namespace Go.Proofs.Ythpbgfodejoecaa
open Go.RowKit

structure Wx where
  (sa : Option Addr) (sn sc : Nat) (na : Option Addr) (G nc : Nat) (la : Option Addr) (M lc : Nat) (fa : Option Addr) (K fc : Nat)
  (S : Nat → Int) (L : Nat → Nat) (Z : Nat → Nat → Int) (Lb : Nat → Nat) (FL : Nat → Nat) (FZ : Nat → Nat → Int)

structure Ww (w : World) (A : Wx) : Prop where
  start : Row w A.sa A.sn A.S
  next : Gr w A.na A.G A.L A.Z
  label : RowU w A.la A.M (fun i => (A.Lb i : Int))
  fair : Gr w A.fa A.K A.FL A.FZ
  s47 : A.sn ≤ 140737488355328
  g47 : A.G ≤ 140737488355328
  l47 : ∀ r, r < A.G → A.L r ≤ 140737488355328
  m47 : A.M ≤ 140737488355328
  k47 : A.K ≤ 140737488355328
  f47 : ∀ r, r < A.K → A.FL r ≤ 140737488355328
  lb : ∀ i, i < A.M → A.Lb i < 18446744073709551616

theorem Ww.below {w w' : World} {A : Wx} (h : Ww w A) (hb : Below w.heap.size w w') : Ww w' A :=
  ⟨h.start.below hb, h.next.below hb, h.label.below hb, h.fair.below hb, h.s47, h.g47, h.l47, h.m47, h.k47, h.f47, h.lb⟩

/-- A world's box. -/
structure Bw (w : World) (b : Nat) (A : Wx) : Prop where
  r0 : w.cell? ⟨b, 0, none⟩ = some (.slice A.sa A.sn A.sc)
  r1 : w.cell? ⟨b, 1, none⟩ = some (.slice A.na A.G A.nc)
  r2 : w.cell? ⟨b, 2, none⟩ = some (.slice A.la A.M A.lc)
  r3 : w.cell? ⟨b, 3, none⟩ = some (.slice A.fa A.K A.fc)
theorem Bw.below {w w' : World} {b : Nat} {A : Wx} (h : Bw w b A) (hb : Below w.heap.size w w') : Bw w' b A :=
  ⟨below_cell hb (Nat.le_refl _) h.r0, below_cell hb (Nat.le_refl _) h.r1, below_cell hb (Nat.le_refl _) h.r2, below_cell hb (Nat.le_refl _) h.r3⟩
theorem boxw (w : World) (A : Wx) : ∃ W, w.alloc (.cells #[.slice A.sa A.sn A.sc, .slice A.na A.G A.nc, .slice A.la A.M A.lc, .slice A.fa A.K A.fc] 30) = W ∧ Below w.heap.size w W ∧ W.heap.size = w.heap.size + 1 ∧ Bw W w.heap.size A :=
  ⟨_, rfl, box_below _ _, by simp, ⟨cell_of_alloc rfl, cell_of_alloc rfl, cell_of_alloc rfl, cell_of_alloc rfl⟩⟩

end Go.Proofs.Ythpbgfodejoecaa
