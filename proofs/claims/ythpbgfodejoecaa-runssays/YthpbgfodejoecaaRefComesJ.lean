/- watchref.Comes, by its contract. dead: the nodes of which no edge has a step. stepsTo: the steps of a shortest way. A space that is all there, as a graph.  -/
import Derived.Test.YthpbgfodejoecaaDist2J
import Derived.Test.YthpbgfodejoecaaProc5J
import Derived.Test.YthpbgfodejoecaaStepsOfJ
import Derived.Test.YthpbgfodejoecaaWaysJ
import Derived.Test.YthpbgfodejoecaaSpFaceJ
import Derived.WalkKit
import Derived.WalkSpells
import Derived.WalkLawsBesides
import Derived.Deep.QuietTactic
import Derived.BigQuiet
import Derived.Below
import Derived.Deep.Heap
import Derived.Test.YthpbgfodejoecaaBfsJ
import Derived.Test.YthpbgfodejoecaaDistJ
import Derived.Test.YthpbgfodejoecaaLeafJ
import Derived.Test.YthpbgfodejoecaaProc
import Derived.Test.YthpbgfodejoecaaProc2
/- Small words that all texts of this seat use. -/
namespace Go.Proofs.Ythpbgfodejoecaa
open Go.RowKit

/-- How many of the first n are not true. -/
def cntR (O : Nat → Bool) : Nat → Nat
  | 0 => 0
  | n + 1 => cntR O n + if O n = true then 0 else 1
def mark (O : Nat → Bool) (x : Nat) : Nat → Bool := fun y => if y = x then true else O y

theorem mark_at (O : Nat → Bool) (x : Nat) : mark O x x = true := by simp [mark]
theorem mark_up {O : Nat → Bool} {x y : Nat} (h : O y = true) : mark O x y = true := by unfold mark; split <;> first | rfl | exact h
theorem cntB_congr {O O' : Nat → Bool} {n : Nat} (h : ∀ x, x < n → O x = O' x) : cntR O n = cntR O' n := by
  induction n with
  | zero => rfl
  | succ n ih =>
    simp only [cntR]
    rw [ih (fun x hx => h x (by omega)), h n (by omega)]
theorem cntB_mark_le (O : Nat → Bool) (x : Nat) : ∀ n, cntR (mark O x) n ≤ cntR O n
  | 0 => Nat.le_refl _
  | n + 1 => by
    have := cntB_mark_le O x n
    simp only [cntR]
    by_cases e : O n = true
    · rw [if_pos e, if_pos (mark_up e)]; omega
    · rw [if_neg e]; split <;> omega
theorem cntB_mark_lt {O : Nat → Bool} {x : Nat} (hx : O x = false) : ∀ n, x < n → cntR (mark O x) n < cntR O n
  | n + 1, h => by
    simp only [cntR]
    by_cases e : n = x
    · subst e
      have := cntB_mark_le O n n
      rw [if_pos (mark_at O n), if_neg (by rw [hx]; exact Bool.false_ne_true)]
      omega
    · have := cntB_mark_lt hx n (by omega)
      have e2 : mark O x n = O n := by simp [mark, e]
      rw [e2]
      omega

def isT : Value → Bool
  | .bool b => b
  | _ => false
def isTO : Option Value → Bool
  | some v => isT v
  | none => false
/-- How many of the block's first n cells are not true. -/
def cntW (b : Nat) (wr : World) : Nat → Nat
  | 0 => 0
  | n + 1 => cntW b wr n + if isTO (wr.cell? ⟨b, n, none⟩) = true then 0 else 1
structure Cw (w wr : World) (G : Nat) (O : Nat → Bool) : Prop where
  below : Below w.heap.size w wr
  row : wr.rowIs w.heap.size 4 G (fun x => .bool (O x))

theorem Cw.mark {w wr : World} {G : Nat} {O : Nat → Bool} (h : Cw w wr G O) (x : Nat) : Cw w (wr.setCell ⟨w.heap.size, x, none⟩ (.bool true)) G (mark O x) :=
  ⟨h.below.setCell (Nat.le_refl _) _, (h.row.set x _).congr (fun y _ => by unfold Ythpbgfodejoecaa.mark; split <;> rfl)⟩
theorem Cw.congr {w wr : World} {G : Nat} {O O' : Nat → Bool} (h : Cw w wr G O) (e : ∀ x, x < G → O x = O' x) : Cw w wr G O' := ⟨h.below, h.row.congr (fun x hx => by rw [e x hx])⟩

theorem Cw.cnt {w wr : World} {G : Nat} {O : Nat → Bool} (h : Cw w wr G O) : cntW w.heap.size wr G = cntR O G := by
  have : ∀ n, n ≤ G → cntW w.heap.size wr n = cntR O n := by
    intro n
    induction n with
    | zero => intro _; rfl
    | succ n ih =>
      intro hn
      simp only [cntW, cntR]
      rw [ih (by omega), h.row.cell (i := n) (by omega)]
      cases O n <;> rfl
  exact this G (Nat.le_refl _)
/-- Nothing but what comes, and the sources. -/
def CmR (G : Nat) (L : Nat → Nat) (Z : Nat → Nat → Int) (n : Nat) (Y : Nat → Int) (O : Nat → Bool) : Prop := (∀ x, x < G → Src n Y x → O x = true) ∧ (∀ x, x < G → O x = true → Comes G L Z n Y x)
/-- Closed at the first k nodes. -/
def Clo (L : Nat → Nat) (Z : Nat → Nat → Int) (O : Nat → Bool) (k : Nat) : Prop := ∀ a, a < k → O a = true → ∀ i, i < L a → O (Z a i).toNat = true
def Stc (G : Nat) (L : Nat → Nat) (Z : Nat → Nat → Int) (O O' : Nat → Bool) (m : Bool) (k : Nat) : Prop := (m = false ∧ (∀ x, x < G → O' x = O x) ∧ Clo L Z O k) ∨ (m = true ∧ cntR O' G < cntR O G)
def Stc2 (G : Nat) (L : Nat → Nat) (Z : Nat → Nat → Int) (O O' : Nat → Bool) (m : Bool) (k j : Nat) : Prop := (m = false ∧ (∀ x, x < G → O' x = O x) ∧ Clo L Z O k ∧ ∀ i, i < j → O (Z k i).toNat = true) ∨ (m = true ∧ cntR O' G < cntR O G)

section
variable {G : Nat} {L : Nat → Nat} {Z : Nat → Nat → Int} {n : Nat} {Y : Nat → Int} {O O' : Nat → Bool}
theorem comes_step {x y : Nat} (h : Comes G L Z n Y x) (e : Ed G L Z x y) : Comes G L Z n Y y := by
  obtain ⟨k, hk⟩ := h
  exact ⟨k + 1, x, hk, e⟩
theorem CmR.mark (h : CmR G L Z n Y O) {k t : Nat} (hk : k < G) (hO : O k = true) (e : Ed G L Z k t) : CmR G L Z n Y (mark O t) :=
  ⟨fun x hx hs => mark_up (h.1 x hx hs), fun x hx hm => by
    by_cases e2 : x = t
    · subst e2; exact comes_step (h.2 k hk hO) e
    · exact h.2 x hx (by unfold Ythpbgfodejoecaa.mark at hm; rwa [if_neg e2] at hm)⟩

theorem CmR.done (hZ : ∀ x, x < G → ∀ i, i < L x → 0 ≤ Z x i ∧ Z x i < G) (hY : ∀ i, i < n → 0 ≤ Y i ∧ Y i < G) (h : CmR G L Z n Y O) (hc : Clo L Z O G) (x : Nat) (hx : x < G) : O x = true ↔ Comes G L Z n Y x := by
  refine ⟨h.2 x hx, ?_⟩
  rintro ⟨k, hk⟩
  have : ∀ k x, Wk (Src n Y) (Ed G L Z) k x → x < G ∧ O x = true := by
    intro k
    induction k with
    | zero =>
      intro x hs
      obtain ⟨i, hi, e⟩ := has_iff.1 (show has n Y x = true from hs)
      have := hY i hi
      have hxG : x < G := by omega
      exact ⟨hxG, h.1 x hxG hs⟩
    | succ k ih =>
      rintro x ⟨y, hy, hyG, he⟩
      obtain ⟨i, hi, e⟩ := has_iff.1 he
      have h1 := hZ y hyG i hi
      have h2 := hc y hyG (ih y hy).2 i hi
      rw [e] at h2 h1
      exact ⟨by omega, by simpa using h2⟩
  exact (this k x hk).2

theorem Stc.start : Stc G L Z O O false 0 := Or.inl ⟨rfl, fun _ _ => rfl, fun a ha => by omega⟩
/-- Leaving at the list's end. -/
theorem Stc2.leave {m : Bool} {k : Nat} (h : Stc2 G L Z O O' m k (L k)) : Stc G L Z O O' m (k + 1) := by
  rcases h with ⟨a, b, c, d⟩ | h
  · refine Or.inl ⟨a, b, fun x hx hO i hi => ?_⟩
    by_cases e : x = k
    · subst e; exact d i hi
    · exact c x (by omega) hO i hi
  · exact Or.inr h
theorem Stc2.grow {k j t : Nat} (h : Stc2 G L Z O O' true k j) : Stc2 G L Z O (mark O' t) true k (j + 1) := by
  rcases h with ⟨a, _⟩ | ⟨_, h⟩
  · cases a
  · exact Or.inr ⟨rfl, by have := cntB_mark_le O' t G; omega⟩
theorem Stc2.new {k j t : Nat} (ht : t < G) (h : Stc2 G L Z O O' false k j) (h0 : O' t = false) : Stc2 G L Z O (mark O' t) true k (j + 1) := by
  rcases h with ⟨_, b, _⟩ | ⟨a, _⟩
  · refine Or.inr ⟨rfl, ?_⟩
    rw [← cntB_congr b]
    exact cntB_mark_lt h0 G ht
  · cases a
theorem Stc2.old {k j t : Nat} (ht : t < G) (hZ : Z k j = t) (h : Stc2 G L Z O O' false k j) (h1 : O' t = true) : Stc2 G L Z O (mark O' t) false k (j + 1) := by
  rcases h with ⟨a, b, c, d⟩ | ⟨a, _⟩
  · refine Or.inl ⟨a, fun x hx => ?_, c, fun i hi => ?_⟩
    · rw [← b x hx]
      unfold mark
      split
      · next e => subst e; exact h1.symm
      · rfl
    · by_cases e : i = j
      · subst e; rw [hZ, ← b _ (by simpa using ht)]; simpa using h1
      · exact d i (by omega)
  · cases a
end

def SrcTo (G : Nat) (Y : Nat → Int) (k : Nat) (O : Nat → Bool) : Prop := ∀ x, x < G → (O x = true ↔ ∃ i, i < k ∧ Y i = (x : Int))

theorem SrcTo.next {G : Nat} {Y : Nat → Int} {k : Nat} {O : Nat → Bool} {t : Nat} (h : SrcTo G Y k O) (hy : Y k = t) : SrcTo G Y (k + 1) (mark O t) := fun x hx => by
  unfold mark
  by_cases e : x = t
  · subst e
    rw [if_pos rfl]
    exact ⟨fun _ => ⟨k, by omega, hy⟩, fun _ => rfl⟩
  · rw [if_neg e, h x hx]
    constructor
    · rintro ⟨i, hi, ei⟩; exact ⟨i, by omega, ei⟩
    · rintro ⟨i, hi, ei⟩
      refine ⟨i, ?_, ei⟩
      by_cases e2 : i = k
      · subst e2; rw [hy] at ei; omega
      · omega
end Go.Proofs.Ythpbgfodejoecaa

namespace Go.Proofs.Ythpbgfodejoecaa
open Go.RowKit

theorem Cw.alloc {w wr : World} {G : Nat} {O : Nat → Bool} (h : Cw w wr G O) (o : Obj) : Cw w (wr.alloc o) G O := ⟨h.below.alloc h.below.size o, h.row.alloc o⟩

/-- Which nodes have a step at an edge: those of the markings below r, and the first k of the r-th one. -/
def DoesIs (N : Nat) (L : Nat → Nat) (S : Nat → Nat → Int) (T : Nat → St3) (r k : Nat) (D : Nat → Bool) : Prop :=
  ∀ i, i < N → (D i = true ↔ ∃ p q, q < L p ∧ (p < r ∨ (p = r ∧ q < k)) ∧ (T (S p q).toNat).1 = (i : Int))

section
variable {N : Nat} {L : Nat → Nat} {S : Nat → Nat → Int} {T : Nat → St3} {r k : Nat} {D : Nat → Bool}

end

def ddX (D : Nat → Bool) (K : Nat → Int) (i : Nat) : Int := if D i = true ∨ K i = 1 then 0 else 1

/-- The nodes that never do anything. -/
def DeadIs (N G : Nat) (L : Nat → Nat) (S : Nat → Nat → Int) (T : Nat → St3) (K : Nat → Int) (l : List Int) : Prop := ∃ D, DoesIs N L S T G 0 D ∧ l = fl (ddX D K) 1 N

theorem fl_same {X Y : Nat → Int} {x : Int} : ∀ {n}, (∀ i, i < n → X i = Y i) → fl X x n = fl Y x n
  | 0, _ => rfl
  | n + 1, h => by
    have := fl_same (x := x) (n := n) (fun i hi => h i (by omega))
    simp only [fl, this, h n (by omega)]

theorem DeadIs.uniq {N G : Nat} {L : Nat → Nat} {S : Nat → Nat → Int} {T : Nat → St3} {K : Nat → Int} {l l' : List Int} (h : DeadIs N G L S T K l) (h' : DeadIs N G L S T K l') : l = l' := by
  obtain ⟨D, h1, rfl⟩ := h
  obtain ⟨D', h1', rfl⟩ := h'
  refine fl_same (fun i hi => ?_)
  have : D i = D' i := by rw [Bool.eq_iff_iff, h1 i hi, h1' i hi]
  unfold ddX
  rw [this]

end Go.Proofs.Ythpbgfodejoecaa

namespace Go.Proofs.Ythpbgfodejoecaa
open Go.RowKit

/-- The steps along a way: the first edge from each to the next one. -/
def stpL (L : Nat → Nat) (S Z : Nat → Nat → Int) (wy : Nat → Int) (k : Nat) : List Int := lst k (fun i => lsE (S (wy i).toNat) (Z (wy i).toNat) (wy (i + 1)) (L (wy i).toNat))
theorem stpL_len (L : Nat → Nat) (S Z : Nat → Nat → Int) (wy : Nat → Int) (k : Nat) : (stpL L S Z wy k).length = k := lst_len _ _

def tgB (m x : Nat) : Bool := decide (x = m)
/-- The nodes of the way. -/
def wyN (G : Nat) (L : Nat → Nat) (Z : Nat → Nat → Int) (m len : Nat) : Nat → Int := nd L Z 1 (fun _ => 0) (byLev G L Z (tgB m) len)

/-- The steps that lead there. -/
def ToIs (G : Nat) (L : Nat → Nat) (S Z : Nat → Nat → Int) (mk : Int) (l : List Int) : Prop :=
  (mk = -1 ∧ l = []) ∨ (∃ (m : Nat) (F : Nat → Int) (len : Nat), mk = m ∧ m < G ∧ Near G L Z (tgB m) 1 (fun _ => 0) F len ∧ l = stpL L S Z (wyN G L Z m len) len)

theorem ToIs.uniq {G : Nat} {L : Nat → Nat} {S Z : Nat → Nat → Int} {mk : Int} {l l' : List Int} (h : ToIs G L S Z mk l) (h' : ToIs G L S Z mk l') : l = l' := by
  rcases h with ⟨h1, h2⟩ | ⟨m, F, len, h1, h2, h3, h4⟩
  · rcases h' with ⟨g1, g2⟩ | ⟨m', F', len', g1, g2, g3, g4⟩
    · rw [h2, g2]
    · omega
  · rcases h' with ⟨g1, g2⟩ | ⟨m', F', len', g1, g2, g3, g4⟩
    · omega
    · have : m = m' := by omega
      subst this
      have := h3.same g3
      subst this
      rw [h4, g4]

theorem ToIs.len {G : Nat} {L : Nat → Nat} {S Z : Nat → Nat → Int} {mk : Int} {l : List Int} (h : ToIs G L S Z mk l) : l.length ≤ G := by
  rcases h with ⟨h1, rfl⟩ | ⟨m, F, len, h1, h2, h3, rfl⟩
  · exact Nat.zero_le _
  · rw [stpL_len]
    have := h3.lenG
    omega

end Go.Proofs.Ythpbgfodejoecaa

namespace Go.Proofs.Ythpbgfodejoecaa
open Go.RowKit Go.Maps

def mY (marks : List (List Int)) (i : Nat) : Nat → Int := fnl (marks.getD i [])

/-- What is wanted of a space. -/
structure Sok (N F : Nat) (l : List St3) (marks : List (List Int)) (nexts : List (List (Int × Int))) : Prop where
  len : nexts.length = marks.length
  pos : 0 < marks.length
  few : marks.length ≤ 200
  lfew : l.length ≤ 60
  F30 : F ≤ 30
  N20 : N ≤ 20
  small : ∀ r, r < marks.length → snL nexts r ≤ l.length
  stp : ∀ r, r < marks.length → ∀ i, i < snL nexts r → 0 ≤ snS nexts r i ∧ snS nexts r i < l.length
  tos : errG marks.length (snL nexts) (snZ nexts) = 0
  all : ∀ m, m < marks.length → Comes marks.length (snL nexts) (snZ nexts) 1 (fun _ => (0 : Int)) m
  one : ∀ i k, i < marks.length → k < marks.length → zB F (mY marks i) = true → zB F (mY marks k) = true → i = k
  nodes : ∀ s, s < l.length → 0 ≤ (l.getD s (0, 0, 0)).1 ∧ (l.getD s (0, 0, 0)).1 < N

theorem fl_in {X : Nat → Int} {x y : Int} : ∀ {n}, y ∈ fl X x n → 0 ≤ y ∧ y < n
  | 0, h => by cases h
  | n + 1, h => by
    by_cases e : X n = x
    · rw [fl_hit e] at h
      rcases List.mem_append.1 h with h | h
      · have := fl_in h
        omega
      · have := List.mem_singleton.1 h
        omega
    · rw [fl_miss e] at h
      have := fl_in h
      omega

theorem st_nodes {K A B : Nat → Int} {F N : Nat} : ∀ s, s < (stAll K A B F N).length → 0 ≤ ((stAll K A B F N).getD s (0, 0, 0)).1 ∧ ((stAll K A B F N).getD s (0, 0, 0)).1 < N := by
  intro s hs
  obtain ⟨k, hk, hm⟩ := mem_stAll.1 (getD3_mem hs)
  rw [stK_node hm]
  omega

theorem sok_of {N F : Nat} {M : Nat → ByteArray} {K A B : Nat → Int} {e0 tk st : Int} {X : List Int → Nat → Int} (he : ChkIs N F M K A B e0) (hX : XOk K A B F (stAll K A B F N) X) (h : xE (spE e0 (stAll K A B F N).length) tk st (xall tk st K A B F (stAll K A B F N) X) = 0) :
    Sok N F (stAll K A B F N) (xM (spE e0 (stAll K A B F N).length) tk st (xall tk st K A B F (stAll K A B F N) X)) (xN (spE e0 (stAll K A B F N).length) tk st (xall tk st K A B F (stAll K A B F N) X)) := by
  obtain ⟨hE, hb, T, h3, h4, h5, h6, h7⟩ := x_ok h
  obtain ⟨rfl, hfew⟩ := spE_zero hE
  have hl := steps_lt he
  obtain ⟨_, T', g4, g5, g7, g8, _, g9, g10, g11, g12, g13, g14⟩ := x_counts hX (fun _ => hl) h
  rw [h4] at g4
  rw [h5] at g5
  rw [h4, h5]
  rw [← g4] at g7 g8 g9 g10 g11 g13 g14
  rw [← g5] at g7 g12 g13 g14
  have hZ : ∀ r, r < T.marks.length → ∀ i, i < snL T.nexts r → 0 ≤ snZ T.nexts r i ∧ snZ T.nexts r i < T.marks.length := fun r hr i hi => by
    obtain ⟨k, h1, h2⟩ := g13 r (by omega) _ (getD2_mem hi)
    unfold snZ
    rw [h1]
    omega
  refine ⟨h7, g9, g8, hfew, (chk_zero he).1.2, (chk_zero he).1.1, fun r hr => g12 r (by omega), fun r hr i hi => ?_, errG_ok (by omega) (okG_yes (fun r hr => allIn_yes (fun i hi => hZ r hr i hi))), ?_, ?_, st_nodes⟩
  · have hr' : r < T.nexts.length := by omega
    obtain ⟨h8, _⟩ := h6.edges r (T.nexts.getD r []) (T.marks.getD r []) (by rw [List.getD_eq_getElem?_getD, List.getElem?_eq_getElem hr']; rfl) (by rw [List.getD_eq_getElem?_getD, List.getElem?_eq_getElem hr]; rfl)
    have hm : snS T.nexts r i ∈ (T.nexts.getD r []).map Prod.fst := List.mem_map.2 ⟨_, getD2_mem hi, rfl⟩
    rw [h8] at hm
    exact fl_in hm
  · have key : ∀ n m, m < n → m < T.marks.length → RchG (Ego T.marks.length (snL T.nexts) (snZ T.nexts)) 0 m := by
      intro n
      induction n with
      | zero => intro m hm; omega
      | succ n ih =>
        intro m hm hmG
        by_cases e : m = 0
        · subst e
          exact RchG.refl _
        · obtain ⟨q, e', h8, h9, h10⟩ := g14 m (by omega) hmG
          obtain ⟨i, hi, ei⟩ := List.mem_iff_getElem.1 h9
          refine (ih q (by omega) (by omega)).on ⟨by omega, i, hi, ?_⟩
          unfold snZ
          rw [List.getD_eq_getElem?_getD, List.getElem?_eq_getElem hi, ei]
          exact h10
    intro m hm
    have := comes_one.2 (key (m + 1) m (by omega) hm)
    exact this
  · intro i k hi hk h8 h9
    rcases Nat.lt_trichotomy i k with h10 | h10 | h10
    · have := marks_ne g10 (fun m hm => (g11 m hm).1) h10 hk
      rw [same_yes rfl (fun j hj => by rw [show fnl (T.marks.getD i []) j = 0 from zB_iff.1 h8 j hj, show fnl (T.marks.getD k []) j = 0 from zB_iff.1 h9 j hj])] at this
      cases this
    · exact h10
    · have := marks_ne g10 (fun m hm => (g11 m hm).1) h10 hi
      rw [same_yes rfl (fun j hj => by rw [show fnl (T.marks.getD i []) j = 0 from zB_iff.1 h8 j hj, show fnl (T.marks.getD k []) j = 0 from zB_iff.1 h9 j hj])] at this
      cases this

/-- What is found in a space. -/
structure FdIs (N F : Nat) (K : Nat → Int) (l : List St3) (marks : List (List Int)) (nexts : List (List (Int × Int))) (d : List Int) (r1 r2 : Int) (l1 l2 : List Int) : Prop where
  dead : DeadIs N marks.length (snL nexts) (snS nexts) (fun i => l.getD i (0, 0, 0)) K d
  still : FstIs (fun i => snL nexts i = 0 ∧ zB F (mY marks i) = false) marks.length r1
  never : FstIs (NvP marks.length F (snL nexts) (snZ nexts) (mY marks)) marks.length r2
  toStill : ToIs marks.length (snL nexts) (snS nexts) (snZ nexts) r1 l1
  toNever : ToIs marks.length (snL nexts) (snS nexts) (snZ nexts) r2 l2

theorem FdIs.uniq {N F : Nat} {K : Nat → Int} {l : List St3} {marks : List (List Int)} {nexts : List (List (Int × Int))} {d d' : List Int} {r1 r2 r1' r2' : Int} {l1 l2 l1' l2' : List Int} (h : FdIs N F K l marks nexts d r1 r2 l1 l2) (h' : FdIs N F K l marks nexts d' r1' r2' l1' l2') : d = d' ∧ r1 = r1' ∧ r2 = r2' ∧ l1 = l1' ∧ l2 = l2' := by
  have e1 := h.still.uniq h'.still
  have e2 := h.never.uniq h'.never
  subst e1
  subst e2
  exact ⟨h.dead.uniq h'.dead, rfl, rfl, h.toStill.uniq h'.toStill, h.toNever.uniq h'.toNever⟩

end Go.Proofs.Ythpbgfodejoecaa

namespace Go.Proofs.Ythpbgfodejoecaa
open Go.RowKit

theorem below_cell {B : Nat} {w w' : World} {p : Addr} {v : Value} (hb : Below B w w') (hB : w.heap.size ≤ B) (h : w.cell? p = some v) : w'.cell? p = some v := by
  rw [hb.cell (Nat.lt_of_lt_of_le (World.block_lt_of_cell? _ _ h) hB)]
  exact h

theorem below_drewN {B : Nat} {a w : World} (h : Below B a w) (n : Nat) : Below B a (w.drewN n) := ⟨h.os, h.tape, h.output, h.size, h.block⟩

/-- All blocks but one are as they were; nothing else of the world has changed. -/
structure But (b : Nat) (w w' : World) : Prop where
  os : w'.os = w.os
  tape : w'.tape = w.tape
  output : w'.output = w.output
  size : w.heap.size ≤ w'.heap.size
  block : ∀ k, k < w.heap.size → k ≠ b → w'.heap[k]? = w.heap[k]?

theorem But.refl (b : Nat) (w : World) : But b w w := ⟨rfl, rfl, rfl, Nat.le_refl _, fun _ _ _ => rfl⟩
theorem But.trans {b : Nat} {u v w : World} (h : But b u v) (k : But b v w) : But b u w :=
  ⟨k.os.trans h.os, k.tape.trans h.tape, k.output.trans h.output, Nat.le_trans h.size k.size, fun i h1 h2 => (k.block i (Nat.lt_of_lt_of_le h1 h.size) h2).trans (h.block i h1 h2)⟩
theorem But.setCell {b : Nat} {u w : World} (h : But b u w) (i : Nat) (v : Value) : But b u (w.setCell ⟨b, i, none⟩ v) :=
  h.trans ⟨rfl, rfl, rfl, by simp [World.setCell], fun k _ hk => Go.Deep.blk_setCell_other _ _ _ _ hk⟩
theorem But.below {b B : Nat} {w w' : World} (h : But b w w') (h1 : B ≤ b) (h2 : B ≤ w.heap.size) : Below B w w' := ⟨h.os, h.tape, h.output, h.size, fun k hk => h.block k (by omega) (by omega)⟩
theorem But.cell {b : Nat} {w w' : World} (h : But b w w') {p : Addr} {v : Value} (hp : p.block ≠ b) (hv : w.cell? p = some v) : w'.cell? p = some v := by
  rw [World.cell?_of_block (w := w) (h.block p.block (World.block_lt_of_cell? _ _ hv) hp)]
  exact hv

end Go.Proofs.Ythpbgfodejoecaa
