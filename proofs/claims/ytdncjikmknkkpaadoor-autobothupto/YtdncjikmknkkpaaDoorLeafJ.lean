/- The leaves: In, areNodes, endsWith, Index, Contains, Goes, Equal, each by its contract. Graphs in memory; Graph, Check, Goes, EqualFunc, lists, each by its contract. A family of rows that the call itself makes: a block of slices, each with a row of its own; what one append to one of them does. And the lists of the graph turned round. -/
import Derived.Test.YtdncjikmknkkpaaDoorBase
import Derived.Deep.OwnRows
import Derived.Maps.AppendAt
namespace Go.Proofs.YtdncjikmknkkpaaDoor
open Go.RowKit


def allIn (n : Nat) (Z : Nat → Int) (m : Int) : Bool := decide (∀ i, i < n → 0 ≤ Z i ∧ Z i < m)

theorem allIn_no {n : Nat} {Z : Nat → Int} {m : Int} (k : Nat) (hk : k < n) (h : Z k < 0 ∨ m ≤ Z k) : allIn n Z m = false := by
  unfold allIn
  rw [decide_eq_false_iff_not]
  intro hall
  have := hall k hk
  omega

theorem allIn_yes {n : Nat} {Z : Nat → Int} {m : Int} (h : ∀ i, i < n → 0 ≤ Z i ∧ Z i < m) : allIn n Z m = true := by
  unfold allIn
  rw [decide_eq_true_eq]
  exact h

theorem allIn_all {n : Nat} {Z : Nat → Int} {m : Int} (h : allIn n Z m = true) : ∀ i, i < n → 0 ≤ Z i ∧ Z i < m := by
  unfold allIn at h
  rwa [decide_eq_true_eq] at h


/-- Is x among the first n numbers? -/
def has (n : Nat) (Z : Nat → Int) (x : Int) : Bool := decide (∃ i, i < n ∧ Z i = x)

theorem has_no {n : Nat} {Z : Nat → Int} {x : Int} (h : ∀ i, i < n → Z i ≠ x) : has n Z x = false := by
  unfold has
  rw [decide_eq_false_iff_not]
  rintro ⟨i, hi, e⟩
  exact h i hi e

/-- Are the two lists the same? -/
def same (n m : Nat) (Y Z : Nat → Int) : Bool := decide (n = m ∧ ∀ i, i < n → Y i = Z i)

/-- In w the slice at a, of n cells, holds the numbers Z. -/
def Row (w : World) (a : Option Addr) (n : Nat) (Z : Nat → Int) : Prop :=
  ∃ b o, (0 < n → a = some ⟨b, o, none⟩) ∧ ∀ i, i < n → w.cell? ⟨b, o + i, none⟩ = some (.int .i64 (Z i))


end Go.Proofs.YtdncjikmknkkpaaDoor

namespace Go.Proofs.YtdncjikmknkkpaaDoor
open Go.RowKit

/-- In w the slice at ga, of G cells, holds G rows: row r the numbers Z r, L r of them. -/
def Gr (w : World) (ga : Option Addr) (G : Nat) (L : Nat → Nat) (Z : Nat → Nat → Int) : Prop :=
  ∃ gb go, (0 < G → ga = some ⟨gb, go, none⟩) ∧ ∀ r, r < G → ∃ a c, w.cell? ⟨gb, go + r, none⟩ = some (.slice a (L r) c) ∧ Row w a (L r) (Z r)

theorem Row.below {w w' : World} {a : Option Addr} {n : Nat} {Z : Nat → Int} (h : Row w a n Z) (hb : Below w.heap.size w w') : Row w' a n Z := by
  obtain ⟨b, o, ha, hc⟩ := h
  refine ⟨b, o, ha, fun i hi => ?_⟩
  rw [hb.cell (p := ⟨b, o + i, none⟩) (World.block_lt_of_cell? _ _ (hc i hi))]
  exact hc i hi

theorem Gr.below {w w' : World} {ga : Option Addr} {G : Nat} {L : Nat → Nat} {Z : Nat → Nat → Int} (h : Gr w ga G L Z) (hb : Below w.heap.size w w') : Gr w' ga G L Z := by
  obtain ⟨b, o, ha, hc⟩ := h
  refine ⟨b, o, ha, fun r hr => ?_⟩
  obtain ⟨a, c, h1, h2⟩ := hc r hr
  refine ⟨a, c, ?_, h2.below hb⟩
  rw [hb.cell (p := ⟨b, o + r, none⟩) (World.block_lt_of_cell? _ _ h1)]
  exact h1

end Go.Proofs.YtdncjikmknkkpaaDoor

namespace Go.Proofs.YtdncjikmknkkpaaDoor
open Go.RowKit

theorem Tryd.info3 : (Tryd.prog.info? 3).map (fun i => (i.zero, i.size, i.bytes)) = some (some (.int .i64 0), 1, 8) := by kernel_rfl
theorem Tryd.info22 : (Tryd.prog.info? 22).map (fun i => (i.zero, i.size, i.bytes)) = some (some (.slice none 0 0), 1, 24) := by kernel_rfl

def vals (l : List Int) : List Value := l.map (Value.int .i64)
theorem vals_snoc (l : List Int) (x : Int) : vals l ++ [.int .i64 x] = vals (l ++ [x]) := by simp [vals]

/-- What a slice value that owns numbers looks like, and what it holds. -/
theorem owns_row {w : World} {base : Nat} {v : Value} {l : List Int} (h : w.ownsRow base 3 1 v l.length (vals l)) :
    ∃ a c, v = .slice a l.length c ∧ Row w a l.length (fun i => l.getD i 0) := by
  rcases h.2 with ⟨rfl, h0⟩ | ⟨g, cap, cur, rfl, hb, hg, _⟩
  · exact ⟨none, 0, by rw [h0], 0, 0, fun hh => by omega, fun i hi => by omega⟩
  · refine ⟨some ⟨g, 0, none⟩, cap, rfl, g, 0, fun _ => rfl, fun i hi => ?_⟩
    have := h.cells (g := g) rfl i (.int .i64 (l.getD i 0)) (by simp [vals, hi])
    have hadd : (⟨g, 0, none⟩ : Addr).add i = ⟨g, 0 + i, none⟩ := by unfold Addr.add; split <;> simp_all
    rw [hadd] at this
    exact this

/-- The rows T, G of them, under the block that was new when the call began. -/
structure Fam (w wr : World) (G : Nat) (T : Nat → List Int) (V : Nat → Value) : Prop where
  below : Below w.heap.size w wr
  top : wr.rowIs w.heap.size 22 G V
  own : ∀ j, j < G → wr.ownsRow (w.heap.size + 1) 3 1 (V j) (T j).length (vals (T j))
  apart : ∀ i j, i < G → j < G → i ≠ j → ∀ b, (V i).ownBlock = some b → (V j).ownBlock ≠ some b

theorem Fam.size {w wr : World} {G : Nat} {T : Nat → List Int} {V : Nat → Value} (h : Fam w wr G T V) : w.heap.size + 1 ≤ wr.heap.size := h.top.lt

theorem fam_start (w : World) (G : Nat) (T : Nat → List Int) (hT : ∀ j, j < G → T j = []) : Fam w (w.alloc (.cells (madeCells #[.slice none 0 0] G) 22)) G T (fun _ => .slice none 0 0) :=
  ⟨(Below.refl _ _).alloc (Nat.le_refl _) _, World.rowIs_made w _ G 22, fun j hj => by rw [hT j hj]; exact World.ownsRow_nil _ _ _ _, fun i j _ _ _ b hb => by simp [Value.ownBlock] at hb⟩

theorem Fam.congr {w wr : World} {G : Nat} {T U : Nat → List Int} {V : Nat → Value} (h : Fam w wr G T V) (e : ∀ j, j < G → T j = U j) : Fam w wr G U V :=
  ⟨h.below, h.top, fun j hj => by rw [← e j hj]; exact h.own j hj, h.apart⟩

theorem has_zero (Z : Nat → Int) (x : Int) : has 0 Z x = false := has_no (fun i hi => by omega)

theorem has_succ (i : Nat) (Z : Nat → Int) (x : Int) : has (i + 1) Z x = (has i Z x || decide (Z i = x)) := by
  rw [Bool.eq_iff_iff]
  unfold has
  simp only [decide_eq_true_eq, Bool.or_eq_true]
  constructor
  · rintro ⟨k, hk, e⟩
    by_cases hki : k = i
    · subst hki; exact Or.inr e
    · exact Or.inl ⟨k, by omega, e⟩
  · rintro (⟨k, hk, e⟩ | e)
    · exact ⟨k, by omega, e⟩
    · exact ⟨i, by omega, e⟩

end Go.Proofs.YtdncjikmknkkpaaDoor
