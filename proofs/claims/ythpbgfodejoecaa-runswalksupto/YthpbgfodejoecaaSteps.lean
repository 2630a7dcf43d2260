/- The steps of a process, as a list; lists of steps in memory. -/
import Derived.Laws.AppendOwnNone
import Derived.Test.YthpbgfodejoecaaProc7
namespace Go.Proofs.Ythpbgfodejoecaa
open Go.RowKit

/-- A step: its node, the flow in, the bits out. -/
abbrev St3 := Int × Int × Int

/-- A step of the node for each of ins and, of each, for each of outs. -/
def prs (n : Int) (ins outs : List Int) : List St3 := ins.flatMap fun i => outs.map fun o => (n, i, o)

/-- The bit of each of k flows. -/
def sng : Nat → List Int
  | 0 => []
  | k + 1 => sng k ++ [(2 : Int) ^ k]

/-- The numbers 1 to k. -/
def upTo : Nat → List Int
  | 0 => []
  | k + 1 => upTo k ++ [(k : Int) + 1]

theorem sng_len : ∀ k, (sng k).length = k
  | 0 => rfl
  | k + 1 => by simp [sng, sng_len k]

theorem upTo_len : ∀ k, (upTo k).length = k
  | 0 => rfl
  | k + 1 => by simp [upTo, upTo_len k]

theorem mem_sng {x : Int} : ∀ {k}, x ∈ sng k → ∃ j, j < k ∧ x = (2 : Int) ^ j
  | 0, h => by cases h
  | k + 1, h => by
    rw [sng, List.mem_append, List.mem_singleton] at h
    rcases h with h | h
    · obtain ⟨j, h1, h2⟩ := mem_sng h
      exact ⟨j, by omega, h2⟩
    · exact ⟨k, by omega, h⟩

theorem mem_upTo {x : Int} : ∀ {k}, x ∈ upTo k → 1 ≤ x ∧ x ≤ k
  | 0, h => by cases h
  | k + 1, h => by
    rw [upTo, List.mem_append, List.mem_singleton] at h
    rcases h with h | h
    · have := mem_upTo h
      omega
    · omega

theorem mem_prs {n : Int} {ins outs : List Int} {t : St3} : t ∈ prs n ins outs ↔ t.1 = n ∧ t.2.1 ∈ ins ∧ t.2.2 ∈ outs := by
  unfold prs
  rw [List.mem_flatMap]
  constructor
  · rintro ⟨i, hi, h⟩
    obtain ⟨o, ho, rfl⟩ := List.mem_map.1 h
    exact ⟨rfl, hi, ho⟩
  · rintro ⟨h1, h2, h3⟩
    exact ⟨_, h2, List.mem_map.2 ⟨_, h3, by rw [← h1]⟩⟩

theorem prs_len (n : Int) (ins outs : List Int) : (prs n ins outs).length = ins.length * outs.length := by
  unfold prs
  induction ins with
  | nil => simp
  | cons a l ih => simp [List.flatMap_cons, ih, Nat.add_mul]; omega

theorem prs_snoc (n : Int) (ins outs : List Int) (i : Int) : prs n (ins ++ [i]) outs = prs n ins outs ++ outs.map fun o => (n, i, o) := by
  simp [prs]

/-- The steps of a node of that kind, with these flows in and so many out. -/
def stK (n k : Int) (ins : List Int) (o : Nat) : List St3 :=
  if k = 4 ∨ k = 5 then prs n ins (sng o) else if k = 6 then prs n [-1] [2 ^ o - 1] else if k = 7 then prs n [-1] (upTo (2 ^ o - 1)) else if k = 2 ∨ k = 3 then prs n ins [0] else []

/-- The steps of the nodes below k. -/
def stAll (K A B : Nat → Int) (F : Nat) : Nat → List St3
  | 0 => []
  | k + 1 => stAll K A B F k ++ stK k (K k) (fl B k F) (tally A k F)

theorem two_pow_le {o : Nat} (h : o ≤ 30) : 2 ^ o ≤ 1073741824 := by
  have : 2 ^ o ≤ 2 ^ 30 := Nat.pow_le_pow_right (by decide) h
  simpa using this

theorem stK_len {n k : Int} {ins : List Int} {o : Nat} (hi : ins.length ≤ 30) (ho : o ≤ 30) : (stK n k ins o).length ≤ 1073741824 := by
  have h2 := two_pow_le ho
  have h3 : ins.length * o ≤ 30 * 30 := Nat.mul_le_mul hi ho
  unfold stK
  split
  · rw [prs_len, sng_len]; omega
  · split
    · rw [prs_len]; simp
    · split
      · rw [prs_len, upTo_len]; simp; omega
      · split
        · rw [prs_len]; simp; omega
        · simp

theorem stAll_len {K A B : Nat → Int} {F : Nat} (hF : F ≤ 30) : ∀ k, (stAll K A B F k).length ≤ k * 1073741824
  | 0 => by simp [stAll]
  | k + 1 => by
    have h1 := stAll_len (K := K) (A := A) (B := B) hF k
    have h2 := stK_len (n := k) (k := K k) (ins := fl B k F) (o := tally A k F) (by rw [fl_len]; have := tally_le B k F; omega) (by have := tally_le A k F; omega)
    simp only [stAll, List.length_append]
    omega

theorem stK_node {n k : Int} {ins : List Int} {o : Nat} {t : St3} (h : t ∈ stK n k ins o) : t.1 = n := by
  unfold stK at h
  split at h
  · exact (mem_prs.1 h).1
  · split at h
    · exact (mem_prs.1 h).1
    · split at h
      · exact (mem_prs.1 h).1
      · split at h
        · exact (mem_prs.1 h).1
        · cases h

theorem stK_in {n k : Int} {ins : List Int} {o : Nat} {t : St3} (h : t ∈ stK n k ins o) : t.2.1 = -1 ∨ t.2.1 ∈ ins := by
  unfold stK at h
  split at h
  · exact Or.inr (mem_prs.1 h).2.1
  · split at h
    · exact Or.inl (by simpa using (mem_prs.1 h).2.1)
    · split at h
      · exact Or.inl (by simpa using (mem_prs.1 h).2.1)
      · split at h
        · exact Or.inr (mem_prs.1 h).2.1
        · cases h

theorem two_pos (o : Nat) : (1 : Int) ≤ 2 ^ o := by
  have : (0 : Int) < 2 ^ o := Int.pow_pos (by decide)
  omega

theorem stK_out {n k : Int} {ins : List Int} {o : Nat} {t : St3} (h : t ∈ stK n k ins o) : 0 ≤ t.2.2 ∧ t.2.2 < 2 ^ o := by
  have hp := two_pos o
  unfold stK at h
  split at h
  · obtain ⟨j, h1, h2⟩ := mem_sng (mem_prs.1 h).2.2
    have := two_pos j
    have : (2 : Int) ^ j < 2 ^ o := Int.pow_lt_pow_of_lt (by decide) h1
    omega
  · split at h
    · have := (mem_prs.1 h).2.2
      rw [List.mem_singleton] at this
      omega
    · split at h
      · have := mem_upTo (mem_prs.1 h).2.2
        have e : ((2 ^ o - 1 : Nat) : Int) = 2 ^ o - 1 := by
          have : 1 ≤ 2 ^ o := Nat.one_le_two_pow
          rw [Int.ofNat_sub this]
          simp
        omega
      · split at h
        · have := (mem_prs.1 h).2.2
          rw [List.mem_singleton] at this
          omega
        · cases h

theorem mem_stAll {K A B : Nat → Int} {F : Nat} {t : St3} : ∀ {N}, t ∈ stAll K A B F N ↔ ∃ k, k < N ∧ t ∈ stK k (K k) (fl B k F) (tally A k F)
  | 0 => by simp [stAll]
  | N + 1 => by
    rw [stAll, List.mem_append, mem_stAll]
    constructor
    · rintro (⟨k, h1, h2⟩ | h)
      · exact ⟨k, by omega, h2⟩
      · exact ⟨N, by omega, h⟩
    · rintro ⟨k, h1, h2⟩
      by_cases e : k = N
      · subst e; exact Or.inr h2
      · exact Or.inl ⟨k, by omega, h2⟩

theorem Try.info66 : (Try.prog.info? 66).map (fun i => (i.zero, i.size, i.bytes)) = some (some (.agg #[.int .i64 0, .int .i64 0, .int .i64 0]), 3, 24) := by kernel_rfl

def val3 (t : St3) : List Value := [.int .i64 t.1, .int .i64 t.2.1, .int .i64 t.2.2]

/-- The cells of a list of steps. -/
def vals3 (l : List St3) : List Value := l.flatMap val3

theorem vals3_snoc (l : List St3) (a b c : Int) : vals3 l ++ [.int .i64 a, .int .i64 b, .int .i64 c] = vals3 (l ++ [(a, b, c)]) := by simp [vals3, val3]
theorem vals3_append (l m : List St3) : vals3 l ++ vals3 m = vals3 (l ++ m) := by simp [vals3]

theorem vals3_len (l : List St3) : (vals3 l).length = l.length * 3 := by
  induction l with
  | nil => rfl
  | cons a l ih => simp only [vals3, List.flatMap_cons, List.length_append, List.length_cons] at ih ⊢; simp [val3, ih]; omega

theorem vals3_get (l : List St3) : ∀ i, i < l.length → (vals3 l)[i * 3]? = some (.int .i64 (l.getD i (0, 0, 0)).1) ∧ (vals3 l)[i * 3 + 1]? = some (.int .i64 (l.getD i (0, 0, 0)).2.1) ∧ (vals3 l)[i * 3 + 2]? = some (.int .i64 (l.getD i (0, 0, 0)).2.2) := by
  induction l with
  | nil => intro i hi; simp at hi
  | cons a l ih =>
    intro i hi
    have e : vals3 (a :: l) = .int .i64 a.1 :: .int .i64 a.2.1 :: .int .i64 a.2.2 :: vals3 l := rfl
    rw [e]
    cases i with
    | zero => exact ⟨rfl, rfl, rfl⟩
    | succ i =>
      have h := ih i (by simpa using hi)
      have e1 : (i + 1) * 3 = i * 3 + 1 + 1 + 1 := by omega
      rw [e1]
      refine ⟨?_, ?_, ?_⟩
      · simpa using h.1
      · have e2 : i * 3 + 1 + 1 + 1 + 1 = (i * 3 + 1) + 1 + 1 + 1 := by omega
        rw [e2]
        simpa using h.2.1
      · have e2 : i * 3 + 1 + 1 + 1 + 2 = (i * 3 + 2) + 1 + 1 + 1 := by omega
        rw [e2]
        simpa using h.2.2

theorem vals3_one (l : List St3) : ∀ u ∈ vals3 l, u.oneCell' = true := by
  intro u hu
  obtain ⟨t, _, h⟩ := List.mem_flatMap.1 hu
  simp only [val3, List.mem_cons, List.not_mem_nil, or_false] at h
  rcases h with rfl | rfl | rfl <;> rfl

theorem add_none3 (b o j : Nat) : (⟨b, o, none⟩ : Addr).add j = ⟨b, o + j, none⟩ := by unfold Addr.add; split <;> simp_all

/-- n steps lie at a. -/
def Sts (w : World) (a : Option Addr) (n : Nat) (T : Nat → St3) : Prop :=
  ∃ b o, (0 < n → a = some ⟨b, o, none⟩) ∧ ∀ i, i < n → w.cell? ⟨b, o + i * 3, none⟩ = some (.int .i64 (T i).1) ∧ w.cell? ⟨b, o + i * 3 + 1, none⟩ = some (.int .i64 (T i).2.1) ∧ w.cell? ⟨b, o + i * 3 + 2, none⟩ = some (.int .i64 (T i).2.2)

theorem Sts.at {w wr : World} {b o n : Nat} {T : Nat → St3} (hc : ∀ i, i < n → w.cell? ⟨b, o + i * 3, none⟩ = some (.int .i64 (T i).1) ∧ w.cell? ⟨b, o + i * 3 + 1, none⟩ = some (.int .i64 (T i).2.1) ∧ w.cell? ⟨b, o + i * 3 + 2, none⟩ = some (.int .i64 (T i).2.2)) (hb : Below w.heap.size w wr) {k : Nat} (hk : k < n) :
    wr.cell? ⟨b, o + k * 3, none⟩ = some (.int .i64 (T k).1) ∧ wr.cell? ⟨b, o + k * 3 + 1, none⟩ = some (.int .i64 (T k).2.1) ∧ wr.cell? ⟨b, o + k * 3 + 2, none⟩ = some (.int .i64 (T k).2.2) := by
  obtain ⟨h1, h2, h3⟩ := hc k hk
  rw [hb.cell (p := ⟨b, o + k * 3, none⟩) (World.block_lt_of_cell? _ _ h1), hb.cell (p := ⟨b, o + k * 3 + 1, none⟩) (World.block_lt_of_cell? _ _ h2), hb.cell (p := ⟨b, o + k * 3 + 2, none⟩) (World.block_lt_of_cell? _ _ h3)]
  exact ⟨h1, h2, h3⟩

theorem Sts.below {w w' : World} {a : Option Addr} {n : Nat} {T : Nat → St3} (h : Sts w a n T) (hb : Below w.heap.size w w') : Sts w' a n T := by
  obtain ⟨b, o, ha, hc⟩ := h
  exact ⟨b, o, ha, fun i hi => Sts.at hc hb hi⟩

/-- What a slice value that owns steps looks like, and what it holds. -/
theorem owns_sts {w : World} {base : Nat} {v : Value} {l : List St3} (h : w.ownsRow base 66 3 v l.length (vals3 l)) :
    ∃ a c, v = .slice a l.length c ∧ Sts w a l.length (fun i => l.getD i (0, 0, 0)) := by
  rcases h.2 with ⟨rfl, h0⟩ | ⟨g, cap, cur, rfl, hb, hg, _⟩
  · exact ⟨none, 0, by rw [h0], 0, 0, fun hh => by omega, fun i hi => by omega⟩
  · refine ⟨some ⟨g, 0, none⟩, cap, rfl, g, 0, fun _ => rfl, fun i hi => ?_⟩
    obtain ⟨h1, h2, h3⟩ := vals3_get l i hi
    have c1 := h.cells (g := g) rfl _ _ h1
    have c2 := h.cells (g := g) rfl _ _ h2
    have c3 := h.cells (g := g) rfl _ _ h3
    rw [add_none3] at c1 c2 c3
    exact ⟨c1, c2, c3⟩

theorem cell_three_new (w : World) (t : St3) (e : TypeId) : ∀ j u, (val3 t)[j]? = some u → (w.alloc (.cells #[.int .i64 t.1, .int .i64 t.2.1, .int .i64 t.2.2] e)).cell? ((⟨w.heap.size, 0, none⟩ : Addr).add j) = some u := by
  intro j u h
  rw [add_none3, Nat.zero_add]
  exact cell_of_alloc (by simpa [val3] using h)

end Go.Proofs.Ythpbgfodejoecaa
