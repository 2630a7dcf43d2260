/- The steps of a process, as a list; lists of steps in memory. allBits, singles, choices, pairs, each by its contract. ofNode, Of. Of. The board of a process; isMarking, begin. -/
import Derived.Test.YtjenkhphngiphaaProc5J
import Derived.Laws.AppendOwnNone
namespace Go.Proofs.Ytjenkhphngiphaa
open Go.RowKit

/-- A step: its node, the flow in, the bits out. -/
abbrev St3 := Int × Int × Int

/-- A step of the node for each of ins and, of each, for each of outs. -/
def prs (n : Int) (ins outs : List Int) : List St3 := ins.flatMap fun i => outs.map fun o => (n, i, o)

/-- The bit of each of k flows. -/
def sng : Nat → List Int
  | 0 => []
  | k + 1 => sng k ++ [(2 : Int) ^ k]

/-- The numbers 1 to k. -/
def upTo : Nat → List Int
  | 0 => []
  | k + 1 => upTo k ++ [(k : Int) + 1]

theorem sng_len : ∀ k, (sng k).length = k
  | 0 => rfl
  | k + 1 => by simp [sng, sng_len k]

theorem upTo_len : ∀ k, (upTo k).length = k
  | 0 => rfl
  | k + 1 => by simp [upTo, upTo_len k]

theorem mem_sng {x : Int} : ∀ {k}, x ∈ sng k → ∃ j, j < k ∧ x = (2 : Int) ^ j
  | 0, h => by cases h
  | k + 1, h => by
    rw [sng, List.mem_append, List.mem_singleton] at h
    rcases h with h | h
    · obtain ⟨j, h1, h2⟩ := mem_sng h
      exact ⟨j, by omega, h2⟩
    · exact ⟨k, by omega, h⟩

theorem mem_upTo {x : Int} : ∀ {k}, x ∈ upTo k → 1 ≤ x ∧ x ≤ k
  | 0, h => by cases h
  | k + 1, h => by
    rw [upTo, List.mem_append, List.mem_singleton] at h
    rcases h with h | h
    · have := mem_upTo h
      omega
    · omega

theorem nodup_snoc {α : Type} {l : List α} {x : α} (h : l.Nodup) (hx : x ∉ l) : (l ++ [x]).Nodup := by
  rw [List.nodup_append]
  refine ⟨h, by simp, ?_⟩
  intro a ha b hb e
  rw [List.mem_singleton] at hb
  subst hb; subst e
  exact hx ha

theorem sng_nodup : ∀ k, (sng k).Nodup
  | 0 => List.nodup_nil
  | k + 1 => by
    refine nodup_snoc (sng_nodup k) fun h => ?_
    obtain ⟨j, h1, h2⟩ := mem_sng h
    have : (2 : Int) ^ j < 2 ^ k := Int.pow_lt_pow_of_lt (by decide) h1
    omega

theorem upTo_nodup : ∀ k, (upTo k).Nodup
  | 0 => List.nodup_nil
  | k + 1 => nodup_snoc (upTo_nodup k) fun h => by have := mem_upTo h; omega

theorem mem_prs {n : Int} {ins outs : List Int} {t : St3} : t ∈ prs n ins outs ↔ t.1 = n ∧ t.2.1 ∈ ins ∧ t.2.2 ∈ outs := by
  unfold prs
  rw [List.mem_flatMap]
  constructor
  · rintro ⟨i, hi, h⟩
    obtain ⟨o, ho, rfl⟩ := List.mem_map.1 h
    exact ⟨rfl, hi, ho⟩
  · rintro ⟨h1, h2, h3⟩
    exact ⟨_, h2, List.mem_map.2 ⟨_, h3, by rw [← h1]⟩⟩

theorem prs_len (n : Int) (ins outs : List Int) : (prs n ins outs).length = ins.length * outs.length := by
  unfold prs
  induction ins with
  | nil => simp
  | cons a l ih => simp [List.flatMap_cons, ih, Nat.add_mul]; omega

theorem prs_snoc (n : Int) (ins outs : List Int) (i : Int) : prs n (ins ++ [i]) outs = prs n ins outs ++ outs.map fun o => (n, i, o) := by
  simp [prs]

theorem prs_nodup {n : Int} {ins outs : List Int} (h : ins.Nodup) (h' : outs.Nodup) : (prs n ins outs).Nodup := by
  unfold prs
  induction ins with
  | nil => simp
  | cons a l ih =>
    rw [List.flatMap_cons, List.nodup_append]
    rw [List.nodup_cons] at h
    refine ⟨?_, ih h.2, ?_⟩
    · rw [List.nodup_iff_pairwise_ne, List.pairwise_map]
      refine (List.nodup_iff_pairwise_ne.1 h').imp ?_
      intro x y hxy e
      exact hxy (by simpa using e)
    · intro x hx y hy e
      subst e
      have h1 := (mem_prs (n := n) (ins := l) (outs := outs)).1 hy
      obtain ⟨o, _, rfl⟩ := List.mem_map.1 hx
      exact h.1 h1.2.1

theorem fl_nodup (X : Nat → Int) (x : Int) : ∀ k, (fl X x k).Nodup
  | 0 => List.nodup_nil
  | k + 1 => by
    by_cases h : X k = x
    · rw [fl_hit h]
      refine nodup_snoc (fl_nodup X x k) fun hm => ?_
      obtain ⟨j, h1, h2, _⟩ := mem_fl hm
      omega
    · rw [fl_miss h]
      exact fl_nodup X x k

/-- The steps of a node of that kind, with these flows in and so many out. -/
def stK (n k : Int) (ins : List Int) (o : Nat) : List St3 :=
  if k = 4 ∨ k = 5 then prs n ins (sng o) else if k = 6 then prs n [-1] [2 ^ o - 1] else if k = 7 then prs n [-1] (upTo (2 ^ o - 1)) else if k = 2 ∨ k = 3 then prs n ins [0] else []

/-- The steps of the nodes below k. -/
def stAll (K A B : Nat → Int) (F : Nat) : Nat → List St3
  | 0 => []
  | k + 1 => stAll K A B F k ++ stK k (K k) (fl B k F) (tally A k F)

theorem two_pow_le {o : Nat} (h : o ≤ 30) : 2 ^ o ≤ 1073741824 := by
  have : 2 ^ o ≤ 2 ^ 30 := Nat.pow_le_pow_right (by decide) h
  simpa using this

theorem stK_len {n k : Int} {ins : List Int} {o : Nat} (hi : ins.length ≤ 30) (ho : o ≤ 30) : (stK n k ins o).length ≤ 1073741824 := by
  have h2 := two_pow_le ho
  have h3 : ins.length * o ≤ 30 * 30 := Nat.mul_le_mul hi ho
  unfold stK
  split
  · rw [prs_len, sng_len]; omega
  · split
    · rw [prs_len]; simp
    · split
      · rw [prs_len, upTo_len]; simp; omega
      · split
        · rw [prs_len]; simp; omega
        · simp

theorem stAll_len {K A B : Nat → Int} {F : Nat} (hF : F ≤ 30) : ∀ k, (stAll K A B F k).length ≤ k * 1073741824
  | 0 => by simp [stAll]
  | k + 1 => by
    have h1 := stAll_len (K := K) (A := A) (B := B) hF k
    have h2 := stK_len (n := k) (k := K k) (ins := fl B k F) (o := tally A k F) (by rw [fl_len]; have := tally_le B k F; omega) (by have := tally_le A k F; omega)
    simp only [stAll, List.length_append]
    omega

theorem stK_node {n k : Int} {ins : List Int} {o : Nat} {t : St3} (h : t ∈ stK n k ins o) : t.1 = n := by
  unfold stK at h
  split at h
  · exact (mem_prs.1 h).1
  · split at h
    · exact (mem_prs.1 h).1
    · split at h
      · exact (mem_prs.1 h).1
      · split at h
        · exact (mem_prs.1 h).1
        · cases h

theorem stK_in {n k : Int} {ins : List Int} {o : Nat} {t : St3} (h : t ∈ stK n k ins o) : t.2.1 = -1 ∨ t.2.1 ∈ ins := by
  unfold stK at h
  split at h
  · exact Or.inr (mem_prs.1 h).2.1
  · split at h
    · exact Or.inl (by simpa using (mem_prs.1 h).2.1)
    · split at h
      · exact Or.inl (by simpa using (mem_prs.1 h).2.1)
      · split at h
        · exact Or.inr (mem_prs.1 h).2.1
        · cases h

theorem two_pos (o : Nat) : (1 : Int) ≤ 2 ^ o := by
  have : (0 : Int) < 2 ^ o := Int.pow_pos (by decide)
  omega

theorem stK_out {n k : Int} {ins : List Int} {o : Nat} {t : St3} (h : t ∈ stK n k ins o) : 0 ≤ t.2.2 ∧ t.2.2 < 2 ^ o := by
  have hp := two_pos o
  unfold stK at h
  split at h
  · obtain ⟨j, h1, h2⟩ := mem_sng (mem_prs.1 h).2.2
    have := two_pos j
    have : (2 : Int) ^ j < 2 ^ o := Int.pow_lt_pow_of_lt (by decide) h1
    omega
  · split at h
    · have := (mem_prs.1 h).2.2
      rw [List.mem_singleton] at this
      omega
    · split at h
      · have := mem_upTo (mem_prs.1 h).2.2
        have e : ((2 ^ o - 1 : Nat) : Int) = 2 ^ o - 1 := by
          have : 1 ≤ 2 ^ o := Nat.one_le_two_pow
          rw [Int.ofNat_sub this]
          simp
        omega
      · split at h
        · have := (mem_prs.1 h).2.2
          rw [List.mem_singleton] at this
          omega
        · cases h

theorem stK_nodup {n k : Int} {ins : List Int} {o : Nat} (h : ins.Nodup) : (stK n k ins o).Nodup := by
  unfold stK
  split
  · exact prs_nodup h (sng_nodup o)
  · split
    · exact prs_nodup (by simp) (by simp)
    · split
      · exact prs_nodup (by simp) (upTo_nodup _)
      · split
        · exact prs_nodup h (by simp)
        · exact List.nodup_nil

theorem mem_stAll {K A B : Nat → Int} {F : Nat} {t : St3} : ∀ {N}, t ∈ stAll K A B F N ↔ ∃ k, k < N ∧ t ∈ stK k (K k) (fl B k F) (tally A k F)
  | 0 => by simp [stAll]
  | N + 1 => by
    rw [stAll, List.mem_append, mem_stAll]
    constructor
    · rintro (⟨k, h1, h2⟩ | h)
      · exact ⟨k, by omega, h2⟩
      · exact ⟨N, by omega, h⟩
    · rintro ⟨k, h1, h2⟩
      by_cases e : k = N
      · subst e; exact Or.inr h2
      · exact Or.inl ⟨k, by omega, h2⟩

theorem stAll_nodup (K A B : Nat → Int) (F : Nat) : ∀ N, (stAll K A B F N).Nodup
  | 0 => List.nodup_nil
  | N + 1 => by
    rw [stAll, List.nodup_append]
    refine ⟨stAll_nodup K A B F N, stK_nodup (fl_nodup _ _ _), ?_⟩
    intro a ha b hb e
    subst e
    obtain ⟨k, h1, h2⟩ := mem_stAll.1 ha
    have e1 := stK_node h2
    have e2 := stK_node hb
    omega

/-- A node that is as its kind asks has a step, unless it is a start. -/
theorem stK_some {n k : Int} {ins : List Int} {o : Nat} (h : fitOk k ins.length o = true) : (∃ t, t ∈ stK n k ins o) ↔ k ≠ 1 := by
  unfold fitOk at h
  unfold stK
  by_cases h1 : k = 1
  · subst h1; simp
  · rw [if_neg h1] at h
    refine iff_of_true ?_ h1
    have hz : 0 < ins.length → ∃ i, i ∈ ins := fun hl => ⟨ins[0], List.getElem_mem hl⟩
    by_cases h2 : k = 2 ∨ k = 3
    · rw [if_pos h2] at h
      obtain ⟨i, hi⟩ := hz (by simp at h; omega)
      rw [if_neg (by omega), if_neg (by omega), if_neg (by omega), if_pos h2]
      exact ⟨(n, i, 0), mem_prs.2 ⟨rfl, hi, by simp⟩⟩
    · rw [if_neg h2] at h
      by_cases h4 : k = 4
      · rw [if_pos h4] at h
        simp at h
        obtain ⟨i, hi⟩ := hz (by omega)
        rw [if_pos (by omega)]
        obtain ⟨_, rfl⟩ := h
        exact ⟨(n, i, 1), mem_prs.2 ⟨rfl, hi, by simp [sng]⟩⟩
      · rw [if_neg h4] at h
        by_cases h5 : k = 5 ∨ k = 6
        · rw [if_pos h5] at h
          simp at h
          obtain ⟨i, hi⟩ := hz (by omega)
          rcases h5 with rfl | rfl
          · rw [if_pos (by omega)]
            obtain ⟨o', rfl⟩ : ∃ o', o = o' + 1 := ⟨o - 1, by omega⟩
            exact ⟨(n, i, 2 ^ o'), mem_prs.2 ⟨rfl, hi, by simp [sng]⟩⟩
          · rw [if_neg (by omega), if_pos rfl]
            exact ⟨(n, -1, 2 ^ o - 1), mem_prs.2 ⟨rfl, by simp, by simp⟩⟩
        · rw [if_neg h5] at h
          by_cases h7 : k = 7
          · rw [if_pos h7] at h
            simp at h
            rw [if_neg (by omega), if_neg (by omega), if_pos h7]
            refine ⟨(n, -1, ((2 ^ o - 1 - 1 : Nat) : Int) + 1), mem_prs.2 ⟨rfl, by simp, ?_⟩⟩
            have : 2 ≤ 2 ^ o := by
              have : 2 ^ 1 ≤ 2 ^ o := Nat.pow_le_pow_right (by decide) h.2.1
              simpa using this
            obtain ⟨m, hm⟩ : ∃ m, 2 ^ o - 1 = m + 1 := ⟨2 ^ o - 2, by omega⟩
            rw [hm]
            simp [upTo]
          · rw [if_neg h7] at h
            cases h

theorem fitAll_at {N F : Nat} {K A B : Nat → Int} (h : ∀ i : Nat, i < N → fitOk (K i) (tally B i F) (tally A i F) = true) (k : Nat) (hk : k < N) : (∃ t, t ∈ stAll K A B F N ∧ t.1 = k) ↔ K k ≠ 1 := by
  rw [← stK_some (n := k) (k := K k) (ins := fl B k F) (o := tally A k F) (by rw [fl_len]; exact h k hk)]
  constructor
  · rintro ⟨t, h1, h2⟩
    obtain ⟨j, h3, h4⟩ := mem_stAll.1 h1
    have e := stK_node h4
    obtain rfl : k = j := by omega
    exact ⟨t, h4⟩
  · rintro ⟨t, h1⟩
    exact ⟨t, mem_stAll.2 ⟨k, hk, h1⟩, stK_node h1⟩

theorem Try.info75 : (Try.prog.info? 75).map (fun i => (i.zero, i.size, i.bytes)) = some (some (.agg #[.int .i64 0, .int .i64 0, .int .i64 0]), 3, 24) := by kernel_rfl

def val3 (t : St3) : List Value := [.int .i64 t.1, .int .i64 t.2.1, .int .i64 t.2.2]

/-- The cells of a list of steps. -/
def vals3 (l : List St3) : List Value := l.flatMap val3

theorem vals3_snoc (l : List St3) (a b c : Int) : vals3 l ++ [.int .i64 a, .int .i64 b, .int .i64 c] = vals3 (l ++ [(a, b, c)]) := by simp [vals3, val3]
theorem vals3_append (l m : List St3) : vals3 l ++ vals3 m = vals3 (l ++ m) := by simp [vals3]

theorem vals3_len (l : List St3) : (vals3 l).length = l.length * 3 := by
  induction l with
  | nil => rfl
  | cons a l ih => simp only [vals3, List.flatMap_cons, List.length_append, List.length_cons] at ih ⊢; simp [val3, ih]; omega

theorem vals3_get (l : List St3) : ∀ i, i < l.length → (vals3 l)[i * 3]? = some (.int .i64 (l.getD i (0, 0, 0)).1) ∧ (vals3 l)[i * 3 + 1]? = some (.int .i64 (l.getD i (0, 0, 0)).2.1) ∧ (vals3 l)[i * 3 + 2]? = some (.int .i64 (l.getD i (0, 0, 0)).2.2) := by
  induction l with
  | nil => intro i hi; simp at hi
  | cons a l ih =>
    intro i hi
    have e : vals3 (a :: l) = .int .i64 a.1 :: .int .i64 a.2.1 :: .int .i64 a.2.2 :: vals3 l := rfl
    rw [e]
    cases i with
    | zero => exact ⟨rfl, rfl, rfl⟩
    | succ i =>
      have h := ih i (by simpa using hi)
      have e1 : (i + 1) * 3 = i * 3 + 1 + 1 + 1 := by omega
      rw [e1]
      refine ⟨?_, ?_, ?_⟩
      · simpa using h.1
      · have e2 : i * 3 + 1 + 1 + 1 + 1 = (i * 3 + 1) + 1 + 1 + 1 := by omega
        rw [e2]
        simpa using h.2.1
      · have e2 : i * 3 + 1 + 1 + 1 + 2 = (i * 3 + 2) + 1 + 1 + 1 := by omega
        rw [e2]
        simpa using h.2.2

theorem vals3_one (l : List St3) : ∀ u ∈ vals3 l, u.oneCell' = true := by
  intro u hu
  obtain ⟨t, _, h⟩ := List.mem_flatMap.1 hu
  simp only [val3, List.mem_cons, List.not_mem_nil, or_false] at h
  rcases h with rfl | rfl | rfl <;> rfl

theorem add_none3 (b o j : Nat) : (⟨b, o, none⟩ : Addr).add j = ⟨b, o + j, none⟩ := by unfold Addr.add; split <;> simp_all

/-- n steps lie at a. -/
def Sts (w : World) (a : Option Addr) (n : Nat) (T : Nat → St3) : Prop :=
  ∃ b o, (0 < n → a = some ⟨b, o, none⟩) ∧ ∀ i, i < n → w.cell? ⟨b, o + i * 3, none⟩ = some (.int .i64 (T i).1) ∧ w.cell? ⟨b, o + i * 3 + 1, none⟩ = some (.int .i64 (T i).2.1) ∧ w.cell? ⟨b, o + i * 3 + 2, none⟩ = some (.int .i64 (T i).2.2)

theorem Sts.at {w wr : World} {b o n : Nat} {T : Nat → St3} (hc : ∀ i, i < n → w.cell? ⟨b, o + i * 3, none⟩ = some (.int .i64 (T i).1) ∧ w.cell? ⟨b, o + i * 3 + 1, none⟩ = some (.int .i64 (T i).2.1) ∧ w.cell? ⟨b, o + i * 3 + 2, none⟩ = some (.int .i64 (T i).2.2)) (hb : Below w.heap.size w wr) {k : Nat} (hk : k < n) :
    wr.cell? ⟨b, o + k * 3, none⟩ = some (.int .i64 (T k).1) ∧ wr.cell? ⟨b, o + k * 3 + 1, none⟩ = some (.int .i64 (T k).2.1) ∧ wr.cell? ⟨b, o + k * 3 + 2, none⟩ = some (.int .i64 (T k).2.2) := by
  obtain ⟨h1, h2, h3⟩ := hc k hk
  rw [hb.cell (p := ⟨b, o + k * 3, none⟩) (World.block_lt_of_cell? _ _ h1), hb.cell (p := ⟨b, o + k * 3 + 1, none⟩) (World.block_lt_of_cell? _ _ h2), hb.cell (p := ⟨b, o + k * 3 + 2, none⟩) (World.block_lt_of_cell? _ _ h3)]
  exact ⟨h1, h2, h3⟩

theorem Sts.below {w w' : World} {a : Option Addr} {n : Nat} {T : Nat → St3} (h : Sts w a n T) (hb : Below w.heap.size w w') : Sts w' a n T := by
  obtain ⟨b, o, ha, hc⟩ := h
  exact ⟨b, o, ha, fun i hi => Sts.at hc hb hi⟩

theorem Sts.take {w : World} {a : Option Addr} {n k : Nat} {T : Nat → St3} (h : Sts w a n T) (hk : k ≤ n) : Sts w a k T := by
  obtain ⟨b, o, ha, hc⟩ := h
  exact ⟨b, o, fun h => ha (by omega), fun i hi => hc i (by omega)⟩

/-- What a slice value that owns steps looks like, and what it holds. -/
theorem owns_sts {w : World} {base : Nat} {v : Value} {l : List St3} (h : w.ownsRow base 75 3 v l.length (vals3 l)) :
    ∃ a c, v = .slice a l.length c ∧ Sts w a l.length (fun i => l.getD i (0, 0, 0)) := by
  rcases h.2 with ⟨rfl, h0⟩ | ⟨g, cap, cur, rfl, hb, hg, _⟩
  · exact ⟨none, 0, by rw [h0], 0, 0, fun hh => by omega, fun i hi => by omega⟩
  · refine ⟨some ⟨g, 0, none⟩, cap, rfl, g, 0, fun _ => rfl, fun i hi => ?_⟩
    obtain ⟨h1, h2, h3⟩ := vals3_get l i hi
    have c1 := h.cells (g := g) rfl _ _ h1
    have c2 := h.cells (g := g) rfl _ _ h2
    have c3 := h.cells (g := g) rfl _ _ h3
    rw [add_none3] at c1 c2 c3
    exact ⟨c1, c2, c3⟩

theorem cell_three_new (w : World) (t : St3) (e : TypeId) : ∀ j u, (val3 t)[j]? = some u → (w.alloc (.cells #[.int .i64 t.1, .int .i64 t.2.1, .int .i64 t.2.2] e)).cell? ((⟨w.heap.size, 0, none⟩ : Addr).add j) = some u := by
  intro j u h
  rw [add_none3, Nat.zero_add]
  exact cell_of_alloc (by simpa [val3] using h)

end Go.Proofs.Ytjenkhphngiphaa

namespace Go.Proofs.Ytjenkhphngiphaa
open Go.RowKit

theorem pow_le {o : Nat} (h : o ≤ 30) : (2 : Int) ^ o ≤ 1073741824 := by
  have h1 : 2 ^ o ≤ 1073741824 := two_pow_le h
  have h2 : ((2 ^ o : Nat) : Int) ≤ ((1073741824 : Nat) : Int) := Int.ofNat_le.2 h1
  simpa using h2

theorem wrap_pow {o : Nat} (h : o ≤ 30) : wrap64 (2 ^ o) = 2 ^ o := by
  have h1 := pow_le h
  have h2 := two_pos o
  unfold wrap64; omega

theorem wrap_pow' {o : Nat} (h : o ≤ 30) : wrap64 (2 ^ o - 1) = 2 ^ o - 1 := by
  have h1 := pow_le h
  have h2 := two_pos o
  unfold wrap64; omega

theorem allBits_any (o : Nat) (w : World) (ho : o ≤ 30) : Calls Try.prog 79 #[.int .i64 o] w fun e w' => e = .returned (.int .i64 (2 ^ o - 1)) ∧ w' = w := by
  have h1 := wrap_pow ho
  have h2 := wrap_pow' ho
  go_enter Try.func79, Try.ntmps79
  go_wp2
  go_ret
  exact ⟨ret_int h2, rfl⟩

theorem owns_row' {w : World} {B n c : Nat} {a : Option Addr} {l : List Int} (hn : n = l.length) (h : w.ownsRow B 3 1 (.slice a n c) n (vals l)) : Row w a n (fun i => l.getD i 0) := by
  subst hn
  obtain ⟨a', c', e, hr⟩ := owns_row h
  cases e
  exact hr

theorem owns_sts' {w : World} {B n c : Nat} {a : Option Addr} {l : List St3} (hn : n = l.length) (h : w.ownsRow B 75 3 (.slice a n c) n (vals3 l)) : Sts w a n (fun i => l.getD i (0, 0, 0)) := by
  subst hn
  obtain ⟨a', c', e, hr⟩ := owns_sts h
  cases e
  exact hr

/-- What a list of numbers that grows by one looks like in memory. -/
theorem list_step {w0 wr w1 : World} {v v' : Value} {l : List Int} {n : Nat} {x : Int} {o : Obj} (hb : Below w0.heap.size w0 wr) (ho : wr.ownsRow w0.heap.size 3 1 v n (vals l))
    (hown : w1.ownsRow w0.heap.size 3 1 v' (n + 1) (vals l ++ [.int .i64 x])) (hgrow : (wr.alloc o).grownBy w1 v.ownBlock) :
    (∃ a c, v' = .slice a (n + 1) c) ∧ Hid (Below w0.heap.size w0 w1 ∧ w1.ownsRow w0.heap.size 3 1 v' (n + 1) (vals (l ++ [x]))) := by
  refine ⟨?_, hid ⟨?_, ?_⟩⟩
  · rcases hown.2 with ⟨_, h0⟩ | ⟨g, cap, cur, rfl, _⟩
    · omega
    · exact ⟨_, _, rfl⟩
  · exact hb.grown ((World.grownBy_alloc _ _ _).trans hgrow) hb.size (fun b h => (ho.lt b h).1)
  · rw [← vals_snoc]
    exact hown

/-- And a list of steps. -/
theorem sts_step {w0 wr w1 : World} {v v' : Value} {l : List St3} {n : Nat} {t : St3} {o : Obj} (hb : Below w0.heap.size w0 wr) (ho : wr.ownsRow w0.heap.size 75 3 v n (vals3 l))
    (hown : w1.ownsRow w0.heap.size 75 3 v' (n + 1) (vals3 l ++ val3 t)) (hgrow : (wr.alloc o).grownBy w1 v.ownBlock) :
    (∃ a c, v' = .slice a (n + 1) c) ∧ Hid (Below w0.heap.size w0 w1 ∧ w1.ownsRow w0.heap.size 75 3 v' (n + 1) (vals3 (l ++ [t]))) := by
  refine ⟨?_, hid ⟨?_, ?_⟩⟩
  · rcases hown.2 with ⟨_, h0⟩ | ⟨g, cap, cur, rfl, _⟩
    · omega
    · exact ⟨_, _, rfl⟩
  · exact hb.grown ((World.grownBy_alloc _ _ _).trans hgrow) hb.size (fun b h => (ho.lt b h).1)
  · rw [← vals3_snoc]
    exact hown

set_option maxHeartbeats 1000000 in
theorem singles_any (o : Nat) (w : World) (ho : o ≤ 30) : Calls Try.prog 78 #[.int .i64 o] w fun e w' => Below w.heap.size w w' ∧ ∃ a c, e = .returned (.slice a o c) ∧ Row w' a o (fun i => (sng o).getD i 0) := by
  obtain ⟨i0, hi, hz0, hz1, hz2⟩ := info_parts Try.info3
  have HI : Hid (Try.prog.info? 3 = some i0 ∧ i0.zero = some (.int .i64 0) ∧ i0.size = 1 ∧ i0.bytes = 8) := ⟨hi, hz0, hz1, hz2⟩
  clear hi hz0 hz1 hz2
  go_enter Try.func78, Try.ntmps78
  go_wp2
  go_loopw [3, 6] (fun v i wr => ∃ (k : Nat) (va : Option Addr) (vc : Nat), k ≤ o ∧ i = .int .i64 k ∧ v = .slice va k vc ∧ Hid (Below w.heap.size w wr ∧ wr.ownsRow w.heap.size 3 1 (.slice va k vc) k (vals (sng k)))) (fun _ i _ => o - (intOf i).toNat)
  case atStart => exact ⟨0, none, 0, Nat.zero_le _, rfl, rfl, hid ⟨Below.refl _ _, World.ownsRow_nil _ _ _ _⟩⟩
  case round =>
    obtain ⟨k, va, vc, hk, rfl, rfl, HS⟩ := hrel
    by_cases hlt : k < o
    · have h1 := wrap_pow (o := k) (by omega)
      have HSz : Hid (w.heap.size ≤ wr.heap.size) := HS.out.1.size
      go_wp2_with (at_builtin; refine wpList_append_own_at _ rfl _ _ 26 rfl w.heap.size 3 i0 (.int .i64 0) 1 8 Try.underlying26 HI.out.1 HI.out.2.1 HI.out.2.2.1 HI.out.2.2.2 rfl (by decide) _ _ _ rfl (HS.out.2.alloc _) ⟨wr.heap.size, 0, none⟩ 1 1 [.int .i64 (2 ^ k)] rfl rfl (cell_one_new _ _ _) (ints_oneCell .i64 [(2 ^ k : Int)]) (by unfold maxLen; omega) (by omega) (by have := HSz.out; simp; omega) ?_; intro v' w4 hown hgrow _ _; obtain ⟨⟨a4, c4, rfl⟩, H4⟩ := list_step HS.out.1 HS.out.2 hown hgrow; clear hown hgrow)
      go_roundw
      case rel => exact ⟨k + 1, a4, c4, by omega, by go_num, rfl, H4⟩
      case measure => simp [intOf]; omega
    · obtain rfl : o = k := by omega
      go_wp2
      go_ret
      exact ⟨HS.out.1, va, vc, rfl, owns_row' (sng_len o).symm HS.out.2⟩

set_option maxHeartbeats 1000000 in
theorem choices_any (o : Nat) (w : World) (ho : o ≤ 30) : Calls Try.prog 80 #[.int .i64 o] w fun e w' => Below w.heap.size w w' ∧ ∃ a c, e = .returned (.slice a (2 ^ o - 1 : Nat) c) ∧ Row w' a (2 ^ o - 1) (fun i => (upTo (2 ^ o - 1)).getD i 0) := by
  obtain ⟨i0, hi, hz0, hz1, hz2⟩ := info_parts Try.info3
  have HI : Hid (Try.prog.info? 3 = some i0 ∧ i0.zero = some (.int .i64 0) ∧ i0.size = 1 ∧ i0.bytes = 8) := ⟨hi, hz0, hz1, hz2⟩
  clear hi hz0 hz1 hz2
  obtain ⟨m, hm⟩ : ∃ m, m = 2 ^ o - 1 := ⟨_, rfl⟩
  have hm30 : m ≤ 1073741824 := by have := two_pow_le ho; omega
  have HA : Hid (∀ w, Calls Try.prog 79 #[.int .i64 o] w fun e w' => e = .returned (.int .i64 m) ∧ w' = w) := by
    intro w
    have e : ((m : Nat) : Int) = 2 ^ o - 1 := by
      have : 1 ≤ 2 ^ o := Nat.one_le_two_pow
      rw [hm, Int.ofNat_sub this]
      simp
    rw [e]
    exact allBits_any o w ho
  rw [← hm]
  clear hm
  go_enter Try.func80, Try.ntmps80
  go_wp2
  go_loopw [3, 4] (fun v i wr => ∃ (k : Nat) (va : Option Addr) (vc : Nat), k ≤ m ∧ i = .int .i64 (k + 1) ∧ v = .slice va k vc ∧ Hid (Below w.heap.size w wr ∧ wr.ownsRow w.heap.size 3 1 (.slice va k vc) k (vals (upTo k)))) (fun _ i _ => m + 1 - (intOf i).toNat)
  case atStart => exact ⟨0, none, 0, Nat.zero_le _, rfl, rfl, hid ⟨Below.refl _ _, World.ownsRow_nil _ _ _ _⟩⟩
  case round =>
    obtain ⟨k, va, vc, hk, rfl, rfl, HS⟩ := hrel
    go_wp2_with fail
    refine (HA.out wr).mono ?_
    rintro e w1 ⟨rfl, rfl⟩
    by_cases hlt : k < m
    · have HSz : Hid (w.heap.size ≤ w1.heap.size) := HS.out.1.size
      have hle : (k : Int) + 1 ≤ m := by omega
      go_wp2_with (at_builtin; refine wpList_append_own_at _ rfl _ _ 26 rfl w.heap.size 3 i0 (.int .i64 0) 1 8 Try.underlying26 HI.out.1 HI.out.2.1 HI.out.2.2.1 HI.out.2.2.2 rfl (by decide) _ _ _ rfl (HS.out.2.alloc _) ⟨w1.heap.size, 0, none⟩ 1 1 [.int .i64 (k + 1)] rfl rfl (cell_one_new _ _ _) (ints_oneCell .i64 [(k + 1 : Int)]) (by unfold maxLen; omega) (by omega) (by have := HSz.out; simp; omega) ?_; intro v' w4 hown hgrow _ _; obtain ⟨⟨a4, c4, rfl⟩, H4⟩ := list_step HS.out.1 HS.out.2 hown hgrow; clear hown hgrow)
      go_roundw
      case rel => exact ⟨k + 1, a4, c4, by omega, by go_num, rfl, H4⟩
      case measure => simp [intOf]; omega
    · obtain rfl : m = k := by omega
      have hle : ¬ (m : Int) + 1 ≤ m := by omega
      go_wp2
      go_ret
      exact ⟨HS.out.1, va, vc, rfl, owns_row' (upTo_len m).symm HS.out.2⟩

theorem getD_lt {l : List Int} {i : Nat} (h : i < l.length) : l.getD i 0 = l[i] := by simp [h]

theorem prs_done {n : Int} {L1 L2 : List Int} {k : Nat} (hk : k < L1.length) :
    prs n (L1.take k) L2 ++ (L2.take L2.length).map (fun o => (n, L1.getD k 0, o)) = prs n (L1.take (k + 1)) L2 := by
  rw [List.take_length, List.take_succ_eq_append_getElem hk, prs_snoc, getD_lt hk]

theorem prs_more {n x : Int} {L L2 : List Int} {P : List St3} {j : Nat} (hj : j < L2.length) (h : L = L2) :
    (P ++ (L2.take j).map (fun o => (n, x, o))) ++ [(n, x, L.getD j 0)] = P ++ (L2.take (j + 1)).map (fun o => (n, x, o)) := by
  subst h
  rw [List.take_succ_eq_append_getElem hj, List.map_append, List.append_assoc, getD_lt hj]
  rfl

set_option maxHeartbeats 2000000 in
theorem pairs_any (n : Int) (a1 a2 : Option Addr) (c1 c2 : Nat) (L1 L2 : List Int) (n1 n2 : Nat) (w : World) (e1 : n1 = L1.length) (e2 : n2 = L2.length) (hl1 : n1 ≤ 30) (hl2 : n2 ≤ 1073741824) (h1 : Row w a1 n1 (fun i => L1.getD i 0)) (h2 : Row w a2 n2 (fun i => L2.getD i 0)) :
    Calls Try.prog 77 #[.int .i64 n, .slice a1 n1 c1, .slice a2 n2 c2] w fun e w' => Below w.heap.size w w' ∧ ∃ a c, e = .returned (.slice a (n1 * n2) c) ∧ w'.ownsRow w.heap.size 75 3 (.slice a (n1 * n2) c) (n1 * n2) (vals3 (prs n L1 L2)) := by
  obtain ⟨i0, hi, hz0, hz1, hz2⟩ := info_parts Try.info75
  have HI : Hid (Try.prog.info? 75 = some i0 ∧ i0.zero = some (.agg #[.int .i64 0, .int .i64 0, .int .i64 0]) ∧ i0.size = 3 ∧ i0.bytes = 24) := ⟨hi, hz0, hz1, hz2⟩
  clear hi hz0 hz1 hz2
  have E1 : Hid (n1 = L1.length) := e1
  have E2 : Hid (n2 = L2.length) := e2
  clear e1 e2
  obtain ⟨b1, o1, ha1, hc1⟩ := h1
  obtain ⟨b2, o2, ha2, hc2⟩ := h2
  have HC1 : Hid (∀ i, i < n1 → w.cell? ⟨b1, o1 + i, none⟩ = some (.int .i64 (L1.getD i 0))) := hc1
  have HC2 : Hid (∀ i, i < n2 → w.cell? ⟨b2, o2 + i, none⟩ = some (.int .i64 (L2.getD i 0))) := hc2
  clear hc1 hc2
  have hmul : ∀ k, k ≤ n1 → k * n2 ≤ 32212254720 := fun k hk => by
    have : k * n2 ≤ 30 * 1073741824 := Nat.mul_le_mul (by omega) hl2
    omega
  have HM : Hid (∀ k, k ≤ n1 → k * n2 ≤ 32212254720) := hmul
  clear hmul
  go_enter Try.func77, Try.ntmps77
  go_wp2
  go_loopw [7, 14] (fun v i wr => ∃ (k m : Nat) (va : Option Addr) (vc : Nat), k ≤ n1 ∧ i = .int .i64 k ∧ v = .slice va m vc ∧ Hid (m = k * n2 ∧ Below w.heap.size w wr ∧ wr.ownsRow w.heap.size 75 3 (.slice va m vc) m (vals3 (prs n (L1.take k) L2)))) (fun _ i _ => n1 - (intOf i).toNat)
  case atStart => exact ⟨0, 0, none, 0, Nat.zero_le _, rfl, rfl, hid ⟨by simp, Below.refl _ _, World.ownsRow_nil _ _ _ _⟩⟩
  case round =>
    obtain ⟨k, m, va, vc, hk, rfl, rfl, HS⟩ := hrel
    by_cases hlt : k < n1
    · obtain rfl := ha1 (by omega)
      have hck := HC1.out k hlt
      rw [← HS.out.2.1.cell (p := ⟨b1, o1 + k, none⟩) (World.block_lt_of_cell? _ _ hck)] at hck
      have HMk := HM.out k hk
      obtain ⟨x, hx⟩ : ∃ x, x = L1.getD k 0 := ⟨_, rfl⟩
      rw [← hx] at hck
      have HX : Hid (x = L1.getD k 0) := hx
      clear hx
      go_wp2
      go_loopw [7, 20] (fun v i wr => ∃ (j m' : Nat) (va : Option Addr) (vc : Nat), j ≤ n2 ∧ i = .int .i64 j ∧ v = .slice va m' vc ∧ Hid (m' = k * n2 + j ∧ Below w.heap.size w wr ∧ wr.ownsRow w.heap.size 75 3 (.slice va m' vc) m' (vals3 (prs n (L1.take k) L2 ++ (L2.take j).map (fun o => (n, x, o)))))) (fun _ i _ => n2 - (intOf i).toNat)
      case atStart => exact ⟨0, m, va, vc, Nat.zero_le _, rfl, rfl, hid ⟨HS.out.1, HS.out.2.1, by simpa using HS.out.2.2⟩⟩
      case round =>
        obtain ⟨j, m', va', vc', hj, rfl, rfl, HT⟩ := hrel
        by_cases hlt2 : j < n2
        · obtain rfl := ha2 (by omega)
          have hcj := HC2.out j hlt2
          rw [← HT.out.2.1.cell (p := ⟨b2, o2 + j, none⟩) (World.block_lt_of_cell? _ _ hcj)] at hcj
          obtain ⟨y, hy⟩ : ∃ y, y = L2.getD j 0 := ⟨_, rfl⟩
          rw [← hy] at hcj
          have HY : Hid (y = L2.getD j 0) := hy
          clear hy
          have HSz : Hid (w.heap.size ≤ wr.heap.size) := HT.out.2.1.size
          have HMm : Hid (m' ≤ 33285996544) := by have := HT.out.1; show _ ≤ _; omega
          go_wp2_with (at_builtin; refine wpList_append_own_at _ rfl _ _ 63 rfl w.heap.size 75 i0 (.agg #[.int .i64 0, .int .i64 0, .int .i64 0]) 3 24 Try.underlying63 HI.out.1 HI.out.2.1 HI.out.2.2.1 HI.out.2.2.2 rfl (by decide) _ _ _ rfl (HT.out.2.2.alloc _) ⟨wr.heap.size, 0, none⟩ 1 1 (val3 (n, x, y)) rfl rfl (cell_three_new _ _ _) (by intro u hu; exact vals3_one [(n, x, y)] u (by simpa [vals3] using hu)) (by have := HMm.out; unfold maxLen; omega) (by have := HMm.out; omega) (by have := HSz.out; simp; omega) ?_; intro v' w4 hown hgrow _ _; obtain ⟨⟨a4, c4, rfl⟩, H4⟩ := sts_step HT.out.2.1 HT.out.2.2 hown hgrow; clear hown hgrow)
          go_roundw
          case rel => exact ⟨j + 1, m' + 1, a4, c4, by omega, by go_num, rfl, hid ⟨by have := HT.out.1; omega, H4.out.1, by have := H4.out.2; rw [HY.out, prs_more (by rw [← E2.out]; exact hlt2) rfl] at this; exact this⟩⟩
          case measure => simp [intOf]; omega
        · obtain rfl : n2 = j := by omega
          go_wp2
          go_roundw
          case rel => exact ⟨k + 1, m', va', vc', by omega, by go_num, rfl, hid ⟨by rw [Nat.add_mul, Nat.one_mul]; exact HT.out.1, HT.out.2.1, by have := HT.out.2.2; rw [HX.out, E2.out, prs_done (by rw [← E1.out]; exact hlt)] at this; exact this⟩⟩
          case measure => simp [intOf]; omega
    · obtain rfl : n1 = k := by omega
      obtain ⟨rfl, hb, ho⟩ := HS.out
      rw [E1.out, List.take_length, ← E1.out] at ho
      have HF : Hid (Below w.heap.size w wr ∧ wr.ownsRow w.heap.size 75 3 (.slice va (n1 * n2) vc) (n1 * n2) (vals3 (prs n L1 L2))) := ⟨hb, ho⟩
      clear hb ho HS
      go_wp2
      go_ret
      exact ⟨HF.out.1, va, vc, rfl, HF.out.2⟩

end Go.Proofs.Ytjenkhphngiphaa

namespace Go.Proofs.Ytjenkhphngiphaa
open Go.RowKit

theorem owns_base {w : World} {b b' e s n : Nat} {v : Value} {xs : List Value} (h : w.ownsRow b' e s v n xs) (hb : b ≤ b') : w.ownsRow b e s v n xs := by
  refine ⟨h.1, ?_⟩
  rcases h.2 with h0 | ⟨g, cap, cur, h1, h2, h3⟩
  · exact Or.inl h0
  · exact Or.inr ⟨g, cap, cur, h1, Nat.le_trans hb h2, h3⟩

/-- A list of steps is answered that nothing else holds. -/
def StOwn (B : Nat) (l : List St3) (e : Ending) (w : World) : Prop :=
  ∃ a c, e = .returned (.slice a l.length c) ∧ w.ownsRow B 75 3 (.slice a l.length c) l.length (vals3 l)

theorem pairs_own {n : Int} {a1 a2 : Option Addr} {c1 c2 : Nat} {L1 L2 : List Int} {n1 n2 : Nat} {w : World} {b : Nat} (e1 : n1 = L1.length) (e2 : n2 = L2.length) (hl1 : n1 ≤ 30) (hl2 : n2 ≤ 1073741824) (h1 : Row w a1 n1 (fun i => L1.getD i 0)) (h2 : Row w a2 n2 (fun i => L2.getD i 0)) (hb : b ≤ w.heap.size) {l : List St3} (hl : prs n L1 L2 = l) :
    Calls Try.prog 77 #[.int .i64 n, .slice a1 n1 c1, .slice a2 n2 c2] w fun e w' => Below w.heap.size w w' ∧ StOwn b l e w' := by
  subst hl
  refine (pairs_any n a1 a2 c1 c2 L1 L2 n1 n2 w e1 e2 hl1 hl2 h1 h2).mono ?_
  rintro e w' ⟨h, a, c, rfl, ho⟩
  have e : (prs n L1 L2).length = n1 * n2 := by rw [prs_len, e1, e2]
  exact ⟨h, a, c, by rw [e], by rw [e]; exact owns_base ho hb⟩

theorem one_row' (w : World) (r : Int) (t : TypeId) : Row (w.alloc (.cells #[.int .i64 r] t)) (some ⟨w.heap.size, 0, none⟩) 1 (fun i => [r].getD i 0) :=
  ⟨w.heap.size, 0, fun _ => rfl, fun i hi => by
    obtain rfl : i = 0 := by omega
    exact cell_of_alloc rfl⟩

theorem stK_xor {n k : Int} {ins : List Int} {o : Nat} (h : k = 4 ∨ k = 5) : prs n ins (sng o) = stK n k ins o := by unfold stK; rw [if_pos h]
theorem stK_and {n : Int} {ins : List Int} {o : Nat} : prs n [-1] [2 ^ o - 1] = stK n 6 ins o := by unfold stK; rw [if_neg (by decide), if_pos rfl]
theorem stK_or {n : Int} {ins : List Int} {o : Nat} : prs n [-1] (upTo (2 ^ o - 1)) = stK n 7 ins o := by unfold stK; rw [if_neg (by decide), if_neg (by decide), if_pos rfl]
theorem stK_end {n k : Int} {ins : List Int} {o : Nat} (h : k = 2 ∨ k = 3) : prs n ins [0] = stK n k ins o := by unfold stK; rw [if_neg (by omega), if_neg (by omega), if_neg (by omega), if_pos h]
theorem stK_no {n k : Int} {ins : List Int} {o : Nat} (h4 : k ≠ 4) (h5 : k ≠ 5) (h6 : k ≠ 6) (h7 : k ≠ 7) (h2 : k ≠ 2) (h3 : k ≠ 3) : stK n k ins o = [] := by unfold stK; rw [if_neg (by omega), if_neg (by omega), if_neg (by omega), if_neg (by omega)]

set_option maxHeartbeats 4000000 in
theorem ofNode_aux (na fa : Option Addr) (N nc F fc : Nat) (M : Nat → ByteArray) (K A B : Nat → Int) (k : Nat) (w : World) (hp : Prc w na N nc fa F M K A B) (he : ChkIs N F M K A B 0) (hk : k < N) (κ : Int) (oA oB : Nat) (lB : List Int) (hκ : K k = κ) (hoA : tally A k F = oA) (hoB : tally B k F = oB) (hlB : fl B k F = lB) :
    Calls Try.prog 45 #[.agg #[.slice na N nc, .slice fa F fc], .int .i64 k] w fun e w' => Below w.heap.size w w' ∧ StOwn w.heap.size (stK k κ lB oA) e w' := by
  have HEq : Hid (K k = κ ∧ tally A k F = oA ∧ tally B k F = oB ∧ fl B k F = lB) := ⟨hκ, hoA, hoB, hlB⟩
  have htB : oB ≤ 30 := by have := tally_le B k F; have := (chk_zero he).1.2; omega
  have htA : oA ≤ 30 := by have := tally_le A k F; have := (chk_zero he).1.2; omega
  clear hκ hoA hoB hlB
  have HE : Hid (ChkIs N F M K A B 0) := he
  have HP : Hid (Prc w na N nc fa F M K A B) := hp
  have hN20 : N ≤ 20 := (chk_zero he).1.1
  have hF30 : F ≤ 30 := (chk_zero he).1.2
  clear he hp
  obtain ⟨W, eW⟩ : ∃ x, x = w.alloc (.cells #[.slice na N nc, .slice fa F fc] 25) := ⟨_, rfl⟩
  have HW : Hid (Below w.heap.size w W ∧ W.heap.size = w.heap.size + 1) := by subst eW; exact ⟨box_below _ _, by simp⟩
  have HBx : Hid (∀ w1, Below W.heap.size W w1 → w1.cell? ⟨w.heap.size, 0, none⟩ = some (.slice na N nc) ∧ w1.cell? ⟨w.heap.size, 1, none⟩ = some (.slice fa F fc)) := fun w1 h => by
    have h' : Below (w.heap.size + 1) (w.alloc (.cells #[.slice na N nc, .slice fa F fc] 25)) w1 := by rw [← HW.out.2, ← eW]; exact h
    exact ⟨box_keep h' rfl, box_keep h' rfl⟩
  have HEW : Hid (w.alloc (.cells #[.slice na N nc, .slice fa F fc] 25) = W) := eW.symm
  have HPW : Hid (Prc W na N nc fa F M K A B) := HP.out.below HW.out.1
  clear eW
  have C1 : Hid (Calls Try.prog 75 #[.agg #[.slice na N nc, .slice fa F fc], .int .i64 k] W fun e w' => ∃ a c, e = .returned (.tuple #[.slice a oB c, .int .i64 0]) ∧ Row w' a oB (fun i => lB.getD i 0) ∧ Below W.heap.size W w') := by
    rw [← HEq.out.2.2.1, ← HEq.out.2.2.2]
    refine (ins_any na fa N nc F fc M K A B 0 k W HPW.out HE.out).mono ?_
    rintro e w' ⟨h1, ⟨h2, _⟩ | ⟨_, h2, _⟩ | ⟨_, _, a, c, rfl, hr⟩⟩
    · exact absurd rfl h2
    · exact absurd ⟨by omega, by omega⟩ h2
    · exact ⟨a, c, rfl, hr, h1⟩
  go_enter Try.func45, Try.ntmps45
  go_wp2_with fail
  rw [HEW.out]
  refine C1.out.mono ?_
  rintro e w1 ⟨a1, c1, rfl, hr1, hb1⟩
  have HB1 : Hid (Below W.heap.size W w1) := hb1
  obtain ⟨hc0, hc1⟩ := HBx.out w1 hb1
  have HP1 : Hid (Prc w1 na N nc fa F M K A B) := HPW.out.below hb1
  have C2 : Hid (Calls Try.prog 76 #[.agg #[.slice na N nc, .slice fa F fc], .int .i64 k] w1 fun e w' => ∃ a c, e = .returned (.tuple #[.slice a oA c, .int .i64 0]) ∧ Row w' a oA (fun i => (fl A k F).getD i 0) ∧ Below w1.heap.size w1 w') := by
    rw [← HEq.out.2.1]
    refine (outs_any na fa N nc F fc M K A B 0 k w1 HP1.out HE.out).mono ?_
    rintro e w' ⟨h1, ⟨h2, _⟩ | ⟨_, h2, _⟩ | ⟨_, _, a, c, rfl, hr⟩⟩
    · exact absurd rfl h2
    · exact absurd ⟨by omega, by omega⟩ h2
    · exact ⟨a, c, rfl, hr, h1⟩
  have HR1 : Hid (Row w1 a1 oB (fun i => lB.getD i 0)) := hr1
  clear hb1 hr1 C1
  go_wp2_with fail
  refine C2.out.mono ?_
  rintro e w2 ⟨a2, c2, rfl, hr2, hb2⟩
  have HB2 : Hid (Below W.heap.size W w2) := HB1.out.trans (hb2.mono HB1.out.size)
  have HBw2 : Hid (Below w.heap.size w w2) := HW.out.1.trans (HB2.out.mono HW.out.1.size)
  have HSz2 : Hid (w.heap.size ≤ w2.heap.size) := HBw2.out.size
  have HR2 : Hid (Row w2 a1 oB (fun i => lB.getD i 0)) := HR1.out.below hb2
  clear hc0 hc1 hr2
  obtain ⟨hc0, hc1⟩ := HBx.out w2 HB2.out
  obtain ⟨bn, on, han, hcn⟩ := HP1.out.nds.below hb2
  obtain rfl := han (by omega)
  obtain ⟨hn1, hn2⟩ := hcn k hk
  have HLB : Hid (oB = lB.length) := by rw [← HEq.out.2.2.1, ← HEq.out.2.2.2]; exact (fl_len B k F).symm
  rw [HEq.out.1] at hn2
  clear hb2 C2 HB1 HB2 HP1 HPW HP HBx HEW hcn han HE HR1
  by_cases h45 : κ = 4 ∨ κ = 5
  · have HG : Hid (Calls Try.prog 78 #[.int .i64 oA] w2 fun e w' => Below w2.heap.size w2 w' ∧ ∃ a c, e = .returned (.slice a oA c) ∧ Row w' a oA (fun i => (sng oA).getD i 0)) := singles_any oA w2 htA
    have HL : Hid (prs k lB (sng oA) = stK k κ lB oA) := stK_xor h45
    rcases h45 with rfl | rfl
    · go_wp2_with fail
      refine HG.out.mono ?_
      rintro e w3 ⟨hb3, a3, c3, rfl, hr3⟩
      have HB3 : Hid (Below w.heap.size w w3) := HBw2.out.trans (hb3.mono HBw2.out.size)
      have C4 : Hid (Calls Try.prog 77 #[.int .i64 k, .slice a1 oB c1, .slice a3 oA c3] w3 fun e w' => Below w3.heap.size w3 w' ∧ StOwn w.heap.size (stK k 4 lB oA) e w') := pairs_own HLB.out (sng_len oA).symm htB (by omega) (HR2.out.below hb3) hr3 HB3.out.size HL.out
      clear hb3 hr3 HG
      go_wp2_with fail
      refine C4.out.mono ?_
      rintro e w4 ⟨hb4, a4, c4, rfl, ho4⟩
      have HF : Hid (Below w.heap.size w w4 ∧ w4.ownsRow w.heap.size 75 3 (.slice a4 (stK k 4 lB oA).length c4) (stK k 4 lB oA).length (vals3 (stK k 4 lB oA))) := ⟨HB3.out.trans (hb4.mono HB3.out.size), ho4⟩
      clear hb4 ho4 C4
      go_wp2
      go_ret
      exact ⟨HF.out.1, _, _, rfl, HF.out.2⟩
    · go_wp2_with fail
      refine HG.out.mono ?_
      rintro e w3 ⟨hb3, a3, c3, rfl, hr3⟩
      have HB3 : Hid (Below w.heap.size w w3) := HBw2.out.trans (hb3.mono HBw2.out.size)
      have C4 : Hid (Calls Try.prog 77 #[.int .i64 k, .slice a1 oB c1, .slice a3 oA c3] w3 fun e w' => Below w3.heap.size w3 w' ∧ StOwn w.heap.size (stK k 5 lB oA) e w') := pairs_own HLB.out (sng_len oA).symm htB (by omega) (HR2.out.below hb3) hr3 HB3.out.size HL.out
      clear hb3 hr3 HG
      go_wp2_with fail
      refine C4.out.mono ?_
      rintro e w4 ⟨hb4, a4, c4, rfl, ho4⟩
      have HF : Hid (Below w.heap.size w w4 ∧ w4.ownsRow w.heap.size 75 3 (.slice a4 (stK k 5 lB oA).length c4) (stK k 5 lB oA).length (vals3 (stK k 5 lB oA))) := ⟨HB3.out.trans (hb4.mono HB3.out.size), ho4⟩
      clear hb4 ho4 C4
      go_wp2
      go_ret
      exact ⟨HF.out.1, _, _, rfl, HF.out.2⟩
  · by_cases h6 : κ = 6
    · subst h6
      clear h45
      have HA : Hid (∀ w, Calls Try.prog 79 #[.int .i64 oA] w fun e w' => e = .returned (.int .i64 (2 ^ oA - 1)) ∧ w' = w) := fun w => allBits_any oA w htA
      obtain ⟨U, eU⟩ : ∃ x, x = w2.alloc (.cells #[.int .i64 (-1)] 3) := ⟨_, rfl⟩
      have HU : Hid (Row U (some ⟨w2.heap.size, 0, none⟩) 1 (fun i => [(-1 : Int)].getD i 0) ∧ Below w.heap.size w U) := by subst eU; exact ⟨one_row' _ _ _, HBw2.out.alloc HBw2.out.size _⟩
      have HUe : Hid (w2.alloc (.cells #[.int .i64 (-1)] 3) = U) := eU.symm
      clear eU
      go_wp2_with fail
      rw [HUe.out]
      refine (HA.out U).mono ?_
      rintro e w3 ⟨rfl, rfl⟩
      have C4 : Hid (Calls Try.prog 77 #[.int .i64 k, .slice (some ⟨w2.heap.size, 0, none⟩) 1 1, .slice (some ⟨w3.heap.size, 0, none⟩) 1 1] (w3.alloc (.cells #[.int .i64 (2 ^ oA - 1)] 3)) fun e w' => Below w.heap.size w w' ∧ StOwn w.heap.size (stK k 6 lB oA) e w') := by
        have hb : Below w.heap.size w (w3.alloc (.cells #[.int .i64 (2 ^ oA - 1)] 3)) := HU.out.2.alloc HU.out.2.size _
        refine (pairs_own (l := stK k 6 lB oA) (L1 := [-1]) (L2 := [2 ^ oA - 1]) rfl rfl (by simp) (by simp) (HU.out.1.below (box_below _ _)) (one_row' _ _ _) hb.size stK_and).mono ?_
        rintro e w' ⟨h1, h2⟩
        exact ⟨hb.trans (h1.mono hb.size), h2⟩
      clear HA
      go_wp2_with fail
      refine C4.out.mono ?_
      rintro e w4 ⟨hb4, a4, c4, rfl, ho4⟩
      have HF : Hid (Below w.heap.size w w4 ∧ w4.ownsRow w.heap.size 75 3 (.slice a4 (stK k 6 lB oA).length c4) (stK k 6 lB oA).length (vals3 (stK k 6 lB oA))) := ⟨hb4, ho4⟩
      clear hb4 ho4 C4
      go_wp2
      go_ret
      exact ⟨HF.out.1, _, _, rfl, HF.out.2⟩
    · by_cases h7 : κ = 7
      · subst h7
        clear h45 h6
        obtain ⟨U, eU⟩ : ∃ x, x = w2.alloc (.cells #[.int .i64 (-1)] 3) := ⟨_, rfl⟩
        have HU : Hid (Row U (some ⟨w2.heap.size, 0, none⟩) 1 (fun i => [(-1 : Int)].getD i 0) ∧ Below w.heap.size w U) := by subst eU; exact ⟨one_row' _ _ _, HBw2.out.alloc HBw2.out.size _⟩
        have HUe : Hid (w2.alloc (.cells #[.int .i64 (-1)] 3) = U) := eU.symm
        clear eU
        have HG : Hid (Calls Try.prog 80 #[.int .i64 oA] U fun e w' => Below U.heap.size U w' ∧ ∃ a c, e = .returned (.slice a (2 ^ oA - 1 : Nat) c) ∧ Row w' a (2 ^ oA - 1) (fun i => (upTo (2 ^ oA - 1)).getD i 0)) := choices_any oA U htA
        go_wp2_with fail
        rw [HUe.out]
        refine HG.out.mono ?_
        rintro e w3 ⟨hb3, a3, c3, rfl, hr3⟩
        have HB3 : Hid (Below w.heap.size w w3) := HU.out.2.trans (hb3.mono HU.out.2.size)
        have C4 : Hid (Calls Try.prog 77 #[.int .i64 k, .slice (some ⟨w2.heap.size, 0, none⟩) 1 1, .slice a3 (2 ^ oA - 1) c3] w3 fun e w' => Below w3.heap.size w3 w' ∧ StOwn w.heap.size (stK k 7 lB oA) e w') :=
          pairs_own (L1 := [-1]) rfl (upTo_len _).symm (by simp) (by have := two_pow_le htA; omega) (HU.out.1.below hb3) hr3 HB3.out.size stK_or
        clear hb3 hr3 HG
        go_wp2_with fail
        refine C4.out.mono ?_
        rintro e w4 ⟨hb4, a4, c4, rfl, ho4⟩
        have HF : Hid (Below w.heap.size w w4 ∧ w4.ownsRow w.heap.size 75 3 (.slice a4 (stK k 7 lB oA).length c4) (stK k 7 lB oA).length (vals3 (stK k 7 lB oA))) := ⟨HB3.out.trans (hb4.mono HB3.out.size), ho4⟩
        clear hb4 ho4 C4
        go_wp2
        go_ret
        exact ⟨HF.out.1, _, _, rfl, HF.out.2⟩
      · by_cases h23 : κ = 2 ∨ κ = 3
        · have C4 : Hid (Calls Try.prog 77 #[.int .i64 k, .slice a1 oB c1, .slice (some ⟨w2.heap.size, 0, none⟩) 1 1] (w2.alloc (.cells #[.int .i64 0] 3)) fun e w' => Below w.heap.size w w' ∧ StOwn w.heap.size (stK k κ lB oA) e w') := by
            have hb : Below w.heap.size w (w2.alloc (.cells #[.int .i64 0] 3)) := HBw2.out.alloc HBw2.out.size _
            refine (pairs_own (l := stK k κ lB oA) (L2 := [0]) HLB.out rfl htB (by simp) (HR2.out.below (box_below _ _)) (one_row' _ _ _) hb.size (stK_end h23)).mono ?_
            rintro e w' ⟨h1, h2⟩
            exact ⟨hb.trans (h1.mono hb.size), h2⟩
          clear h45 h6 h7
          rcases h23 with rfl | rfl
          · go_wp2_with fail
            refine C4.out.mono ?_
            rintro e w4 ⟨hb4, a4, c4, rfl, ho4⟩
            have HF : Hid (Below w.heap.size w w4 ∧ w4.ownsRow w.heap.size 75 3 (.slice a4 (stK k 2 lB oA).length c4) (stK k 2 lB oA).length (vals3 (stK k 2 lB oA))) := ⟨hb4, ho4⟩
            clear hb4 ho4 C4
            go_wp2
            go_ret
            exact ⟨HF.out.1, _, _, rfl, HF.out.2⟩
          · go_wp2_with fail
            refine C4.out.mono ?_
            rintro e w4 ⟨hb4, a4, c4, rfl, ho4⟩
            have HF : Hid (Below w.heap.size w w4 ∧ w4.ownsRow w.heap.size 75 3 (.slice a4 (stK k 3 lB oA).length c4) (stK k 3 lB oA).length (vals3 (stK k 3 lB oA))) := ⟨hb4, ho4⟩
            clear hb4 ho4 C4
            go_wp2
            go_ret
            exact ⟨HF.out.1, _, _, rfl, HF.out.2⟩
        · have HL : Hid (stK k κ lB oA = []) := stK_no (by omega) (by omega) h6 h7 (by omega) (by omega)
          have q4 : (κ == 4) = false := beq_eq_false_iff_ne.2 (by omega)
          have q5 : (κ == 5) = false := beq_eq_false_iff_ne.2 (by omega)
          have q6 : (κ == 6) = false := beq_eq_false_iff_ne.2 (by omega)
          have q7 : (κ == 7) = false := beq_eq_false_iff_ne.2 (by omega)
          have q2 : (κ == 2) = false := beq_eq_false_iff_ne.2 (by omega)
          have q3 : (κ == 3) = false := beq_eq_false_iff_ne.2 (by omega)
          clear h45 h6 h7 h23
          go_wp2
          go_ret
          exact ⟨HBw2.out, none, 0, by rw [HL.out]; rfl, by rw [HL.out]; exact World.ownsRow_nil _ _ _ _⟩

theorem ofNode_any (na fa : Option Addr) (N nc F fc : Nat) (M : Nat → ByteArray) (K A B : Nat → Int) (k : Nat) (w : World) (hp : Prc w na N nc fa F M K A B) (he : ChkIs N F M K A B 0) (hk : k < N) :
    Calls Try.prog 45 #[.agg #[.slice na N nc, .slice fa F fc], .int .i64 k] w fun e w' => Below w.heap.size w w' ∧ StOwn w.heap.size (stK k (K k) (fl B k F) (tally A k F)) e w' :=
  ofNode_aux na fa N nc F fc M K A B k w hp he hk _ _ _ _ rfl rfl rfl rfl

end Go.Proofs.Ytjenkhphngiphaa

namespace Go.Proofs.Ytjenkhphngiphaa
open Go.RowKit

/-- What Of answers: Check's error, or too many, or the steps. -/
def SpIs (e0 : Int) (l : List St3) (e : Ending) (w : World) : Prop :=
  (e0 ≠ 0 ∧ e = .returned (.tuple #[.slice none 0 0, .int .i64 e0])) ∨ (e0 = 0 ∧ 60 < l.length ∧ e = .returned (.tuple #[.slice none 0 0, .int .i64 2])) ∨
    (e0 = 0 ∧ l.length ≤ 60 ∧ ∃ a c, e = .returned (.tuple #[.slice a l.length c, .int .i64 0]) ∧ l.length ≤ c ∧ Sts w a l.length (fun i => l.getD i (0, 0, 0)))

theorem owns_cap {w : World} {b e s n c : Nat} {a : Option Addr} {xs : List Value} (h : w.ownsRow b e s (.slice a n c) n xs) : n ≤ c := by
  rcases h.2 with ⟨h1, h2⟩ | ⟨g, cap, cur, h1, _, _, h2, _⟩
  · omega
  · cases h1; exact h2

/-- 'all = append(all, l...)', l a list of steps that is not nil. -/
theorem sts_join {w0 wr w1 : World} {v v' : Value} {l m : List St3} (hb : Below w0.heap.size w0 wr) (ho : wr.ownsRow w0.heap.size 75 3 v l.length (vals3 l))
    (hown : w1.ownsRow w0.heap.size 75 3 v' (l.length + m.length) (vals3 l ++ vals3 m)) (hgrow : wr.grownBy w1 v.ownBlock) :
    ∃ a c, v' = .slice a (l ++ m).length c ∧ Hid (Below w0.heap.size w0 w1 ∧ w1.ownsRow w0.heap.size 75 3 (.slice a (l ++ m).length c) (l ++ m).length (vals3 (l ++ m))) := by
  have h : w1.ownsRow w0.heap.size 75 3 v' (l ++ m).length (vals3 (l ++ m)) := by rw [List.length_append, ← vals3_append]; exact hown
  obtain ⟨a, c, rfl, _⟩ := owns_sts h
  exact ⟨a, c, rfl, hid ⟨hb.grown hgrow hb.size (fun b h => (ho.lt b h).1), h⟩⟩

theorem join_cells {w : World} {b n c : Nat} {l : List St3} {x : Addr} (h : w.ownsRow b 75 3 (.slice (some x) n c) n (vals3 l)) : ∀ j u, (vals3 l)[j]? = some u → w.cell? (x.add j) = some u := by
  rcases h.2 with ⟨h1, _⟩ | ⟨g, cap, cur, h1, _⟩
  · cases h1
  · cases h1
    exact fun j u hj => h.cells (g := g) rfl j u hj

theorem none_nil {w : World} {b n c : Nat} {l : List St3} (h : w.ownsRow b 75 3 (.slice none n c) n (vals3 l)) : n = 0 ∧ c = 0 := by
  rcases h.2 with ⟨h1, h2⟩ | ⟨g, cap, cur, h1, _⟩
  · cases h1; exact ⟨rfl, rfl⟩
  · cases h1

set_option maxHeartbeats 4000000 in
theorem of_any (na fa : Option Addr) (N nc F fc : Nat) (M : Nat → ByteArray) (K A B : Nat → Int) (e0 : Int) (w : World) (hp : Prc w na N nc fa F M K A B) (he : ChkIs N F M K A B e0) :
    Calls Try.prog 20 #[.agg #[.slice na N nc, .slice fa F fc]] w fun e w' => Below w.heap.size w w' ∧ SpIs e0 (stAll K A B F N) e w' := by
  have HE : Hid (ChkIs N F M K A B e0) := he
  have HP : Hid (Prc w na N nc fa F M K A B) := hp
  have hNN := hp.nN
  clear he hp
  obtain ⟨i0, hi, hz0, hz1, hz2⟩ := info_parts Try.info75
  have HI : Hid (Try.prog.info? 75 = some i0 ∧ i0.zero = some (.agg #[.int .i64 0, .int .i64 0, .int .i64 0]) ∧ i0.size = 3 ∧ i0.bytes = 24) := ⟨hi, hz0, hz1, hz2⟩
  clear hi hz0 hz1 hz2
  obtain ⟨W, eW⟩ : ∃ x, x = w.alloc (.cells #[.slice na N nc, .slice fa F fc] 25) := ⟨_, rfl⟩
  have HW : Hid (Below w.heap.size w W ∧ W.heap.size = w.heap.size + 1) := by subst eW; exact ⟨box_below _ _, by simp⟩
  have HBx : Hid (∀ w1, Below W.heap.size W w1 → w1.cell? ⟨w.heap.size, 0, none⟩ = some (.slice na N nc) ∧ w1.cell? ⟨w.heap.size, 1, none⟩ = some (.slice fa F fc)) := fun w1 h => by
    have h' : Below (w.heap.size + 1) (w.alloc (.cells #[.slice na N nc, .slice fa F fc] 25)) w1 := by rw [← HW.out.2, ← eW]; exact h
    exact ⟨box_keep h' rfl, box_keep h' rfl⟩
  have HEW : Hid (w.alloc (.cells #[.slice na N nc, .slice fa F fc] 25) = W) := eW.symm
  have HPW : Hid (Prc W na N nc fa F M K A B) := HP.out.below HW.out.1
  clear eW
  have C1 : Hid (Calls Try.prog 44 #[.agg #[.slice na N nc, .slice fa F fc]] W fun e w' => e = .returned (.int .i64 e0) ∧ Below W.heap.size W w') := procCheck_any na fa N nc F fc M K A B e0 W HPW.out HE.out
  go_enter Try.func20, Try.ntmps20
  go_wp2_with fail
  rw [HEW.out]
  refine C1.out.mono ?_
  rintro e w1 ⟨rfl, hb1⟩
  have HB1 : Hid (Below W.heap.size W w1) := hb1
  obtain ⟨hc0, hc1⟩ := HBx.out w1 hb1
  clear hb1 C1
  by_cases hz : e0 = 0
  · subst hz
    have hN20 : N ≤ 20 := (chk_zero HE.out).1.1
    have hF30 : F ≤ 30 := (chk_zero HE.out).1.2
    go_wp2
    go_loopw [5, 15] (fun v i wr => ∃ (k : Nat) (va : Option Addr) (vc : Nat), k ≤ N ∧ i = .int .i64 k ∧ v = .slice va (stAll K A B F k).length vc ∧ Hid (Below W.heap.size W wr ∧ wr.ownsRow W.heap.size 75 3 (.slice va (stAll K A B F k).length vc) (stAll K A B F k).length (vals3 (stAll K A B F k)))) (fun _ i _ => N - (intOf i).toNat)
    case atStart => exact ⟨0, none, 0, Nat.zero_le _, rfl, rfl, hid ⟨HB1.out, World.ownsRow_nil _ _ _ _⟩⟩
    case round =>
      obtain ⟨k, va, vc, hk, rfl, rfl, HS⟩ := hrel
      clear hc0 hc1
      obtain ⟨hc0, hc1⟩ := HBx.out wr HS.out.1
      by_cases hlt : k < N
      · have C2 : Hid (Calls Try.prog 45 #[.agg #[.slice na N nc, .slice fa F fc], .int .i64 k] wr fun e w' => Below wr.heap.size wr w' ∧ StOwn wr.heap.size (stK k (K k) (fl B k F) (tally A k F)) e w') := ofNode_any na fa N nc F fc M K A B k wr (HPW.out.below HS.out.1) HE.out hlt
        have HL1 : Hid ((stAll K A B F k).length ≤ 21474836480) := by have := stAll_len (K := K) (A := A) (B := B) hF30 k; show _ ≤ _; omega
        have HL2 : Hid ((stK k (K k) (fl B k F) (tally A k F)).length ≤ 1073741824) := stK_len (by rw [fl_len]; have := tally_le B k F; omega) (by have := tally_le A k F; omega)
        have HNx : Hid (stAll K A B F (k + 1) = stAll K A B F k ++ stK k (K k) (fl B k F) (tally A k F)) := rfl
        generalize hlk : stK k (K k) (fl B k F) (tally A k F) = lk at *
        generalize hla : stAll K A B F k = la at *
        clear hlk hla
        go_wp2_with fail
        refine C2.out.mono ?_
        rintro e w3 ⟨hb3, a3, c3, rfl, ho3⟩
        have HB3 : Hid (Below W.heap.size W w3) := HS.out.1.trans (hb3.mono HS.out.1.size)
        have HO3 : Hid (w3.ownsRow W.heap.size 75 3 (.slice va la.length vc) la.length (vals3 la)) := below_ownsRow HS.out.2 hb3
        have HL3 : Hid (w3.ownsRow wr.heap.size 75 3 (.slice a3 lk.length c3) lk.length (vals3 lk)) := ho3
        clear hb3 ho3 C2
        cases a3 with
        | none =>
          obtain ⟨h0, rfl⟩ := none_nil HL3.out
          have e0 : lk = [] := List.length_eq_zero_iff.1 h0
          subst e0
          have HNx' : Hid (stAll K A B F (k + 1) = la) := by have := HNx.out; rw [List.append_nil] at this; exact this
          go_wp2_with (at_builtin; refine wpList_append_own_none rfl _ _ 63 rfl W.heap.size 75 i0 3 Try.underlying63 HI.out.1 _ _ _ rfl HO3.out rfl ?_)
          go_roundw
          case rel => exact ⟨k + 1, va, vc, by omega, by go_num, by rw [HNx'.out], hid (by rw [HNx'.out]; exact ⟨HB3.out, HO3.out⟩)⟩
          case measure => simp [intOf]; omega
        | some x =>
          go_wp2_with (at_builtin; refine wpList_append_own_at _ rfl _ _ 63 rfl W.heap.size 75 i0 (.agg #[.int .i64 0, .int .i64 0, .int .i64 0]) 3 24 Try.underlying63 HI.out.1 HI.out.2.1 HI.out.2.2.1 HI.out.2.2.2 rfl (by decide) _ _ _ rfl HO3.out x lk.length c3 (vals3 lk) rfl (vals3_len lk) (join_cells HL3.out) (vals3_one lk) (by have := HL1.out; have := HL2.out; unfold maxLen; omega) (by have := HL1.out; have := HL2.out; omega) HB3.out.size ?_; intro v' w4 hown hgrow _ _; obtain ⟨a4, c4, rfl, H4⟩ := sts_join HB3.out HO3.out hown hgrow; clear hown hgrow)
          go_roundw
          case rel => exact ⟨k + 1, a4, c4, by omega, by go_num, by rw [HNx.out, List.length_append], hid (by rw [HNx.out]; exact H4.out)⟩
          case measure => simp [intOf]; omega
      · obtain rfl : N = k := by omega
        have HBw : Hid (Below w.heap.size w wr) := HW.out.1.trans (HS.out.1.mono HW.out.1.size)
        have HL1 : Hid ((stAll K A B F N).length ≤ 21474836480) := by have := stAll_len (K := K) (A := A) (B := B) hF30 N; show _ ≤ _; omega
        generalize hla : stAll K A B F N = la at *
        by_cases h60 : 60 < la.length
        · go_wp2
          go_ret2
          exact ⟨HBw.out, by rw [hla]; exact Or.inr (Or.inl ⟨rfl, h60, rfl⟩)⟩
        · go_wp2
          go_ret2
          exact ⟨HBw.out, by rw [hla]; exact Or.inr (Or.inr ⟨rfl, by omega, va, vc, rfl, owns_cap HS.out.2, owns_sts' rfl HS.out.2⟩)⟩
  · have hz' : (e0 != 0) = true := by rw [bne_iff_ne]; exact hz
    have HZ : Hid (e0 ≠ 0) := hz
    have HB2 : Hid (Below w.heap.size w w1) := HW.out.1.trans (HB1.out.mono HW.out.1.size)
    clear hz
    go_wp2
    go_ret2
    exact ⟨HB2.out, Or.inl ⟨HZ.out, rfl⟩⟩

end Go.Proofs.Ytjenkhphngiphaa

namespace Go.Proofs.Ytjenkhphngiphaa
open Go.RowKit

/-- The board of a process that has been checked. -/
structure Brd (w : World) (na : Option Addr) (N nc : Nat) (fa : Option Addr) (F : Nat) (sa ia oa : Option Addr) (M : Nat → ByteArray) (K A B : Nat → Int) (l : List St3) : Prop where
  prc : Prc w na N nc fa F M K A B
  chk : ChkIs N F M K A B 0
  sts : Sts w sa l.length (fun i => l.getD i (0, 0, 0))
  lis : l = stAll K A B F N
  few : l.length ≤ 60
  ins : Gr w ia N (fun j => tally B j F) (fun j i => (fl B j F).getD i 0)
  outs : Gr w oa N (fun j => tally A j F) (fun j i => (fl A j F).getD i 0)

theorem Brd.below {w w' : World} {na : Option Addr} {N nc : Nat} {fa : Option Addr} {F : Nat} {sa ia oa : Option Addr} {M : Nat → ByteArray} {K A B : Nat → Int} {l : List St3} (h : Brd w na N nc fa F sa ia oa M K A B l) (hb : Below w.heap.size w w') : Brd w' na N nc fa F sa ia oa M K A B l :=
  ⟨h.prc.below hb, h.chk, h.sts.below hb, h.lis, h.few, h.ins.below hb, h.outs.below hb⟩

/-- Is it a marking? -/
def mkOk (F n : Nat) (m : Nat → Int) : Bool := decide (n = F ∧ ∀ i, i < n → 0 ≤ m i ∧ m i ≤ 9)

theorem mkOk_len {F n : Nat} {m : Nat → Int} (h : n ≠ F) : mkOk F n m = false := by
  unfold mkOk
  rw [decide_eq_false_iff_not]
  exact fun hh => h hh.1

theorem mkOk_no {F n : Nat} {m : Nat → Int} (k : Nat) (hk : k < n) (h : m k < 0 ∨ 9 < m k) : mkOk F n m = false := by
  unfold mkOk
  rw [decide_eq_false_iff_not]
  intro hh
  have := hh.2 k hk
  omega

theorem mkOk_yes {n : Nat} {m : Nat → Int} (h : ∀ i, i < n → 0 ≤ m i ∧ m i ≤ 9) : mkOk n n m = true := by
  unfold mkOk
  rw [decide_eq_true_eq]
  exact ⟨rfl, h⟩

theorem mkOk_all {F n : Nat} {m : Nat → Int} (h : mkOk F n m = true) : n = F ∧ ∀ i, i < n → 0 ≤ m i ∧ m i ≤ 9 := by
  unfold mkOk at h
  rwa [decide_eq_true_eq] at h

theorem row_at {w wr : World} {b o n : Nat} {Z : Nat → Int} (hc : ∀ i, i < n → w.cell? ⟨b, o + i, none⟩ = some (.int .i64 (Z i))) (hb : Below w.heap.size w wr) {k : Nat} (hk : k < n) : wr.cell? ⟨b, o + k, none⟩ = some (.int .i64 (Z k)) := by
  rw [hb.cell (p := ⟨b, o + k, none⟩) (World.block_lt_of_cell? _ _ (hc k hk))]
  exact hc k hk

set_option maxHeartbeats 1000000 in
theorem isMarking_any (na fa sa ia oa : Option Addr) (N nc F fc Sn sc In ic On oc : Nat) (ma : Option Addr) (n mc : Nat) (m : Nat → Int) (w : World) (hn : n ≤ 140737488355328) (h : Row w ma n m) :
    Calls Try.prog 61 #[.agg #[.slice na N nc, .slice fa F fc, .slice sa Sn sc, .slice ia In ic, .slice oa On oc], .slice ma n mc] w fun e w' => e = .returned (.bool (mkOk F n m)) ∧ Below w.heap.size w w' := by
  by_cases hnF : n = F
  · subst hnF
    obtain ⟨b, o, ha, hc⟩ := h
    have HC : Hid (∀ i, i < n → w.cell? ⟨b, o + i, none⟩ = some (.int .i64 (m i))) := hc
    clear hc
    go_enter Try.func61, Try.ntmps61
    go_wp2
    go_loopw [15] (fun i wr => ∃ k : Nat, k ≤ n ∧ i = .int .i64 k ∧ Hid (∀ j, j < k → 0 ≤ m j ∧ m j ≤ 9) ∧ Hid (Below w.heap.size w wr)) (fun i _ => n - (intOf i).toNat)
    case atStart => exact ⟨0, Nat.zero_le _, rfl, hid (fun j hj => absurd hj (Nat.not_lt_zero _)), box_below _ _⟩
    case round =>
      obtain ⟨k, hk, rfl, HJ, HB⟩ := hrel
      by_cases hlt : k < n
      · obtain rfl := ha (by omega)
        have hck := row_at HC.out HB.out hlt
        by_cases h1 : m k < 0
        · go_wp2
          go_ret
          exact ⟨ret_bool (mkOk_no k hlt (Or.inl h1)).symm, HB.out⟩
        · by_cases h2 : 9 < m k
          · go_wp2
            go_ret
            exact ⟨ret_bool (mkOk_no k hlt (Or.inr h2)).symm, HB.out⟩
          · go_wp2
            go_roundw
            case rel => exact ⟨k + 1, by omega, by go_num, hid (snoc_all HJ.out ⟨by omega, by omega⟩), HB.out⟩
            case measure => simp [intOf]; omega
      · go_wp2
        go_ret
        exact ⟨ret_bool (mkOk_yes (fun i hi => HJ.out i (by omega))).symm, HB.out⟩
  · have hb : ((n : Int) != (F : Int)) = true := by rw [bne_iff_ne]; omega
    have HE : Hid (mkOk F n m = false) := mkOk_len hnF
    clear h hnF
    go_enter Try.func61, Try.ntmps61
    go_wp2
    go_ret
    exact ⟨ret_bool HE.out.symm, box_below _ _⟩

/-- The first marking. -/
def bgn (K A : Nat → Int) (i : Nat) : Int := if K (A i).toNat = 1 then 1 else 0

/-- What begin has laid till flow k. -/
structure Bg (w wr : World) (c : Array Value) (F : Nat) (K A : Nat → Int) (k : Nat) : Prop where
  below : Below (w.heap.size + 1) (w.alloc (.cells c 85)) wr
  row : wr.rowIs (w.heap.size + 1) 3 F (fun i => .int .i64 (if i < k then bgn K A i else 0))

theorem bg_start (w : World) (c : Array Value) (F : Nat) (K A : Nat → Int) : Bg w ((w.alloc (.cells c 85)).alloc (.cells (madeCells #[.int .i64 0] F) 3)) c F K A 0 := by
  refine ⟨(Below.refl _ _).alloc (by simp) _, ?_⟩
  have := World.rowIs_made (w.alloc (.cells c 85)) (.int .i64 0) F 3
  have e : (w.alloc (.cells c 85)).heap.size = w.heap.size + 1 := by simp
  rw [e] at this
  exact this.congr (fun i _ => by simp)

theorem Bg.hit {w wr : World} {c : Array Value} {F : Nat} {K A : Nat → Int} {k : Nat} (h : Bg w wr c F K A k) (o : Obj) (hb : bgn K A k = 1) : Bg w ((wr.setCell ⟨w.heap.size + 1, k, none⟩ (.int .i64 1)).alloc o) c F K A (k + 1) := by
  have hlt := h.row.lt
  refine ⟨(h.below.setCell (by show w.heap.size + 1 ≤ w.heap.size + 1; omega) _).alloc (by simp [World.setCell]; omega) _, ?_⟩
  refine ((h.row.set k _).alloc o).congr (fun i _ => ?_)
  by_cases e : i = k
  · subst e
    simp [hb]
  · by_cases e2 : i < k
    · simp [e, e2, Nat.lt_succ_of_lt e2]
    · simp [e, e2, show ¬ i < k + 1 by omega]

theorem Bg.miss {w wr : World} {c : Array Value} {F : Nat} {K A : Nat → Int} {k : Nat} (h : Bg w wr c F K A k) (o : Obj) (hb : bgn K A k = 0) : Bg w (wr.alloc o) c F K A (k + 1) := by
  have hlt := h.row.lt
  refine ⟨h.below.alloc (by omega) _, ?_⟩
  refine (h.row.alloc o).congr (fun i _ => ?_)
  by_cases e : i = k
  · subst e
    simp [hb]
  · by_cases e2 : i < k
    · simp [e2, Nat.lt_succ_of_lt e2]
    · simp [e2, show ¬ i < k + 1 by omega]

set_option maxHeartbeats 1000000 in
theorem begin_any {na fa sa ia oa : Option Addr} {N nc F fc sc ic oc : Nat} {M : Nat → ByteArray} {K A B : Nat → Int} {l : List St3} {w : World} (h : Brd w na N nc fa F sa ia oa M K A B l) :
    Calls Try.prog 36 #[.agg #[.slice na N nc, .slice fa F fc, .slice sa l.length sc, .slice ia N ic, .slice oa N oc]] w fun e w' => Below w.heap.size w w' ∧ ∃ g, e = .returned (.slice (some ⟨g, 0, none⟩) F F) ∧ w'.rowIs g 3 F (fun i => .int .i64 (bgn K A i)) := by
  have HN : Hid (Nds w na N M K) := h.prc.nds
  have HF : Hid (Fls w fa F A B) := h.prc.fls
  have hz := chk_zero h.chk
  have HE : Hid (∀ i, i < F → (0 ≤ A i ∧ A i < N) ∧ (0 ≤ B i ∧ B i < N)) := endsOk_all hz.2.2.1
  have hF30 : F ≤ 30 := hz.1.2
  have hN20 : N ≤ 20 := hz.1.1
  clear hz h
  have hmk := run_make_row' (P := Try.prog) 26 3 (.int .i64 0) 8 Try.underlying26 Try.info3 rfl .i64 .i64 F (by omega) (by omega)
  have HS : Hid (Bg w ((w.alloc (.cells #[.slice na N nc, .slice fa F fc, .slice sa l.length sc, .slice ia N ic, .slice oa N oc] 85)).alloc (.cells (madeCells #[.int .i64 0] F) 3)) #[.slice na N nc, .slice fa F fc, .slice sa l.length sc, .slice ia N ic, .slice oa N oc] F K A 0) := bg_start _ _ _ _ _
  go_enter Try.func36, Try.ntmps36
  go_wp2
  clear hmk
  go_loopw [13] (fun i wr => ∃ k : Nat, k ≤ F ∧ i = .int .i64 k ∧ Hid (Bg w wr #[.slice na N nc, .slice fa F fc, .slice sa l.length sc, .slice ia N ic, .slice oa N oc] F K A k)) (fun i _ => F - (intOf i).toNat)
  case atStart => exact ⟨0, Nat.zero_le _, rfl, HS.out⟩
  case round =>
    obtain ⟨k, hk, rfl, HT⟩ := hrel
    clear HS
    have HB : Hid (Below w.heap.size w wr) := (box_below _ _).trans (HT.out.below.mono (by omega))
    have hs1 : w.heap.size + 1 < wr.heap.size := HT.out.row.lt
    have hs0 : w.heap.size < wr.heap.size := by omega
    by_cases hlt : k < F
    · obtain ⟨b, o, ha, hc⟩ := HF.out
      obtain rfl := ha (by omega)
      obtain ⟨h1, h2⟩ := Fls.at hc HB.out hlt
      have hE := HE.out k hlt
      obtain ⟨x, hx⟩ : ∃ x : Nat, A k = x := ⟨(A k).toNat, by omega⟩
      have hxN : x < N := by omega
      have hxN' : (x : Int) < N := by omega
      rw [hx] at h1
      obtain ⟨b2, o2, ha2, hc2⟩ := HN.out
      obtain rfl := ha2 (by omega)
      obtain ⟨h3, h4⟩ := Nds.at hc2 HB.out hxN
      have hp0 : wr.cell? ⟨w.heap.size, 0, none⟩ = some (.slice (some ⟨b2, o2, none⟩) N nc) := box_keep HT.out.below rfl
      have hl2 : b2 < wr.heap.size := World.block_lt_of_cell? _ _ h4
      have h5 : wr.cell? ⟨w.heap.size + 1, k, none⟩ = some (.int .i64 (if k < k then bgn K A k else 0)) := HT.out.row.cell hlt
      rw [if_neg (Nat.lt_irrefl k)] at h5
      have h6 := HT.out.row.frozen k
      have HX : Hid (bgn K A k = if K x = 1 then 1 else 0) := by show bgn K A k = _; unfold bgn; rw [hx]; simp
      clear hc hc2 ha ha2 hE hx
      by_cases hK : K x = 1
      · have hb' : (K x == 1) = true := beq_iff_eq.2 hK
        have HT2 := HT.out.hit (.cells #[.int .i64 x, .int .i64 (B k)] 83) (by rw [HX.out, if_pos hK])
        have HT3 : Hid (Bg w ((wr.setCell ⟨w.heap.size + 1, k, none⟩ (.int .i64 1)).alloc (.cells #[.int .i64 x, .int .i64 (B k)] 83)) #[.slice (some ⟨b2, o2, none⟩) N nc, .slice (some ⟨b, o, none⟩) F fc, .slice sa l.length sc, .slice ia N ic, .slice oa N oc] F K A (k + 1)) := HT2
        clear HT HT2 hK
        go_wp2
        go_roundw
        case rel => exact ⟨k + 1, by omega, by go_num, HT3.out⟩
        case measure => simp [intOf]; omega
      · have hb' : (K x == 1) = false := beq_eq_false_iff_ne.2 hK
        have HT3 : Hid (Bg w (wr.alloc (.cells #[.int .i64 x, .int .i64 (B k)] 83)) #[.slice (some ⟨b2, o2, none⟩) N nc, .slice (some ⟨b, o, none⟩) F fc, .slice sa l.length sc, .slice ia N ic, .slice oa N oc] F K A (k + 1)) := HT.out.miss _ (by rw [HX.out, if_neg hK])
        clear HT hK
        go_wp2
        go_roundw
        case rel => exact ⟨k + 1, by omega, by go_num, HT3.out⟩
        case measure => simp [intOf]; omega
    · obtain rfl : F = k := by omega
      go_wp2
      go_ret
      exact ⟨HB.out, _, rfl, HT.out.row.congr (fun i hi => by rw [if_pos hi])⟩

end Go.Proofs.Ytjenkhphngiphaa
