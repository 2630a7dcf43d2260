/- flowsAt, Ins, Outs. -/
import Derived.Test.YtnpdkpbhkjnbhaaDoorProc6
namespace Go.Proofs.YtnpdkpbhkjnbhaaDoor
open Go.RowKit

/-- The numbers below k of the flows whose end is x, rising. -/
def fl (X : Nat → Int) (x : Int) : Nat → List Int
  | 0 => []
  | k + 1 => if X k = x then fl X x k ++ [(k : Int)] else fl X x k

theorem fl_hit {X : Nat → Int} {x : Int} {k : Nat} (h : X k = x) : fl X x (k + 1) = fl X x k ++ [(k : Int)] := by simp [fl, h]
theorem fl_miss {X : Nat → Int} {x : Int} {k : Nat} (h : X k ≠ x) : fl X x (k + 1) = fl X x k := by simp [fl, h]

theorem fl_len (X : Nat → Int) (x : Int) : ∀ k, (fl X x k).length = tally X x k
  | 0 => rfl
  | k + 1 => by
    have := fl_len X x k
    by_cases h : X k = x
    · rw [fl_hit h, tally_hit h]; simp [this]
    · rw [fl_miss h, tally_miss h, this]

theorem mem_fl {X : Nat → Int} {x i : Int} : ∀ {k}, i ∈ fl X x k → ∃ j : Nat, i = j ∧ j < k ∧ X j = x
  | 0, h => by cases h
  | k + 1, h => by
    by_cases e : X k = x
    · rw [fl_hit e, List.mem_append, List.mem_singleton] at h
      rcases h with h | rfl
      · obtain ⟨j, h1, h2, h3⟩ := mem_fl h
        exact ⟨j, h1, by omega, h3⟩
      · exact ⟨k, rfl, by omega, e⟩
    · rw [fl_miss e] at h
      obtain ⟨j, h1, h2, h3⟩ := mem_fl h
      exact ⟨j, h1, by omega, h3⟩

/-- What a list that is made flow by flow looks like in memory. -/
theorem fl_step {w0 wr w1 : World} {v : Value} {X : Nat → Int} {x : Int} {k : Nat} {o : Obj} (hb : Below w0.heap.size w0 wr) (ho : wr.ownsRow w0.heap.size 3 1 v (tally X x k) (vals (fl X x k))) {v' : Value} (hX : X k = x)
    (hown : w1.ownsRow w0.heap.size 3 1 v' (tally X x k + 1) (vals (fl X x k) ++ [.int .i64 k])) (hgrow : (wr.alloc o).grownBy w1 v.ownBlock) :
    (∃ a c, v' = .slice a (tally X x k + 1) c) ∧ Hid (Below w0.heap.size w0 w1 ∧ w1.ownsRow w0.heap.size 3 1 v' (tally X x (k + 1)) (vals (fl X x (k + 1)))) := by
  refine ⟨?_, hid ⟨?_, ?_⟩⟩
  · rcases hown.2 with ⟨_, h0⟩ | ⟨g, cap, cur, rfl, _⟩
    · omega
    · exact ⟨_, _, rfl⟩
  · exact hb.grown ((World.grownBy_alloc _ _ _).trans hgrow) hb.size (fun b h => (ho.lt b h).1)
  · rw [tally_hit hX, fl_hit hX, ← vals_snoc]
    exact hown

theorem below_ownsRow {w w' : World} {B s n : Nat} {e : TypeId} {v : Value} {xs : List Value} (h : w.ownsRow B e s v n xs) (hb : Below w.heap.size w w') : w'.ownsRow B e s v n xs := by
  refine ⟨h.1, ?_⟩
  rcases h.2 with h0 | ⟨g, cap, cur, h1, h2, h3, h4⟩
  · exact Or.inl h0
  · exact Or.inr ⟨g, cap, cur, h1, h2, (hb.block g (Array.getElem?_eq_some_iff.1 h3).1).trans h3, h4⟩

theorem fl_row {w : World} {B : Nat} {a : Option Addr} {c : Nat} {X : Nat → Int} {x : Int} {k : Nat} (h : w.ownsRow B 3 1 (.slice a (tally X x k) c) (tally X x k) (vals (fl X x k))) : Row w a (tally X x k) (fun i => (fl X x k).getD i 0) := by
  rw [← fl_len] at h ⊢
  obtain ⟨a', c', e, hr⟩ := owns_row h
  cases e
  exact hr

/-- What Ins and Outs answer. -/
def FlIs (N F : Nat) (X : Nat → Int) (e0 x : Int) (e : Ending) (w : World) : Prop :=
  ((e0 ≠ 0 ∧ e = .returned (.tuple #[.slice none 0 0, .int .i64 e0])) ∨ (e0 = 0 ∧ ¬ (0 ≤ x ∧ x < N) ∧ e = .returned (.tuple #[.slice none 0 0, .int .i64 1])) ∨
       (e0 = 0 ∧ (0 ≤ x ∧ x < N) ∧ ∃ a c, e = .returned (.tuple #[.slice a (tally X x F) c, .int .i64 0]) ∧ Row w a (tally X x F) (fun i => (fl X x F).getD i 0)))

end Go.Proofs.YtnpdkpbhkjnbhaaDoor
