/- The document's True. -/
import Derived.Test.YtejombhfkobcbaaDoorRefT0
import Derived.Test.YtejombhfkobcbaaDoorHeld
import Derived.Deep.AppendLies
import Derived.RegionTactic
namespace Go.Proofs.YtejombhfkobcbaaDoor
open Go.RowKit

/-- The variables of True, all but what comes of the Kids: the boxes of the formula and of the word, n and m. -/
structure Tv (w : World) (B nb mb : Nat) (t : Fml) (a : Option Addr) (cap : Nat) (sa : Option Addr) (s sc : Nat) (la : Option Addr) (m lc n : Nat) : Prop where
  fx : Fx w B t a cap sa s sc la m lc
  cn : w.cell? ⟨nb, 0, none⟩ = some (.int .i64 n)
  cm : w.cell? ⟨mb, 0, none⟩ = some (.int .i64 m)

theorem Tv.below {w w' : World} {B nb mb : Nat} {t : Fml} {a : Option Addr} {cap : Nat} {sa : Option Addr} {s sc : Nat} {la : Option Addr} {m lc n : Nat} (h : Tv w B nb mb t a cap sa s sc la m lc n) (hb : Below w.heap.size w w') : Tv w' B nb mb t a cap sa s sc la m lc n :=
  ⟨h.fx.below hb, below_cell hb (Nat.le_refl _) h.cn, below_cell hb (Nat.le_refl _) h.cm⟩

/-- The lists of the first j Kids as cells. -/
def klist (V : Nat → Nat) (n j : Nat) : List Value := (List.range j).map fun i => .slice (some ⟨V i, 0, none⟩) n n
theorem klist_succ (V : Nat → Nat) (n j : Nat) : klist V n (j + 1) = klist V n j ++ [.slice (some ⟨V j, 0, none⟩) n n] := by simp [klist, List.range_succ]
theorem klist_len (V : Nat → Nat) (n j : Nat) : (klist V n j).length = j := by simp [klist]
theorem klist_at (V : Nat → Nat) (n j i : Nat) (h : i < j) : (klist V n j)[i]? = some (.slice (some ⟨V i, 0, none⟩) n n) := by simp [klist, h]
theorem klist_congr {V U : Nat → Nat} {n j : Nat} (h : ∀ i, i < j → V i = U i) : klist V n j = klist U n j := by
  unfold klist
  apply List.map_congr_left
  intro i hi
  rw [h i (List.mem_range.1 hi)]

/-- What was made of the first j Kids: the variable k in block kb, its lists behind that block. -/
structure Tk (w : World) (kb n j : Nat) (K : Nat → Nat → Bool) (v : Value) : Prop where
  kv : w.heap[kb]? = some (.cells #[v] 66 (0, 0))
  lists : ∃ V : Nat → Nat, w.ownsRow (kb + 1) 34 1 v j (klist V n j) ∧ ∀ i, i < j → w.rowIs (V i) 4 n (fun p => .bool (K i p))

theorem Tk.cell {w : World} {kb n j : Nat} {K : Nat → Nat → Bool} {v : Value} (h : Tk w kb n j K v) : w.cell? ⟨kb, 0, none⟩ = some v := cell_of_cells h.kv rfl
theorem Tk.lt {w : World} {kb n j : Nat} {K : Nat → Nat → Bool} {v : Value} (h : Tk w kb n j K v) : kb < w.heap.size := (Array.getElem?_eq_some_iff.1 h.kv).1

theorem owns_below {w w' : World} {base n : Nat} {e : TypeId} {v : Value} {xs : List Value} (h : w.ownsRow base e 1 v n xs) (hb : Below w.heap.size w w') : w'.ownsRow base e 1 v n xs := by
  refine ⟨h.1, ?_⟩
  rcases h.2 with h0 | ⟨g, cap, cur, h1, h2, h3, h4⟩
  · exact Or.inl h0
  · exact Or.inr ⟨g, cap, cur, h1, h2, (hb.block g (Array.getElem?_eq_some_iff.1 h3).1).trans h3, h4⟩

theorem Tk.below {w w' : World} {kb n j : Nat} {K : Nat → Nat → Bool} {v : Value} (h : Tk w kb n j K v) (hb : Below w.heap.size w w') : Tk w' kb n j K v := by
  obtain ⟨V, h1, h2⟩ := h.lists
  exact ⟨(hb.block _ h.lt).trans h.kv, V, owns_below h1 hb, fun i hi => rowIs_below (h2 i hi) hb⟩

theorem Tk.kb {w : World} {kb n j : Nat} {K : Nat → Nat → Bool} {v : Value} (h : Tk w kb n j K v) : ∃ a c, v = .slice a j c ∧ Kb w a j n K := by
  obtain ⟨V, h1, h2⟩ := h.lists
  rcases h1.2 with ⟨rfl, rfl⟩ | ⟨g, cap, cur, rfl, hg, _, hcap, _⟩
  · exact ⟨none, 0, rfl, 0, 0, fun hh => by omega, fun i hi => by omega⟩
  · refine ⟨some ⟨g, 0, none⟩, cap, rfl, g, 0, fun _ => rfl, fun i hi => ⟨some ⟨V i, 0, none⟩, n, ?_, rowIs_rowB (h2 i hi)⟩⟩
    have := h1.cells (g := g) rfl i _ (klist_at V n j i hi)
    rwa [addr_none] at this

/-- The block of the list is none of the rows' and lies behind kb. -/
theorem Tk.apart {w : World} {kb n j : Nat} {K : Nat → Nat → Bool} {v : Value} (h : Tk w kb n j K v) : ∀ g, v.ownBlock = some g → kb < g ∧ ∀ b' t' n' f', t' ≠ 34 → w.rowIs b' t' n' f' → b' ≠ g := by
  intro g hg
  obtain ⟨V, h1, _⟩ := h.lists
  rcases h1.2 with ⟨rfl, _⟩ | ⟨g', cap, cur, rfl, hg', hb, _⟩
  · simp [Value.ownBlock] at hg
  · simp [Value.ownBlock] at hg
    subst hg
    refine ⟨by omega, fun b' t' n' f' ht hr he => ?_⟩
    subst he
    obtain ⟨c', e', _⟩ := hr
    rw [hb] at e'
    injection e' with e'
    injection e' with _ e''
    exact ht e''.symm

theorem grown_block {w w' : World} {k : Option Nat} (h : w.grownBy w' k) {b : Nat} (hb : b < w.heap.size) (hk : k ≠ some b) : w'.heap[b]? = w.heap[b]? := h.block b hb (fun e => hk e.symm)

end Go.Proofs.YtejombhfkobcbaaDoor
