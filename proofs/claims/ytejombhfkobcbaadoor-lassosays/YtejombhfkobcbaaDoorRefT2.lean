/- The document's True: one Kid more. -/
import Derived.Test.YtejombhfkobcbaaDoorRefT1
namespace Go.Proofs.YtejombhfkobcbaaDoor
open Go.RowKit

theorem Tv.low {w w' : World} {B nb mb kb : Nat} {t : Fml} {a : Option Addr} {cap : Nat} {sa : Option Addr} {s sc : Nat} {la : Option Addr} {m lc n : Nat} (h : Tv w B nb mb t a cap sa s sc la m lc n) (hb : Below kb w w') (h1 : B + 1 < kb) (h2 : nb < kb) (h3 : mb < kb) : Tv w' B nb mb t a cap sa s sc la m lc n :=
  ⟨⟨below_cell' hb (by show B < kb; omega) h.fx.f0, below_cell' hb (by show B < kb; omega) h.fx.f1, below_cell' hb (by show B < kb; omega) h.fx.f2, below_cell' hb h1 h.fx.g0, below_cell' hb h1 h.fx.g1⟩, below_cell' hb h2 h.cn, below_cell' hb h3 h.cm⟩

theorem two_new (u : World) (x y : Value) (B : Nat) (hB : u.heap.size = B) : Below u.heap.size u ((u.alloc (.cells #[x] 3)).alloc (.cells #[y] 3)).drew ∧ ((u.alloc (.cells #[x] 3)).alloc (.cells #[y] 3)).drew.heap.size = u.heap.size + 1 + 1 ∧ ((u.alloc (.cells #[x] 3)).alloc (.cells #[y] 3)).drew.cell? ⟨B, 0, none⟩ = some x ∧ ((u.alloc (.cells #[x] 3)).alloc (.cells #[y] 3)).drew.cell? ⟨B + 1, 0, none⟩ = some y := by
  subst hB
  have e1 : (u.alloc (.cells #[x] 3)).heap.size = u.heap.size + 1 := by simp
  refine ⟨below_drewN (below_alloc2 _ _ _) 1, by simp, ?_, ?_⟩
  · have h1 : (u.alloc (.cells #[x] 3)).cell? ⟨u.heap.size, 0, none⟩ = some x := cell_of_alloc rfl
    exact below_cell (below_drewN (box_below (u.alloc (.cells #[x] 3)) (.cells #[y] 3)) 1) (Nat.le_refl _) h1
  · have h1 := cell_of_alloc (w := u.alloc (.cells #[x] 3)) (c := #[y]) (t := 3) (i := 0) rfl
    rw [e1] at h1
    exact h1

theorem Tk.grown_low {U w2 : World} {kb n j : Nat} {K : Nat → Nat → Bool} {v : Value} (h : Tk U kb n j K v) (hg : U.grownBy w2 v.ownBlock) (x : Value) : Below kb U (w2.setCell ⟨kb, 0, none⟩ x) := by
  have h1 : Below kb U w2 := ⟨hg.os, hg.tape, hg.output, hg.size, fun b hb => grown_block hg (Nat.lt_trans hb h.lt) (fun e => by have := (h.apart b e).1; omega)⟩
  exact h1.setCell (Nat.le_refl _) _

theorem Tk.keep {U w2 : World} {kb n j : Nat} {K : Nat → Nat → Bool} {v : Value} (h : Tk U kb n j K v) (hg : U.grownBy w2 v.ownBlock) {p : Addr} {x : Value} (hp : p.block ≤ kb) (hc : U.cell? p = some x) : w2.cell? p = some x := by
  rw [World.cell?_of_block (grown_block hg (World.block_lt_of_cell? _ _ hc) (fun e => by have := (h.apart _ e).1; omega))]
  exact hc

theorem Tk.keepz {U w2 : World} {kb n j : Nat} {K : Nat → Nat → Bool} {v : Value} (h : Tk U kb n j K v) (hg : U.grownBy w2 v.ownBlock) : w2.frozen? ⟨kb, 0, none⟩ = false := by
  have e : w2.heap[kb]? = some (.cells #[v] 66 (0, 0)) := (grown_block hg h.lt (fun e => by have := (h.apart _ e).1; omega)).trans h.kv
  simp [World.frozen?, e]

theorem Tk.step {U w2 : World} {kb n j v3 g cap : Nat} {K : Nat → Nat → Bool} {v : Value} (h : Tk U kb n j K v) {V : Nat → Nat} (hV : ∀ i, i < j → U.rowIs (V i) 4 n (fun p => .bool (K i p))) (hv : U.rowIs v3 4 n (fun p => .bool (K j p))) (hg : U.grownBy w2 v.ownBlock)
    (ho : w2.ownsRow (kb + 1) 34 1 (.slice (some ⟨g, 0, none⟩) (j + 1) cap) (j + 1) (klist V n j ++ [.slice (some ⟨v3, 0, none⟩) n n])) :
    Tk (w2.setCell ⟨kb, 0, none⟩ (.slice (some ⟨g, 0, none⟩) (j + 1) cap)) kb n (j + 1) K (.slice (some ⟨g, 0, none⟩) (j + 1) cap) := by
  have hk2 : w2.heap[kb]? = some (.cells #[v] 66 (0, 0)) := (grown_block hg h.lt (fun e => by have := (h.apart kb e).1; omega)).trans h.kv
  have hrow : ∀ b f, U.rowIs b 4 n f → (w2.setCell ⟨kb, 0, none⟩ (.slice (some ⟨g, 0, none⟩) (j + 1) cap)).rowIs b 4 n f := by
    intro b f hr
    have h1 : w2.rowIs b 4 n f := hr.of_block (grown_block hg hr.lt (fun e => (h.apart b e).2 b 4 n f (by decide) hr rfl))
    refine h1.setOther ?_ _
    show b ≠ kb
    rintro rfl
    obtain ⟨c, e, _⟩ := h1
    rw [hk2] at e
    injection e with e
    injection e with _ e'
    exact absurd e' (by decide)
  refine ⟨?_, fun i => if i = j then v3 else V i, ?_, fun i hi => ?_⟩
  · unfold World.setCell
    simp only [Array.getElem?_modify, if_true, hk2, Option.map_some]
    rfl
  · have e : klist (fun i => if i = j then v3 else V i) n (j + 1) = klist V n j ++ [.slice (some ⟨v3, 0, none⟩) n n] := by
      rw [klist_succ, if_pos rfl, klist_congr (fun i hi => by rw [if_neg (by omega)])]
    rw [e]
    refine ⟨ho.1, Or.inr ?_⟩
    rcases ho.2 with ⟨h0, _⟩ | ⟨g', cap', cur, h1, h2, h3, h4⟩
    · cases h0
    · refine ⟨g', cap', cur, h1, h2, ?_, h4⟩
      rw [← h3]
      exact Go.Deep.blk_setCell_other _ _ _ _ (by show g' ≠ kb; omega)
  · by_cases e : i = j
    · subst e
      simp only [if_true]
      exact hrow _ _ hv
    · simp only [if_neg e]
      exact hrow _ _ (hV i (by omega))

end Go.Proofs.YtejombhfkobcbaaDoor
