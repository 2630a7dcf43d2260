/- The list that True fills, place by place. -/
import Derived.Test.YtejombhfkobcbaaDoorRefT2
namespace Go.Proofs.YtejombhfkobcbaaDoor
open Go.RowKit

/-- The places ahead of p are told, p holds c, the rest nothing. -/
def orow (F : Nat → Bool) (p : Nat) (c : Bool) (x : Nat) : Bool := if x < p then F x else if x = p then c else false

structure Ow (wo w : World) (n : Nat) (F : Nat → Bool) (p : Nat) (c : Bool) : Prop where
  below : Below wo.heap.size wo w
  row : w.rowIs wo.heap.size 4 n (fun x => .bool (orow F p c x))

theorem Ow.cell {wo w : World} {n : Nat} {F : Nat → Bool} {p : Nat} {c : Bool} (h : Ow wo w n F p c) (hp : p < n) : w.cell? ⟨wo.heap.size, p, none⟩ = some (.bool c) := by
  have := h.row.cell hp
  unfold orow at this
  rw [if_neg (by omega), if_pos rfl] at this
  exact this
theorem Ow.frozen {wo w : World} {n : Nat} {F : Nat → Bool} {p : Nat} {c : Bool} (h : Ow wo w n F p c) : w.frozen? ⟨wo.heap.size, p, none⟩ = false := h.row.frozen p

theorem Ow.set {wo w : World} {n : Nat} {F : Nat → Bool} {p : Nat} {c : Bool} (h : Ow wo w n F p c) (c' : Bool) : Ow wo (w.setCell ⟨wo.heap.size, p, none⟩ (.bool c')) n F p c' := by
  refine ⟨h.below.setCell (Nat.le_refl _) _, (h.row.set p _).congr (fun i _ => ?_)⟩
  unfold orow
  by_cases e : i = p
  · subst e; simp
  · rw [if_neg e]
    by_cases e2 : i < p
    · rw [if_pos e2, if_pos e2]
    · rw [if_neg e2, if_neg e2, if_neg e, if_neg e]

theorem Ow.next {wo w : World} {n : Nat} {F : Nat → Bool} {p : Nat} {c : Bool} (h : Ow wo w n F p c) (hc : c = F p) : Ow wo w n F (p + 1) false := by
  refine ⟨h.below, h.row.congr (fun i _ => ?_)⟩
  unfold orow
  by_cases e : i < p
  · rw [if_pos e, if_pos (by omega)]
  · rw [if_neg e]
    by_cases e2 : i = p
    · subst e2; rw [if_pos rfl, if_pos (by omega), hc]
    · rw [if_neg e2, if_neg (by omega)]
      simp

theorem Ow.same {wo w : World} {n : Nat} {F : Nat → Bool} {p : Nat} {c c' : Bool} (h : Ow wo w n F p c) (e : c = c') : Ow wo w n F p c' := by rw [← e]; exact h

theorem Ow.later {wo w w' : World} {n : Nat} {F : Nat → Bool} {p : Nat} {c : Bool} (h : Ow wo w n F p c) (hb : Below w.heap.size w w') : Ow wo w' n F p c :=
  ⟨h.below.trans (hb.mono h.below.size), rowIs_below h.row hb⟩

theorem ow_start (wo : World) (n : Nat) (F : Nat → Bool) : Ow wo (wo.alloc (.cells (madeCells #[.bool false] n) 4)) n F 0 false := by
  refine ⟨box_below _ _, (World.rowIs_made wo (.bool false) n 4).congr (fun i _ => ?_)⟩
  unfold orow
  rw [if_neg (by omega)]
  simp

theorem Ow.done {wo w : World} {n : Nat} {F : Nat → Bool} {c : Bool} (h : Ow wo w n F n c) : w.rowIs wo.heap.size 4 n (fun x => .bool (F x)) :=
  h.row.congr (fun i hi => by unfold orow; rw [if_pos hi])

theorem alB_true (i : Nat) : ∀ q, alB (fun _ => true) i q = true
  | 0 => rfl
  | q + 1 => by rw [alB, alB_true i q]; rfl

end Go.Proofs.YtejombhfkobcbaaDoor
