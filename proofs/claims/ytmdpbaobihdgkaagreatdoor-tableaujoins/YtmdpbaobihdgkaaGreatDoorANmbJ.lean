/-   -/
import Derived.Test.YtmdpbaobihdgkaaGreatDoorRows
import Derived.WalkKit
import Derived.WalkSpells
import Derived.WalkLawsBesides
import Derived.Deep.QuietTactic
import Derived.BigQuiet
import Derived.Below
import Derived.Deep.Heap
import Derived.Test.YtmdpbaobihdgkaaGreatDoorRwsJ
import Derived.Test.YtmdpbaobihdgkaaGreatDoorBaseJ
import Derived.Test.YtmdpbaobihdgkaaGreatDoorPshJ
import Derived.Test.YtmdpbaobihdgkaaGreatDoorTeaJ
import Derived.Test.YtmdpbaobihdgkaaGreatDoorWk
import Derived.Test.YtmdpbaobihdgkaaGreatDoorMkfJ
import Derived.WalkSmall
import Derived.Deep.AppendLies
import Derived.Deep.RegionHeld3
import Derived.Deep.WholeRow
import Derived.Deep.MidRow
import Derived.Laws.Bits64b
import Derived.Lib.TrailingZeros
import Derived.Deep.OwnRows
import Derived.Maps.AppendAt
import Derived.Test.YtmdpbaobihdgkaaGreatDoorAStgJ
/- Things numbered as they first come: pure. -/
/- Going in depth through spots: what the function walk keeps in memory. -/
namespace Go.Proofs.YtmdpbaobihdgkaaGreatDoor
open Go.RowKit

section
variable {α : Type} [DecidableEq α]

/-- One more, if it is not there. -/
def nAdd (l : List α) (x : α) : List α := if x ∈ l then l else l ++ [x]
/-- Some more, one behind the other. -/
def nAdds (l xs : List α) : List α := xs.foldl nAdd l

theorem nodup_le {U : List α} : ∀ {l : List α}, l.Nodup → (∀ x ∈ l, x ∈ U) → l.length ≤ U.length := by
  intro l
  induction l generalizing U with
  | nil => intro _ _; exact Nat.zero_le _
  | cons a l ih =>
    intro hn hs
    have hn2 := List.nodup_cons.1 hn
    have ha := hs a List.mem_cons_self
    have h1 := ih (U := U.erase a) hn2.2 (fun x hx => (List.mem_erase_of_ne (fun e => hn2.1 (by rw [← e]; exact hx))).2 (hs x (List.mem_cons_of_mem _ hx)))
    rw [List.length_erase_of_mem ha] at h1
    have h2 := List.length_pos_of_mem ha
    simp only [List.length_cons]
    omega

end

end Go.Proofs.YtmdpbaobihdgkaaGreatDoor

namespace Go.Proofs.YtmdpbaobihdgkaaGreatDoor
open Go.RowKit

/-- The cells of a row of spots. -/
def spv (l : List (Nat × Nat)) : List Value := l.flatMap (fun q => [.int .i64 (q.1 : Nat), .int .i64 (q.2 : Nat)])
theorem spv_len : ∀ l, (spv l).length = l.length * 2
  | [] => rfl
  | q :: l => by
    have := spv_len l
    simp only [spv, List.flatMap_cons, List.length_append, List.length_cons, List.length_nil] at this ⊢
    omega
theorem spv_snoc (l : List (Nat × Nat)) (q : Nat × Nat) : spv (l ++ [q]) = spv l ++ [.int .i64 (q.1 : Nat), .int .i64 (q.2 : Nat)] := by simp [spv]
theorem spv_append (l k : List (Nat × Nat)) : spv (l ++ k) = spv l ++ spv k := by simp [spv]
theorem spv_at : ∀ (l : List (Nat × Nat)) (i : Nat), i < l.length → (spv l)[i * 2]? = some (.int .i64 ((l.getD i (0, 0)).1 : Nat)) ∧ (spv l)[i * 2 + 1]? = some (.int .i64 ((l.getD i (0, 0)).2 : Nat))
  | [], i, h => by simp at h
  | q :: l, 0, _ => by simp [spv]
  | q :: l, i + 1, h => by
    have := spv_at l i (by simpa using h)
    have e : spv (q :: l) = [.int .i64 (q.1 : Nat), .int .i64 (q.2 : Nat)] ++ spv l := by simp [spv]
    rw [e, show (i + 1) * 2 = i * 2 + 2 by omega, show i * 2 + 2 + 1 = i * 2 + 1 + 2 by omega]
    simpa using this
theorem spv_one (l : List (Nat × Nat)) : ∀ u ∈ spv l, u.oneCell' = true := by
  intro u hu
  simp only [spv, List.mem_flatMap] at hu
  obtain ⟨q, _, hq⟩ := hu
  simp at hq
  rcases hq with rfl | rfl <;> rfl

theorem Tryz.info120 : (Tryz.prog.info? 120).map (fun i => (i.zero, i.size, i.bytes)) = some (some (.agg #[.int .i64 0, .int .i64 0]), 2, 16) := by kernel_rfl

/-- An own row of spots, as a slice of spots. -/
theorem owns_sp {w : World} {base : Nat} {v : Value} {l : List (Nat × Nat)} (h : w.ownsRow base 120 2 v l.length (spv l)) :
    ∃ a c, v = .slice a l.length c ∧ Sp w a l.length (fun i => l.getD i (0, 0)) ∧ (∀ p, a = some p → base ≤ p.block ∧ p.block < w.heap.size) := by
  rcases h.2 with ⟨rfl, h0⟩ | ⟨g, cap, cur, rfl, hb, hg, _⟩
  · exact ⟨none, 0, by rw [h0], ⟨0, fun hh => by omega, fun i hi => by omega⟩, fun p hp => by cases hp⟩
  · refine ⟨some ⟨g, 0, none⟩, cap, rfl, ⟨g, fun _ => rfl, fun i hi => ?_⟩, fun p hp => ?_⟩
    · obtain ⟨h1, h2⟩ := spv_at l i hi
      have e1 := h.cells (g := g) rfl _ _ h1
      have e2 := h.cells (g := g) rfl _ _ h2
      rw [Addr.add_mid, Nat.zero_add] at e1 e2
      exact ⟨e1, e2⟩
    · rw [Option.some.injEq] at hp
      subst hp
      exact ⟨hb, (Array.getElem?_eq_some_iff.1 hg).1⟩

/-- Is a spot left? -/
def a_lf (m : Nat) (X : Nat → Nat → Nat) (q : Nat × Nat) : Prop := q.2 < m ∧ q.1 < 2048 ∧ mem (X q.2) q.1 = true

theorem lf_del {m : Nat} {X : Nat → Nat → Nat} {s p : Nat} (q : Nat × Nat) : a_lf m (at1 X p (sdel (X p) s)) q ↔ (a_lf m X q ∧ q ≠ (s, p)) := by
  obtain ⟨t, k⟩ := q
  unfold a_lf at1
  by_cases e : k = p
  · subst e
    simp only [if_true, mem_del, Bool.and_eq_true, decide_eq_true_eq, ne_eq, Prod.mk.injEq, and_true]
    constructor
    · rintro ⟨h1, h2, h3, h4⟩; exact ⟨⟨h1, h2, h4⟩, h3⟩
    · rintro ⟨⟨h1, h2, h4⟩, h3⟩; exact ⟨h1, h2, h3, h4⟩
  · simp only [ne_eq, Prod.mk.injEq, e, and_false, not_false_iff, and_true, if_false]

/-- What the function walk has in memory. -/
structure Wm (w wr : World) (lb m : Nat) (X : Nat → Nat → Nat) (dv : Value) (D : List (Nat × Nat)) (pv : Value) (P : List (Nat × Nat)) : Prop where
  but : But lb w wr
  left : Ls wr lb m X
  od : wr.ownsRow w.heap.size 120 2 dv D.length (spv D)
  op : wr.ownsRow w.heap.size 120 2 pv P.length (spv P)
  ap : ∀ b, dv.ownBlock = some b → pv.ownBlock ≠ some b
  lb : lb < w.heap.size

theorem owns_below {w w' : World} {base : Nat} {e : TypeId} {size : Nat} {v : Value} {n : Nat} {xs : List Value} (h : w.ownsRow base e size v n xs) (hb : Below w.heap.size w w') : w'.ownsRow base e size v n xs :=
  h.kept (row := none) ⟨hb.os, hb.tape, hb.output, hb.size, fun k hk _ => hb.block k hk⟩ (by
    cases hv : v.ownBlock with
    | none => exact Or.inl rfl
    | some b => exact Or.inr (fun e => by cases e))

theorem Wm.below {w wr wr' : World} {lb m : Nat} {X : Nat → Nat → Nat} {dv pv : Value} {D P : List (Nat × Nat)} (h : Wm w wr lb m X dv D pv P) (hb : Below wr.heap.size wr wr') : Wm w wr' lb m X dv D pv P :=
  ⟨h.but.trans (But.of_below hb), h.left.below' hb, owns_below h.od hb, owns_below h.op hb, h.ap, h.lb⟩

theorem Wm.del {w wr : World} {lb m : Nat} {X : Nat → Nat → Nat} {dv pv : Value} {D P : List (Nat × Nat)} (h : Wm w wr lb m X dv D pv P) {s p : Nat} (hs : s < 2048) (hp : p < m) :
    Wm w (wr.setCell ⟨lb, p * 32 + s / 64, none⟩ (.int .u64 (sdel (X p) s (s / 64) : Nat))) lb m (at1 X p (sdel (X p) s)) dv D pv P := by
  have hlb := h.lb
  refine ⟨h.but.setCell _ _, ?_, ownsRow_setCell_below h.od (by exact hlb) _, ownsRow_setCell_below h.op (by exact hlb) _, h.ap, hlb⟩
  have := h.left.set hp (k := s / 64) (by omega) (sdel_small (h.left p hp).small hs _ (by omega) : sdel (X p) s (s / 64) < _)
  refine this.congr (fun i _ j _ => ?_)
  unfold at1
  split
  · simp only [sdel, upd_self]
  · rfl

theorem Wm.grow {w wr w1 : World} {lb m : Nat} {X : Nat → Nat → Nat} {dv pv dv' : Value} {D P : List (Nat × Nat)} {o : Obj} (h : Wm w wr lb m X dv D pv P) {q : Nat × Nat}
    (hown : w1.ownsRow w.heap.size 120 2 dv' (D.length + 1) (spv D ++ [.int .i64 (q.1 : Nat), .int .i64 (q.2 : Nat)])) (hgrow : (wr.alloc o).grownBy w1 dv.ownBlock)
    (hloc : dv'.ownBlock = dv.ownBlock ∨ dv'.ownBlock = some (wr.alloc o).heap.size) : Wm w w1 lb m X dv' (D ++ [q]) pv P := by
  have hg : wr.grownBy w1 dv.ownBlock := (World.grownBy_alloc _ _ _).trans hgrow
  have hne : ∀ k, k < w.heap.size → some k ≠ dv.ownBlock := fun k hk e => by have := (h.od.lt k e.symm).1; omega
  have hbk : w1.heap[lb]? = wr.heap[lb]? := hg.block lb (Nat.lt_of_lt_of_le h.lb h.but.size) (hne lb h.lb)
  refine ⟨⟨hg.os.trans h.but.os, hg.tape.trans h.but.tape, hg.output.trans h.but.output, Nat.le_trans h.but.size hg.size, fun k h1 h2 => (hg.block k (Nat.lt_of_lt_of_le h1 h.but.size) (hne k h1)).trans (h.but.block k h1 h2)⟩, fun i hi => (h.left i hi).of_block hbk, ?_, ?_, fun b hb hb2 => ?_, h.lb⟩
  · have e : (D ++ [q]).length = D.length + 1 := by simp
    rw [e, spv_snoc]; exact hown
  · refine h.op.kept hg ?_
    cases hv : pv.ownBlock with
    | none => exact Or.inl rfl
    | some b => exact Or.inr (fun ee => h.ap b ee.symm hv)
  · rcases hloc with hl | hl
    · exact h.ap b (by rw [← hl]; exact hb) hb2
    · rw [hl] at hb
      have := (h.op.lt b hb2).2
      simp only [Option.some.injEq, World.size_alloc] at hb
      omega

theorem Wm.swap {w wr : World} {lb m : Nat} {X : Nat → Nat → Nat} {dv pv : Value} {D P : List (Nat × Nat)} (h : Wm w wr lb m X dv D pv P) : Wm w wr lb m X pv P dv D :=
  ⟨h.but, h.left, h.op, h.od, fun b h1 h2 => h.ap b h2 h1, h.lb⟩

theorem Wm.popP {w wr : World} {lb m : Nat} {X : Nat → Nat → Nat} {dv : Value} {D P : List (Nat × Nat)} {g cap : Nat} {q : Nat × Nat} (h : Wm w wr lb m X dv D (.slice (some ⟨g, 0, none⟩) (P.length + 1) cap) (P ++ [q])) :
    Wm w wr lb m X dv D (.slice (some ⟨g, 0, none⟩) P.length cap) P := by
  refine ⟨h.but, h.left, h.od, ?_, h.ap, h.lb⟩
  have e : (P ++ [q]).length = P.length + 1 := by simp
  have := h.op
  rw [e, spv_snoc] at this
  exact ownsRow_pop (spv_len P) this

/-- The length of a slice. -/
def lenV : Value → Nat
  | .slice _ n _ => n
  | _ => 0

theorem owns_len {w : World} {base : Nat} {e : TypeId} {size : Nat} {v : Value} {n : Nat} {xs : List Value} (h : w.ownsRow base e size v n xs) : lenV v = n := by
  rcases h.2 with ⟨rfl, h0⟩ | ⟨g, cap, cur, rfl, _⟩
  · exact h0.symm
  · rfl

theorem owns_cap {w : World} {base : Nat} {e : TypeId} {size g cap n k : Nat} {xs : List Value} (h : w.ownsRow base e size (.slice (some ⟨g, 0, none⟩) k cap) n xs) : n ≤ cap ∧ cap ≤ maxLen := by
  rcases h.2 with ⟨e, _⟩ | ⟨g, cap, cur, e, _, _, h1, h2, _⟩
  · cases e
  · cases e; exact ⟨h1, h2⟩

theorem owns_some {w : World} {base : Nat} {e : TypeId} {size : Nat} {v : Value} {n : Nat} {xs : List Value} (h : w.ownsRow base e size v (n + 1) xs) : ∃ g c, v = .slice (some ⟨g, 0, none⟩) (n + 1) c := by
  rcases h.2 with ⟨_, h0⟩ | ⟨g, cap, cur, rfl, _⟩
  · omega
  · exact ⟨g, cap, rfl⟩

theorem pairs_len {l : List (Nat × Nat)} {a b : Nat} (h : l.Nodup) (hb : ∀ q ∈ l, q.1 < a ∧ q.2 < b) : l.length ≤ a * b := by
  have := nodup_le (U := (List.range a).flatMap (fun s => (List.range b).map (fun p => (s, p)))) h (fun q hq => by
    rw [List.mem_flatMap]
    exact ⟨q.1, List.mem_range.2 (hb q hq).1, List.mem_map.2 ⟨q.2, List.mem_range.2 (hb q hq).2, rfl⟩⟩)
  have e : ((List.range a).flatMap (fun s => (List.range b).map (fun p => (s, p)))).length = a * b := by
    clear this hb h
    induction a with
    | zero => simp
    | succ a ih => rw [List.range_succ, List.flatMap_append, List.length_append, ih, Nat.succ_mul]; simp
  omega

theorem dfs_len {E : Nat × Nat → Nat × Nat → Prop} {T : Nat × Nat → Prop} {met D P : List (Nat × Nat)} {L : Nat × Nat → Prop} {G m : Nat} (h : Dfs E T (met ++ D) P L) (hT : ∀ q, T q → q.1 < G ∧ q.2 < m) (hG : G ≤ 2048) (hm : m ≤ 60) : D.length + P.length ≤ 122880 := by
  have h1 := pairs_len h.nd (fun q hq => hT q ((h.part q).2 (by rcases List.mem_append.1 hq with h | h; exact Or.inl h; exact Or.inr (Or.inl h))))
  have h2 : G * m ≤ 2048 * 60 := Nat.mul_le_mul hG hm
  simp only [List.length_append] at h1
  omega

end Go.Proofs.YtmdpbaobihdgkaaGreatDoor
