/- Formulas in a part of the memory; the list of Kids that a call makes. -/
import Derived.Deep.AppendLies
import Derived.Maps.AppendAt
import Derived.RegionTactic
import Derived.Deep.RegionHeld3
import Derived.Deep.OwnRows
import Derived.Test.YtmdpbaobihdgkaaGreatDoorMkfJ
import Derived.Test.YtmdpbaobihdgkaaGreatDoorPshJ
namespace Go.Proofs.YtmdpbaobihdgkaaGreatDoor
open Go.RowKit

/-- The world without the blocks that p does not name. -/
def lim (p : Nat → Bool) (w : World) : World := { w with heap := w.heap.mapIdx (fun i o => if p i = true then o else .cells #[] 0 (0, 0)) }

theorem lim_at {p : Nat → Bool} {w : World} {k : Nat} (h : p k = true) : (lim p w).heap[k]? = w.heap[k]? := by
  show (w.heap.mapIdx _)[k]? = _
  rw [Array.getElem?_mapIdx]
  cases hk : w.heap[k]? with
  | none => rfl
  | some o =>
    simp only [Option.map_some]
    rw [if_pos h]

theorem lim_out {p : Nat → Bool} {w : World} {q : Addr} {v : Value} (h : (lim p w).cell? q = some v) : p q.block = true ∧ w.cell? q = some v := by
  by_cases e : p q.block = true
  · refine ⟨e, ?_⟩
    rw [World.cell?_of_block (w := w) (lim_at e)] at h
    exact h
  · exfalso
    have hs : (lim p w).heap.size = w.heap.size := by
      show (w.heap.mapIdx _).size = _
      simp
    have hlt := World.block_lt_of_cell? _ _ h
    rw [hs] at hlt
    have : (lim p w).heap[q.block]? = some (.cells #[] 0 (0, 0)) := by
      show (w.heap.mapIdx _)[q.block]? = _
      rw [Array.getElem?_mapIdx, Array.getElem?_eq_getElem hlt]
      simp only [Option.map_some]
      rw [if_neg e]
    simp [World.cell?, this] at h

theorem lim_in {p : Nat → Bool} {w : World} {q : Addr} {v : Value} (hp : p q.block = true) (h : w.cell? q = some v) : (lim p w).cell? q = some v := by
  rw [World.cell?_of_block (w := w) (lim_at hp)]
  exact h

theorem kl_keep {p q : Nat → Bool} {w w' : World} {t : Fml} {a : Option Addr} (h : Kds (lim p w) t a) (hb : ∀ k, p k = true → k < w.heap.size → q k = true ∧ w'.heap[k]? = w.heap[k]?) : Kds (lim q w') t a :=
  Kds.keep (fun x _ hv => by
    obtain ⟨h1, h2⟩ := lim_out hv
    obtain ⟨h3, h4⟩ := hb x.block h1 (World.block_lt_of_cell? _ _ h2)
    refine lim_in h3 ?_
    rw [World.cell?_of_block (w := w) h4]
    exact h2) t a h

theorem kl_out {p : Nat → Bool} {w : World} {t : Fml} {a : Option Addr} (h : Kds (lim p w) t a) : Kds w t a := Kds.keep (fun _ _ hv => (lim_out hv).2) t a h

/-- The formula's Kids lie in blocks from B on. -/
def Kn (B : Nat) (w : World) (t : Fml) (a : Option Addr) : Prop := Kds (lim (fun k => decide (B ≤ k)) w) t a

theorem Kn.out {B : Nat} {w : World} {t : Fml} {a : Option Addr} (h : Kn B w t a) : Kds w t a := kl_out h
theorem Kn.keep {B B' : Nat} {w w' : World} {t : Fml} {a : Option Addr} (h : Kn B w t a) (hB : B' ≤ B) (hb : ∀ k, B ≤ k → k < w.heap.size → w'.heap[k]? = w.heap[k]?) : Kn B' w' t a :=
  kl_keep h (fun k h1 h2 => ⟨decide_eq_true (Nat.le_trans hB (of_decide_eq_true h1)), hb k (of_decide_eq_true h1) h2⟩)
theorem Kn.below {B : Nat} {w w' : World} {t : Fml} {a : Option Addr} (h : Kn B w t a) (hb : Below w.heap.size w w') : Kn B w' t a := h.keep (Nat.le_refl _) (fun k _ h2 => hb.block k h2)
theorem Kn.kid {B : Nat} {w : World} {t : Fml} {a : Option Addr} (h : Kn B w t a) : ∃ b o, (0 < t.cnt → a = some ⟨b, o, none⟩) ∧ ∀ i, i < t.cnt → ∃ ai ci,
      w.cell? ⟨b, o + i * 3, none⟩ = some (.int .i64 (t.kid i).kind) ∧ w.cell? ⟨b, o + i * 3 + 1, none⟩ = some (.int .i64 (t.kid i).num) ∧
      w.cell? ⟨b, o + i * 3 + 2, none⟩ = some (.slice ai (t.kid i).cnt ci) ∧ (t.kid i).cnt ≤ 9223372036854775807 ∧ Kn B w (t.kid i) ai := by
  obtain ⟨b, o, h1, h2⟩ := Kds.out h
  refine ⟨b, o, h1, fun i hi => ?_⟩
  obtain ⟨ai, ci, e1, e2, e3, e4, e5⟩ := h2 i hi
  exact ⟨ai, ci, (lim_out e1).2, (lim_out e2).2, (lim_out e3).2, e4, e5⟩
theorem Kn.nd {B : Nat} {w : World} (k n : Int) (a : Option Addr) : Kn B w (nd k n) a := kds_nd _ _ _ _

/-- A formula is answered, its Kids lie in blocks from B on; old memory stays. -/
def Nk (B : Nat) (w : World) (t : Fml) (e : Ending) (w' : World) : Prop := ∃ (a : Option Addr) (cap : Nat), e = .returned (.agg #[.int .i64 t.kind, .int .i64 t.num, .slice a t.cnt cap]) ∧ Kn B w' t a ∧ Below w.heap.size w w'

/-- Formulas as cells, three each. -/
def kvs (r : Nat → Fml) (A : Nat → Option Addr) (C : Nat → Nat) : Nat → List Value
  | 0 => []
  | j + 1 => kvs r A C j ++ [.int .i64 (r j).kind, .int .i64 (r j).num, .slice (A j) (r j).cnt (C j)]

theorem kvs_len (r : Nat → Fml) (A : Nat → Option Addr) (C : Nat → Nat) : ∀ j, (kvs r A C j).length = j * 3
  | 0 => rfl
  | j + 1 => by
    rw [kvs, List.length_append, kvs_len r A C j]
    simp only [List.length_cons, List.length_nil]
    omega
theorem kvs_at (r : Nat → Fml) (A : Nat → Option Addr) (C : Nat → Nat) (i : Nat) : ∀ j, i < j → (kvs r A C j)[i * 3]? = some (.int .i64 (r i).kind) ∧ (kvs r A C j)[i * 3 + 1]? = some (.int .i64 (r i).num) ∧ (kvs r A C j)[i * 3 + 2]? = some (.slice (A i) (r i).cnt (C i))
  | 0, h => absurd h (Nat.not_lt_zero i)
  | j + 1, h => by
    rw [kvs]
    by_cases e : i = j
    · subst e
      have hl := kvs_len r A C i
      refine ⟨?_, ?_, ?_⟩
      · rw [List.getElem?_append_right (by omega), hl, Nat.sub_self]; rfl
      · rw [List.getElem?_append_right (by omega), hl, show i * 3 + 1 - i * 3 = 1 by omega]; rfl
      · rw [List.getElem?_append_right (by omega), hl, show i * 3 + 2 - i * 3 = 2 by omega]; rfl
    · have hl := kvs_len r A C j
      have hij : i < j := by omega
      obtain ⟨h1, h2, h3⟩ := kvs_at r A C i j hij
      refine ⟨?_, ?_, ?_⟩
      · rw [List.getElem?_append_left (by omega)]; exact h1
      · rw [List.getElem?_append_left (by omega)]; exact h2
      · rw [List.getElem?_append_left (by omega)]; exact h3
theorem kvs_congr {r : Nat → Fml} {A A' : Nat → Option Addr} {C C' : Nat → Nat} : ∀ j, (∀ i, i < j → A i = A' i ∧ C i = C' i) → kvs r A C j = kvs r A' C' j
  | 0, _ => rfl
  | j + 1, h => by rw [kvs, kvs, kvs_congr j (fun i hi => h i (by omega)), (h j (by omega)).1, (h j (by omega)).2]

/-- Which blocks the Kids that were made lie in: new ones, neither the variable's nor the list's. -/
def okB (B gb : Nat) (v : Value) (k : Nat) : Bool := decide (B ≤ k ∧ k ≠ gb ∧ v.ownBlock ≠ some k)

/-- The list of the first j Kids, the variable gb apart. -/
structure Gk (w : World) (B gb j : Nat) (r : Nat → Fml) (v : Value) : Prop where
  le : B ≤ gb
  lt : gb < w.heap.size
  list : ∃ (A : Nat → Option Addr) (C : Nat → Nat), w.ownsRow (gb + 1) 24 3 v j (kvs r A C j) ∧ ∀ i, i < j → Kds (lim (okB B gb v) w) (r i) (A i)

theorem owns3_below {w w' : World} {base n s : Nat} {e : TypeId} {v : Value} {xs : List Value} (h : w.ownsRow base e s v n xs) (hb : Below w.heap.size w w') : w'.ownsRow base e s v n xs := by
  refine ⟨h.1, ?_⟩
  rcases h.2 with h0 | ⟨g, cap, cur, h1, h2, h3, h4⟩
  · exact Or.inl h0
  · exact Or.inr ⟨g, cap, cur, h1, h2, (hb.block g (Array.getElem?_eq_some_iff.1 h3).1).trans h3, h4⟩

theorem Gk.start {w : World} {B gb : Nat} (r : Nat → Fml) (h : B ≤ gb) (hl : gb < w.heap.size) : Gk w B gb 0 r (.slice none 0 0) :=
  ⟨h, hl, fun _ => none, fun _ => 0, ⟨by simp [kvs], Or.inl ⟨rfl, rfl⟩⟩, fun i hi => absurd hi (Nat.not_lt_zero i)⟩

theorem Gk.below {w w' : World} {B gb j : Nat} {r : Nat → Fml} {v : Value} (h : Gk w B gb j r v) (hb : Below w.heap.size w w') : Gk w' B gb j r v := by
  obtain ⟨A, C, h1, h2⟩ := h.list
  exact ⟨h.le, Nat.lt_of_lt_of_le h.lt hb.size, A, C, owns3_below h1 hb, fun i hi => kl_keep (h2 i hi) (fun k hk hl => ⟨hk, hb.block k hl⟩)⟩

theorem Gk.own {w : World} {B gb j : Nat} {r : Nat → Fml} {v : Value} (h : Gk w B gb j r v) : ∀ g, v.ownBlock = some g → gb < g ∧ g < w.heap.size := by
  intro g hg
  obtain ⟨A, C, h1, _⟩ := h.list
  rcases h1.2 with ⟨rfl, _⟩ | ⟨g', cap, cur, rfl, hg', hb, _⟩
  · simp [Value.ownBlock] at hg
  · simp [Value.ownBlock] at hg
    subst hg
    exact ⟨by omega, (Array.getElem?_eq_some_iff.1 hb).1⟩

theorem grown_block {w w' : World} {k : Option Nat} (h : w.grownBy w' k) {b : Nat} (hb : b < w.heap.size) (hk : k ≠ some b) : w'.heap[b]? = w.heap[b]? := h.block b hb (fun e => hk e.symm)

theorem Gk.keepb {U w2 : World} {B gb j : Nat} {r : Nat → Fml} {v : Value} (h : Gk U B gb j r v) (hg : U.grownBy w2 v.ownBlock) {b : Nat} (hb : b ≤ gb) : w2.heap[b]? = U.heap[b]? :=
  grown_block hg (Nat.lt_of_le_of_lt hb h.lt) (fun e => by have := (h.own b e).1; omega)

theorem Gk.keep {U w2 : World} {B gb j : Nat} {r : Nat → Fml} {v : Value} (h : Gk U B gb j r v) (hg : U.grownBy w2 v.ownBlock) {p : Addr} {x : Value} (hp : p.block ≤ gb) (hc : U.cell? p = some x) : w2.cell? p = some x := by
  rw [World.cell?_of_block (h.keepb hg hp)]
  exact hc

theorem Gk.low {U w2 : World} {B gb j : Nat} {r : Nat → Fml} {v : Value} (h : Gk U B gb j r v) (hg : U.grownBy w2 v.ownBlock) : Below (gb + 1) U w2 :=
  ⟨hg.os, hg.tape, hg.output, hg.size, fun b hb => h.keepb hg (by omega)⟩

/-- One Kid more. -/
theorem Gk.step {U w2 : World} {B B1 gb j g cap a2 : Nat} {r : Nat → Fml} {v : Value} {a : Option Addr} {A : Nat → Option Addr} {C : Nat → Nat} (h : Gk U B gb j r v) (hA : ∀ i, i < j → Kds (lim (okB B gb v) U) (r i) (A i))
    (hn : Kn B1 U (r j) a) (hB1 : gb < B1) (hB2 : ∀ g, v.ownBlock = some g → g < B1) (hg : U.grownBy w2 v.ownBlock) (hat : v.ownBlock = some g ∨ g = U.heap.size)
    (ho : w2.ownsRow (gb + 1) 24 3 (.slice (some ⟨g, 0, none⟩) (j + 1) cap) (j + 1) (kvs r A C j ++ [.int .i64 (r j).kind, .int .i64 (r j).num, .slice a (r j).cnt a2])) :
    Gk w2 B gb (j + 1) r (.slice (some ⟨g, 0, none⟩) (j + 1) cap) := by
  have hle := h.le
  have ob : ∀ k, k < U.heap.size → B ≤ k → k ≠ gb → v.ownBlock ≠ some k → okB B gb (.slice (some ⟨g, 0, none⟩) (j + 1) cap) k = true := by
    intro k hk h1 h2 h3
    refine decide_eq_true ⟨h1, h2, ?_⟩
    intro e
    simp [Value.ownBlock] at e
    rcases hat with hat | hat
    · exact h3 (by rw [hat, e])
    · omega
  refine ⟨hle, Nat.lt_of_lt_of_le h.lt hg.size, fun i => if i = j then a else A i, fun i => if i = j then a2 else C i, ?_, fun i hi => ?_⟩
  · have e : kvs r (fun i => if i = j then a else A i) (fun i => if i = j then a2 else C i) (j + 1) = kvs r A C j ++ [.int .i64 (r j).kind, .int .i64 (r j).num, .slice a (r j).cnt a2] := by
      rw [kvs, if_pos rfl, if_pos rfl, kvs_congr (A := fun i => if i = j then a else A i) (A' := A) (C := fun i => if i = j then a2 else C i) (C' := C) j (fun i hi => ⟨by rw [if_neg (by omega)], by rw [if_neg (by omega)]⟩)]
    rw [e]
    exact ho
  · by_cases e : i = j
    · subst e
      simp only [if_true]
      refine kl_keep hn (fun k h1 h2 => ?_)
      have h3 : B1 ≤ k := of_decide_eq_true h1
      have h4 : v.ownBlock ≠ some k := fun e => by have := hB2 k e; omega
      exact ⟨ob k h2 (by omega) (by omega) h4, grown_block hg h2 h4⟩
    · simp only [if_neg e]
      refine kl_keep (hA i (by omega)) (fun k h1 h2 => ?_)
      obtain ⟨h3, h4, h5⟩ := of_decide_eq_true h1
      exact ⟨ob k h2 h3 h4 h5, grown_block hg h2 h5⟩

/-- The variable itself is written. -/
theorem Gk.set {w : World} {B gb j : Nat} {r : Nat → Fml} {v : Value} (h : Gk w B gb j r v) (i : Nat) (x : Value) : Gk (w.setCell ⟨gb, i, none⟩ x) B gb j r v := by
  obtain ⟨A, C, h1, h2⟩ := h.list
  have hb : ∀ k, k ≠ gb → (w.setCell ⟨gb, i, none⟩ x).heap[k]? = w.heap[k]? := fun k hk => Go.Deep.blk_setCell_other _ _ _ _ hk
  refine ⟨h.le, by simpa [World.setCell] using h.lt, A, C, ⟨h1.1, ?_⟩, fun i hi => kl_keep (h2 i hi) (fun k hk _ => ⟨hk, hb k (of_decide_eq_true hk).2.1⟩)⟩
  rcases h1.2 with h0 | ⟨g, cap, cur, e1, e2, e3, e4⟩
  · exact Or.inl h0
  · exact Or.inr ⟨g, cap, cur, e1, e2, (hb g (by omega)).trans e3, e4⟩

theorem addr_none (b o k : Nat) : (⟨b, o, none⟩ : Addr).add k = ⟨b, o + k, none⟩ := by
  unfold Addr.add
  split <;> simp_all

/-- The list as the Kids of a node. -/
theorem Gk.done {w : World} {B gb j : Nat} {r : Nat → Fml} {v : Value} (h : Gk w B gb j r v) (hr : ∀ i, i < j → (r i).cnt ≤ 9223372036854775807) : ∃ a c, v = .slice a j c ∧ ∀ k n, Kn B w (mkn k n j r) a := by
  obtain ⟨A, C, h1, h2⟩ := h.list
  have hle := h.le
  have hk : ∀ i, i < j → Kds (lim (fun k => decide (B ≤ k)) w) (r i) (A i) := fun i hi => kl_keep (h2 i hi) (fun k h3 _ => ⟨decide_eq_true (of_decide_eq_true h3).1, rfl⟩)
  rcases h1.2 with ⟨rfl, rfl⟩ | ⟨g, cap, cur, rfl, hg, hb, _⟩
  · exact ⟨none, 0, rfl, fun k n => Kds.mk ⟨0, 0, fun hh => absurd hh (Nat.lt_irrefl 0), fun i hi => absurd hi (Nat.not_lt_zero i)⟩⟩
  · refine ⟨some ⟨g, 0, none⟩, cap, rfl, fun k n => Kds.mk ⟨g, 0, fun _ => rfl, fun i hi => ?_⟩⟩
    have hi' : i < j := hi
    rw [mkn_kid hi']
    obtain ⟨e1, e2, e3⟩ := kvs_at r A C i j hi'
    have c1 := h1.cells (g := g) rfl _ _ e1
    have c2 := h1.cells (g := g) rfl _ _ e2
    have c3 := h1.cells (g := g) rfl _ _ e3
    rw [addr_none] at c1 c2 c3
    have hgB : decide (B ≤ g) = true := decide_eq_true (by omega)
    exact ⟨A i, C i, lim_in hgB c1, lim_in hgB (by rw [Nat.add_assoc]; exact c2), lim_in hgB (by rw [Nat.add_assoc]; exact c3), hr i hi', hk i hi'⟩

/-- Three cells of a formula in block x. -/
def Tri (w : World) (x : Nat) (u v z : Value) : Prop := w.heap[x]? = some (.cells #[u, v, z] 24 (0, 0))

theorem tri_cells {w : World} {x : Nat} {u v z : Value} (h : Tri w x u v z) : (w.cell? ⟨x, 0, none⟩ = some u ∧ w.cell? ⟨x, 1, none⟩ = some v ∧ w.cell? ⟨x, 2, none⟩ = some z) ∧ w.frozen? ⟨x, 0, none⟩ = false ∧ w.frozen? ⟨x, 1, none⟩ = false ∧ w.frozen? ⟨x, 2, none⟩ = false := by
  have e : w.heap[x]? = some (.cells #[u, v, z] 24 (0, 0)) := h
  exact ⟨⟨cell_of_cells e rfl, cell_of_cells e rfl, cell_of_cells e rfl⟩, by simp [World.frozen?, e], by simp [World.frozen?, e], by simp [World.frozen?, e]⟩
theorem Tri.lt {w : World} {x : Nat} {u v z : Value} (h : Tri w x u v z) : x < w.heap.size := (Array.getElem?_eq_some_iff.1 h).1
theorem tri_new (w : World) (u v z : Value) : Tri (w.alloc (.cells #[u, v, z] 24)) w.heap.size u v z := Go.Deep.blk_alloc_new _ _
theorem Tri.below {w w' : World} {x : Nat} {u v z : Value} (h : Tri w x u v z) (hb : Below w.heap.size w w') : Tri w' x u v z := (hb.block x h.lt).trans h
theorem Tri.alloc {w : World} {x : Nat} {u v z : Value} (h : Tri w x u v z) (o : Obj) : Tri (w.alloc o) x u v z := (Go.Deep.blk_alloc_lt _ _ _ h.lt).trans h
theorem tri_set {w : World} {x : Nat} {u v z : Value} (h : Tri w x u v z) (a b c : Value) : Tri (((w.setCell ⟨x, 0, none⟩ a).setCell ⟨x, 1, none⟩ b).setCell ⟨x, 2, none⟩ c) x a b c := by
  have e : w.heap[x]? = some (.cells #[u, v, z] 24 (0, 0)) := h
  unfold Tri World.setCell
  simp only [Array.getElem?_modify, if_true, e, Option.map_some]
  rfl
theorem tri_set2 {w : World} {x : Nat} {u v z : Value} (h : Tri w x u v z) (c : Value) : Tri (w.setCell ⟨x, 2, none⟩ c) x u v c := by
  have e : w.heap[x]? = some (.cells #[u, v, z] 24 (0, 0)) := h
  unfold Tri World.setCell
  simp only [Array.getElem?_modify, if_true, e, Option.map_some]
  rfl
theorem blk_tri {w : World} {x k : Nat} (hk : k ≠ x) (u v z : Value) : (((w.setCell ⟨x, 0, none⟩ u).setCell ⟨x, 1, none⟩ v).setCell ⟨x, 2, none⟩ z).heap[k]? = w.heap[k]? := by
  rw [Go.Deep.blk_setCell_other _ _ _ _ hk, Go.Deep.blk_setCell_other _ _ _ _ hk, Go.Deep.blk_setCell_other _ _ _ _ hk]
theorem below_tri {B : Nat} {w w' : World} {x : Nat} (h : Below B w w') (hx : B ≤ x) (u v z : Value) : Below B w (((w'.setCell ⟨x, 0, none⟩ u).setCell ⟨x, 1, none⟩ v).setCell ⟨x, 2, none⟩ z) :=
  ((h.setCell hx _).setCell hx _).setCell hx _

theorem wf_cnt {t : Fml} (h : Wf t) : t.cnt ≤ 2 := by
  rcases fit_cases h.out.1 with h | h | h | h <;> omega
theorem wf_big {t : Fml} (h : Wf t) : t.cnt ≤ 9223372036854775807 := Nat.le_trans (wf_cnt h) (by decide)

end Go.Proofs.YtmdpbaobihdgkaaGreatDoor
