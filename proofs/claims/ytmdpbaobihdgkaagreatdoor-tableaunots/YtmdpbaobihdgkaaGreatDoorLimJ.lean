/- Formulas in a part of the memory; the list of Kids that a call makes. Nots and Plain: the shapes of what they make; how deep and how large a formula is. Slim on trees. -/
import Derived.Deep.AppendLies
import Derived.Maps.AppendAt
import Derived.RegionTactic
import Derived.Deep.RegionHeld3
import Derived.Deep.OwnRows
import Derived.Test.YtmdpbaobihdgkaaGreatDoorPshJ
namespace Go.Proofs.YtmdpbaobihdgkaaGreatDoor
open Go.RowKit
def lim (p : Nat → Bool) (w : World) : World := { w with heap := w.heap.mapIdx (fun i o => if p i = true then o else .cells #[] 0 (0, 0)) }
theorem lim_at {p : Nat → Bool} {w : World} {k : Nat} (h : p k = true) : (lim p w).heap[k]? = w.heap[k]? := by
 show (w.heap.mapIdx _)[k]? = _
 rw [Array.getElem?_mapIdx]
 cases hk : w.heap[k]? with
 | none => rfl
 | some o =>
  simp only [Option.map_some]
  rw [if_pos h]
theorem lim_out {p : Nat → Bool} {w : World} {q : Addr} {v : Value} (h : (lim p w).cell? q = some v) : p q.block = true ∧ w.cell? q = some v := by
 by_cases e : p q.block = true
 ·refine ⟨e, ?_⟩
  rw [World.cell?_of_block (w := w) (lim_at e)] at h
  exact h
 ·exfalso
  have hs : (lim p w).heap.size = w.heap.size := by
   show (w.heap.mapIdx _).size = _
   simp
  have hlt := World.block_lt_of_cell? _ _ h
  rw [hs] at hlt
  have : (lim p w).heap[q.block]? = some (.cells #[] 0 (0, 0)) := by
   show (w.heap.mapIdx _)[q.block]? = _
   rw [Array.getElem?_mapIdx, Array.getElem?_eq_getElem hlt]
   simp only [Option.map_some]
   rw [if_neg e]
  simp [World.cell?, this] at h
theorem lim_in {p : Nat → Bool} {w : World} {q : Addr} {v : Value} (hp : p q.block = true) (h : w.cell? q = some v) : (lim p w).cell? q = some v := by
 rw [World.cell?_of_block (w := w) (lim_at hp)]
 exact h
theorem kl_keep {p q : Nat → Bool} {w w' : World} {t : Fml} {a : Option Addr} (h : Kds (lim p w) t a) (hb : ∀ k, p k = true → k < w.heap.size → q k = true ∧ w'.heap[k]? = w.heap[k]?) : Kds (lim q w') t a :=
 Kds.keep (fun x _ hv => by
  obtain ⟨h1, h2⟩ := lim_out hv
  obtain ⟨h3, h4⟩ := hb x.block h1 (World.block_lt_of_cell? _ _ h2)
  refine lim_in h3 ?_
  rw [World.cell?_of_block (w := w) h4]
  exact h2) t a h
theorem kl_out {p : Nat → Bool} {w : World} {t : Fml} {a : Option Addr} (h : Kds (lim p w) t a) : Kds w t a := Kds.keep (fun _ _ hv => (lim_out hv).2) t a h
def Kn (B : Nat) (w : World) (t : Fml) (a : Option Addr) : Prop := Kds (lim (fun k => decide (B ≤ k)) w) t a
theorem Kn.out {B : Nat} {w : World} {t : Fml} {a : Option Addr} (h : Kn B w t a) : Kds w t a := kl_out h
theorem Kn.keep {B B' : Nat} {w w' : World} {t : Fml} {a : Option Addr} (h : Kn B w t a) (hB : B' ≤ B) (hb : ∀ k, B ≤ k → k < w.heap.size → w'.heap[k]? = w.heap[k]?) : Kn B' w' t a :=
 kl_keep h (fun k h1 h2 => ⟨decide_eq_true (Nat.le_trans hB (of_decide_eq_true h1)), hb k (of_decide_eq_true h1) h2⟩)
theorem Kn.below {B : Nat} {w w' : World} {t : Fml} {a : Option Addr} (h : Kn B w t a) (hb : Below w.heap.size w w') : Kn B w' t a := h.keep jq0 (fun k _ h2 => hb.block k h2)
theorem Kn.kid {B : Nat} {w : World} {t : Fml} {a : Option Addr} (h : Kn B w t a) : ∃ b o, (0 < t.cnt → a = some ⟨b, o, none⟩) ∧ ∀ i, i < t.cnt → ∃ ai ci,
   w.cell? ⟨b, o + i * 3, none⟩ = some (.int .i64 (t.kid i).kind) ∧ w.cell? ⟨b, o + i * 3 + 1, none⟩ = some (.int .i64 (t.kid i).num) ∧
   w.cell? ⟨b, o + i * 3 + 2, none⟩ = some (.slice ai (t.kid i).cnt ci) ∧ (t.kid i).cnt ≤ 9223372036854775807 ∧ Kn B w (t.kid i) ai := by
 obtain ⟨b, o, h1, h2⟩ := Kds.out h
 refine ⟨b, o, h1, fun i hi => ?_⟩
 obtain ⟨ai, ci, e1, e2, e3, e4, e5⟩ := h2 i hi
 exact ⟨ai, ci, (lim_out e1).2, (lim_out e2).2, (lim_out e3).2, e4, e5⟩
theorem Kn.nd {B : Nat} {w : World} (k n : Int) (a : Option Addr) : Kn B w (nd k n) a := kds_nd _ _ _ _
def Nk (B : Nat) (w : World) (t : Fml) (e : Ending) (w' : World) : Prop := ∃ (a : Option Addr) (cap : Nat), e = .returned (.agg #[.int .i64 t.kind, .int .i64 t.num, .slice a t.cnt cap]) ∧ Kn B w' t a ∧ Below w.heap.size w w'
def kvs (r : Nat → Fml) (A : Nat → Option Addr) (C : Nat → Nat) : Nat → List Value
 | 0 => []
 | j + 1 => kvs r A C j ++ [.int .i64 (r j).kind, .int .i64 (r j).num, .slice (A j) (r j).cnt (C j)]
theorem kvs_len (r : Nat → Fml) (A : Nat → Option Addr) (C : Nat → Nat) : ∀ j, (kvs r A C j).length = j * 3
 | 0 => rfl
 | j + 1 => by
  rw [kvs, List.length_append, kvs_len r A C j]
  simp only [List.length_cons, List.length_nil]
  omega
theorem kvs_at (r : Nat → Fml) (A : Nat → Option Addr) (C : Nat → Nat) (i : Nat) : ∀ j, i < j → (kvs r A C j)[i * 3]? = some (.int .i64 (r i).kind) ∧ (kvs r A C j)[i * 3 + 1]? = some (.int .i64 (r i).num) ∧ (kvs r A C j)[i * 3 + 2]? = some (.slice (A i) (r i).cnt (C i))
 | 0, h => absurd h (Nat.not_lt_zero i)
 | j + 1, h => by
  rw [kvs]
  by_cases e : i = j
  ·subst e
   have hl := kvs_len r A C i
   refine ⟨?_, ?_, ?_⟩
   ·rw [List.getElem?_append_right (by omega), hl, Nat.sub_self]; rfl
   ·rw [List.getElem?_append_right (by omega), hl, show i * 3 + 1 - i * 3 = 1 by omega]; rfl
   ·rw [List.getElem?_append_right (by omega), hl, show i * 3 + 2 - i * 3 = 2 by omega]; rfl
  ·have hl := kvs_len r A C j
   have hij : i < j := by omega
   obtain ⟨h1, h2, h3⟩ := kvs_at r A C i j hij
   refine ⟨?_, ?_, ?_⟩
   ·rw [List.getElem?_append_left (by omega)]; exact h1
   ·rw [List.getElem?_append_left (by omega)]; exact h2
   ·rw [List.getElem?_append_left (by omega)]; exact h3
theorem kvs_congr {r : Nat → Fml} {A A' : Nat → Option Addr} {C C' : Nat → Nat} : ∀ j, (∀ i, i < j → A i = A' i ∧ C i = C' i) → kvs r A C j = kvs r A' C' j
 | 0, _ => rfl
 | j + 1, h => by rw [kvs, kvs, kvs_congr j (fun i hi => h i (by omega)), (h j (by omega)).1, (h j (by omega)).2]
def okB (B gb : Nat) (v : Value) (k : Nat) : Bool := decide (B ≤ k ∧ k ≠ gb ∧ v.ownBlock ≠ some k)
structure Gk (w : World) (B gb j : Nat) (r : Nat → Fml) (v : Value) : Prop where
 le : B ≤ gb
 lt : gb < w.heap.size
 list : ∃ (A : Nat → Option Addr) (C : Nat → Nat), w.ownsRow (gb + 1) 24 3 v j (kvs r A C j) ∧ ∀ i, i < j → Kds (lim (okB B gb v) w) (r i) (A i)
theorem owns3_below {w w' : World} {base n s : Nat} {e : TypeId} {v : Value} {xs : List Value} (h : w.ownsRow base e s v n xs) (hb : Below w.heap.size w w') : w'.ownsRow base e s v n xs := by
 refine ⟨h.1, ?_⟩
 rcases h.2 with h0 | ⟨g, cap, cur, h1, h2, h3, h4⟩
 ·exact Or.inl h0
 ·exact Or.inr ⟨g, cap, cur, h1, h2, (hb.block g (jq4.1 h3).1).trans h3, h4⟩
theorem Gk.start {w : World} {B gb : Nat} (r : Nat → Fml) (h : B ≤ gb) (hl : gb < w.heap.size) : Gk w B gb 0 r (.slice none 0 0) :=
 ⟨h, hl, fun _ => none, fun _ => 0, ⟨by simp [kvs], Or.inl ⟨rfl, rfl⟩⟩, fun i hi => absurd hi (Nat.not_lt_zero i)⟩
theorem Gk.below {w w' : World} {B gb j : Nat} {r : Nat → Fml} {v : Value} (h : Gk w B gb j r v) (hb : Below w.heap.size w w') : Gk w' B gb j r v := by
 obtain ⟨A, C, h1, h2⟩ := h.list
 exact ⟨h.le, Nat.lt_of_lt_of_le h.lt hb.size, A, C, owns3_below h1 hb, fun i hi => kl_keep (h2 i hi) (fun k hk hl => ⟨hk, hb.block k hl⟩)⟩
theorem Gk.own {w : World} {B gb j : Nat} {r : Nat → Fml} {v : Value} (h : Gk w B gb j r v) : ∀ g, v.ownBlock = some g → gb < g ∧ g < w.heap.size := by
 intro g hg
 obtain ⟨A, C, h1, _⟩ := h.list
 rcases h1.2 with ⟨rfl, _⟩ | ⟨g', cap, cur, rfl, hg', hb, _⟩
 ·simp [Value.ownBlock] at hg
 ·simp [Value.ownBlock] at hg
  subst hg
  exact ⟨by omega, (jq4.1 hb).1⟩
theorem grown_block {w w' : World} {k : Option Nat} (h : w.grownBy w' k) {b : Nat} (hb : b < w.heap.size) (hk : k ≠ some b) : w'.heap[b]? = w.heap[b]? := h.block b hb (fun e => hk e.symm)
theorem Gk.keepb {U w2 : World} {B gb j : Nat} {r : Nat → Fml} {v : Value} (h : Gk U B gb j r v) (hg : U.grownBy w2 v.ownBlock) {b : Nat} (hb : b ≤ gb) : w2.heap[b]? = U.heap[b]? :=
 grown_block hg (Nat.lt_of_le_of_lt hb h.lt) (fun e => by have := (h.own b e).1; omega)
theorem Gk.keep {U w2 : World} {B gb j : Nat} {r : Nat → Fml} {v : Value} (h : Gk U B gb j r v) (hg : U.grownBy w2 v.ownBlock) {p : Addr} {x : Value} (hp : p.block ≤ gb) (hc : U.cell? p = some x) : w2.cell? p = some x := by
 rw [World.cell?_of_block (h.keepb hg hp)]
 exact hc
theorem Gk.low {U w2 : World} {B gb j : Nat} {r : Nat → Fml} {v : Value} (h : Gk U B gb j r v) (hg : U.grownBy w2 v.ownBlock) : Below (gb + 1) U w2 :=
 ⟨hg.os, hg.tape, hg.output, hg.size, fun b hb => h.keepb hg (by omega)⟩
theorem Gk.step {U w2 : World} {B B1 gb j g cap a2 : Nat} {r : Nat → Fml} {v : Value} {a : Option Addr} {A : Nat → Option Addr} {C : Nat → Nat} (h : Gk U B gb j r v) (hA : ∀ i, i < j → Kds (lim (okB B gb v) U) (r i) (A i))
  (hn : Kn B1 U (r j) a) (hB1 : gb < B1) (hB2 : ∀ g, v.ownBlock = some g → g < B1) (hg : U.grownBy w2 v.ownBlock) (hat : v.ownBlock = some g ∨ g = U.heap.size)
  (ho : w2.ownsRow (gb + 1) 24 3 (.slice (some ⟨g, 0, none⟩) (j + 1) cap) (j + 1) (kvs r A C j ++ [.int .i64 (r j).kind, .int .i64 (r j).num, .slice a (r j).cnt a2])) :
  Gk w2 B gb (j + 1) r (.slice (some ⟨g, 0, none⟩) (j + 1) cap) := by
 have hle := h.le
 have ob : ∀ k, k < U.heap.size → B ≤ k → k ≠ gb → v.ownBlock ≠ some k → okB B gb (.slice (some ⟨g, 0, none⟩) (j + 1) cap) k = true := by
  intro k hk h1 h2 h3
  refine decide_eq_true ⟨h1, h2, ?_⟩
  intro e
  simp [Value.ownBlock] at e
  rcases hat with hat | hat
  ·exact h3 (by rw [hat, e])
  ·omega
 refine ⟨hle, Nat.lt_of_lt_of_le h.lt hg.size, fun i => if i = j then a else A i, fun i => if i = j then a2 else C i, ?_, fun i hi => ?_⟩
 ·have e : kvs r (fun i => if i = j then a else A i) (fun i => if i = j then a2 else C i) (j + 1) = kvs r A C j ++ [.int .i64 (r j).kind, .int .i64 (r j).num, .slice a (r j).cnt a2] := by
   rw [kvs, if_pos rfl, if_pos rfl, kvs_congr (A := fun i => if i = j then a else A i) (A' := A) (C := fun i => if i = j then a2 else C i) (C' := C) j (fun i hi => ⟨by rw [if_neg (by omega)], by rw [if_neg (by omega)]⟩)]
  rw [e]
  exact ho
 ·by_cases e : i = j
  ·subst e
   simp only [if_true]
   refine kl_keep hn (fun k h1 h2 => ?_)
   have h3 : B1 ≤ k := of_decide_eq_true h1
   have h4 : v.ownBlock ≠ some k := fun e => by have := hB2 k e; omega
   exact ⟨ob k h2 (by omega) (by omega) h4, grown_block hg h2 h4⟩
  ·simp only [if_neg e]
   refine kl_keep (hA i (by omega)) (fun k h1 h2 => ?_)
   obtain ⟨h3, h4, h5⟩ := of_decide_eq_true h1
   exact ⟨ob k h2 h3 h4 h5, grown_block hg h2 h5⟩
theorem Gk.set {w : World} {B gb j : Nat} {r : Nat → Fml} {v : Value} (h : Gk w B gb j r v) (i : Nat) (x : Value) : Gk (w.setCell ⟨gb, i, none⟩ x) B gb j r v := by
 obtain ⟨A, C, h1, h2⟩ := h.list
 have hb : ∀ k, k ≠ gb → (w.setCell ⟨gb, i, none⟩ x).heap[k]? = w.heap[k]? := fun k hk => Go.Deep.blk_setCell_other _ _ _ _ hk
 refine ⟨h.le, by simpa [World.setCell] using h.lt, A, C, ⟨h1.1, ?_⟩, fun i hi => kl_keep (h2 i hi) (fun k hk _ => ⟨hk, hb k (of_decide_eq_true hk).2.1⟩)⟩
 rcases h1.2 with h0 | ⟨g, cap, cur, e1, e2, e3, e4⟩
 ·exact Or.inl h0
 ·exact Or.inr ⟨g, cap, cur, e1, e2, (hb g (by omega)).trans e3, e4⟩
theorem addr_none (b o k : Nat) : (⟨b, o, none⟩ : Addr).add k = ⟨b, o + k, none⟩ := by
 unfold Addr.add
 split <;> simp_all
theorem Gk.done {w : World} {B gb j : Nat} {r : Nat → Fml} {v : Value} (h : Gk w B gb j r v) (hr : ∀ i, i < j → (r i).cnt ≤ 9223372036854775807) : ∃ a c, v = .slice a j c ∧ ∀ k n, Kn B w (mkn k n j r) a := by
 obtain ⟨A, C, h1, h2⟩ := h.list
 have hle := h.le
 have hk : ∀ i, i < j → Kds (lim (fun k => decide (B ≤ k)) w) (r i) (A i) := fun i hi => kl_keep (h2 i hi) (fun k h3 _ => ⟨decide_eq_true (of_decide_eq_true h3).1, rfl⟩)
 rcases h1.2 with ⟨rfl, rfl⟩ | ⟨g, cap, cur, rfl, hg, hb, _⟩
 ·exact ⟨none, 0, rfl, fun k n => Kds.mk ⟨0, 0, fun hh => absurd hh (Nat.lt_irrefl 0), fun i hi => absurd hi (Nat.not_lt_zero i)⟩⟩
 ·refine ⟨some ⟨g, 0, none⟩, cap, rfl, fun k n => Kds.mk ⟨g, 0, fun _ => rfl, fun i hi => ?_⟩⟩
  have hi' : i < j := hi
  rw [mkn_kid hi']
  obtain ⟨e1, e2, e3⟩ := kvs_at r A C i j hi'
  have c1 := h1.cells (g := g) rfl _ _ e1
  have c2 := h1.cells (g := g) rfl _ _ e2
  have c3 := h1.cells (g := g) rfl _ _ e3
  rw [addr_none] at c1 c2 c3
  have hgB : decide (B ≤ g) = true := decide_eq_true (by omega)
  exact ⟨A i, C i, lim_in hgB c1, lim_in hgB (by rw [Nat.add_assoc]; exact c2), lim_in hgB (by rw [Nat.add_assoc]; exact c3), hr i hi', hk i hi'⟩
def Tri (w : World) (x : Nat) (u v z : Value) : Prop := w.heap[x]? = some (.cells #[u, v, z] 24 (0, 0))
theorem tri_cells {w : World} {x : Nat} {u v z : Value} (h : Tri w x u v z) : (w.cell? ⟨x, 0, none⟩ = some u ∧ w.cell? ⟨x, 1, none⟩ = some v ∧ w.cell? ⟨x, 2, none⟩ = some z) ∧ w.frozen? ⟨x, 0, none⟩ = false ∧ w.frozen? ⟨x, 1, none⟩ = false ∧ w.frozen? ⟨x, 2, none⟩ = false := by
 have e : w.heap[x]? = some (.cells #[u, v, z] 24 (0, 0)) := h
 exact ⟨⟨cell_of_cells e rfl, cell_of_cells e rfl, cell_of_cells e rfl⟩, by simp [World.frozen?, e], by simp [World.frozen?, e], by simp [World.frozen?, e]⟩
theorem Tri.lt {w : World} {x : Nat} {u v z : Value} (h : Tri w x u v z) : x < w.heap.size := (jq4.1 h).1
theorem tri_new (w : World) (u v z : Value) : Tri (w.alloc (.cells #[u, v, z] 24)) w.heap.size u v z := Go.Deep.blk_alloc_new _ _
theorem Tri.below {w w' : World} {x : Nat} {u v z : Value} (h : Tri w x u v z) (hb : Below w.heap.size w w') : Tri w' x u v z := (hb.block x h.lt).trans h
theorem Tri.alloc {w : World} {x : Nat} {u v z : Value} (h : Tri w x u v z) (o : Obj) : Tri (w.alloc o) x u v z := (Go.Deep.blk_alloc_lt _ _ _ h.lt).trans h
theorem tri_set {w : World} {x : Nat} {u v z : Value} (h : Tri w x u v z) (a b c : Value) : Tri (((w.setCell ⟨x, 0, none⟩ a).setCell ⟨x, 1, none⟩ b).setCell ⟨x, 2, none⟩ c) x a b c := by
 have e : w.heap[x]? = some (.cells #[u, v, z] 24 (0, 0)) := h
 unfold Tri World.setCell
 simp only [Array.getElem?_modify, if_true, e, Option.map_some]
 rfl
theorem tri_set2 {w : World} {x : Nat} {u v z : Value} (h : Tri w x u v z) (c : Value) : Tri (w.setCell ⟨x, 2, none⟩ c) x u v c := by
 have e : w.heap[x]? = some (.cells #[u, v, z] 24 (0, 0)) := h
 unfold Tri World.setCell
 simp only [Array.getElem?_modify, if_true, e, Option.map_some]
 rfl
theorem blk_tri {w : World} {x k : Nat} (hk : k ≠ x) (u v z : Value) : (((w.setCell ⟨x, 0, none⟩ u).setCell ⟨x, 1, none⟩ v).setCell ⟨x, 2, none⟩ z).heap[k]? = w.heap[k]? := by
 rw [Go.Deep.blk_setCell_other _ _ _ _ hk, Go.Deep.blk_setCell_other _ _ _ _ hk, Go.Deep.blk_setCell_other _ _ _ _ hk]
theorem below_tri {B : Nat} {w w' : World} {x : Nat} (h : Below B w w') (hx : B ≤ x) (u v z : Value) : Below B w (((w'.setCell ⟨x, 0, none⟩ u).setCell ⟨x, 1, none⟩ v).setCell ⟨x, 2, none⟩ z) :=
 ((h.setCell hx _).setCell hx _).setCell hx _
theorem wf_cnt {t : Fml} (h : Wf t) : t.cnt ≤ 2 := by
 rcases fit_cases h.out.1 with h | h | h | h <;> omega
theorem wf_big {t : Fml} (h : Wf t) : t.cnt ≤ 9223372036854775807 := Nat.le_trans (wf_cnt h) (by decide)
end Go.Proofs.YtmdpbaobihdgkaaGreatDoor
namespace Go.Proofs.YtmdpbaobihdgkaaGreatDoor
open Go.RowKit
theorem fit_mk {t : Fml} (h : (t.cnt : Int) = ar t.kind) (h3 : t.kind = 3 → 0 ≤ t.num ∧ t.num ≤ 63) (hn : t.kind ≠ 3 → t.num = 0) : fit t = true := by
 unfold fit
 rw [Bool.and_eq_true, decide_eq_true_eq]
 refine ⟨h, ?_⟩
 by_cases e : t.kind = 3
 ·rw [if_pos e, decide_eq_true_eq]; exact h3 e
 ·rw [if_neg e, decide_eq_true_eq]; exact hn e
theorem wf_nd {k n : Int} (h : fit (nd k n) = true) : Wf (nd k n) := Wf.mk ⟨h, fun i hi => absurd hi (Nat.not_lt_zero i)⟩
theorem wf_tw {k : Int} {t u : Fml} (hk : k = 5 ∨ k = 6 ∨ k = 8 ∨ k = 9) (h : Wf t) (h2 : Wf u) : Wf (tw k t u) := by
 refine Wf.mk ⟨fit_mk ?_ (fun e => ?_) (fun _ => rfl), fun i hi => ?_⟩
 ·show ((2 : Nat) : Int) = ar k
  rcases hk with rfl | rfl | rfl | rfl <;> decide
 ·have e' : k = 3 := e
  omega
 ·have hi1 : i < 2 := hi
  rcases (by omega : i = 0 ∨ i = 1) with rfl | rfl
  ·rw [tw_kid0]; exact h
  ·rw [tw_kid1]; exact h2
theorem wf_mkn {k n : Int} {c : Nat} {r : Nat → Fml} (h : (c : Int) = ar k) (h3 : k = 3 → 0 ≤ n ∧ n ≤ 63) (hn : k ≠ 3 → n = 0) (hr : ∀ i, i < c → Wf (r i)) : Wf (mkn k n c r) :=
 Wf.mk ⟨fit_mk h h3 hn, fun i hi => by
  have hi' : i < c := hi
  rw [mkn_kid hi']; exact hr i hi'⟩
theorem wf_num {t : Fml} (h : Wf t) (hk : t.kind ≠ 3) : t.num = 0 := by
 rcases fit_cases h.out.1 with h1 | h1 | h1 | h1
 ·exact absurd h1.1 hk
 ·exact h1.2.2
 ·exact h1.2.2
 ·exact h1.2.2
def pnF (t : Fml) (r : Nat → Fml) : Fml := if t.kind = 10 then tw 8 (nd 1 0) (r 0) else if t.kind = 11 then tw 9 (nd 2 0) (r 0) else mkn t.kind t.num t.cnt r
def pn (t : Fml) : Fml := t.red Fml.leaf pnF
theorem pn_eq {t : Fml} (h : Wf t) : pn t = pnF t (fun i => pn (t.kid i)) := by
 have hfc := fit_cases h.out.1
 have e : pn t = pnF t (t.reds Fml.leaf pnF) := Fml.red_eq _ _ t
 rw [e]
 have hr : ∀ i, i < t.cnt → t.reds Fml.leaf pnF i = pn (t.kid i) := fun i hi => Fml.reds_at hi
 generalize t.reds Fml.leaf pnF = r at hr
 unfold pnF
 by_cases h1 : t.kind = 10
 ·rw [if_pos h1, if_pos h1, hr 0 (by omega)]
 by_cases h2 : t.kind = 11
 ·rw [if_neg h1, if_neg h1, if_pos h2, if_pos h2, hr 0 (by omega)]
 ·rw [if_neg h1, if_neg h1, if_neg h2, if_neg h2]
  exact mkn_congr hr
theorem wf_true : Wf (nd 1 0) := wf_nd (by decide)
theorem wf_false : Wf (nd 2 0) := wf_nd (by decide)
theorem pn_wf : ∀ t, Wf t → Wf (pn t) := by
 intro t
 induction t using Fml.ind with
 | h t ih =>
  intro hw
  have hf := fit_parts hw.out.1
  have hfc := fit_cases hw.out.1
  rw [pn_eq hw]
  unfold pnF
  by_cases h1 : t.kind = 10
  ·rw [if_pos h1]; exact wf_tw (by omega) wf_true (ih 0 (by omega) (hw.out.2 0 (by omega)))
  rw [if_neg h1]
  by_cases h2 : t.kind = 11
  ·rw [if_pos h2]; exact wf_tw (by omega) wf_false (ih 0 (by omega) (hw.out.2 0 (by omega)))
  rw [if_neg h2]
  exact wf_mkn hf.1 hf.2 (fun h => wf_num hw h) (fun i hi => ih i hi (hw.out.2 i hi))
theorem pn_hold {A : Nat → Int → Bool} : ∀ t, Wf t → ∀ i, hold A (pn t) i ↔ hold A t i := by
 intro t
 induction t using Fml.ind with
 | h t ih =>
  intro hw i
  have hfc := fit_cases hw.out.1
  rw [pn_eq hw]
  unfold pnF
  by_cases h1 : t.kind = 10
  ·have h0 := fun i => ih 0 (by omega) (hw.out.2 0 (by omega)) i
   rw [if_pos h1, hold_until, hold_at A t]
   simp [hk, h1, h0, hold_true]
  rw [if_neg h1]
  by_cases h2 : t.kind = 11
  ·have h0 := fun i => ih 0 (by omega) (hw.out.2 0 (by omega)) i
   have hF : ∀ j, hold A (nd 2 0) j = False := fun j => by rw [hold_at]; simp [hk, nd]
   rw [if_pos h2, hold_release, hold_at A t]
   simp [hk, h2, h0, hF]
  rw [if_neg h2, hold_mkn, hold_at A t]
  have e : (fun j => if j < t.cnt then hold A (pn (t.kid j)) else fun _ => False) = fun j => hold A (t.kid j) := by
   funext j
   by_cases hj : j < t.cnt
   ·rw [if_pos hj]; funext l; exact propext (ih j hj (hw.out.2 j hj) l)
   ·rw [if_neg hj, kid_none hj, hold_leaf]
  rw [e]
def Has (k : Int) (t : Fml) : Prop := t.red False fun t r => t.kind = k ∨ ∃ i, i < t.cnt ∧ r i
theorem has_eq (k : Int) (t : Fml) : Has k t ↔ (t.kind = k ∨ ∃ i, i < t.cnt ∧ Has k (t.kid i)) := by
 have e : Has k t = (t.kind = k ∨ ∃ i, i < t.cnt ∧ t.reds False (fun t r => t.kind = k ∨ ∃ i, i < t.cnt ∧ r i) i) := Fml.red_eq _ _ t
 rw [e]
 constructor
 ·rintro (h | ⟨i, hi, h⟩)
  ·exact Or.inl h
  ·rw [Fml.reds_at hi] at h; exact Or.inr ⟨i, hi, h⟩
 ·rintro (h | ⟨i, hi, h⟩)
  ·exact Or.inl h
  ·exact Or.inr ⟨i, hi, by rw [Fml.reds_at hi]; exact h⟩
theorem has_tw {k j : Int} {t u : Fml} (h : Has k (tw j t u)) : j = k ∨ Has k t ∨ Has k u := by
 rcases (has_eq _ _).1 h with h | ⟨i, hi, h⟩
 ·exact Or.inl h
 ·have hi1 : i < 2 := hi
  rcases (by omega : i = 0 ∨ i = 1) with rfl | rfl
  ·rw [tw_kid0] at h; exact Or.inr (Or.inl h)
  ·rw [tw_kid1] at h; exact Or.inr (Or.inr h)
theorem has_nd {k j n : Int} (h : Has k (nd j n)) : j = k := by
 rcases (has_eq _ _).1 h with h | ⟨i, hi, h⟩
 ·exact h
 ·exact absurd hi (Nat.not_lt_zero i)
theorem pn_has : ∀ t, Wf t → ∀ k, k = 10 ∨ k = 11 → ¬ Has k (pn t) := by
 intro t
 induction t using Fml.ind with
 | h t ih =>
  intro hw k hkk
  have hfc := fit_cases hw.out.1
  rw [pn_eq hw]
  unfold pnF
  by_cases h1 : t.kind = 10
  ·rw [if_pos h1]
   intro h
   rcases has_tw h with h | h | h
   ·omega
   ·have := has_nd h; omega
   ·exact ih 0 (by omega) (hw.out.2 0 (by omega)) k hkk h
  rw [if_neg h1]
  by_cases h2 : t.kind = 11
  ·rw [if_pos h2]
   intro h
   rcases has_tw h with h | h | h
   ·omega
   ·have := has_nd h; omega
   ·exact ih 0 (by omega) (hw.out.2 0 (by omega)) k hkk h
  rw [if_neg h2, has_eq]
  rintro (h | ⟨i, hi, h⟩)
  ·have h' : t.kind = k := h
   omega
  ·have hi' : i < t.cnt := hi
   rw [mkn_kid hi'] at h
   exact ih i hi' (hw.out.2 i hi') k hkk h
def maxTo (f : Nat → Nat) : Nat → Nat
 | 0 => 0
 | n + 1 => max (maxTo f n) (f n)
theorem maxTo_le {f : Nat → Nat} {b : Nat} : ∀ n, maxTo f n ≤ b ↔ ∀ i, i < n → f i ≤ b
 | 0 => ⟨fun _ i hi => absurd hi (Nat.not_lt_zero i), fun _ => Nat.zero_le _⟩
 | n + 1 => by
  rw [maxTo, Nat.max_le, maxTo_le n]
  exact ⟨fun h => snoc_all h.1 h.2, fun h => ⟨fun i hi => h i (by omega), h n (by omega)⟩⟩
theorem maxTo_congr {f g : Nat → Nat} : ∀ n, (∀ i, i < n → f i = g i) → maxTo f n = maxTo g n
 | 0, _ => rfl
 | n + 1, h => by rw [maxTo, maxTo, maxTo_congr n (fun i hi => h i (by omega)), h n (by omega)]
def dpF (t : Fml) (r : Nat → Nat) : Nat := 1 + maxTo r t.cnt
def dp (t : Fml) : Nat := t.red 0 dpF
theorem dp_eq (t : Fml) : dp t = 1 + maxTo (fun i => dp (t.kid i)) t.cnt := by
 have e : dp t = dpF t (t.reds 0 dpF) := Fml.red_eq _ _ t
 rw [e, dpF, maxTo_congr (f := t.reds 0 dpF) (g := fun i => dp (t.kid i)) t.cnt (fun i hi => Fml.reds_at hi)]
theorem chkAll_of {f : Nat → Nat → Int × Nat} {g : Nat → Nat} {m : Nat} : ∀ n, (∀ i, i < n → ∀ x, x + g i ≤ 60 → (f i x).1 = 0 ∧ (f i x).2 = x + g i) → m + sumTo g n ≤ 60 → (chkAll f m n).1 = 0 ∧ (chkAll f m n).2 = m + sumTo g n
 | 0, _, _ => ⟨rfl, rfl⟩
 | n + 1, hf, h => by
  rw [sumTo] at h
  obtain ⟨h1, h2⟩ := chkAll_of (m := m) n (fun i hi => hf i (by omega)) (by omega)
  simp only [chkAll, if_pos h1]
  obtain ⟨h3, h4⟩ := hf n (by omega) (chkAll f m n).2 (by omega)
  exact ⟨h3, by rw [h4, h2, sumTo]; omega⟩
theorem chk_of : ∀ (t : Fml) (d m : Nat), Wf t → m + sz t ≤ 60 → d + dp t ≤ 21 → (chk t d m).1 = 0 ∧ (chk t d m).2 = m + sz t := by
 intro t
 induction t using Fml.ind with
 | h t ih =>
  intro d m hw hs hd
  rw [chk_eq]
  have hsz := sz_eq t
  have hdp := dp_eq t
  rw [if_neg (by omega), if_neg (by omega), if_neg (by rw [hw.out.1]; decide)]
  have hmx : ∀ i, i < t.cnt → dp (t.kid i) ≤ maxTo (fun i => dp (t.kid i)) t.cnt := (maxTo_le t.cnt).1 jq0
  have := chkAll_of (f := fun i x => chk (t.kid i) (d + 1) x) (g := fun i => sz (t.kid i)) (m := m + 1) t.cnt (fun i hi x hx => ih i hi (d + 1) x (hw.out.2 i hi) hx (by have := hmx i hi; omega)) (by omega)
  exact ⟨this.1, by rw [this.2, hsz]; omega⟩
theorem chk_deep : ∀ (t : Fml) (d m : Nat), (chk t d m).1 = 0 → d + dp t ≤ 21 := by
 intro t
 induction t using Fml.ind with
 | h t ih =>
  intro d m h
  rw [chk_eq] at h
  by_cases h1 : 60 < m + 1
  ·rw [if_pos h1] at h; cases h
  rw [if_neg h1] at h
  by_cases h2 : 20 < d
  ·rw [if_pos h2] at h; cases h
  rw [if_neg h2] at h
  by_cases h3 : fit t = false
  ·rw [if_pos h3] at h; cases h
  rw [if_neg h3] at h
  have hall : ∀ i, i < t.cnt → dp (t.kid i) ≤ 20 - d := fun i hi => by
   have h4 : (chkAll (fun i x => chk (t.kid i) (d + 1) x) (m + 1) (i + 1)).1 = 0 := chkAll_ok h (by omega)
   have h5 : (chkAll (fun i x => chk (t.kid i) (d + 1) x) (m + 1) i).1 = 0 := chkAll_ok h (by omega)
   simp only [chkAll, if_pos h5] at h4
   have := ih i hi (d + 1) _ h4
   omega
  have := (maxTo_le (f := fun i => dp (t.kid i)) t.cnt).2 hall
  rw [dp_eq]
  omega
theorem chk_iff (t : Fml) : (chk t 1 0).1 = 0 ↔ Wf t ∧ sz t ≤ 60 ∧ dp t ≤ 20 := by
 constructor
 ·intro h
  obtain ⟨h1, h2⟩ := chk_wf t 1 0 h
  have h3 := chk_deep t 1 0 h
  have h4 := (chk_small t 1 0 (by omega)).2 h
  exact ⟨h1, by omega, by omega⟩
 ·rintro ⟨h1, h2, h3⟩
  exact (chk_of t 1 0 h1 (by omega) (by omega)).1
end Go.Proofs.YtmdpbaobihdgkaaGreatDoor
namespace Go.Proofs.YtmdpbaobihdgkaaGreatDoor
open Go.RowKit
def sameF (t : Fml) (r : Nat → Fml → Bool) (u : Fml) : Bool := decide (t.kind = u.kind ∧ t.num = u.num ∧ t.cnt = u.cnt) && allTo (fun i => r i (u.kid i)) t.cnt
def same (t : Fml) : Fml → Bool := t.red (fun _ => true) sameF
theorem same_eq (t u : Fml) : same t u = (decide (t.kind = u.kind ∧ t.num = u.num ∧ t.cnt = u.cnt) && allTo (fun i => same (t.kid i) (u.kid i)) t.cnt) := by
 have e : same t u = sameF t (t.reds (fun _ => true) sameF) u := congrFun (Fml.red_eq _ _ t) u
 rw [e, sameF, allTo_congr (r := fun i => t.reds (fun _ => true) sameF i (u.kid i)) (q := fun i => same (t.kid i) (u.kid i)) t.cnt (fun i hi => congrFun (Fml.reds_at hi) _)]
theorem same_iff : ∀ t u, same t u = true ↔ t = u := by
 intro t
 induction t using Fml.ind with
 | h t ih =>
  intro u
  rw [same_eq, Bool.and_eq_true, decide_eq_true_eq, allTo_iff]
  constructor
  ·rintro ⟨⟨h1, h2, h3⟩, h4⟩
   exact fml_ext h1 h2 h3 (fun i hi => (ih i hi _).1 (h4 i hi))
  ·rintro rfl
   exact ⟨⟨rfl, rfl, rfl⟩, fun i hi => (ih i hi _).2 rfl⟩
end Go.Proofs.YtmdpbaobihdgkaaGreatDoor
