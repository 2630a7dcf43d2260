/- The document's May and Fire, at a step of the list. What the document's Runs holds in memory. The world that the document makes, list by list. -/
import Derived.Test.YthpbgfodejoecaaGameFaceJ
import Derived.Test.YthpbgfodejoecaaRefMayJ
import Derived.Test.YthpbgfodejoecaaGameFire
import Derived.Test.YthpbgfodejoecaaRefFire2
import Derived.Test.YthpbgfodejoecaaRof
namespace Go.Proofs.Ythpbgfodejoecaa
open Go.RowKit

/-- What steps.Of and the document's Steps answer, by their error. -/
theorem spAns {e0 : Int} {l : List St3} {e : Ending} {w : World} (h : SpIs e0 l e w) :
    (spE e0 l.length ≠ 0 ∧ e = .returned (.tuple #[.slice none 0 0, .int .i64 (spE e0 l.length)])) ∨ (spE e0 l.length = 0 ∧ ∃ a c, e = .returned (.tuple #[.slice a l.length c, .int .i64 0]) ∧ Sts w a l.length (fun i => l.getD i (0, 0, 0))) := by
  rcases h with ⟨h1, rfl⟩ | ⟨rfl, h2, rfl⟩ | ⟨rfl, h2, a, c, rfl, _, h4⟩
  · rw [spE_bad h1]; exact Or.inl ⟨h1, rfl⟩
  · rw [spE_many h2]; exact Or.inl ⟨by decide, rfl⟩
  · rw [spE_ok h2]; exact Or.inr ⟨rfl, a, c, rfl, h4⟩

theorem rf_tuple {K A B : Nat → Int} {F : Nat} {m : Nat → Int} {t : St3} {e : Ending} {w : World} (h : RfIs K A B F m t e w) : ∃ v1 v2, e = .returned (.tuple #[v1, v2]) := by
  rcases h with ⟨_, rfl⟩ | ⟨_, g, c, rfl, _⟩ <;> exact ⟨_, _, rfl⟩

theorem ref_step {N F : Nat} {M : Nat → ByteArray} {K A B : Nat → Int} (he : ChkIs N F M K A B 0) {s : Nat} (hs : s < (stAll K A B F N).length) :
    ∃ (j : Nat) (x o : Int), (stAll K A B F N).getD s (0, 0, 0) = ((j : Int), x, o) ∧
      (∀ (u : World) (na fa ma : Option Addr) (nc fc mc : Nat) (m : Nat → Int) (b : Bool), Prc u na N nc fa F M K A B → Row u ma F m → (b = true ↔ enb K A B F m ((stAll K A B F N).getD s (0, 0, 0))) →
        Calls Try.prog 56 #[.agg #[.slice na N nc, .slice fa F fc], .slice ma F mc, .agg #[.int .i64 j, .int .i64 x, .int .i64 o]] u fun e w' => e = .returned (.bool b) ∧ Below u.heap.size u w') ∧
      (∀ (u : World) (na fa ma : Option Addr) (nc fc mc : Nat) (m : Nat → Int), Prc u na N nc fa F M K A B → Row u ma F m → (∀ i, i < F → 0 ≤ m i ∧ m i ≤ 9) →
        Calls Try.prog 31 #[.agg #[.slice na N nc, .slice fa F fc], .slice ma F mc, .agg #[.int .i64 j, .int .i64 x, .int .i64 o]] u fun e w' => Below u.heap.size u w' ∧ RfIs K A B F m ((stAll K A B F N).getD s (0, 0, 0)) e w') := by
  have hF30 : F ≤ 30 := (chk_zero he).1.2
  have hF0 : 0 < F := chk_some he
  obtain ⟨j, hj, h1, h2, h3, _⟩ := step_facts (getD3_mem hs)
  obtain ⟨t, ht⟩ : ∃ t, t = (stAll K A B F N).getD s (0, 0, 0) := ⟨_, rfl⟩
  rw [← ht] at h1 h2 h3 ⊢
  obtain ⟨t1, x, o⟩ := t
  simp only at h1 h2 h3
  subst h1
  have hxn : x < (F : Int) := by rcases h2 with h2 | ⟨q, h2, h5, _⟩ <;> omega
  refine ⟨j, x, o, rfl, fun u na fa ma nc fc mc m b hp hm hb => ?_, fun u na fa ma nc fc mc m hp hm h9 => ?_⟩
  · refine (may_any hp hF30 hm hj hxn).mono fun e w' ⟨⟨y, h1, h2⟩, h3⟩ => ⟨?_, h3⟩
    have : y = b := by
      rw [Bool.eq_iff_iff]
      exact h2.trans hb.symm
    rw [h1, this]
  · refine fireRef_any hp hF30 hm h9 hj (fun q hq => ?_) h3
    rcases h2 with h2 | ⟨p, h2, _, h5⟩
    · omega
    · obtain rfl : p = q := by omega
      exact h5

end Go.Proofs.Ythpbgfodejoecaa

namespace Go.Proofs.Ythpbgfodejoecaa
open Go.RowKit Go.Maps

def ofD (D : List St3) : List (Int × Int) := D.map fun t => (t.2.1, t.1)
def goD (D : List St3) : List Int := D.map fun t => t.2.2
theorem ofD_snoc (D : List St3) (t : St3) : ofD (D ++ [t]) = ofD D ++ [(t.2.1, t.1)] := by simp [ofD]
theorem goD_snoc (D : List St3) (t : St3) : goD (D ++ [t]) = goD D ++ [t.2.2] := by simp [goD]
theorem ofD_len (D : List St3) : (ofD D).length = D.length := by simp [ofD]
theorem goD_len (D : List St3) : (goD D).length = D.length := by simp [goD]

/-- The pairs and the markings behind them, D of them. -/
structure Ofg (W wr : World) (m : Nat) (v9 v10 : Value) (D : List St3) : Prop where
  len : m = D.length
  below : Below W.heap.size W wr
  of : wr.ownsRow W.heap.size 44 2 v9 m (pvals (ofD D))
  go : wr.ownsRow W.heap.size 3 1 v10 m (vals (goD D))

/-- 'of = append(of, ..)'. -/
theorem ofg_of {W wr w1 : World} {m : Nat} {v9 v10 v' : Value} {D : List St3} {t : St3} {o : Obj} (h : Ofg W wr m v9 v10 D)
    (hown : w1.ownsRow W.heap.size 44 2 v' (m + 1) (pvals (ofD D) ++ [.int .i64 t.2.1, .int .i64 t.1])) (hgrow : (wr.alloc o).grownBy w1 v9.ownBlock) :
    (∃ a c, v' = .slice a (m + 1) c) ∧ Hid (Below W.heap.size W w1 ∧ w1.ownsRow W.heap.size 44 2 v' (m + 1) (pvals (ofD (D ++ [t]))) ∧ w1.ownsRow W.heap.size 3 1 v10 m (vals (goD D))) := by
  have hg := (World.grownBy_alloc _ _ _).trans hgrow
  refine ⟨?_, hid ⟨?_, ?_, ?_⟩⟩
  · rcases hown.2 with ⟨_, h0⟩ | ⟨g, cap, cur, rfl, _⟩
    · omega
    · exact ⟨_, _, rfl⟩
  · exact h.below.grown hg h.below.size (fun b hb => (h.of.lt b hb).1)
  · rw [ofD_snoc, ← pvals_snoc]
    exact hown
  · exact row_kp (L := [some 3]) h.go (kp_row h.of hg (by decide)) (by decide)

/-- 'goes = append(goes, ..)'. -/
theorem ofg_go {W w1 w2 : World} {m : Nat} {v9 v10 v' : Value} {D : List St3} {t : St3} {x : Int} {o : Obj} (hm : m = D.length) (hx : x = t.2.2) (h : Below W.heap.size W w1 ∧ w1.ownsRow W.heap.size 44 2 v9 (m + 1) (pvals (ofD (D ++ [t]))) ∧ w1.ownsRow W.heap.size 3 1 v10 m (vals (goD D)))
    (hown : w2.ownsRow W.heap.size 3 1 v' (m + 1) (vals (goD D) ++ [.int .i64 x])) (hgrow : (w1.alloc o).grownBy w2 v10.ownBlock) :
    (∃ a c, v' = .slice a (m + 1) c) ∧ Hid (Ofg W w2 (m + 1) v9 v' (D ++ [t])) := by
  subst hx
  have hg := (World.grownBy_alloc _ _ _).trans hgrow
  refine ⟨?_, hid ⟨?_, ?_, ?_, ?_⟩⟩
  · rcases hown.2 with ⟨_, h0⟩ | ⟨g, cap, cur, rfl, _⟩
    · omega
    · exact ⟨_, _, rfl⟩
  · simp [hm]
  · exact h.1.grown hg h.1.size (fun b hb => (h.2.2.lt b hb).1)
  · exact row_kp (L := [some 44]) h.2.1 (kp_row h.2.2 hg (by decide)) (by decide)
  · rw [goD_snoc, ← vals_snoc]
    exact hown

/-- What is whole. -/
theorem ofg_end {W wr : World} {m c c' : Nat} {a a' : Option Addr} {D : List St3} (h : Ofg W wr m (.slice a m c) (.slice a' m c') D) : Prs wr a (ofD D) ∧ Row wr a' m (fun i => (goD D).getD i 0) := by
  have hl := h.len
  refine ⟨?_, ?_⟩
  · obtain ⟨a2, c2, e, _, hp⟩ := owns_prs h.of (by rw [ofD_len]; exact hl)
    cases e
    exact hp
  · have h2 := h.go
    obtain ⟨a2, c2, e, hr⟩ := owns_row (l := goD D) (by rw [goD_len, ← hl]; exact h2)
    rw [goD_len, ← hl] at e hr
    cases e
    exact hr

theorem owns_slice {w : World} {base s n : Nat} {t : TypeId} {v : Value} {xs : List Value} (h : w.ownsRow base t s v n xs) : ∃ a c, v = .slice a n c := by
  rcases h.2 with ⟨rfl, rfl⟩ | ⟨g, cap, cur, rfl, _⟩
  · exact ⟨none, 0, rfl⟩
  · exact ⟨_, _, rfl⟩

end Go.Proofs.Ythpbgfodejoecaa

namespace Go.Proofs.Ythpbgfodejoecaa
open Go.RowKit Go.Maps

def valsU (l : List Int) : List Value := l.map (Value.int .u64)

/-- Start, Next and Label so far. -/
structure Rw4 (W w : World) (sv nv lv : Value) (sl : List Int) (nl : List (List Int)) (ul : List Int) : Prop where
  below : Below W.heap.size W w
  blk : w.heap[W.heap.size]? = some (.cells #[sv, nv, lv, .slice none 0 0] 30 (0, 0))
  s : w.ownsRow (W.heap.size + 1) 3 1 sv sl.length (vals sl)
  n : ∃ Vs, w.ownsRow (W.heap.size + 1) 26 1 nv nl.length Vs ∧ ∀ i, i < nl.length → ∃ v, Vs[i]? = some v ∧ w.ownsRow (W.heap.size + 1) 3 1 v (nl.getD i []).length (vals (nl.getD i [])) ∧ ∀ b, v.ownBlock = some b → sv.ownBlock ≠ some b
  l : w.ownsRow (W.heap.size + 1) 57 1 lv ul.length (valsU ul)

theorem Rw4.lt {W w : World} {sv nv lv : Value} {sl : List Int} {nl : List (List Int)} {ul : List Int} (h : Rw4 W w sv nv lv sl nl ul) : W.heap.size < w.heap.size := (Array.getElem?_eq_some_iff.1 h.blk).1

theorem Rw4.next {W w w' : World} {sv nv lv : Value} {sl : List Int} {nl : List (List Int)} {ul : List Int} (h : Rw4 W w sv nv lv sl nl ul) (hb : Below w.heap.size w w') : Rw4 W w' sv nv lv sl nl ul := by
  refine ⟨h.below.trans (hb.mono h.below.size), (hb.block _ h.lt).trans h.blk, below_ownsRow h.s hb, ?_, below_ownsRow h.l hb⟩
  obtain ⟨Vs, h1, h2⟩ := h.n
  refine ⟨Vs, below_ownsRow h1 hb, fun i hi => ?_⟩
  obtain ⟨v, h3, h4, h5⟩ := h2 i hi
  exact ⟨v, h3, below_ownsRow h4 hb, h5⟩

theorem rw4_start (W : World) : Rw4 W (W.alloc (.cells #[.slice none 0 0, .slice none 0 0, .slice none 0 0, .slice none 0 0] 30)) (.slice none 0 0) (.slice none 0 0) (.slice none 0 0) [] [] [] :=
  ⟨box_below _ _, Go.Deep.blk_alloc_new _ _, World.ownsRow_nil _ _ _ _, ⟨[], World.ownsRow_nil _ _ _ _, fun i hi => by simp at hi⟩, World.ownsRow_nil _ _ _ _⟩

theorem blk1_set {w : World} {r : Nat} {a b c d : Value} (h : w.heap[r]? = some (.cells #[a, b, c, d] 30 (0, 0))) (v : Value) : (w.setCell ⟨r, 0, none⟩ v).heap[r]? = some (.cells #[v, b, c, d] 30 (0, 0)) ∧ (w.setCell ⟨r, 1, none⟩ v).heap[r]? = some (.cells #[a, v, c, d] 30 (0, 0)) ∧ (w.setCell ⟨r, 2, none⟩ v).heap[r]? = some (.cells #[a, b, v, d] 30 (0, 0)) ∧ (w.setCell ⟨r, 3, none⟩ v).heap[r]? = some (.cells #[a, b, c, v] 30 (0, 0)) := by
  simp [World.setCell, Array.getElem?_modify, h]

/-- 'w.Next = append(w.Next, next)'. -/
theorem Rw4.addN {W w w1 : World} {sv nv lv v v' : Value} {sl : List Int} {nl : List (List Int)} {ul y : List Int} {lo n : Nat} {Vs : List Value} {o : Obj} (h : Rw4 W w sv nv lv sl nl ul) (hn : n = nl.length) (hlo : W.heap.size + 1 ≤ lo) (hv : w.ownsRow lo 3 1 v y.length (vals y)) (hap : ∀ b, v.ownBlock = some b → sv.ownBlock ≠ some b)
    (hV : w.ownsRow (W.heap.size + 1) 26 1 nv n Vs ∧ ∀ i, i < nl.length → ∃ v, Vs[i]? = some v ∧ w.ownsRow (W.heap.size + 1) 3 1 v (nl.getD i []).length (vals (nl.getD i [])) ∧ ∀ b, v.ownBlock = some b → sv.ownBlock ≠ some b)
    (hown : w1.ownsRow (W.heap.size + 1) 26 1 v' (n + 1) (Vs ++ [v])) (hgrow : (w.alloc o).grownBy w1 nv.ownBlock) :
    (∃ a c, v' = .slice a (n + 1) c) ∧ w1.cell? ⟨W.heap.size, 1, none⟩ = some nv ∧ w1.frozen? ⟨W.heap.size, 1, none⟩ = false ∧ Hid (Rw4 W (w1.setCell ⟨W.heap.size, 1, none⟩ v') sv v' lv sl (nl ++ [y]) ul) := by
  subst hn
  have hg := (World.grownBy_alloc _ _ _).trans hgrow
  have kp : Kp [some 3, some 57, some 30] w w1 := kp_row hV.1 hg (by decide)
  have hblk := kp _ _ h.blk (by simp [otag])
  have hlt := h.lt
  have hsz : w.heap.size ≤ w1.heap.size := hg.size
  refine ⟨owns_slice hown, cell_of_cells hblk rfl, by simp [World.frozen?, hblk], hid ⟨?_, (blk1_set hblk v').2.1, ?_, ⟨Vs ++ [v], ?_, fun i hi => ?_⟩, ?_⟩⟩
  · exact (h.below.grown hg h.below.size (fun b hb => by have := (hV.1.lt b hb).1; omega)).setCell (Nat.le_refl _) _
  · exact ownsRow_setCell_below (row_kp h.s kp (by decide)) (by show W.heap.size < _; omega) _
  · rw [List.length_append, List.length_singleton]
    exact ownsRow_setCell_below hown (by show W.heap.size < _; omega) _
  · have hVl : Vs.length = nl.length := by have := hV.1.1; omega
    by_cases e : i = nl.length
    · subst e
      refine ⟨v, by rw [List.getElem?_append_right (by omega), hVl]; simp, ?_, hap⟩
      have hy : (nl ++ [y]).getD nl.length [] = y := by simp
      rw [hy]
      exact ownsRow_setCell_below (World.ownsRow.mono (row_kp hv kp (by decide)) hlo) (by show W.heap.size < _; omega) _
    · have hi2 : i < nl.length := by simp at hi; omega
      obtain ⟨u, h3, h4, h5⟩ := hV.2 i hi2
      have hy : (nl ++ [y]).getD i [] = nl.getD i [] := by simp [List.getElem?_append_left hi2]
      rw [hy]
      exact ⟨u, by rw [List.getElem?_append_left (by omega)]; exact h3, ownsRow_setCell_below (row_kp h4 kp (by decide)) (by show W.heap.size < _; omega) _, h5⟩
  · exact ownsRow_setCell_below (row_kp h.l kp (by decide)) (by show W.heap.size < _; omega) _

/-- 'w.Label = append(w.Label, x)'. -/
theorem Rw4.addL {W w w1 : World} {sv nv lv v' : Value} {sl : List Int} {nl : List (List Int)} {ul : List Int} {n : Nat} {x : Int} {o : Obj} (h : Rw4 W w sv nv lv sl nl ul) (hn : n = ul.length)
    (hown : w1.ownsRow (W.heap.size + 1) 57 1 v' (n + 1) (valsU ul ++ [.int .u64 x])) (hgrow : (w.alloc o).grownBy w1 lv.ownBlock) :
    (∃ a c, v' = .slice a (n + 1) c) ∧ w1.cell? ⟨W.heap.size, 2, none⟩ = some lv ∧ w1.frozen? ⟨W.heap.size, 2, none⟩ = false ∧ Hid (Rw4 W (w1.setCell ⟨W.heap.size, 2, none⟩ v') sv nv v' sl nl (ul ++ [x])) := by
  subst hn
  have hg := (World.grownBy_alloc _ _ _).trans hgrow
  have kp : Kp [some 3, some 26, some 30] w w1 := kp_row h.l hg (by decide)
  have hblk := kp _ _ h.blk (by simp [otag])
  obtain ⟨Vs, h1, h2⟩ := h.n
  refine ⟨owns_slice hown, cell_of_cells hblk rfl, by simp [World.frozen?, hblk], hid ⟨?_, (blk1_set hblk v').2.2.1, ?_, ⟨Vs, ?_, fun i hi => ?_⟩, ?_⟩⟩
  · exact (h.below.grown hg h.below.size (fun b hb => by have := (h.l.lt b hb).1; omega)).setCell (Nat.le_refl _) _
  · exact ownsRow_setCell_below (row_kp h.s kp (by decide)) (by show W.heap.size < _; omega) _
  · exact ownsRow_setCell_below (row_kp h1 kp (by decide)) (by show W.heap.size < _; omega) _
  · obtain ⟨u, h3, h4, h5⟩ := h2 i hi
    exact ⟨u, h3, ownsRow_setCell_below (row_kp h4 kp (by decide)) (by show W.heap.size < _; omega) _, h5⟩
  · have : valsU (ul ++ [x]) = valsU ul ++ [.int .u64 x] := by simp [valsU]
    rw [this, List.length_append, List.length_singleton]
    exact ownsRow_setCell_below hown (by show W.heap.size < _; omega) _

/-- 'w.Start = append(w.Start, i)'. -/
theorem Rw4.addS {W w w1 : World} {sv nv lv v' : Value} {sl : List Int} {nl : List (List Int)} {ul : List Int} {n : Nat} {x : Int} {o : Obj} (h : Rw4 W w sv nv lv sl nl ul) (hn : n = sl.length)
    (hown : w1.ownsRow (W.heap.size + 1) 3 1 v' (n + 1) (vals sl ++ [.int .i64 x])) (hgrow : (w.alloc o).grownBy w1 sv.ownBlock) (hloc : v'.ownBlock = sv.ownBlock ∨ v'.ownBlock = some (w.alloc o).heap.size) :
    (∃ a c, v' = .slice a (n + 1) c) ∧ w1.cell? ⟨W.heap.size, 0, none⟩ = some sv ∧ w1.frozen? ⟨W.heap.size, 0, none⟩ = false ∧ Hid (Rw4 W (w1.setCell ⟨W.heap.size, 0, none⟩ v') v' nv lv (sl ++ [x]) nl ul) := by
  subst hn
  have hg := (World.grownBy_alloc _ _ _).trans hgrow
  have kp : Kp [some 57, some 26, some 30] w w1 := kp_row h.s hg (by decide)
  have hblk := kp _ _ h.blk (by simp [otag])
  obtain ⟨Vs, h1, h2⟩ := h.n
  refine ⟨owns_slice hown, cell_of_cells hblk rfl, by simp [World.frozen?, hblk], hid ⟨?_, (blk1_set hblk v').1, ?_, ⟨Vs, ?_, fun i hi => ?_⟩, ?_⟩⟩
  · exact (h.below.grown hg h.below.size (fun b hb => by have := (h.s.lt b hb).1; omega)).setCell (Nat.le_refl _) _
  · rw [List.length_append, List.length_singleton, ← vals_snoc]
    exact ownsRow_setCell_below hown (by show W.heap.size < _; omega) _
  · exact ownsRow_setCell_below (row_kp h1 kp (by decide)) (by show W.heap.size < _; omega) _
  · obtain ⟨u, h3, h4, h5⟩ := h2 i hi
    have h6 : w1.ownsRow (W.heap.size + 1) 3 1 u (nl.getD i []).length (vals (nl.getD i [])) := own_on h4 (fun b hb => hg.block b (h4.lt b hb).2 (fun e => h5 b hb e.symm))
    refine ⟨u, h3, ownsRow_setCell_below h6 (by show W.heap.size < _; omega) _, fun b hb e => ?_⟩
    rcases hloc with h7 | h7
    · exact h5 b hb (h7.symm.trans e)
    · rw [h7] at e
      have h8 := (h4.lt b hb).2
      have h9 : (w.alloc o).heap.size = w.heap.size + 1 := by simp
      injection e with e
      omega
  · exact ownsRow_setCell_below (row_kp h.l kp (by decide)) (by show W.heap.size < _; omega) _

end Go.Proofs.Ythpbgfodejoecaa
