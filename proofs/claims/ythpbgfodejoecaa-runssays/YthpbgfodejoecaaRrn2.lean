/- The fair sets that the document makes. -/
import Derived.Test.YthpbgfodejoecaaRefStepJ
namespace Go.Proofs.Ythpbgfodejoecaa
open Go.RowKit Go.Maps

structure Rw5 (W3 W5 w : World) (kb q : Nat) (sv nv lv fv : Value) (fs : List (List Int)) : Prop where
  below : Below W3.heap.size W3 w
  old : ∀ g, g < W5.heap.size → g ≠ W3.heap.size → w.heap[g]? = W5.heap[g]?
  size : W5.heap.size ≤ w.heap.size
  blk : w.heap[W3.heap.size]? = some (.cells #[sv, nv, lv, fv] 30 (0, 0))
  r5 : W3.heap.size < W5.heap.size
  kc : w.heap[kb]? = some (.cells #[.int .i64 (q : Nat)] 3 (0, 0))
  hkb : W5.heap.size ≤ kb
  f : ∃ Vs, w.ownsRow W5.heap.size 26 1 fv fs.length Vs ∧ ∀ i, i < fs.length → ∃ v, Vs[i]? = some v ∧ w.ownsRow W5.heap.size 3 1 v (fs.getD i []).length (vals (fs.getD i [])) ∧ v.ownBlock ≠ some kb

theorem Rw5.klt {W3 W5 w : World} {kb q : Nat} {sv nv lv fv : Value} {fs : List (List Int)} (h : Rw5 W3 W5 w kb q sv nv lv fv fs) : kb < w.heap.size := (Array.getElem?_eq_some_iff.1 h.kc).1
theorem Rw5.rlt {W3 W5 w : World} {kb q : Nat} {sv nv lv fv : Value} {fs : List (List Int)} (h : Rw5 W3 W5 w kb q sv nv lv fv fs) : W3.heap.size < w.heap.size := Nat.lt_of_lt_of_le h.r5 h.size

theorem Rw5.next {W3 W5 w w' : World} {kb q : Nat} {sv nv lv fv : Value} {fs : List (List Int)} (h : Rw5 W3 W5 w kb q sv nv lv fv fs) (hb : Below w.heap.size w w') : Rw5 W3 W5 w' kb q sv nv lv fv fs := by
  refine ⟨h.below.trans (hb.mono h.below.size), fun g hg hne => (hb.block g (Nat.lt_of_lt_of_le hg h.size)).trans (h.old g hg hne), Nat.le_trans h.size hb.size, (hb.block _ h.rlt).trans h.blk, h.r5, (hb.block _ h.klt).trans h.kc, h.hkb, ?_⟩
  obtain ⟨Vs, h1, h2⟩ := h.f
  refine ⟨Vs, below_ownsRow h1 hb, fun i hi => ?_⟩
  obtain ⟨v, h3, h4, h5⟩ := h2 i hi
  exact ⟨v, h3, below_ownsRow h4 hb, h5⟩

theorem rw5_start {W3 W5 : World} {sv nv lv : Value} {sl : List Int} {nl : List (List Int)} {ul : List Int} (h : Rw4 W3 W5 sv nv lv sl nl ul) : Rw5 W3 W5 (W5.alloc (.cells #[.int .i64 ((0 : Nat) : Int)] 3)) W5.heap.size 0 sv nv lv (.slice none 0 0) [] := by
  have hb := box_below W5 (.cells #[.int .i64 ((0 : Nat) : Int)] 3)
  exact ⟨h.below.trans (hb.mono h.below.size), fun g hg _ => hb.block g hg, hb.size, (hb.block _ h.lt).trans h.blk, h.lt, Go.Deep.blk_alloc_new _ _, Nat.le_refl _, [], World.ownsRow_nil _ _ _ _, fun i hi => by simp at hi⟩

/-- 'w.Fair = append(w.Fair, set)'. -/
theorem Rw5.addF {W3 W5 w w1 : World} {kb q n lo : Nat} {sv nv lv fv v v' : Value} {fs : List (List Int)} {y : List Int} {Vs : List Value} {o : Obj} (h : Rw5 W3 W5 w kb q sv nv lv fv fs) (hn : n = fs.length) (hlo : W5.heap.size ≤ lo ∧ kb < lo) (hv : w.ownsRow lo 3 1 v y.length (vals y))
    (hV : w.ownsRow W5.heap.size 26 1 fv n Vs ∧ ∀ i, i < fs.length → ∃ v, Vs[i]? = some v ∧ w.ownsRow W5.heap.size 3 1 v (fs.getD i []).length (vals (fs.getD i [])) ∧ v.ownBlock ≠ some kb)
    (hown : w1.ownsRow W5.heap.size 26 1 v' (n + 1) (Vs ++ [v])) (hgrow : (w.alloc o).grownBy w1 fv.ownBlock) :
    (∃ a c, v' = .slice a (n + 1) c) ∧ w1.cell? ⟨W3.heap.size, 3, none⟩ = some fv ∧ w1.frozen? ⟨W3.heap.size, 3, none⟩ = false ∧ Hid (Rw5 W3 W5 (w1.setCell ⟨W3.heap.size, 3, none⟩ v') kb q sv nv lv v' (fs ++ [y])) := by
  subst hn
  have hg := (World.grownBy_alloc _ _ _).trans hgrow
  have kp : Kp [some 3, some 57, some 30] w w1 := kp_row hV.1 hg (by decide)
  have hblk := kp _ _ h.blk (by simp [otag])
  have hkc := kp _ _ h.kc (by simp [otag])
  have hrl := h.r5
  have hsz : w.heap.size ≤ w1.heap.size := hg.size
  have hset : (w1.setCell ⟨W3.heap.size, 3, none⟩ v').heap.size = w1.heap.size := by simp [World.setCell]
  refine ⟨owns_slice hown, cell_of_cells hblk rfl, by simp [World.frozen?, hblk], hid ⟨?_, fun g hg2 hne => ?_, by rw [hset]; exact Nat.le_trans h.size hsz, (blk1_set hblk v').2.2.2, h.r5, ?_, h.hkb, Vs ++ [v], ?_, fun i hi => ?_⟩⟩
  · exact (h.below.grown hg h.below.size (fun b hb => by have := (hV.1.lt b hb).1; omega)).setCell (Nat.le_refl _) _
  · rw [Below.heap_setCell _ _ _ _ (show g ≠ W3.heap.size from hne), hg.block g (Nat.lt_of_lt_of_le hg2 h.size) (fun e => by have := (hV.1.lt g e.symm).1; omega)]
    exact h.old g hg2 hne
  · rw [Below.heap_setCell _ _ _ _ (show kb ≠ W3.heap.size by have := h.hkb; omega)]
    exact hkc
  · rw [List.length_append, List.length_singleton]
    exact ownsRow_setCell_below hown (by show W3.heap.size < _; omega) _
  · have hVl : Vs.length = fs.length := by have := hV.1.1; omega
    by_cases e : i = fs.length
    · subst e
      refine ⟨v, by rw [List.getElem?_append_right (by omega), hVl]; simp, ?_, fun e => by have := (hv.lt kb e).1; omega⟩
      have hy : (fs ++ [y]).getD fs.length [] = y := by simp
      rw [hy]
      exact ownsRow_setCell_below (World.ownsRow.mono (row_kp hv kp (by decide)) hlo.1) (by show W3.heap.size < _; omega) _
    · have hi2 : i < fs.length := by simp at hi; omega
      obtain ⟨u, h3, h4, h5⟩ := hV.2 i hi2
      have hy : (fs ++ [y]).getD i [] = fs.getD i [] := by simp [List.getElem?_append_left hi2]
      rw [hy]
      exact ⟨u, by rw [List.getElem?_append_left (by omega)]; exact h3, ownsRow_setCell_below (row_kp h4 kp (by decide)) (by show W3.heap.size < _; omega) _, h5⟩

/-- The next round's number. -/
theorem Rw5.bump {W3 W5 w : World} {kb q : Nat} {sv nv lv fv : Value} {fs : List (List Int)} (h : Rw5 W3 W5 w kb q sv nv lv fv fs) (u : Value) (hu : u = .int .i64 ((q + 1 : Nat) : Int)) : Rw5 W3 W5 ((w.alloc (.cells #[.int .i64 (q : Nat)] 3)).setCell ⟨w.heap.size, 0, none⟩ u) w.heap.size (q + 1) sv nv lv fv fs := by
  subst hu
  have hb := box_below w (.cells #[.int .i64 (q : Nat)] 3)
  have h2 := h.next hb
  have hsz := h.size
  have hr := h.rlt
  have hset : ((w.alloc (.cells #[.int .i64 (q : Nat)] 3)).setCell ⟨w.heap.size, 0, none⟩ (.int .i64 ((q + 1 : Nat) : Int))).heap.size = w.heap.size + 1 := by simp [World.setCell]
  refine ⟨h2.below.setCell (by show W3.heap.size ≤ w.heap.size; omega) _, fun g hg hne => ?_, by rw [hset]; omega, ?_, h.r5, ?_, hsz, ?_⟩
  · rw [Below.heap_setCell _ _ _ _ (show g ≠ w.heap.size by omega)]
    exact h2.old g hg hne
  · rw [Below.heap_setCell _ _ _ _ (show W3.heap.size ≠ w.heap.size by omega)]
    exact h2.blk
  · have hnw : (w.alloc (.cells #[.int .i64 (q : Nat)] 3)).heap[w.heap.size]? = some (.cells #[.int .i64 (q : Nat)] 3 (0, 0)) := Go.Deep.blk_alloc_new _ _
    unfold World.setCell
    rw [Array.getElem?_modify, if_pos rfl, hnw]
    rfl
  · obtain ⟨Vs, h1, h3⟩ := h.f
    have hk : ∀ {s n : Nat} {t : TypeId} {v : Value} {xs : List Value}, w.ownsRow W5.heap.size t s v n xs → ((w.alloc (.cells #[.int .i64 (q : Nat)] 3)).setCell ⟨w.heap.size, 0, none⟩ (.int .i64 ((q + 1 : Nat) : Int))).ownsRow W5.heap.size t s v n xs := fun {s n t v xs} ho => own_on ho (fun b hb2 => by
      have hlt := (ho.lt b hb2).2
      rw [Below.heap_setCell _ _ _ _ (show b ≠ w.heap.size by omega)]
      exact hb.block b hlt)
    refine ⟨Vs, hk h1, fun i hi => ?_⟩
    obtain ⟨v, h4, h5, h6⟩ := h3 i hi
    exact ⟨v, h4, hk h5, fun e => by have := (h5.lt _ e).2; omega⟩

theorem Rw5.bump2 {W3 W5 w : World} {kb q : Nat} {sv nv lv fv : Value} {fs : List (List Int)} (h : Rw5 W3 W5 w kb q sv nv lv fv fs) : Rw5 W3 W5 (w.alloc (.cells #[.int .i64 ((q : Int) + 1)] 3)) w.heap.size (q + 1) sv nv lv fv fs := by
  have hb := box_below w (.cells #[.int .i64 ((q : Int) + 1)] 3)
  have h2 := h.next hb
  have hsz := h.size
  refine ⟨h2.below, h2.old, h2.size, h2.blk, h.r5, ?_, hsz, ?_⟩
  · have := Go.Deep.blk_alloc_new w (.cells #[.int .i64 ((q : Int) + 1)] 3)
    exact this
  · obtain ⟨Vs, h1, h3⟩ := h.f
    refine ⟨Vs, below_ownsRow h1 hb, fun i hi => ?_⟩
    obtain ⟨v, h4, h5, h6⟩ := h3 i hi
    exact ⟨v, h4, below_ownsRow h5 hb, fun e => by have := (h5.lt _ e).2; omega⟩

/-- Lists of numbers that are owned, as a graph. -/
theorem owns_gr {w : World} {base n c : Nat} {a : Option Addr} {Vs : List Value} {ls : List (List Int)} (h : w.ownsRow base 26 1 (.slice a n c) n Vs) (hr : ∀ i, i < n → ∃ v, Vs[i]? = some v ∧ w.ownsRow base 3 1 v (ls.getD i []).length (vals (ls.getD i []))) : Gr w a n (fun i => (ls.getD i []).length) (fun i j => (ls.getD i []).getD j 0) := by
  rcases h.2 with ⟨h1, h0⟩ | ⟨g, cap, cur, h1, _⟩
  · exact ⟨0, 0, fun hh => by omega, fun i hi => by omega⟩
  · cases h1
    refine ⟨g, 0, fun _ => rfl, fun i hi => ?_⟩
    obtain ⟨v, h2, h3⟩ := hr i hi
    obtain ⟨a', c', rfl, hrow⟩ := owns_row h3
    have := h.cells (g := g) rfl _ _ h2
    rw [add_none2] at this
    exact ⟨a', c', this, hrow⟩

theorem owns_rowU {w : World} {base n c : Nat} {a : Option Addr} {ul : List Int} (h : w.ownsRow base 57 1 (.slice a n c) n (valsU ul)) : RowU w a n (fun i => ul.getD i 0) := by
  have hl : ul.length = n := by have := h.1; unfold valsU at this; simp at this; exact this
  rcases h.2 with ⟨h1, h0⟩ | ⟨g, cap, cur, h1, _⟩
  · exact ⟨0, 0, fun hh => by omega, fun i hi => by omega⟩
  · cases h1
    refine ⟨g, 0, fun _ => rfl, fun i hi => ?_⟩
    have := h.cells (g := g) rfl i (.int .u64 (ul.getD i 0)) (by unfold valsU; simp [show i < ul.length by omega])
    rw [add_none2] at this
    exact this

theorem RowU.congr {w : World} {a : Option Addr} {n : Nat} {Y Z : Nat → Int} (h : RowU w a n Y) (e : ∀ i, i < n → Y i = Z i) : RowU w a n Z := by
  obtain ⟨b, o, h1, h2⟩ := h
  exact ⟨b, o, h1, fun i hi => by rw [h2 i hi, e i hi]⟩
theorem Gr.congr {w : World} {ga : Option Addr} {G : Nat} {L L' : Nat → Nat} {Z Z' : Nat → Nat → Int} (h : Gr w ga G L Z) (e : ∀ r, r < G → L r = L' r) (e2 : ∀ r, r < G → Z r = Z' r) : Gr w ga G L' Z' := by
  obtain ⟨b, o, h1, h2⟩ := h
  refine ⟨b, o, h1, fun r hr => ?_⟩
  obtain ⟨a, c, h3, h4⟩ := h2 r hr
  exact ⟨a, c, by rw [← e r hr]; exact h3, by rw [← e r hr, ← e2 r hr]; exact h4⟩

/-- The pieces put together, wherever they lie. -/
theorem rn_put2 {z : World} {nx : List (List (Int × Int))} {G ll s0 c0 n cn cl fc : Nat} {l : List St3} {a0 an al fa : Option Addr} (hn : n = (dgs nx G).length) (hll : ll = l.length) (h600 : n ≤ 600) (h60 : ll ≤ 60) (hs0 : s0 = (rnM nx G 0).length) (h20 : ∀ i, i < l.length → 0 ≤ (l.getD i (0, 0, 0)).1 ∧ (l.getD i (0, 0, 0)).1 < 20)
    (hS : Row z a0 s0 (fun i => (rnM nx G 0).getD i 0)) (hN : Gr z an n (fun i => (rnM nx G (rnT nx G i).2.2.toNat).length) (fun i j => (rnM nx G (rnT nx G i).2.2.toNat).getD j 0)) (hL : RowU z al n (fun i => (lbN l (rnT nx G i) : Int)))
    (hF : Gr z fa ll (fun q => (fsL (snL nx) (snS nx) (rnT nx G) n (q : Nat)).length) (fun q i => (fsL (snL nx) (snS nx) (rnT nx G) n (q : Nat)).getD i 0)) :
    ∃ A : Wx, A.val = .agg #[.slice a0 s0 c0, .slice an n cn, .slice al n cl, .slice fa ll fc] ∧ RnA A nx G l ∧ Ww z A := by
  subst hn hll hs0
  refine ⟨⟨a0, (rnM nx G 0).length, c0, an, (dgs nx G).length, cn, al, (dgs nx G).length, cl, fa, l.length, fc, fun i => (rnM nx G 0).getD i 0, fun i => (rnM nx G (rnT nx G i).2.2.toNat).length, fun i j => (rnM nx G (rnT nx G i).2.2.toNat).getD j 0, fun i => lbN l (rnT nx G i), fun q => (fsL (snL nx) (snS nx) (rnT nx G) (dgs nx G).length (q : Nat)).length, fun q i => (fsL (snL nx) (snS nx) (rnT nx G) (dgs nx G).length (q : Nat)).getD i 0⟩, rfl, ⟨rfl, rfl, rfl, rfl, rfl, rfl, rfl, rfl, rfl, rfl⟩, hS, hN, hL, hF, ?_, ?_, ?_, ?_, ?_, ?_, ?_⟩
  · have := rnM_len nx G 0
    show (rnM nx G 0).length ≤ _
    omega
  · show (dgs nx G).length ≤ _
    omega
  · intro r _
    have := rnM_len nx G (rnT nx G r).2.2.toNat
    show (rnM nx G (rnT nx G r).2.2.toNat).length ≤ _
    omega
  · show (dgs nx G).length ≤ _
    omega
  · show l.length ≤ _
    omega
  · intro r _
    have := fsL_len (snL nx) (snS nx) (rnT nx G) (dgs nx G).length (r : Nat)
    show (fsL (snL nx) (snS nx) (rnT nx G) (dgs nx G).length (r : Nat)).length ≤ _
    omega
  · intro i _
    have := lbN_lt (t := rnT nx G i) h20
    show lbN l (rnT nx G i) < _
    omega

end Go.Proofs.Ythpbgfodejoecaa
