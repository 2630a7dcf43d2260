/- What Found holds in memory. -/
import Derived.Test.YtjenkhphngiphaaRefLead
import Derived.Test.YtjenkhphngiphaaSndXJ
namespace Go.Proofs.Ytjenkhphngiphaa
open Go.RowKit Go.Maps

theorem below_both {B : Nat} {a b : World} (h : Below B a b) (p : Addr) (v : Value) : Below B (a.setCell p v) (b.setCell p v) := by
  refine ⟨h.os, h.tape, h.output, by simpa [World.setCell] using h.size, fun k hk => ?_⟩
  by_cases e : k = p.block
  · subst e
    simp only [World.setCell, Array.getElem?_modify, if_true]
    rw [h.block _ hk]
  · rw [Below.heap_setCell _ _ _ _ e, Below.heap_setCell _ _ _ _ e]
    exact h.block k hk

/-- The list of those that do something, and the graph, while they are made. -/
structure Fg (Wb wr : World) (N G : Nat) (D : Nat → Bool) (T : Nat → List Int) (V : Nat → Value) (Wd : World) : Prop where
  sz : Wd.heap.size = Wb.heap.size + 1
  bel : Below Wb.heap.size Wb Wd
  does : Wd.rowIs Wb.heap.size 4 N (fun i => .bool (D i))
  fam : Fam Wd wr G T V
  gx : wr.heap[Wb.heap.size + 1 + 1]? = some (.cells #[.slice (some ⟨Wb.heap.size + 1, 0, none⟩) G G] 32 (0, 0))

section
variable {Wb wr Wd : World} {N G : Nat} {D : Nat → Bool} {T : Nat → List Int} {V : Nat → Value}

theorem fg_start (Wb : World) (N G : Nat) (T : Nat → List Int) (hT : ∀ j, j < G → T j = []) :
    Fg Wb (((Wb.alloc (.cells (madeCells #[.bool false] N) 4)).alloc (.cells (madeCells #[.slice none 0 0] G) 26)).alloc (.cells #[.slice (some ⟨Wb.heap.size + 1, 0, none⟩) G G] 32)) N G (fun _ => false) T (fun _ => .slice none 0 0) (Wb.alloc (.cells (madeCells #[.bool false] N) 4)) := by
  have e1 : (Wb.alloc (.cells (madeCells #[.bool false] N) 4)).heap.size = Wb.heap.size + 1 := by simp
  refine ⟨e1, box_below _ _, World.rowIs_made Wb (.bool false) N 4, (fam_start _ G T hT).alloc _, ?_⟩
  have e2 : ((Wb.alloc (.cells (madeCells #[.bool false] N) 4)).alloc (.cells (madeCells #[.slice none 0 0] G) 26)).heap.size = Wb.heap.size + 1 + 1 := by simp
  rw [← e2]
  exact Go.Deep.blk_alloc_new _ _

theorem Fg.below (h : Fg Wb wr N G D T V Wd) : Below Wb.heap.size Wb wr := h.bel.trans (h.fam.below.mono (by rw [h.sz]; omega))
theorem Fg.row (h : Fg Wb wr N G D T V Wd) : wr.rowIs Wb.heap.size 4 N (fun i => .bool (D i)) := h.does.of_block (h.fam.below.block _ (by rw [h.sz]; omega))
theorem Fg.big (h : Fg Wb wr N G D T V Wd) : Wb.heap.size + 1 + 1 < wr.heap.size := (Array.getElem?_eq_some_iff.1 h.gx).1
theorem Fg.gxc (h : Fg Wb wr N G D T V Wd) : wr.cell? ⟨Wb.heap.size + 1 + 1, 0, none⟩ = some (.slice (some ⟨Wb.heap.size + 1, 0, none⟩) G G) := cell_of_cells h.gx rfl

theorem Fg.mark (h : Fg Wb wr N G D T V Wd) (x : Nat) : Fg Wb (wr.setCell ⟨Wb.heap.size, x, none⟩ (.bool true)) N G (mark D x) T V (Wd.setCell ⟨Wb.heap.size, x, none⟩ (.bool true)) := by
  have hs : (Wd.setCell ⟨Wb.heap.size, x, none⟩ (.bool true)).heap.size = Wd.heap.size := by simp [World.setCell]
  have hz := h.sz
  refine ⟨hs.trans h.sz, h.bel.setCell (Nat.le_refl _) _, (h.does.set x _).congr (fun y _ => by unfold Ytjenkhphngiphaa.mark; split <;> rfl), ⟨?_, ?_, fun j hj => ?_, h.fam.apart⟩, ?_⟩
  · rw [hs]
    exact below_both h.fam.below _ _
  · rw [hs]
    exact h.fam.top.of_block (Below.heap_setCell _ _ _ _ (by show Wd.heap.size ≠ Wb.heap.size; omega))
  · rw [hs]
    exact ownsRow_setCell_below (h.fam.own j hj) (by show Wb.heap.size < _; omega) _
  · rw [Below.heap_setCell _ _ _ _ (by show Wb.heap.size + 1 + 1 ≠ Wb.heap.size; omega)]
    exact h.gx

theorem Fg.congr {T' : Nat → List Int} (h : Fg Wb wr N G D T V Wd) (e : ∀ j, j < G → T j = T' j) : Fg Wb wr N G D T' V Wd := ⟨h.sz, h.bel, h.does, h.fam.congr e, h.gx⟩

/-- 'g[j] = append(g[j], x)'. -/
theorem Fg.app {w1 : World} {j n gg cap : Nat} {x : Int} {v : Value} {o : Obj} (h : Fg Wb wr N G D T V Wd) (hj : j < G) (hn : (T j).length = n) (hv : V j = v)
    (hown : w1.ownsRow (Wb.heap.size + 1 + 1) 3 1 (.slice (some ⟨gg, 0, none⟩) (n + 1) cap) (n + 1) (vals (T j) ++ [.int .i64 x])) (hgrow : (wr.alloc o).drew.grownBy w1 v.ownBlock) (hat : v.ownBlock = some gg ∨ gg = wr.heap.size + 1) :
    w1.cell? ⟨Wb.heap.size + 1, j, none⟩ = some v ∧ w1.frozen? ⟨Wb.heap.size + 1, j, none⟩ = false ∧ w1.cell? ⟨Wb.heap.size + 1 + 1, 0, none⟩ = some (.slice (some ⟨Wb.heap.size + 1, 0, none⟩) G G) ∧
    Hid (∃ V', Fg Wb (w1.setCell ⟨Wb.heap.size + 1, j, none⟩ (.slice (some ⟨gg, 0, none⟩) (n + 1) cap)) N G D (fun i => if i = j then T j ++ [x] else T i) V' Wd) := by
  obtain ⟨g1, g2, g3⟩ := famApp h.fam hj hn hv h.sz (by rw [h.sz]; exact hown) hgrow hat
  have hne : v.ownBlock ≠ some (Wb.heap.size + 1 + 1) := fun e => by
    have ho := h.fam.own j hj
    rw [hv] at ho
    obtain ⟨c, hc⟩ := ownBlock_own ho _ e
    rw [h.gx] at hc
    simp at hc
  have hg : (wr.alloc o).grownBy w1 v.ownBlock := ⟨hgrow.os, hgrow.tape, hgrow.output, hgrow.size, hgrow.block⟩
  have hgx : w1.heap[Wb.heap.size + 1 + 1]? = some (.cells #[.slice (some ⟨Wb.heap.size + 1, 0, none⟩) G G] 32 (0, 0)) := by
    rw [((World.grownBy_alloc wr o v.ownBlock).trans hg).block _ h.big (Ne.symm hne)]
    exact h.gx
  refine ⟨g1, g2, cell_of_cells hgx rfl, _, h.sz, h.bel, h.does, g3.out, ?_⟩
  rw [Below.heap_setCell _ _ _ _ (by show Wb.heap.size + 1 + 1 ≠ Wb.heap.size + 1; omega)]
  exact hgx
end

/-- A graph in memory, each list with a block of its own. -/
structure Gt (w : World) (b base G : Nat) (T : Nat → List Int) (V : Nat → Value) : Prop where
  top : w.rowIs b 26 G V
  own : ∀ j, j < G → w.ownsRow base 3 1 (V j) (T j).length (vals (T j))

theorem Gt.kp {L : List (Option TypeId)} {w w' : World} {b base G : Nat} {T : Nat → List Int} {V : Nat → Value} (h : Gt w b base G T V) (hk : Kp L w w') (h1 : some 26 ∈ L) (h2 : some 3 ∈ L) : Gt w' b base G T V := by
  refine ⟨?_, fun j hj => row_kp (h.own j hj) hk h2⟩
  obtain ⟨c, hb, hn, hc⟩ := h.top
  exact ⟨c, hk b _ hb h1, hn, hc⟩

theorem Gt.gr {w : World} {b base G : Nat} {L : Nat → Nat} {Z : Nat → Nat → Int} {V : Nat → Value} (h : Gt w b base G (gm L Z G 0) V) : Gr w (some ⟨b, 0, none⟩) G L Z := by
  refine ⟨b, 0, fun _ => rfl, fun r hr => ?_⟩
  obtain ⟨a, c, hv, hrow⟩ := owns_row (h.own r hr)
  have e : (gm L Z G 0 r).length = L r := by rw [gm_end L Z hr, lst_len]
  rw [e] at hv hrow
  refine ⟨a, c, by rw [Nat.zero_add, h.top.cell hr, hv], hrow.congr (fun i hi => ?_)⟩
  rw [gm_end L Z hr, lst_getD _ _ _ hi]

/-- While the finding is made: old memory is as it was, and so is what was made ahead (W4); the finding's own cells; the list of the dead. -/
structure Fo (w1 W4 wr : World) (r : Nat) (dv : Value) (d : List Int) (s1 s2 : Int) : Prop where
  old : Below w1.heap.size w1 wr
  kp : Kp [some 3, some 4, some 26, some 32] W4 wr
  sz : W4.heap.size ≤ wr.heap.size
  out : Fin5 wr r dv (.int .i64 s1) (.int .i64 s2) (.slice none 0 0) (.slice none 0 0)
  row : wr.ownsRow W4.heap.size 3 1 dv d.length (vals d)

section
variable {w1 W4 wr wr' : World} {r : Nat} {dv : Value} {d : List Int} {s1 s2 : Int}

theorem Fo.below (h : Fo w1 W4 wr r dv d s1 s2) (hb : Below wr.heap.size wr wr') : Fo w1 W4 wr' r dv d s1 s2 :=
  ⟨h.old.trans (hb.mono h.old.size), h.kp.trans (kp_below hb), Nat.le_trans h.sz hb.size, h.out.below hb, below_ownsRow h.row hb⟩

theorem fin5_one {w : World} {r i : Nat} {a b c d e v : Value} (h : Fin5 w r a b c d e) : (w.setCell ⟨r, i, none⟩ v).heap[r]? = some (.cells (#[a, b, c, d, e].setIfInBounds i v) 28 (0, 0)) := by
  unfold Fin5 at h
  simp [World.setCell, Array.getElem?_modify, h]

theorem fin5_kp1 {L : List (Option TypeId)} {w : World} {r i : Nat} {a b c d e v : Value} (h : Fin5 w r a b c d e) (ht : some 28 ∉ L) : Kp L w (w.setCell ⟨r, i, none⟩ v) := kp_set h ht v

theorem Fo.set1 (h : Fo w1 W4 wr r dv d s1 s2) (hr : w1.heap.size ≤ r) (v : Int) : Fo w1 W4 (wr.setCell ⟨r, 1, none⟩ (.int .i64 v)) r dv d v s2 :=
  ⟨h.old.setCell hr _, h.kp.trans (fin5_kp1 h.out (by decide)), by simpa [World.setCell] using h.sz, fin5_one h.out, row_kp (L := [some 3]) h.row (fin5_kp1 h.out (by decide)) (by decide)⟩

theorem Fo.set2 (h : Fo w1 W4 wr r dv d s1 s2) (hr : w1.heap.size ≤ r) (v : Int) : Fo w1 W4 (wr.setCell ⟨r, 2, none⟩ (.int .i64 v)) r dv d s1 v :=
  ⟨h.old.setCell hr _, h.kp.trans (fin5_kp1 h.out (by decide)), by simpa [World.setCell] using h.sz, fin5_one h.out, row_kp (L := [some 3]) h.row (fin5_kp1 h.out (by decide)) (by decide)⟩

/-- 'out.Dead = append(out.Dead, x)'. -/
theorem Fo.app {w2 : World} {dv' : Value} {x : Int} {o : Obj} (h : Fo w1 W4 wr r dv d s1 s2) (hr : w1.heap.size ≤ r) (hrW : r < W4.heap.size) (hown : w2.ownsRow W4.heap.size 3 1 dv' (d.length + 1) (vals d ++ [.int .i64 x])) (hg : (wr.alloc o).grownBy w2 dv.ownBlock) :
    (∃ a c, dv' = .slice a (d.length + 1) c) ∧ w2.cell? ⟨r, 0, none⟩ = some dv ∧ w2.frozen? ⟨r, 0, none⟩ = false ∧ Hid (Fo w1 W4 (w2.setCell ⟨r, 0, none⟩ dv') r dv' (d ++ [x]) s1 s2) := by
  have hg' : wr.grownBy w2 dv.ownBlock := (World.grownBy_alloc _ _ _).trans hg
  have hne : dv.ownBlock ≠ some r := fun e => by
    have := (h.row.lt _ e).1
    omega
  have hout : Fin5 w2 r dv (.int .i64 s1) (.int .i64 s2) (.slice none 0 0) (.slice none 0 0) := by
    unfold Fin5
    rw [hg'.block r (Array.getElem?_eq_some_iff.1 h.out).1 (Ne.symm hne)]
    exact h.out
  have hold : Below w1.heap.size w1 w2 := h.old.grown hg' h.old.size (fun k hk => by have := (h.row.lt _ hk).1; omega)
  have hkp : Kp [some 3, some 4, some 26, some 32] W4 w2 := h.kp.new hg' h.sz (fun b hb => (h.row.lt _ hb).1)
  obtain ⟨⟨k0, _⟩, ⟨f0, _⟩⟩ := fin5_cells hout
  have hl : (d ++ [x]).length = d.length + 1 := by simp
  refine ⟨?_, k0, f0, hold.setCell hr _, hkp.trans (fin5_kp1 hout (by decide)), ?_, fin5_one hout, ?_⟩
  · rcases hown.2 with ⟨_, h0⟩ | ⟨g, cap, cur, rfl, _⟩
    · omega
    · exact ⟨_, _, rfl⟩
  · have := hg'.size
    have := h.sz
    simp [World.setCell]
    omega
  · rw [hl, ← vals_snoc]
    exact row_kp (L := [some 3]) hown (fin5_kp1 hout (by decide)) (by decide)
end

/-- The finding, with all that is told. -/
def Fe (w1 wc : World) (r : Nat) (d l1 l2 : List Int) (s1 s2 : Int) : Prop :=
  ∃ (va a3 a4 : Option Addr) (vc c3 c4 : Nat), Fin5 wc r (.slice va d.length vc) (.int .i64 s1) (.int .i64 s2) (.slice a3 l1.length c3) (.slice a4 l2.length c4) ∧ Below w1.heap.size w1 wc ∧
    wc.ownsRow 0 3 1 (.slice va d.length vc) d.length (vals d) ∧ wc.ownsRow 0 3 1 (.slice a3 l1.length c3) l1.length (vals l1) ∧ wc.ownsRow 0 3 1 (.slice a4 l2.length c4) l2.length (vals l2)

theorem fe_cell3 {w : World} {r : Nat} {a b c d e v : Value} (h : Fin5 w r a b c d e) : (w.setCell ⟨r, 3, none⟩ v).cell? ⟨r, 1, none⟩ = some b ∧ (w.setCell ⟨r, 3, none⟩ v).cell? ⟨r, 2, none⟩ = some c ∧ (w.setCell ⟨r, 3, none⟩ v).cell? ⟨r, 4, none⟩ = some e ∧ (w.setCell ⟨r, 3, none⟩ v).frozen? ⟨r, 4, none⟩ = false := by
  have h1 : Fin5 (w.setCell ⟨r, 3, none⟩ v) r a b c v e := fin5_one h
  obtain ⟨⟨_, g1, g2, _, g4⟩, ⟨_, _, _, _, f4⟩⟩ := fin5_cells h1
  exact ⟨g1, g2, g4, f4⟩

theorem fe_two {w : World} {r : Nat} {a b c d e v v' : Value} (h : Fin5 w r a b c d e) : Fin5 ((w.setCell ⟨r, 3, none⟩ v).setCell ⟨r, 4, none⟩ v') r a b c v v' := by
  have h1 : Fin5 (w.setCell ⟨r, 3, none⟩ v) r a b c v e := fin5_one h
  exact fin5_one h1

theorem fe_cell4 {w : World} {r : Nat} {a b c d e v v' : Value} (h : Fin5 w r a b c d e) : ((w.setCell ⟨r, 3, none⟩ v).setCell ⟨r, 4, none⟩ v').cell? ⟨r, 1, none⟩ = some b ∧ ((w.setCell ⟨r, 3, none⟩ v).setCell ⟨r, 4, none⟩ v').cell? ⟨r, 2, none⟩ = some c := by
  obtain ⟨⟨_, g1, g2, _, _⟩, _⟩ := fin5_cells (fe_two (v := v) (v' := v') h)
  exact ⟨g1, g2⟩

theorem fe_of {w1 W4 w9 w8 : World} {r vc c3 c4 : Nat} {va a3 a4 : Option Addr} {d l1 l2 : List Int} {s1 s2 : Int} (h : Fo w1 W4 w9 r (.slice va d.length vc) d s1 s2) (hr : w1.heap.size ≤ r) (h3 : w9.ownsRow w8.heap.size 3 1 (.slice a3 l1.length c3) l1.length (vals l1)) (h4 : w9.ownsRow w8.heap.size 3 1 (.slice a4 l2.length c4) l2.length (vals l2)) :
    Fe w1 ((w9.setCell ⟨r, 3, none⟩ (.slice a3 l1.length c3)).setCell ⟨r, 4, none⟩ (.slice a4 l2.length c4)) r d l1 l2 s1 s2 := by
  have h1 : Fin5 (w9.setCell ⟨r, 3, none⟩ (.slice a3 l1.length c3)) r (.slice va d.length vc) (.int .i64 s1) (.int .i64 s2) (.slice a3 l1.length c3) (.slice none 0 0) := fin5_one h.out
  have hk : Kp [some 3] w9 ((w9.setCell ⟨r, 3, none⟩ (.slice a3 l1.length c3)).setCell ⟨r, 4, none⟩ (.slice a4 l2.length c4)) := (fin5_kp1 h.out (by decide)).trans (fin5_kp1 h1 (by decide))
  exact ⟨va, a3, a4, vc, c3, c4, fe_two h.out, (h.old.setCell hr _).setCell hr _, row_kp (owns_base h.row (Nat.zero_le _)) hk (by decide), row_kp (owns_base h3 (Nat.zero_le _)) hk (by decide), row_kp (owns_base h4 (Nat.zero_le _)) hk (by decide)⟩

theorem own_row' {w : World} {base n : Nat} {a : Option Addr} {c : Nat} {l : List Int} (hn : l.length = n) (h : w.ownsRow base 3 1 (.slice a n c) n (vals l)) : Row w a n (fun i => l.getD i 0) := by
  subst hn
  obtain ⟨a', c', e, hr⟩ := owns_row h
  cases e
  exact hr

/-- The least number from lo on that is P. -/
def FsFrom (P : Nat → Prop) (lo n : Nat) (r : Int) : Prop := (r = -1 ∧ ∀ i, lo ≤ i → i < n → ¬ P i) ∨ (∃ k : Nat, lo ≤ k ∧ k < n ∧ r = k ∧ P k ∧ ∀ j, lo ≤ j → j < k → ¬ P j)
theorem FsFrom.start {P : Nat → Prop} {n : Nat} : FsFrom P n n (-1) := Or.inl ⟨rfl, fun i h1 h2 => by omega⟩
theorem FsFrom.hit {P : Nat → Prop} {lo n : Nat} (hl : lo < n) (h : P lo) : FsFrom P lo n lo := Or.inr ⟨lo, Nat.le_refl _, hl, rfl, h, fun j h1 h2 => by omega⟩
theorem FsFrom.miss {P : Nat → Prop} {lo n : Nat} {r : Int} (hn : ¬ P lo) (h : FsFrom P (lo + 1) n r) : FsFrom P lo n r := by
  rcases h with ⟨h1, h2⟩ | ⟨k, h1, h2, h3, h4, h5⟩
  · refine Or.inl ⟨h1, fun i g1 g2 => ?_⟩
    by_cases e : i = lo
    · subst e; exact hn
    · exact h2 i (by omega) g2
  · refine Or.inr ⟨k, by omega, h2, h3, h4, fun j g1 g2 => ?_⟩
    by_cases e : j = lo
    · subst e; exact hn
    · exact h5 j (by omega) g2
theorem FsFrom.all {P : Nat → Prop} {n : Nat} {r : Int} (h : FsFrom P 0 n r) : FstIs P n r := by
  rcases h with ⟨h1, h2⟩ | ⟨k, h1, h2, h3, h4, h5⟩
  · exact Or.inl ⟨h1, fun i hi => h2 i (Nat.zero_le _) hi⟩
  · exact Or.inr ⟨k, h2, h3, h4, fun j hj => h5 j (Nat.zero_le _) hj⟩

/-- SameFinding, of one finding twice. -/
theorem sameL {n : Nat} {Y : Nat → Int} : same n n Y Y = true := same_yes rfl (fun _ _ => rfl)

set_option maxHeartbeats 2000000 in
theorem sameFinding_any {a0 a3 a4 b0 b3 b4 : Option Addr} {c0 c3 c4 e0 e3 e4 n0 n3 n4 : Nat} {Y0 Y3 Y4 : Nat → Int} {r1 r2 : Int} {w : World} (h0 : n0 ≤ 1000) (h3 : n3 ≤ 1000) (h4 : n4 ≤ 1000) (ha0 : Row w a0 n0 Y0) (hb0 : Row w b0 n0 Y0) (ha3 : Row w a3 n3 Y3) (hb3 : Row w b3 n3 Y3) (ha4 : Row w a4 n4 Y4) (hb4 : Row w b4 n4 Y4) :
    Calls Try.prog 8 #[.agg #[.slice a0 n0 c0, .int .i64 r1, .int .i64 r2, .slice a3 n3 c3, .slice a4 n4 c4], .agg #[.slice b0 n0 e0, .int .i64 r1, .int .i64 r2, .slice b3 n3 e3, .slice b4 n4 e4]] w fun e w' => e = .returned (.bool true) ∧ Below w.heap.size w w' := by
  obtain ⟨W, eW⟩ : ∃ x, x = (w.alloc (.cells #[.slice a0 n0 c0, .int .i64 r1, .int .i64 r2, .slice a3 n3 c3, .slice a4 n4 c4] 28)).alloc (.cells #[.slice b0 n0 e0, .int .i64 r1, .int .i64 r2, .slice b3 n3 e3, .slice b4 n4 e4] 28) := ⟨_, rfl⟩
  have HW : Hid (Below w.heap.size w W) := by subst eW; exact (box_below _ _).trans ((box_below _ _).mono (by simp))
  have HEW : Hid ((w.alloc (.cells #[.slice a0 n0 c0, .int .i64 r1, .int .i64 r2, .slice a3 n3 c3, .slice a4 n4 c4] 28)).alloc (.cells #[.slice b0 n0 e0, .int .i64 r1, .int .i64 r2, .slice b3 n3 e3, .slice b4 n4 e4] 28) = W) := eW.symm
  have e1 : (w.alloc (.cells #[.slice a0 n0 c0, .int .i64 r1, .int .i64 r2, .slice a3 n3 c3, .slice a4 n4 c4] 28)).heap.size = w.heap.size + 1 := by simp
  have HA : Hid (∀ u, Below W.heap.size W u → u.cell? ⟨w.heap.size, 1, none⟩ = some (.int .i64 r1) ∧ u.cell? ⟨w.heap.size, 2, none⟩ = some (.int .i64 r2) ∧ u.cell? ⟨w.heap.size, 3, none⟩ = some (.slice a3 n3 c3) ∧ u.cell? ⟨w.heap.size, 4, none⟩ = some (.slice a4 n4 c4)) := fun u hu => by
    subst eW
    exact ⟨keep_alloc hu (cell_of_alloc rfl), keep_alloc hu (cell_of_alloc rfl), keep_alloc hu (cell_of_alloc rfl), keep_alloc hu (cell_of_alloc rfl)⟩
  have HB : Hid (∀ u, Below W.heap.size W u → u.cell? ⟨w.heap.size + 1, 1, none⟩ = some (.int .i64 r1) ∧ u.cell? ⟨w.heap.size + 1, 2, none⟩ = some (.int .i64 r2) ∧ u.cell? ⟨w.heap.size + 1, 3, none⟩ = some (.slice b3 n3 e3) ∧ u.cell? ⟨w.heap.size + 1, 4, none⟩ = some (.slice b4 n4 e4)) := fun u hu => by
    subst eW
    rw [← e1]
    exact ⟨new_alloc hu rfl, new_alloc hu rfl, new_alloc hu rfl, new_alloc hu rfl⟩
  have C0 : Hid (∀ u, Below W.heap.size W u → Calls Try.prog 13 #[.slice a0 n0 c0, .slice b0 n0 e0] u fun e w' => e = .returned (.bool true) ∧ Below u.heap.size u w') := fun u hu => by
    have hb : Below w.heap.size w u := HW.out.trans (hu.mono HW.out.size)
    have := equal_any a0 b0 n0 c0 n0 e0 Y0 Y0 u (by omega) (ha0.below hb) (hb0.below hb)
    rw [sameL] at this
    refine this.mono ?_
    rintro e w' ⟨rfl, q, rfl⟩
    exact ⟨rfl, below_drewN (Below.refl _ _) q⟩
  have C3 : Hid (∀ u, Below W.heap.size W u → Calls Try.prog 13 #[.slice a3 n3 c3, .slice b3 n3 e3] u fun e w' => e = .returned (.bool true) ∧ Below u.heap.size u w') := fun u hu => by
    have hb : Below w.heap.size w u := HW.out.trans (hu.mono HW.out.size)
    have := equal_any a3 b3 n3 c3 n3 e3 Y3 Y3 u (by omega) (ha3.below hb) (hb3.below hb)
    rw [sameL] at this
    refine this.mono ?_
    rintro e w' ⟨rfl, q, rfl⟩
    exact ⟨rfl, below_drewN (Below.refl _ _) q⟩
  have C4 : Hid (∀ u, Below W.heap.size W u → Calls Try.prog 13 #[.slice a4 n4 c4, .slice b4 n4 e4] u fun e w' => e = .returned (.bool true) ∧ Below u.heap.size u w') := fun u hu => by
    have hb : Below w.heap.size w u := HW.out.trans (hu.mono HW.out.size)
    have := equal_any a4 b4 n4 c4 n4 e4 Y4 Y4 u (by omega) (ha4.below hb) (hb4.below hb)
    rw [sameL] at this
    refine this.mono ?_
    rintro e w' ⟨rfl, q, rfl⟩
    exact ⟨rfl, below_drewN (Below.refl _ _) q⟩
  have hr1 : (r1 == r1) = true := by simp
  have hr2 : (r2 == r2) = true := by simp
  clear eW e1 ha0 hb0 ha3 hb3 ha4 hb4
  go_enter Try.func8, Try.ntmps8
  go_wp2_with fail
  rw [HEW.out]
  refine (C0.out W (Below.refl _ _)).mono ?_
  rintro e w1 ⟨rfl, hb1⟩
  have HB1 : Hid (Below W.heap.size W w1) := hb1
  obtain ⟨x1, x2, x3, x4⟩ := HA.out w1 hb1
  obtain ⟨y1, y2, y3, y4⟩ := HB.out w1 hb1
  clear hb1
  go_wp2_with fail
  refine (C3.out w1 HB1.out).mono ?_
  rintro e w2 ⟨rfl, hb2⟩
  have HB2 : Hid (Below W.heap.size W w2) := HB1.out.trans (hb2.mono HB1.out.size)
  clear x1 x2 x3 x4 y1 y2 y3 y4 hb2
  obtain ⟨x1, x2, x3, x4⟩ := HA.out w2 HB2.out
  obtain ⟨y1, y2, y3, y4⟩ := HB.out w2 HB2.out
  go_wp2_with fail
  refine (C4.out w2 HB2.out).mono ?_
  rintro e w3 ⟨rfl, hb3⟩
  have HB3 : Hid (Below w.heap.size w w3) := HW.out.trans ((HB2.out.trans (hb3.mono HB2.out.size)).mono HW.out.size)
  clear hb3
  go_wp2
  go_ret
  exact ⟨rfl, HB3.out⟩

end Go.Proofs.Ytjenkhphngiphaa
