/- lay. -/
import Derived.Deep.RegionHeld3
import Derived.Deep.Cut
import Derived.Test.YthpbgfodejoecaaGameFire
import Derived.Test.YthpbgfodejoecaaHeldJ
namespace Go.Proofs.Ythpbgfodejoecaa
open Go.RowKit

theorem results_cell_tmp1 {P : Program} {fn : Func} {p u : Tmp} {ty : TypeId} (h : fn.results = #[.cell p ty, .tmp u]) (tmps : Array Value) (w : World) (g : Nat) (t : TypeId) (cs : Array Value) (fr : Nat × Nat) (d : TypeDesc)
    (hp : tmps.getD p undef = .pointer (some ⟨g, 0, none⟩)) (hg : w.heap[g]? = some (.cells cs t fr))
    (hu : P.underlying ty = some d) (hd : (match d with | .struct _ | .array _ _ => true | _ => false) = true) (hi : (P.info? ty).map (·.size) = some cs.size) :
    (results fn tmps).run P w = .ok (.tuple #[.agg cs, tmps.getD u undef]) w := by
  have hp' : tmps[p]?.getD undef = .pointer (some ⟨g, 0, none⟩) := by simpa using hp
  simp [results, h, hp', asAddr, run_loadVar_row w g t ty cs fr d hg hu hd hi]

/-- The error of steps.Of. -/
def spE (e0 : Int) (n : Nat) : Int := if e0 = 0 then (if n ≤ 60 then 0 else 2) else e0

theorem spE_bad {e0 : Int} {n : Nat} (h : e0 ≠ 0) : spE e0 n = e0 := by unfold spE; rw [if_neg h]
theorem spE_many {n : Nat} (h : 60 < n) : spE 0 n = 2 := by unfold spE; rw [if_pos rfl, if_neg (by omega)]
theorem spE_ok {n : Nat} (h : n ≤ 60) : spE 0 n = 0 := by unfold spE; rw [if_pos rfl, if_pos h]

/-- What lay answers: the error, or a board, all of it new. -/
def LyIs (b0 : Nat) (E : Int) (N F : Nat) (M : Nat → ByteArray) (K A B : Nat → Int) (e : Ending) (w : World) : Prop :=
  (E ≠ 0 ∧ e = .returned (.tuple #[.agg #[.slice none 0 0, .slice none 0 0, .slice none 0 0, .slice none 0 0, .slice none 0 0], .int .i64 E])) ∨
    (E = 0 ∧ ∃ na nc fa fc sa sc ib ob, b0 ≤ ib ∧ b0 ≤ ob ∧ e = .returned (.tuple #[.agg #[.slice na N nc, .slice fa F fc, .slice sa (stAll K A B F N).length sc, .slice (some ⟨ib, 0, none⟩) N N, .slice (some ⟨ob, 0, none⟩) N N], .int .i64 0]) ∧ Brd w na N nc fa F sa (some ⟨ib, 0, none⟩) (some ⟨ob, 0, none⟩) M K A B (stAll K A B F N))

/-- Five cells lie in block r, and may be written. -/
def Five (w : World) (r : Nat) (a b c d e : Value) : Prop := w.heap[r]? = some (.cells #[a, b, c, d, e] 94 (0, 0))

theorem five_cells {w : World} {r : Nat} {a b c d e : Value} (h : Five w r a b c d e) :
    (w.cell? ⟨r, 0, none⟩ = some a ∧ w.cell? ⟨r, 1, none⟩ = some b ∧ w.cell? ⟨r, 2, none⟩ = some c ∧ w.cell? ⟨r, 3, none⟩ = some d ∧ w.cell? ⟨r, 4, none⟩ = some e) ∧
      (w.frozen? ⟨r, 0, none⟩ = false ∧ w.frozen? ⟨r, 1, none⟩ = false ∧ w.frozen? ⟨r, 2, none⟩ = false ∧ w.frozen? ⟨r, 3, none⟩ = false ∧ w.frozen? ⟨r, 4, none⟩ = false) := by
  refine ⟨⟨cell_of_cells h rfl, cell_of_cells h rfl, cell_of_cells h rfl, cell_of_cells h rfl, cell_of_cells h rfl⟩, ?_⟩
  unfold Five at h
  simp [World.frozen?, h]

theorem five_set {w : World} {r : Nat} {a b c d e a' b' c' d' e' : Value} (h : Five w r a b c d e) :
    Five (((((w.setCell ⟨r, 0, none⟩ a').setCell ⟨r, 1, none⟩ b').setCell ⟨r, 2, none⟩ c').setCell ⟨r, 3, none⟩ d').setCell ⟨r, 4, none⟩ e') r a' b' c' d' e' := by
  unfold Five at *
  simp [World.setCell, Array.getElem?_modify, h]

theorem Five.below {w w' : World} {r : Nat} {a b c d e : Value} (h : Five w r a b c d e) (hb : Below w.heap.size w w') : Five w' r a b c d e := by
  unfold Five at *
  rw [hb.block r (Array.getElem?_eq_some_iff.1 h).1]
  exact h

/-- Rows of numbers, each with memory of its own. -/
structure Ows (wr : World) (base n : Nat) (T : Nat → List Int) (V : Nat → Value) : Prop where
  own : ∀ j, j < n → wr.ownsRow base 3 1 (V j) (T j).length (vals (T j))
  apart : ∀ i j, i < n → j < n → i ≠ j → ∀ b, (V i).ownBlock = some b → (V j).ownBlock ≠ some b

theorem Ows.app {wr w1 : World} {base n : Nat} {T : Nat → List Int} {V : Nat → Value} {j : Nat} {x : Int} {v' : Value} {o : Obj} (h : Ows wr base n T V) (hj : j < n)
    (hown : w1.ownsRow base 3 1 v' ((T j).length + 1) (vals (T j) ++ [.int .i64 x])) (hgrow : (wr.alloc o).grownBy w1 (V j).ownBlock) (hloc : v'.ownBlock = (V j).ownBlock ∨ v'.ownBlock = some (wr.alloc o).heap.size) :
    Ows w1 base n (fun i => if i = j then T j ++ [x] else T i) (fun i => if i = j then v' else V i) := by
  have hg : wr.grownBy w1 (V j).ownBlock := (World.grownBy_alloc _ _ _).trans hgrow
  have hnew : (wr.alloc o).heap.size = wr.heap.size + 1 := by simp
  have old : ∀ i, i < n → ∀ b, (V i).ownBlock = some b → b < wr.heap.size := fun i hi b hb => ((h.own i hi).lt b hb).2
  refine ⟨fun i hi => ?_, fun i k hi hk hne b hb => ?_⟩
  · by_cases e : i = j
    · subst e
      simp only [if_true]
      have : (T i ++ [x]).length = (T i).length + 1 := by simp
      rw [this, ← vals_snoc]
      exact hown
    · simp only [if_neg e]
      refine (h.own i hi).kept hg ?_
      cases hv : (V i).ownBlock with
      | none => exact Or.inl rfl
      | some b => exact Or.inr (fun ee => h.apart i j hi hj e b hv ee.symm)
  · by_cases ei : i = j
    · have ek : k ≠ j := fun e => hne (ei.trans e.symm)
      simp only [if_pos ei, if_neg ek] at hb ⊢
      intro hb2
      rcases hloc with hl | hl
      · exact h.apart k j hk hj ek b hb2 (by rw [← hl]; exact hb)
      · rw [hl] at hb
        have := old k hk b hb2
        simp only [Option.some.injEq] at hb
        omega
    · simp only [if_neg ei] at hb ⊢
      by_cases ek : k = j
      · simp only [if_pos ek]
        intro hb2
        rcases hloc with hl | hl
        · exact h.apart i j hi hj ei b hb (by rw [← hl]; exact hb2)
        · rw [hl] at hb2
          have := old i hi b hb
          simp only [Option.some.injEq] at hb2
          omega
      · simp only [if_neg ek]
        exact h.apart i k hi hk hne b hb

theorem Ows.set {wr : World} {base n : Nat} {T : Nat → List Int} {V : Nat → Value} (h : Ows wr base n T V) {a : Addr} (ha : a.block < base) (u : Value) : Ows (wr.setCell a u) base n T V :=
  ⟨fun j hj => ownsRow_setCell_below (h.own j hj) ha u, h.apart⟩

/-- The two lists of lists that lay makes: those of flows in are the first N rows, those of flows out the others. -/
structure Ly (W wr : World) (N : Nat) (T : Nat → List Int) (V : Nat → Value) : Prop where
  below : Below W.heap.size W wr
  ins : wr.rowIs W.heap.size 26 N V
  outs : wr.rowIs (W.heap.size + 1) 26 N (fun j => V (N + j))
  ows : Ows wr (W.heap.size + 1 + 1) (N + N) T V

theorem Ly.alloc {W wr : World} {N : Nat} {T : Nat → List Int} {V : Nat → Value} (h : Ly W wr N T V) (o : Obj) : Ly W (wr.alloc o) N T V :=
  ⟨h.below.alloc h.below.size o, h.ins.alloc o, h.outs.alloc o, ⟨fun j hj => (h.ows.own j hj).alloc o, h.ows.apart⟩⟩

theorem Ly.congr {W wr : World} {N : Nat} {T U : Nat → List Int} {V : Nat → Value} (h : Ly W wr N T V) (e : ∀ j, j < N + N → T j = U j) : Ly W wr N U V :=
  ⟨h.below, h.ins, h.outs, ⟨fun j hj => by rw [← e j hj]; exact h.ows.own j hj, h.ows.apart⟩⟩

theorem ly_start (W : World) (N : Nat) (T : Nat → List Int) (hT : ∀ j, j < N + N → T j = []) : Ly W ((W.alloc (.cells (madeCells #[.slice none 0 0] N) 26)).alloc (.cells (madeCells #[.slice none 0 0] N) 26)) N T (fun _ => .slice none 0 0) := by
  have e : (W.alloc (.cells (madeCells #[.slice none 0 0] N) 26)).heap.size = W.heap.size + 1 := by simp
  refine ⟨(box_below _ _).trans ((box_below _ _).mono (by simp)), (World.rowIs_made W (.slice none 0 0) N 26).alloc _, ?_, ⟨fun j hj => by rw [hT j hj]; exact World.ownsRow_nil _ _ _ _, fun i j _ _ _ b hb => by simp [Value.ownBlock] at hb⟩⟩
  rw [← e]
  exact World.rowIs_made _ (.slice none 0 0) N 26

theorem undrew {U w1 : World} {o : Obj} {row : Option Nat} (hgrow : (U.alloc o).drew.grownBy w1 row) : (U.alloc o).grownBy w1 row := ⟨hgrow.os, hgrow.tape, hgrow.output, hgrow.size, hgrow.block⟩

theorem ly_loc {U : World} {o : Obj} {v : Value} {gg n cap : Nat} (hat : v.ownBlock = some gg ∨ gg = U.heap.size + 1) : (Value.slice (some ⟨gg, 0, none⟩) n cap).ownBlock = v.ownBlock ∨ (Value.slice (some ⟨gg, 0, none⟩) n cap).ownBlock = some (U.alloc o).heap.size := by
  rcases hat with h1 | h1
  · left
    rw [h1]
    rfl
  · right
    rw [h1]
    simp [Value.ownBlock]

theorem lyApp1 {W U w1 : World} {N b : Nat} {T : Nat → List Int} {V : Nat → Value} {j n gg cap : Nat} {x : Int} {v : Value} {o : Obj} (h : Ly W U N T V) (hj : j < N) (hn : (T j).length = n) (hv : V j = v) (hb : W.heap.size = b)
    (hown : w1.ownsRow (W.heap.size + 1 + 1) 3 1 (.slice (some ⟨gg, 0, none⟩) (n + 1) cap) (n + 1) (vals (T j) ++ [.int .i64 x])) (hgrow : (U.alloc o).drew.grownBy w1 v.ownBlock) (hat : v.ownBlock = some gg ∨ gg = U.heap.size + 1) :
    w1.cell? ⟨b, j, none⟩ = some v ∧ w1.frozen? ⟨b, j, none⟩ = false ∧
    Hid (Ly W (w1.setCell ⟨b, j, none⟩ (.slice (some ⟨gg, 0, none⟩) (n + 1) cap)) N (fun i => if i = j then T j ++ [x] else T i) (fun i => if i = j then .slice (some ⟨gg, 0, none⟩) (n + 1) cap else V i)) := by
  subst hb
  subst hn
  subst hv
  have hg2 := undrew hgrow
  have hg : U.grownBy w1 (V j).ownBlock := (World.grownBy_alloc _ _ _).trans hg2
  have hrow : ∀ b, (V j).ownBlock = some b → W.heap.size + 1 + 1 ≤ b ∧ b < U.heap.size := (h.ows.own j (by omega)).lt
  have h1 : w1.rowIs W.heap.size 26 N V := h.ins.of_block (hg.block _ h.ins.lt (fun e => by have := (hrow _ e.symm).1; omega))
  have h2 : w1.rowIs (W.heap.size + 1) 26 N (fun i => V (N + i)) := h.outs.of_block (hg.block _ h.outs.lt (fun e => by have := (hrow _ e.symm).1; omega))
  refine ⟨h1.cell hj, h1.frozen j, ?_⟩
  refine ⟨(h.below.grown hg h.below.size (fun b hb => by have := (hrow b hb).1; omega)).setCell (Nat.le_refl _) _, h1.set j _, (h2.setOther (by show W.heap.size + 1 ≠ W.heap.size; omega) _).congr (fun i hi => ?_), (h.ows.app (by omega) hown hg2 (ly_loc hat)).set (by show W.heap.size < _; omega) _⟩
  show V (N + i) = if N + i = j then _ else V (N + i)
  rw [if_neg (by omega)]

theorem lyApp2 {W U w1 : World} {N b : Nat} {T : Nat → List Int} {V : Nat → Value} {j n gg cap : Nat} {x : Int} {v : Value} {o : Obj} (h : Ly W U N T V) (hj : j < N) (hn : (T (N + j)).length = n) (hv : V (N + j) = v) (hb : W.heap.size = b)
    (hown : w1.ownsRow (W.heap.size + 1 + 1) 3 1 (.slice (some ⟨gg, 0, none⟩) (n + 1) cap) (n + 1) (vals (T (N + j)) ++ [.int .i64 x])) (hgrow : (U.alloc o).drew.grownBy w1 v.ownBlock) (hat : v.ownBlock = some gg ∨ gg = U.heap.size + 1) :
    w1.cell? ⟨b + 1, j, none⟩ = some v ∧ w1.frozen? ⟨b + 1, j, none⟩ = false ∧
    Hid (Ly W (w1.setCell ⟨b + 1, j, none⟩ (.slice (some ⟨gg, 0, none⟩) (n + 1) cap)) N (fun i => if i = N + j then T (N + j) ++ [x] else T i) (fun i => if i = N + j then .slice (some ⟨gg, 0, none⟩) (n + 1) cap else V i)) := by
  subst hb
  subst hn
  subst hv
  have hg2 := undrew hgrow
  have hg : U.grownBy w1 (V (N + j)).ownBlock := (World.grownBy_alloc _ _ _).trans hg2
  have hrow : ∀ b, (V (N + j)).ownBlock = some b → W.heap.size + 1 + 1 ≤ b ∧ b < U.heap.size := (h.ows.own (N + j) (by omega)).lt
  have h1 : w1.rowIs W.heap.size 26 N V := h.ins.of_block (hg.block _ h.ins.lt (fun e => by have := (hrow _ e.symm).1; omega))
  have h2 : w1.rowIs (W.heap.size + 1) 26 N (fun i => V (N + i)) := h.outs.of_block (hg.block _ h.outs.lt (fun e => by have := (hrow _ e.symm).1; omega))
  refine ⟨h2.cell hj, h2.frozen j, ?_⟩
  refine ⟨(h.below.grown hg h.below.size (fun b hb => by have := (hrow b hb).1; omega)).setCell (by show W.heap.size ≤ W.heap.size + 1; omega) _, (h1.setOther (by show W.heap.size ≠ W.heap.size + 1; omega) _).congr (fun i hi => ?_), (h2.set j _).congr (fun i hi => ?_), (h.ows.app (by omega) hown hg2 (ly_loc hat)).set (by show W.heap.size + 1 < _; omega) _⟩
  · show V i = if i = N + j then _ else V i
    rw [if_neg (by omega)]
  · show (if i = j then _ else V (N + i)) = if N + i = N + j then _ else V (N + i)
    by_cases e : i = j
    · rw [if_pos e, if_pos (by omega)]
    · rw [if_neg e, if_neg (by omega)]

/-- The rows till flow k (in) and q (out). -/
def lyT (A B : Nat → Int) (N k q j : Nat) : List Int := if j < N then fl B j k else fl A ((j - N : Nat) : Int) q

theorem lyT_in {A B : Nat → Int} {N k q x j : Nat} (hx : x < N) (hB : B k = x) : (if j = x then lyT A B N k q x ++ [(k : Int)] else lyT A B N k q j) = lyT A B N (k + 1) q j := by
  unfold lyT
  by_cases e : j = x
  · subst e
    rw [if_pos rfl, if_pos hx, if_pos hx, fl_hit hB]
  · rw [if_neg e]
    by_cases hj : j < N
    · rw [if_pos hj, if_pos hj, fl_miss (by omega)]
    · rw [if_neg hj, if_neg hj]

theorem lyT_out {A B : Nat → Int} {N k q y j : Nat} (hA : A q = y) : (if j = N + y then lyT A B N k q (N + y) ++ [(q : Int)] else lyT A B N k q j) = lyT A B N k (q + 1) j := by
  unfold lyT
  by_cases e : j = N + y
  · subst e
    have e2 : N + y - N = y := by omega
    rw [if_pos rfl, if_neg (by omega), if_neg (by omega), e2, fl_hit hA]
  · rw [if_neg e]
    by_cases hj : j < N
    · rw [if_pos hj, if_pos hj]
    · rw [if_neg hj, if_neg hj, fl_miss (by omega)]

theorem Ly.grIn {W wr : World} {N F : Nat} {A B : Nat → Int} {V : Nat → Value} (h : Ly W wr N (lyT A B N F F) V) : Gr wr (some ⟨W.heap.size, 0, none⟩) N (fun j => tally B j F) (fun j i => (fl B j F).getD i 0) := by
  refine ⟨W.heap.size, 0, fun _ => rfl, fun r hr => ?_⟩
  have ho := h.ows.own r (by omega)
  have e : lyT A B N F F r = fl B r F := by unfold lyT; rw [if_pos hr]
  rw [e] at ho
  obtain ⟨a, c, hv, hrow⟩ := owns_row ho
  rw [fl_len] at hv hrow
  exact ⟨a, c, by rw [Nat.zero_add, h.ins.cell hr, hv], hrow⟩

theorem Ly.grOut {W wr : World} {N F : Nat} {A B : Nat → Int} {V : Nat → Value} (h : Ly W wr N (lyT A B N F F) V) : Gr wr (some ⟨W.heap.size + 1, 0, none⟩) N (fun j => tally A j F) (fun j i => (fl A j F).getD i 0) := by
  refine ⟨W.heap.size + 1, 0, fun _ => rfl, fun r hr => ?_⟩
  have ho := h.ows.own (N + r) (by omega)
  have e2 : N + r - N = r := by omega
  have e : lyT A B N F F (N + r) = fl A r F := by unfold lyT; rw [if_neg (by omega), e2]
  rw [e] at ho
  obtain ⟨a, c, hv, hrow⟩ := owns_row ho
  rw [fl_len] at hv hrow
  exact ⟨a, c, by rw [Nat.zero_add, h.outs.cell hr, hv], hrow⟩

theorem lyT_len {A B : Nat → Int} {N k q j : Nat} : (lyT A B N k q j).length ≤ k + q := by
  unfold lyT
  split
  · rw [fl_len]; have := tally_le B j k; omega
  · rw [fl_len]; have := tally_le A ((j - N : Nat) : Int) q; omega

theorem cell_set_other {w : World} {r i : Nat} {u : Value} {p : Addr} (h : p.block ≠ r) : (w.setCell ⟨r, i, none⟩ u).cell? p = w.cell? p :=
  World.cell?_of_block (Go.Deep.blk_setCell_other _ _ _ _ h)

theorem not_five {w : World} {r b o : Nat} {v : Int} (h : Five w r (.slice none 0 0) (.slice none 0 0) (.slice none 0 0) (.slice none 0 0) (.slice none 0 0)) (hc : w.cell? ⟨b, o, none⟩ = some (.int .i64 v)) : b ≠ r := by
  intro e
  subst e
  unfold Five at h
  simp only [World.cell?, h] at hc
  match o with
  | 0 | 1 | 2 | 3 | 4 => simp at hc
  | n + 5 => simp at hc

theorem five_row {w w' : World} {r : Nat} (h : Five w r (.slice none 0 0) (.slice none 0 0) (.slice none 0 0) (.slice none 0 0) (.slice none 0 0)) {a : Option Addr} {n : Nat} {Z : Nat → Int} (hr : Row w a n Z) (hk : ∀ p : Addr, p.block ≠ r → w'.cell? p = w.cell? p) : Row w' a n Z := by
  obtain ⟨b, o, ha, hc⟩ := hr
  exact ⟨b, o, ha, fun i hi => (hk ⟨b, o + i, none⟩ (not_five h (hc i hi))).trans (hc i hi)⟩

theorem five_gr {w w' : World} {r : Nat} (h : Five w r (.slice none 0 0) (.slice none 0 0) (.slice none 0 0) (.slice none 0 0) (.slice none 0 0)) {tb G : Nat} {L : Nat → Nat} {Z : Nat → Nat → Int} (hg : Gr w (some ⟨tb, 0, none⟩) G L Z) (hk : ∀ p : Addr, p.block ≠ r → w'.cell? p = w.cell? p) (hne : tb ≠ r) : Gr w' (some ⟨tb, 0, none⟩) G L Z := by
  obtain ⟨gb, go, h1, h2⟩ := hg
  refine ⟨gb, go, h1, fun i hi => ?_⟩
  obtain ⟨a, c, h3, h4⟩ := h2 i hi
  have e := h1 (by omega)
  simp only [Option.some.injEq, Addr.mk.injEq] at e
  exact ⟨a, c, (hk ⟨gb, go + i, none⟩ (by show gb ≠ r; omega)).trans h3, five_row h h4 hk⟩

theorem five_sts {w w' : World} {r : Nat} (h : Five w r (.slice none 0 0) (.slice none 0 0) (.slice none 0 0) (.slice none 0 0) (.slice none 0 0)) {a : Option Addr} {n : Nat} {T : Nat → St3} (hr : Sts w a n T) (hk : ∀ p : Addr, p.block ≠ r → w'.cell? p = w.cell? p) : Sts w' a n T := by
  obtain ⟨b, o, ha, hc⟩ := hr
  refine ⟨b, o, ha, fun i hi => ?_⟩
  obtain ⟨h1, h2, h3⟩ := hc i hi
  have hb := not_five h h1
  exact ⟨(hk ⟨b, o + i * 3, none⟩ hb).trans h1, (hk ⟨b, o + i * 3 + 1, none⟩ hb).trans h2, (hk ⟨b, o + i * 3 + 2, none⟩ hb).trans h3⟩

theorem five_ne {w : World} {r b o : Nat} {v : Value} {a0 a1 a2 a3 a4 : Option Addr} {n0 n1 n2 n3 n4 c0 c1 c2 c3 c4 : Nat} (h : Five w r (.slice a0 n0 c0) (.slice a1 n1 c1) (.slice a2 n2 c2) (.slice a3 n3 c3) (.slice a4 n4 c4)) (hc : w.cell? ⟨b, o, none⟩ = some v) (hv : ∀ a n c, v ≠ .slice a n c) : b ≠ r := by
  intro e
  subst e
  unfold Five at h
  simp only [World.cell?, h] at hc
  match o with
  | 0 | 1 | 2 | 3 | 4 => simp at hc; exact hv _ _ _ hc.symm
  | n + 5 => simp at hc

theorem five_prc {w w' : World} {r : Nat} {a0 a1 a2 a3 a4 : Option Addr} {n0 n1 n2 n3 n4 c0 c1 c2 c3 c4 : Nat} (h : Five w r (.slice a0 n0 c0) (.slice a1 n1 c1) (.slice a2 n2 c2) (.slice a3 n3 c3) (.slice a4 n4 c4)) {na fa : Option Addr} {N nc F : Nat} {M : Nat → ByteArray} {K A B : Nat → Int} (hp : Prc w na N nc fa F M K A B) (hk : ∀ p : Addr, p.block ≠ r → w'.cell? p = w.cell? p) : Prc w' na N nc fa F M K A B := by
  obtain ⟨⟨b, o, ha, hc⟩, ⟨b2, o2, ha2, hc2⟩, h1, h2, h3⟩ := hp
  refine ⟨⟨b, o, ha, fun i hi => ?_⟩, ⟨b2, o2, ha2, fun i hi => ?_⟩, h1, h2, h3⟩
  · obtain ⟨g1, g2⟩ := hc i hi
    have hb := five_ne h g1 (fun _ _ _ e => by cases e)
    exact ⟨(hk ⟨b, o + i * 2, none⟩ hb).trans g1, (hk ⟨b, o + i * 2 + 1, none⟩ hb).trans g2⟩
  · obtain ⟨g1, g2⟩ := hc2 i hi
    have hb := five_ne h g1 (fun _ _ _ e => by cases e)
    exact ⟨(hk ⟨b2, o2 + i * 2, none⟩ hb).trans g1, (hk ⟨b2, o2 + i * 2 + 1, none⟩ hb).trans g2⟩

theorem five_new (w : World) (a b c d e : Value) : Five (w.alloc (.cells #[a, b, c, d, e] 94)) w.heap.size a b c d e := Go.Deep.blk_alloc_new _ _

theorem five_new_drew (w : World) (a b c d e : Value) : Five (w.alloc (.cells #[a, b, c, d, e] 94)).drew w.heap.size a b c d e := Go.Deep.blk_alloc_new _ _

theorem five_drew_new (w : World) (a b c d e : Value) : Five (w.drew.alloc (.cells #[a, b, c, d, e] 94)) w.heap.size a b c d e := Go.Deep.blk_alloc_new _ _

/-- Behind the copies: the board's block r, and what it holds. -/
structure LyC (w1 wc : World) (r nb nn fb fn N F : Nat) (M : Nat → ByteArray) (K A B : Nat → Int) (sv : Value) : Prop where
  below : Below w1.heap.size w1 wc
  ge : w1.heap.size ≤ r
  five : Five wc r (.slice (some ⟨nb, 0, none⟩) N nn) (.slice (some ⟨fb, 0, none⟩) F fn) sv (.slice none 0 0) (.slice none 0 0)
  prc : Prc wc (some ⟨nb, 0, none⟩) N nn (some ⟨fb, 0, none⟩) F M K A B

theorem LyC.lt {w1 wc : World} {r nb nn fb fn N F : Nat} {M : Nat → ByteArray} {K A B : Nat → Int} {sv : Value} (h : LyC w1 wc r nb nn fb fn N F M K A B sv) : r < wc.heap.size := (Array.getElem?_eq_some_iff.1 h.five).1

theorem lyc_new {w1 w6 : World} {nb nn fb fn N F : Nat} {M : Nat → ByteArray} {K A B : Nat → Int} {sv : Value} (hb : Below w1.heap.size w1 w6) (hp : Prc w6 (some ⟨nb, 0, none⟩) N nn (some ⟨fb, 0, none⟩) F M K A B) :
    LyC w1 (w6.alloc (.cells #[.slice (some ⟨nb, 0, none⟩) N nn, .slice (some ⟨fb, 0, none⟩) F fn, sv, .slice none 0 0, .slice none 0 0] 94)) w6.heap.size nb nn fb fn N F M K A B sv :=
  ⟨hb.alloc hb.size _, hb.size, five_new _ _ _ _ _ _, hp.below (box_below _ _)⟩

theorem set_other5 {w : World} {r : Nat} {a b c d e : Value} (p : Addr) (hp : p.block ≠ r) : (((((w.setCell ⟨r, 0, none⟩ a).setCell ⟨r, 1, none⟩ b).setCell ⟨r, 2, none⟩ c).setCell ⟨r, 3, none⟩ d).setCell ⟨r, 4, none⟩ e).cell? p = w.cell? p := by
  rw [cell_set_other hp, cell_set_other hp, cell_set_other hp, cell_set_other hp, cell_set_other hp]

theorem lyc_set {w1 w6 : World} {r nb nn fb fn N F : Nat} {M : Nat → ByteArray} {K A B : Nat → Int} {sv : Value} (hb : Below w1.heap.size w1 w6) (hr : w1.heap.size ≤ r) (h5 : Five w6 r (.slice none 0 0) (.slice none 0 0) (.slice none 0 0) (.slice none 0 0) (.slice none 0 0)) (hp : Prc w6 (some ⟨nb, 0, none⟩) N nn (some ⟨fb, 0, none⟩) F M K A B) :
    LyC w1 (((((w6.setCell ⟨r, 0, none⟩ (.slice (some ⟨nb, 0, none⟩) N nn)).setCell ⟨r, 1, none⟩ (.slice (some ⟨fb, 0, none⟩) F fn)).setCell ⟨r, 2, none⟩ sv).setCell ⟨r, 3, none⟩ (.slice none 0 0)).setCell ⟨r, 4, none⟩ (.slice none 0 0)) r nb nn fb fn N F M K A B sv :=
  ⟨((((hb.setCell hr _).setCell hr _).setCell hr _).setCell hr _).setCell hr _, hr, five_set h5, five_prc h5 hp set_other5⟩

theorem five_two {w : World} {r : Nat} {a b c d e d' e' : Value} (h : Five w r a b c d e) : Five ((w.setCell ⟨r, 3, none⟩ d').setCell ⟨r, 4, none⟩ e') r a b c d' e' := by
  unfold Five at *
  simp [World.setCell, Array.getElem?_modify, h]

theorem two_other {w : World} {r : Nat} {d e : Value} (p : Addr) (hp : p.block ≠ r) : ((w.setCell ⟨r, 3, none⟩ d).setCell ⟨r, 4, none⟩ e).cell? p = w.cell? p := by
  rw [cell_set_other hp, cell_set_other hp]

set_option maxHeartbeats 4000000 in
theorem lay_any {na fa : Option Addr} {N nc F fc : Nat} {M : Nat → ByteArray} {K A B : Nat → Int} {e0 : Int} {w : World} (hp : Prc w na N nc fa F M K A B) (he : ChkIs N F M K A B e0) :
    Calls Try.prog 43 #[.agg #[.slice na N nc, .slice fa F fc]] w fun e w' => Below w.heap.size w w' ∧ LyIs w.heap.size (spE e0 (stAll K A B F N).length) N F M K A B e w' := by
  have HE : Hid (ChkIs N F M K A B e0) := he
  have HP : Hid (Prc w na N nc fa F M K A B) := hp
  have hNN := hp.nN
  obtain ⟨i0, hi, hz0, hz1, hz2⟩ := info_parts Try.info3
  have HI : Hid (Try.prog.info? 3 = some i0 ∧ i0.zero = some (.int .i64 0) ∧ i0.size = 1 ∧ i0.bytes = 8) := ⟨hi, hz0, hz1, hz2⟩
  clear hi hz0 hz1 hz2 he hp
  obtain ⟨W, eW⟩ : ∃ x, x = (w.alloc (.cells #[.slice na N nc, .slice fa F fc] 25)).alloc (.cells #[.slice none 0 0, .slice none 0 0, .slice none 0 0, .slice none 0 0, .slice none 0 0] 94) := ⟨_, rfl⟩
  have HW : Hid (Below w.heap.size w W ∧ W.heap.size = w.heap.size + 1 + 1 ∧ Five W (w.heap.size + 1) (.slice none 0 0) (.slice none 0 0) (.slice none 0 0) (.slice none 0 0) (.slice none 0 0)) := by
    subst eW
    have e1 : (w.alloc (.cells #[.slice na N nc, .slice fa F fc] 25)).heap.size = w.heap.size + 1 := by simp
    refine ⟨(box_below _ _).trans ((box_below _ _).mono (by simp)), by simp, ?_⟩
    unfold Five
    rw [← e1, Go.Deep.blk_alloc_new]
  have HBx : Hid (∀ u, Below W.heap.size W u → u.cell? ⟨w.heap.size, 0, none⟩ = some (.slice na N nc) ∧ u.cell? ⟨w.heap.size, 1, none⟩ = some (.slice fa F fc)) := fun u hu => by
    subst eW
    exact ⟨keep_alloc hu (cell_of_alloc rfl), keep_alloc hu (cell_of_alloc rfl)⟩
  have HEW : Hid ((w.alloc (.cells #[.slice na N nc, .slice fa F fc] 25)).alloc (.cells #[.slice none 0 0, .slice none 0 0, .slice none 0 0, .slice none 0 0, .slice none 0 0] 94) = W) := eW.symm
  have HPW : Hid (Prc W na N nc fa F M K A B) := HP.out.below HW.out.1
  have C1 : Hid (Calls Try.prog 19 #[.agg #[.slice na N nc, .slice fa F fc]] W fun e w' => Below W.heap.size W w' ∧ SpIs e0 (stAll K A B F N) e w') := of_any na fa N nc F fc M K A B e0 W HPW.out HE.out
  clear eW
  go_enter Try.func43, Try.ntmps43
  go_wp2_with fail
  rw [HEW.out]
  refine C1.out.mono ?_
  rintro e w1 ⟨hb1, hs1⟩
  have HB1 : Hid (Below W.heap.size W w1) := hb1
  have HBw1 : Hid (Below w.heap.size w w1) := HW.out.1.trans (hb1.mono HW.out.1.size)
  have H5 : Hid (Five w1 (w.heap.size + 1) (.slice none 0 0) (.slice none 0 0) (.slice none 0 0) (.slice none 0 0) (.slice none 0 0)) := HW.out.2.2.below hb1
  obtain ⟨hc0, hc1⟩ := HBx.out w1 hb1
  clear hb1 C1
  rcases hs1 with ⟨h1, rfl⟩ | ⟨h1, h2, rfl⟩ | ⟨h1, h2, sa, sc, rfl, h3, h4⟩
  · have hz' : (e0 != 0) = true := by rw [bne_iff_ne]; exact h1
    have HZ : Hid (e0 ≠ 0) := h1
    obtain ⟨⟨q0, q1, q2, q3, q4⟩, ⟨f0, f1, f2, f3, f4⟩⟩ := five_cells H5.out
    clear h1
    go_wp2
    (try simp only [Exit.inBlock, Exit.then])
    refine bodyPost_ret (results_cell_tmp1 rfl _ _ (w.heap.size + 1) 94 #[.slice none 0 0, .slice none 0 0, .slice none 0 0, .slice none 0 0, .slice none 0 0] (0, 0) _ rfl (five_set H5.out) Try.underlying94 rfl (by kernel_rfl)) rfl ?_
    refine ⟨?_, by rw [spE_bad HZ.out]; exact Or.inl ⟨HZ.out, rfl⟩⟩
    exact ((((HBw1.out.setCell (by show w.heap.size ≤ w.heap.size + 1; omega) _).setCell (by show w.heap.size ≤ w.heap.size + 1; omega) _).setCell (by show w.heap.size ≤ w.heap.size + 1; omega) _).setCell (by show w.heap.size ≤ w.heap.size + 1; omega) _).setCell (by show w.heap.size ≤ w.heap.size + 1; omega) _
  · subst h1
    have HZ : Hid (60 < (stAll K A B F N).length) := h2
    obtain ⟨⟨q0, q1, q2, q3, q4⟩, ⟨f0, f1, f2, f3, f4⟩⟩ := five_cells H5.out
    clear h2
    go_wp2
    (try simp only [Exit.inBlock, Exit.then])
    refine bodyPost_ret (results_cell_tmp1 rfl _ _ (w.heap.size + 1) 94 #[.slice none 0 0, .slice none 0 0, .slice none 0 0, .slice none 0 0, .slice none 0 0] (0, 0) _ rfl (five_set H5.out) Try.underlying94 rfl (by kernel_rfl)) rfl ?_
    refine ⟨?_, by rw [spE_many HZ.out]; exact Or.inl ⟨by decide, rfl⟩⟩
    exact ((((HBw1.out.setCell (by show w.heap.size ≤ w.heap.size + 1; omega) _).setCell (by show w.heap.size ≤ w.heap.size + 1; omega) _).setCell (by show w.heap.size ≤ w.heap.size + 1; omega) _).setCell (by show w.heap.size ≤ w.heap.size + 1; omega) _).setCell (by show w.heap.size ≤ w.heap.size + 1; omega) _
  · subst h1
    have hN20 : N ≤ 20 := (chk_zero HE.out).1.1
    have hF30 : F ≤ 30 := (chk_zero HE.out).1.2
    have HSt : Hid (Sts w1 sa (stAll K A B F N).length (fun i => (stAll K A B F N).getD i (0, 0, 0)) ∧ (stAll K A B F N).length ≤ 60) := ⟨h4, h2⟩
    have hsz1 : w.heap.size + 1 < w1.heap.size := by have := HB1.out.size; have := HW.out.2.1; omega
    have hsz0 : w.heap.size < w1.heap.size := by omega
    have HEnds : Hid (∀ i, i < F → (0 ≤ A i ∧ A i < N) ∧ (0 ≤ B i ∧ B i < N)) := endsOk_all (chk_zero HE.out).2.2.1
    have hF0 : 0 < F := chk_some HE.out
    have hN0 : 0 < N := by have := HEnds.out 0 hF0; omega
    generalize hla : stAll K A B F N = la at *
    have HPw1 : Hid (Prc w1 na N nc fa F M K A B) := HP.out.below HBw1.out
    have C2 : Hid (∀ u, Below w1.heap.size w1 u → Calls Try.prog 72 #[.slice na N nc] u fun e w' => Cpy u N (fun i => .string (M i)) (fun i => .int .i64 (K i)) e w' ∧ Below u.heap.size u w') := fun u hu => cloneN_any (by omega) hN0 (HPw1.out.nds.below hu)
    have C3 : Hid (∀ u, Below w1.heap.size w1 u → Calls Try.prog 73 #[.slice fa F fc] u fun e w' => Cpy u F (fun i => .int .i64 (A i)) (fun i => .int .i64 (B i)) e w' ∧ Below u.heap.size u w') := fun u hu => cloneF_any (by omega) hF0 (HPw1.out.fls.below hu)
    have HSt5 : Hid (Sts w1 sa la.length (fun i => la.getD i (0, 0, 0)) ∧ la.length ≤ 60) := HSt.out
    have HBa : Hid (Below w1.heap.size w1 (w1.alloc (.cells #[.slice none 0 0, .slice none 0 0, .slice none 0 0, .slice none 0 0, .slice none 0 0] 94))) := box_below _ _
    have hne1 : w.heap.size ≠ w1.heap.size := by omega
    clear h3 h4 h2
    go_upto_region 4 with fail
    go_cut [6] from 9 (fun p wc => ∃ r nb nn fb fn, p = .pointer (some ⟨r, 0, none⟩) ∧ Hid (LyC w1 wc r nb nn fb fn N F M K A B (.slice sa la.length sc)))
    case first =>
      go_region_held3 (fun z => z.cell? ⟨w.heap.size, 0, none⟩ = some (.slice na N nc) ∧ z.cell? ⟨w.heap.size, 1, none⟩ = some (.slice fa F fc))
        (first | (with_reducible exact ⟨y0, y1⟩) | (with_reducible exact ⟨x0, x1⟩) | (with_reducible exact ⟨(set_other5 ⟨w.heap.size, 0, none⟩ hne5).trans y0, (set_other5 ⟨w.heap.size, 1, none⟩ hne5).trans y1⟩) | (with_reducible exact ⟨(set_other5 ⟨w.heap.size, 0, none⟩ hne1).trans y0, (set_other5 ⟨w.heap.size, 1, none⟩ hne1).trans y1⟩) | (with_reducible exact ⟨keep_alloc (Below.refl _ _) y0, keep_alloc (Below.refl _ _) y1⟩) | (with_reducible exact ⟨keep_alloc (Below.refl _ _) x0, keep_alloc (Below.refl _ _) x1⟩) | (with_reducible exact ⟨(World.cell?_drew _ _).trans hc0, (World.cell?_drew _ _).trans hc1⟩) | (with_reducible exact ⟨keep_alloc (Below.refl _ _).drew hc0, keep_alloc (Below.refl _ _).drew hc1⟩) | go_keep)
        (first
          | (go_at_call 72; refine (C2.out _ (by with_reducible first | exact below_drew_iff.2 (Below.refl _ _) | exact below_drew_iff.2 HBa.out | exact HBa.out)).mono ?_; rintro e w5 ⟨⟨nb, nn, rfl, hnn, _, hcn⟩, hb5⟩; have hw5 : Below w1.heap.size w1 w5 := Below.trans (by with_reducible first | exact below_drew_iff.2 (Below.refl _ _) | exact below_drew_iff.2 HBa.out | exact HBa.out) (hb5.mono (by simp)); have hne5 : w.heap.size ≠ w5.heap.size := (by have := hw5.size; omega); have hN5 : Hid (Nds w5 (some ⟨nb, 0, none⟩) N M K) := ⟨nb, 0, fun _ => rfl, hcn.out⟩; obtain ⟨x0, x1⟩ := HBx.out w5 (HB1.out.trans (hw5.mono HB1.out.size)); (first | (have hf5 : Five w5 w1.heap.size (.slice none 0 0) (.slice none 0 0) (.slice none 0 0) (.slice none 0 0) (.slice none 0 0) := (by with_reducible first | exact (five_new w1 _ _ _ _ _).below hb5 | exact (five_new_drew w1 _ _ _ _ _).below hb5 | exact (five_drew_new w1 _ _ _ _ _).below hb5)) | skip); dsimp only)
          | (go_at_call 73; refine (C3.out _ (by with_reducible first | exact hw5 | exact hw5.alloc hw5.size _)).mono ?_; rintro e w6 ⟨⟨fb, fn, rfl, _, _, hcf⟩, hb6⟩; have hw6 : Below w1.heap.size w1 w6 := Below.trans (by with_reducible first | exact hw5 | exact hw5.alloc hw5.size _) (hb6.mono (by with_reducible first | exact hw5.size | exact (hw5.alloc hw5.size _).size)); have hP6 : Hid (Prc w6 (some ⟨nb, 0, none⟩) N nn (some ⟨fb, 0, none⟩) F M K A B) := ⟨hN5.out.below (Below.trans (by with_reducible first | exact Below.refl _ _ | exact box_below _ _) (hb6.mono (by simp))), ⟨fb, 0, fun _ => rfl, hcf.out⟩, hnn, HPw1.out.nN, HPw1.out.nF⟩; obtain ⟨y0, y1⟩ := HBx.out w6 (HB1.out.trans (hw6.mono HB1.out.size)); (first | (have hf6 : Hid (Five w6 w1.heap.size (.slice none 0 0) (.slice none 0 0) (.slice none 0 0) (.slice none 0 0) (.slice none 0 0)) := (by with_reducible exact hid (hf5.below hb6)); obtain ⟨⟨q0, q1, q2, q3, q4⟩, ⟨f0, f1, f2, f3, f4⟩⟩ := five_cells hf6.out) | (have hf6 : Hid (Five w6 w5.heap.size (.slice none 0 0) (.slice none 0 0) (.slice none 0 0) (.slice none 0 0) (.slice none 0 0)) := (by with_reducible exact hid ((five_new w5 _ _ _ _ _).below hb6)); obtain ⟨⟨q0, q1, q2, q3, q4⟩, ⟨f0, f1, f2, f3, f4⟩⟩ := five_cells hf6.out) | skip); dsimp only))
      all_goals go_wp2_with fail
      all_goals go_meet
      all_goals (first
        | exact ⟨_, nb, nn, fb, fn, rfl, hid (lyc_new hw6 hP6.out)⟩
        | exact ⟨_, nb, nn, fb, fn, rfl, hid (lyc_set hw6 hw5.size hf6.out hP6.out)⟩
        | exact ⟨_, nb, nn, fb, fn, rfl, hid (lyc_set hw6 (Nat.le_refl _) hf6.out hP6.out)⟩)
    obtain ⟨r, nb, nn, fb, fn, rfl, HC⟩ := hcut
    have hmk := run_make_row' (P := Try.prog) 27 26 (.slice none 0 0) 24 Try.underlying27 Try.info26 rfl .i64 .i64 N (by omega) (by omega)
    have hr1 : w1.heap.size ≤ r := HC.out.ge
    have hrc : r < wc.heap.size := HC.out.lt
    have hrc2 : r < wc.heap.size + 1 := by omega
    have hsz4 : w.heap.size < wc.heap.size := by omega
    have hsz5 : w.heap.size < wc.heap.size + 1 := by omega
    have hsz6 : w.heap.size ≠ r := by omega
    clear hc0 hc1 C2 C3 HSt5 HBa
    obtain ⟨hc0, hc1⟩ := HBx.out wc (HB1.out.trans (HC.out.below.mono HB1.out.size))
    obtain ⟨⟨q0, q1, q2, q3, q4⟩, ⟨f0, f1, f2, f3, f4⟩⟩ := five_cells HC.out.five
    obtain ⟨Wb, eWb⟩ : ∃ u, u = (wc.setCell ⟨r, 3, none⟩ (.slice (some ⟨wc.heap.size, 0, none⟩) N N)).setCell ⟨r, 4, none⟩ (.slice (some ⟨wc.heap.size + 1, 0, none⟩) N N) := ⟨_, rfl⟩
    have HWs : Hid (Wb.heap.size = wc.heap.size) := by subst eWb; show _ = _; simp [World.setCell]
    have HWb : Hid (Below w1.heap.size w1 Wb) := by subst eWb; exact (HC.out.below.setCell hr1 _).setCell hr1 _
    have HF5 : Hid (Five Wb r (.slice (some ⟨nb, 0, none⟩) N nn) (.slice (some ⟨fb, 0, none⟩) F fn) (.slice sa la.length sc) (.slice (some ⟨wc.heap.size, 0, none⟩) N N) (.slice (some ⟨wc.heap.size + 1, 0, none⟩) N N)) := by subst eWb; exact five_two HC.out.five
    have HBb : Hid (∀ u, Below Wb.heap.size Wb u → u.cell? ⟨r, 0, none⟩ = some (.slice (some ⟨nb, 0, none⟩) N nn) ∧ u.cell? ⟨r, 1, none⟩ = some (.slice (some ⟨fb, 0, none⟩) F fn) ∧ u.cell? ⟨r, 2, none⟩ = some (.slice sa la.length sc) ∧ u.cell? ⟨r, 3, none⟩ = some (.slice (some ⟨wc.heap.size, 0, none⟩) N N) ∧ u.cell? ⟨r, 4, none⟩ = some (.slice (some ⟨wc.heap.size + 1, 0, none⟩) N N)) := fun u hu => (five_cells (HF5.out.below hu)).1
    have HPb : Hid (Prc Wb (some ⟨nb, 0, none⟩) N nn (some ⟨fb, 0, none⟩) F M K A B) := by subst eWb; exact five_prc HC.out.five HC.out.prc two_other
    have HS0 : Hid (Ly Wb ((((wc.setCell ⟨r, 3, none⟩ (.slice (some ⟨wc.heap.size, 0, none⟩) N N)).setCell ⟨r, 4, none⟩ (.slice (some ⟨wc.heap.size + 1, 0, none⟩) N N)).alloc (.cells (madeCells #[.slice none 0 0] N) 26)).alloc (.cells (madeCells #[.slice none 0 0] N) 26)) N (lyT A B N 0 0) (fun _ => .slice none 0 0)) := by
      rw [← eWb]
      exact ly_start Wb N _ (fun j _ => by unfold lyT; split <;> rfl)
    clear eWb HC
    go_wp2
    clear hmk q0 q1 q2 q3 q4 f0 f1 f2 f3 f4 hc0 hc1
    go_loopw [39] (fun i wr => ∃ k : Nat, k ≤ F ∧ i = .int .i64 k ∧ Hid (∃ V, Ly Wb wr N (lyT A B N k k) V)) (fun i _ => F - (intOf i).toNat)
    case atStart => exact ⟨0, Nat.zero_le _, rfl, hid ⟨_, HS0.out⟩⟩
    case round =>
     obtain ⟨k, hk, rfl, hX⟩ := hrel
     obtain ⟨V, hL⟩ := hX.out
     have HL : Hid (Ly Wb wr N (lyT A B N k k) V) := hL
     clear hX hL HS0
     have HBr1 : Hid (Below w1.heap.size w1 wr) := HWb.out.trans (HL.out.below.mono HWb.out.size)
     have HBr : Hid (Below w.heap.size w wr) := HBw1.out.trans (HBr1.out.mono HBw1.out.size)
     have hsw : wc.heap.size + 1 < wr.heap.size := by have := HL.out.outs.lt; have := HWs.out; omega
     by_cases hlt : k < F
     · obtain ⟨b, o, ha, hc⟩ := HP.out.fls
       obtain rfl := ha (by omega)
       obtain ⟨h1, h2⟩ := Fls.at hc HBr.out hlt
       have hE := HEnds.out k hlt
       obtain ⟨x, hx⟩ : ∃ x : Nat, B k = x := ⟨(B k).toNat, by omega⟩
       obtain ⟨y, hy⟩ : ∃ y : Nat, A k = y := ⟨(A k).toNat, by omega⟩
       have hxN : x < N := by omega
       have hyN : y < N := by omega
       have hxN' : (x : Int) < N := by omega
       have hyN' : (y : Int) < N := by omega
       have HX : Hid (B k = x ∧ A k = y) := ⟨hx, hy⟩
       rw [hx] at h2
       rw [hy] at h1
       obtain ⟨a2, c2, hv, _⟩ := owns_row (HL.out.ows.own x (by omega))
       have hlen := lyT_len (A := A) (B := B) (N := N) (k := k) (q := k) (j := x)
       generalize hm : (lyT A B N k k x).length = m2 at *
       have HM1 : Hid ((lyT A B N k k x).length = m2) := hm
       have HV1 : Hid (V x = .slice a2 m2 c2) := hv
       have HF0 : Hid (∀ j, j < N + N → ∀ b, (V j).ownBlock = some b → wc.heap.size + 1 < b ∧ b < wr.heap.size) := fun j hj b hb => by
         have := (HL.out.ows.own j hj).lt b hb
         have := HWs.out
         omega
       obtain ⟨hq0, hq1, hq2, hq3, hq4⟩ := HBb.out wr HL.out.below
       have hti : wr.cell? ⟨wc.heap.size, x, none⟩ = some (.slice a2 m2 c2) := by rw [← HWs.out, HL.out.ins.cell hxN, hv]
       clear hc ha hE hx hy hm hv
       go_wp2
       have HL2 : Hid (Ly Wb (wr.alloc (.cells #[.int .i64 y, .int .i64 x] 86)) N (lyT A B N k k) V) := HL.out.alloc _
       have hb3 : (wr.alloc (.cells #[.int .i64 y, .int .i64 x] 86)).cell? ⟨r, 3, none⟩ = some (.slice (some ⟨wc.heap.size, 0, none⟩) N N) := keep_alloc (Below.refl _ _) hq3
       have hb4 : (wr.alloc (.cells #[.int .i64 y, .int .i64 x] 86)).cell? ⟨r, 4, none⟩ = some (.slice (some ⟨wc.heap.size + 1, 0, none⟩) N N) := keep_alloc (Below.refl _ _) hq4
       have ht1 : (wr.alloc (.cells #[.int .i64 y, .int .i64 x] 86)).cell? ⟨wc.heap.size, x, none⟩ = some (.slice a2 m2 c2) := keep_alloc (Below.refl _ _) hti
       have hf0 : (wr.alloc (.cells #[.int .i64 y, .int .i64 x] 86)).cell? ⟨wr.heap.size, 0, none⟩ = some (.int .i64 y) := cell_of_alloc rfl
       have hf1 : (wr.alloc (.cells #[.int .i64 y, .int .i64 x] 86)).cell? ⟨wr.heap.size, 1, none⟩ = some (.int .i64 x) := cell_of_alloc rfl
       have HUs : Hid ((wr.alloc (.cells #[.int .i64 y, .int .i64 x] 86)).heap.size = wr.heap.size + 1 ∧ Wb.heap.size + 1 < wr.heap.size) := ⟨by simp, HL.out.outs.lt⟩
       have HAp1 : Hid (∀ b, b ≤ wc.heap.size + 1 ∨ b = wr.heap.size → (Value.slice a2 m2 c2).ownBlock ≠ some b) := fun b hb e => by
         have := HF0.out x (by omega) b (by rw [HV1.out]; exact e)
         omega
       have HO1 : Hid ((wr.alloc (.cells #[.int .i64 y, .int .i64 x] 86)).ownsRow (Wb.heap.size + 1 + 1) 3 1 (.slice a2 m2 c2) m2 (vals (lyT A B N k k x))) := by
         have := HL2.out.ows.own x (by omega)
         rw [HV1.out, HM1.out] at this
         exact this
       clear h1 h2 hti hq0 hq1 hq2 hq3 hq4
       generalize hU : wr.alloc (.cells #[.int .i64 y, .int .i64 x] 86) = U at *
       clear hU
       refine G_region (fun z => z.cell? ⟨r, 3, none⟩ = some (.slice (some ⟨wc.heap.size, 0, none⟩) N N) ∧ z.cell? ⟨wr.heap.size, 1, none⟩ = some (.int .i64 x) ∧ z.cell? ⟨wc.heap.size, x, none⟩ = some (.slice a2 m2 c2)) (fun j => j == 14) (by kernel_rfl) ⟨hb3, hf1, ht1⟩ (fun hHeld => ?_)
       refine G_take (i := 0) (oi := { dst := some 44, op := Op.fieldAddr 94 (Operand.tmp 6) 3, type := 0, pos := _, after := #[], guard := none }) (v := .pointer (some ⟨r, 3, none⟩)) rfl (by kernel_rfl) (by kernel_rfl) (by kernel_rfl) (by kernel_rfl) (fun _ _ _ h => h) (by rfl) (fun u hu => ?_) hHeld ?_
       · (try dsimp only at hu); go_simp
       (try simp only [Act.put, List.setIfInBounds_toArray, List.set_cons_zero, List.set_cons_succ])
       refine G_take (i := 1) (oi := { dst := some 45, op := Op.load 27 (Operand.tmp 44), type := 27, pos := _, after := #[{ on := 0, ground := Ground.data }], guard := none }) (v := .slice (some ⟨wc.heap.size, 0, none⟩) N N) rfl (by kernel_rfl) (by kernel_rfl) (by kernel_rfl) (by kernel_rfl) (fun _ _ _ h => h) (by rfl) (fun u hu => ?_) hHeld ?_
       · (try dsimp only at hu); go_simp
       (try simp only [Act.put, List.setIfInBounds_toArray, List.set_cons_zero, List.set_cons_succ])
       refine G_take (i := 2) (oi := { dst := some 46, op := Op.fieldAddr 86 (Operand.tmp 8) 1, type := 0, pos := _, after := #[], guard := none }) (v := .pointer (some ⟨wr.heap.size, 1, none⟩)) rfl (by kernel_rfl) (by kernel_rfl) (by kernel_rfl) (by kernel_rfl) (fun _ _ _ h => h) (by rfl) (fun u hu => ?_) hHeld ?_
       · (try dsimp only at hu); go_simp
       (try simp only [Act.put, List.setIfInBounds_toArray, List.set_cons_zero, List.set_cons_succ])
       refine G_take (i := 3) (oi := { dst := some 47, op := Op.load 3 (Operand.tmp 46), type := 3, pos := _, after := #[{ on := 2, ground := Ground.data }], guard := none }) (v := .int .i64 x) rfl (by kernel_rfl) (by kernel_rfl) (by kernel_rfl) (by kernel_rfl) (fun _ _ _ h => h) (by rfl) (fun u hu => ?_) hHeld ?_
       · (try dsimp only at hu); go_simp
       (try simp only [Act.put, List.setIfInBounds_toArray, List.set_cons_zero, List.set_cons_succ])
       refine G_take (i := 4) (oi := { dst := some 48, op := Op.fieldAddr 94 (Operand.tmp 6) 3, type := 0, pos := _, after := #[], guard := none }) (v := .pointer (some ⟨r, 3, none⟩)) rfl (by kernel_rfl) (by kernel_rfl) (by kernel_rfl) (by kernel_rfl) (fun _ _ _ h => h) (by rfl) (fun u hu => ?_) hHeld ?_
       · (try dsimp only at hu); go_simp
       (try simp only [Act.put, List.setIfInBounds_toArray, List.set_cons_zero, List.set_cons_succ])
       refine G_take (i := 5) (oi := { dst := some 49, op := Op.load 27 (Operand.tmp 48), type := 27, pos := _, after := #[{ on := 4, ground := Ground.data }], guard := none }) (v := .slice (some ⟨wc.heap.size, 0, none⟩) N N) rfl (by kernel_rfl) (by kernel_rfl) (by kernel_rfl) (by kernel_rfl) (fun _ _ _ h => h) (by rfl) (fun u hu => ?_) hHeld ?_
       · (try dsimp only at hu); go_simp
       (try simp only [Act.put, List.setIfInBounds_toArray, List.set_cons_zero, List.set_cons_succ])
       refine G_take (i := 6) (oi := { dst := some 50, op := Op.fieldAddr 86 (Operand.tmp 8) 1, type := 0, pos := _, after := #[], guard := none }) (v := .pointer (some ⟨wr.heap.size, 1, none⟩)) rfl (by kernel_rfl) (by kernel_rfl) (by kernel_rfl) (by kernel_rfl) (fun _ _ _ h => h) (by rfl) (fun u hu => ?_) hHeld ?_
       · (try dsimp only at hu); go_simp
       (try simp only [Act.put, List.setIfInBounds_toArray, List.set_cons_zero, List.set_cons_succ])
       refine G_take (i := 7) (oi := { dst := some 51, op := Op.load 3 (Operand.tmp 50), type := 3, pos := _, after := #[{ on := 6, ground := Ground.data }], guard := none }) (v := .int .i64 x) rfl (by kernel_rfl) (by kernel_rfl) (by kernel_rfl) (by kernel_rfl) (fun _ _ _ h => h) (by rfl) (fun u hu => ?_) hHeld ?_
       · (try dsimp only at hu); go_simp
       (try simp only [Act.put, List.setIfInBounds_toArray, List.set_cons_zero, List.set_cons_succ])
       refine G_take (i := 8) (oi := { dst := some 52, op := Op.indexAddr 27 (Operand.tmp 49) (Operand.tmp 51), type := 0, pos := _, after := #[{ on := 5, ground := Ground.data }, { on := 7, ground := Ground.data }], guard := none }) (v := .pointer (some ⟨wc.heap.size, x, none⟩)) rfl (by kernel_rfl) (by kernel_rfl) (by kernel_rfl) (by kernel_rfl) (fun _ _ _ h => h) (by rfl) (fun u hu => ?_) hHeld ?_
       · (try dsimp only at hu); go_simp
       (try simp only [Act.put, List.setIfInBounds_toArray, List.set_cons_zero, List.set_cons_succ])
       refine G_take (i := 9) (oi := { dst := some 53, op := Op.load 26 (Operand.tmp 52), type := 26, pos := _, after := #[{ on := 8, ground := Ground.data }], guard := none }) (v := .slice a2 m2 c2) rfl (by kernel_rfl) (by kernel_rfl) (by kernel_rfl) (by kernel_rfl) (fun _ _ _ h => h) (by rfl) (fun u hu => ?_) hHeld ?_
       · (try dsimp only at hu); go_simp
       (try simp only [Act.put, List.setIfInBounds_toArray, List.set_cons_zero, List.set_cons_succ])
       refine G_take (i := 10) (oi := { dst := some 54, op := Op.move (Operand.tmp 7), type := 3, pos := _, after := #[], guard := none }) (v := .int .i64 k) rfl (by kernel_rfl) (by kernel_rfl) (by kernel_rfl) (by kernel_rfl) (fun _ _ _ h => h) (by rfl) (fun u hu => ?_) hHeld ?_
       · (try dsimp only at hu); go_simp
       (try simp only [Act.put, List.setIfInBounds_toArray, List.set_cons_zero, List.set_cons_succ])
       refine G_step (i := 11) (o := { dst := some 55, op := Op.buildSlice 26 1 #[(0, Operand.tmp 54)], type := 26, pos := _, after := #[{ on := 10, ground := Ground.data }], guard := none }) (by kernel_rfl) rfl (fun K' hK => ?_)
       go_simp
       refine hK.out _ _ (fun _ => ?_) (fun hS2 => ?_)
       · exact ⟨keep_alloc (Below.refl _ _).drew hb3, keep_alloc (Below.refl _ _).drew hf1, keep_alloc (Below.refl _ _).drew ht1⟩
       have hHeld2 := hS2 rfl
       clear hK K' hS2 hHeld
       (try simp only [Act.put, List.setIfInBounds_toArray, List.set_cons_zero, List.set_cons_succ])
       refine G_step (i := 12) (o := { dst := some 56, op := Op.call { callee := Callee.builtin Builtin.append, args := #[Operand.tmp 53, Operand.tmp 55], argTypes := #[26, 26] }, type := 26, pos := _, after := #[{ on := 9, ground := Ground.data }, { on := 11, ground := Ground.data }], guard := none }) (by kernel_rfl) rfl (fun K' hK => ?_)
       (refine step_append_lies _ (by rfl) _ _ _ (by rfl) (Wb.heap.size + 1 + 1) 3 i0 _ 1 8 Try.underlying26 HI.out.1 HI.out.2.1 HI.out.2.2.1 HI.out.2.2.2 rfl (by omega) (.slice a2 m2 c2) m2 (vals (lyT A B N k k x)) (by rfl) ((HO1.out.alloc _).drew) ⟨U.heap.size, 0, none⟩ 1 1 [.int .i64 k] (by rfl) (by rfl) (World.news_of_block (cs := #[.int .i64 k]) (t := 3) (fr := (0, 0)) (heap_alloc_new U _)) (by simp [Value.oneCell']) (by omega) (by unfold maxLen; omega) (by omega) (by have := HUs.out; simp; omega) (U.heap.size + 1) (by simp) ?_; intro gg1 cap1 w2 hown1 hgrow1 hat1 hlt1; obtain ⟨g1, g2, H3⟩ := lyApp1 HL2.out hxN HM1.out HV1.out HWs.out hown1 hgrow1 hat1; have g3 : w2.cell? ⟨r, 3, none⟩ = some (.slice (some ⟨wc.heap.size, 0, none⟩) N N) := grown_cell hgrow1 hb3 (HAp1.out _ (Or.inl (by show r ≤ _; omega))); have g4 : w2.cell? ⟨r, 4, none⟩ = some (.slice (some ⟨wc.heap.size + 1, 0, none⟩) N N) := grown_cell hgrow1 hb4 (HAp1.out _ (Or.inl (by show r ≤ _; omega))); have g5 : w2.cell? ⟨wr.heap.size, 1, none⟩ = some (.int .i64 x) := grown_cell hgrow1 hf1 (HAp1.out _ (Or.inr rfl)); have g6 : w2.cell? ⟨wr.heap.size, 0, none⟩ = some (.int .i64 y) := grown_cell hgrow1 hf0 (HAp1.out _ (Or.inr rfl)); clear hown1 hat1)
       refine hK.out _ _ (fun _ => ?_) (fun hS2 => ?_)
       · exact ⟨g3, g5, g1⟩
       have hHeld3 := hS2 rfl
       clear hK K' hS2 hHeld2
       (try simp only [Act.put, List.setIfInBounds_toArray, List.set_cons_zero, List.set_cons_succ])
       refine G_take (i := 13) (oi := { dst := some 57, op := Op.indexAddr 27 (Operand.tmp 45) (Operand.tmp 47), type := 0, pos := _, after := #[{ on := 1, ground := Ground.data }, { on := 3, ground := Ground.data }, { on := 0, ground := Ground.phase }, { on := 1, ground := Ground.phase }, { on := 2, ground := Ground.phase }, { on := 3, ground := Ground.phase }, { on := 4, ground := Ground.phase }, { on := 5, ground := Ground.phase }, { on := 6, ground := Ground.phase }, { on := 7, ground := Ground.phase }, { on := 8, ground := Ground.phase }, { on := 9, ground := Ground.phase }, { on := 10, ground := Ground.phase }, { on := 11, ground := Ground.phase }, { on := 12, ground := Ground.phase }], guard := none }) (v := .pointer (some ⟨wc.heap.size, x, none⟩)) rfl (by kernel_rfl) (by kernel_rfl) (by kernel_rfl) (by kernel_rfl) (fun _ _ _ h => h) (by rfl) (fun u hu => ?_) hHeld3 ?_
       · (try dsimp only at hu); go_simp
       (try simp only [Act.put, List.setIfInBounds_toArray, List.set_cons_zero, List.set_cons_succ])
       refine G_step (i := 14) (o := { dst := none, op := Op.store 26 (Operand.tmp 57) (Operand.tmp 56), type := 0, pos := _, after := #[{ on := 13, ground := Ground.data }, { on := 12, ground := Ground.data }, { on := 12, ground := Ground.chain }, { on := 0, ground := Ground.phase }, { on := 1, ground := Ground.phase }, { on := 2, ground := Ground.phase }, { on := 3, ground := Ground.phase }, { on := 4, ground := Ground.phase }, { on := 5, ground := Ground.phase }, { on := 6, ground := Ground.phase }, { on := 7, ground := Ground.phase }, { on := 8, ground := Ground.phase }, { on := 9, ground := Ground.phase }, { on := 10, ground := Ground.phase }, { on := 11, ground := Ground.phase }, { on := 12, ground := Ground.phase }], guard := none }) (by kernel_rfl) rfl (fun K' hK => ?_)
       go_simp
       refine hK.out _ _ (fun h => absurd h (by decide)) (fun _ => ?_)
       clear hK K' hHeld3
       (try simp only [Act.put, List.setIfInBounds_toArray, List.set_cons_zero, List.set_cons_succ])
       refine G_done (by kernel_rfl) ?_ _
       have HL4 : Hid (Ly Wb (w2.setCell ⟨wc.heap.size, x, none⟩ (.slice (some ⟨gg1, 0, none⟩) (m2 + 1) cap1)) N (lyT A B N (k + 1) k) (fun i => if i = x then .slice (some ⟨gg1, 0, none⟩) (m2 + 1) cap1 else V i)) := H3.out.congr (fun j _ => lyT_in hxN HX.out.1)
       have hne3 : r ≠ wc.heap.size := by omega
       have hb4' : (w2.setCell ⟨wc.heap.size, x, none⟩ (.slice (some ⟨gg1, 0, none⟩) (m2 + 1) cap1)).cell? ⟨r, 4, none⟩ = some (.slice (some ⟨wc.heap.size + 1, 0, none⟩) N N) := (cell_set_other (by show r ≠ wc.heap.size; omega)).trans g4
       have hf0' : (w2.setCell ⟨wc.heap.size, x, none⟩ (.slice (some ⟨gg1, 0, none⟩) (m2 + 1) cap1)).cell? ⟨wr.heap.size, 0, none⟩ = some (.int .i64 y) := (cell_set_other (by show wr.heap.size ≠ wc.heap.size; omega)).trans g6
       have HVy : Hid ((fun i => if i = x then Value.slice (some ⟨gg1, 0, none⟩) (m2 + 1) cap1 else V i) (N + y) = V (N + y)) := by show (if N + y = x then _ else V (N + y)) = V (N + y); rw [if_neg (by omega)]
       have HsU2 : Hid (wr.heap.size + 1 ≤ w2.heap.size) := by
         have h9 : (U.alloc (.cells #[.int .i64 (k : Int)] 3)).heap.size ≤ w2.heap.size := hgrow1.size
         have e9 : (U.alloc (.cells #[.int .i64 (k : Int)] 3)).heap.size = U.heap.size + 1 := by simp
         have := HUs.out.1
         show wr.heap.size + 1 ≤ w2.heap.size
         omega
       clear H3 g1 g2 g3 g4 g5 g6 hgrow1 hlt1 hb3 hb4 hf0 hf1 ht1 HO1 HAp1 HL2
       generalize hU2 : w2.setCell ⟨wc.heap.size, x, none⟩ (.slice (some ⟨gg1, 0, none⟩) (m2 + 1) cap1) = U2 at *
       have HU2s : Hid (U2.heap.size = w2.heap.size) := by show _ = _; rw [← hU2]; simp [World.setCell]
       clear hU2
       obtain ⟨a3, c3, hv3, _⟩ := owns_row (HL4.out.ows.own (N + y) (by omega))
       have hlen3 := lyT_len (A := A) (B := B) (N := N) (k := k + 1) (q := k) (j := N + y)
       generalize hm : (lyT A B N (k + 1) k (N + y)).length = m3 at *
       have HM2 : Hid ((lyT A B N (k + 1) k (N + y)).length = m3) := hm
       have HV2 : Hid ((fun i => if i = x then Value.slice (some ⟨gg1, 0, none⟩) (m2 + 1) cap1 else V i) (N + y) = .slice a3 m3 c3) := hv3
       have ht2 : U2.cell? ⟨wc.heap.size + 1, y, none⟩ = some (.slice a3 m3 c3) := by rw [← HWs.out, HL4.out.outs.cell hyN]; exact congrArg some HV2.out
       have HO2 : Hid (U2.ownsRow (Wb.heap.size + 1 + 1) 3 1 (.slice a3 m3 c3) m3 (vals (lyT A B N (k + 1) k (N + y)))) := by
         have := HL4.out.ows.own (N + y) (by omega)
         rw [HM2.out] at this
         have e := HV2.out
         dsimp only at e this
         rw [e] at this
         exact this
       have HAp2 : Hid (∀ b, b ≤ wc.heap.size + 1 ∨ b = wr.heap.size → (Value.slice a3 m3 c3).ownBlock ≠ some b) := fun b hb e => by
         have e2 : V (N + y) = .slice a3 m3 c3 := HVy.out.symm.trans HV2.out
         have := HF0.out (N + y) (by omega) b (by rw [e2]; exact e)
         omega
       clear hm hv3 HVy
       go_wp2
       refine G_region (fun z => z.cell? ⟨r, 4, none⟩ = some (.slice (some ⟨wc.heap.size + 1, 0, none⟩) N N) ∧ z.cell? ⟨wr.heap.size, 0, none⟩ = some (.int .i64 y) ∧ z.cell? ⟨wc.heap.size + 1, y, none⟩ = some (.slice a3 m3 c3)) (fun j => j == 14) (by kernel_rfl) ⟨hb4', hf0', ht2⟩ (fun hHeld => ?_)
       refine G_take (i := 0) (oi := { dst := some 58, op := Op.fieldAddr 94 (Operand.tmp 6) 4, type := 0, pos := _, after := #[], guard := none }) (v := .pointer (some ⟨r, 4, none⟩)) rfl (by kernel_rfl) (by kernel_rfl) (by kernel_rfl) (by kernel_rfl) (fun _ _ _ h => h) (by rfl) (fun u hu => ?_) hHeld ?_
       · (try dsimp only at hu); go_simp
       (try simp only [Act.put, List.setIfInBounds_toArray, List.set_cons_zero, List.set_cons_succ])
       refine G_take (i := 1) (oi := { dst := some 59, op := Op.load 27 (Operand.tmp 58), type := 27, pos := _, after := #[{ on := 0, ground := Ground.data }], guard := none }) (v := .slice (some ⟨wc.heap.size + 1, 0, none⟩) N N) rfl (by kernel_rfl) (by kernel_rfl) (by kernel_rfl) (by kernel_rfl) (fun _ _ _ h => h) (by rfl) (fun u hu => ?_) hHeld ?_
       · (try dsimp only at hu); go_simp
       (try simp only [Act.put, List.setIfInBounds_toArray, List.set_cons_zero, List.set_cons_succ])
       refine G_take (i := 2) (oi := { dst := some 60, op := Op.fieldAddr 86 (Operand.tmp 8) 0, type := 0, pos := _, after := #[], guard := none }) (v := .pointer (some ⟨wr.heap.size, 0, none⟩)) rfl (by kernel_rfl) (by kernel_rfl) (by kernel_rfl) (by kernel_rfl) (fun _ _ _ h => h) (by rfl) (fun u hu => ?_) hHeld ?_
       · (try dsimp only at hu); go_simp
       (try simp only [Act.put, List.setIfInBounds_toArray, List.set_cons_zero, List.set_cons_succ])
       refine G_take (i := 3) (oi := { dst := some 61, op := Op.load 3 (Operand.tmp 60), type := 3, pos := _, after := #[{ on := 2, ground := Ground.data }], guard := none }) (v := .int .i64 y) rfl (by kernel_rfl) (by kernel_rfl) (by kernel_rfl) (by kernel_rfl) (fun _ _ _ h => h) (by rfl) (fun u hu => ?_) hHeld ?_
       · (try dsimp only at hu); go_simp
       (try simp only [Act.put, List.setIfInBounds_toArray, List.set_cons_zero, List.set_cons_succ])
       refine G_take (i := 4) (oi := { dst := some 62, op := Op.fieldAddr 94 (Operand.tmp 6) 4, type := 0, pos := _, after := #[], guard := none }) (v := .pointer (some ⟨r, 4, none⟩)) rfl (by kernel_rfl) (by kernel_rfl) (by kernel_rfl) (by kernel_rfl) (fun _ _ _ h => h) (by rfl) (fun u hu => ?_) hHeld ?_
       · (try dsimp only at hu); go_simp
       (try simp only [Act.put, List.setIfInBounds_toArray, List.set_cons_zero, List.set_cons_succ])
       refine G_take (i := 5) (oi := { dst := some 63, op := Op.load 27 (Operand.tmp 62), type := 27, pos := _, after := #[{ on := 4, ground := Ground.data }], guard := none }) (v := .slice (some ⟨wc.heap.size + 1, 0, none⟩) N N) rfl (by kernel_rfl) (by kernel_rfl) (by kernel_rfl) (by kernel_rfl) (fun _ _ _ h => h) (by rfl) (fun u hu => ?_) hHeld ?_
       · (try dsimp only at hu); go_simp
       (try simp only [Act.put, List.setIfInBounds_toArray, List.set_cons_zero, List.set_cons_succ])
       refine G_take (i := 6) (oi := { dst := some 64, op := Op.fieldAddr 86 (Operand.tmp 8) 0, type := 0, pos := _, after := #[], guard := none }) (v := .pointer (some ⟨wr.heap.size, 0, none⟩)) rfl (by kernel_rfl) (by kernel_rfl) (by kernel_rfl) (by kernel_rfl) (fun _ _ _ h => h) (by rfl) (fun u hu => ?_) hHeld ?_
       · (try dsimp only at hu); go_simp
       (try simp only [Act.put, List.setIfInBounds_toArray, List.set_cons_zero, List.set_cons_succ])
       refine G_take (i := 7) (oi := { dst := some 65, op := Op.load 3 (Operand.tmp 64), type := 3, pos := _, after := #[{ on := 6, ground := Ground.data }], guard := none }) (v := .int .i64 y) rfl (by kernel_rfl) (by kernel_rfl) (by kernel_rfl) (by kernel_rfl) (fun _ _ _ h => h) (by rfl) (fun u hu => ?_) hHeld ?_
       · (try dsimp only at hu); go_simp
       (try simp only [Act.put, List.setIfInBounds_toArray, List.set_cons_zero, List.set_cons_succ])
       refine G_take (i := 8) (oi := { dst := some 66, op := Op.indexAddr 27 (Operand.tmp 63) (Operand.tmp 65), type := 0, pos := _, after := #[{ on := 5, ground := Ground.data }, { on := 7, ground := Ground.data }], guard := none }) (v := .pointer (some ⟨wc.heap.size + 1, y, none⟩)) rfl (by kernel_rfl) (by kernel_rfl) (by kernel_rfl) (by kernel_rfl) (fun _ _ _ h => h) (by rfl) (fun u hu => ?_) hHeld ?_
       · (try dsimp only at hu); go_simp
       (try simp only [Act.put, List.setIfInBounds_toArray, List.set_cons_zero, List.set_cons_succ])
       refine G_take (i := 9) (oi := { dst := some 67, op := Op.load 26 (Operand.tmp 66), type := 26, pos := _, after := #[{ on := 8, ground := Ground.data }], guard := none }) (v := .slice a3 m3 c3) rfl (by kernel_rfl) (by kernel_rfl) (by kernel_rfl) (by kernel_rfl) (fun _ _ _ h => h) (by rfl) (fun u hu => ?_) hHeld ?_
       · (try dsimp only at hu); go_simp
       (try simp only [Act.put, List.setIfInBounds_toArray, List.set_cons_zero, List.set_cons_succ])
       refine G_take (i := 10) (oi := { dst := some 68, op := Op.move (Operand.tmp 7), type := 3, pos := _, after := #[], guard := none }) (v := .int .i64 k) rfl (by kernel_rfl) (by kernel_rfl) (by kernel_rfl) (by kernel_rfl) (fun _ _ _ h => h) (by rfl) (fun u hu => ?_) hHeld ?_
       · (try dsimp only at hu); go_simp
       (try simp only [Act.put, List.setIfInBounds_toArray, List.set_cons_zero, List.set_cons_succ])
       refine G_step (i := 11) (o := { dst := some 69, op := Op.buildSlice 26 1 #[(0, Operand.tmp 68)], type := 26, pos := _, after := #[{ on := 10, ground := Ground.data }], guard := none }) (by kernel_rfl) rfl (fun K' hK => ?_)
       go_simp
       refine hK.out _ _ (fun _ => ?_) (fun hS2 => ?_)
       · exact ⟨keep_alloc (Below.refl _ _).drew hb4', keep_alloc (Below.refl _ _).drew hf0', keep_alloc (Below.refl _ _).drew ht2⟩
       have hHeld2 := hS2 rfl
       clear hK K' hS2 hHeld
       (try simp only [Act.put, List.setIfInBounds_toArray, List.set_cons_zero, List.set_cons_succ])
       refine G_step (i := 12) (o := { dst := some 70, op := Op.call { callee := Callee.builtin Builtin.append, args := #[Operand.tmp 67, Operand.tmp 69], argTypes := #[26, 26] }, type := 26, pos := _, after := #[{ on := 9, ground := Ground.data }, { on := 11, ground := Ground.data }], guard := none }) (by kernel_rfl) rfl (fun K' hK => ?_)
       (refine step_append_lies _ (by rfl) _ _ _ (by rfl) (Wb.heap.size + 1 + 1) 3 i0 _ 1 8 Try.underlying26 HI.out.1 HI.out.2.1 HI.out.2.2.1 HI.out.2.2.2 rfl (by omega) (.slice a3 m3 c3) m3 (vals (lyT A B N (k + 1) k (N + y))) (by rfl) ((HO2.out.alloc _).drew) ⟨U2.heap.size, 0, none⟩ 1 1 [.int .i64 k] (by rfl) (by rfl) (World.news_of_block (cs := #[.int .i64 k]) (t := 3) (fr := (0, 0)) (heap_alloc_new U2 _)) (by simp [Value.oneCell']) (by omega) (by unfold maxLen; omega) (by omega) (by have := HU2s.out; have := HsU2.out; have := HUs.out.2; simp; omega) (U2.heap.size + 1) (by simp) ?_; intro gg2 cap2 w3 hown2 hgrow2 hat2 hlt2; obtain ⟨g11, g12, H5⟩ := lyApp2 HL4.out hyN HM2.out HV2.out HWs.out hown2 hgrow2 hat2; have g13 : w3.cell? ⟨r, 4, none⟩ = some (.slice (some ⟨wc.heap.size + 1, 0, none⟩) N N) := grown_cell hgrow2 hb4' (HAp2.out _ (Or.inl (by show r ≤ _; omega))); have g16 : w3.cell? ⟨wr.heap.size, 0, none⟩ = some (.int .i64 y) := grown_cell hgrow2 hf0' (HAp2.out _ (Or.inr rfl)); clear hown2 hat2)
       refine hK.out _ _ (fun _ => ?_) (fun hS2 => ?_)
       · exact ⟨g13, g16, g11⟩
       have hHeld3 := hS2 rfl
       clear hK K' hS2 hHeld2
       (try simp only [Act.put, List.setIfInBounds_toArray, List.set_cons_zero, List.set_cons_succ])
       refine G_take (i := 13) (oi := { dst := some 71, op := Op.indexAddr 27 (Operand.tmp 59) (Operand.tmp 61), type := 0, pos := _, after := #[{ on := 1, ground := Ground.data }, { on := 3, ground := Ground.data }, { on := 0, ground := Ground.phase }, { on := 1, ground := Ground.phase }, { on := 2, ground := Ground.phase }, { on := 3, ground := Ground.phase }, { on := 4, ground := Ground.phase }, { on := 5, ground := Ground.phase }, { on := 6, ground := Ground.phase }, { on := 7, ground := Ground.phase }, { on := 8, ground := Ground.phase }, { on := 9, ground := Ground.phase }, { on := 10, ground := Ground.phase }, { on := 11, ground := Ground.phase }, { on := 12, ground := Ground.phase }], guard := none }) (v := .pointer (some ⟨wc.heap.size + 1, y, none⟩)) rfl (by kernel_rfl) (by kernel_rfl) (by kernel_rfl) (by kernel_rfl) (fun _ _ _ h => h) (by rfl) (fun u hu => ?_) hHeld3 ?_
       · (try dsimp only at hu); go_simp
       (try simp only [Act.put, List.setIfInBounds_toArray, List.set_cons_zero, List.set_cons_succ])
       refine G_step (i := 14) (o := { dst := none, op := Op.store 26 (Operand.tmp 71) (Operand.tmp 70), type := 0, pos := _, after := #[{ on := 13, ground := Ground.data }, { on := 12, ground := Ground.data }, { on := 12, ground := Ground.chain }, { on := 0, ground := Ground.phase }, { on := 1, ground := Ground.phase }, { on := 2, ground := Ground.phase }, { on := 3, ground := Ground.phase }, { on := 4, ground := Ground.phase }, { on := 5, ground := Ground.phase }, { on := 6, ground := Ground.phase }, { on := 7, ground := Ground.phase }, { on := 8, ground := Ground.phase }, { on := 9, ground := Ground.phase }, { on := 10, ground := Ground.phase }, { on := 11, ground := Ground.phase }, { on := 12, ground := Ground.phase }], guard := none }) (by kernel_rfl) rfl (fun K' hK => ?_)
       go_simp
       refine hK.out _ _ (fun h => absurd h (by decide)) (fun _ => ?_)
       clear hK K' hHeld3
       (try simp only [Act.put, List.setIfInBounds_toArray, List.set_cons_zero, List.set_cons_succ])
       refine G_done (by kernel_rfl) ?_ _
       have HL6 : Hid (Ly Wb (w3.setCell ⟨wc.heap.size + 1, y, none⟩ (.slice (some ⟨gg2, 0, none⟩) (m3 + 1) cap2)) N (lyT A B N (k + 1) (k + 1)) (fun i => if i = N + y then .slice (some ⟨gg2, 0, none⟩) (m3 + 1) cap2 else (fun i => if i = x then Value.slice (some ⟨gg1, 0, none⟩) (m2 + 1) cap1 else V i) i)) := H5.out.congr (fun j _ => lyT_out HX.out.2)
       clear H5 g11 g12 g13 g16 hgrow2 hlt2 HL4 HO2 HAp2 ht2 hb4' hf0'
       go_wp2
       go_roundw
       case rel => exact ⟨k + 1, by omega, by go_num, hid ⟨_, HL6.out⟩⟩
       case measure => simp [intOf]; omega
     · obtain rfl : F = k := by omega
       obtain ⟨hq0, hq1, hq2, hq3, hq4⟩ := HBb.out wr HL.out.below
       have H6 : Hid (Five wr (w.heap.size + 1) (.slice none 0 0) (.slice none 0 0) (.slice none 0 0) (.slice none 0 0) (.slice none 0 0)) := H5.out.below HBr1.out
       obtain ⟨⟨q0, q1, q2, q3, q4⟩, ⟨f0, f1, f2, f3, f4⟩⟩ := five_cells H6.out
       have HBrd : Hid (Brd wr (some ⟨nb, 0, none⟩) N nn (some ⟨fb, 0, none⟩) F sa (some ⟨wc.heap.size, 0, none⟩) (some ⟨wc.heap.size + 1, 0, none⟩) M K A B la) := by
         have hin := HL.out.grIn
         have hout := HL.out.grOut
         rw [HWs.out] at hin hout
         exact ⟨HPb.out.below HL.out.below, HE.out, HSt.out.1.below HBr1.out, hla.symm, HSt.out.2, hin, hout⟩
       go_wp2
       (try simp only [Exit.inBlock, Exit.then])
       refine bodyPost_ret (results_cell_tmp1 rfl _ _ (w.heap.size + 1) 94 #[.slice (some ⟨nb, 0, none⟩) N nn, .slice (some ⟨fb, 0, none⟩) F fn, .slice sa la.length sc, .slice (some ⟨wc.heap.size, 0, none⟩) N N, .slice (some ⟨wc.heap.size + 1, 0, none⟩) N N] (0, 0) _ rfl (five_set H6.out) Try.underlying94 rfl (by kernel_rfl)) rfl ?_
       subst hla
       have HBf : Below w.heap.size w (((((wr.setCell ⟨w.heap.size + 1, 0, none⟩ (.slice (some ⟨nb, 0, none⟩) N nn)).setCell ⟨w.heap.size + 1, 1, none⟩ (.slice (some ⟨fb, 0, none⟩) F fn)).setCell ⟨w.heap.size + 1, 2, none⟩ (.slice sa (stAll K A B F N).length sc)).setCell ⟨w.heap.size + 1, 3, none⟩ (.slice (some ⟨wc.heap.size, 0, none⟩) N N)).setCell ⟨w.heap.size + 1, 4, none⟩ (.slice (some ⟨wc.heap.size + 1, 0, none⟩) N N)) :=
         ((((HBr.out.setCell (by show w.heap.size ≤ w.heap.size + 1; omega) _).setCell (by show w.heap.size ≤ w.heap.size + 1; omega) _).setCell (by show w.heap.size ≤ w.heap.size + 1; omega) _).setCell (by show w.heap.size ≤ w.heap.size + 1; omega) _).setCell (by show w.heap.size ≤ w.heap.size + 1; omega) _
       rw [spE_ok HBrd.out.few]
       refine ⟨HBf, Or.inr ⟨rfl, _, nn, _, fn, sa, sc, wc.heap.size, wc.heap.size + 1, by omega, by omega, rfl, ?_⟩⟩
       exact ⟨five_prc H6.out HBrd.out.prc set_other5, HE.out, five_sts H6.out HBrd.out.sts set_other5, HBrd.out.lis, HBrd.out.few, five_gr H6.out HBrd.out.ins set_other5 (by omega), five_gr H6.out HBrd.out.outs set_other5 (by omega)⟩


end Go.Proofs.Ythpbgfodejoecaa
