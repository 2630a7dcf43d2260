
import Derived.Deep.Cut
import Derived.Deep.OwnRows
import Derived.Maps.AppendAt
import Derived.WalkKit
import Derived.WalkSpells
import Derived.WalkLawsBesides
import Derived.Deep.QuietTactic
import Derived.BigQuiet
import Derived.Below
import Derived.Deep.Heap
import Derived.RegionTactic
import Derived.Deep.Quiet
import Derived.Test.YthpbgfodejoecaaBfsJ
import Derived.Test.YthpbgfodejoecaaDistJ
import Derived.Test.YthpbgfodejoecaaDist2J
import Derived.Test.YthpbgfodejoecaaLeafJ
import Derived.Test.YthpbgfodejoecaaProc
import Derived.Test.YthpbgfodejoecaaProc2
import Derived.Test.YthpbgfodejoecaaSpFaceJ
import Derived.Test.YthpbgfodejoecaaWScTarjan
import Derived.Test.YthpbgfodejoecaaWBaseJ
/- The search's record in memory; what each store does to it. enter, by its contract. -/
namespace Go.Proofs.Ythpbgfodejoecaa
open Go.RowKit

def ints (l : List Nat) : List Int := l.map (fun x : Nat => (x : Int))
theorem ints_len (l : List Nat) : (ints l).length = l.length := by simp [ints]
theorem ints_snoc (l : List Nat) (x : Nat) : ints (l ++ [x]) = ints l ++ [(x : Int)] := by simp [ints]

/-- Where the record and its rows lie. -/
structure Lay where
  sb : Nat
  bm : Nat
  bl : Nat
  bn : Nat
  bt : Nat
  B : Nat

structure Lay.ok (y : Lay) (N : Nat) : Prop where
  a1 : N ≤ y.sb ∧ N ≤ y.bm ∧ N ≤ y.bl ∧ N ≤ y.bn ∧ N ≤ y.bt
  a2 : y.sb < y.B ∧ y.bm < y.B ∧ y.bl < y.B ∧ y.bn < y.B ∧ y.bt < y.B
  a3 : y.sb ≠ y.bm ∧ y.sb ≠ y.bl ∧ y.sb ≠ y.bn ∧ y.sb ≠ y.bt
  a4 : y.bm ≠ y.bl ∧ y.bm ≠ y.bn ∧ y.bm ≠ y.bt ∧ y.bl ≠ y.bn ∧ y.bl ≠ y.bt ∧ y.bn ≠ y.bt

/-- The record's eight fields. -/
def flds (y : Lay) (ga : Option Addr) (G gc : Nat) (c : Int) (pv ov : Value) : Nat → Value
  | 0 => .slice ga G gc
  | 1 => .int .i64 c
  | 2 => .slice (some ⟨y.bm, 0, none⟩) G G
  | 3 => .slice (some ⟨y.bl, 0, none⟩) G G
  | 4 => .slice (some ⟨y.bn, 0, none⟩) G G
  | 5 => pv
  | 6 => ov
  | 7 => .slice (some ⟨y.bt, 0, none⟩) G G
  | _ => undef

structure Sr (w wr : World) (y : Lay) (ga : Option Addr) (G gc : Nat) (s : ScSt) (pv ov : Value) : Prop where
  ok : y.ok w.heap.size
  below : Below w.heap.size w wr
  cells : wr.rowIs y.sb 165 8 (flds y ga G gc s.cnt pv ov)
  met : wr.rowIs y.bm 3 G (fun x => .int .i64 (s.met x))
  low : wr.rowIs y.bl 3 G (fun x => .int .i64 (s.low x))
  nxt : wr.rowIs y.bn 3 G (fun x => .int .i64 (s.nxt x))
  lst : wr.rowIs y.bt 3 G (fun x => .int .i64 (s.lst x))
  pth : wr.ownsRow y.B 3 1 pv s.path.length (vals (ints s.path))
  opn : wr.ownsRow y.B 3 1 ov s.opn.length (vals (ints s.opn))
  apart : ∀ b, pv.ownBlock = some b → ov.ownBlock ≠ some b
  size : y.B ≤ wr.heap.size

section
variable {w wr : World} {y : Lay} {ga : Option Addr} {G gc : Nat} {s : ScSt} {pv ov : Value}

theorem Sr.drewN (h : Sr w wr y ga G gc s pv ov) (q : Nat) : Sr w (wr.drewN q) y ga G gc s pv ov :=
  ⟨h.ok, below_drewN h.below q, h.cells, h.met, h.low, h.nxt, h.lst, h.pth, h.opn, h.apart, h.size⟩

theorem Sr.setCnt (h : Sr w wr y ga G gc s pv ov) (c : Int) : Sr w (wr.setCell ⟨y.sb, 1, none⟩ (.int .i64 c)) y ga G gc { s with cnt := c } pv ov := by
  have o := h.ok
  have a1 := o.a1; have a2 := o.a2; have a3 := o.a3
  refine ⟨o, h.below.setCell a1.1 _, (h.cells.set 1 _).congr (fun i hi => ?_), h.met.setOther a3.1.symm _, h.low.setOther a3.2.1.symm _, h.nxt.setOther a3.2.2.1.symm _, h.lst.setOther a3.2.2.2.symm _,
    ownsRow_setCell_below h.pth a2.1 _, ownsRow_setCell_below h.opn a2.1 _, h.apart, by simpa using h.size⟩
  match i, hi with
  | 0, _ => rfl
  | 1, _ => rfl
  | 2, _ => rfl
  | 3, _ => rfl
  | 4, _ => rfl
  | 5, _ => rfl
  | 6, _ => rfl
  | 7, _ => rfl

theorem row_upd {wr : World} {b G : Nat} {F : Nat → Int} (h : wr.rowIs b 3 G (fun x => .int .i64 (F x))) (x : Nat) (v : Int) : (wr.setCell ⟨b, x, none⟩ (.int .i64 v)).rowIs b 3 G (fun i => .int .i64 (upd F x v i)) :=
  (h.set x _).congr (fun i _ => by by_cases e : i = x <;> simp [upd, e])

theorem Sr.setMet (h : Sr w wr y ga G gc s pv ov) (x : Nat) (v : Int) : Sr w (wr.setCell ⟨y.bm, x, none⟩ (.int .i64 v)) y ga G gc { s with met := upd s.met x v } pv ov := by
  have o := h.ok
  have a1 := o.a1; have a2 := o.a2; have a3 := o.a3; have a4 := o.a4
  exact ⟨o, h.below.setCell a1.2.1 _, h.cells.setOther a3.1 _, row_upd h.met x v, h.low.setOther a4.1.symm _, h.nxt.setOther a4.2.1.symm _, h.lst.setOther a4.2.2.1.symm _,
    ownsRow_setCell_below h.pth a2.2.1 _, ownsRow_setCell_below h.opn a2.2.1 _, h.apart, by simpa using h.size⟩

theorem Sr.setLow (h : Sr w wr y ga G gc s pv ov) (x : Nat) (v : Int) : Sr w (wr.setCell ⟨y.bl, x, none⟩ (.int .i64 v)) y ga G gc { s with low := upd s.low x v } pv ov := by
  have o := h.ok
  have a1 := o.a1; have a2 := o.a2; have a3 := o.a3; have a4 := o.a4
  exact ⟨o, h.below.setCell a1.2.2.1 _, h.cells.setOther a3.2.1 _, h.met.setOther a4.1 _, row_upd h.low x v, h.nxt.setOther a4.2.2.2.1.symm _, h.lst.setOther a4.2.2.2.2.1.symm _,
    ownsRow_setCell_below h.pth a2.2.2.1 _, ownsRow_setCell_below h.opn a2.2.2.1 _, h.apart, by simpa using h.size⟩

theorem Sr.setNxt (h : Sr w wr y ga G gc s pv ov) (x : Nat) (v : Int) : Sr w (wr.setCell ⟨y.bn, x, none⟩ (.int .i64 v)) y ga G gc { s with nxt := upd s.nxt x v } pv ov := by
  have o := h.ok
  have a1 := o.a1; have a2 := o.a2; have a3 := o.a3; have a4 := o.a4
  exact ⟨o, h.below.setCell a1.2.2.2.1 _, h.cells.setOther a3.2.2.1 _, h.met.setOther a4.2.1 _, h.low.setOther a4.2.2.2.1 _, row_upd h.nxt x v, h.lst.setOther a4.2.2.2.2.2.symm _,
    ownsRow_setCell_below h.pth a2.2.2.2.1 _, ownsRow_setCell_below h.opn a2.2.2.2.1 _, h.apart, by simpa using h.size⟩

theorem Sr.setLst (h : Sr w wr y ga G gc s pv ov) (x : Nat) (v : Int) : Sr w (wr.setCell ⟨y.bt, x, none⟩ (.int .i64 v)) y ga G gc { s with lst := upd s.lst x v } pv ov := by
  have o := h.ok
  have a1 := o.a1; have a2 := o.a2; have a3 := o.a3; have a4 := o.a4
  exact ⟨o, h.below.setCell a1.2.2.2.2 _, h.cells.setOther a3.2.2.2 _, h.met.setOther a4.2.2.1 _, h.low.setOther a4.2.2.2.2.1 _, h.nxt.setOther a4.2.2.2.2.2 _, row_upd h.lst x v,
    ownsRow_setCell_below h.pth a2.2.2.2.2 _, ownsRow_setCell_below h.opn a2.2.2.2.2 _, h.apart, by simpa using h.size⟩

/-- A new path's value is stored. -/
theorem Sr.setPath {w1 : World} {pv' : Value} {P : List Nat} (h : Sr w wr y ga G gc s pv ov) (hg : wr.grownBy w1 pv.ownBlock) (hown : w1.ownsRow y.B 3 1 pv' P.length (vals (ints P))) (hloc : pv'.ownBlock = pv.ownBlock ∨ pv'.ownBlock = none ∨ ∃ k, pv'.ownBlock = some k ∧ wr.heap.size ≤ k) :
    w1.cell? ⟨y.sb, 5, none⟩ = some pv ∧ w1.frozen? ⟨y.sb, 5, none⟩ = false ∧ Sr w (w1.setCell ⟨y.sb, 5, none⟩ pv') y ga G gc { s with path := P } pv' ov := by
  have o := h.ok
  have a1 := o.a1; have a2 := o.a2; have a3 := o.a3
  have hlt := h.pth.lt
  have hs := h.size
  have keep : ∀ b, b < y.B → w1.heap[b]? = wr.heap[b]? := fun b hb => hg.block b (by omega) (fun e => by have := hlt _ e.symm; omega)
  have r1 := h.cells.of_block (keep _ a2.1)
  have op1 : w1.ownsRow y.B 3 1 ov s.opn.length (vals (ints s.opn)) := h.opn.kept hg (by
    cases e : ov.ownBlock with
    | none => exact Or.inl rfl
    | some b => exact Or.inr (fun ee => h.apart b ee.symm e))
  refine ⟨r1.cell (by omega), r1.frozen 5, o, ((h.below.grown hg h.below.size (fun k hk => by have := hlt k hk; omega)).setCell a1.1 _), (r1.set 5 _).congr (fun i hi => ?_), (h.met.of_block (keep _ a2.2.1)).setOther a3.1.symm _, (h.low.of_block (keep _ a2.2.2.1)).setOther a3.2.1.symm _,
    (h.nxt.of_block (keep _ a2.2.2.2.1)).setOther a3.2.2.1.symm _, (h.lst.of_block (keep _ a2.2.2.2.2)).setOther a3.2.2.2.symm _, ownsRow_setCell_below hown a2.1 _, ownsRow_setCell_below op1 a2.1 _, fun b hb => ?_, by have := hg.size; simp; omega⟩
  · match i, hi with
    | 0, _ => rfl
    | 1, _ => rfl
    | 2, _ => rfl
    | 3, _ => rfl
    | 4, _ => rfl
    | 5, _ => rfl
    | 6, _ => rfl
    | 7, _ => rfl
  · rcases hloc with e | e | ⟨k, e, hk⟩
    · rw [e] at hb; exact h.apart b hb
    · rw [e] at hb; cases hb
    · rw [e] at hb
      intro hb2
      have := (h.opn.lt b hb2).2
      simp only [Option.some.injEq] at hb
      omega

/-- A new open list's value is stored. -/
theorem Sr.setOpn {w1 : World} {ov' : Value} {O : List Nat} (h : Sr w wr y ga G gc s pv ov) (hg : wr.grownBy w1 ov.ownBlock) (hown : w1.ownsRow y.B 3 1 ov' O.length (vals (ints O))) (hloc : ov'.ownBlock = ov.ownBlock ∨ ov'.ownBlock = none ∨ ∃ k, ov'.ownBlock = some k ∧ wr.heap.size ≤ k) :
    w1.cell? ⟨y.sb, 6, none⟩ = some ov ∧ w1.frozen? ⟨y.sb, 6, none⟩ = false ∧ Sr w (w1.setCell ⟨y.sb, 6, none⟩ ov') y ga G gc { s with opn := O } pv ov' := by
  have o := h.ok
  have a1 := o.a1; have a2 := o.a2; have a3 := o.a3
  have hlt := h.opn.lt
  have hs := h.size
  have keep : ∀ b, b < y.B → w1.heap[b]? = wr.heap[b]? := fun b hb => hg.block b (by omega) (fun e => by have := hlt _ e.symm; omega)
  have r1 := h.cells.of_block (keep _ a2.1)
  have op1 : w1.ownsRow y.B 3 1 pv s.path.length (vals (ints s.path)) := h.pth.kept hg (by
    cases e : pv.ownBlock with
    | none => exact Or.inl rfl
    | some b => exact Or.inr (fun ee => h.apart b e ee.symm))
  refine ⟨r1.cell (by omega), r1.frozen 6, o, ((h.below.grown hg h.below.size (fun k hk => by have := hlt k hk; omega)).setCell a1.1 _), (r1.set 6 _).congr (fun i hi => ?_), (h.met.of_block (keep _ a2.2.1)).setOther a3.1.symm _, (h.low.of_block (keep _ a2.2.2.1)).setOther a3.2.1.symm _,
    (h.nxt.of_block (keep _ a2.2.2.2.1)).setOther a3.2.2.1.symm _, (h.lst.of_block (keep _ a2.2.2.2.2)).setOther a3.2.2.2.symm _, ownsRow_setCell_below op1 a2.1 _, ownsRow_setCell_below hown a2.1 _, fun b hb => ?_, by have := hg.size; simp; omega⟩
  · match i, hi with
    | 0, _ => rfl
    | 1, _ => rfl
    | 2, _ => rfl
    | 3, _ => rfl
    | 4, _ => rfl
    | 5, _ => rfl
    | 6, _ => rfl
    | 7, _ => rfl
  · rcases hloc with e | e | ⟨k, e, hk⟩
    · rw [e]; exact h.apart b hb
    · rw [e]; intro hh; cases hh
    · rw [e]
      intro hb2
      have := (h.pth.lt b hb).2
      simp only [Option.some.injEq] at hb2
      omega

end

theorem own_ints {w : World} {base : Nat} {v : Value} {l : List Nat} (h : w.ownsRow base 3 1 v l.length (vals (ints l))) : ∃ a c, v = .slice a l.length c ∧ Row w a l.length (fun i => ((l.getD i 0 : Nat) : Int)) := by
  have := owns_row (l := ints l) (by rw [ints_len]; exact h)
  rw [ints_len] at this
  obtain ⟨a, c, e, hr⟩ := this
  refine ⟨a, c, e, hr.congr (fun i hi => ?_)⟩
  simp [ints, hi]

/-- Behind an append to the path. -/
theorem Sr.pushPath {w wr w1 : World} {y : Lay} {ga : Option Addr} {G gc : Nat} {s : ScSt} {v ov v' : Value} {o : Obj} {x n : Nat} (h : Sr w wr y ga G gc s v ov) (hn : s.path.length = n) (hown : w1.ownsRow y.B 3 1 v' (n + 1) (vals (ints s.path) ++ [.int .i64 x])) (hgrow : (wr.alloc o).grownBy w1 v.ownBlock) (hloc : v'.ownBlock = v.ownBlock ∨ v'.ownBlock = some (wr.alloc o).heap.size) :
    (∃ a c, v' = .slice a (n + 1) c) ∧ w1.cell? ⟨y.sb, 5, none⟩ = some v ∧ w1.frozen? ⟨y.sb, 5, none⟩ = false ∧ Hid (Sr w (w1.setCell ⟨y.sb, 5, none⟩ v') y ga G gc { s with path := s.path ++ [x] } v' ov) := by
  subst hn
  have hsh : ∃ a c, v' = .slice a (s.path.length + 1) c := by
    rcases hown.2 with ⟨_, h0⟩ | ⟨g, cap, cur, rfl, _⟩
    · omega
    · exact ⟨_, _, rfl⟩
  have hS := h.setPath (P := s.path ++ [x]) ((World.grownBy_alloc _ _ _).trans hgrow) (by rw [ints_snoc, ← vals_snoc]; simpa using hown) (by
    rcases hloc with e | e
    · exact Or.inl e
    · exact Or.inr (Or.inr ⟨_, e, by simp⟩))
  exact ⟨hsh, hS.1, hS.2.1, hS.2.2⟩

/-- Behind an append to the open list. -/
theorem Sr.pushOpn {w wr w1 : World} {y : Lay} {ga : Option Addr} {G gc : Nat} {s : ScSt} {pv v v' : Value} {o : Obj} {x n : Nat} (h : Sr w wr y ga G gc s pv v) (hn : s.opn.length = n) (hown : w1.ownsRow y.B 3 1 v' (n + 1) (vals (ints s.opn) ++ [.int .i64 x])) (hgrow : (wr.alloc o).grownBy w1 v.ownBlock) (hloc : v'.ownBlock = v.ownBlock ∨ v'.ownBlock = some (wr.alloc o).heap.size) :
    (∃ a c, v' = .slice a (n + 1) c) ∧ w1.cell? ⟨y.sb, 6, none⟩ = some v ∧ w1.frozen? ⟨y.sb, 6, none⟩ = false ∧ Hid (Sr w (w1.setCell ⟨y.sb, 6, none⟩ v') y ga G gc { s with opn := s.opn ++ [x] } pv v') := by
  subst hn
  have hsh : ∃ a c, v' = .slice a (s.opn.length + 1) c := by
    rcases hown.2 with ⟨_, h0⟩ | ⟨g, cap, cur, rfl, _⟩
    · omega
    · exact ⟨_, _, rfl⟩
  have hS := h.setOpn (O := s.opn ++ [x]) ((World.grownBy_alloc _ _ _).trans hgrow) (by rw [ints_snoc, ← vals_snoc]; simpa using hown) (by
    rcases hloc with e | e
    · exact Or.inl e
    · exact Or.inr (Or.inr ⟨_, e, by simp⟩))
  exact ⟨hsh, hS.1, hS.2.1, hS.2.2⟩

set_option maxHeartbeats 1000000 in
theorem enter_any (w wr : World) (y : Lay) (ga : Option Addr) (G gc : Nat) (s : ScSt) (pv ov : Value) (x : Nat) (hx : x < G) (hc : 0 ≤ s.cnt ∧ s.cnt ≤ 20000) (hp : s.path.length ≤ 20000) (ho : s.opn.length ≤ 20000) (hS : Sr w wr y ga G gc s pv ov) :
    Calls Try.prog 117 #[.pointer (some ⟨y.sb, 0, none⟩), .int .i64 x] wr fun e w' => e = .returned (.tuple #[]) ∧ ∃ pv' ov', Sr w w' y ga G gc (enterS s x) pv' ov' := by
  obtain ⟨i0, hi, hz0, hz1, hz2⟩ := info_parts Try.info3
  have HI : Hid (Try.prog.info? 3 = some i0 ∧ i0.zero = some (.int .i64 0) ∧ i0.size = 1 ∧ i0.bytes = 8) := ⟨hi, hz0, hz1, hz2⟩
  clear hi hz0 hz1 hz2
  have HS : Hid (Sr w wr y ga G gc s pv ov) := hS
  clear hS
  obtain ⟨hc0, hc1⟩ := hc
  have hxz : (x : Int) < G := by omega
  have f1 : wr.cell? ⟨y.sb, 1, none⟩ = some (.int .i64 s.cnt) := HS.out.cells.cell (i := 1) (by omega)
  have z1 := HS.out.cells.frozen 1
  go_enter Try.func117, Try.ntmps117
  go_wp2
  have S1 := HS.out.setCnt (s.cnt + 1)
  clear f1 z1
  generalize (wr.setCell ⟨y.sb, 1, none⟩ (.int .i64 (s.cnt + 1))) = w1 at *
  have H1 : Hid (Sr w w1 y ga G gc { s with cnt := s.cnt + 1 } pv ov) := S1
  have f1 : w1.cell? ⟨y.sb, 1, none⟩ = some (.int .i64 (s.cnt + 1)) := S1.cells.cell (i := 1) (by omega)
  have f2 : w1.cell? ⟨y.sb, 2, none⟩ = some (.slice (some ⟨y.bm, 0, none⟩) G G) := S1.cells.cell (i := 2) (by omega)
  have c2 := S1.met.cell hx
  have z2 := S1.met.frozen x
  clear S1
  refine wp_region_last 10 _ (by kernel_rfl) (by kernel_rfl) rfl rfl ?_
  simp only [List.take]
  repeat (go_big_quiet_step (fail))
  refine wpQuiet_nil ?_
  intro nq
  go_wp2
  have S2 := (H1.out.drewN nq).setMet x (s.cnt + 1)
  clear f1 f2 c2 z2 H1
  generalize (w1.drewN nq).setCell ⟨y.bm, x, none⟩ (.int .i64 (s.cnt + 1)) = w2 at *
  have H2 : Hid (Sr w w2 y ga G gc { s with cnt := s.cnt + 1, met := upd s.met x (s.cnt + 1) } pv ov) := S2
  have f1 : w2.cell? ⟨y.sb, 1, none⟩ = some (.int .i64 (s.cnt + 1)) := S2.cells.cell (i := 1) (by omega)
  have f2 : w2.cell? ⟨y.sb, 3, none⟩ = some (.slice (some ⟨y.bl, 0, none⟩) G G) := S2.cells.cell (i := 3) (by omega)
  have c2 := S2.low.cell hx
  have z2 := S2.low.frozen x
  clear S2
  refine wp_region_last 10 _ (by kernel_rfl) (by kernel_rfl) rfl rfl ?_
  simp only [List.take]
  repeat (go_big_quiet_step (fail))
  refine wpQuiet_nil ?_
  intro nr
  go_upto_region 3 with fail
  have S3 := (H2.out.drewN nr).setLow x (s.cnt + 1)
  clear f1 f2 c2 z2 H2
  generalize (w2.drewN nr).setCell ⟨y.bl, x, none⟩ (.int .i64 (s.cnt + 1)) = w3 at *
  obtain ⟨pa, pc, rfl, _⟩ := own_ints S3.pth
  have H3 : Hid (Sr w w3 y ga G gc { s with cnt := s.cnt + 1, met := upd s.met x (s.cnt + 1), low := upd s.low x (s.cnt + 1) } (.slice pa s.path.length pc) ov) := S3
  have HO3 : Hid (w3.ownsRow y.B 3 1 (.slice pa s.path.length pc) s.path.length (vals (ints s.path))) := S3.pth
  have HZ3 : Hid (y.B ≤ w3.heap.size) := S3.size
  have f5 : w3.cell? ⟨y.sb, 5, none⟩ = some (.slice pa s.path.length pc) := S3.cells.cell (i := 5) (by omega)
  clear S3 HS
  generalize hn : s.path.length = n at *
  have HN : Hid (s.path.length = n) := hn
  clear hn
  go_upto_region 4 with (at_builtin; refine wpList_append_own_at _ rfl _ _ 26 rfl y.B 3 i0 (.int .i64 0) 1 8 Try.underlying26 HI.out.1 HI.out.2.1 HI.out.2.2.1 HI.out.2.2.2 rfl (by decide) _ _ _ rfl (HO3.out.alloc _) ⟨w3.heap.size, 0, none⟩ 1 1 [.int .i64 x] rfl rfl (cell_one_new _ _ _) (ints_oneCell .i64 [(x : Int)]) (by unfold maxLen; omega) (by omega) (by have := HZ3.out; simp; omega) ?_; intro v' w4 hown' hgrow hnil hloc; obtain ⟨⟨a3, c3, rfl⟩, g1, g2, H4⟩ := Sr.pushPath H3.out HN.out hown' hgrow hloc; clear hown' hgrow hnil hloc)
  clear g1 g2 f5 HO3 HZ3 H3
  have S4 := H4.out
  clear H4
  generalize w4.setCell ⟨y.sb, 5, none⟩ (.slice a3 (n + 1) c3) = w5 at *
  obtain ⟨oa, oc, rfl, _⟩ := own_ints S4.opn
  have H5 : Hid (Sr w w5 y ga G gc { s with cnt := s.cnt + 1, met := upd s.met x (s.cnt + 1), low := upd s.low x (s.cnt + 1), path := s.path ++ [x] } (.slice a3 (n + 1) c3) (.slice oa s.opn.length oc)) := S4
  have HO5 : Hid (w5.ownsRow y.B 3 1 (.slice oa s.opn.length oc) s.opn.length (vals (ints s.opn))) := S4.opn
  have HZ5 : Hid (y.B ≤ w5.heap.size) := S4.size
  have f6 : w5.cell? ⟨y.sb, 6, none⟩ = some (.slice oa s.opn.length oc) := S4.cells.cell (i := 6) (by omega)
  clear S4 HN
  generalize hm : s.opn.length = m at *
  have HM : Hid (s.opn.length = m) := hm
  clear hm
  go_wp2_with (at_builtin; refine wpList_append_own_at _ rfl _ _ 26 rfl y.B 3 i0 (.int .i64 0) 1 8 Try.underlying26 HI.out.1 HI.out.2.1 HI.out.2.2.1 HI.out.2.2.2 rfl (by decide) _ _ _ rfl (HO5.out.alloc _) ⟨w5.heap.size, 0, none⟩ 1 1 [.int .i64 x] rfl rfl (cell_one_new _ _ _) (ints_oneCell .i64 [(x : Int)]) (by unfold maxLen; omega) (by omega) (by have := HZ5.out; simp; omega) ?_; intro v' w6 hown' hgrow hnil hloc; obtain ⟨⟨a4, c4, rfl⟩, g1, g2, H6⟩ := Sr.pushOpn H5.out HM.out hown' hgrow hloc; clear hown' hgrow hnil hloc)
  go_end0
  exact ⟨rfl, _, _, H6.out⟩

end Go.Proofs.Ythpbgfodejoecaa
