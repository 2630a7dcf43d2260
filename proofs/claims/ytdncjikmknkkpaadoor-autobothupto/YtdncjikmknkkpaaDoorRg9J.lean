/- Both: its three tables, made in whatever order. Both: its pairs, gathered, in whatever order. -/
import Derived.Test.YtdncjikmknkkpaaDoorBth
namespace Go.Proofs.YtdncjikmknkkpaaDoor
open Go.RowKit Go.Shelf Go.Maps

/-- The rows of a table. -/
def Rwt (A : Ax) (nb : Nat) (V : Nat → Value) (z : World) : Prop := ∀ x, x < A.G → z.cell? ⟨nb, x, none⟩ = some (V x) ∧ z.ownsRow 0 3 1 (V x) (cs (aNx A x)).length (vals (cs (aNx A x)))
theorem Rwt.below {A : Ax} {nb : Nat} {V : Nat → Value} {z z' : World} (h : Rwt A nb V z) (hb : Below z.heap.size z z') : Rwt A nb V z' := fun x hx => ⟨below_cell hb (Nat.le_refl _) (h x hx).1, owns_below (h x hx).2 hb⟩
/-- What is so far there: c of the three tables, and the variables that are. -/
structure Q9 (w0 : World) (A B : Ax) (wb nb mb : Nat) (V U : Nat → Value) (c b8 b9 b10 : Nat) (x8 x9 x10 : Bool) (z : World) : Prop where
  low : Below w0.heap.size w0 z
  p1 : 1 ≤ c → Ls z wb A.G (fun x => pwS (okB A B) x B.G) ∧ w0.heap.size ≤ wb ∧ wb < z.heap.size
  p2 : 2 ≤ c → Rwt A nb V z ∧ w0.heap.size ≤ nb ∧ nb < z.heap.size
  p3 : 3 ≤ c → Rwt B mb U z ∧ w0.heap.size ≤ mb ∧ mb < z.heap.size
  a8 : x8 = true → z.heap[b8]? = some (.cells #[.slice none 0 0] 47) ∧ w0.heap.size ≤ b8 ∧ (1 ≤ c → b8 ≠ wb) ∧ (2 ≤ c → b8 ≠ nb) ∧ (3 ≤ c → b8 ≠ mb)
  a9 : x9 = true → z.heap[b9]? = some (.cells #[.slice none 0 0] 23) ∧ w0.heap.size ≤ b9 ∧ (1 ≤ c → b9 ≠ wb) ∧ (2 ≤ c → b9 ≠ nb) ∧ (3 ≤ c → b9 ≠ mb)
  a10 : x10 = true → z.heap[b10]? = some (.cells #[.slice none 0 0] 23) ∧ w0.heap.size ≤ b10 ∧ (1 ≤ c → b10 ≠ wb) ∧ (2 ≤ c → b10 ≠ nb) ∧ (3 ≤ c → b10 ≠ mb)
  ne : x9 = true → x10 = true → b9 ≠ b10

theorem q9_old {z z' : World} (hb : Below z.heap.size z z') {b : Nat} {o : Obj} (h : z.heap[b]? = some o) : z'.heap[b]? = some o ∧ b < z.heap.size := ⟨(hb.block b (Array.getElem?_eq_some_iff.1 h).1).trans h, (Array.getElem?_eq_some_iff.1 h).1⟩

section
variable {w0 : World} {A B : Ax} {wb nb mb : Nat} {V U : Nat → Value} {b8 b9 b10 : Nat} {x8 x9 x10 : Bool} {z z' : World}
theorem Q9.c1 (h : Q9 w0 A B wb nb mb V U 0 b8 b9 b10 x8 x9 x10 z) {wb' : Nat} (hb : Below z.heap.size z z') (h1 : Ls z' wb' A.G (fun x => pwS (okB A B) x B.G)) (h2 : z.heap.size ≤ wb') (h3 : wb' < z'.heap.size) : Q9 w0 A B wb' nb mb V U 1 b8 b9 b10 x8 x9 x10 z' := by
  have hs := h.low.size
  refine ⟨h.low.trans (hb.mono hs), fun _ => ⟨h1, by omega, h3⟩, fun h => by omega, fun h => by omega, fun hx => ?_, fun hx => ?_, fun hx => ?_, h.ne⟩
  · obtain ⟨g1, g2, _⟩ := h.a8 hx
    have := q9_old hb g1
    exact ⟨this.1, g2, fun _ => by omega, fun h => by omega, fun h => by omega⟩
  · obtain ⟨g1, g2, _⟩ := h.a9 hx
    have := q9_old hb g1
    exact ⟨this.1, g2, fun _ => by omega, fun h => by omega, fun h => by omega⟩
  · obtain ⟨g1, g2, _⟩ := h.a10 hx
    have := q9_old hb g1
    exact ⟨this.1, g2, fun _ => by omega, fun h => by omega, fun h => by omega⟩
theorem Q9.c2 (h : Q9 w0 A B wb nb mb V U 1 b8 b9 b10 x8 x9 x10 z) {nb' : Nat} {V' : Nat → Value} (hb : Below z.heap.size z z') (h1 : Rwt A nb' V' z') (h2 : z.heap.size ≤ nb') (h3 : nb' < z'.heap.size) : Q9 w0 A B wb nb' mb V' U 2 b8 b9 b10 x8 x9 x10 z' := by
  have hs := h.low.size
  have hz := hb.size
  obtain ⟨p1, p2, p3⟩ := h.p1 (Nat.le_refl _)
  refine ⟨h.low.trans (hb.mono hs), fun _ => ⟨p1.below' hb, p2, by omega⟩, fun _ => ⟨h1, by omega, h3⟩, fun h => by omega, fun hx => ?_, fun hx => ?_, fun hx => ?_, h.ne⟩
  · obtain ⟨g1, g2, g3, _⟩ := h.a8 hx
    have := q9_old hb g1
    exact ⟨this.1, g2, fun _ => g3 (by omega), fun h => by omega, fun h => by omega⟩
  · obtain ⟨g1, g2, g3, _⟩ := h.a9 hx
    have := q9_old hb g1
    exact ⟨this.1, g2, fun _ => g3 (by omega), fun h => by omega, fun h => by omega⟩
  · obtain ⟨g1, g2, g3, _⟩ := h.a10 hx
    have := q9_old hb g1
    exact ⟨this.1, g2, fun _ => g3 (by omega), fun h => by omega, fun h => by omega⟩
theorem Q9.c3 (h : Q9 w0 A B wb nb mb V U 2 b8 b9 b10 x8 x9 x10 z) {mb' : Nat} {U' : Nat → Value} (hb : Below z.heap.size z z') (h1 : Rwt B mb' U' z') (h2 : z.heap.size ≤ mb') (h3 : mb' < z'.heap.size) : Q9 w0 A B wb nb mb' V U' 3 b8 b9 b10 x8 x9 x10 z' := by
  have hs := h.low.size
  have hz := hb.size
  obtain ⟨p1, p2, p3⟩ := h.p1 (by omega)
  obtain ⟨r1, r2, r3⟩ := h.p2 (by omega)
  refine ⟨h.low.trans (hb.mono hs), fun _ => ⟨p1.below' hb, p2, by omega⟩, fun _ => ⟨r1.below hb, r2, by omega⟩, fun _ => ⟨h1, by omega, h3⟩, fun hx => ?_, fun hx => ?_, fun hx => ?_, h.ne⟩
  · obtain ⟨g1, g2, g3, g4, _⟩ := h.a8 hx
    have := q9_old hb g1
    exact ⟨this.1, g2, fun _ => g3 (by omega), fun _ => g4 (by omega), fun h => by omega⟩
  · obtain ⟨g1, g2, g3, g4, _⟩ := h.a9 hx
    have := q9_old hb g1
    exact ⟨this.1, g2, fun _ => g3 (by omega), fun _ => g4 (by omega), fun h => by omega⟩
  · obtain ⟨g1, g2, g3, g4, _⟩ := h.a10 hx
    have := q9_old hb g1
    exact ⟨this.1, g2, fun _ => g3 (by omega), fun _ => g4 (by omega), fun h => by omega⟩
theorem Q9.n8 {c : Nat} (h : Q9 w0 A B wb nb mb V U c b8 b9 b10 false x9 x10 z) : Q9 w0 A B wb nb mb V U c z.heap.size b9 b10 true x9 x10 (z.alloc (.cells #[.slice none 0 0] 47)) := by
  have hb := box_below z (.cells #[.slice none 0 0] 47)
  have hn : (z.alloc (.cells #[.slice none 0 0] 47)).heap[z.heap.size]? = some (.cells #[.slice none 0 0] 47) := Go.Deep.blk_alloc_new _ _
  have hz := hb.size
  have hs := h.low.size
  exact ⟨h.low.trans (hb.mono hs), fun hc => ⟨(h.p1 hc).1.below' hb, (h.p1 hc).2.1, Nat.lt_of_lt_of_le (h.p1 hc).2.2 hz⟩, fun hc => ⟨(h.p2 hc).1.below hb, (h.p2 hc).2.1, Nat.lt_of_lt_of_le (h.p2 hc).2.2 hz⟩, fun hc => ⟨(h.p3 hc).1.below hb, (h.p3 hc).2.1, Nat.lt_of_lt_of_le (h.p3 hc).2.2 hz⟩, fun _ => ⟨hn, hs, fun hc => by have := (h.p1 hc).2.2; omega, fun hc => by have := (h.p2 hc).2.2; omega, fun hc => by have := (h.p3 hc).2.2; omega⟩, fun hx => ⟨(q9_old hb (h.a9 hx).1).1, (h.a9 hx).2⟩, fun hx => ⟨(q9_old hb (h.a10 hx).1).1, (h.a10 hx).2⟩, h.ne⟩
theorem Q9.n9 {c : Nat} (h : Q9 w0 A B wb nb mb V U c b8 b9 b10 x8 false x10 z) : Q9 w0 A B wb nb mb V U c b8 z.heap.size b10 x8 true x10 (z.alloc (.cells #[.slice none 0 0] 23)) := by
  have hb := box_below z (.cells #[.slice none 0 0] 23)
  have hn : (z.alloc (.cells #[.slice none 0 0] 23)).heap[z.heap.size]? = some (.cells #[.slice none 0 0] 23) := Go.Deep.blk_alloc_new _ _
  have hz := hb.size
  have hs := h.low.size
  exact ⟨h.low.trans (hb.mono hs), fun hc => ⟨(h.p1 hc).1.below' hb, (h.p1 hc).2.1, Nat.lt_of_lt_of_le (h.p1 hc).2.2 hz⟩, fun hc => ⟨(h.p2 hc).1.below hb, (h.p2 hc).2.1, Nat.lt_of_lt_of_le (h.p2 hc).2.2 hz⟩, fun hc => ⟨(h.p3 hc).1.below hb, (h.p3 hc).2.1, Nat.lt_of_lt_of_le (h.p3 hc).2.2 hz⟩, fun hx => ⟨(q9_old hb (h.a8 hx).1).1, (h.a8 hx).2⟩, fun _ => ⟨hn, hs, fun hc => by have := (h.p1 hc).2.2; omega, fun hc => by have := (h.p2 hc).2.2; omega, fun hc => by have := (h.p3 hc).2.2; omega⟩, fun hx => ⟨(q9_old hb (h.a10 hx).1).1, (h.a10 hx).2⟩, fun _ hx => by have := (q9_old hb (h.a10 hx).1).2; omega⟩
theorem Q9.n10 {c : Nat} (h : Q9 w0 A B wb nb mb V U c b8 b9 b10 x8 x9 false z) : Q9 w0 A B wb nb mb V U c b8 b9 z.heap.size x8 x9 true (z.alloc (.cells #[.slice none 0 0] 23)) := by
  have hb := box_below z (.cells #[.slice none 0 0] 23)
  have hn : (z.alloc (.cells #[.slice none 0 0] 23)).heap[z.heap.size]? = some (.cells #[.slice none 0 0] 23) := Go.Deep.blk_alloc_new _ _
  have hz := hb.size
  have hs := h.low.size
  exact ⟨h.low.trans (hb.mono hs), fun hc => ⟨(h.p1 hc).1.below' hb, (h.p1 hc).2.1, Nat.lt_of_lt_of_le (h.p1 hc).2.2 hz⟩, fun hc => ⟨(h.p2 hc).1.below hb, (h.p2 hc).2.1, Nat.lt_of_lt_of_le (h.p2 hc).2.2 hz⟩, fun hc => ⟨(h.p3 hc).1.below hb, (h.p3 hc).2.1, Nat.lt_of_lt_of_le (h.p3 hc).2.2 hz⟩, fun hx => ⟨(q9_old hb (h.a8 hx).1).1, (h.a8 hx).2⟩, fun hx => ⟨(q9_old hb (h.a9 hx).1).1, (h.a9 hx).2⟩, fun _ => ⟨hn, hs, fun hc => by have := (h.p1 hc).2.2; omega, fun hc => by have := (h.p2 hc).2.2; omega, fun hc => by have := (h.p3 hc).2.2; omega⟩, fun hx _ => by have := (q9_old hb (h.a9 hx).1).2; omega⟩
end

/-- A variable is stored into: the rest stays. -/
theorem rw_set {A : Ax} {nb b t : Nat} {V : Nat → Value} {z : World} {v v0 : Value} (h : Rwt A nb V z) (hb : z.heap[b]? = some (.cells #[v0] t)) (ht : t ≠ 3) (hn : b ≠ nb) : Rwt A nb V (z.setCell ⟨b, 0, none⟩ v) := fun x hx => by
  have hbut : But b z (z.setCell ⟨b, 0, none⟩ v) := (But.refl _ _).setCell 0 _
  refine ⟨hbut.cell (fun e => hn e.symm) (h x hx).1, owns_of_blk (h x hx).2 (fun g e => ?_)⟩
  obtain ⟨c, q, h3⟩ := owns_blk (h x hx).2 e
  exact hbut.block g (Array.getElem?_eq_some_iff.1 h3).1 (fun e2 => by
    rw [e2, hb] at h3
    cases h3
    exact ht rfl)
theorem blk_other {z : World} {b c : Nat} {v : Value} {o : Obj} (h : z.heap[c]? = some o) (hne : c ≠ b) : (z.setCell ⟨b, 0, none⟩ v).heap[c]? = some o := (((But.refl b z).setCell 0 v).block c (Array.getElem?_eq_some_iff.1 h).1 hne).trans h
theorem blk_self {z : World} {b t : Nat} {v v0 : Value} (h : z.heap[b]? = some (.cells #[v0] t)) : (z.setCell ⟨b, 0, none⟩ v).heap[b]? = some (.cells #[v] t) := by
  have e := blk_setCell (i := 0) (v := v) h
  simpa using e
theorem one_cell {z : World} {b t : Nat} {v0 : Value} (h : z.heap[b]? = some (.cells #[v0] t)) : z.cell? ⟨b, 0, none⟩ = some v0 ∧ z.frozen? ⟨b, 0, none⟩ = false := ⟨cell_of_cells h rfl, by simp [World.frozen?, h]⟩

theorem q9_fin {w0 : World} {A B : Ax} {wb nb mb : Nat} {V U : Nat → Value} {b8 b9 b10 : Nat} {z : World} (h : Q9 w0 A B wb nb mb V U 3 b8 b9 b10 true true true z) (hT : Tb w0) (hA : chkA A = 0) (hB : chkA B = 0) :
    ∃ z1 z2 z3, z.setCell ⟨b8, 0, none⟩ (.slice (some ⟨wb, 0, none⟩) A.G A.G) = z1 ∧ z1.setCell ⟨b9, 0, none⟩ (.slice (some ⟨nb, 0, none⟩) A.G A.G) = z2 ∧ z2.setCell ⟨b10, 0, none⟩ (.slice (some ⟨mb, 0, none⟩) B.G B.G) = z3 ∧
      (z.cell? ⟨b8, 0, none⟩ = some (.slice none 0 0) ∧ z.frozen? ⟨b8, 0, none⟩ = false) ∧ (z1.cell? ⟨b9, 0, none⟩ = some (.slice none 0 0) ∧ z1.frozen? ⟨b9, 0, none⟩ = false) ∧ (z2.cell? ⟨b10, 0, none⟩ = some (.slice none 0 0) ∧ z2.frozen? ⟨b10, 0, none⟩ = false) ∧
      Below w0.heap.size w0 z1 ∧ Below w0.heap.size w0 z2 ∧ Below w0.heap.size w0 z3 ∧ Hid (Bgm A B b9 b10 b8 wb nb mb V U z3) := by
  obtain ⟨p1, p2, p3⟩ := h.p1 (by omega)
  obtain ⟨r1, r2, r3⟩ := h.p2 (by omega)
  obtain ⟨s1, s2, s3⟩ := h.p3 (by omega)
  obtain ⟨g1, g2, g3, g4, g5⟩ := h.a8 rfl
  obtain ⟨k1, k2, k3, k4, k5⟩ := h.a9 rfl
  obtain ⟨l1, l2, l3, l4, l5⟩ := h.a10 rfl
  have hne := h.ne rfl rfl
  have n89 : b8 ≠ b9 := fun e => by rw [e, k1] at g1; cases g1
  have n810 : b8 ≠ b10 := fun e => by rw [e, l1] at g1; cases g1
  have hlow := h.low
  have e1 := blk_self (v := .slice (some ⟨wb, 0, none⟩) A.G A.G) g1
  have e2 := blk_other (b := b8) (v := .slice (some ⟨wb, 0, none⟩) A.G A.G) k1 (Ne.symm n89)
  have e3 := blk_other (b := b8) (v := .slice (some ⟨wb, 0, none⟩) A.G A.G) l1 (Ne.symm n810)
  have e4 := rw_set (v := .slice (some ⟨wb, 0, none⟩) A.G A.G) r1 g1 (by decide) (g4 (by omega))
  have e5 := rw_set (v := .slice (some ⟨wb, 0, none⟩) A.G A.G) s1 g1 (by decide) (g5 (by omega))
  have e6 := p1.but ((But.refl b8 z).setCell 0 (.slice (some ⟨wb, 0, none⟩) A.G A.G)) (fun e => g3 (by omega) e.symm)
  have e7 : Below w0.heap.size w0 (z.setCell ⟨b8, 0, none⟩ (.slice (some ⟨wb, 0, none⟩) A.G A.G)) := hlow.setCell g2 _
  refine ⟨_, _, _, rfl, rfl, rfl, one_cell g1, ?_⟩
  generalize z.setCell ⟨b8, 0, none⟩ (.slice (some ⟨wb, 0, none⟩) A.G A.G) = z1 at *
  have f1 := blk_other (b := b9) (v := .slice (some ⟨nb, 0, none⟩) A.G A.G) e1 n89
  have f2 := blk_self (v := .slice (some ⟨nb, 0, none⟩) A.G A.G) e2
  have f3 := blk_other (b := b9) (v := .slice (some ⟨nb, 0, none⟩) A.G A.G) e3 (Ne.symm hne)
  have f4 := rw_set (v := .slice (some ⟨nb, 0, none⟩) A.G A.G) e4 e2 (by decide) (k4 (by omega))
  have f5 := rw_set (v := .slice (some ⟨nb, 0, none⟩) A.G A.G) e5 e2 (by decide) (k5 (by omega))
  have f6 := e6.but ((But.refl b9 z1).setCell 0 (.slice (some ⟨nb, 0, none⟩) A.G A.G)) (fun e => k3 (by omega) e.symm)
  have f7 : Below w0.heap.size w0 (z1.setCell ⟨b9, 0, none⟩ (.slice (some ⟨nb, 0, none⟩) A.G A.G)) := e7.setCell k2 _
  refine ⟨one_cell e2, ?_⟩
  generalize z1.setCell ⟨b9, 0, none⟩ (.slice (some ⟨nb, 0, none⟩) A.G A.G) = z2 at *
  have d1 := blk_other (b := b10) (v := .slice (some ⟨mb, 0, none⟩) B.G B.G) f1 n810
  have d2 := blk_other (b := b10) (v := .slice (some ⟨mb, 0, none⟩) B.G B.G) f2 hne
  have d3 := blk_self (v := .slice (some ⟨mb, 0, none⟩) B.G B.G) f3
  have d4 := rw_set (v := .slice (some ⟨mb, 0, none⟩) B.G B.G) f4 f3 (by decide) (l4 (by omega))
  have d5 := rw_set (v := .slice (some ⟨mb, 0, none⟩) B.G B.G) f5 f3 (by decide) (l5 (by omega))
  have d6 := f6.but ((But.refl b10 z2).setCell 0 (.slice (some ⟨mb, 0, none⟩) B.G B.G)) (fun e => l3 (by omega) e.symm)
  have d7 : Below w0.heap.size w0 (z2.setCell ⟨b10, 0, none⟩ (.slice (some ⟨mb, 0, none⟩) B.G B.G)) := f7.setCell l2 _
  exact ⟨one_cell f3, e7, f7, d7, hid ⟨(one_cell d2).1, (one_cell d3).1, (one_cell d1).1, d6, d4, d5, fun j hj => below_cell d7 (Nat.le_refl _) (hT j hj), hA, hB⟩⟩

def ops9 (q0 q1 q2 q3 q4 q5 q6 q7 q8 q9 q10 q11 q12 q13 q14 : String) : Array Oper := #[{ dst := some 41, op := Op.load 26 (Operand.tmp 2), type := 26, pos := q0, after := #[], guard := none },
  { dst := some 42, op := Op.load 26 (Operand.tmp 3), type := 26, pos := q1, after := #[], guard := none },
  { dst := some 43, op := Op.call { callee := Callee.value (Operand.func 37), args := #[Operand.tmp 41, Operand.tmp 42], argTypes := #[26, 26] }, type := 47, pos := q2, after := #[{ on := 0, ground := Ground.data }, { on := 1, ground := Ground.data }], guard := none },
  { dst := some 44, op := Op.fieldAddr 26 (Operand.tmp 2) 1, type := 0, pos := q3, after := #[], guard := none },
  { dst := some 45, op := Op.load 23 (Operand.tmp 44), type := 23, pos := q4, after := #[{ on := 3, ground := Ground.data }], guard := none },
  { dst := some 46, op := Op.call { callee := Callee.value (Operand.func 38), args := #[Operand.tmp 45], argTypes := #[23] }, type := 23, pos := q5, after := #[{ on := 4, ground := Ground.data }, { on := 2, ground := Ground.chain }], guard := none },
  { dst := some 47, op := Op.fieldAddr 26 (Operand.tmp 3) 1, type := 0, pos := q6, after := #[], guard := none },
  { dst := some 48, op := Op.load 23 (Operand.tmp 47), type := 23, pos := q7, after := #[{ on := 6, ground := Ground.data }], guard := none },
  { dst := some 49, op := Op.call { callee := Callee.value (Operand.func 38), args := #[Operand.tmp 48], argTypes := #[23] }, type := 23, pos := q8, after := #[{ on := 7, ground := Ground.data }, { on := 5, ground := Ground.chain }], guard := none },
  { dst := some 8, op := Op.alloc 47, type := 0, pos := q9, after := #[], guard := none },
  { dst := some 9, op := Op.alloc 23, type := 0, pos := q10, after := #[], guard := none },
  { dst := some 10, op := Op.alloc 23, type := 0, pos := q11, after := #[], guard := none },
  { dst := none, op := Op.store 47 (Operand.tmp 8) (Operand.tmp 43), type := 0, pos := q12, after := #[{ on := 9, ground := Ground.data }, { on := 2, ground := Ground.data }, { on := 8, ground := Ground.chain }, { on := 0, ground := Ground.phase }, { on := 1, ground := Ground.phase }, { on := 2, ground := Ground.phase }, { on := 3, ground := Ground.textOnly Departure.lateStores }, { on := 4, ground := Ground.textOnly Departure.lateStores }, { on := 5, ground := Ground.textOnly Departure.lateStoresUnsure }, { on := 6, ground := Ground.textOnly Departure.lateStores }, { on := 7, ground := Ground.textOnly Departure.lateStores }, { on := 8, ground := Ground.textOnly Departure.lateStoresUnsure }, { on := 9, ground := Ground.phase }, { on := 10, ground := Ground.phase }, { on := 11, ground := Ground.phase }], guard := none },
  { dst := none, op := Op.store 23 (Operand.tmp 9) (Operand.tmp 46), type := 0, pos := q13, after := #[{ on := 10, ground := Ground.data }, { on := 5, ground := Ground.data }, { on := 12, ground := Ground.chain }, { on := 0, ground := Ground.phase }, { on := 1, ground := Ground.phase }, { on := 2, ground := Ground.phase }, { on := 3, ground := Ground.phase }, { on := 4, ground := Ground.phase }, { on := 5, ground := Ground.phase }, { on := 6, ground := Ground.textOnly Departure.lateStores }, { on := 7, ground := Ground.textOnly Departure.lateStores }, { on := 8, ground := Ground.textOnly Departure.lateStoresUnsure }, { on := 9, ground := Ground.phase }, { on := 10, ground := Ground.phase }, { on := 11, ground := Ground.phase }, { on := 12, ground := Ground.phase }], guard := none },
  { dst := none, op := Op.store 23 (Operand.tmp 10) (Operand.tmp 49), type := 0, pos := q14, after := #[{ on := 11, ground := Ground.data }, { on := 8, ground := Ground.data }, { on := 13, ground := Ground.chain }, { on := 0, ground := Ground.phase }, { on := 1, ground := Ground.phase }, { on := 2, ground := Ground.phase }, { on := 3, ground := Ground.phase }, { on := 4, ground := Ground.phase }, { on := 5, ground := Ground.phase }, { on := 6, ground := Ground.phase }, { on := 7, ground := Ground.phase }, { on := 8, ground := Ground.phase }, { on := 9, ground := Ground.phase }, { on := 10, ground := Ground.phase }, { on := 11, ground := Ground.phase }, { on := 12, ground := Ground.phase }, { on := 13, ground := Ground.phase }], guard := none }]

set_option maxRecDepth 100000 in
set_option maxHeartbeats 16000000 in
theorem reg9 {Q : Exit → Act → World → Prop} (A B : Ax) (b2 b3 : Nat) (t0 t1 t4 t5 t6 t7 t8 t9 t10 t11 t12 t13 t14 t15 t16 t17 t18 t19 t20 t21 t22 t23 t24 t25 t26 t27 t28 t29 t30 t31 t32 t33 t34 t35 t36 t37 t38 t39 t40 t41 t42 t43 t44 t45 t46 t47 t48 t49 t50 t51 t52 t53 t54 t55 t56 t57 t58 t59 t60 t61 t62 t63 t64 t65 t66 t67 t68 t69 t70 t71 t72 t73 t74 t75 t76 t77 t78 t79 t80 t81 t82 t83 t84 t85 t86 t87 t88 t89 t90 t91 t92 t93 t94 t95 t96 t97 t98 t99 t100 t101 t102 t103 t104 t105 t106 t107 t108 t109 t110 t111 t112 t113 t114 t115 t116 t117 t118 t119 t120 t121 t122 t123 t124 t125 t126 t127 t128 t129 t130 t131 t132 t133 t134 t135 t136 t137 t138 t139 t140 t141 t142 t143 t144 t145 : Value) (q0 q1 q2 q3 q4 q5 q6 q7 q8 q9 q10 q11 q12 q13 q14 : String) (w0 : World) (hQp : ∀ c (a : Act) (t : Nat) v w, Q (.panic c) (a.put (some t) v) w → Q (.panic c) a w) (hA : Aw w0 A) (hB : Aw w0 B) (hA0 : chkA A = 0) (hB0 : chkA B = 0) (hT : Tb w0) (hboA : Bo w0 b2 A) (hboB : Bo w0 b3 B)
    (hfin : ∀ (b8 b9 b10 wb nb mb : Nat) (V U : Nat → Value) (z : World), Below w0.heap.size w0 z → Bgm A B b9 b10 b8 wb nb mb V U z → w0.heap.size ≤ b8 ∧ w0.heap.size ≤ b9 ∧ w0.heap.size ≤ b10 → Q .normal { tmps := #[t0, t1, (.pointer (some ⟨b2, 0, none⟩)), (.pointer (some ⟨b3, 0, none⟩)), t4, t5, t6, t7, (.pointer (some ⟨b8, 0, none⟩)), (.pointer (some ⟨b9, 0, none⟩)), (.pointer (some ⟨b10, 0, none⟩)), t11, t12, t13, t14, t15, t16, t17, t18, t19, t20, t21, t22, t23, t24, t25, t26, t27, t28, t29, t30, t31, t32, t33, t34, t35, t36, t37, t38, t39, t40, (.agg #[.slice A.sa A.sn A.sc, .slice A.na A.G A.nc, .slice A.ma A.M A.mc, .slice A.oa A.O A.oc, .slice A.fa A.K A.fc]), (.agg #[.slice B.sa B.sn B.sc, .slice B.na B.G B.nc, .slice B.ma B.M B.mc, .slice B.oa B.O B.oc, .slice B.fa B.K B.fc]), (.slice (some ⟨wb, 0, none⟩) A.G A.G), (.pointer (some ⟨b2, 1, none⟩)), (.slice A.na A.G A.nc), (.slice (some ⟨nb, 0, none⟩) A.G A.G), (.pointer (some ⟨b3, 1, none⟩)), (.slice B.na B.G B.nc), (.slice (some ⟨mb, 0, none⟩) B.G B.G), t50, t51, t52, t53, t54, t55, t56, t57, t58, t59, t60, t61, t62, t63, t64, t65, t66, t67, t68, t69, t70, t71, t72, t73, t74, t75, t76, t77, t78, t79, t80, t81, t82, t83, t84, t85, t86, t87, t88, t89, t90, t91, t92, t93, t94, t95, t96, t97, t98, t99, t100, t101, t102, t103, t104, t105, t106, t107, t108, t109, t110, t111, t112, t113, t114, t115, t116, t117, t118, t119, t120, t121, t122, t123, t124, t125, t126, t127, t128, t129, t130, t131, t132, t133, t134, t135, t136, t137, t138, t139, t140, t141, t142, t143, t144, t145], defers := [] } z) :
    wpAnyG Tryd.prog .any (ops9 q0 q1 q2 q3 q4 q5 q6 q7 q8 q9 q10 q11 q12 q13 q14) Q (fun z : World => z.cell? ⟨b2, 0, none⟩ = some (.slice A.sa A.sn A.sc) ∧ z.cell? ⟨b2, 1, none⟩ = some (.slice A.na A.G A.nc) ∧ z.cell? ⟨b2, 2, none⟩ = some (.slice A.ma A.M A.mc) ∧ z.cell? ⟨b2, 3, none⟩ = some (.slice A.oa A.O A.oc) ∧ z.cell? ⟨b2, 4, none⟩ = some (.slice A.fa A.K A.fc) ∧ z.cell? ⟨b3, 0, none⟩ = some (.slice B.sa B.sn B.sc) ∧ z.cell? ⟨b3, 1, none⟩ = some (.slice B.na B.G B.nc) ∧ z.cell? ⟨b3, 2, none⟩ = some (.slice B.ma B.M B.mc) ∧ z.cell? ⟨b3, 3, none⟩ = some (.slice B.oa B.O B.oc) ∧ z.cell? ⟨b3, 4, none⟩ = some (.slice B.fa B.K B.fc)) (fun _ => false) 15 (Array.replicate 15 false) { tmps := #[t0, t1, (.pointer (some ⟨b2, 0, none⟩)), (.pointer (some ⟨b3, 0, none⟩)), t4, t5, t6, t7, t8, t9, t10, t11, t12, t13, t14, t15, t16, t17, t18, t19, t20, t21, t22, t23, t24, t25, t26, t27, t28, t29, t30, t31, t32, t33, t34, t35, t36, t37, t38, t39, t40, t41, t42, t43, t44, t45, t46, t47, t48, t49, t50, t51, t52, t53, t54, t55, t56, t57, t58, t59, t60, t61, t62, t63, t64, t65, t66, t67, t68, t69, t70, t71, t72, t73, t74, t75, t76, t77, t78, t79, t80, t81, t82, t83, t84, t85, t86, t87, t88, t89, t90, t91, t92, t93, t94, t95, t96, t97, t98, t99, t100, t101, t102, t103, t104, t105, t106, t107, t108, t109, t110, t111, t112, t113, t114, t115, t116, t117, t118, t119, t120, t121, t122, t123, t124, t125, t126, t127, t128, t129, t130, t131, t132, t133, t134, t135, t136, t137, t138, t139, t140, t141, t142, t143, t144, t145], defers := [] } w0 := by
  have HS : Hid (∀ z, Below w0.heap.size w0 z → (fun z : World => z.cell? ⟨b2, 0, none⟩ = some (.slice A.sa A.sn A.sc) ∧ z.cell? ⟨b2, 1, none⟩ = some (.slice A.na A.G A.nc) ∧ z.cell? ⟨b2, 2, none⟩ = some (.slice A.ma A.M A.mc) ∧ z.cell? ⟨b2, 3, none⟩ = some (.slice A.oa A.O A.oc) ∧ z.cell? ⟨b2, 4, none⟩ = some (.slice A.fa A.K A.fc) ∧ z.cell? ⟨b3, 0, none⟩ = some (.slice B.sa B.sn B.sc) ∧ z.cell? ⟨b3, 1, none⟩ = some (.slice B.na B.G B.nc) ∧ z.cell? ⟨b3, 2, none⟩ = some (.slice B.ma B.M B.mc) ∧ z.cell? ⟨b3, 3, none⟩ = some (.slice B.oa B.O B.oc) ∧ z.cell? ⟨b3, 4, none⟩ = some (.slice B.fa B.K B.fc)) z) := hid (fun z hz => ⟨(hboA.below hz).r0, (hboA.below hz).r1, (hboA.below hz).r2, (hboA.below hz).r3, (hboA.below hz).r4, (hboB.below hz).r0, (hboB.below hz).r1, (hboB.below hz).r2, (hboB.below hz).r3, (hboB.below hz).r4⟩)
  have C37 : Hid (∀ z, Below w0.heap.size w0 z → Calls Tryd.prog 37 #[.agg #[.slice A.sa A.sn A.sc, .slice A.na A.G A.nc, .slice A.ma A.M A.mc, .slice A.oa A.O A.oc, .slice A.fa A.K A.fc], .agg #[.slice B.sa B.sn B.sc, .slice B.na B.G B.nc, .slice B.ma B.M B.mc, .slice B.oa B.O B.oc, .slice B.fa B.K B.fc]] z fun e w' => e = .returned (.slice (some ⟨z.heap.size + 2, 0, none⟩) A.G A.G) ∧ Hid (Ls w' (z.heap.size + 2) A.G (fun x => pwS (okB A B) x B.G) ∧ Below z.heap.size z w' ∧ z.heap.size + 2 < w'.heap.size)) := hid (fun z hz => partners_any A B z (hA.below hz) (hB.below hz) hA0 hB0)
  have C38 : ∀ (D : Ax), Aw w0 D → chkA D = 0 → Hid (∀ z, Below w0.heap.size w0 z → Calls Tryd.prog 38 #[.slice D.na D.G D.nc] z fun e w' => e = .returned (.slice (some ⟨z.heap.size, 0, none⟩) D.G D.G) ∧ ∃ V, Hid (Rwt D z.heap.size V w' ∧ Below z.heap.size z w' ∧ z.heap.size < w'.heap.size)) := fun D hD hD0 => hid (fun z hz => by
    obtain ⟨hG, _, _, _, _, hZ, _⟩ := chkA_ok hD0
    refine (eachOnce_any D.na D.G D.nc D.L D.Z z hG (fun r hr => hD.l47 r hr) ((hD.below hz).next) (fun r hr i hi => by have := hZ r hr i hi; omega)).mono ?_
    rintro e w' ⟨rfl, V, hF⟩
    refine ⟨rfl, V, hid ⟨fun x hx => ⟨hF.top.cell hx, ?_⟩, hF.below, hF.size⟩⟩
    rw [aNx_is hx]
    exact owns_mono (hF.own x hx) (Nat.zero_le _))
  have CA := C38 A hA hA0
  have CB := C38 B hB hB0
  have HT := hid (And.intro hT (And.intro hA0 hB0))
  have HFIN := hid hfin
  have HQP := hid hQp
  clear hfin hA hB hA0 hB0 hT hboA hboB C38 hQp
  have K38910 : Hid (∀ (b8 b9 b10 wb nb mb : Nat) (V U : Nat → Value) (z : World), Q9 w0 A B wb nb mb V U 3 b8 b9 b10 true true true z → wpAnyG Tryd.prog .any (ops9 q0 q1 q2 q3 q4 q5 q6 q7 q8 q9 q10 q11 q12 q13 q14) Q (fun z : World => z.cell? ⟨b2, 0, none⟩ = some (.slice A.sa A.sn A.sc) ∧ z.cell? ⟨b2, 1, none⟩ = some (.slice A.na A.G A.nc) ∧ z.cell? ⟨b2, 2, none⟩ = some (.slice A.ma A.M A.mc) ∧ z.cell? ⟨b2, 3, none⟩ = some (.slice A.oa A.O A.oc) ∧ z.cell? ⟨b2, 4, none⟩ = some (.slice A.fa A.K A.fc) ∧ z.cell? ⟨b3, 0, none⟩ = some (.slice B.sa B.sn B.sc) ∧ z.cell? ⟨b3, 1, none⟩ = some (.slice B.na B.G B.nc) ∧ z.cell? ⟨b3, 2, none⟩ = some (.slice B.ma B.M B.mc) ∧ z.cell? ⟨b3, 3, none⟩ = some (.slice B.oa B.O B.oc) ∧ z.cell? ⟨b3, 4, none⟩ = some (.slice B.fa B.K B.fc)) (fun _ => false) 3 #[true, true, true, true, true, true, true, true, true, true, true, true, false, false, false] { tmps := #[t0, t1, (.pointer (some ⟨b2, 0, none⟩)), (.pointer (some ⟨b3, 0, none⟩)), t4, t5, t6, t7, (.pointer (some ⟨b8, 0, none⟩)), (.pointer (some ⟨b9, 0, none⟩)), (.pointer (some ⟨b10, 0, none⟩)), t11, t12, t13, t14, t15, t16, t17, t18, t19, t20, t21, t22, t23, t24, t25, t26, t27, t28, t29, t30, t31, t32, t33, t34, t35, t36, t37, t38, t39, t40, (.agg #[.slice A.sa A.sn A.sc, .slice A.na A.G A.nc, .slice A.ma A.M A.mc, .slice A.oa A.O A.oc, .slice A.fa A.K A.fc]), (.agg #[.slice B.sa B.sn B.sc, .slice B.na B.G B.nc, .slice B.ma B.M B.mc, .slice B.oa B.O B.oc, .slice B.fa B.K B.fc]), (.slice (some ⟨wb, 0, none⟩) A.G A.G), (.pointer (some ⟨b2, 1, none⟩)), (.slice A.na A.G A.nc), (.slice (some ⟨nb, 0, none⟩) A.G A.G), (.pointer (some ⟨b3, 1, none⟩)), (.slice B.na B.G B.nc), (.slice (some ⟨mb, 0, none⟩) B.G B.G), t50, t51, t52, t53, t54, t55, t56, t57, t58, t59, t60, t61, t62, t63, t64, t65, t66, t67, t68, t69, t70, t71, t72, t73, t74, t75, t76, t77, t78, t79, t80, t81, t82, t83, t84, t85, t86, t87, t88, t89, t90, t91, t92, t93, t94, t95, t96, t97, t98, t99, t100, t101, t102, t103, t104, t105, t106, t107, t108, t109, t110, t111, t112, t113, t114, t115, t116, t117, t118, t119, t120, t121, t122, t123, t124, t125, t126, t127, t128, t129, t130, t131, t132, t133, t134, t135, t136, t137, t138, t139, t140, t141, t142, t143, t144, t145], defers := [] } z) := hid (by
    intro b8 b9 b10 wb nb mb V U z hq
    obtain ⟨z1, z2, z3, e1, e2, e3, ⟨c1, f1⟩, ⟨c2, f2⟩, ⟨c3, f3⟩, l1, l2, l3, HB⟩ := q9_fin hq HT.out.1 HT.out.2.1 HT.out.2.2
    have HBB := hid (And.intro (hq.a8 rfl).2.1 (And.intro (hq.a9 rfl).2.1 (hq.a10 rfl).2.1))
    have L3 := hid l3
    have S1 := hid (HS.out z1 l1)
    have S2 := hid (HS.out z2 l2)
    have S3 := hid (HS.out z3 l3)
    clear hq l1 l2 l3
    refine G_step (i := 12) (o := { dst := none, op := Op.store 47 (Operand.tmp 8) (Operand.tmp 43), type := 0, pos := _, after := #[{ on := 9, ground := Ground.data }, { on := 2, ground := Ground.data }, { on := 8, ground := Ground.chain }, { on := 0, ground := Ground.phase }, { on := 1, ground := Ground.phase }, { on := 2, ground := Ground.phase }, { on := 3, ground := Ground.textOnly Departure.lateStores }, { on := 4, ground := Ground.textOnly Departure.lateStores }, { on := 5, ground := Ground.textOnly Departure.lateStoresUnsure }, { on := 6, ground := Ground.textOnly Departure.lateStores }, { on := 7, ground := Ground.textOnly Departure.lateStores }, { on := 8, ground := Ground.textOnly Departure.lateStoresUnsure }, { on := 9, ground := Ground.phase }, { on := 10, ground := Ground.phase }, { on := 11, ground := Ground.phase }], guard := none }) (by kernel_rfl) rfl (fun K' hK => ?_)
    go_simp
    (try rw [e1])
    refine hK.out _ _ (fun _ => S1.out) (fun _ => ?_)
    (try simp only [List.setIfInBounds_toArray, List.set_cons_zero, List.set_cons_succ])
    refine G_step (i := 13) (o := { dst := none, op := Op.store 23 (Operand.tmp 9) (Operand.tmp 46), type := 0, pos := _, after := #[{ on := 10, ground := Ground.data }, { on := 5, ground := Ground.data }, { on := 12, ground := Ground.chain }, { on := 0, ground := Ground.phase }, { on := 1, ground := Ground.phase }, { on := 2, ground := Ground.phase }, { on := 3, ground := Ground.phase }, { on := 4, ground := Ground.phase }, { on := 5, ground := Ground.phase }, { on := 6, ground := Ground.textOnly Departure.lateStores }, { on := 7, ground := Ground.textOnly Departure.lateStores }, { on := 8, ground := Ground.textOnly Departure.lateStoresUnsure }, { on := 9, ground := Ground.phase }, { on := 10, ground := Ground.phase }, { on := 11, ground := Ground.phase }, { on := 12, ground := Ground.phase }], guard := none }) (by kernel_rfl) rfl (fun K' hK => ?_)
    go_simp
    (try rw [e2])
    refine hK.out _ _ (fun _ => S2.out) (fun _ => ?_)
    (try simp only [List.setIfInBounds_toArray, List.set_cons_zero, List.set_cons_succ])
    refine G_step (i := 14) (o := { dst := none, op := Op.store 23 (Operand.tmp 10) (Operand.tmp 49), type := 0, pos := _, after := #[{ on := 11, ground := Ground.data }, { on := 8, ground := Ground.data }, { on := 13, ground := Ground.chain }, { on := 0, ground := Ground.phase }, { on := 1, ground := Ground.phase }, { on := 2, ground := Ground.phase }, { on := 3, ground := Ground.phase }, { on := 4, ground := Ground.phase }, { on := 5, ground := Ground.phase }, { on := 6, ground := Ground.phase }, { on := 7, ground := Ground.phase }, { on := 8, ground := Ground.phase }, { on := 9, ground := Ground.phase }, { on := 10, ground := Ground.phase }, { on := 11, ground := Ground.phase }, { on := 12, ground := Ground.phase }, { on := 13, ground := Ground.phase }], guard := none }) (by kernel_rfl) rfl (fun K' hK => ?_)
    go_simp
    (try rw [e3])
    refine hK.out _ _ (fun _ => S3.out) (fun _ => ?_)
    (try simp only [List.setIfInBounds_toArray, List.set_cons_zero, List.set_cons_succ])
    refine G_done (by kernel_rfl) ?_ _
    exact HFIN.out b8 b9 b10 wb nb mb V U z3 L3.out HB.out HBB.out)
  have K389 : Hid (∀ (b8 b9 b10 wb nb mb : Nat) (V U : Nat → Value) (z : World), Q9 w0 A B wb nb mb V U 3 b8 b9 b10 true true false z → wpAnyG Tryd.prog .any (ops9 q0 q1 q2 q3 q4 q5 q6 q7 q8 q9 q10 q11 q12 q13 q14) Q (fun z : World => z.cell? ⟨b2, 0, none⟩ = some (.slice A.sa A.sn A.sc) ∧ z.cell? ⟨b2, 1, none⟩ = some (.slice A.na A.G A.nc) ∧ z.cell? ⟨b2, 2, none⟩ = some (.slice A.ma A.M A.mc) ∧ z.cell? ⟨b2, 3, none⟩ = some (.slice A.oa A.O A.oc) ∧ z.cell? ⟨b2, 4, none⟩ = some (.slice A.fa A.K A.fc) ∧ z.cell? ⟨b3, 0, none⟩ = some (.slice B.sa B.sn B.sc) ∧ z.cell? ⟨b3, 1, none⟩ = some (.slice B.na B.G B.nc) ∧ z.cell? ⟨b3, 2, none⟩ = some (.slice B.ma B.M B.mc) ∧ z.cell? ⟨b3, 3, none⟩ = some (.slice B.oa B.O B.oc) ∧ z.cell? ⟨b3, 4, none⟩ = some (.slice B.fa B.K B.fc)) (fun _ => false) 4 #[true, true, true, true, true, true, true, true, true, true, true, false, false, false, false] { tmps := #[t0, t1, (.pointer (some ⟨b2, 0, none⟩)), (.pointer (some ⟨b3, 0, none⟩)), t4, t5, t6, t7, (.pointer (some ⟨b8, 0, none⟩)), (.pointer (some ⟨b9, 0, none⟩)), t10, t11, t12, t13, t14, t15, t16, t17, t18, t19, t20, t21, t22, t23, t24, t25, t26, t27, t28, t29, t30, t31, t32, t33, t34, t35, t36, t37, t38, t39, t40, (.agg #[.slice A.sa A.sn A.sc, .slice A.na A.G A.nc, .slice A.ma A.M A.mc, .slice A.oa A.O A.oc, .slice A.fa A.K A.fc]), (.agg #[.slice B.sa B.sn B.sc, .slice B.na B.G B.nc, .slice B.ma B.M B.mc, .slice B.oa B.O B.oc, .slice B.fa B.K B.fc]), (.slice (some ⟨wb, 0, none⟩) A.G A.G), (.pointer (some ⟨b2, 1, none⟩)), (.slice A.na A.G A.nc), (.slice (some ⟨nb, 0, none⟩) A.G A.G), (.pointer (some ⟨b3, 1, none⟩)), (.slice B.na B.G B.nc), (.slice (some ⟨mb, 0, none⟩) B.G B.G), t50, t51, t52, t53, t54, t55, t56, t57, t58, t59, t60, t61, t62, t63, t64, t65, t66, t67, t68, t69, t70, t71, t72, t73, t74, t75, t76, t77, t78, t79, t80, t81, t82, t83, t84, t85, t86, t87, t88, t89, t90, t91, t92, t93, t94, t95, t96, t97, t98, t99, t100, t101, t102, t103, t104, t105, t106, t107, t108, t109, t110, t111, t112, t113, t114, t115, t116, t117, t118, t119, t120, t121, t122, t123, t124, t125, t126, t127, t128, t129, t130, t131, t132, t133, t134, t135, t136, t137, t138, t139, t140, t141, t142, t143, t144, t145], defers := [] } z) := hid (by
    intro b8 b9 b10 wb nb mb V U z hq
    refine G_alt (l := [11]) (by kernel_rfl) (by decide) ?_
    intro i hi
    obtain rfl : i = 11 := by simpa using hi
    clear hi
    · refine ⟨{ dst := some 10, op := Op.alloc 23, type := 0, pos := _, after := #[], guard := none }, rfl, fun K' hK => ?_⟩
      have hq1 := hq.n10
      have HQ := hid hq1
      clear hq hq1
      go_simp
      refine hK.out _ _ (fun _ => HS.out _ HQ.out.low) (fun _ => ?_)
      (try simp only [List.setIfInBounds_toArray, List.set_cons_zero, List.set_cons_succ])
      exact K38910.out b8 b9 z.heap.size wb nb mb V U _ HQ.out)
  have K3810 : Hid (∀ (b8 b9 b10 wb nb mb : Nat) (V U : Nat → Value) (z : World), Q9 w0 A B wb nb mb V U 3 b8 b9 b10 true false true z → wpAnyG Tryd.prog .any (ops9 q0 q1 q2 q3 q4 q5 q6 q7 q8 q9 q10 q11 q12 q13 q14) Q (fun z : World => z.cell? ⟨b2, 0, none⟩ = some (.slice A.sa A.sn A.sc) ∧ z.cell? ⟨b2, 1, none⟩ = some (.slice A.na A.G A.nc) ∧ z.cell? ⟨b2, 2, none⟩ = some (.slice A.ma A.M A.mc) ∧ z.cell? ⟨b2, 3, none⟩ = some (.slice A.oa A.O A.oc) ∧ z.cell? ⟨b2, 4, none⟩ = some (.slice A.fa A.K A.fc) ∧ z.cell? ⟨b3, 0, none⟩ = some (.slice B.sa B.sn B.sc) ∧ z.cell? ⟨b3, 1, none⟩ = some (.slice B.na B.G B.nc) ∧ z.cell? ⟨b3, 2, none⟩ = some (.slice B.ma B.M B.mc) ∧ z.cell? ⟨b3, 3, none⟩ = some (.slice B.oa B.O B.oc) ∧ z.cell? ⟨b3, 4, none⟩ = some (.slice B.fa B.K B.fc)) (fun _ => false) 4 #[true, true, true, true, true, true, true, true, true, true, false, true, false, false, false] { tmps := #[t0, t1, (.pointer (some ⟨b2, 0, none⟩)), (.pointer (some ⟨b3, 0, none⟩)), t4, t5, t6, t7, (.pointer (some ⟨b8, 0, none⟩)), t9, (.pointer (some ⟨b10, 0, none⟩)), t11, t12, t13, t14, t15, t16, t17, t18, t19, t20, t21, t22, t23, t24, t25, t26, t27, t28, t29, t30, t31, t32, t33, t34, t35, t36, t37, t38, t39, t40, (.agg #[.slice A.sa A.sn A.sc, .slice A.na A.G A.nc, .slice A.ma A.M A.mc, .slice A.oa A.O A.oc, .slice A.fa A.K A.fc]), (.agg #[.slice B.sa B.sn B.sc, .slice B.na B.G B.nc, .slice B.ma B.M B.mc, .slice B.oa B.O B.oc, .slice B.fa B.K B.fc]), (.slice (some ⟨wb, 0, none⟩) A.G A.G), (.pointer (some ⟨b2, 1, none⟩)), (.slice A.na A.G A.nc), (.slice (some ⟨nb, 0, none⟩) A.G A.G), (.pointer (some ⟨b3, 1, none⟩)), (.slice B.na B.G B.nc), (.slice (some ⟨mb, 0, none⟩) B.G B.G), t50, t51, t52, t53, t54, t55, t56, t57, t58, t59, t60, t61, t62, t63, t64, t65, t66, t67, t68, t69, t70, t71, t72, t73, t74, t75, t76, t77, t78, t79, t80, t81, t82, t83, t84, t85, t86, t87, t88, t89, t90, t91, t92, t93, t94, t95, t96, t97, t98, t99, t100, t101, t102, t103, t104, t105, t106, t107, t108, t109, t110, t111, t112, t113, t114, t115, t116, t117, t118, t119, t120, t121, t122, t123, t124, t125, t126, t127, t128, t129, t130, t131, t132, t133, t134, t135, t136, t137, t138, t139, t140, t141, t142, t143, t144, t145], defers := [] } z) := hid (by
    intro b8 b9 b10 wb nb mb V U z hq
    refine G_alt (l := [10]) (by kernel_rfl) (by decide) ?_
    intro i hi
    obtain rfl : i = 10 := by simpa using hi
    clear hi
    · refine ⟨{ dst := some 9, op := Op.alloc 23, type := 0, pos := _, after := #[], guard := none }, rfl, fun K' hK => ?_⟩
      have hq1 := hq.n9
      have HQ := hid hq1
      clear hq hq1
      go_simp
      refine hK.out _ _ (fun _ => HS.out _ HQ.out.low) (fun _ => ?_)
      (try simp only [List.setIfInBounds_toArray, List.set_cons_zero, List.set_cons_succ])
      exact K38910.out b8 z.heap.size b10 wb nb mb V U _ HQ.out)
  have K3910 : Hid (∀ (b8 b9 b10 wb nb mb : Nat) (V U : Nat → Value) (z : World), Q9 w0 A B wb nb mb V U 3 b8 b9 b10 false true true z → wpAnyG Tryd.prog .any (ops9 q0 q1 q2 q3 q4 q5 q6 q7 q8 q9 q10 q11 q12 q13 q14) Q (fun z : World => z.cell? ⟨b2, 0, none⟩ = some (.slice A.sa A.sn A.sc) ∧ z.cell? ⟨b2, 1, none⟩ = some (.slice A.na A.G A.nc) ∧ z.cell? ⟨b2, 2, none⟩ = some (.slice A.ma A.M A.mc) ∧ z.cell? ⟨b2, 3, none⟩ = some (.slice A.oa A.O A.oc) ∧ z.cell? ⟨b2, 4, none⟩ = some (.slice A.fa A.K A.fc) ∧ z.cell? ⟨b3, 0, none⟩ = some (.slice B.sa B.sn B.sc) ∧ z.cell? ⟨b3, 1, none⟩ = some (.slice B.na B.G B.nc) ∧ z.cell? ⟨b3, 2, none⟩ = some (.slice B.ma B.M B.mc) ∧ z.cell? ⟨b3, 3, none⟩ = some (.slice B.oa B.O B.oc) ∧ z.cell? ⟨b3, 4, none⟩ = some (.slice B.fa B.K B.fc)) (fun _ => false) 4 #[true, true, true, true, true, true, true, true, true, false, true, true, false, false, false] { tmps := #[t0, t1, (.pointer (some ⟨b2, 0, none⟩)), (.pointer (some ⟨b3, 0, none⟩)), t4, t5, t6, t7, t8, (.pointer (some ⟨b9, 0, none⟩)), (.pointer (some ⟨b10, 0, none⟩)), t11, t12, t13, t14, t15, t16, t17, t18, t19, t20, t21, t22, t23, t24, t25, t26, t27, t28, t29, t30, t31, t32, t33, t34, t35, t36, t37, t38, t39, t40, (.agg #[.slice A.sa A.sn A.sc, .slice A.na A.G A.nc, .slice A.ma A.M A.mc, .slice A.oa A.O A.oc, .slice A.fa A.K A.fc]), (.agg #[.slice B.sa B.sn B.sc, .slice B.na B.G B.nc, .slice B.ma B.M B.mc, .slice B.oa B.O B.oc, .slice B.fa B.K B.fc]), (.slice (some ⟨wb, 0, none⟩) A.G A.G), (.pointer (some ⟨b2, 1, none⟩)), (.slice A.na A.G A.nc), (.slice (some ⟨nb, 0, none⟩) A.G A.G), (.pointer (some ⟨b3, 1, none⟩)), (.slice B.na B.G B.nc), (.slice (some ⟨mb, 0, none⟩) B.G B.G), t50, t51, t52, t53, t54, t55, t56, t57, t58, t59, t60, t61, t62, t63, t64, t65, t66, t67, t68, t69, t70, t71, t72, t73, t74, t75, t76, t77, t78, t79, t80, t81, t82, t83, t84, t85, t86, t87, t88, t89, t90, t91, t92, t93, t94, t95, t96, t97, t98, t99, t100, t101, t102, t103, t104, t105, t106, t107, t108, t109, t110, t111, t112, t113, t114, t115, t116, t117, t118, t119, t120, t121, t122, t123, t124, t125, t126, t127, t128, t129, t130, t131, t132, t133, t134, t135, t136, t137, t138, t139, t140, t141, t142, t143, t144, t145], defers := [] } z) := hid (by
    intro b8 b9 b10 wb nb mb V U z hq
    refine G_alt (l := [9]) (by kernel_rfl) (by decide) ?_
    intro i hi
    obtain rfl : i = 9 := by simpa using hi
    clear hi
    · refine ⟨{ dst := some 8, op := Op.alloc 47, type := 0, pos := _, after := #[], guard := none }, rfl, fun K' hK => ?_⟩
      have hq1 := hq.n8
      have HQ := hid hq1
      clear hq hq1
      go_simp
      refine hK.out _ _ (fun _ => HS.out _ HQ.out.low) (fun _ => ?_)
      (try simp only [List.setIfInBounds_toArray, List.set_cons_zero, List.set_cons_succ])
      exact K38910.out z.heap.size b9 b10 wb nb mb V U _ HQ.out)
  have K38 : Hid (∀ (b8 b9 b10 wb nb mb : Nat) (V U : Nat → Value) (z : World), Q9 w0 A B wb nb mb V U 3 b8 b9 b10 true false false z → wpAnyG Tryd.prog .any (ops9 q0 q1 q2 q3 q4 q5 q6 q7 q8 q9 q10 q11 q12 q13 q14) Q (fun z : World => z.cell? ⟨b2, 0, none⟩ = some (.slice A.sa A.sn A.sc) ∧ z.cell? ⟨b2, 1, none⟩ = some (.slice A.na A.G A.nc) ∧ z.cell? ⟨b2, 2, none⟩ = some (.slice A.ma A.M A.mc) ∧ z.cell? ⟨b2, 3, none⟩ = some (.slice A.oa A.O A.oc) ∧ z.cell? ⟨b2, 4, none⟩ = some (.slice A.fa A.K A.fc) ∧ z.cell? ⟨b3, 0, none⟩ = some (.slice B.sa B.sn B.sc) ∧ z.cell? ⟨b3, 1, none⟩ = some (.slice B.na B.G B.nc) ∧ z.cell? ⟨b3, 2, none⟩ = some (.slice B.ma B.M B.mc) ∧ z.cell? ⟨b3, 3, none⟩ = some (.slice B.oa B.O B.oc) ∧ z.cell? ⟨b3, 4, none⟩ = some (.slice B.fa B.K B.fc)) (fun _ => false) 5 #[true, true, true, true, true, true, true, true, true, true, false, false, false, false, false] { tmps := #[t0, t1, (.pointer (some ⟨b2, 0, none⟩)), (.pointer (some ⟨b3, 0, none⟩)), t4, t5, t6, t7, (.pointer (some ⟨b8, 0, none⟩)), t9, t10, t11, t12, t13, t14, t15, t16, t17, t18, t19, t20, t21, t22, t23, t24, t25, t26, t27, t28, t29, t30, t31, t32, t33, t34, t35, t36, t37, t38, t39, t40, (.agg #[.slice A.sa A.sn A.sc, .slice A.na A.G A.nc, .slice A.ma A.M A.mc, .slice A.oa A.O A.oc, .slice A.fa A.K A.fc]), (.agg #[.slice B.sa B.sn B.sc, .slice B.na B.G B.nc, .slice B.ma B.M B.mc, .slice B.oa B.O B.oc, .slice B.fa B.K B.fc]), (.slice (some ⟨wb, 0, none⟩) A.G A.G), (.pointer (some ⟨b2, 1, none⟩)), (.slice A.na A.G A.nc), (.slice (some ⟨nb, 0, none⟩) A.G A.G), (.pointer (some ⟨b3, 1, none⟩)), (.slice B.na B.G B.nc), (.slice (some ⟨mb, 0, none⟩) B.G B.G), t50, t51, t52, t53, t54, t55, t56, t57, t58, t59, t60, t61, t62, t63, t64, t65, t66, t67, t68, t69, t70, t71, t72, t73, t74, t75, t76, t77, t78, t79, t80, t81, t82, t83, t84, t85, t86, t87, t88, t89, t90, t91, t92, t93, t94, t95, t96, t97, t98, t99, t100, t101, t102, t103, t104, t105, t106, t107, t108, t109, t110, t111, t112, t113, t114, t115, t116, t117, t118, t119, t120, t121, t122, t123, t124, t125, t126, t127, t128, t129, t130, t131, t132, t133, t134, t135, t136, t137, t138, t139, t140, t141, t142, t143, t144, t145], defers := [] } z) := hid (by
    intro b8 b9 b10 wb nb mb V U z hq
    refine G_alt (l := [10, 11]) (by kernel_rfl) (by decide) ?_
    intro i hi
    have hi2 : i = 10 ∨ i = 11 := by simpa using hi
    clear hi
    rcases hi2 with rfl | rfl
    · refine ⟨{ dst := some 9, op := Op.alloc 23, type := 0, pos := _, after := #[], guard := none }, rfl, fun K' hK => ?_⟩
      have hq1 := hq.n9
      have HQ := hid hq1
      clear hq hq1
      go_simp
      refine hK.out _ _ (fun _ => HS.out _ HQ.out.low) (fun _ => ?_)
      (try simp only [List.setIfInBounds_toArray, List.set_cons_zero, List.set_cons_succ])
      exact K389.out b8 z.heap.size b10 wb nb mb V U _ HQ.out
    · refine ⟨{ dst := some 10, op := Op.alloc 23, type := 0, pos := _, after := #[], guard := none }, rfl, fun K' hK => ?_⟩
      have hq1 := hq.n10
      have HQ := hid hq1
      clear hq hq1
      go_simp
      refine hK.out _ _ (fun _ => HS.out _ HQ.out.low) (fun _ => ?_)
      (try simp only [List.setIfInBounds_toArray, List.set_cons_zero, List.set_cons_succ])
      exact K3810.out b8 b9 z.heap.size wb nb mb V U _ HQ.out)
  have K39 : Hid (∀ (b8 b9 b10 wb nb mb : Nat) (V U : Nat → Value) (z : World), Q9 w0 A B wb nb mb V U 3 b8 b9 b10 false true false z → wpAnyG Tryd.prog .any (ops9 q0 q1 q2 q3 q4 q5 q6 q7 q8 q9 q10 q11 q12 q13 q14) Q (fun z : World => z.cell? ⟨b2, 0, none⟩ = some (.slice A.sa A.sn A.sc) ∧ z.cell? ⟨b2, 1, none⟩ = some (.slice A.na A.G A.nc) ∧ z.cell? ⟨b2, 2, none⟩ = some (.slice A.ma A.M A.mc) ∧ z.cell? ⟨b2, 3, none⟩ = some (.slice A.oa A.O A.oc) ∧ z.cell? ⟨b2, 4, none⟩ = some (.slice A.fa A.K A.fc) ∧ z.cell? ⟨b3, 0, none⟩ = some (.slice B.sa B.sn B.sc) ∧ z.cell? ⟨b3, 1, none⟩ = some (.slice B.na B.G B.nc) ∧ z.cell? ⟨b3, 2, none⟩ = some (.slice B.ma B.M B.mc) ∧ z.cell? ⟨b3, 3, none⟩ = some (.slice B.oa B.O B.oc) ∧ z.cell? ⟨b3, 4, none⟩ = some (.slice B.fa B.K B.fc)) (fun _ => false) 5 #[true, true, true, true, true, true, true, true, true, false, true, false, false, false, false] { tmps := #[t0, t1, (.pointer (some ⟨b2, 0, none⟩)), (.pointer (some ⟨b3, 0, none⟩)), t4, t5, t6, t7, t8, (.pointer (some ⟨b9, 0, none⟩)), t10, t11, t12, t13, t14, t15, t16, t17, t18, t19, t20, t21, t22, t23, t24, t25, t26, t27, t28, t29, t30, t31, t32, t33, t34, t35, t36, t37, t38, t39, t40, (.agg #[.slice A.sa A.sn A.sc, .slice A.na A.G A.nc, .slice A.ma A.M A.mc, .slice A.oa A.O A.oc, .slice A.fa A.K A.fc]), (.agg #[.slice B.sa B.sn B.sc, .slice B.na B.G B.nc, .slice B.ma B.M B.mc, .slice B.oa B.O B.oc, .slice B.fa B.K B.fc]), (.slice (some ⟨wb, 0, none⟩) A.G A.G), (.pointer (some ⟨b2, 1, none⟩)), (.slice A.na A.G A.nc), (.slice (some ⟨nb, 0, none⟩) A.G A.G), (.pointer (some ⟨b3, 1, none⟩)), (.slice B.na B.G B.nc), (.slice (some ⟨mb, 0, none⟩) B.G B.G), t50, t51, t52, t53, t54, t55, t56, t57, t58, t59, t60, t61, t62, t63, t64, t65, t66, t67, t68, t69, t70, t71, t72, t73, t74, t75, t76, t77, t78, t79, t80, t81, t82, t83, t84, t85, t86, t87, t88, t89, t90, t91, t92, t93, t94, t95, t96, t97, t98, t99, t100, t101, t102, t103, t104, t105, t106, t107, t108, t109, t110, t111, t112, t113, t114, t115, t116, t117, t118, t119, t120, t121, t122, t123, t124, t125, t126, t127, t128, t129, t130, t131, t132, t133, t134, t135, t136, t137, t138, t139, t140, t141, t142, t143, t144, t145], defers := [] } z) := hid (by
    intro b8 b9 b10 wb nb mb V U z hq
    refine G_alt (l := [9, 11]) (by kernel_rfl) (by decide) ?_
    intro i hi
    have hi2 : i = 9 ∨ i = 11 := by simpa using hi
    clear hi
    rcases hi2 with rfl | rfl
    · refine ⟨{ dst := some 8, op := Op.alloc 47, type := 0, pos := _, after := #[], guard := none }, rfl, fun K' hK => ?_⟩
      have hq1 := hq.n8
      have HQ := hid hq1
      clear hq hq1
      go_simp
      refine hK.out _ _ (fun _ => HS.out _ HQ.out.low) (fun _ => ?_)
      (try simp only [List.setIfInBounds_toArray, List.set_cons_zero, List.set_cons_succ])
      exact K389.out z.heap.size b9 b10 wb nb mb V U _ HQ.out
    · refine ⟨{ dst := some 10, op := Op.alloc 23, type := 0, pos := _, after := #[], guard := none }, rfl, fun K' hK => ?_⟩
      have hq1 := hq.n10
      have HQ := hid hq1
      clear hq hq1
      go_simp
      refine hK.out _ _ (fun _ => HS.out _ HQ.out.low) (fun _ => ?_)
      (try simp only [List.setIfInBounds_toArray, List.set_cons_zero, List.set_cons_succ])
      exact K3910.out b8 b9 z.heap.size wb nb mb V U _ HQ.out)
  have K310 : Hid (∀ (b8 b9 b10 wb nb mb : Nat) (V U : Nat → Value) (z : World), Q9 w0 A B wb nb mb V U 3 b8 b9 b10 false false true z → wpAnyG Tryd.prog .any (ops9 q0 q1 q2 q3 q4 q5 q6 q7 q8 q9 q10 q11 q12 q13 q14) Q (fun z : World => z.cell? ⟨b2, 0, none⟩ = some (.slice A.sa A.sn A.sc) ∧ z.cell? ⟨b2, 1, none⟩ = some (.slice A.na A.G A.nc) ∧ z.cell? ⟨b2, 2, none⟩ = some (.slice A.ma A.M A.mc) ∧ z.cell? ⟨b2, 3, none⟩ = some (.slice A.oa A.O A.oc) ∧ z.cell? ⟨b2, 4, none⟩ = some (.slice A.fa A.K A.fc) ∧ z.cell? ⟨b3, 0, none⟩ = some (.slice B.sa B.sn B.sc) ∧ z.cell? ⟨b3, 1, none⟩ = some (.slice B.na B.G B.nc) ∧ z.cell? ⟨b3, 2, none⟩ = some (.slice B.ma B.M B.mc) ∧ z.cell? ⟨b3, 3, none⟩ = some (.slice B.oa B.O B.oc) ∧ z.cell? ⟨b3, 4, none⟩ = some (.slice B.fa B.K B.fc)) (fun _ => false) 5 #[true, true, true, true, true, true, true, true, true, false, false, true, false, false, false] { tmps := #[t0, t1, (.pointer (some ⟨b2, 0, none⟩)), (.pointer (some ⟨b3, 0, none⟩)), t4, t5, t6, t7, t8, t9, (.pointer (some ⟨b10, 0, none⟩)), t11, t12, t13, t14, t15, t16, t17, t18, t19, t20, t21, t22, t23, t24, t25, t26, t27, t28, t29, t30, t31, t32, t33, t34, t35, t36, t37, t38, t39, t40, (.agg #[.slice A.sa A.sn A.sc, .slice A.na A.G A.nc, .slice A.ma A.M A.mc, .slice A.oa A.O A.oc, .slice A.fa A.K A.fc]), (.agg #[.slice B.sa B.sn B.sc, .slice B.na B.G B.nc, .slice B.ma B.M B.mc, .slice B.oa B.O B.oc, .slice B.fa B.K B.fc]), (.slice (some ⟨wb, 0, none⟩) A.G A.G), (.pointer (some ⟨b2, 1, none⟩)), (.slice A.na A.G A.nc), (.slice (some ⟨nb, 0, none⟩) A.G A.G), (.pointer (some ⟨b3, 1, none⟩)), (.slice B.na B.G B.nc), (.slice (some ⟨mb, 0, none⟩) B.G B.G), t50, t51, t52, t53, t54, t55, t56, t57, t58, t59, t60, t61, t62, t63, t64, t65, t66, t67, t68, t69, t70, t71, t72, t73, t74, t75, t76, t77, t78, t79, t80, t81, t82, t83, t84, t85, t86, t87, t88, t89, t90, t91, t92, t93, t94, t95, t96, t97, t98, t99, t100, t101, t102, t103, t104, t105, t106, t107, t108, t109, t110, t111, t112, t113, t114, t115, t116, t117, t118, t119, t120, t121, t122, t123, t124, t125, t126, t127, t128, t129, t130, t131, t132, t133, t134, t135, t136, t137, t138, t139, t140, t141, t142, t143, t144, t145], defers := [] } z) := hid (by
    intro b8 b9 b10 wb nb mb V U z hq
    refine G_alt (l := [9, 10]) (by kernel_rfl) (by decide) ?_
    intro i hi
    have hi2 : i = 9 ∨ i = 10 := by simpa using hi
    clear hi
    rcases hi2 with rfl | rfl
    · refine ⟨{ dst := some 8, op := Op.alloc 47, type := 0, pos := _, after := #[], guard := none }, rfl, fun K' hK => ?_⟩
      have hq1 := hq.n8
      have HQ := hid hq1
      clear hq hq1
      go_simp
      refine hK.out _ _ (fun _ => HS.out _ HQ.out.low) (fun _ => ?_)
      (try simp only [List.setIfInBounds_toArray, List.set_cons_zero, List.set_cons_succ])
      exact K3810.out z.heap.size b9 b10 wb nb mb V U _ HQ.out
    · refine ⟨{ dst := some 9, op := Op.alloc 23, type := 0, pos := _, after := #[], guard := none }, rfl, fun K' hK => ?_⟩
      have hq1 := hq.n9
      have HQ := hid hq1
      clear hq hq1
      go_simp
      refine hK.out _ _ (fun _ => HS.out _ HQ.out.low) (fun _ => ?_)
      (try simp only [List.setIfInBounds_toArray, List.set_cons_zero, List.set_cons_succ])
      exact K3910.out b8 z.heap.size b10 wb nb mb V U _ HQ.out)
  have K3 : Hid (∀ (b8 b9 b10 wb nb mb : Nat) (V U : Nat → Value) (z : World), Q9 w0 A B wb nb mb V U 3 b8 b9 b10 false false false z → wpAnyG Tryd.prog .any (ops9 q0 q1 q2 q3 q4 q5 q6 q7 q8 q9 q10 q11 q12 q13 q14) Q (fun z : World => z.cell? ⟨b2, 0, none⟩ = some (.slice A.sa A.sn A.sc) ∧ z.cell? ⟨b2, 1, none⟩ = some (.slice A.na A.G A.nc) ∧ z.cell? ⟨b2, 2, none⟩ = some (.slice A.ma A.M A.mc) ∧ z.cell? ⟨b2, 3, none⟩ = some (.slice A.oa A.O A.oc) ∧ z.cell? ⟨b2, 4, none⟩ = some (.slice A.fa A.K A.fc) ∧ z.cell? ⟨b3, 0, none⟩ = some (.slice B.sa B.sn B.sc) ∧ z.cell? ⟨b3, 1, none⟩ = some (.slice B.na B.G B.nc) ∧ z.cell? ⟨b3, 2, none⟩ = some (.slice B.ma B.M B.mc) ∧ z.cell? ⟨b3, 3, none⟩ = some (.slice B.oa B.O B.oc) ∧ z.cell? ⟨b3, 4, none⟩ = some (.slice B.fa B.K B.fc)) (fun _ => false) 6 #[true, true, true, true, true, true, true, true, true, false, false, false, false, false, false] { tmps := #[t0, t1, (.pointer (some ⟨b2, 0, none⟩)), (.pointer (some ⟨b3, 0, none⟩)), t4, t5, t6, t7, t8, t9, t10, t11, t12, t13, t14, t15, t16, t17, t18, t19, t20, t21, t22, t23, t24, t25, t26, t27, t28, t29, t30, t31, t32, t33, t34, t35, t36, t37, t38, t39, t40, (.agg #[.slice A.sa A.sn A.sc, .slice A.na A.G A.nc, .slice A.ma A.M A.mc, .slice A.oa A.O A.oc, .slice A.fa A.K A.fc]), (.agg #[.slice B.sa B.sn B.sc, .slice B.na B.G B.nc, .slice B.ma B.M B.mc, .slice B.oa B.O B.oc, .slice B.fa B.K B.fc]), (.slice (some ⟨wb, 0, none⟩) A.G A.G), (.pointer (some ⟨b2, 1, none⟩)), (.slice A.na A.G A.nc), (.slice (some ⟨nb, 0, none⟩) A.G A.G), (.pointer (some ⟨b3, 1, none⟩)), (.slice B.na B.G B.nc), (.slice (some ⟨mb, 0, none⟩) B.G B.G), t50, t51, t52, t53, t54, t55, t56, t57, t58, t59, t60, t61, t62, t63, t64, t65, t66, t67, t68, t69, t70, t71, t72, t73, t74, t75, t76, t77, t78, t79, t80, t81, t82, t83, t84, t85, t86, t87, t88, t89, t90, t91, t92, t93, t94, t95, t96, t97, t98, t99, t100, t101, t102, t103, t104, t105, t106, t107, t108, t109, t110, t111, t112, t113, t114, t115, t116, t117, t118, t119, t120, t121, t122, t123, t124, t125, t126, t127, t128, t129, t130, t131, t132, t133, t134, t135, t136, t137, t138, t139, t140, t141, t142, t143, t144, t145], defers := [] } z) := hid (by
    intro b8 b9 b10 wb nb mb V U z hq
    refine G_alt (l := [9, 10, 11]) (by kernel_rfl) (by decide) ?_
    intro i hi
    have hi2 : i = 9 ∨ i = 10 ∨ i = 11 := by simpa using hi
    clear hi
    rcases hi2 with rfl | rfl | rfl
    · refine ⟨{ dst := some 8, op := Op.alloc 47, type := 0, pos := _, after := #[], guard := none }, rfl, fun K' hK => ?_⟩
      have hq1 := hq.n8
      have HQ := hid hq1
      clear hq hq1
      go_simp
      refine hK.out _ _ (fun _ => HS.out _ HQ.out.low) (fun _ => ?_)
      (try simp only [List.setIfInBounds_toArray, List.set_cons_zero, List.set_cons_succ])
      exact K38.out z.heap.size b9 b10 wb nb mb V U _ HQ.out
    · refine ⟨{ dst := some 9, op := Op.alloc 23, type := 0, pos := _, after := #[], guard := none }, rfl, fun K' hK => ?_⟩
      have hq1 := hq.n9
      have HQ := hid hq1
      clear hq hq1
      go_simp
      refine hK.out _ _ (fun _ => HS.out _ HQ.out.low) (fun _ => ?_)
      (try simp only [List.setIfInBounds_toArray, List.set_cons_zero, List.set_cons_succ])
      exact K39.out b8 z.heap.size b10 wb nb mb V U _ HQ.out
    · refine ⟨{ dst := some 10, op := Op.alloc 23, type := 0, pos := _, after := #[], guard := none }, rfl, fun K' hK => ?_⟩
      have hq1 := hq.n10
      have HQ := hid hq1
      clear hq hq1
      go_simp
      refine hK.out _ _ (fun _ => HS.out _ HQ.out.low) (fun _ => ?_)
      (try simp only [List.setIfInBounds_toArray, List.set_cons_zero, List.set_cons_succ])
      exact K310.out b8 b9 z.heap.size wb nb mb V U _ HQ.out)
  have K28910 : Hid (∀ (b8 b9 b10 wb nb mb : Nat) (V U : Nat → Value) (z : World), Q9 w0 A B wb nb mb V U 2 b8 b9 b10 true true true z → wpAnyG Tryd.prog .any (ops9 q0 q1 q2 q3 q4 q5 q6 q7 q8 q9 q10 q11 q12 q13 q14) Q (fun z : World => z.cell? ⟨b2, 0, none⟩ = some (.slice A.sa A.sn A.sc) ∧ z.cell? ⟨b2, 1, none⟩ = some (.slice A.na A.G A.nc) ∧ z.cell? ⟨b2, 2, none⟩ = some (.slice A.ma A.M A.mc) ∧ z.cell? ⟨b2, 3, none⟩ = some (.slice A.oa A.O A.oc) ∧ z.cell? ⟨b2, 4, none⟩ = some (.slice A.fa A.K A.fc) ∧ z.cell? ⟨b3, 0, none⟩ = some (.slice B.sa B.sn B.sc) ∧ z.cell? ⟨b3, 1, none⟩ = some (.slice B.na B.G B.nc) ∧ z.cell? ⟨b3, 2, none⟩ = some (.slice B.ma B.M B.mc) ∧ z.cell? ⟨b3, 3, none⟩ = some (.slice B.oa B.O B.oc) ∧ z.cell? ⟨b3, 4, none⟩ = some (.slice B.fa B.K B.fc)) (fun _ => false) 4 #[true, true, true, true, true, true, true, true, false, true, true, true, false, false, false] { tmps := #[t0, t1, (.pointer (some ⟨b2, 0, none⟩)), (.pointer (some ⟨b3, 0, none⟩)), t4, t5, t6, t7, (.pointer (some ⟨b8, 0, none⟩)), (.pointer (some ⟨b9, 0, none⟩)), (.pointer (some ⟨b10, 0, none⟩)), t11, t12, t13, t14, t15, t16, t17, t18, t19, t20, t21, t22, t23, t24, t25, t26, t27, t28, t29, t30, t31, t32, t33, t34, t35, t36, t37, t38, t39, t40, (.agg #[.slice A.sa A.sn A.sc, .slice A.na A.G A.nc, .slice A.ma A.M A.mc, .slice A.oa A.O A.oc, .slice A.fa A.K A.fc]), (.agg #[.slice B.sa B.sn B.sc, .slice B.na B.G B.nc, .slice B.ma B.M B.mc, .slice B.oa B.O B.oc, .slice B.fa B.K B.fc]), (.slice (some ⟨wb, 0, none⟩) A.G A.G), (.pointer (some ⟨b2, 1, none⟩)), (.slice A.na A.G A.nc), (.slice (some ⟨nb, 0, none⟩) A.G A.G), (.pointer (some ⟨b3, 1, none⟩)), (.slice B.na B.G B.nc), t49, t50, t51, t52, t53, t54, t55, t56, t57, t58, t59, t60, t61, t62, t63, t64, t65, t66, t67, t68, t69, t70, t71, t72, t73, t74, t75, t76, t77, t78, t79, t80, t81, t82, t83, t84, t85, t86, t87, t88, t89, t90, t91, t92, t93, t94, t95, t96, t97, t98, t99, t100, t101, t102, t103, t104, t105, t106, t107, t108, t109, t110, t111, t112, t113, t114, t115, t116, t117, t118, t119, t120, t121, t122, t123, t124, t125, t126, t127, t128, t129, t130, t131, t132, t133, t134, t135, t136, t137, t138, t139, t140, t141, t142, t143, t144, t145], defers := [] } z) := hid (by
    intro b8 b9 b10 wb nb mb V U z hq
    refine G_alt (l := [8]) (by kernel_rfl) (by decide) ?_
    intro i hi
    obtain rfl : i = 8 := by simpa using hi
    clear hi
    · refine ⟨{ dst := some 49, op := Op.call { callee := Callee.value (Operand.func 38), args := #[Operand.tmp 48], argTypes := #[23] }, type := 23, pos := _, after := #[{ on := 7, ground := Ground.data }, { on := 5, ground := Ground.chain }], guard := none }, rfl, fun K' hK => ?_⟩
      have hz := hq.low
      have HQ := hid hq
      clear hq
      go_simp
      refine (CB.out z hz).mono ?_
      rintro e z1 ⟨rfl, U1, H1⟩
      dsimp only
      have hq1 := HQ.out.c3 H1.out.2.1 H1.out.1 (Nat.le_refl _) H1.out.2.2
      refine hK.out _ _ (fun _ => HS.out _ hq1.low) (fun _ => ?_)
      (try simp only [List.setIfInBounds_toArray, List.set_cons_zero, List.set_cons_succ])
      exact K38910.out b8 b9 b10 wb nb z.heap.size V U1 z1 hq1)
  have K289 : Hid (∀ (b8 b9 b10 wb nb mb : Nat) (V U : Nat → Value) (z : World), Q9 w0 A B wb nb mb V U 2 b8 b9 b10 true true false z → wpAnyG Tryd.prog .any (ops9 q0 q1 q2 q3 q4 q5 q6 q7 q8 q9 q10 q11 q12 q13 q14) Q (fun z : World => z.cell? ⟨b2, 0, none⟩ = some (.slice A.sa A.sn A.sc) ∧ z.cell? ⟨b2, 1, none⟩ = some (.slice A.na A.G A.nc) ∧ z.cell? ⟨b2, 2, none⟩ = some (.slice A.ma A.M A.mc) ∧ z.cell? ⟨b2, 3, none⟩ = some (.slice A.oa A.O A.oc) ∧ z.cell? ⟨b2, 4, none⟩ = some (.slice A.fa A.K A.fc) ∧ z.cell? ⟨b3, 0, none⟩ = some (.slice B.sa B.sn B.sc) ∧ z.cell? ⟨b3, 1, none⟩ = some (.slice B.na B.G B.nc) ∧ z.cell? ⟨b3, 2, none⟩ = some (.slice B.ma B.M B.mc) ∧ z.cell? ⟨b3, 3, none⟩ = some (.slice B.oa B.O B.oc) ∧ z.cell? ⟨b3, 4, none⟩ = some (.slice B.fa B.K B.fc)) (fun _ => false) 5 #[true, true, true, true, true, true, true, true, false, true, true, false, false, false, false] { tmps := #[t0, t1, (.pointer (some ⟨b2, 0, none⟩)), (.pointer (some ⟨b3, 0, none⟩)), t4, t5, t6, t7, (.pointer (some ⟨b8, 0, none⟩)), (.pointer (some ⟨b9, 0, none⟩)), t10, t11, t12, t13, t14, t15, t16, t17, t18, t19, t20, t21, t22, t23, t24, t25, t26, t27, t28, t29, t30, t31, t32, t33, t34, t35, t36, t37, t38, t39, t40, (.agg #[.slice A.sa A.sn A.sc, .slice A.na A.G A.nc, .slice A.ma A.M A.mc, .slice A.oa A.O A.oc, .slice A.fa A.K A.fc]), (.agg #[.slice B.sa B.sn B.sc, .slice B.na B.G B.nc, .slice B.ma B.M B.mc, .slice B.oa B.O B.oc, .slice B.fa B.K B.fc]), (.slice (some ⟨wb, 0, none⟩) A.G A.G), (.pointer (some ⟨b2, 1, none⟩)), (.slice A.na A.G A.nc), (.slice (some ⟨nb, 0, none⟩) A.G A.G), (.pointer (some ⟨b3, 1, none⟩)), (.slice B.na B.G B.nc), t49, t50, t51, t52, t53, t54, t55, t56, t57, t58, t59, t60, t61, t62, t63, t64, t65, t66, t67, t68, t69, t70, t71, t72, t73, t74, t75, t76, t77, t78, t79, t80, t81, t82, t83, t84, t85, t86, t87, t88, t89, t90, t91, t92, t93, t94, t95, t96, t97, t98, t99, t100, t101, t102, t103, t104, t105, t106, t107, t108, t109, t110, t111, t112, t113, t114, t115, t116, t117, t118, t119, t120, t121, t122, t123, t124, t125, t126, t127, t128, t129, t130, t131, t132, t133, t134, t135, t136, t137, t138, t139, t140, t141, t142, t143, t144, t145], defers := [] } z) := hid (by
    intro b8 b9 b10 wb nb mb V U z hq
    refine G_alt (l := [8, 11]) (by kernel_rfl) (by decide) ?_
    intro i hi
    have hi2 : i = 8 ∨ i = 11 := by simpa using hi
    clear hi
    rcases hi2 with rfl | rfl
    · refine ⟨{ dst := some 49, op := Op.call { callee := Callee.value (Operand.func 38), args := #[Operand.tmp 48], argTypes := #[23] }, type := 23, pos := _, after := #[{ on := 7, ground := Ground.data }, { on := 5, ground := Ground.chain }], guard := none }, rfl, fun K' hK => ?_⟩
      have hz := hq.low
      have HQ := hid hq
      clear hq
      go_simp
      refine (CB.out z hz).mono ?_
      rintro e z1 ⟨rfl, U1, H1⟩
      dsimp only
      have hq1 := HQ.out.c3 H1.out.2.1 H1.out.1 (Nat.le_refl _) H1.out.2.2
      refine hK.out _ _ (fun _ => HS.out _ hq1.low) (fun _ => ?_)
      (try simp only [List.setIfInBounds_toArray, List.set_cons_zero, List.set_cons_succ])
      exact K389.out b8 b9 b10 wb nb z.heap.size V U1 z1 hq1
    · refine ⟨{ dst := some 10, op := Op.alloc 23, type := 0, pos := _, after := #[], guard := none }, rfl, fun K' hK => ?_⟩
      have hq1 := hq.n10
      have HQ := hid hq1
      clear hq hq1
      go_simp
      refine hK.out _ _ (fun _ => HS.out _ HQ.out.low) (fun _ => ?_)
      (try simp only [List.setIfInBounds_toArray, List.set_cons_zero, List.set_cons_succ])
      exact K28910.out b8 b9 z.heap.size wb nb mb V U _ HQ.out)
  have K2810 : Hid (∀ (b8 b9 b10 wb nb mb : Nat) (V U : Nat → Value) (z : World), Q9 w0 A B wb nb mb V U 2 b8 b9 b10 true false true z → wpAnyG Tryd.prog .any (ops9 q0 q1 q2 q3 q4 q5 q6 q7 q8 q9 q10 q11 q12 q13 q14) Q (fun z : World => z.cell? ⟨b2, 0, none⟩ = some (.slice A.sa A.sn A.sc) ∧ z.cell? ⟨b2, 1, none⟩ = some (.slice A.na A.G A.nc) ∧ z.cell? ⟨b2, 2, none⟩ = some (.slice A.ma A.M A.mc) ∧ z.cell? ⟨b2, 3, none⟩ = some (.slice A.oa A.O A.oc) ∧ z.cell? ⟨b2, 4, none⟩ = some (.slice A.fa A.K A.fc) ∧ z.cell? ⟨b3, 0, none⟩ = some (.slice B.sa B.sn B.sc) ∧ z.cell? ⟨b3, 1, none⟩ = some (.slice B.na B.G B.nc) ∧ z.cell? ⟨b3, 2, none⟩ = some (.slice B.ma B.M B.mc) ∧ z.cell? ⟨b3, 3, none⟩ = some (.slice B.oa B.O B.oc) ∧ z.cell? ⟨b3, 4, none⟩ = some (.slice B.fa B.K B.fc)) (fun _ => false) 5 #[true, true, true, true, true, true, true, true, false, true, false, true, false, false, false] { tmps := #[t0, t1, (.pointer (some ⟨b2, 0, none⟩)), (.pointer (some ⟨b3, 0, none⟩)), t4, t5, t6, t7, (.pointer (some ⟨b8, 0, none⟩)), t9, (.pointer (some ⟨b10, 0, none⟩)), t11, t12, t13, t14, t15, t16, t17, t18, t19, t20, t21, t22, t23, t24, t25, t26, t27, t28, t29, t30, t31, t32, t33, t34, t35, t36, t37, t38, t39, t40, (.agg #[.slice A.sa A.sn A.sc, .slice A.na A.G A.nc, .slice A.ma A.M A.mc, .slice A.oa A.O A.oc, .slice A.fa A.K A.fc]), (.agg #[.slice B.sa B.sn B.sc, .slice B.na B.G B.nc, .slice B.ma B.M B.mc, .slice B.oa B.O B.oc, .slice B.fa B.K B.fc]), (.slice (some ⟨wb, 0, none⟩) A.G A.G), (.pointer (some ⟨b2, 1, none⟩)), (.slice A.na A.G A.nc), (.slice (some ⟨nb, 0, none⟩) A.G A.G), (.pointer (some ⟨b3, 1, none⟩)), (.slice B.na B.G B.nc), t49, t50, t51, t52, t53, t54, t55, t56, t57, t58, t59, t60, t61, t62, t63, t64, t65, t66, t67, t68, t69, t70, t71, t72, t73, t74, t75, t76, t77, t78, t79, t80, t81, t82, t83, t84, t85, t86, t87, t88, t89, t90, t91, t92, t93, t94, t95, t96, t97, t98, t99, t100, t101, t102, t103, t104, t105, t106, t107, t108, t109, t110, t111, t112, t113, t114, t115, t116, t117, t118, t119, t120, t121, t122, t123, t124, t125, t126, t127, t128, t129, t130, t131, t132, t133, t134, t135, t136, t137, t138, t139, t140, t141, t142, t143, t144, t145], defers := [] } z) := hid (by
    intro b8 b9 b10 wb nb mb V U z hq
    refine G_alt (l := [8, 10]) (by kernel_rfl) (by decide) ?_
    intro i hi
    have hi2 : i = 8 ∨ i = 10 := by simpa using hi
    clear hi
    rcases hi2 with rfl | rfl
    · refine ⟨{ dst := some 49, op := Op.call { callee := Callee.value (Operand.func 38), args := #[Operand.tmp 48], argTypes := #[23] }, type := 23, pos := _, after := #[{ on := 7, ground := Ground.data }, { on := 5, ground := Ground.chain }], guard := none }, rfl, fun K' hK => ?_⟩
      have hz := hq.low
      have HQ := hid hq
      clear hq
      go_simp
      refine (CB.out z hz).mono ?_
      rintro e z1 ⟨rfl, U1, H1⟩
      dsimp only
      have hq1 := HQ.out.c3 H1.out.2.1 H1.out.1 (Nat.le_refl _) H1.out.2.2
      refine hK.out _ _ (fun _ => HS.out _ hq1.low) (fun _ => ?_)
      (try simp only [List.setIfInBounds_toArray, List.set_cons_zero, List.set_cons_succ])
      exact K3810.out b8 b9 b10 wb nb z.heap.size V U1 z1 hq1
    · refine ⟨{ dst := some 9, op := Op.alloc 23, type := 0, pos := _, after := #[], guard := none }, rfl, fun K' hK => ?_⟩
      have hq1 := hq.n9
      have HQ := hid hq1
      clear hq hq1
      go_simp
      refine hK.out _ _ (fun _ => HS.out _ HQ.out.low) (fun _ => ?_)
      (try simp only [List.setIfInBounds_toArray, List.set_cons_zero, List.set_cons_succ])
      exact K28910.out b8 z.heap.size b10 wb nb mb V U _ HQ.out)
  have K2910 : Hid (∀ (b8 b9 b10 wb nb mb : Nat) (V U : Nat → Value) (z : World), Q9 w0 A B wb nb mb V U 2 b8 b9 b10 false true true z → wpAnyG Tryd.prog .any (ops9 q0 q1 q2 q3 q4 q5 q6 q7 q8 q9 q10 q11 q12 q13 q14) Q (fun z : World => z.cell? ⟨b2, 0, none⟩ = some (.slice A.sa A.sn A.sc) ∧ z.cell? ⟨b2, 1, none⟩ = some (.slice A.na A.G A.nc) ∧ z.cell? ⟨b2, 2, none⟩ = some (.slice A.ma A.M A.mc) ∧ z.cell? ⟨b2, 3, none⟩ = some (.slice A.oa A.O A.oc) ∧ z.cell? ⟨b2, 4, none⟩ = some (.slice A.fa A.K A.fc) ∧ z.cell? ⟨b3, 0, none⟩ = some (.slice B.sa B.sn B.sc) ∧ z.cell? ⟨b3, 1, none⟩ = some (.slice B.na B.G B.nc) ∧ z.cell? ⟨b3, 2, none⟩ = some (.slice B.ma B.M B.mc) ∧ z.cell? ⟨b3, 3, none⟩ = some (.slice B.oa B.O B.oc) ∧ z.cell? ⟨b3, 4, none⟩ = some (.slice B.fa B.K B.fc)) (fun _ => false) 5 #[true, true, true, true, true, true, true, true, false, false, true, true, false, false, false] { tmps := #[t0, t1, (.pointer (some ⟨b2, 0, none⟩)), (.pointer (some ⟨b3, 0, none⟩)), t4, t5, t6, t7, t8, (.pointer (some ⟨b9, 0, none⟩)), (.pointer (some ⟨b10, 0, none⟩)), t11, t12, t13, t14, t15, t16, t17, t18, t19, t20, t21, t22, t23, t24, t25, t26, t27, t28, t29, t30, t31, t32, t33, t34, t35, t36, t37, t38, t39, t40, (.agg #[.slice A.sa A.sn A.sc, .slice A.na A.G A.nc, .slice A.ma A.M A.mc, .slice A.oa A.O A.oc, .slice A.fa A.K A.fc]), (.agg #[.slice B.sa B.sn B.sc, .slice B.na B.G B.nc, .slice B.ma B.M B.mc, .slice B.oa B.O B.oc, .slice B.fa B.K B.fc]), (.slice (some ⟨wb, 0, none⟩) A.G A.G), (.pointer (some ⟨b2, 1, none⟩)), (.slice A.na A.G A.nc), (.slice (some ⟨nb, 0, none⟩) A.G A.G), (.pointer (some ⟨b3, 1, none⟩)), (.slice B.na B.G B.nc), t49, t50, t51, t52, t53, t54, t55, t56, t57, t58, t59, t60, t61, t62, t63, t64, t65, t66, t67, t68, t69, t70, t71, t72, t73, t74, t75, t76, t77, t78, t79, t80, t81, t82, t83, t84, t85, t86, t87, t88, t89, t90, t91, t92, t93, t94, t95, t96, t97, t98, t99, t100, t101, t102, t103, t104, t105, t106, t107, t108, t109, t110, t111, t112, t113, t114, t115, t116, t117, t118, t119, t120, t121, t122, t123, t124, t125, t126, t127, t128, t129, t130, t131, t132, t133, t134, t135, t136, t137, t138, t139, t140, t141, t142, t143, t144, t145], defers := [] } z) := hid (by
    intro b8 b9 b10 wb nb mb V U z hq
    refine G_alt (l := [8, 9]) (by kernel_rfl) (by decide) ?_
    intro i hi
    have hi2 : i = 8 ∨ i = 9 := by simpa using hi
    clear hi
    rcases hi2 with rfl | rfl
    · refine ⟨{ dst := some 49, op := Op.call { callee := Callee.value (Operand.func 38), args := #[Operand.tmp 48], argTypes := #[23] }, type := 23, pos := _, after := #[{ on := 7, ground := Ground.data }, { on := 5, ground := Ground.chain }], guard := none }, rfl, fun K' hK => ?_⟩
      have hz := hq.low
      have HQ := hid hq
      clear hq
      go_simp
      refine (CB.out z hz).mono ?_
      rintro e z1 ⟨rfl, U1, H1⟩
      dsimp only
      have hq1 := HQ.out.c3 H1.out.2.1 H1.out.1 (Nat.le_refl _) H1.out.2.2
      refine hK.out _ _ (fun _ => HS.out _ hq1.low) (fun _ => ?_)
      (try simp only [List.setIfInBounds_toArray, List.set_cons_zero, List.set_cons_succ])
      exact K3910.out b8 b9 b10 wb nb z.heap.size V U1 z1 hq1
    · refine ⟨{ dst := some 8, op := Op.alloc 47, type := 0, pos := _, after := #[], guard := none }, rfl, fun K' hK => ?_⟩
      have hq1 := hq.n8
      have HQ := hid hq1
      clear hq hq1
      go_simp
      refine hK.out _ _ (fun _ => HS.out _ HQ.out.low) (fun _ => ?_)
      (try simp only [List.setIfInBounds_toArray, List.set_cons_zero, List.set_cons_succ])
      exact K28910.out z.heap.size b9 b10 wb nb mb V U _ HQ.out)
  have K28 : Hid (∀ (b8 b9 b10 wb nb mb : Nat) (V U : Nat → Value) (z : World), Q9 w0 A B wb nb mb V U 2 b8 b9 b10 true false false z → wpAnyG Tryd.prog .any (ops9 q0 q1 q2 q3 q4 q5 q6 q7 q8 q9 q10 q11 q12 q13 q14) Q (fun z : World => z.cell? ⟨b2, 0, none⟩ = some (.slice A.sa A.sn A.sc) ∧ z.cell? ⟨b2, 1, none⟩ = some (.slice A.na A.G A.nc) ∧ z.cell? ⟨b2, 2, none⟩ = some (.slice A.ma A.M A.mc) ∧ z.cell? ⟨b2, 3, none⟩ = some (.slice A.oa A.O A.oc) ∧ z.cell? ⟨b2, 4, none⟩ = some (.slice A.fa A.K A.fc) ∧ z.cell? ⟨b3, 0, none⟩ = some (.slice B.sa B.sn B.sc) ∧ z.cell? ⟨b3, 1, none⟩ = some (.slice B.na B.G B.nc) ∧ z.cell? ⟨b3, 2, none⟩ = some (.slice B.ma B.M B.mc) ∧ z.cell? ⟨b3, 3, none⟩ = some (.slice B.oa B.O B.oc) ∧ z.cell? ⟨b3, 4, none⟩ = some (.slice B.fa B.K B.fc)) (fun _ => false) 6 #[true, true, true, true, true, true, true, true, false, true, false, false, false, false, false] { tmps := #[t0, t1, (.pointer (some ⟨b2, 0, none⟩)), (.pointer (some ⟨b3, 0, none⟩)), t4, t5, t6, t7, (.pointer (some ⟨b8, 0, none⟩)), t9, t10, t11, t12, t13, t14, t15, t16, t17, t18, t19, t20, t21, t22, t23, t24, t25, t26, t27, t28, t29, t30, t31, t32, t33, t34, t35, t36, t37, t38, t39, t40, (.agg #[.slice A.sa A.sn A.sc, .slice A.na A.G A.nc, .slice A.ma A.M A.mc, .slice A.oa A.O A.oc, .slice A.fa A.K A.fc]), (.agg #[.slice B.sa B.sn B.sc, .slice B.na B.G B.nc, .slice B.ma B.M B.mc, .slice B.oa B.O B.oc, .slice B.fa B.K B.fc]), (.slice (some ⟨wb, 0, none⟩) A.G A.G), (.pointer (some ⟨b2, 1, none⟩)), (.slice A.na A.G A.nc), (.slice (some ⟨nb, 0, none⟩) A.G A.G), (.pointer (some ⟨b3, 1, none⟩)), (.slice B.na B.G B.nc), t49, t50, t51, t52, t53, t54, t55, t56, t57, t58, t59, t60, t61, t62, t63, t64, t65, t66, t67, t68, t69, t70, t71, t72, t73, t74, t75, t76, t77, t78, t79, t80, t81, t82, t83, t84, t85, t86, t87, t88, t89, t90, t91, t92, t93, t94, t95, t96, t97, t98, t99, t100, t101, t102, t103, t104, t105, t106, t107, t108, t109, t110, t111, t112, t113, t114, t115, t116, t117, t118, t119, t120, t121, t122, t123, t124, t125, t126, t127, t128, t129, t130, t131, t132, t133, t134, t135, t136, t137, t138, t139, t140, t141, t142, t143, t144, t145], defers := [] } z) := hid (by
    intro b8 b9 b10 wb nb mb V U z hq
    refine G_alt (l := [8, 10, 11]) (by kernel_rfl) (by decide) ?_
    intro i hi
    have hi2 : i = 8 ∨ i = 10 ∨ i = 11 := by simpa using hi
    clear hi
    rcases hi2 with rfl | rfl | rfl
    · refine ⟨{ dst := some 49, op := Op.call { callee := Callee.value (Operand.func 38), args := #[Operand.tmp 48], argTypes := #[23] }, type := 23, pos := _, after := #[{ on := 7, ground := Ground.data }, { on := 5, ground := Ground.chain }], guard := none }, rfl, fun K' hK => ?_⟩
      have hz := hq.low
      have HQ := hid hq
      clear hq
      go_simp
      refine (CB.out z hz).mono ?_
      rintro e z1 ⟨rfl, U1, H1⟩
      dsimp only
      have hq1 := HQ.out.c3 H1.out.2.1 H1.out.1 (Nat.le_refl _) H1.out.2.2
      refine hK.out _ _ (fun _ => HS.out _ hq1.low) (fun _ => ?_)
      (try simp only [List.setIfInBounds_toArray, List.set_cons_zero, List.set_cons_succ])
      exact K38.out b8 b9 b10 wb nb z.heap.size V U1 z1 hq1
    · refine ⟨{ dst := some 9, op := Op.alloc 23, type := 0, pos := _, after := #[], guard := none }, rfl, fun K' hK => ?_⟩
      have hq1 := hq.n9
      have HQ := hid hq1
      clear hq hq1
      go_simp
      refine hK.out _ _ (fun _ => HS.out _ HQ.out.low) (fun _ => ?_)
      (try simp only [List.setIfInBounds_toArray, List.set_cons_zero, List.set_cons_succ])
      exact K289.out b8 z.heap.size b10 wb nb mb V U _ HQ.out
    · refine ⟨{ dst := some 10, op := Op.alloc 23, type := 0, pos := _, after := #[], guard := none }, rfl, fun K' hK => ?_⟩
      have hq1 := hq.n10
      have HQ := hid hq1
      clear hq hq1
      go_simp
      refine hK.out _ _ (fun _ => HS.out _ HQ.out.low) (fun _ => ?_)
      (try simp only [List.setIfInBounds_toArray, List.set_cons_zero, List.set_cons_succ])
      exact K2810.out b8 b9 z.heap.size wb nb mb V U _ HQ.out)
  have K29 : Hid (∀ (b8 b9 b10 wb nb mb : Nat) (V U : Nat → Value) (z : World), Q9 w0 A B wb nb mb V U 2 b8 b9 b10 false true false z → wpAnyG Tryd.prog .any (ops9 q0 q1 q2 q3 q4 q5 q6 q7 q8 q9 q10 q11 q12 q13 q14) Q (fun z : World => z.cell? ⟨b2, 0, none⟩ = some (.slice A.sa A.sn A.sc) ∧ z.cell? ⟨b2, 1, none⟩ = some (.slice A.na A.G A.nc) ∧ z.cell? ⟨b2, 2, none⟩ = some (.slice A.ma A.M A.mc) ∧ z.cell? ⟨b2, 3, none⟩ = some (.slice A.oa A.O A.oc) ∧ z.cell? ⟨b2, 4, none⟩ = some (.slice A.fa A.K A.fc) ∧ z.cell? ⟨b3, 0, none⟩ = some (.slice B.sa B.sn B.sc) ∧ z.cell? ⟨b3, 1, none⟩ = some (.slice B.na B.G B.nc) ∧ z.cell? ⟨b3, 2, none⟩ = some (.slice B.ma B.M B.mc) ∧ z.cell? ⟨b3, 3, none⟩ = some (.slice B.oa B.O B.oc) ∧ z.cell? ⟨b3, 4, none⟩ = some (.slice B.fa B.K B.fc)) (fun _ => false) 6 #[true, true, true, true, true, true, true, true, false, false, true, false, false, false, false] { tmps := #[t0, t1, (.pointer (some ⟨b2, 0, none⟩)), (.pointer (some ⟨b3, 0, none⟩)), t4, t5, t6, t7, t8, (.pointer (some ⟨b9, 0, none⟩)), t10, t11, t12, t13, t14, t15, t16, t17, t18, t19, t20, t21, t22, t23, t24, t25, t26, t27, t28, t29, t30, t31, t32, t33, t34, t35, t36, t37, t38, t39, t40, (.agg #[.slice A.sa A.sn A.sc, .slice A.na A.G A.nc, .slice A.ma A.M A.mc, .slice A.oa A.O A.oc, .slice A.fa A.K A.fc]), (.agg #[.slice B.sa B.sn B.sc, .slice B.na B.G B.nc, .slice B.ma B.M B.mc, .slice B.oa B.O B.oc, .slice B.fa B.K B.fc]), (.slice (some ⟨wb, 0, none⟩) A.G A.G), (.pointer (some ⟨b2, 1, none⟩)), (.slice A.na A.G A.nc), (.slice (some ⟨nb, 0, none⟩) A.G A.G), (.pointer (some ⟨b3, 1, none⟩)), (.slice B.na B.G B.nc), t49, t50, t51, t52, t53, t54, t55, t56, t57, t58, t59, t60, t61, t62, t63, t64, t65, t66, t67, t68, t69, t70, t71, t72, t73, t74, t75, t76, t77, t78, t79, t80, t81, t82, t83, t84, t85, t86, t87, t88, t89, t90, t91, t92, t93, t94, t95, t96, t97, t98, t99, t100, t101, t102, t103, t104, t105, t106, t107, t108, t109, t110, t111, t112, t113, t114, t115, t116, t117, t118, t119, t120, t121, t122, t123, t124, t125, t126, t127, t128, t129, t130, t131, t132, t133, t134, t135, t136, t137, t138, t139, t140, t141, t142, t143, t144, t145], defers := [] } z) := hid (by
    intro b8 b9 b10 wb nb mb V U z hq
    refine G_alt (l := [8, 9, 11]) (by kernel_rfl) (by decide) ?_
    intro i hi
    have hi2 : i = 8 ∨ i = 9 ∨ i = 11 := by simpa using hi
    clear hi
    rcases hi2 with rfl | rfl | rfl
    · refine ⟨{ dst := some 49, op := Op.call { callee := Callee.value (Operand.func 38), args := #[Operand.tmp 48], argTypes := #[23] }, type := 23, pos := _, after := #[{ on := 7, ground := Ground.data }, { on := 5, ground := Ground.chain }], guard := none }, rfl, fun K' hK => ?_⟩
      have hz := hq.low
      have HQ := hid hq
      clear hq
      go_simp
      refine (CB.out z hz).mono ?_
      rintro e z1 ⟨rfl, U1, H1⟩
      dsimp only
      have hq1 := HQ.out.c3 H1.out.2.1 H1.out.1 (Nat.le_refl _) H1.out.2.2
      refine hK.out _ _ (fun _ => HS.out _ hq1.low) (fun _ => ?_)
      (try simp only [List.setIfInBounds_toArray, List.set_cons_zero, List.set_cons_succ])
      exact K39.out b8 b9 b10 wb nb z.heap.size V U1 z1 hq1
    · refine ⟨{ dst := some 8, op := Op.alloc 47, type := 0, pos := _, after := #[], guard := none }, rfl, fun K' hK => ?_⟩
      have hq1 := hq.n8
      have HQ := hid hq1
      clear hq hq1
      go_simp
      refine hK.out _ _ (fun _ => HS.out _ HQ.out.low) (fun _ => ?_)
      (try simp only [List.setIfInBounds_toArray, List.set_cons_zero, List.set_cons_succ])
      exact K289.out z.heap.size b9 b10 wb nb mb V U _ HQ.out
    · refine ⟨{ dst := some 10, op := Op.alloc 23, type := 0, pos := _, after := #[], guard := none }, rfl, fun K' hK => ?_⟩
      have hq1 := hq.n10
      have HQ := hid hq1
      clear hq hq1
      go_simp
      refine hK.out _ _ (fun _ => HS.out _ HQ.out.low) (fun _ => ?_)
      (try simp only [List.setIfInBounds_toArray, List.set_cons_zero, List.set_cons_succ])
      exact K2910.out b8 b9 z.heap.size wb nb mb V U _ HQ.out)
  have K210 : Hid (∀ (b8 b9 b10 wb nb mb : Nat) (V U : Nat → Value) (z : World), Q9 w0 A B wb nb mb V U 2 b8 b9 b10 false false true z → wpAnyG Tryd.prog .any (ops9 q0 q1 q2 q3 q4 q5 q6 q7 q8 q9 q10 q11 q12 q13 q14) Q (fun z : World => z.cell? ⟨b2, 0, none⟩ = some (.slice A.sa A.sn A.sc) ∧ z.cell? ⟨b2, 1, none⟩ = some (.slice A.na A.G A.nc) ∧ z.cell? ⟨b2, 2, none⟩ = some (.slice A.ma A.M A.mc) ∧ z.cell? ⟨b2, 3, none⟩ = some (.slice A.oa A.O A.oc) ∧ z.cell? ⟨b2, 4, none⟩ = some (.slice A.fa A.K A.fc) ∧ z.cell? ⟨b3, 0, none⟩ = some (.slice B.sa B.sn B.sc) ∧ z.cell? ⟨b3, 1, none⟩ = some (.slice B.na B.G B.nc) ∧ z.cell? ⟨b3, 2, none⟩ = some (.slice B.ma B.M B.mc) ∧ z.cell? ⟨b3, 3, none⟩ = some (.slice B.oa B.O B.oc) ∧ z.cell? ⟨b3, 4, none⟩ = some (.slice B.fa B.K B.fc)) (fun _ => false) 6 #[true, true, true, true, true, true, true, true, false, false, false, true, false, false, false] { tmps := #[t0, t1, (.pointer (some ⟨b2, 0, none⟩)), (.pointer (some ⟨b3, 0, none⟩)), t4, t5, t6, t7, t8, t9, (.pointer (some ⟨b10, 0, none⟩)), t11, t12, t13, t14, t15, t16, t17, t18, t19, t20, t21, t22, t23, t24, t25, t26, t27, t28, t29, t30, t31, t32, t33, t34, t35, t36, t37, t38, t39, t40, (.agg #[.slice A.sa A.sn A.sc, .slice A.na A.G A.nc, .slice A.ma A.M A.mc, .slice A.oa A.O A.oc, .slice A.fa A.K A.fc]), (.agg #[.slice B.sa B.sn B.sc, .slice B.na B.G B.nc, .slice B.ma B.M B.mc, .slice B.oa B.O B.oc, .slice B.fa B.K B.fc]), (.slice (some ⟨wb, 0, none⟩) A.G A.G), (.pointer (some ⟨b2, 1, none⟩)), (.slice A.na A.G A.nc), (.slice (some ⟨nb, 0, none⟩) A.G A.G), (.pointer (some ⟨b3, 1, none⟩)), (.slice B.na B.G B.nc), t49, t50, t51, t52, t53, t54, t55, t56, t57, t58, t59, t60, t61, t62, t63, t64, t65, t66, t67, t68, t69, t70, t71, t72, t73, t74, t75, t76, t77, t78, t79, t80, t81, t82, t83, t84, t85, t86, t87, t88, t89, t90, t91, t92, t93, t94, t95, t96, t97, t98, t99, t100, t101, t102, t103, t104, t105, t106, t107, t108, t109, t110, t111, t112, t113, t114, t115, t116, t117, t118, t119, t120, t121, t122, t123, t124, t125, t126, t127, t128, t129, t130, t131, t132, t133, t134, t135, t136, t137, t138, t139, t140, t141, t142, t143, t144, t145], defers := [] } z) := hid (by
    intro b8 b9 b10 wb nb mb V U z hq
    refine G_alt (l := [8, 9, 10]) (by kernel_rfl) (by decide) ?_
    intro i hi
    have hi2 : i = 8 ∨ i = 9 ∨ i = 10 := by simpa using hi
    clear hi
    rcases hi2 with rfl | rfl | rfl
    · refine ⟨{ dst := some 49, op := Op.call { callee := Callee.value (Operand.func 38), args := #[Operand.tmp 48], argTypes := #[23] }, type := 23, pos := _, after := #[{ on := 7, ground := Ground.data }, { on := 5, ground := Ground.chain }], guard := none }, rfl, fun K' hK => ?_⟩
      have hz := hq.low
      have HQ := hid hq
      clear hq
      go_simp
      refine (CB.out z hz).mono ?_
      rintro e z1 ⟨rfl, U1, H1⟩
      dsimp only
      have hq1 := HQ.out.c3 H1.out.2.1 H1.out.1 (Nat.le_refl _) H1.out.2.2
      refine hK.out _ _ (fun _ => HS.out _ hq1.low) (fun _ => ?_)
      (try simp only [List.setIfInBounds_toArray, List.set_cons_zero, List.set_cons_succ])
      exact K310.out b8 b9 b10 wb nb z.heap.size V U1 z1 hq1
    · refine ⟨{ dst := some 8, op := Op.alloc 47, type := 0, pos := _, after := #[], guard := none }, rfl, fun K' hK => ?_⟩
      have hq1 := hq.n8
      have HQ := hid hq1
      clear hq hq1
      go_simp
      refine hK.out _ _ (fun _ => HS.out _ HQ.out.low) (fun _ => ?_)
      (try simp only [List.setIfInBounds_toArray, List.set_cons_zero, List.set_cons_succ])
      exact K2810.out z.heap.size b9 b10 wb nb mb V U _ HQ.out
    · refine ⟨{ dst := some 9, op := Op.alloc 23, type := 0, pos := _, after := #[], guard := none }, rfl, fun K' hK => ?_⟩
      have hq1 := hq.n9
      have HQ := hid hq1
      clear hq hq1
      go_simp
      refine hK.out _ _ (fun _ => HS.out _ HQ.out.low) (fun _ => ?_)
      (try simp only [List.setIfInBounds_toArray, List.set_cons_zero, List.set_cons_succ])
      exact K2910.out b8 z.heap.size b10 wb nb mb V U _ HQ.out)
  have K2 : Hid (∀ (b8 b9 b10 wb nb mb : Nat) (V U : Nat → Value) (z : World), Q9 w0 A B wb nb mb V U 2 b8 b9 b10 false false false z → wpAnyG Tryd.prog .any (ops9 q0 q1 q2 q3 q4 q5 q6 q7 q8 q9 q10 q11 q12 q13 q14) Q (fun z : World => z.cell? ⟨b2, 0, none⟩ = some (.slice A.sa A.sn A.sc) ∧ z.cell? ⟨b2, 1, none⟩ = some (.slice A.na A.G A.nc) ∧ z.cell? ⟨b2, 2, none⟩ = some (.slice A.ma A.M A.mc) ∧ z.cell? ⟨b2, 3, none⟩ = some (.slice A.oa A.O A.oc) ∧ z.cell? ⟨b2, 4, none⟩ = some (.slice A.fa A.K A.fc) ∧ z.cell? ⟨b3, 0, none⟩ = some (.slice B.sa B.sn B.sc) ∧ z.cell? ⟨b3, 1, none⟩ = some (.slice B.na B.G B.nc) ∧ z.cell? ⟨b3, 2, none⟩ = some (.slice B.ma B.M B.mc) ∧ z.cell? ⟨b3, 3, none⟩ = some (.slice B.oa B.O B.oc) ∧ z.cell? ⟨b3, 4, none⟩ = some (.slice B.fa B.K B.fc)) (fun _ => false) 7 #[true, true, true, true, true, true, true, true, false, false, false, false, false, false, false] { tmps := #[t0, t1, (.pointer (some ⟨b2, 0, none⟩)), (.pointer (some ⟨b3, 0, none⟩)), t4, t5, t6, t7, t8, t9, t10, t11, t12, t13, t14, t15, t16, t17, t18, t19, t20, t21, t22, t23, t24, t25, t26, t27, t28, t29, t30, t31, t32, t33, t34, t35, t36, t37, t38, t39, t40, (.agg #[.slice A.sa A.sn A.sc, .slice A.na A.G A.nc, .slice A.ma A.M A.mc, .slice A.oa A.O A.oc, .slice A.fa A.K A.fc]), (.agg #[.slice B.sa B.sn B.sc, .slice B.na B.G B.nc, .slice B.ma B.M B.mc, .slice B.oa B.O B.oc, .slice B.fa B.K B.fc]), (.slice (some ⟨wb, 0, none⟩) A.G A.G), (.pointer (some ⟨b2, 1, none⟩)), (.slice A.na A.G A.nc), (.slice (some ⟨nb, 0, none⟩) A.G A.G), (.pointer (some ⟨b3, 1, none⟩)), (.slice B.na B.G B.nc), t49, t50, t51, t52, t53, t54, t55, t56, t57, t58, t59, t60, t61, t62, t63, t64, t65, t66, t67, t68, t69, t70, t71, t72, t73, t74, t75, t76, t77, t78, t79, t80, t81, t82, t83, t84, t85, t86, t87, t88, t89, t90, t91, t92, t93, t94, t95, t96, t97, t98, t99, t100, t101, t102, t103, t104, t105, t106, t107, t108, t109, t110, t111, t112, t113, t114, t115, t116, t117, t118, t119, t120, t121, t122, t123, t124, t125, t126, t127, t128, t129, t130, t131, t132, t133, t134, t135, t136, t137, t138, t139, t140, t141, t142, t143, t144, t145], defers := [] } z) := hid (by
    intro b8 b9 b10 wb nb mb V U z hq
    refine G_alt (l := [8, 9, 10, 11]) (by kernel_rfl) (by decide) ?_
    intro i hi
    have hi2 : i = 8 ∨ i = 9 ∨ i = 10 ∨ i = 11 := by simpa using hi
    clear hi
    rcases hi2 with rfl | rfl | rfl | rfl
    · refine ⟨{ dst := some 49, op := Op.call { callee := Callee.value (Operand.func 38), args := #[Operand.tmp 48], argTypes := #[23] }, type := 23, pos := _, after := #[{ on := 7, ground := Ground.data }, { on := 5, ground := Ground.chain }], guard := none }, rfl, fun K' hK => ?_⟩
      have hz := hq.low
      have HQ := hid hq
      clear hq
      go_simp
      refine (CB.out z hz).mono ?_
      rintro e z1 ⟨rfl, U1, H1⟩
      dsimp only
      have hq1 := HQ.out.c3 H1.out.2.1 H1.out.1 (Nat.le_refl _) H1.out.2.2
      refine hK.out _ _ (fun _ => HS.out _ hq1.low) (fun _ => ?_)
      (try simp only [List.setIfInBounds_toArray, List.set_cons_zero, List.set_cons_succ])
      exact K3.out b8 b9 b10 wb nb z.heap.size V U1 z1 hq1
    · refine ⟨{ dst := some 8, op := Op.alloc 47, type := 0, pos := _, after := #[], guard := none }, rfl, fun K' hK => ?_⟩
      have hq1 := hq.n8
      have HQ := hid hq1
      clear hq hq1
      go_simp
      refine hK.out _ _ (fun _ => HS.out _ HQ.out.low) (fun _ => ?_)
      (try simp only [List.setIfInBounds_toArray, List.set_cons_zero, List.set_cons_succ])
      exact K28.out z.heap.size b9 b10 wb nb mb V U _ HQ.out
    · refine ⟨{ dst := some 9, op := Op.alloc 23, type := 0, pos := _, after := #[], guard := none }, rfl, fun K' hK => ?_⟩
      have hq1 := hq.n9
      have HQ := hid hq1
      clear hq hq1
      go_simp
      refine hK.out _ _ (fun _ => HS.out _ HQ.out.low) (fun _ => ?_)
      (try simp only [List.setIfInBounds_toArray, List.set_cons_zero, List.set_cons_succ])
      exact K29.out b8 z.heap.size b10 wb nb mb V U _ HQ.out
    · refine ⟨{ dst := some 10, op := Op.alloc 23, type := 0, pos := _, after := #[], guard := none }, rfl, fun K' hK => ?_⟩
      have hq1 := hq.n10
      have HQ := hid hq1
      clear hq hq1
      go_simp
      refine hK.out _ _ (fun _ => HS.out _ HQ.out.low) (fun _ => ?_)
      (try simp only [List.setIfInBounds_toArray, List.set_cons_zero, List.set_cons_succ])
      exact K210.out b8 b9 z.heap.size wb nb mb V U _ HQ.out)
  have K18910 : Hid (∀ (b8 b9 b10 wb nb mb : Nat) (V U : Nat → Value) (z : World), Q9 w0 A B wb nb mb V U 1 b8 b9 b10 true true true z → wpAnyG Tryd.prog .any (ops9 q0 q1 q2 q3 q4 q5 q6 q7 q8 q9 q10 q11 q12 q13 q14) Q (fun z : World => z.cell? ⟨b2, 0, none⟩ = some (.slice A.sa A.sn A.sc) ∧ z.cell? ⟨b2, 1, none⟩ = some (.slice A.na A.G A.nc) ∧ z.cell? ⟨b2, 2, none⟩ = some (.slice A.ma A.M A.mc) ∧ z.cell? ⟨b2, 3, none⟩ = some (.slice A.oa A.O A.oc) ∧ z.cell? ⟨b2, 4, none⟩ = some (.slice A.fa A.K A.fc) ∧ z.cell? ⟨b3, 0, none⟩ = some (.slice B.sa B.sn B.sc) ∧ z.cell? ⟨b3, 1, none⟩ = some (.slice B.na B.G B.nc) ∧ z.cell? ⟨b3, 2, none⟩ = some (.slice B.ma B.M B.mc) ∧ z.cell? ⟨b3, 3, none⟩ = some (.slice B.oa B.O B.oc) ∧ z.cell? ⟨b3, 4, none⟩ = some (.slice B.fa B.K B.fc)) (fun _ => false) 5 #[true, true, true, true, true, false, true, true, false, true, true, true, false, false, false] { tmps := #[t0, t1, (.pointer (some ⟨b2, 0, none⟩)), (.pointer (some ⟨b3, 0, none⟩)), t4, t5, t6, t7, (.pointer (some ⟨b8, 0, none⟩)), (.pointer (some ⟨b9, 0, none⟩)), (.pointer (some ⟨b10, 0, none⟩)), t11, t12, t13, t14, t15, t16, t17, t18, t19, t20, t21, t22, t23, t24, t25, t26, t27, t28, t29, t30, t31, t32, t33, t34, t35, t36, t37, t38, t39, t40, (.agg #[.slice A.sa A.sn A.sc, .slice A.na A.G A.nc, .slice A.ma A.M A.mc, .slice A.oa A.O A.oc, .slice A.fa A.K A.fc]), (.agg #[.slice B.sa B.sn B.sc, .slice B.na B.G B.nc, .slice B.ma B.M B.mc, .slice B.oa B.O B.oc, .slice B.fa B.K B.fc]), (.slice (some ⟨wb, 0, none⟩) A.G A.G), (.pointer (some ⟨b2, 1, none⟩)), (.slice A.na A.G A.nc), t46, (.pointer (some ⟨b3, 1, none⟩)), (.slice B.na B.G B.nc), t49, t50, t51, t52, t53, t54, t55, t56, t57, t58, t59, t60, t61, t62, t63, t64, t65, t66, t67, t68, t69, t70, t71, t72, t73, t74, t75, t76, t77, t78, t79, t80, t81, t82, t83, t84, t85, t86, t87, t88, t89, t90, t91, t92, t93, t94, t95, t96, t97, t98, t99, t100, t101, t102, t103, t104, t105, t106, t107, t108, t109, t110, t111, t112, t113, t114, t115, t116, t117, t118, t119, t120, t121, t122, t123, t124, t125, t126, t127, t128, t129, t130, t131, t132, t133, t134, t135, t136, t137, t138, t139, t140, t141, t142, t143, t144, t145], defers := [] } z) := hid (by
    intro b8 b9 b10 wb nb mb V U z hq
    refine G_alt (l := [5]) (by kernel_rfl) (by decide) ?_
    intro i hi
    obtain rfl : i = 5 := by simpa using hi
    clear hi
    · refine ⟨{ dst := some 46, op := Op.call { callee := Callee.value (Operand.func 38), args := #[Operand.tmp 45], argTypes := #[23] }, type := 23, pos := _, after := #[{ on := 4, ground := Ground.data }, { on := 2, ground := Ground.chain }], guard := none }, rfl, fun K' hK => ?_⟩
      have hz := hq.low
      have HQ := hid hq
      clear hq
      go_simp
      refine (CA.out z hz).mono ?_
      rintro e z1 ⟨rfl, V1, H1⟩
      dsimp only
      have hq1 := HQ.out.c2 H1.out.2.1 H1.out.1 (Nat.le_refl _) H1.out.2.2
      refine hK.out _ _ (fun _ => HS.out _ hq1.low) (fun _ => ?_)
      (try simp only [List.setIfInBounds_toArray, List.set_cons_zero, List.set_cons_succ])
      exact K28910.out b8 b9 b10 wb z.heap.size mb V1 U z1 hq1)
  have K189 : Hid (∀ (b8 b9 b10 wb nb mb : Nat) (V U : Nat → Value) (z : World), Q9 w0 A B wb nb mb V U 1 b8 b9 b10 true true false z → wpAnyG Tryd.prog .any (ops9 q0 q1 q2 q3 q4 q5 q6 q7 q8 q9 q10 q11 q12 q13 q14) Q (fun z : World => z.cell? ⟨b2, 0, none⟩ = some (.slice A.sa A.sn A.sc) ∧ z.cell? ⟨b2, 1, none⟩ = some (.slice A.na A.G A.nc) ∧ z.cell? ⟨b2, 2, none⟩ = some (.slice A.ma A.M A.mc) ∧ z.cell? ⟨b2, 3, none⟩ = some (.slice A.oa A.O A.oc) ∧ z.cell? ⟨b2, 4, none⟩ = some (.slice A.fa A.K A.fc) ∧ z.cell? ⟨b3, 0, none⟩ = some (.slice B.sa B.sn B.sc) ∧ z.cell? ⟨b3, 1, none⟩ = some (.slice B.na B.G B.nc) ∧ z.cell? ⟨b3, 2, none⟩ = some (.slice B.ma B.M B.mc) ∧ z.cell? ⟨b3, 3, none⟩ = some (.slice B.oa B.O B.oc) ∧ z.cell? ⟨b3, 4, none⟩ = some (.slice B.fa B.K B.fc)) (fun _ => false) 6 #[true, true, true, true, true, false, true, true, false, true, true, false, false, false, false] { tmps := #[t0, t1, (.pointer (some ⟨b2, 0, none⟩)), (.pointer (some ⟨b3, 0, none⟩)), t4, t5, t6, t7, (.pointer (some ⟨b8, 0, none⟩)), (.pointer (some ⟨b9, 0, none⟩)), t10, t11, t12, t13, t14, t15, t16, t17, t18, t19, t20, t21, t22, t23, t24, t25, t26, t27, t28, t29, t30, t31, t32, t33, t34, t35, t36, t37, t38, t39, t40, (.agg #[.slice A.sa A.sn A.sc, .slice A.na A.G A.nc, .slice A.ma A.M A.mc, .slice A.oa A.O A.oc, .slice A.fa A.K A.fc]), (.agg #[.slice B.sa B.sn B.sc, .slice B.na B.G B.nc, .slice B.ma B.M B.mc, .slice B.oa B.O B.oc, .slice B.fa B.K B.fc]), (.slice (some ⟨wb, 0, none⟩) A.G A.G), (.pointer (some ⟨b2, 1, none⟩)), (.slice A.na A.G A.nc), t46, (.pointer (some ⟨b3, 1, none⟩)), (.slice B.na B.G B.nc), t49, t50, t51, t52, t53, t54, t55, t56, t57, t58, t59, t60, t61, t62, t63, t64, t65, t66, t67, t68, t69, t70, t71, t72, t73, t74, t75, t76, t77, t78, t79, t80, t81, t82, t83, t84, t85, t86, t87, t88, t89, t90, t91, t92, t93, t94, t95, t96, t97, t98, t99, t100, t101, t102, t103, t104, t105, t106, t107, t108, t109, t110, t111, t112, t113, t114, t115, t116, t117, t118, t119, t120, t121, t122, t123, t124, t125, t126, t127, t128, t129, t130, t131, t132, t133, t134, t135, t136, t137, t138, t139, t140, t141, t142, t143, t144, t145], defers := [] } z) := hid (by
    intro b8 b9 b10 wb nb mb V U z hq
    refine G_alt (l := [5, 11]) (by kernel_rfl) (by decide) ?_
    intro i hi
    have hi2 : i = 5 ∨ i = 11 := by simpa using hi
    clear hi
    rcases hi2 with rfl | rfl
    · refine ⟨{ dst := some 46, op := Op.call { callee := Callee.value (Operand.func 38), args := #[Operand.tmp 45], argTypes := #[23] }, type := 23, pos := _, after := #[{ on := 4, ground := Ground.data }, { on := 2, ground := Ground.chain }], guard := none }, rfl, fun K' hK => ?_⟩
      have hz := hq.low
      have HQ := hid hq
      clear hq
      go_simp
      refine (CA.out z hz).mono ?_
      rintro e z1 ⟨rfl, V1, H1⟩
      dsimp only
      have hq1 := HQ.out.c2 H1.out.2.1 H1.out.1 (Nat.le_refl _) H1.out.2.2
      refine hK.out _ _ (fun _ => HS.out _ hq1.low) (fun _ => ?_)
      (try simp only [List.setIfInBounds_toArray, List.set_cons_zero, List.set_cons_succ])
      exact K289.out b8 b9 b10 wb z.heap.size mb V1 U z1 hq1
    · refine ⟨{ dst := some 10, op := Op.alloc 23, type := 0, pos := _, after := #[], guard := none }, rfl, fun K' hK => ?_⟩
      have hq1 := hq.n10
      have HQ := hid hq1
      clear hq hq1
      go_simp
      refine hK.out _ _ (fun _ => HS.out _ HQ.out.low) (fun _ => ?_)
      (try simp only [List.setIfInBounds_toArray, List.set_cons_zero, List.set_cons_succ])
      exact K18910.out b8 b9 z.heap.size wb nb mb V U _ HQ.out)
  have K1810 : Hid (∀ (b8 b9 b10 wb nb mb : Nat) (V U : Nat → Value) (z : World), Q9 w0 A B wb nb mb V U 1 b8 b9 b10 true false true z → wpAnyG Tryd.prog .any (ops9 q0 q1 q2 q3 q4 q5 q6 q7 q8 q9 q10 q11 q12 q13 q14) Q (fun z : World => z.cell? ⟨b2, 0, none⟩ = some (.slice A.sa A.sn A.sc) ∧ z.cell? ⟨b2, 1, none⟩ = some (.slice A.na A.G A.nc) ∧ z.cell? ⟨b2, 2, none⟩ = some (.slice A.ma A.M A.mc) ∧ z.cell? ⟨b2, 3, none⟩ = some (.slice A.oa A.O A.oc) ∧ z.cell? ⟨b2, 4, none⟩ = some (.slice A.fa A.K A.fc) ∧ z.cell? ⟨b3, 0, none⟩ = some (.slice B.sa B.sn B.sc) ∧ z.cell? ⟨b3, 1, none⟩ = some (.slice B.na B.G B.nc) ∧ z.cell? ⟨b3, 2, none⟩ = some (.slice B.ma B.M B.mc) ∧ z.cell? ⟨b3, 3, none⟩ = some (.slice B.oa B.O B.oc) ∧ z.cell? ⟨b3, 4, none⟩ = some (.slice B.fa B.K B.fc)) (fun _ => false) 6 #[true, true, true, true, true, false, true, true, false, true, false, true, false, false, false] { tmps := #[t0, t1, (.pointer (some ⟨b2, 0, none⟩)), (.pointer (some ⟨b3, 0, none⟩)), t4, t5, t6, t7, (.pointer (some ⟨b8, 0, none⟩)), t9, (.pointer (some ⟨b10, 0, none⟩)), t11, t12, t13, t14, t15, t16, t17, t18, t19, t20, t21, t22, t23, t24, t25, t26, t27, t28, t29, t30, t31, t32, t33, t34, t35, t36, t37, t38, t39, t40, (.agg #[.slice A.sa A.sn A.sc, .slice A.na A.G A.nc, .slice A.ma A.M A.mc, .slice A.oa A.O A.oc, .slice A.fa A.K A.fc]), (.agg #[.slice B.sa B.sn B.sc, .slice B.na B.G B.nc, .slice B.ma B.M B.mc, .slice B.oa B.O B.oc, .slice B.fa B.K B.fc]), (.slice (some ⟨wb, 0, none⟩) A.G A.G), (.pointer (some ⟨b2, 1, none⟩)), (.slice A.na A.G A.nc), t46, (.pointer (some ⟨b3, 1, none⟩)), (.slice B.na B.G B.nc), t49, t50, t51, t52, t53, t54, t55, t56, t57, t58, t59, t60, t61, t62, t63, t64, t65, t66, t67, t68, t69, t70, t71, t72, t73, t74, t75, t76, t77, t78, t79, t80, t81, t82, t83, t84, t85, t86, t87, t88, t89, t90, t91, t92, t93, t94, t95, t96, t97, t98, t99, t100, t101, t102, t103, t104, t105, t106, t107, t108, t109, t110, t111, t112, t113, t114, t115, t116, t117, t118, t119, t120, t121, t122, t123, t124, t125, t126, t127, t128, t129, t130, t131, t132, t133, t134, t135, t136, t137, t138, t139, t140, t141, t142, t143, t144, t145], defers := [] } z) := hid (by
    intro b8 b9 b10 wb nb mb V U z hq
    refine G_alt (l := [5, 10]) (by kernel_rfl) (by decide) ?_
    intro i hi
    have hi2 : i = 5 ∨ i = 10 := by simpa using hi
    clear hi
    rcases hi2 with rfl | rfl
    · refine ⟨{ dst := some 46, op := Op.call { callee := Callee.value (Operand.func 38), args := #[Operand.tmp 45], argTypes := #[23] }, type := 23, pos := _, after := #[{ on := 4, ground := Ground.data }, { on := 2, ground := Ground.chain }], guard := none }, rfl, fun K' hK => ?_⟩
      have hz := hq.low
      have HQ := hid hq
      clear hq
      go_simp
      refine (CA.out z hz).mono ?_
      rintro e z1 ⟨rfl, V1, H1⟩
      dsimp only
      have hq1 := HQ.out.c2 H1.out.2.1 H1.out.1 (Nat.le_refl _) H1.out.2.2
      refine hK.out _ _ (fun _ => HS.out _ hq1.low) (fun _ => ?_)
      (try simp only [List.setIfInBounds_toArray, List.set_cons_zero, List.set_cons_succ])
      exact K2810.out b8 b9 b10 wb z.heap.size mb V1 U z1 hq1
    · refine ⟨{ dst := some 9, op := Op.alloc 23, type := 0, pos := _, after := #[], guard := none }, rfl, fun K' hK => ?_⟩
      have hq1 := hq.n9
      have HQ := hid hq1
      clear hq hq1
      go_simp
      refine hK.out _ _ (fun _ => HS.out _ HQ.out.low) (fun _ => ?_)
      (try simp only [List.setIfInBounds_toArray, List.set_cons_zero, List.set_cons_succ])
      exact K18910.out b8 z.heap.size b10 wb nb mb V U _ HQ.out)
  have K1910 : Hid (∀ (b8 b9 b10 wb nb mb : Nat) (V U : Nat → Value) (z : World), Q9 w0 A B wb nb mb V U 1 b8 b9 b10 false true true z → wpAnyG Tryd.prog .any (ops9 q0 q1 q2 q3 q4 q5 q6 q7 q8 q9 q10 q11 q12 q13 q14) Q (fun z : World => z.cell? ⟨b2, 0, none⟩ = some (.slice A.sa A.sn A.sc) ∧ z.cell? ⟨b2, 1, none⟩ = some (.slice A.na A.G A.nc) ∧ z.cell? ⟨b2, 2, none⟩ = some (.slice A.ma A.M A.mc) ∧ z.cell? ⟨b2, 3, none⟩ = some (.slice A.oa A.O A.oc) ∧ z.cell? ⟨b2, 4, none⟩ = some (.slice A.fa A.K A.fc) ∧ z.cell? ⟨b3, 0, none⟩ = some (.slice B.sa B.sn B.sc) ∧ z.cell? ⟨b3, 1, none⟩ = some (.slice B.na B.G B.nc) ∧ z.cell? ⟨b3, 2, none⟩ = some (.slice B.ma B.M B.mc) ∧ z.cell? ⟨b3, 3, none⟩ = some (.slice B.oa B.O B.oc) ∧ z.cell? ⟨b3, 4, none⟩ = some (.slice B.fa B.K B.fc)) (fun _ => false) 6 #[true, true, true, true, true, false, true, true, false, false, true, true, false, false, false] { tmps := #[t0, t1, (.pointer (some ⟨b2, 0, none⟩)), (.pointer (some ⟨b3, 0, none⟩)), t4, t5, t6, t7, t8, (.pointer (some ⟨b9, 0, none⟩)), (.pointer (some ⟨b10, 0, none⟩)), t11, t12, t13, t14, t15, t16, t17, t18, t19, t20, t21, t22, t23, t24, t25, t26, t27, t28, t29, t30, t31, t32, t33, t34, t35, t36, t37, t38, t39, t40, (.agg #[.slice A.sa A.sn A.sc, .slice A.na A.G A.nc, .slice A.ma A.M A.mc, .slice A.oa A.O A.oc, .slice A.fa A.K A.fc]), (.agg #[.slice B.sa B.sn B.sc, .slice B.na B.G B.nc, .slice B.ma B.M B.mc, .slice B.oa B.O B.oc, .slice B.fa B.K B.fc]), (.slice (some ⟨wb, 0, none⟩) A.G A.G), (.pointer (some ⟨b2, 1, none⟩)), (.slice A.na A.G A.nc), t46, (.pointer (some ⟨b3, 1, none⟩)), (.slice B.na B.G B.nc), t49, t50, t51, t52, t53, t54, t55, t56, t57, t58, t59, t60, t61, t62, t63, t64, t65, t66, t67, t68, t69, t70, t71, t72, t73, t74, t75, t76, t77, t78, t79, t80, t81, t82, t83, t84, t85, t86, t87, t88, t89, t90, t91, t92, t93, t94, t95, t96, t97, t98, t99, t100, t101, t102, t103, t104, t105, t106, t107, t108, t109, t110, t111, t112, t113, t114, t115, t116, t117, t118, t119, t120, t121, t122, t123, t124, t125, t126, t127, t128, t129, t130, t131, t132, t133, t134, t135, t136, t137, t138, t139, t140, t141, t142, t143, t144, t145], defers := [] } z) := hid (by
    intro b8 b9 b10 wb nb mb V U z hq
    refine G_alt (l := [5, 9]) (by kernel_rfl) (by decide) ?_
    intro i hi
    have hi2 : i = 5 ∨ i = 9 := by simpa using hi
    clear hi
    rcases hi2 with rfl | rfl
    · refine ⟨{ dst := some 46, op := Op.call { callee := Callee.value (Operand.func 38), args := #[Operand.tmp 45], argTypes := #[23] }, type := 23, pos := _, after := #[{ on := 4, ground := Ground.data }, { on := 2, ground := Ground.chain }], guard := none }, rfl, fun K' hK => ?_⟩
      have hz := hq.low
      have HQ := hid hq
      clear hq
      go_simp
      refine (CA.out z hz).mono ?_
      rintro e z1 ⟨rfl, V1, H1⟩
      dsimp only
      have hq1 := HQ.out.c2 H1.out.2.1 H1.out.1 (Nat.le_refl _) H1.out.2.2
      refine hK.out _ _ (fun _ => HS.out _ hq1.low) (fun _ => ?_)
      (try simp only [List.setIfInBounds_toArray, List.set_cons_zero, List.set_cons_succ])
      exact K2910.out b8 b9 b10 wb z.heap.size mb V1 U z1 hq1
    · refine ⟨{ dst := some 8, op := Op.alloc 47, type := 0, pos := _, after := #[], guard := none }, rfl, fun K' hK => ?_⟩
      have hq1 := hq.n8
      have HQ := hid hq1
      clear hq hq1
      go_simp
      refine hK.out _ _ (fun _ => HS.out _ HQ.out.low) (fun _ => ?_)
      (try simp only [List.setIfInBounds_toArray, List.set_cons_zero, List.set_cons_succ])
      exact K18910.out z.heap.size b9 b10 wb nb mb V U _ HQ.out)
  have K18 : Hid (∀ (b8 b9 b10 wb nb mb : Nat) (V U : Nat → Value) (z : World), Q9 w0 A B wb nb mb V U 1 b8 b9 b10 true false false z → wpAnyG Tryd.prog .any (ops9 q0 q1 q2 q3 q4 q5 q6 q7 q8 q9 q10 q11 q12 q13 q14) Q (fun z : World => z.cell? ⟨b2, 0, none⟩ = some (.slice A.sa A.sn A.sc) ∧ z.cell? ⟨b2, 1, none⟩ = some (.slice A.na A.G A.nc) ∧ z.cell? ⟨b2, 2, none⟩ = some (.slice A.ma A.M A.mc) ∧ z.cell? ⟨b2, 3, none⟩ = some (.slice A.oa A.O A.oc) ∧ z.cell? ⟨b2, 4, none⟩ = some (.slice A.fa A.K A.fc) ∧ z.cell? ⟨b3, 0, none⟩ = some (.slice B.sa B.sn B.sc) ∧ z.cell? ⟨b3, 1, none⟩ = some (.slice B.na B.G B.nc) ∧ z.cell? ⟨b3, 2, none⟩ = some (.slice B.ma B.M B.mc) ∧ z.cell? ⟨b3, 3, none⟩ = some (.slice B.oa B.O B.oc) ∧ z.cell? ⟨b3, 4, none⟩ = some (.slice B.fa B.K B.fc)) (fun _ => false) 7 #[true, true, true, true, true, false, true, true, false, true, false, false, false, false, false] { tmps := #[t0, t1, (.pointer (some ⟨b2, 0, none⟩)), (.pointer (some ⟨b3, 0, none⟩)), t4, t5, t6, t7, (.pointer (some ⟨b8, 0, none⟩)), t9, t10, t11, t12, t13, t14, t15, t16, t17, t18, t19, t20, t21, t22, t23, t24, t25, t26, t27, t28, t29, t30, t31, t32, t33, t34, t35, t36, t37, t38, t39, t40, (.agg #[.slice A.sa A.sn A.sc, .slice A.na A.G A.nc, .slice A.ma A.M A.mc, .slice A.oa A.O A.oc, .slice A.fa A.K A.fc]), (.agg #[.slice B.sa B.sn B.sc, .slice B.na B.G B.nc, .slice B.ma B.M B.mc, .slice B.oa B.O B.oc, .slice B.fa B.K B.fc]), (.slice (some ⟨wb, 0, none⟩) A.G A.G), (.pointer (some ⟨b2, 1, none⟩)), (.slice A.na A.G A.nc), t46, (.pointer (some ⟨b3, 1, none⟩)), (.slice B.na B.G B.nc), t49, t50, t51, t52, t53, t54, t55, t56, t57, t58, t59, t60, t61, t62, t63, t64, t65, t66, t67, t68, t69, t70, t71, t72, t73, t74, t75, t76, t77, t78, t79, t80, t81, t82, t83, t84, t85, t86, t87, t88, t89, t90, t91, t92, t93, t94, t95, t96, t97, t98, t99, t100, t101, t102, t103, t104, t105, t106, t107, t108, t109, t110, t111, t112, t113, t114, t115, t116, t117, t118, t119, t120, t121, t122, t123, t124, t125, t126, t127, t128, t129, t130, t131, t132, t133, t134, t135, t136, t137, t138, t139, t140, t141, t142, t143, t144, t145], defers := [] } z) := hid (by
    intro b8 b9 b10 wb nb mb V U z hq
    refine G_alt (l := [5, 10, 11]) (by kernel_rfl) (by decide) ?_
    intro i hi
    have hi2 : i = 5 ∨ i = 10 ∨ i = 11 := by simpa using hi
    clear hi
    rcases hi2 with rfl | rfl | rfl
    · refine ⟨{ dst := some 46, op := Op.call { callee := Callee.value (Operand.func 38), args := #[Operand.tmp 45], argTypes := #[23] }, type := 23, pos := _, after := #[{ on := 4, ground := Ground.data }, { on := 2, ground := Ground.chain }], guard := none }, rfl, fun K' hK => ?_⟩
      have hz := hq.low
      have HQ := hid hq
      clear hq
      go_simp
      refine (CA.out z hz).mono ?_
      rintro e z1 ⟨rfl, V1, H1⟩
      dsimp only
      have hq1 := HQ.out.c2 H1.out.2.1 H1.out.1 (Nat.le_refl _) H1.out.2.2
      refine hK.out _ _ (fun _ => HS.out _ hq1.low) (fun _ => ?_)
      (try simp only [List.setIfInBounds_toArray, List.set_cons_zero, List.set_cons_succ])
      exact K28.out b8 b9 b10 wb z.heap.size mb V1 U z1 hq1
    · refine ⟨{ dst := some 9, op := Op.alloc 23, type := 0, pos := _, after := #[], guard := none }, rfl, fun K' hK => ?_⟩
      have hq1 := hq.n9
      have HQ := hid hq1
      clear hq hq1
      go_simp
      refine hK.out _ _ (fun _ => HS.out _ HQ.out.low) (fun _ => ?_)
      (try simp only [List.setIfInBounds_toArray, List.set_cons_zero, List.set_cons_succ])
      exact K189.out b8 z.heap.size b10 wb nb mb V U _ HQ.out
    · refine ⟨{ dst := some 10, op := Op.alloc 23, type := 0, pos := _, after := #[], guard := none }, rfl, fun K' hK => ?_⟩
      have hq1 := hq.n10
      have HQ := hid hq1
      clear hq hq1
      go_simp
      refine hK.out _ _ (fun _ => HS.out _ HQ.out.low) (fun _ => ?_)
      (try simp only [List.setIfInBounds_toArray, List.set_cons_zero, List.set_cons_succ])
      exact K1810.out b8 b9 z.heap.size wb nb mb V U _ HQ.out)
  have K19 : Hid (∀ (b8 b9 b10 wb nb mb : Nat) (V U : Nat → Value) (z : World), Q9 w0 A B wb nb mb V U 1 b8 b9 b10 false true false z → wpAnyG Tryd.prog .any (ops9 q0 q1 q2 q3 q4 q5 q6 q7 q8 q9 q10 q11 q12 q13 q14) Q (fun z : World => z.cell? ⟨b2, 0, none⟩ = some (.slice A.sa A.sn A.sc) ∧ z.cell? ⟨b2, 1, none⟩ = some (.slice A.na A.G A.nc) ∧ z.cell? ⟨b2, 2, none⟩ = some (.slice A.ma A.M A.mc) ∧ z.cell? ⟨b2, 3, none⟩ = some (.slice A.oa A.O A.oc) ∧ z.cell? ⟨b2, 4, none⟩ = some (.slice A.fa A.K A.fc) ∧ z.cell? ⟨b3, 0, none⟩ = some (.slice B.sa B.sn B.sc) ∧ z.cell? ⟨b3, 1, none⟩ = some (.slice B.na B.G B.nc) ∧ z.cell? ⟨b3, 2, none⟩ = some (.slice B.ma B.M B.mc) ∧ z.cell? ⟨b3, 3, none⟩ = some (.slice B.oa B.O B.oc) ∧ z.cell? ⟨b3, 4, none⟩ = some (.slice B.fa B.K B.fc)) (fun _ => false) 7 #[true, true, true, true, true, false, true, true, false, false, true, false, false, false, false] { tmps := #[t0, t1, (.pointer (some ⟨b2, 0, none⟩)), (.pointer (some ⟨b3, 0, none⟩)), t4, t5, t6, t7, t8, (.pointer (some ⟨b9, 0, none⟩)), t10, t11, t12, t13, t14, t15, t16, t17, t18, t19, t20, t21, t22, t23, t24, t25, t26, t27, t28, t29, t30, t31, t32, t33, t34, t35, t36, t37, t38, t39, t40, (.agg #[.slice A.sa A.sn A.sc, .slice A.na A.G A.nc, .slice A.ma A.M A.mc, .slice A.oa A.O A.oc, .slice A.fa A.K A.fc]), (.agg #[.slice B.sa B.sn B.sc, .slice B.na B.G B.nc, .slice B.ma B.M B.mc, .slice B.oa B.O B.oc, .slice B.fa B.K B.fc]), (.slice (some ⟨wb, 0, none⟩) A.G A.G), (.pointer (some ⟨b2, 1, none⟩)), (.slice A.na A.G A.nc), t46, (.pointer (some ⟨b3, 1, none⟩)), (.slice B.na B.G B.nc), t49, t50, t51, t52, t53, t54, t55, t56, t57, t58, t59, t60, t61, t62, t63, t64, t65, t66, t67, t68, t69, t70, t71, t72, t73, t74, t75, t76, t77, t78, t79, t80, t81, t82, t83, t84, t85, t86, t87, t88, t89, t90, t91, t92, t93, t94, t95, t96, t97, t98, t99, t100, t101, t102, t103, t104, t105, t106, t107, t108, t109, t110, t111, t112, t113, t114, t115, t116, t117, t118, t119, t120, t121, t122, t123, t124, t125, t126, t127, t128, t129, t130, t131, t132, t133, t134, t135, t136, t137, t138, t139, t140, t141, t142, t143, t144, t145], defers := [] } z) := hid (by
    intro b8 b9 b10 wb nb mb V U z hq
    refine G_alt (l := [5, 9, 11]) (by kernel_rfl) (by decide) ?_
    intro i hi
    have hi2 : i = 5 ∨ i = 9 ∨ i = 11 := by simpa using hi
    clear hi
    rcases hi2 with rfl | rfl | rfl
    · refine ⟨{ dst := some 46, op := Op.call { callee := Callee.value (Operand.func 38), args := #[Operand.tmp 45], argTypes := #[23] }, type := 23, pos := _, after := #[{ on := 4, ground := Ground.data }, { on := 2, ground := Ground.chain }], guard := none }, rfl, fun K' hK => ?_⟩
      have hz := hq.low
      have HQ := hid hq
      clear hq
      go_simp
      refine (CA.out z hz).mono ?_
      rintro e z1 ⟨rfl, V1, H1⟩
      dsimp only
      have hq1 := HQ.out.c2 H1.out.2.1 H1.out.1 (Nat.le_refl _) H1.out.2.2
      refine hK.out _ _ (fun _ => HS.out _ hq1.low) (fun _ => ?_)
      (try simp only [List.setIfInBounds_toArray, List.set_cons_zero, List.set_cons_succ])
      exact K29.out b8 b9 b10 wb z.heap.size mb V1 U z1 hq1
    · refine ⟨{ dst := some 8, op := Op.alloc 47, type := 0, pos := _, after := #[], guard := none }, rfl, fun K' hK => ?_⟩
      have hq1 := hq.n8
      have HQ := hid hq1
      clear hq hq1
      go_simp
      refine hK.out _ _ (fun _ => HS.out _ HQ.out.low) (fun _ => ?_)
      (try simp only [List.setIfInBounds_toArray, List.set_cons_zero, List.set_cons_succ])
      exact K189.out z.heap.size b9 b10 wb nb mb V U _ HQ.out
    · refine ⟨{ dst := some 10, op := Op.alloc 23, type := 0, pos := _, after := #[], guard := none }, rfl, fun K' hK => ?_⟩
      have hq1 := hq.n10
      have HQ := hid hq1
      clear hq hq1
      go_simp
      refine hK.out _ _ (fun _ => HS.out _ HQ.out.low) (fun _ => ?_)
      (try simp only [List.setIfInBounds_toArray, List.set_cons_zero, List.set_cons_succ])
      exact K1910.out b8 b9 z.heap.size wb nb mb V U _ HQ.out)
  have K110 : Hid (∀ (b8 b9 b10 wb nb mb : Nat) (V U : Nat → Value) (z : World), Q9 w0 A B wb nb mb V U 1 b8 b9 b10 false false true z → wpAnyG Tryd.prog .any (ops9 q0 q1 q2 q3 q4 q5 q6 q7 q8 q9 q10 q11 q12 q13 q14) Q (fun z : World => z.cell? ⟨b2, 0, none⟩ = some (.slice A.sa A.sn A.sc) ∧ z.cell? ⟨b2, 1, none⟩ = some (.slice A.na A.G A.nc) ∧ z.cell? ⟨b2, 2, none⟩ = some (.slice A.ma A.M A.mc) ∧ z.cell? ⟨b2, 3, none⟩ = some (.slice A.oa A.O A.oc) ∧ z.cell? ⟨b2, 4, none⟩ = some (.slice A.fa A.K A.fc) ∧ z.cell? ⟨b3, 0, none⟩ = some (.slice B.sa B.sn B.sc) ∧ z.cell? ⟨b3, 1, none⟩ = some (.slice B.na B.G B.nc) ∧ z.cell? ⟨b3, 2, none⟩ = some (.slice B.ma B.M B.mc) ∧ z.cell? ⟨b3, 3, none⟩ = some (.slice B.oa B.O B.oc) ∧ z.cell? ⟨b3, 4, none⟩ = some (.slice B.fa B.K B.fc)) (fun _ => false) 7 #[true, true, true, true, true, false, true, true, false, false, false, true, false, false, false] { tmps := #[t0, t1, (.pointer (some ⟨b2, 0, none⟩)), (.pointer (some ⟨b3, 0, none⟩)), t4, t5, t6, t7, t8, t9, (.pointer (some ⟨b10, 0, none⟩)), t11, t12, t13, t14, t15, t16, t17, t18, t19, t20, t21, t22, t23, t24, t25, t26, t27, t28, t29, t30, t31, t32, t33, t34, t35, t36, t37, t38, t39, t40, (.agg #[.slice A.sa A.sn A.sc, .slice A.na A.G A.nc, .slice A.ma A.M A.mc, .slice A.oa A.O A.oc, .slice A.fa A.K A.fc]), (.agg #[.slice B.sa B.sn B.sc, .slice B.na B.G B.nc, .slice B.ma B.M B.mc, .slice B.oa B.O B.oc, .slice B.fa B.K B.fc]), (.slice (some ⟨wb, 0, none⟩) A.G A.G), (.pointer (some ⟨b2, 1, none⟩)), (.slice A.na A.G A.nc), t46, (.pointer (some ⟨b3, 1, none⟩)), (.slice B.na B.G B.nc), t49, t50, t51, t52, t53, t54, t55, t56, t57, t58, t59, t60, t61, t62, t63, t64, t65, t66, t67, t68, t69, t70, t71, t72, t73, t74, t75, t76, t77, t78, t79, t80, t81, t82, t83, t84, t85, t86, t87, t88, t89, t90, t91, t92, t93, t94, t95, t96, t97, t98, t99, t100, t101, t102, t103, t104, t105, t106, t107, t108, t109, t110, t111, t112, t113, t114, t115, t116, t117, t118, t119, t120, t121, t122, t123, t124, t125, t126, t127, t128, t129, t130, t131, t132, t133, t134, t135, t136, t137, t138, t139, t140, t141, t142, t143, t144, t145], defers := [] } z) := hid (by
    intro b8 b9 b10 wb nb mb V U z hq
    refine G_alt (l := [5, 9, 10]) (by kernel_rfl) (by decide) ?_
    intro i hi
    have hi2 : i = 5 ∨ i = 9 ∨ i = 10 := by simpa using hi
    clear hi
    rcases hi2 with rfl | rfl | rfl
    · refine ⟨{ dst := some 46, op := Op.call { callee := Callee.value (Operand.func 38), args := #[Operand.tmp 45], argTypes := #[23] }, type := 23, pos := _, after := #[{ on := 4, ground := Ground.data }, { on := 2, ground := Ground.chain }], guard := none }, rfl, fun K' hK => ?_⟩
      have hz := hq.low
      have HQ := hid hq
      clear hq
      go_simp
      refine (CA.out z hz).mono ?_
      rintro e z1 ⟨rfl, V1, H1⟩
      dsimp only
      have hq1 := HQ.out.c2 H1.out.2.1 H1.out.1 (Nat.le_refl _) H1.out.2.2
      refine hK.out _ _ (fun _ => HS.out _ hq1.low) (fun _ => ?_)
      (try simp only [List.setIfInBounds_toArray, List.set_cons_zero, List.set_cons_succ])
      exact K210.out b8 b9 b10 wb z.heap.size mb V1 U z1 hq1
    · refine ⟨{ dst := some 8, op := Op.alloc 47, type := 0, pos := _, after := #[], guard := none }, rfl, fun K' hK => ?_⟩
      have hq1 := hq.n8
      have HQ := hid hq1
      clear hq hq1
      go_simp
      refine hK.out _ _ (fun _ => HS.out _ HQ.out.low) (fun _ => ?_)
      (try simp only [List.setIfInBounds_toArray, List.set_cons_zero, List.set_cons_succ])
      exact K1810.out z.heap.size b9 b10 wb nb mb V U _ HQ.out
    · refine ⟨{ dst := some 9, op := Op.alloc 23, type := 0, pos := _, after := #[], guard := none }, rfl, fun K' hK => ?_⟩
      have hq1 := hq.n9
      have HQ := hid hq1
      clear hq hq1
      go_simp
      refine hK.out _ _ (fun _ => HS.out _ HQ.out.low) (fun _ => ?_)
      (try simp only [List.setIfInBounds_toArray, List.set_cons_zero, List.set_cons_succ])
      exact K1910.out b8 z.heap.size b10 wb nb mb V U _ HQ.out)
  have K1 : Hid (∀ (b8 b9 b10 wb nb mb : Nat) (V U : Nat → Value) (z : World), Q9 w0 A B wb nb mb V U 1 b8 b9 b10 false false false z → wpAnyG Tryd.prog .any (ops9 q0 q1 q2 q3 q4 q5 q6 q7 q8 q9 q10 q11 q12 q13 q14) Q (fun z : World => z.cell? ⟨b2, 0, none⟩ = some (.slice A.sa A.sn A.sc) ∧ z.cell? ⟨b2, 1, none⟩ = some (.slice A.na A.G A.nc) ∧ z.cell? ⟨b2, 2, none⟩ = some (.slice A.ma A.M A.mc) ∧ z.cell? ⟨b2, 3, none⟩ = some (.slice A.oa A.O A.oc) ∧ z.cell? ⟨b2, 4, none⟩ = some (.slice A.fa A.K A.fc) ∧ z.cell? ⟨b3, 0, none⟩ = some (.slice B.sa B.sn B.sc) ∧ z.cell? ⟨b3, 1, none⟩ = some (.slice B.na B.G B.nc) ∧ z.cell? ⟨b3, 2, none⟩ = some (.slice B.ma B.M B.mc) ∧ z.cell? ⟨b3, 3, none⟩ = some (.slice B.oa B.O B.oc) ∧ z.cell? ⟨b3, 4, none⟩ = some (.slice B.fa B.K B.fc)) (fun _ => false) 8 #[true, true, true, true, true, false, true, true, false, false, false, false, false, false, false] { tmps := #[t0, t1, (.pointer (some ⟨b2, 0, none⟩)), (.pointer (some ⟨b3, 0, none⟩)), t4, t5, t6, t7, t8, t9, t10, t11, t12, t13, t14, t15, t16, t17, t18, t19, t20, t21, t22, t23, t24, t25, t26, t27, t28, t29, t30, t31, t32, t33, t34, t35, t36, t37, t38, t39, t40, (.agg #[.slice A.sa A.sn A.sc, .slice A.na A.G A.nc, .slice A.ma A.M A.mc, .slice A.oa A.O A.oc, .slice A.fa A.K A.fc]), (.agg #[.slice B.sa B.sn B.sc, .slice B.na B.G B.nc, .slice B.ma B.M B.mc, .slice B.oa B.O B.oc, .slice B.fa B.K B.fc]), (.slice (some ⟨wb, 0, none⟩) A.G A.G), (.pointer (some ⟨b2, 1, none⟩)), (.slice A.na A.G A.nc), t46, (.pointer (some ⟨b3, 1, none⟩)), (.slice B.na B.G B.nc), t49, t50, t51, t52, t53, t54, t55, t56, t57, t58, t59, t60, t61, t62, t63, t64, t65, t66, t67, t68, t69, t70, t71, t72, t73, t74, t75, t76, t77, t78, t79, t80, t81, t82, t83, t84, t85, t86, t87, t88, t89, t90, t91, t92, t93, t94, t95, t96, t97, t98, t99, t100, t101, t102, t103, t104, t105, t106, t107, t108, t109, t110, t111, t112, t113, t114, t115, t116, t117, t118, t119, t120, t121, t122, t123, t124, t125, t126, t127, t128, t129, t130, t131, t132, t133, t134, t135, t136, t137, t138, t139, t140, t141, t142, t143, t144, t145], defers := [] } z) := hid (by
    intro b8 b9 b10 wb nb mb V U z hq
    refine G_alt (l := [5, 9, 10, 11]) (by kernel_rfl) (by decide) ?_
    intro i hi
    have hi2 : i = 5 ∨ i = 9 ∨ i = 10 ∨ i = 11 := by simpa using hi
    clear hi
    rcases hi2 with rfl | rfl | rfl | rfl
    · refine ⟨{ dst := some 46, op := Op.call { callee := Callee.value (Operand.func 38), args := #[Operand.tmp 45], argTypes := #[23] }, type := 23, pos := _, after := #[{ on := 4, ground := Ground.data }, { on := 2, ground := Ground.chain }], guard := none }, rfl, fun K' hK => ?_⟩
      have hz := hq.low
      have HQ := hid hq
      clear hq
      go_simp
      refine (CA.out z hz).mono ?_
      rintro e z1 ⟨rfl, V1, H1⟩
      dsimp only
      have hq1 := HQ.out.c2 H1.out.2.1 H1.out.1 (Nat.le_refl _) H1.out.2.2
      refine hK.out _ _ (fun _ => HS.out _ hq1.low) (fun _ => ?_)
      (try simp only [List.setIfInBounds_toArray, List.set_cons_zero, List.set_cons_succ])
      exact K2.out b8 b9 b10 wb z.heap.size mb V1 U z1 hq1
    · refine ⟨{ dst := some 8, op := Op.alloc 47, type := 0, pos := _, after := #[], guard := none }, rfl, fun K' hK => ?_⟩
      have hq1 := hq.n8
      have HQ := hid hq1
      clear hq hq1
      go_simp
      refine hK.out _ _ (fun _ => HS.out _ HQ.out.low) (fun _ => ?_)
      (try simp only [List.setIfInBounds_toArray, List.set_cons_zero, List.set_cons_succ])
      exact K18.out z.heap.size b9 b10 wb nb mb V U _ HQ.out
    · refine ⟨{ dst := some 9, op := Op.alloc 23, type := 0, pos := _, after := #[], guard := none }, rfl, fun K' hK => ?_⟩
      have hq1 := hq.n9
      have HQ := hid hq1
      clear hq hq1
      go_simp
      refine hK.out _ _ (fun _ => HS.out _ HQ.out.low) (fun _ => ?_)
      (try simp only [List.setIfInBounds_toArray, List.set_cons_zero, List.set_cons_succ])
      exact K19.out b8 z.heap.size b10 wb nb mb V U _ HQ.out
    · refine ⟨{ dst := some 10, op := Op.alloc 23, type := 0, pos := _, after := #[], guard := none }, rfl, fun K' hK => ?_⟩
      have hq1 := hq.n10
      have HQ := hid hq1
      clear hq hq1
      go_simp
      refine hK.out _ _ (fun _ => HS.out _ HQ.out.low) (fun _ => ?_)
      (try simp only [List.setIfInBounds_toArray, List.set_cons_zero, List.set_cons_succ])
      exact K110.out b8 b9 z.heap.size wb nb mb V U _ HQ.out)
  have K08910 : Hid (∀ (b8 b9 b10 wb nb mb : Nat) (V U : Nat → Value) (z : World), Q9 w0 A B wb nb mb V U 0 b8 b9 b10 true true true z → wpAnyG Tryd.prog .any (ops9 q0 q1 q2 q3 q4 q5 q6 q7 q8 q9 q10 q11 q12 q13 q14) Q (fun z : World => z.cell? ⟨b2, 0, none⟩ = some (.slice A.sa A.sn A.sc) ∧ z.cell? ⟨b2, 1, none⟩ = some (.slice A.na A.G A.nc) ∧ z.cell? ⟨b2, 2, none⟩ = some (.slice A.ma A.M A.mc) ∧ z.cell? ⟨b2, 3, none⟩ = some (.slice A.oa A.O A.oc) ∧ z.cell? ⟨b2, 4, none⟩ = some (.slice A.fa A.K A.fc) ∧ z.cell? ⟨b3, 0, none⟩ = some (.slice B.sa B.sn B.sc) ∧ z.cell? ⟨b3, 1, none⟩ = some (.slice B.na B.G B.nc) ∧ z.cell? ⟨b3, 2, none⟩ = some (.slice B.ma B.M B.mc) ∧ z.cell? ⟨b3, 3, none⟩ = some (.slice B.oa B.O B.oc) ∧ z.cell? ⟨b3, 4, none⟩ = some (.slice B.fa B.K B.fc)) (fun _ => false) 6 #[true, true, false, true, true, false, true, true, false, true, true, true, false, false, false] { tmps := #[t0, t1, (.pointer (some ⟨b2, 0, none⟩)), (.pointer (some ⟨b3, 0, none⟩)), t4, t5, t6, t7, (.pointer (some ⟨b8, 0, none⟩)), (.pointer (some ⟨b9, 0, none⟩)), (.pointer (some ⟨b10, 0, none⟩)), t11, t12, t13, t14, t15, t16, t17, t18, t19, t20, t21, t22, t23, t24, t25, t26, t27, t28, t29, t30, t31, t32, t33, t34, t35, t36, t37, t38, t39, t40, (.agg #[.slice A.sa A.sn A.sc, .slice A.na A.G A.nc, .slice A.ma A.M A.mc, .slice A.oa A.O A.oc, .slice A.fa A.K A.fc]), (.agg #[.slice B.sa B.sn B.sc, .slice B.na B.G B.nc, .slice B.ma B.M B.mc, .slice B.oa B.O B.oc, .slice B.fa B.K B.fc]), t43, (.pointer (some ⟨b2, 1, none⟩)), (.slice A.na A.G A.nc), t46, (.pointer (some ⟨b3, 1, none⟩)), (.slice B.na B.G B.nc), t49, t50, t51, t52, t53, t54, t55, t56, t57, t58, t59, t60, t61, t62, t63, t64, t65, t66, t67, t68, t69, t70, t71, t72, t73, t74, t75, t76, t77, t78, t79, t80, t81, t82, t83, t84, t85, t86, t87, t88, t89, t90, t91, t92, t93, t94, t95, t96, t97, t98, t99, t100, t101, t102, t103, t104, t105, t106, t107, t108, t109, t110, t111, t112, t113, t114, t115, t116, t117, t118, t119, t120, t121, t122, t123, t124, t125, t126, t127, t128, t129, t130, t131, t132, t133, t134, t135, t136, t137, t138, t139, t140, t141, t142, t143, t144, t145], defers := [] } z) := hid (by
    intro b8 b9 b10 wb nb mb V U z hq
    refine G_alt (l := [2]) (by kernel_rfl) (by decide) ?_
    intro i hi
    obtain rfl : i = 2 := by simpa using hi
    clear hi
    · refine ⟨{ dst := some 43, op := Op.call { callee := Callee.value (Operand.func 37), args := #[Operand.tmp 41, Operand.tmp 42], argTypes := #[26, 26] }, type := 47, pos := _, after := #[{ on := 0, ground := Ground.data }, { on := 1, ground := Ground.data }], guard := none }, rfl, fun K' hK => ?_⟩
      have hz := hq.low
      have HQ := hid hq
      clear hq
      go_simp
      refine (C37.out z hz).mono ?_
      rintro e z1 ⟨rfl, H1⟩
      dsimp only
      have hq1 := HQ.out.c1 H1.out.2.1 H1.out.1 (by omega) H1.out.2.2
      refine hK.out _ _ (fun _ => HS.out _ hq1.low) (fun _ => ?_)
      (try simp only [List.setIfInBounds_toArray, List.set_cons_zero, List.set_cons_succ])
      exact K18910.out b8 b9 b10 (z.heap.size + 2) nb mb V U z1 hq1)
  have K089 : Hid (∀ (b8 b9 b10 wb nb mb : Nat) (V U : Nat → Value) (z : World), Q9 w0 A B wb nb mb V U 0 b8 b9 b10 true true false z → wpAnyG Tryd.prog .any (ops9 q0 q1 q2 q3 q4 q5 q6 q7 q8 q9 q10 q11 q12 q13 q14) Q (fun z : World => z.cell? ⟨b2, 0, none⟩ = some (.slice A.sa A.sn A.sc) ∧ z.cell? ⟨b2, 1, none⟩ = some (.slice A.na A.G A.nc) ∧ z.cell? ⟨b2, 2, none⟩ = some (.slice A.ma A.M A.mc) ∧ z.cell? ⟨b2, 3, none⟩ = some (.slice A.oa A.O A.oc) ∧ z.cell? ⟨b2, 4, none⟩ = some (.slice A.fa A.K A.fc) ∧ z.cell? ⟨b3, 0, none⟩ = some (.slice B.sa B.sn B.sc) ∧ z.cell? ⟨b3, 1, none⟩ = some (.slice B.na B.G B.nc) ∧ z.cell? ⟨b3, 2, none⟩ = some (.slice B.ma B.M B.mc) ∧ z.cell? ⟨b3, 3, none⟩ = some (.slice B.oa B.O B.oc) ∧ z.cell? ⟨b3, 4, none⟩ = some (.slice B.fa B.K B.fc)) (fun _ => false) 7 #[true, true, false, true, true, false, true, true, false, true, true, false, false, false, false] { tmps := #[t0, t1, (.pointer (some ⟨b2, 0, none⟩)), (.pointer (some ⟨b3, 0, none⟩)), t4, t5, t6, t7, (.pointer (some ⟨b8, 0, none⟩)), (.pointer (some ⟨b9, 0, none⟩)), t10, t11, t12, t13, t14, t15, t16, t17, t18, t19, t20, t21, t22, t23, t24, t25, t26, t27, t28, t29, t30, t31, t32, t33, t34, t35, t36, t37, t38, t39, t40, (.agg #[.slice A.sa A.sn A.sc, .slice A.na A.G A.nc, .slice A.ma A.M A.mc, .slice A.oa A.O A.oc, .slice A.fa A.K A.fc]), (.agg #[.slice B.sa B.sn B.sc, .slice B.na B.G B.nc, .slice B.ma B.M B.mc, .slice B.oa B.O B.oc, .slice B.fa B.K B.fc]), t43, (.pointer (some ⟨b2, 1, none⟩)), (.slice A.na A.G A.nc), t46, (.pointer (some ⟨b3, 1, none⟩)), (.slice B.na B.G B.nc), t49, t50, t51, t52, t53, t54, t55, t56, t57, t58, t59, t60, t61, t62, t63, t64, t65, t66, t67, t68, t69, t70, t71, t72, t73, t74, t75, t76, t77, t78, t79, t80, t81, t82, t83, t84, t85, t86, t87, t88, t89, t90, t91, t92, t93, t94, t95, t96, t97, t98, t99, t100, t101, t102, t103, t104, t105, t106, t107, t108, t109, t110, t111, t112, t113, t114, t115, t116, t117, t118, t119, t120, t121, t122, t123, t124, t125, t126, t127, t128, t129, t130, t131, t132, t133, t134, t135, t136, t137, t138, t139, t140, t141, t142, t143, t144, t145], defers := [] } z) := hid (by
    intro b8 b9 b10 wb nb mb V U z hq
    refine G_alt (l := [2, 11]) (by kernel_rfl) (by decide) ?_
    intro i hi
    have hi2 : i = 2 ∨ i = 11 := by simpa using hi
    clear hi
    rcases hi2 with rfl | rfl
    · refine ⟨{ dst := some 43, op := Op.call { callee := Callee.value (Operand.func 37), args := #[Operand.tmp 41, Operand.tmp 42], argTypes := #[26, 26] }, type := 47, pos := _, after := #[{ on := 0, ground := Ground.data }, { on := 1, ground := Ground.data }], guard := none }, rfl, fun K' hK => ?_⟩
      have hz := hq.low
      have HQ := hid hq
      clear hq
      go_simp
      refine (C37.out z hz).mono ?_
      rintro e z1 ⟨rfl, H1⟩
      dsimp only
      have hq1 := HQ.out.c1 H1.out.2.1 H1.out.1 (by omega) H1.out.2.2
      refine hK.out _ _ (fun _ => HS.out _ hq1.low) (fun _ => ?_)
      (try simp only [List.setIfInBounds_toArray, List.set_cons_zero, List.set_cons_succ])
      exact K189.out b8 b9 b10 (z.heap.size + 2) nb mb V U z1 hq1
    · refine ⟨{ dst := some 10, op := Op.alloc 23, type := 0, pos := _, after := #[], guard := none }, rfl, fun K' hK => ?_⟩
      have hq1 := hq.n10
      have HQ := hid hq1
      clear hq hq1
      go_simp
      refine hK.out _ _ (fun _ => HS.out _ HQ.out.low) (fun _ => ?_)
      (try simp only [List.setIfInBounds_toArray, List.set_cons_zero, List.set_cons_succ])
      exact K08910.out b8 b9 z.heap.size wb nb mb V U _ HQ.out)
  have K0810 : Hid (∀ (b8 b9 b10 wb nb mb : Nat) (V U : Nat → Value) (z : World), Q9 w0 A B wb nb mb V U 0 b8 b9 b10 true false true z → wpAnyG Tryd.prog .any (ops9 q0 q1 q2 q3 q4 q5 q6 q7 q8 q9 q10 q11 q12 q13 q14) Q (fun z : World => z.cell? ⟨b2, 0, none⟩ = some (.slice A.sa A.sn A.sc) ∧ z.cell? ⟨b2, 1, none⟩ = some (.slice A.na A.G A.nc) ∧ z.cell? ⟨b2, 2, none⟩ = some (.slice A.ma A.M A.mc) ∧ z.cell? ⟨b2, 3, none⟩ = some (.slice A.oa A.O A.oc) ∧ z.cell? ⟨b2, 4, none⟩ = some (.slice A.fa A.K A.fc) ∧ z.cell? ⟨b3, 0, none⟩ = some (.slice B.sa B.sn B.sc) ∧ z.cell? ⟨b3, 1, none⟩ = some (.slice B.na B.G B.nc) ∧ z.cell? ⟨b3, 2, none⟩ = some (.slice B.ma B.M B.mc) ∧ z.cell? ⟨b3, 3, none⟩ = some (.slice B.oa B.O B.oc) ∧ z.cell? ⟨b3, 4, none⟩ = some (.slice B.fa B.K B.fc)) (fun _ => false) 7 #[true, true, false, true, true, false, true, true, false, true, false, true, false, false, false] { tmps := #[t0, t1, (.pointer (some ⟨b2, 0, none⟩)), (.pointer (some ⟨b3, 0, none⟩)), t4, t5, t6, t7, (.pointer (some ⟨b8, 0, none⟩)), t9, (.pointer (some ⟨b10, 0, none⟩)), t11, t12, t13, t14, t15, t16, t17, t18, t19, t20, t21, t22, t23, t24, t25, t26, t27, t28, t29, t30, t31, t32, t33, t34, t35, t36, t37, t38, t39, t40, (.agg #[.slice A.sa A.sn A.sc, .slice A.na A.G A.nc, .slice A.ma A.M A.mc, .slice A.oa A.O A.oc, .slice A.fa A.K A.fc]), (.agg #[.slice B.sa B.sn B.sc, .slice B.na B.G B.nc, .slice B.ma B.M B.mc, .slice B.oa B.O B.oc, .slice B.fa B.K B.fc]), t43, (.pointer (some ⟨b2, 1, none⟩)), (.slice A.na A.G A.nc), t46, (.pointer (some ⟨b3, 1, none⟩)), (.slice B.na B.G B.nc), t49, t50, t51, t52, t53, t54, t55, t56, t57, t58, t59, t60, t61, t62, t63, t64, t65, t66, t67, t68, t69, t70, t71, t72, t73, t74, t75, t76, t77, t78, t79, t80, t81, t82, t83, t84, t85, t86, t87, t88, t89, t90, t91, t92, t93, t94, t95, t96, t97, t98, t99, t100, t101, t102, t103, t104, t105, t106, t107, t108, t109, t110, t111, t112, t113, t114, t115, t116, t117, t118, t119, t120, t121, t122, t123, t124, t125, t126, t127, t128, t129, t130, t131, t132, t133, t134, t135, t136, t137, t138, t139, t140, t141, t142, t143, t144, t145], defers := [] } z) := hid (by
    intro b8 b9 b10 wb nb mb V U z hq
    refine G_alt (l := [2, 10]) (by kernel_rfl) (by decide) ?_
    intro i hi
    have hi2 : i = 2 ∨ i = 10 := by simpa using hi
    clear hi
    rcases hi2 with rfl | rfl
    · refine ⟨{ dst := some 43, op := Op.call { callee := Callee.value (Operand.func 37), args := #[Operand.tmp 41, Operand.tmp 42], argTypes := #[26, 26] }, type := 47, pos := _, after := #[{ on := 0, ground := Ground.data }, { on := 1, ground := Ground.data }], guard := none }, rfl, fun K' hK => ?_⟩
      have hz := hq.low
      have HQ := hid hq
      clear hq
      go_simp
      refine (C37.out z hz).mono ?_
      rintro e z1 ⟨rfl, H1⟩
      dsimp only
      have hq1 := HQ.out.c1 H1.out.2.1 H1.out.1 (by omega) H1.out.2.2
      refine hK.out _ _ (fun _ => HS.out _ hq1.low) (fun _ => ?_)
      (try simp only [List.setIfInBounds_toArray, List.set_cons_zero, List.set_cons_succ])
      exact K1810.out b8 b9 b10 (z.heap.size + 2) nb mb V U z1 hq1
    · refine ⟨{ dst := some 9, op := Op.alloc 23, type := 0, pos := _, after := #[], guard := none }, rfl, fun K' hK => ?_⟩
      have hq1 := hq.n9
      have HQ := hid hq1
      clear hq hq1
      go_simp
      refine hK.out _ _ (fun _ => HS.out _ HQ.out.low) (fun _ => ?_)
      (try simp only [List.setIfInBounds_toArray, List.set_cons_zero, List.set_cons_succ])
      exact K08910.out b8 z.heap.size b10 wb nb mb V U _ HQ.out)
  have K0910 : Hid (∀ (b8 b9 b10 wb nb mb : Nat) (V U : Nat → Value) (z : World), Q9 w0 A B wb nb mb V U 0 b8 b9 b10 false true true z → wpAnyG Tryd.prog .any (ops9 q0 q1 q2 q3 q4 q5 q6 q7 q8 q9 q10 q11 q12 q13 q14) Q (fun z : World => z.cell? ⟨b2, 0, none⟩ = some (.slice A.sa A.sn A.sc) ∧ z.cell? ⟨b2, 1, none⟩ = some (.slice A.na A.G A.nc) ∧ z.cell? ⟨b2, 2, none⟩ = some (.slice A.ma A.M A.mc) ∧ z.cell? ⟨b2, 3, none⟩ = some (.slice A.oa A.O A.oc) ∧ z.cell? ⟨b2, 4, none⟩ = some (.slice A.fa A.K A.fc) ∧ z.cell? ⟨b3, 0, none⟩ = some (.slice B.sa B.sn B.sc) ∧ z.cell? ⟨b3, 1, none⟩ = some (.slice B.na B.G B.nc) ∧ z.cell? ⟨b3, 2, none⟩ = some (.slice B.ma B.M B.mc) ∧ z.cell? ⟨b3, 3, none⟩ = some (.slice B.oa B.O B.oc) ∧ z.cell? ⟨b3, 4, none⟩ = some (.slice B.fa B.K B.fc)) (fun _ => false) 7 #[true, true, false, true, true, false, true, true, false, false, true, true, false, false, false] { tmps := #[t0, t1, (.pointer (some ⟨b2, 0, none⟩)), (.pointer (some ⟨b3, 0, none⟩)), t4, t5, t6, t7, t8, (.pointer (some ⟨b9, 0, none⟩)), (.pointer (some ⟨b10, 0, none⟩)), t11, t12, t13, t14, t15, t16, t17, t18, t19, t20, t21, t22, t23, t24, t25, t26, t27, t28, t29, t30, t31, t32, t33, t34, t35, t36, t37, t38, t39, t40, (.agg #[.slice A.sa A.sn A.sc, .slice A.na A.G A.nc, .slice A.ma A.M A.mc, .slice A.oa A.O A.oc, .slice A.fa A.K A.fc]), (.agg #[.slice B.sa B.sn B.sc, .slice B.na B.G B.nc, .slice B.ma B.M B.mc, .slice B.oa B.O B.oc, .slice B.fa B.K B.fc]), t43, (.pointer (some ⟨b2, 1, none⟩)), (.slice A.na A.G A.nc), t46, (.pointer (some ⟨b3, 1, none⟩)), (.slice B.na B.G B.nc), t49, t50, t51, t52, t53, t54, t55, t56, t57, t58, t59, t60, t61, t62, t63, t64, t65, t66, t67, t68, t69, t70, t71, t72, t73, t74, t75, t76, t77, t78, t79, t80, t81, t82, t83, t84, t85, t86, t87, t88, t89, t90, t91, t92, t93, t94, t95, t96, t97, t98, t99, t100, t101, t102, t103, t104, t105, t106, t107, t108, t109, t110, t111, t112, t113, t114, t115, t116, t117, t118, t119, t120, t121, t122, t123, t124, t125, t126, t127, t128, t129, t130, t131, t132, t133, t134, t135, t136, t137, t138, t139, t140, t141, t142, t143, t144, t145], defers := [] } z) := hid (by
    intro b8 b9 b10 wb nb mb V U z hq
    refine G_alt (l := [2, 9]) (by kernel_rfl) (by decide) ?_
    intro i hi
    have hi2 : i = 2 ∨ i = 9 := by simpa using hi
    clear hi
    rcases hi2 with rfl | rfl
    · refine ⟨{ dst := some 43, op := Op.call { callee := Callee.value (Operand.func 37), args := #[Operand.tmp 41, Operand.tmp 42], argTypes := #[26, 26] }, type := 47, pos := _, after := #[{ on := 0, ground := Ground.data }, { on := 1, ground := Ground.data }], guard := none }, rfl, fun K' hK => ?_⟩
      have hz := hq.low
      have HQ := hid hq
      clear hq
      go_simp
      refine (C37.out z hz).mono ?_
      rintro e z1 ⟨rfl, H1⟩
      dsimp only
      have hq1 := HQ.out.c1 H1.out.2.1 H1.out.1 (by omega) H1.out.2.2
      refine hK.out _ _ (fun _ => HS.out _ hq1.low) (fun _ => ?_)
      (try simp only [List.setIfInBounds_toArray, List.set_cons_zero, List.set_cons_succ])
      exact K1910.out b8 b9 b10 (z.heap.size + 2) nb mb V U z1 hq1
    · refine ⟨{ dst := some 8, op := Op.alloc 47, type := 0, pos := _, after := #[], guard := none }, rfl, fun K' hK => ?_⟩
      have hq1 := hq.n8
      have HQ := hid hq1
      clear hq hq1
      go_simp
      refine hK.out _ _ (fun _ => HS.out _ HQ.out.low) (fun _ => ?_)
      (try simp only [List.setIfInBounds_toArray, List.set_cons_zero, List.set_cons_succ])
      exact K08910.out z.heap.size b9 b10 wb nb mb V U _ HQ.out)
  have K08 : Hid (∀ (b8 b9 b10 wb nb mb : Nat) (V U : Nat → Value) (z : World), Q9 w0 A B wb nb mb V U 0 b8 b9 b10 true false false z → wpAnyG Tryd.prog .any (ops9 q0 q1 q2 q3 q4 q5 q6 q7 q8 q9 q10 q11 q12 q13 q14) Q (fun z : World => z.cell? ⟨b2, 0, none⟩ = some (.slice A.sa A.sn A.sc) ∧ z.cell? ⟨b2, 1, none⟩ = some (.slice A.na A.G A.nc) ∧ z.cell? ⟨b2, 2, none⟩ = some (.slice A.ma A.M A.mc) ∧ z.cell? ⟨b2, 3, none⟩ = some (.slice A.oa A.O A.oc) ∧ z.cell? ⟨b2, 4, none⟩ = some (.slice A.fa A.K A.fc) ∧ z.cell? ⟨b3, 0, none⟩ = some (.slice B.sa B.sn B.sc) ∧ z.cell? ⟨b3, 1, none⟩ = some (.slice B.na B.G B.nc) ∧ z.cell? ⟨b3, 2, none⟩ = some (.slice B.ma B.M B.mc) ∧ z.cell? ⟨b3, 3, none⟩ = some (.slice B.oa B.O B.oc) ∧ z.cell? ⟨b3, 4, none⟩ = some (.slice B.fa B.K B.fc)) (fun _ => false) 8 #[true, true, false, true, true, false, true, true, false, true, false, false, false, false, false] { tmps := #[t0, t1, (.pointer (some ⟨b2, 0, none⟩)), (.pointer (some ⟨b3, 0, none⟩)), t4, t5, t6, t7, (.pointer (some ⟨b8, 0, none⟩)), t9, t10, t11, t12, t13, t14, t15, t16, t17, t18, t19, t20, t21, t22, t23, t24, t25, t26, t27, t28, t29, t30, t31, t32, t33, t34, t35, t36, t37, t38, t39, t40, (.agg #[.slice A.sa A.sn A.sc, .slice A.na A.G A.nc, .slice A.ma A.M A.mc, .slice A.oa A.O A.oc, .slice A.fa A.K A.fc]), (.agg #[.slice B.sa B.sn B.sc, .slice B.na B.G B.nc, .slice B.ma B.M B.mc, .slice B.oa B.O B.oc, .slice B.fa B.K B.fc]), t43, (.pointer (some ⟨b2, 1, none⟩)), (.slice A.na A.G A.nc), t46, (.pointer (some ⟨b3, 1, none⟩)), (.slice B.na B.G B.nc), t49, t50, t51, t52, t53, t54, t55, t56, t57, t58, t59, t60, t61, t62, t63, t64, t65, t66, t67, t68, t69, t70, t71, t72, t73, t74, t75, t76, t77, t78, t79, t80, t81, t82, t83, t84, t85, t86, t87, t88, t89, t90, t91, t92, t93, t94, t95, t96, t97, t98, t99, t100, t101, t102, t103, t104, t105, t106, t107, t108, t109, t110, t111, t112, t113, t114, t115, t116, t117, t118, t119, t120, t121, t122, t123, t124, t125, t126, t127, t128, t129, t130, t131, t132, t133, t134, t135, t136, t137, t138, t139, t140, t141, t142, t143, t144, t145], defers := [] } z) := hid (by
    intro b8 b9 b10 wb nb mb V U z hq
    refine G_alt (l := [2, 10, 11]) (by kernel_rfl) (by decide) ?_
    intro i hi
    have hi2 : i = 2 ∨ i = 10 ∨ i = 11 := by simpa using hi
    clear hi
    rcases hi2 with rfl | rfl | rfl
    · refine ⟨{ dst := some 43, op := Op.call { callee := Callee.value (Operand.func 37), args := #[Operand.tmp 41, Operand.tmp 42], argTypes := #[26, 26] }, type := 47, pos := _, after := #[{ on := 0, ground := Ground.data }, { on := 1, ground := Ground.data }], guard := none }, rfl, fun K' hK => ?_⟩
      have hz := hq.low
      have HQ := hid hq
      clear hq
      go_simp
      refine (C37.out z hz).mono ?_
      rintro e z1 ⟨rfl, H1⟩
      dsimp only
      have hq1 := HQ.out.c1 H1.out.2.1 H1.out.1 (by omega) H1.out.2.2
      refine hK.out _ _ (fun _ => HS.out _ hq1.low) (fun _ => ?_)
      (try simp only [List.setIfInBounds_toArray, List.set_cons_zero, List.set_cons_succ])
      exact K18.out b8 b9 b10 (z.heap.size + 2) nb mb V U z1 hq1
    · refine ⟨{ dst := some 9, op := Op.alloc 23, type := 0, pos := _, after := #[], guard := none }, rfl, fun K' hK => ?_⟩
      have hq1 := hq.n9
      have HQ := hid hq1
      clear hq hq1
      go_simp
      refine hK.out _ _ (fun _ => HS.out _ HQ.out.low) (fun _ => ?_)
      (try simp only [List.setIfInBounds_toArray, List.set_cons_zero, List.set_cons_succ])
      exact K089.out b8 z.heap.size b10 wb nb mb V U _ HQ.out
    · refine ⟨{ dst := some 10, op := Op.alloc 23, type := 0, pos := _, after := #[], guard := none }, rfl, fun K' hK => ?_⟩
      have hq1 := hq.n10
      have HQ := hid hq1
      clear hq hq1
      go_simp
      refine hK.out _ _ (fun _ => HS.out _ HQ.out.low) (fun _ => ?_)
      (try simp only [List.setIfInBounds_toArray, List.set_cons_zero, List.set_cons_succ])
      exact K0810.out b8 b9 z.heap.size wb nb mb V U _ HQ.out)
  have K09 : Hid (∀ (b8 b9 b10 wb nb mb : Nat) (V U : Nat → Value) (z : World), Q9 w0 A B wb nb mb V U 0 b8 b9 b10 false true false z → wpAnyG Tryd.prog .any (ops9 q0 q1 q2 q3 q4 q5 q6 q7 q8 q9 q10 q11 q12 q13 q14) Q (fun z : World => z.cell? ⟨b2, 0, none⟩ = some (.slice A.sa A.sn A.sc) ∧ z.cell? ⟨b2, 1, none⟩ = some (.slice A.na A.G A.nc) ∧ z.cell? ⟨b2, 2, none⟩ = some (.slice A.ma A.M A.mc) ∧ z.cell? ⟨b2, 3, none⟩ = some (.slice A.oa A.O A.oc) ∧ z.cell? ⟨b2, 4, none⟩ = some (.slice A.fa A.K A.fc) ∧ z.cell? ⟨b3, 0, none⟩ = some (.slice B.sa B.sn B.sc) ∧ z.cell? ⟨b3, 1, none⟩ = some (.slice B.na B.G B.nc) ∧ z.cell? ⟨b3, 2, none⟩ = some (.slice B.ma B.M B.mc) ∧ z.cell? ⟨b3, 3, none⟩ = some (.slice B.oa B.O B.oc) ∧ z.cell? ⟨b3, 4, none⟩ = some (.slice B.fa B.K B.fc)) (fun _ => false) 8 #[true, true, false, true, true, false, true, true, false, false, true, false, false, false, false] { tmps := #[t0, t1, (.pointer (some ⟨b2, 0, none⟩)), (.pointer (some ⟨b3, 0, none⟩)), t4, t5, t6, t7, t8, (.pointer (some ⟨b9, 0, none⟩)), t10, t11, t12, t13, t14, t15, t16, t17, t18, t19, t20, t21, t22, t23, t24, t25, t26, t27, t28, t29, t30, t31, t32, t33, t34, t35, t36, t37, t38, t39, t40, (.agg #[.slice A.sa A.sn A.sc, .slice A.na A.G A.nc, .slice A.ma A.M A.mc, .slice A.oa A.O A.oc, .slice A.fa A.K A.fc]), (.agg #[.slice B.sa B.sn B.sc, .slice B.na B.G B.nc, .slice B.ma B.M B.mc, .slice B.oa B.O B.oc, .slice B.fa B.K B.fc]), t43, (.pointer (some ⟨b2, 1, none⟩)), (.slice A.na A.G A.nc), t46, (.pointer (some ⟨b3, 1, none⟩)), (.slice B.na B.G B.nc), t49, t50, t51, t52, t53, t54, t55, t56, t57, t58, t59, t60, t61, t62, t63, t64, t65, t66, t67, t68, t69, t70, t71, t72, t73, t74, t75, t76, t77, t78, t79, t80, t81, t82, t83, t84, t85, t86, t87, t88, t89, t90, t91, t92, t93, t94, t95, t96, t97, t98, t99, t100, t101, t102, t103, t104, t105, t106, t107, t108, t109, t110, t111, t112, t113, t114, t115, t116, t117, t118, t119, t120, t121, t122, t123, t124, t125, t126, t127, t128, t129, t130, t131, t132, t133, t134, t135, t136, t137, t138, t139, t140, t141, t142, t143, t144, t145], defers := [] } z) := hid (by
    intro b8 b9 b10 wb nb mb V U z hq
    refine G_alt (l := [2, 9, 11]) (by kernel_rfl) (by decide) ?_
    intro i hi
    have hi2 : i = 2 ∨ i = 9 ∨ i = 11 := by simpa using hi
    clear hi
    rcases hi2 with rfl | rfl | rfl
    · refine ⟨{ dst := some 43, op := Op.call { callee := Callee.value (Operand.func 37), args := #[Operand.tmp 41, Operand.tmp 42], argTypes := #[26, 26] }, type := 47, pos := _, after := #[{ on := 0, ground := Ground.data }, { on := 1, ground := Ground.data }], guard := none }, rfl, fun K' hK => ?_⟩
      have hz := hq.low
      have HQ := hid hq
      clear hq
      go_simp
      refine (C37.out z hz).mono ?_
      rintro e z1 ⟨rfl, H1⟩
      dsimp only
      have hq1 := HQ.out.c1 H1.out.2.1 H1.out.1 (by omega) H1.out.2.2
      refine hK.out _ _ (fun _ => HS.out _ hq1.low) (fun _ => ?_)
      (try simp only [List.setIfInBounds_toArray, List.set_cons_zero, List.set_cons_succ])
      exact K19.out b8 b9 b10 (z.heap.size + 2) nb mb V U z1 hq1
    · refine ⟨{ dst := some 8, op := Op.alloc 47, type := 0, pos := _, after := #[], guard := none }, rfl, fun K' hK => ?_⟩
      have hq1 := hq.n8
      have HQ := hid hq1
      clear hq hq1
      go_simp
      refine hK.out _ _ (fun _ => HS.out _ HQ.out.low) (fun _ => ?_)
      (try simp only [List.setIfInBounds_toArray, List.set_cons_zero, List.set_cons_succ])
      exact K089.out z.heap.size b9 b10 wb nb mb V U _ HQ.out
    · refine ⟨{ dst := some 10, op := Op.alloc 23, type := 0, pos := _, after := #[], guard := none }, rfl, fun K' hK => ?_⟩
      have hq1 := hq.n10
      have HQ := hid hq1
      clear hq hq1
      go_simp
      refine hK.out _ _ (fun _ => HS.out _ HQ.out.low) (fun _ => ?_)
      (try simp only [List.setIfInBounds_toArray, List.set_cons_zero, List.set_cons_succ])
      exact K0910.out b8 b9 z.heap.size wb nb mb V U _ HQ.out)
  have K010 : Hid (∀ (b8 b9 b10 wb nb mb : Nat) (V U : Nat → Value) (z : World), Q9 w0 A B wb nb mb V U 0 b8 b9 b10 false false true z → wpAnyG Tryd.prog .any (ops9 q0 q1 q2 q3 q4 q5 q6 q7 q8 q9 q10 q11 q12 q13 q14) Q (fun z : World => z.cell? ⟨b2, 0, none⟩ = some (.slice A.sa A.sn A.sc) ∧ z.cell? ⟨b2, 1, none⟩ = some (.slice A.na A.G A.nc) ∧ z.cell? ⟨b2, 2, none⟩ = some (.slice A.ma A.M A.mc) ∧ z.cell? ⟨b2, 3, none⟩ = some (.slice A.oa A.O A.oc) ∧ z.cell? ⟨b2, 4, none⟩ = some (.slice A.fa A.K A.fc) ∧ z.cell? ⟨b3, 0, none⟩ = some (.slice B.sa B.sn B.sc) ∧ z.cell? ⟨b3, 1, none⟩ = some (.slice B.na B.G B.nc) ∧ z.cell? ⟨b3, 2, none⟩ = some (.slice B.ma B.M B.mc) ∧ z.cell? ⟨b3, 3, none⟩ = some (.slice B.oa B.O B.oc) ∧ z.cell? ⟨b3, 4, none⟩ = some (.slice B.fa B.K B.fc)) (fun _ => false) 8 #[true, true, false, true, true, false, true, true, false, false, false, true, false, false, false] { tmps := #[t0, t1, (.pointer (some ⟨b2, 0, none⟩)), (.pointer (some ⟨b3, 0, none⟩)), t4, t5, t6, t7, t8, t9, (.pointer (some ⟨b10, 0, none⟩)), t11, t12, t13, t14, t15, t16, t17, t18, t19, t20, t21, t22, t23, t24, t25, t26, t27, t28, t29, t30, t31, t32, t33, t34, t35, t36, t37, t38, t39, t40, (.agg #[.slice A.sa A.sn A.sc, .slice A.na A.G A.nc, .slice A.ma A.M A.mc, .slice A.oa A.O A.oc, .slice A.fa A.K A.fc]), (.agg #[.slice B.sa B.sn B.sc, .slice B.na B.G B.nc, .slice B.ma B.M B.mc, .slice B.oa B.O B.oc, .slice B.fa B.K B.fc]), t43, (.pointer (some ⟨b2, 1, none⟩)), (.slice A.na A.G A.nc), t46, (.pointer (some ⟨b3, 1, none⟩)), (.slice B.na B.G B.nc), t49, t50, t51, t52, t53, t54, t55, t56, t57, t58, t59, t60, t61, t62, t63, t64, t65, t66, t67, t68, t69, t70, t71, t72, t73, t74, t75, t76, t77, t78, t79, t80, t81, t82, t83, t84, t85, t86, t87, t88, t89, t90, t91, t92, t93, t94, t95, t96, t97, t98, t99, t100, t101, t102, t103, t104, t105, t106, t107, t108, t109, t110, t111, t112, t113, t114, t115, t116, t117, t118, t119, t120, t121, t122, t123, t124, t125, t126, t127, t128, t129, t130, t131, t132, t133, t134, t135, t136, t137, t138, t139, t140, t141, t142, t143, t144, t145], defers := [] } z) := hid (by
    intro b8 b9 b10 wb nb mb V U z hq
    refine G_alt (l := [2, 9, 10]) (by kernel_rfl) (by decide) ?_
    intro i hi
    have hi2 : i = 2 ∨ i = 9 ∨ i = 10 := by simpa using hi
    clear hi
    rcases hi2 with rfl | rfl | rfl
    · refine ⟨{ dst := some 43, op := Op.call { callee := Callee.value (Operand.func 37), args := #[Operand.tmp 41, Operand.tmp 42], argTypes := #[26, 26] }, type := 47, pos := _, after := #[{ on := 0, ground := Ground.data }, { on := 1, ground := Ground.data }], guard := none }, rfl, fun K' hK => ?_⟩
      have hz := hq.low
      have HQ := hid hq
      clear hq
      go_simp
      refine (C37.out z hz).mono ?_
      rintro e z1 ⟨rfl, H1⟩
      dsimp only
      have hq1 := HQ.out.c1 H1.out.2.1 H1.out.1 (by omega) H1.out.2.2
      refine hK.out _ _ (fun _ => HS.out _ hq1.low) (fun _ => ?_)
      (try simp only [List.setIfInBounds_toArray, List.set_cons_zero, List.set_cons_succ])
      exact K110.out b8 b9 b10 (z.heap.size + 2) nb mb V U z1 hq1
    · refine ⟨{ dst := some 8, op := Op.alloc 47, type := 0, pos := _, after := #[], guard := none }, rfl, fun K' hK => ?_⟩
      have hq1 := hq.n8
      have HQ := hid hq1
      clear hq hq1
      go_simp
      refine hK.out _ _ (fun _ => HS.out _ HQ.out.low) (fun _ => ?_)
      (try simp only [List.setIfInBounds_toArray, List.set_cons_zero, List.set_cons_succ])
      exact K0810.out z.heap.size b9 b10 wb nb mb V U _ HQ.out
    · refine ⟨{ dst := some 9, op := Op.alloc 23, type := 0, pos := _, after := #[], guard := none }, rfl, fun K' hK => ?_⟩
      have hq1 := hq.n9
      have HQ := hid hq1
      clear hq hq1
      go_simp
      refine hK.out _ _ (fun _ => HS.out _ HQ.out.low) (fun _ => ?_)
      (try simp only [List.setIfInBounds_toArray, List.set_cons_zero, List.set_cons_succ])
      exact K0910.out b8 z.heap.size b10 wb nb mb V U _ HQ.out)
  have K0 : Hid (∀ (b8 b9 b10 wb nb mb : Nat) (V U : Nat → Value) (z : World), Q9 w0 A B wb nb mb V U 0 b8 b9 b10 false false false z → wpAnyG Tryd.prog .any (ops9 q0 q1 q2 q3 q4 q5 q6 q7 q8 q9 q10 q11 q12 q13 q14) Q (fun z : World => z.cell? ⟨b2, 0, none⟩ = some (.slice A.sa A.sn A.sc) ∧ z.cell? ⟨b2, 1, none⟩ = some (.slice A.na A.G A.nc) ∧ z.cell? ⟨b2, 2, none⟩ = some (.slice A.ma A.M A.mc) ∧ z.cell? ⟨b2, 3, none⟩ = some (.slice A.oa A.O A.oc) ∧ z.cell? ⟨b2, 4, none⟩ = some (.slice A.fa A.K A.fc) ∧ z.cell? ⟨b3, 0, none⟩ = some (.slice B.sa B.sn B.sc) ∧ z.cell? ⟨b3, 1, none⟩ = some (.slice B.na B.G B.nc) ∧ z.cell? ⟨b3, 2, none⟩ = some (.slice B.ma B.M B.mc) ∧ z.cell? ⟨b3, 3, none⟩ = some (.slice B.oa B.O B.oc) ∧ z.cell? ⟨b3, 4, none⟩ = some (.slice B.fa B.K B.fc)) (fun _ => false) 9 #[true, true, false, true, true, false, true, true, false, false, false, false, false, false, false] { tmps := #[t0, t1, (.pointer (some ⟨b2, 0, none⟩)), (.pointer (some ⟨b3, 0, none⟩)), t4, t5, t6, t7, t8, t9, t10, t11, t12, t13, t14, t15, t16, t17, t18, t19, t20, t21, t22, t23, t24, t25, t26, t27, t28, t29, t30, t31, t32, t33, t34, t35, t36, t37, t38, t39, t40, (.agg #[.slice A.sa A.sn A.sc, .slice A.na A.G A.nc, .slice A.ma A.M A.mc, .slice A.oa A.O A.oc, .slice A.fa A.K A.fc]), (.agg #[.slice B.sa B.sn B.sc, .slice B.na B.G B.nc, .slice B.ma B.M B.mc, .slice B.oa B.O B.oc, .slice B.fa B.K B.fc]), t43, (.pointer (some ⟨b2, 1, none⟩)), (.slice A.na A.G A.nc), t46, (.pointer (some ⟨b3, 1, none⟩)), (.slice B.na B.G B.nc), t49, t50, t51, t52, t53, t54, t55, t56, t57, t58, t59, t60, t61, t62, t63, t64, t65, t66, t67, t68, t69, t70, t71, t72, t73, t74, t75, t76, t77, t78, t79, t80, t81, t82, t83, t84, t85, t86, t87, t88, t89, t90, t91, t92, t93, t94, t95, t96, t97, t98, t99, t100, t101, t102, t103, t104, t105, t106, t107, t108, t109, t110, t111, t112, t113, t114, t115, t116, t117, t118, t119, t120, t121, t122, t123, t124, t125, t126, t127, t128, t129, t130, t131, t132, t133, t134, t135, t136, t137, t138, t139, t140, t141, t142, t143, t144, t145], defers := [] } z) := hid (by
    intro b8 b9 b10 wb nb mb V U z hq
    refine G_alt (l := [2, 9, 10, 11]) (by kernel_rfl) (by decide) ?_
    intro i hi
    have hi2 : i = 2 ∨ i = 9 ∨ i = 10 ∨ i = 11 := by simpa using hi
    clear hi
    rcases hi2 with rfl | rfl | rfl | rfl
    · refine ⟨{ dst := some 43, op := Op.call { callee := Callee.value (Operand.func 37), args := #[Operand.tmp 41, Operand.tmp 42], argTypes := #[26, 26] }, type := 47, pos := _, after := #[{ on := 0, ground := Ground.data }, { on := 1, ground := Ground.data }], guard := none }, rfl, fun K' hK => ?_⟩
      have hz := hq.low
      have HQ := hid hq
      clear hq
      go_simp
      refine (C37.out z hz).mono ?_
      rintro e z1 ⟨rfl, H1⟩
      dsimp only
      have hq1 := HQ.out.c1 H1.out.2.1 H1.out.1 (by omega) H1.out.2.2
      refine hK.out _ _ (fun _ => HS.out _ hq1.low) (fun _ => ?_)
      (try simp only [List.setIfInBounds_toArray, List.set_cons_zero, List.set_cons_succ])
      exact K1.out b8 b9 b10 (z.heap.size + 2) nb mb V U z1 hq1
    · refine ⟨{ dst := some 8, op := Op.alloc 47, type := 0, pos := _, after := #[], guard := none }, rfl, fun K' hK => ?_⟩
      have hq1 := hq.n8
      have HQ := hid hq1
      clear hq hq1
      go_simp
      refine hK.out _ _ (fun _ => HS.out _ HQ.out.low) (fun _ => ?_)
      (try simp only [List.setIfInBounds_toArray, List.set_cons_zero, List.set_cons_succ])
      exact K08.out z.heap.size b9 b10 wb nb mb V U _ HQ.out
    · refine ⟨{ dst := some 9, op := Op.alloc 23, type := 0, pos := _, after := #[], guard := none }, rfl, fun K' hK => ?_⟩
      have hq1 := hq.n9
      have HQ := hid hq1
      clear hq hq1
      go_simp
      refine hK.out _ _ (fun _ => HS.out _ HQ.out.low) (fun _ => ?_)
      (try simp only [List.setIfInBounds_toArray, List.set_cons_zero, List.set_cons_succ])
      exact K09.out b8 z.heap.size b10 wb nb mb V U _ HQ.out
    · refine ⟨{ dst := some 10, op := Op.alloc 23, type := 0, pos := _, after := #[], guard := none }, rfl, fun K' hK => ?_⟩
      have hq1 := hq.n10
      have HQ := hid hq1
      clear hq hq1
      go_simp
      refine hK.out _ _ (fun _ => HS.out _ HQ.out.low) (fun _ => ?_)
      (try simp only [List.setIfInBounds_toArray, List.set_cons_zero, List.set_cons_succ])
      exact K010.out b8 b9 z.heap.size wb nb mb V U _ HQ.out)
  have hS0 := HS.out w0 (Below.refl _ _)
  refine G_take (i := 0) (oi := { dst := some 41, op := Op.load 26 (Operand.tmp 2), type := 26, pos := _, after := #[], guard := none }) (v := .agg #[.slice A.sa A.sn A.sc, .slice A.na A.G A.nc, .slice A.ma A.M A.mc, .slice A.oa A.O A.oc, .slice A.fa A.K A.fc]) rfl (by kernel_rfl) (by kernel_rfl) (by kernel_rfl) (by kernel_rfl) (fun c a w h => HQP.out _ _ _ _ _ h) (by rfl) (fun u hu => ?_) hS0 ?_
  · (try dsimp only at hu); go_simp
  (try simp only [Act.put, List.setIfInBounds_toArray, List.set_cons_zero, List.set_cons_succ])
  refine G_take (i := 1) (oi := { dst := some 42, op := Op.load 26 (Operand.tmp 3), type := 26, pos := _, after := #[], guard := none }) (v := .agg #[.slice B.sa B.sn B.sc, .slice B.na B.G B.nc, .slice B.ma B.M B.mc, .slice B.oa B.O B.oc, .slice B.fa B.K B.fc]) rfl (by kernel_rfl) (by kernel_rfl) (by kernel_rfl) (by kernel_rfl) (fun c a w h => HQP.out _ _ _ _ _ h) (by rfl) (fun u hu => ?_) hS0 ?_
  · (try dsimp only at hu); go_simp
  (try simp only [Act.put, List.setIfInBounds_toArray, List.set_cons_zero, List.set_cons_succ])
  refine G_take (i := 3) (oi := { dst := some 44, op := Op.fieldAddr 26 (Operand.tmp 2) 1, type := 0, pos := _, after := #[], guard := none }) (v := .pointer (some ⟨b2, 1, none⟩)) rfl (by kernel_rfl) (by kernel_rfl) (by kernel_rfl) (by kernel_rfl) (fun c a w h => HQP.out _ _ _ _ _ h) (by rfl) (fun u hu => ?_) hS0 ?_
  · (try dsimp only at hu); go_simp
  (try simp only [Act.put, List.setIfInBounds_toArray, List.set_cons_zero, List.set_cons_succ])
  refine G_take (i := 4) (oi := { dst := some 45, op := Op.load 23 (Operand.tmp 44), type := 23, pos := _, after := #[{ on := 3, ground := Ground.data }], guard := none }) (v := .slice A.na A.G A.nc) rfl (by kernel_rfl) (by kernel_rfl) (by kernel_rfl) (by kernel_rfl) (fun c a w h => HQP.out _ _ _ _ _ h) (by rfl) (fun u hu => ?_) hS0 ?_
  · (try dsimp only at hu); go_simp
  (try simp only [Act.put, List.setIfInBounds_toArray, List.set_cons_zero, List.set_cons_succ])
  refine G_take (i := 6) (oi := { dst := some 47, op := Op.fieldAddr 26 (Operand.tmp 3) 1, type := 0, pos := _, after := #[], guard := none }) (v := .pointer (some ⟨b3, 1, none⟩)) rfl (by kernel_rfl) (by kernel_rfl) (by kernel_rfl) (by kernel_rfl) (fun c a w h => HQP.out _ _ _ _ _ h) (by rfl) (fun u hu => ?_) hS0 ?_
  · (try dsimp only at hu); go_simp
  (try simp only [Act.put, List.setIfInBounds_toArray, List.set_cons_zero, List.set_cons_succ])
  refine G_take (i := 7) (oi := { dst := some 48, op := Op.load 23 (Operand.tmp 47), type := 23, pos := _, after := #[{ on := 6, ground := Ground.data }], guard := none }) (v := .slice B.na B.G B.nc) rfl (by kernel_rfl) (by kernel_rfl) (by kernel_rfl) (by kernel_rfl) (fun c a w h => HQP.out _ _ _ _ _ h) (by rfl) (fun u hu => ?_) hS0 ?_
  · (try dsimp only at hu); go_simp
  (try simp only [Act.put, List.setIfInBounds_toArray, List.set_cons_zero, List.set_cons_succ])
  exact K0.out 0 0 0 0 0 0 (fun _ => undef) (fun _ => undef) w0 ⟨Below.refl _ _, fun h => by omega, fun h => by omega, fun h => by omega, fun h => (by cases h), fun h => (by cases h), fun h => (by cases h), fun h => (by cases h)⟩

end Go.Proofs.YtdncjikmknkkpaaDoor

namespace Go.Proofs.YtdncjikmknkkpaaDoor
open Go.RowKit Go.Shelf Go.Maps

/-- What gather answers to Both, as it lies from w0 on. -/
def GaF (w0 : World) (A B : Ax) (sv nv pv : Value) (k : Nat) (er : Int) (z : World) : Prop :=
  (er = 0 ∧ (bL A B k).length = k ∧ k ≤ 2048 ∧ z.ownsRow w0.heap.size 3 1 sv (cs ((bS A B).map fun p => ix p (bL A B k))).length (vals (cs ((bS A B).map fun p => ix p (bL A B k)))) ∧ (∃ V, Rws2 z w0.heap.size nv k (fun i => (bX A B (nAt (bL A B k) i)).map fun p => ix p (bL A B k)) V) ∧ z.ownsRow w0.heap.size 79 2 pv k (pcells (bL A B k)))
  ∨ (er = 2 ∧ ∃ k, 2048 < (bL A B k).length)

theorem GaF.keep {w0 : World} {A B : Ax} {sv nv pv : Value} {k : Nat} {er : Int} {z z' : World} (h : GaF w0 A B sv nv pv k er z) (hb : ∀ (b : Nat) (c : Array Value) (t : TypeId) (q : Nat × Nat), z.heap[b]? = some (Obj.cells c t q) → t ≠ 26 → z'.heap[b]? = z.heap[b]?) : GaF w0 A B sv nv pv k er z' := by
  have own : ∀ {base : Nat} {e : TypeId} {size : Nat} {v : Value} {m : Nat} {xs : List Value}, e ≠ 26 → z.ownsRow base e size v m xs → z'.ownsRow base e size v m xs := fun {base e size v m xs} he ho => owns_of_blk ho (fun b e1 => by
    obtain ⟨c, q, h3⟩ := owns_blk ho e1
    exact hb b c e q h3 he)
  rcases h with ⟨h1, h2, h3, h4, ⟨V, h5, h6⟩, h7⟩ | h
  · exact Or.inl ⟨h1, h2, h3, own (by decide) h4, ⟨V, own (by decide) h5, fun i hi => by
      obtain ⟨v, g1, g2⟩ := h6 i hi
      exact ⟨v, g1, own (by decide) g2⟩⟩, own (by decide) h7⟩
  · exact Or.inr h

theorem gaf_of {A B : Ax} {w : World} {e : Ending} {w' : World} (hA : chkA A = 0) (hB : chkA B = 0) (h : GaIs w (crP (okB A B) (aSt A) (aSt B)) (bX A B) e w') (w0 : World) (hw : w0.heap.size ≤ w.heap.size) :
    ∃ (s1 : Option Addr) (s2 s3 : Nat) (n1 : Option Addr) (n2 n3 : Nat) (p1 : Option Addr) (p2 p3 k : Nat) (er : Int), e = .returned (.tuple #[.agg #[.slice s1 s2 s3, .slice n1 n2 n3, .slice none 0 0, .slice none 0 0, .slice none 0 0], .slice p1 p2 p3, .int .i64 er]) ∧ Hid (Below w.heap.size w w' ∧ GaF w0 A B (.slice s1 s2 s3) (.slice n1 n2 n3) (.slice p1 p2 p3) k er w') := by
  have hsm : ∀ p ∈ bS A B, Sml p := fun p hp => bP_sml hA hB (bP_start hA hB p hp)
  have hm : (crP (okB A B) (aSt A) (aSt B)).map prn = bS A B := prn_mks hsm
  have hn : ∀ Q, nms Q (crP (okB A B) (aSt A) (aSt B)) = (bS A B).map fun p => ix p Q := fun Q => by
    unfold nms crP
    rw [List.map_map]
    exact List.map_congr_left (fun p hp => by show ix (prn (mkPr p)) Q = ix p Q; rw [prn_mk (hsm p hp)])
  unfold GaIs at h
  rw [hm] at h
  rcases h with ⟨k, sv, nv, pv, V, h1, h2, rfl, h3, h4, h5, h6⟩ | ⟨h1, rfl, h2⟩
  · rw [hn] at h4
    obtain ⟨a, c, hs⟩ := owns_sl h4
    obtain ⟨a', c', hn'⟩ := owns_sl h5.top
    obtain ⟨a'', c'', hp⟩ := owns_sl h6
    subst hs hn' hp
    exact ⟨_, _, _, _, _, _, _, _, _, k, 0, rfl, hid ⟨h3, Or.inl ⟨rfl, h1, h2, owns_mono h4 hw, ⟨V, owns_mono h5.top hw, fun i hi => by
      obtain ⟨v, g1, g2⟩ := h5.row i hi
      exact ⟨v, g1, owns_mono g2 hw⟩⟩, owns_mono h6 hw⟩⟩⟩
  · exact ⟨none, 0, 0, none, 0, 0, none, 0, 0, 0, 2, rfl, hid ⟨h2, Or.inr ⟨rfl, h1⟩⟩⟩

/-- The lists of Start, each once; cross over them; the variable. -/
structure QA (w0 : World) (A B : Ax) (c : Nat) (f1 : Option Addr) (f3 : Nat) (s1 : Option Addr) (s3 Bf Bs Bq b8 wb : Nat) (z3 : World) (b11 : Nat) (x : Bool) (z : World) : Prop where
  low : Below w0.heap.size w0 z
  p1 : 1 ≤ c → z.ownsRow w0.heap.size 3 1 (.slice f1 (aSt A).length f3) (cs (aSt A)).length (vals (cs (aSt A)))
  p2 : 2 ≤ c → z.ownsRow w0.heap.size 3 1 (.slice s1 (aSt B).length s3) (cs (aSt B)).length (vals (cs (aSt B)))
  p3 : 3 ≤ c → Below w0.heap.size w0 z3 ∧ Below z3.heap.size z3 z ∧ z3.cell? ⟨Bf, 0, none⟩ = some (.slice f1 (aSt A).length f3) ∧ z3.cell? ⟨Bs, 0, none⟩ = some (.slice s1 (aSt B).length s3) ∧ z3.cell? ⟨Bq, 0, none⟩ = some (.slice (some ⟨wb, 0, none⟩) A.G A.G) ∧ z3.ownsRow w0.heap.size 3 1 (.slice f1 (aSt A).length f3) (cs (aSt A)).length (vals (cs (aSt A))) ∧ z3.ownsRow w0.heap.size 3 1 (.slice s1 (aSt B).length s3) (cs (aSt B)).length (vals (cs (aSt B)))
  a11 : x = true → z.heap[b11]? = some (.cells nil5 26) ∧ w0.heap.size ≤ b11

section
variable {w0 : World} {A B : Ax} {c : Nat} {f1 s1 : Option Addr} {f3 s3 Bf Bs Bq b8 wb : Nat} {z3 : World} {b11 : Nat} {x : Bool} {z z' : World}
theorem QA.al (h : QA w0 A B c f1 f3 s1 s3 Bf Bs Bq b8 wb z3 b11 false z) : QA w0 A B c f1 f3 s1 s3 Bf Bs Bq b8 wb z3 z.heap.size true (z.alloc (.cells nil5 26)) := by
  have hb := box_below z (.cells nil5 26)
  have hs := h.low.size
  exact ⟨h.low.trans (hb.mono hs), fun hc => owns_below (h.p1 hc) hb, fun hc => owns_below (h.p2 hc) hb, fun hc => ⟨(h.p3 hc).1, (h.p3 hc).2.1.trans (hb.mono (h.p3 hc).2.1.size), (h.p3 hc).2.2⟩, fun _ => ⟨Go.Deep.blk_alloc_new _ _, hs⟩⟩
theorem QA.k1 (h : QA w0 A B 0 f1 f3 s1 s3 Bf Bs Bq b8 wb z3 b11 x z) (hb : Below z.heap.size z z') {f1' : Option Addr} {f3' : Nat} (hr : z'.ownsRow (z.heap.size + 1) 3 1 (.slice f1' (aSt A).length f3') (cs (aSt A)).length (vals (cs (aSt A)))) : QA w0 A B 1 f1' f3' s1 s3 Bf Bs Bq b8 wb z3 b11 x z' := by
  have hs := h.low.size
  exact ⟨h.low.trans (hb.mono hs), fun _ => owns_mono hr (by omega), fun hc => by omega, fun hc => by omega, fun hx => ⟨(q9_old hb (h.a11 hx).1).1, (h.a11 hx).2⟩⟩
theorem QA.k2 (h : QA w0 A B 1 f1 f3 s1 s3 Bf Bs Bq b8 wb z3 b11 x z) (hb : Below z.heap.size z z') {s1' : Option Addr} {s3' : Nat} (hr : z'.ownsRow (z.heap.size + 1) 3 1 (.slice s1' (aSt B).length s3') (cs (aSt B)).length (vals (cs (aSt B)))) : QA w0 A B 2 f1 f3 s1' s3' Bf Bs Bq b8 wb z3 b11 x z' := by
  have hs := h.low.size
  exact ⟨h.low.trans (hb.mono hs), fun _ => owns_below (h.p1 (Nat.le_refl _)) hb, fun _ => owns_mono hr (by omega), fun hc => by omega, fun hx => ⟨(q9_old hb (h.a11 hx).1).1, (h.a11 hx).2⟩⟩
theorem QA.k3 (h : QA w0 A B 2 f1 f3 s1 s3 Bf Bs Bq b8 wb z3 b11 x z) (hb : Below z.heap.size z z') {Bf' Bs' Bq' : Nat} (h1 : z'.cell? ⟨Bf', 0, none⟩ = some (.slice f1 (aSt A).length f3)) (h2 : z'.cell? ⟨Bs', 0, none⟩ = some (.slice s1 (aSt B).length s3)) (h3 : z'.cell? ⟨Bq', 0, none⟩ = some (.slice (some ⟨wb, 0, none⟩) A.G A.G)) : QA w0 A B 3 f1 f3 s1 s3 Bf' Bs' Bq' b8 wb z' b11 x z' := by
  have hs := h.low.size
  exact ⟨h.low.trans (hb.mono hs), fun _ => owns_below (h.p1 (by omega)) hb, fun _ => owns_below (h.p2 (by omega)) hb, fun _ => ⟨h.low.trans (hb.mono hs), Below.refl _ _, h1, h2, h3, owns_below (h.p1 (by omega)) hb, owns_below (h.p2 (by omega)) hb⟩, fun hx => ⟨(q9_old hb (h.a11 hx).1).1, (h.a11 hx).2⟩⟩
end

/-- cross over the lists of Start, at gather's call. -/
theorem QA.itd {w0 : World} {A B : Ax} {f1 s1 : Option Addr} {f3 s3 Bf Bs Bq b8 wb nb mb b9 b10 : Nat} {V U : Nat → Value} {z3 : World} {b11 : Nat} {x : Bool} {z : World} (h : QA w0 A B 3 f1 f3 s1 s3 Bf Bs Bq b8 wb z3 b11 x z) (hg : Bgm A B b9 b10 b8 wb nb mb V U w0) : ItD z3 z3 z.heap.size (.func (.func 77) #[] #[.pointer (some ⟨Bs, 0, none⟩), .pointer (some ⟨Bf, 0, none⟩), .pointer (some ⟨Bq, 0, none⟩)]) (bS A B) (crP (okB A B) (aSt A) (aSt B)) := by
  obtain ⟨g1, g2, g3, g4, g5, g6, g7⟩ := h.p3 (Nat.le_refl _)
  obtain ⟨hGA, _⟩ := chkA_ok hg.okA
  obtain ⟨hGB, _⟩ := chkA_ok hg.okB
  have hgz := hg.below g1
  have hsz := g2.size
  obtain ⟨a, c, hv, ab, ao, ha, hc⟩ := owns_row g6
  obtain ⟨a', c', hv', ab', ao', ha', hc'⟩ := owns_row g7
  rw [cs_len] at ha hc hv ha' hc' hv'
  cases hv
  cases hv'
  refine itd_of (H := B.G) (fb := ab) (fo := ao) (sb := ab') (so := ao') g3 g4 g5 ha (fun i hi => ?_) ha' (fun i hi => ?_) hgz.ls hgz.tb (Or.inl (Nat.lt_of_lt_of_le (World.block_lt_of_cell? _ _ g3) hsz)) (Or.inl (Nat.lt_of_lt_of_le (World.block_lt_of_cell? _ _ g4) hsz)) (Or.inl (Nat.lt_of_lt_of_le (World.block_lt_of_cell? _ _ g5) hsz)) (fun hl => Nat.lt_of_lt_of_le (World.block_lt_of_cell? _ _ (hc 0 hl)) hsz) (fun hl => Nat.lt_of_lt_of_le (World.block_lt_of_cell? _ _ (hc' 0 hl)) hsz) (fun hl => Nat.lt_of_lt_of_le (hgz.ls 0 hl).lt hsz) (Nat.lt_of_lt_of_le (Nat.lt_of_le_of_lt (Nat.zero_le _) (World.block_lt_of_cell? _ _ g3)) hsz) (onN_nodup _ _) (fun y hy => aSt_lt hg.okB hy) hGB (fun x hx => aSt_lt hg.okA hx) hGA (fun x y _ => mem_pwS _ _ _ _) (aSt_len hg.okA) (aSt_len hg.okB)
  · have := hc i hi
    simp only [cs_at] at this
    exact this
  · have := hc' i hi
    simp only [cs_at] at this
    exact this

def ops10 (q0 q1 q2 q3 q4 q5 q6 q7 q8 q9 q10 q11 q12 q13 q14 q15 q16 q17 : String) : Array Oper := #[{ dst := some 51, op := Op.fieldAddr 26 (Operand.tmp 2) 0, type := 0, pos := q0, after := #[], guard := none },
  { dst := some 52, op := Op.load 22 (Operand.tmp 51), type := 22, pos := q1, after := #[{ on := 0, ground := Ground.data }], guard := none },
  { dst := some 53, op := Op.call { callee := Callee.value (Operand.func 41), args := #[Operand.tmp 52], argTypes := #[22] }, type := 22, pos := q2, after := #[{ on := 1, ground := Ground.data }], guard := none },
  { dst := some 54, op := Op.fieldAddr 26 (Operand.tmp 3) 0, type := 0, pos := q3, after := #[], guard := none },
  { dst := some 55, op := Op.load 22 (Operand.tmp 54), type := 22, pos := q4, after := #[{ on := 3, ground := Ground.data }], guard := none },
  { dst := some 56, op := Op.call { callee := Callee.value (Operand.func 41), args := #[Operand.tmp 55], argTypes := #[22] }, type := 22, pos := q5, after := #[{ on := 4, ground := Ground.data }, { on := 2, ground := Ground.chain }], guard := none },
  { dst := some 57, op := Op.load 47 (Operand.tmp 8), type := 47, pos := q6, after := #[], guard := none },
  { dst := some 58, op := Op.call { callee := Callee.value (Operand.func 40), args := #[Operand.tmp 53, Operand.tmp 56, Operand.tmp 57], argTypes := #[22, 22, 47] }, type := 75, pos := q7, after := #[{ on := 2, ground := Ground.data }, { on := 5, ground := Ground.data }, { on := 6, ground := Ground.data }, { on := 5, ground := Ground.chain }], guard := none },
  { dst := some 59, op := Op.makeFunc (Fn.func 42) #[] #[Operand.tmp 9, Operand.tmp 10, Operand.tmp 8], type := 80, pos := q8, after := #[], guard := none },
  { dst := some 60, op := Op.call { callee := Callee.value (Operand.func 39), args := #[Operand.tmp 58, Operand.tmp 59], argTypes := #[75, 80] }, type := 72, pos := q9, after := #[{ on := 7, ground := Ground.data }, { on := 8, ground := Ground.data }, { on := 7, ground := Ground.chain }], guard := none },
  { dst := some 50, op := Op.move (Operand.tmp 60), type := 72, pos := q10, after := #[{ on := 9, ground := Ground.data }], guard := none },
  { dst := some 61, op := Op.extract (Operand.tmp 50) 0, type := 26, pos := q11, after := #[{ on := 10, ground := Ground.data }], guard := none },
  { dst := some 62, op := Op.extract (Operand.tmp 50) 1, type := 71, pos := q12, after := #[{ on := 10, ground := Ground.data }, { on := 15, ground := Ground.gcOnly Departure.lateStores }], guard := none },
  { dst := some 63, op := Op.extract (Operand.tmp 50) 2, type := 29, pos := q13, after := #[{ on := 10, ground := Ground.data }, { on := 16, ground := Ground.gcOnly Departure.lateStores }], guard := none },
  { dst := some 11, op := Op.alloc 26, type := 0, pos := q14, after := #[], guard := none },
  { dst := none, op := Op.store 26 (Operand.tmp 11) (Operand.tmp 61), type := 0, pos := q15, after := #[{ on := 14, ground := Ground.data }, { on := 11, ground := Ground.data }, { on := 9, ground := Ground.chain }, { on := 0, ground := Ground.phase }, { on := 1, ground := Ground.phase }, { on := 2, ground := Ground.phase }, { on := 3, ground := Ground.phase }, { on := 4, ground := Ground.phase }, { on := 5, ground := Ground.phase }, { on := 6, ground := Ground.phase }, { on := 7, ground := Ground.phase }, { on := 8, ground := Ground.phase }, { on := 9, ground := Ground.phase }, { on := 10, ground := Ground.phase }, { on := 11, ground := Ground.phase }, { on := 12, ground := Ground.textOnly Departure.lateStores }, { on := 13, ground := Ground.textOnly Departure.lateStores }, { on := 14, ground := Ground.phase }], guard := none },
  { dst := some 12, op := Op.assign (Operand.tmp 62), type := 71, pos := q16, after := #[{ on := 12, ground := Ground.data }, { on := 15, ground := Ground.chain }, { on := 0, ground := Ground.phase }, { on := 1, ground := Ground.phase }, { on := 2, ground := Ground.phase }, { on := 3, ground := Ground.phase }, { on := 4, ground := Ground.phase }, { on := 5, ground := Ground.phase }, { on := 6, ground := Ground.phase }, { on := 7, ground := Ground.phase }, { on := 8, ground := Ground.phase }, { on := 9, ground := Ground.phase }, { on := 10, ground := Ground.phase }, { on := 11, ground := Ground.phase }, { on := 12, ground := Ground.phase }, { on := 13, ground := Ground.textOnly Departure.lateStores }, { on := 14, ground := Ground.phase }, { on := 15, ground := Ground.phase }], guard := none },
  { dst := some 13, op := Op.assign (Operand.tmp 63), type := 29, pos := q17, after := #[{ on := 13, ground := Ground.data }, { on := 16, ground := Ground.chain }, { on := 0, ground := Ground.phase }, { on := 1, ground := Ground.phase }, { on := 2, ground := Ground.phase }, { on := 3, ground := Ground.phase }, { on := 4, ground := Ground.phase }, { on := 5, ground := Ground.phase }, { on := 6, ground := Ground.phase }, { on := 7, ground := Ground.phase }, { on := 8, ground := Ground.phase }, { on := 9, ground := Ground.phase }, { on := 10, ground := Ground.phase }, { on := 11, ground := Ground.phase }, { on := 12, ground := Ground.phase }, { on := 13, ground := Ground.phase }, { on := 14, ground := Ground.phase }, { on := 15, ground := Ground.phase }, { on := 16, ground := Ground.phase }], guard := none }]

set_option maxRecDepth 100000 in
set_option maxHeartbeats 16000000 in
theorem reg10 {Q : Exit → Act → World → Prop} (A B : Ax) (b2 b3 b8 b9 b10 wb nb mb : Nat) (V U : Nat → Value) (t0 t1 t4 t5 t6 t7 t11 t12 t13 t14 t15 t16 t17 t18 t19 t20 t21 t22 t23 t24 t25 t26 t27 t28 t29 t30 t31 t32 t33 t34 t35 t36 t37 t38 t39 t40 t41 t42 t43 t44 t45 t46 t47 t48 t49 t50 t51 t52 t53 t54 t55 t56 t57 t58 t59 t60 t61 t62 t63 t64 t65 t66 t67 t68 t69 t70 t71 t72 t73 t74 t75 t76 t77 t78 t79 t80 t81 t82 t83 t84 t85 t86 t87 t88 t89 t90 t91 t92 t93 t94 t95 t96 t97 t98 t99 t100 t101 t102 t103 t104 t105 t106 t107 t108 t109 t110 t111 t112 t113 t114 t115 t116 t117 t118 t119 t120 t121 t122 t123 t124 t125 t126 t127 t128 t129 t130 t131 t132 t133 t134 t135 t136 t137 t138 t139 t140 t141 t142 t143 t144 t145 : Value) (q0 q1 q2 q3 q4 q5 q6 q7 q8 q9 q10 q11 q12 q13 q14 q15 q16 q17 : String) (w0 : World) (hQp : ∀ c (a : Act) (t : Nat) v w, Q (.panic c) (a.put (some t) v) w → Q (.panic c) a w) (hA : Aw w0 A) (hB : Aw w0 B) (hboA : Bo w0 b2 A) (hboB : Bo w0 b3 B) (hg : Bgm A B b9 b10 b8 wb nb mb V U w0)
    (hfin : ∀ (b11 : Nat) (f1 : Option Addr) (f3 : Nat) (s1 : Option Addr) (s3 Bf Bs Bq : Nat) (e1 : Option Addr) (e2 e3 : Nat) (n1 : Option Addr) (n2 n3 : Nat) (p1 : Option Addr) (p2 p3 k : Nat) (er : Int) (z : World), Below w0.heap.size w0 z → w0.heap.size ≤ b11 → z.heap[b11]? = some (.cells #[.slice e1 e2 e3, .slice n1 n2 n3, .slice none 0 0, .slice none 0 0, .slice none 0 0] 26) → GaF w0 A B (.slice e1 e2 e3) (.slice n1 n2 n3) (.slice p1 p2 p3) k er z → Q .normal { tmps := #[t0, t1, (.pointer (some ⟨b2, 0, none⟩)), (.pointer (some ⟨b3, 0, none⟩)), t4, t5, t6, t7, (.pointer (some ⟨b8, 0, none⟩)), (.pointer (some ⟨b9, 0, none⟩)), (.pointer (some ⟨b10, 0, none⟩)), (.pointer (some ⟨b11, 0, none⟩)), (.slice p1 p2 p3), (.int .i64 er), t14, t15, t16, t17, t18, t19, t20, t21, t22, t23, t24, t25, t26, t27, t28, t29, t30, t31, t32, t33, t34, t35, t36, t37, t38, t39, t40, t41, t42, t43, t44, t45, t46, t47, t48, t49, (.tuple #[.agg #[.slice e1 e2 e3, .slice n1 n2 n3, .slice none 0 0, .slice none 0 0, .slice none 0 0], .slice p1 p2 p3, .int .i64 er]), (.pointer (some ⟨b2, 0, none⟩)), (.slice A.sa A.sn A.sc), (.slice f1 (aSt A).length f3), (.pointer (some ⟨b3, 0, none⟩)), (.slice B.sa B.sn B.sc), (.slice s1 (aSt B).length s3), (.slice (some ⟨wb, 0, none⟩) A.G A.G), (.func (.func 77) #[] #[.pointer (some ⟨Bs, 0, none⟩), .pointer (some ⟨Bf, 0, none⟩), .pointer (some ⟨Bq, 0, none⟩)]), (.func (.func 42) #[] #[.pointer (some ⟨b9, 0, none⟩), .pointer (some ⟨b10, 0, none⟩), .pointer (some ⟨b8, 0, none⟩)]), (.tuple #[.agg #[.slice e1 e2 e3, .slice n1 n2 n3, .slice none 0 0, .slice none 0 0, .slice none 0 0], .slice p1 p2 p3, .int .i64 er]), (.agg #[.slice e1 e2 e3, .slice n1 n2 n3, .slice none 0 0, .slice none 0 0, .slice none 0 0]), (.slice p1 p2 p3), (.int .i64 er), t64, t65, t66, t67, t68, t69, t70, t71, t72, t73, t74, t75, t76, t77, t78, t79, t80, t81, t82, t83, t84, t85, t86, t87, t88, t89, t90, t91, t92, t93, t94, t95, t96, t97, t98, t99, t100, t101, t102, t103, t104, t105, t106, t107, t108, t109, t110, t111, t112, t113, t114, t115, t116, t117, t118, t119, t120, t121, t122, t123, t124, t125, t126, t127, t128, t129, t130, t131, t132, t133, t134, t135, t136, t137, t138, t139, t140, t141, t142, t143, t144, t145], defers := [] } z) :
    wpAnyG Tryd.prog .any (ops10 q0 q1 q2 q3 q4 q5 q6 q7 q8 q9 q10 q11 q12 q13 q14 q15 q16 q17) Q (fun z : World => z.cell? ⟨b2, 0, none⟩ = some (.slice A.sa A.sn A.sc) ∧ z.cell? ⟨b3, 0, none⟩ = some (.slice B.sa B.sn B.sc) ∧ z.cell? ⟨b8, 0, none⟩ = some (.slice (some ⟨wb, 0, none⟩) A.G A.G)) (fun _ => false) 18 (Array.replicate 18 false) { tmps := #[t0, t1, (.pointer (some ⟨b2, 0, none⟩)), (.pointer (some ⟨b3, 0, none⟩)), t4, t5, t6, t7, (.pointer (some ⟨b8, 0, none⟩)), (.pointer (some ⟨b9, 0, none⟩)), (.pointer (some ⟨b10, 0, none⟩)), t11, t12, t13, t14, t15, t16, t17, t18, t19, t20, t21, t22, t23, t24, t25, t26, t27, t28, t29, t30, t31, t32, t33, t34, t35, t36, t37, t38, t39, t40, t41, t42, t43, t44, t45, t46, t47, t48, t49, t50, t51, t52, t53, t54, t55, t56, t57, t58, t59, t60, t61, t62, t63, t64, t65, t66, t67, t68, t69, t70, t71, t72, t73, t74, t75, t76, t77, t78, t79, t80, t81, t82, t83, t84, t85, t86, t87, t88, t89, t90, t91, t92, t93, t94, t95, t96, t97, t98, t99, t100, t101, t102, t103, t104, t105, t106, t107, t108, t109, t110, t111, t112, t113, t114, t115, t116, t117, t118, t119, t120, t121, t122, t123, t124, t125, t126, t127, t128, t129, t130, t131, t132, t133, t134, t135, t136, t137, t138, t139, t140, t141, t142, t143, t144, t145], defers := [] } w0 := by
  have HS : Hid (∀ z, Below w0.heap.size w0 z → (fun z : World => z.cell? ⟨b2, 0, none⟩ = some (.slice A.sa A.sn A.sc) ∧ z.cell? ⟨b3, 0, none⟩ = some (.slice B.sa B.sn B.sc) ∧ z.cell? ⟨b8, 0, none⟩ = some (.slice (some ⟨wb, 0, none⟩) A.G A.G)) z) := hid (fun z hz => ⟨(hboA.below hz).r0, (hboB.below hz).r0, (hg.below hz).bw⟩)
  have C41 : ∀ (D : Ax), Aw w0 D → chkA D = 0 → Hid (∀ z, Below w0.heap.size w0 z → Calls Tryd.prog 41 #[.slice D.sa D.sn D.sc] z fun e w' => ∃ a c, e = .returned (.slice a (aSt D).length c) ∧ Hid (w'.ownsRow (z.heap.size + 1) 3 1 (.slice a (aSt D).length c) (cs (aSt D)).length (vals (cs (aSt D))) ∧ Below z.heap.size z w')) := fun D hD hD0 => hid (fun z hz => by
    obtain ⟨hG, _, _, _, hS, _⟩ := chkA_ok hD0
    refine (once_any D.sa D.sn D.sc D.S z hD.s47 ((hD.below hz).start) (fun i hi => by have := hS i hi; omega)).mono ?_
    rintro e w' ⟨v, rfl, h1, h2, _⟩
    obtain ⟨a, c, rfl, _⟩ := owns_row h1
    exact ⟨a, c, by rw [cs_len]; rfl, hid ⟨by rw [show (aSt D).length = (cs (aSt D)).length from (cs_len _).symm]; exact h1, h2⟩⟩)
  have CA := C41 A hA hg.okA
  have CB := C41 B hB hg.okB
  have HG := hid hg
  have HFIN := hid hfin
  have HQP := hid hQp
  have hmf : ∀ (fn : Fn) (first cap : Array Value) (w : World), (Instr.makeFunc fn first cap).run Tryd.prog w = .ok (.func fn first cap) w := fun _ _ _ _ => rfl
  clear hfin hA hB hg hboA hboB C41 hQp
  have J3x : Hid (∀ (f1 : Option Addr) (f3 : Nat) (s1 : Option Addr) (s3 Bf Bs Bq b11 : Nat) (z3 z : World), QA w0 A B 3 f1 f3 s1 s3 Bf Bs Bq b8 wb z3 b11 true z → wpAnyG Tryd.prog .any (ops10 q0 q1 q2 q3 q4 q5 q6 q7 q8 q9 q10 q11 q12 q13 q14 q15 q16 q17) Q (fun z : World => z.cell? ⟨b2, 0, none⟩ = some (.slice A.sa A.sn A.sc) ∧ z.cell? ⟨b3, 0, none⟩ = some (.slice B.sa B.sn B.sc) ∧ z.cell? ⟨b8, 0, none⟩ = some (.slice (some ⟨wb, 0, none⟩) A.G A.G)) (fun _ => false) 8 #[true, true, true, true, true, true, true, true, true, false, false, false, false, false, true, false, false, false] { tmps := #[t0, t1, (.pointer (some ⟨b2, 0, none⟩)), (.pointer (some ⟨b3, 0, none⟩)), t4, t5, t6, t7, (.pointer (some ⟨b8, 0, none⟩)), (.pointer (some ⟨b9, 0, none⟩)), (.pointer (some ⟨b10, 0, none⟩)), (.pointer (some ⟨b11, 0, none⟩)), t12, t13, t14, t15, t16, t17, t18, t19, t20, t21, t22, t23, t24, t25, t26, t27, t28, t29, t30, t31, t32, t33, t34, t35, t36, t37, t38, t39, t40, t41, t42, t43, t44, t45, t46, t47, t48, t49, t50, (.pointer (some ⟨b2, 0, none⟩)), (.slice A.sa A.sn A.sc), (.slice f1 (aSt A).length f3), (.pointer (some ⟨b3, 0, none⟩)), (.slice B.sa B.sn B.sc), (.slice s1 (aSt B).length s3), (.slice (some ⟨wb, 0, none⟩) A.G A.G), (.func (.func 77) #[] #[.pointer (some ⟨Bs, 0, none⟩), .pointer (some ⟨Bf, 0, none⟩), .pointer (some ⟨Bq, 0, none⟩)]), (.func (.func 42) #[] #[.pointer (some ⟨b9, 0, none⟩), .pointer (some ⟨b10, 0, none⟩), .pointer (some ⟨b8, 0, none⟩)]), t60, t61, t62, t63, t64, t65, t66, t67, t68, t69, t70, t71, t72, t73, t74, t75, t76, t77, t78, t79, t80, t81, t82, t83, t84, t85, t86, t87, t88, t89, t90, t91, t92, t93, t94, t95, t96, t97, t98, t99, t100, t101, t102, t103, t104, t105, t106, t107, t108, t109, t110, t111, t112, t113, t114, t115, t116, t117, t118, t119, t120, t121, t122, t123, t124, t125, t126, t127, t128, t129, t130, t131, t132, t133, t134, t135, t136, t137, t138, t139, t140, t141, t142, t143, t144, t145], defers := [] } z) := hid (by
    intro f1 f3 s1 s3 Bf Bs Bq b11 z3 z hq
    refine G_alt (l := [9]) (by kernel_rfl) (by decide) ?_
    intro i hi
    obtain rfl : i = 9 := by simpa using hi
    clear hi
    · refine ⟨{ dst := some 60, op := Op.call { callee := Callee.value (Operand.func 39), args := #[Operand.tmp 58, Operand.tmp 59], argTypes := #[75, 80] }, type := 72, pos := _, after := #[{ on := 7, ground := Ground.data }, { on := 8, ground := Ground.data }, { on := 7, ground := Ground.chain }], guard := none }, rfl, fun K' hK => ?_⟩
      have CG := hid (gather42_any _ #[.pointer (some ⟨b9, 0, none⟩), .pointer (some ⟨b10, 0, none⟩), .pointer (some ⟨b8, 0, none⟩)] (crP (okB A B) (aSt A) (aSt B)) (bX A B) (bP A B) z z3 (hq.p3 (Nat.le_refl _)).2.1 (by have hm : (crP (okB A B) (aSt A) (aSt B)).map prn = bS A B := prn_mks (fun p hp => bP_sml HG.out.okA HG.out.okB (bP_start HG.out.okA HG.out.okB p hp)); rw [hm]; exact hq.itd HG.out) _ _ _ rfl (fun q hq2 => by obtain ⟨p, hp, rfl⟩ := List.mem_map.1 hq2; rw [prn_mk (bP_sml HG.out.okA HG.out.okB (bP_start HG.out.okA HG.out.okB p hp))]; exact bP_start HG.out.okA HG.out.okB p hp) (bP_next HG.out.okA HG.out.okB) (fun p u hu hp => b42 A B b9 b10 b8 wb nb mb V U p z u (HG.out.below hq.low) hu hp))
      have HQ := hid hq
      clear hq
      go_simp
      refine CG.out.mono ?_
      intro e z4 hGa
      obtain ⟨e1, e2, e3, n1, n2, n3, p1, p2, p3, k, er, rfl, H4⟩ := gaf_of HG.out.okA HG.out.okB hGa w0 HQ.out.low.size
      clear hGa CG
      dsimp only
      have hl4 : Below w0.heap.size w0 z4 := HQ.out.low.trans (H4.out.1.mono HQ.out.low.size)
      have hS0 := HS.out z4 hl4
      have HL4 := hid hl4
      have HA := hid (And.intro (q9_old H4.out.1 (HQ.out.a11 rfl).1).1 (HQ.out.a11 rfl).2)
      clear hl4
      refine hK.out _ _ (fun _ => hS0) (fun _ => ?_)
      (try simp only [List.setIfInBounds_toArray, List.set_cons_zero, List.set_cons_succ])
      refine G_take (i := 10) (oi := { dst := some 50, op := Op.move (Operand.tmp 60), type := 72, pos := _, after := #[{ on := 9, ground := Ground.data }], guard := none }) (v := .tuple #[.agg #[.slice e1 e2 e3, .slice n1 n2 n3, .slice none 0 0, .slice none 0 0, .slice none 0 0], .slice p1 p2 p3, .int .i64 er]) rfl (by kernel_rfl) (by kernel_rfl) (by kernel_rfl) (by kernel_rfl) (fun c a w h => HQP.out _ _ _ _ _ h) (by rfl) (fun u hu => ?_) hS0 ?_
      · (try dsimp only at hu); go_simp
      (try simp only [Act.put, List.setIfInBounds_toArray, List.set_cons_zero, List.set_cons_succ])
      refine G_take (i := 11) (oi := { dst := some 61, op := Op.extract (Operand.tmp 50) 0, type := 26, pos := _, after := #[{ on := 10, ground := Ground.data }], guard := none }) (v := .agg #[.slice e1 e2 e3, .slice n1 n2 n3, .slice none 0 0, .slice none 0 0, .slice none 0 0]) rfl (by kernel_rfl) (by kernel_rfl) (by kernel_rfl) (by kernel_rfl) (fun c a w h => HQP.out _ _ _ _ _ h) (by rfl) (fun u hu => ?_) hS0 ?_
      · (try dsimp only at hu); go_simp
      (try simp only [Act.put, List.setIfInBounds_toArray, List.set_cons_zero, List.set_cons_succ])
      refine G_take (i := 12) (oi := { dst := some 62, op := Op.extract (Operand.tmp 50) 1, type := 71, pos := _, after := #[{ on := 10, ground := Ground.data }, { on := 15, ground := Ground.gcOnly Departure.lateStores }], guard := none }) (v := .slice p1 p2 p3) rfl (by kernel_rfl) (by kernel_rfl) (by kernel_rfl) (by kernel_rfl) (fun c a w h => HQP.out _ _ _ _ _ h) (by rfl) (fun u hu => ?_) hS0 ?_
      · (try dsimp only at hu); go_simp
      (try simp only [Act.put, List.setIfInBounds_toArray, List.set_cons_zero, List.set_cons_succ])
      refine G_take (i := 13) (oi := { dst := some 63, op := Op.extract (Operand.tmp 50) 2, type := 29, pos := _, after := #[{ on := 10, ground := Ground.data }, { on := 16, ground := Ground.gcOnly Departure.lateStores }], guard := none }) (v := .int .i64 er) rfl (by kernel_rfl) (by kernel_rfl) (by kernel_rfl) (by kernel_rfl) (fun c a w h => HQP.out _ _ _ _ _ h) (by rfl) (fun u hu => ?_) hS0 ?_
      · (try dsimp only at hu); go_simp
      (try simp only [Act.put, List.setIfInBounds_toArray, List.set_cons_zero, List.set_cons_succ])
      have HL5 := HL4
      have HF5 := hid H4.out.2
      obtain ⟨⟨y0, y1, y2, y3, y4⟩, yf⟩ := five_cells HA.out.1
      have g0 := yf 0
      have g1 := yf 1
      have g2 := yf 2
      have g3 := yf 3
      have g4 := yf 4
      obtain ⟨X, hX⟩ : ∃ X, (((((z4.setCell ⟨b11, 0, none⟩ (.slice e1 e2 e3)).setCell ⟨b11, 1, none⟩ (.slice n1 n2 n3)).setCell ⟨b11, 2, none⟩ (.slice none 0 0)).setCell ⟨b11, 3, none⟩ (.slice none 0 0)).setCell ⟨b11, 4, none⟩ (.slice none 0 0)) = X := ⟨_, rfl⟩
      obtain ⟨hx5, hxb⟩ := set5 _ _ _ _ _ HA.out.1 hX
      have HX := hid (And.intro hx5 (And.intro (HL5.out.trans (hxb.below HA.out.2 HL5.out.size)) (HF5.out.keep (fun b c t q h1 h2 => hxb.block b (Array.getElem?_eq_some_iff.1 h1).1 (fun e => h2 (by rw [e, HA.out.1] at h1; cases h1; rfl))))))
      clear yf hx5 hxb hS0
      refine G_step (i := 15) (o := { dst := none, op := Op.store 26 (Operand.tmp 11) (Operand.tmp 61), type := 0, pos := _, after := #[{ on := 14, ground := Ground.data }, { on := 11, ground := Ground.data }, { on := 9, ground := Ground.chain }, { on := 0, ground := Ground.phase }, { on := 1, ground := Ground.phase }, { on := 2, ground := Ground.phase }, { on := 3, ground := Ground.phase }, { on := 4, ground := Ground.phase }, { on := 5, ground := Ground.phase }, { on := 6, ground := Ground.phase }, { on := 7, ground := Ground.phase }, { on := 8, ground := Ground.phase }, { on := 9, ground := Ground.phase }, { on := 10, ground := Ground.phase }, { on := 11, ground := Ground.phase }, { on := 12, ground := Ground.textOnly Departure.lateStores }, { on := 13, ground := Ground.textOnly Departure.lateStores }, { on := 14, ground := Ground.phase }], guard := none }) (by kernel_rfl) rfl (fun K' hK => ?_)
      go_simp
      refine hK.out _ _ (fun _ => HS.out _ HX.out.2.1) (fun _ => ?_)
      (try simp only [List.setIfInBounds_toArray, List.set_cons_zero, List.set_cons_succ])
      clear y0 y1 y2 y3 y4 g0 g1 g2 g3 g4 hX
      have hS0 := HS.out _ HX.out.2.1
      refine G_take (i := 16) (oi := { dst := some 12, op := Op.assign (Operand.tmp 62), type := 71, pos := _, after := #[{ on := 12, ground := Ground.data }, { on := 15, ground := Ground.chain }, { on := 0, ground := Ground.phase }, { on := 1, ground := Ground.phase }, { on := 2, ground := Ground.phase }, { on := 3, ground := Ground.phase }, { on := 4, ground := Ground.phase }, { on := 5, ground := Ground.phase }, { on := 6, ground := Ground.phase }, { on := 7, ground := Ground.phase }, { on := 8, ground := Ground.phase }, { on := 9, ground := Ground.phase }, { on := 10, ground := Ground.phase }, { on := 11, ground := Ground.phase }, { on := 12, ground := Ground.phase }, { on := 13, ground := Ground.textOnly Departure.lateStores }, { on := 14, ground := Ground.phase }, { on := 15, ground := Ground.phase }], guard := none }) (v := .slice p1 p2 p3) rfl (by kernel_rfl) (by kernel_rfl) (by kernel_rfl) (by kernel_rfl) (fun c a w h => HQP.out _ _ _ _ _ h) (by rfl) (fun u hu => ?_) hS0 ?_
      · (try dsimp only at hu); go_simp
      (try simp only [Act.put, List.setIfInBounds_toArray, List.set_cons_zero, List.set_cons_succ])
      refine G_take (i := 17) (oi := { dst := some 13, op := Op.assign (Operand.tmp 63), type := 29, pos := _, after := #[{ on := 13, ground := Ground.data }, { on := 16, ground := Ground.chain }, { on := 0, ground := Ground.phase }, { on := 1, ground := Ground.phase }, { on := 2, ground := Ground.phase }, { on := 3, ground := Ground.phase }, { on := 4, ground := Ground.phase }, { on := 5, ground := Ground.phase }, { on := 6, ground := Ground.phase }, { on := 7, ground := Ground.phase }, { on := 8, ground := Ground.phase }, { on := 9, ground := Ground.phase }, { on := 10, ground := Ground.phase }, { on := 11, ground := Ground.phase }, { on := 12, ground := Ground.phase }, { on := 13, ground := Ground.phase }, { on := 14, ground := Ground.phase }, { on := 15, ground := Ground.phase }, { on := 16, ground := Ground.phase }], guard := none }) (v := .int .i64 er) rfl (by kernel_rfl) (by kernel_rfl) (by kernel_rfl) (by kernel_rfl) (fun c a w h => HQP.out _ _ _ _ _ h) (by rfl) (fun u hu => ?_) hS0 ?_
      · (try dsimp only at hu); go_simp
      (try simp only [Act.put, List.setIfInBounds_toArray, List.set_cons_zero, List.set_cons_succ])
      refine G_done (by kernel_rfl) ?_ _
      exact HFIN.out b11 f1 f3 s1 s3 Bf Bs Bq e1 e2 e3 n1 n2 n3 p1 p2 p3 k er X HX.out.2.1 HA.out.2 HX.out.1 HX.out.2.2)
  have J3o : Hid (∀ (f1 : Option Addr) (f3 : Nat) (s1 : Option Addr) (s3 Bf Bs Bq b11 : Nat) (z3 z : World), QA w0 A B 3 f1 f3 s1 s3 Bf Bs Bq b8 wb z3 b11 false z → wpAnyG Tryd.prog .any (ops10 q0 q1 q2 q3 q4 q5 q6 q7 q8 q9 q10 q11 q12 q13 q14 q15 q16 q17) Q (fun z : World => z.cell? ⟨b2, 0, none⟩ = some (.slice A.sa A.sn A.sc) ∧ z.cell? ⟨b3, 0, none⟩ = some (.slice B.sa B.sn B.sc) ∧ z.cell? ⟨b8, 0, none⟩ = some (.slice (some ⟨wb, 0, none⟩) A.G A.G)) (fun _ => false) 9 #[true, true, true, true, true, true, true, true, true, false, false, false, false, false, false, false, false, false] { tmps := #[t0, t1, (.pointer (some ⟨b2, 0, none⟩)), (.pointer (some ⟨b3, 0, none⟩)), t4, t5, t6, t7, (.pointer (some ⟨b8, 0, none⟩)), (.pointer (some ⟨b9, 0, none⟩)), (.pointer (some ⟨b10, 0, none⟩)), t11, t12, t13, t14, t15, t16, t17, t18, t19, t20, t21, t22, t23, t24, t25, t26, t27, t28, t29, t30, t31, t32, t33, t34, t35, t36, t37, t38, t39, t40, t41, t42, t43, t44, t45, t46, t47, t48, t49, t50, (.pointer (some ⟨b2, 0, none⟩)), (.slice A.sa A.sn A.sc), (.slice f1 (aSt A).length f3), (.pointer (some ⟨b3, 0, none⟩)), (.slice B.sa B.sn B.sc), (.slice s1 (aSt B).length s3), (.slice (some ⟨wb, 0, none⟩) A.G A.G), (.func (.func 77) #[] #[.pointer (some ⟨Bs, 0, none⟩), .pointer (some ⟨Bf, 0, none⟩), .pointer (some ⟨Bq, 0, none⟩)]), (.func (.func 42) #[] #[.pointer (some ⟨b9, 0, none⟩), .pointer (some ⟨b10, 0, none⟩), .pointer (some ⟨b8, 0, none⟩)]), t60, t61, t62, t63, t64, t65, t66, t67, t68, t69, t70, t71, t72, t73, t74, t75, t76, t77, t78, t79, t80, t81, t82, t83, t84, t85, t86, t87, t88, t89, t90, t91, t92, t93, t94, t95, t96, t97, t98, t99, t100, t101, t102, t103, t104, t105, t106, t107, t108, t109, t110, t111, t112, t113, t114, t115, t116, t117, t118, t119, t120, t121, t122, t123, t124, t125, t126, t127, t128, t129, t130, t131, t132, t133, t134, t135, t136, t137, t138, t139, t140, t141, t142, t143, t144, t145], defers := [] } z) := hid (by
    intro f1 f3 s1 s3 Bf Bs Bq b11 z3 z hq
    refine G_alt (l := [9, 14]) (by kernel_rfl) (by decide) ?_
    intro i hi
    have hi2 : i = 9 ∨ i = 14 := by simpa using hi
    clear hi
    rcases hi2 with rfl | rfl
    · refine ⟨{ dst := some 60, op := Op.call { callee := Callee.value (Operand.func 39), args := #[Operand.tmp 58, Operand.tmp 59], argTypes := #[75, 80] }, type := 72, pos := _, after := #[{ on := 7, ground := Ground.data }, { on := 8, ground := Ground.data }, { on := 7, ground := Ground.chain }], guard := none }, rfl, fun K' hK => ?_⟩
      have CG := hid (gather42_any _ #[.pointer (some ⟨b9, 0, none⟩), .pointer (some ⟨b10, 0, none⟩), .pointer (some ⟨b8, 0, none⟩)] (crP (okB A B) (aSt A) (aSt B)) (bX A B) (bP A B) z z3 (hq.p3 (Nat.le_refl _)).2.1 (by have hm : (crP (okB A B) (aSt A) (aSt B)).map prn = bS A B := prn_mks (fun p hp => bP_sml HG.out.okA HG.out.okB (bP_start HG.out.okA HG.out.okB p hp)); rw [hm]; exact hq.itd HG.out) _ _ _ rfl (fun q hq2 => by obtain ⟨p, hp, rfl⟩ := List.mem_map.1 hq2; rw [prn_mk (bP_sml HG.out.okA HG.out.okB (bP_start HG.out.okA HG.out.okB p hp))]; exact bP_start HG.out.okA HG.out.okB p hp) (bP_next HG.out.okA HG.out.okB) (fun p u hu hp => b42 A B b9 b10 b8 wb nb mb V U p z u (HG.out.below hq.low) hu hp))
      have HQ := hid hq
      clear hq
      go_simp
      refine CG.out.mono ?_
      intro e z4 hGa
      obtain ⟨e1, e2, e3, n1, n2, n3, p1, p2, p3, k, er, rfl, H4⟩ := gaf_of HG.out.okA HG.out.okB hGa w0 HQ.out.low.size
      clear hGa CG
      dsimp only
      have hl4 : Below w0.heap.size w0 z4 := HQ.out.low.trans (H4.out.1.mono HQ.out.low.size)
      have hS0 := HS.out z4 hl4
      have HL4 := hid hl4
      clear hl4
      refine hK.out _ _ (fun _ => hS0) (fun _ => ?_)
      (try simp only [List.setIfInBounds_toArray, List.set_cons_zero, List.set_cons_succ])
      refine G_take (i := 10) (oi := { dst := some 50, op := Op.move (Operand.tmp 60), type := 72, pos := _, after := #[{ on := 9, ground := Ground.data }], guard := none }) (v := .tuple #[.agg #[.slice e1 e2 e3, .slice n1 n2 n3, .slice none 0 0, .slice none 0 0, .slice none 0 0], .slice p1 p2 p3, .int .i64 er]) rfl (by kernel_rfl) (by kernel_rfl) (by kernel_rfl) (by kernel_rfl) (fun c a w h => HQP.out _ _ _ _ _ h) (by rfl) (fun u hu => ?_) hS0 ?_
      · (try dsimp only at hu); go_simp
      (try simp only [Act.put, List.setIfInBounds_toArray, List.set_cons_zero, List.set_cons_succ])
      refine G_take (i := 11) (oi := { dst := some 61, op := Op.extract (Operand.tmp 50) 0, type := 26, pos := _, after := #[{ on := 10, ground := Ground.data }], guard := none }) (v := .agg #[.slice e1 e2 e3, .slice n1 n2 n3, .slice none 0 0, .slice none 0 0, .slice none 0 0]) rfl (by kernel_rfl) (by kernel_rfl) (by kernel_rfl) (by kernel_rfl) (fun c a w h => HQP.out _ _ _ _ _ h) (by rfl) (fun u hu => ?_) hS0 ?_
      · (try dsimp only at hu); go_simp
      (try simp only [Act.put, List.setIfInBounds_toArray, List.set_cons_zero, List.set_cons_succ])
      refine G_take (i := 12) (oi := { dst := some 62, op := Op.extract (Operand.tmp 50) 1, type := 71, pos := _, after := #[{ on := 10, ground := Ground.data }, { on := 15, ground := Ground.gcOnly Departure.lateStores }], guard := none }) (v := .slice p1 p2 p3) rfl (by kernel_rfl) (by kernel_rfl) (by kernel_rfl) (by kernel_rfl) (fun c a w h => HQP.out _ _ _ _ _ h) (by rfl) (fun u hu => ?_) hS0 ?_
      · (try dsimp only at hu); go_simp
      (try simp only [Act.put, List.setIfInBounds_toArray, List.set_cons_zero, List.set_cons_succ])
      refine G_take (i := 13) (oi := { dst := some 63, op := Op.extract (Operand.tmp 50) 2, type := 29, pos := _, after := #[{ on := 10, ground := Ground.data }, { on := 16, ground := Ground.gcOnly Departure.lateStores }], guard := none }) (v := .int .i64 er) rfl (by kernel_rfl) (by kernel_rfl) (by kernel_rfl) (by kernel_rfl) (fun c a w h => HQP.out _ _ _ _ _ h) (by rfl) (fun u hu => ?_) hS0 ?_
      · (try dsimp only at hu); go_simp
      (try simp only [Act.put, List.setIfInBounds_toArray, List.set_cons_zero, List.set_cons_succ])
      have ha := box_below z4 (.cells nil5 26)
      have hn : (z4.alloc (.cells nil5 26)).heap[z4.heap.size]? = some (.cells nil5 26) := Go.Deep.blk_alloc_new _ _
      have HA := hid (And.intro hn HL4.out.size)
      have HL5 := hid (HL4.out.trans (ha.mono HL4.out.size))
      have HF5 := hid (H4.out.2.keep (fun b c t q h1 _ => ha.block b (Array.getElem?_eq_some_iff.1 h1).1))
      clear ha hn
      refine G_step (i := 14) (o := { dst := some 11, op := Op.alloc 26, type := 0, pos := _, after := #[], guard := none }) (by kernel_rfl) rfl (fun K' hK => ?_)
      go_simp
      refine hK.out _ _ (fun _ => HS.out _ HL5.out) (fun _ => ?_)
      (try simp only [List.setIfInBounds_toArray, List.set_cons_zero, List.set_cons_succ])
      generalize z4.alloc (.cells nil5 26) = z5 at *
      obtain ⟨⟨y0, y1, y2, y3, y4⟩, yf⟩ := five_cells HA.out.1
      have g0 := yf 0
      have g1 := yf 1
      have g2 := yf 2
      have g3 := yf 3
      have g4 := yf 4
      obtain ⟨X, hX⟩ : ∃ X, (((((z5.setCell ⟨z4.heap.size, 0, none⟩ (.slice e1 e2 e3)).setCell ⟨z4.heap.size, 1, none⟩ (.slice n1 n2 n3)).setCell ⟨z4.heap.size, 2, none⟩ (.slice none 0 0)).setCell ⟨z4.heap.size, 3, none⟩ (.slice none 0 0)).setCell ⟨z4.heap.size, 4, none⟩ (.slice none 0 0)) = X := ⟨_, rfl⟩
      obtain ⟨hx5, hxb⟩ := set5 _ _ _ _ _ HA.out.1 hX
      have HX := hid (And.intro hx5 (And.intro (HL5.out.trans (hxb.below HA.out.2 HL5.out.size)) (HF5.out.keep (fun b c t q h1 h2 => hxb.block b (Array.getElem?_eq_some_iff.1 h1).1 (fun e => h2 (by rw [e, HA.out.1] at h1; cases h1; rfl))))))
      clear yf hx5 hxb hS0
      refine G_step (i := 15) (o := { dst := none, op := Op.store 26 (Operand.tmp 11) (Operand.tmp 61), type := 0, pos := _, after := #[{ on := 14, ground := Ground.data }, { on := 11, ground := Ground.data }, { on := 9, ground := Ground.chain }, { on := 0, ground := Ground.phase }, { on := 1, ground := Ground.phase }, { on := 2, ground := Ground.phase }, { on := 3, ground := Ground.phase }, { on := 4, ground := Ground.phase }, { on := 5, ground := Ground.phase }, { on := 6, ground := Ground.phase }, { on := 7, ground := Ground.phase }, { on := 8, ground := Ground.phase }, { on := 9, ground := Ground.phase }, { on := 10, ground := Ground.phase }, { on := 11, ground := Ground.phase }, { on := 12, ground := Ground.textOnly Departure.lateStores }, { on := 13, ground := Ground.textOnly Departure.lateStores }, { on := 14, ground := Ground.phase }], guard := none }) (by kernel_rfl) rfl (fun K' hK => ?_)
      go_simp
      refine hK.out _ _ (fun _ => HS.out _ HX.out.2.1) (fun _ => ?_)
      (try simp only [List.setIfInBounds_toArray, List.set_cons_zero, List.set_cons_succ])
      clear y0 y1 y2 y3 y4 g0 g1 g2 g3 g4 hX
      have hS0 := HS.out _ HX.out.2.1
      refine G_take (i := 16) (oi := { dst := some 12, op := Op.assign (Operand.tmp 62), type := 71, pos := _, after := #[{ on := 12, ground := Ground.data }, { on := 15, ground := Ground.chain }, { on := 0, ground := Ground.phase }, { on := 1, ground := Ground.phase }, { on := 2, ground := Ground.phase }, { on := 3, ground := Ground.phase }, { on := 4, ground := Ground.phase }, { on := 5, ground := Ground.phase }, { on := 6, ground := Ground.phase }, { on := 7, ground := Ground.phase }, { on := 8, ground := Ground.phase }, { on := 9, ground := Ground.phase }, { on := 10, ground := Ground.phase }, { on := 11, ground := Ground.phase }, { on := 12, ground := Ground.phase }, { on := 13, ground := Ground.textOnly Departure.lateStores }, { on := 14, ground := Ground.phase }, { on := 15, ground := Ground.phase }], guard := none }) (v := .slice p1 p2 p3) rfl (by kernel_rfl) (by kernel_rfl) (by kernel_rfl) (by kernel_rfl) (fun c a w h => HQP.out _ _ _ _ _ h) (by rfl) (fun u hu => ?_) hS0 ?_
      · (try dsimp only at hu); go_simp
      (try simp only [Act.put, List.setIfInBounds_toArray, List.set_cons_zero, List.set_cons_succ])
      refine G_take (i := 17) (oi := { dst := some 13, op := Op.assign (Operand.tmp 63), type := 29, pos := _, after := #[{ on := 13, ground := Ground.data }, { on := 16, ground := Ground.chain }, { on := 0, ground := Ground.phase }, { on := 1, ground := Ground.phase }, { on := 2, ground := Ground.phase }, { on := 3, ground := Ground.phase }, { on := 4, ground := Ground.phase }, { on := 5, ground := Ground.phase }, { on := 6, ground := Ground.phase }, { on := 7, ground := Ground.phase }, { on := 8, ground := Ground.phase }, { on := 9, ground := Ground.phase }, { on := 10, ground := Ground.phase }, { on := 11, ground := Ground.phase }, { on := 12, ground := Ground.phase }, { on := 13, ground := Ground.phase }, { on := 14, ground := Ground.phase }, { on := 15, ground := Ground.phase }, { on := 16, ground := Ground.phase }], guard := none }) (v := .int .i64 er) rfl (by kernel_rfl) (by kernel_rfl) (by kernel_rfl) (by kernel_rfl) (fun c a w h => HQP.out _ _ _ _ _ h) (by rfl) (fun u hu => ?_) hS0 ?_
      · (try dsimp only at hu); go_simp
      (try simp only [Act.put, List.setIfInBounds_toArray, List.set_cons_zero, List.set_cons_succ])
      refine G_done (by kernel_rfl) ?_ _
      exact HFIN.out z4.heap.size f1 f3 s1 s3 Bf Bs Bq e1 e2 e3 n1 n2 n3 p1 p2 p3 k er X HX.out.2.1 HA.out.2 HX.out.1 HX.out.2.2
    · refine ⟨{ dst := some 11, op := Op.alloc 26, type := 0, pos := _, after := #[], guard := none }, rfl, fun K' hK => ?_⟩
      have HQ := hid hq.al
      clear hq
      go_simp
      refine hK.out _ _ (fun _ => HS.out _ HQ.out.low) (fun _ => ?_)
      (try simp only [List.setIfInBounds_toArray, List.set_cons_zero, List.set_cons_succ])
      exact J3x.out f1 f3 s1 s3 Bf Bs Bq z.heap.size z3 _ HQ.out)
  have J2x : Hid (∀ (f1 : Option Addr) (f3 : Nat) (s1 : Option Addr) (s3 Bf Bs Bq b11 : Nat) (z3 z : World), QA w0 A B 2 f1 f3 s1 s3 Bf Bs Bq b8 wb z3 b11 true z → wpAnyG Tryd.prog .any (ops10 q0 q1 q2 q3 q4 q5 q6 q7 q8 q9 q10 q11 q12 q13 q14 q15 q16 q17) Q (fun z : World => z.cell? ⟨b2, 0, none⟩ = some (.slice A.sa A.sn A.sc) ∧ z.cell? ⟨b3, 0, none⟩ = some (.slice B.sa B.sn B.sc) ∧ z.cell? ⟨b8, 0, none⟩ = some (.slice (some ⟨wb, 0, none⟩) A.G A.G)) (fun _ => false) 9 #[true, true, true, true, true, true, true, false, true, false, false, false, false, false, true, false, false, false] { tmps := #[t0, t1, (.pointer (some ⟨b2, 0, none⟩)), (.pointer (some ⟨b3, 0, none⟩)), t4, t5, t6, t7, (.pointer (some ⟨b8, 0, none⟩)), (.pointer (some ⟨b9, 0, none⟩)), (.pointer (some ⟨b10, 0, none⟩)), (.pointer (some ⟨b11, 0, none⟩)), t12, t13, t14, t15, t16, t17, t18, t19, t20, t21, t22, t23, t24, t25, t26, t27, t28, t29, t30, t31, t32, t33, t34, t35, t36, t37, t38, t39, t40, t41, t42, t43, t44, t45, t46, t47, t48, t49, t50, (.pointer (some ⟨b2, 0, none⟩)), (.slice A.sa A.sn A.sc), (.slice f1 (aSt A).length f3), (.pointer (some ⟨b3, 0, none⟩)), (.slice B.sa B.sn B.sc), (.slice s1 (aSt B).length s3), (.slice (some ⟨wb, 0, none⟩) A.G A.G), t58, (.func (.func 42) #[] #[.pointer (some ⟨b9, 0, none⟩), .pointer (some ⟨b10, 0, none⟩), .pointer (some ⟨b8, 0, none⟩)]), t60, t61, t62, t63, t64, t65, t66, t67, t68, t69, t70, t71, t72, t73, t74, t75, t76, t77, t78, t79, t80, t81, t82, t83, t84, t85, t86, t87, t88, t89, t90, t91, t92, t93, t94, t95, t96, t97, t98, t99, t100, t101, t102, t103, t104, t105, t106, t107, t108, t109, t110, t111, t112, t113, t114, t115, t116, t117, t118, t119, t120, t121, t122, t123, t124, t125, t126, t127, t128, t129, t130, t131, t132, t133, t134, t135, t136, t137, t138, t139, t140, t141, t142, t143, t144, t145], defers := [] } z) := hid (by
    intro f1 f3 s1 s3 Bf Bs Bq b11 z3 z hq
    refine G_alt (l := [7]) (by kernel_rfl) (by decide) ?_
    intro i hi
    obtain rfl : i = 7 := by simpa using hi
    clear hi
    · refine ⟨{ dst := some 58, op := Op.call { callee := Callee.value (Operand.func 40), args := #[Operand.tmp 53, Operand.tmp 56, Operand.tmp 57], argTypes := #[22, 22, 47] }, type := 75, pos := _, after := #[{ on := 2, ground := Ground.data }, { on := 5, ground := Ground.data }, { on := 6, ground := Ground.data }, { on := 5, ground := Ground.chain }], guard := none }, rfl, fun K' hK => ?_⟩
      have hz := hq.low
      have HQ := hid hq
      clear hq
      go_simp
      refine (cross40 f1 (aSt A).length f3 s1 (aSt B).length s3 (some ⟨wb, 0, none⟩) A.G A.G z).mono ?_
      rintro e z1 ⟨Cf, Cs, Cq, rfl, H1⟩
      dsimp only
      have hq1 := HQ.out.k3 H1.out.2.1 H1.out.2.2.1 H1.out.2.2.2.1 H1.out.2.2.2.2
      refine hK.out _ _ (fun _ => HS.out _ hq1.low) (fun _ => ?_)
      (try simp only [List.setIfInBounds_toArray, List.set_cons_zero, List.set_cons_succ])
      exact J3x.out f1 f3 s1 s3 Cf Cs Cq b11 z1 z1 hq1)
  have J2o : Hid (∀ (f1 : Option Addr) (f3 : Nat) (s1 : Option Addr) (s3 Bf Bs Bq b11 : Nat) (z3 z : World), QA w0 A B 2 f1 f3 s1 s3 Bf Bs Bq b8 wb z3 b11 false z → wpAnyG Tryd.prog .any (ops10 q0 q1 q2 q3 q4 q5 q6 q7 q8 q9 q10 q11 q12 q13 q14 q15 q16 q17) Q (fun z : World => z.cell? ⟨b2, 0, none⟩ = some (.slice A.sa A.sn A.sc) ∧ z.cell? ⟨b3, 0, none⟩ = some (.slice B.sa B.sn B.sc) ∧ z.cell? ⟨b8, 0, none⟩ = some (.slice (some ⟨wb, 0, none⟩) A.G A.G)) (fun _ => false) 10 #[true, true, true, true, true, true, true, false, true, false, false, false, false, false, false, false, false, false] { tmps := #[t0, t1, (.pointer (some ⟨b2, 0, none⟩)), (.pointer (some ⟨b3, 0, none⟩)), t4, t5, t6, t7, (.pointer (some ⟨b8, 0, none⟩)), (.pointer (some ⟨b9, 0, none⟩)), (.pointer (some ⟨b10, 0, none⟩)), t11, t12, t13, t14, t15, t16, t17, t18, t19, t20, t21, t22, t23, t24, t25, t26, t27, t28, t29, t30, t31, t32, t33, t34, t35, t36, t37, t38, t39, t40, t41, t42, t43, t44, t45, t46, t47, t48, t49, t50, (.pointer (some ⟨b2, 0, none⟩)), (.slice A.sa A.sn A.sc), (.slice f1 (aSt A).length f3), (.pointer (some ⟨b3, 0, none⟩)), (.slice B.sa B.sn B.sc), (.slice s1 (aSt B).length s3), (.slice (some ⟨wb, 0, none⟩) A.G A.G), t58, (.func (.func 42) #[] #[.pointer (some ⟨b9, 0, none⟩), .pointer (some ⟨b10, 0, none⟩), .pointer (some ⟨b8, 0, none⟩)]), t60, t61, t62, t63, t64, t65, t66, t67, t68, t69, t70, t71, t72, t73, t74, t75, t76, t77, t78, t79, t80, t81, t82, t83, t84, t85, t86, t87, t88, t89, t90, t91, t92, t93, t94, t95, t96, t97, t98, t99, t100, t101, t102, t103, t104, t105, t106, t107, t108, t109, t110, t111, t112, t113, t114, t115, t116, t117, t118, t119, t120, t121, t122, t123, t124, t125, t126, t127, t128, t129, t130, t131, t132, t133, t134, t135, t136, t137, t138, t139, t140, t141, t142, t143, t144, t145], defers := [] } z) := hid (by
    intro f1 f3 s1 s3 Bf Bs Bq b11 z3 z hq
    refine G_alt (l := [7, 14]) (by kernel_rfl) (by decide) ?_
    intro i hi
    have hi2 : i = 7 ∨ i = 14 := by simpa using hi
    clear hi
    rcases hi2 with rfl | rfl
    · refine ⟨{ dst := some 58, op := Op.call { callee := Callee.value (Operand.func 40), args := #[Operand.tmp 53, Operand.tmp 56, Operand.tmp 57], argTypes := #[22, 22, 47] }, type := 75, pos := _, after := #[{ on := 2, ground := Ground.data }, { on := 5, ground := Ground.data }, { on := 6, ground := Ground.data }, { on := 5, ground := Ground.chain }], guard := none }, rfl, fun K' hK => ?_⟩
      have hz := hq.low
      have HQ := hid hq
      clear hq
      go_simp
      refine (cross40 f1 (aSt A).length f3 s1 (aSt B).length s3 (some ⟨wb, 0, none⟩) A.G A.G z).mono ?_
      rintro e z1 ⟨Cf, Cs, Cq, rfl, H1⟩
      dsimp only
      have hq1 := HQ.out.k3 H1.out.2.1 H1.out.2.2.1 H1.out.2.2.2.1 H1.out.2.2.2.2
      refine hK.out _ _ (fun _ => HS.out _ hq1.low) (fun _ => ?_)
      (try simp only [List.setIfInBounds_toArray, List.set_cons_zero, List.set_cons_succ])
      exact J3o.out f1 f3 s1 s3 Cf Cs Cq b11 z1 z1 hq1
    · refine ⟨{ dst := some 11, op := Op.alloc 26, type := 0, pos := _, after := #[], guard := none }, rfl, fun K' hK => ?_⟩
      have HQ := hid hq.al
      clear hq
      go_simp
      refine hK.out _ _ (fun _ => HS.out _ HQ.out.low) (fun _ => ?_)
      (try simp only [List.setIfInBounds_toArray, List.set_cons_zero, List.set_cons_succ])
      exact J2x.out f1 f3 s1 s3 Bf Bs Bq z.heap.size z3 _ HQ.out)
  have J1x : Hid (∀ (f1 : Option Addr) (f3 : Nat) (s1 : Option Addr) (s3 Bf Bs Bq b11 : Nat) (z3 z : World), QA w0 A B 1 f1 f3 s1 s3 Bf Bs Bq b8 wb z3 b11 true z → wpAnyG Tryd.prog .any (ops10 q0 q1 q2 q3 q4 q5 q6 q7 q8 q9 q10 q11 q12 q13 q14 q15 q16 q17) Q (fun z : World => z.cell? ⟨b2, 0, none⟩ = some (.slice A.sa A.sn A.sc) ∧ z.cell? ⟨b3, 0, none⟩ = some (.slice B.sa B.sn B.sc) ∧ z.cell? ⟨b8, 0, none⟩ = some (.slice (some ⟨wb, 0, none⟩) A.G A.G)) (fun _ => false) 10 #[true, true, true, true, true, false, true, false, true, false, false, false, false, false, true, false, false, false] { tmps := #[t0, t1, (.pointer (some ⟨b2, 0, none⟩)), (.pointer (some ⟨b3, 0, none⟩)), t4, t5, t6, t7, (.pointer (some ⟨b8, 0, none⟩)), (.pointer (some ⟨b9, 0, none⟩)), (.pointer (some ⟨b10, 0, none⟩)), (.pointer (some ⟨b11, 0, none⟩)), t12, t13, t14, t15, t16, t17, t18, t19, t20, t21, t22, t23, t24, t25, t26, t27, t28, t29, t30, t31, t32, t33, t34, t35, t36, t37, t38, t39, t40, t41, t42, t43, t44, t45, t46, t47, t48, t49, t50, (.pointer (some ⟨b2, 0, none⟩)), (.slice A.sa A.sn A.sc), (.slice f1 (aSt A).length f3), (.pointer (some ⟨b3, 0, none⟩)), (.slice B.sa B.sn B.sc), t56, (.slice (some ⟨wb, 0, none⟩) A.G A.G), t58, (.func (.func 42) #[] #[.pointer (some ⟨b9, 0, none⟩), .pointer (some ⟨b10, 0, none⟩), .pointer (some ⟨b8, 0, none⟩)]), t60, t61, t62, t63, t64, t65, t66, t67, t68, t69, t70, t71, t72, t73, t74, t75, t76, t77, t78, t79, t80, t81, t82, t83, t84, t85, t86, t87, t88, t89, t90, t91, t92, t93, t94, t95, t96, t97, t98, t99, t100, t101, t102, t103, t104, t105, t106, t107, t108, t109, t110, t111, t112, t113, t114, t115, t116, t117, t118, t119, t120, t121, t122, t123, t124, t125, t126, t127, t128, t129, t130, t131, t132, t133, t134, t135, t136, t137, t138, t139, t140, t141, t142, t143, t144, t145], defers := [] } z) := hid (by
    intro f1 f3 s1 s3 Bf Bs Bq b11 z3 z hq
    refine G_alt (l := [5]) (by kernel_rfl) (by decide) ?_
    intro i hi
    obtain rfl : i = 5 := by simpa using hi
    clear hi
    · refine ⟨{ dst := some 56, op := Op.call { callee := Callee.value (Operand.func 41), args := #[Operand.tmp 55], argTypes := #[22] }, type := 22, pos := _, after := #[{ on := 4, ground := Ground.data }, { on := 2, ground := Ground.chain }], guard := none }, rfl, fun K' hK => ?_⟩
      have hz := hq.low
      have HQ := hid hq
      clear hq
      go_simp
      refine (CB.out z hz).mono ?_
      rintro e z1 ⟨a1, c1, rfl, H1⟩
      dsimp only
      have hq1 := HQ.out.k2 H1.out.2 H1.out.1
      refine hK.out _ _ (fun _ => HS.out _ hq1.low) (fun _ => ?_)
      (try simp only [List.setIfInBounds_toArray, List.set_cons_zero, List.set_cons_succ])
      exact J2x.out f1 f3 a1 c1 Bf Bs Bq b11 z3 z1 hq1)
  have J1o : Hid (∀ (f1 : Option Addr) (f3 : Nat) (s1 : Option Addr) (s3 Bf Bs Bq b11 : Nat) (z3 z : World), QA w0 A B 1 f1 f3 s1 s3 Bf Bs Bq b8 wb z3 b11 false z → wpAnyG Tryd.prog .any (ops10 q0 q1 q2 q3 q4 q5 q6 q7 q8 q9 q10 q11 q12 q13 q14 q15 q16 q17) Q (fun z : World => z.cell? ⟨b2, 0, none⟩ = some (.slice A.sa A.sn A.sc) ∧ z.cell? ⟨b3, 0, none⟩ = some (.slice B.sa B.sn B.sc) ∧ z.cell? ⟨b8, 0, none⟩ = some (.slice (some ⟨wb, 0, none⟩) A.G A.G)) (fun _ => false) 11 #[true, true, true, true, true, false, true, false, true, false, false, false, false, false, false, false, false, false] { tmps := #[t0, t1, (.pointer (some ⟨b2, 0, none⟩)), (.pointer (some ⟨b3, 0, none⟩)), t4, t5, t6, t7, (.pointer (some ⟨b8, 0, none⟩)), (.pointer (some ⟨b9, 0, none⟩)), (.pointer (some ⟨b10, 0, none⟩)), t11, t12, t13, t14, t15, t16, t17, t18, t19, t20, t21, t22, t23, t24, t25, t26, t27, t28, t29, t30, t31, t32, t33, t34, t35, t36, t37, t38, t39, t40, t41, t42, t43, t44, t45, t46, t47, t48, t49, t50, (.pointer (some ⟨b2, 0, none⟩)), (.slice A.sa A.sn A.sc), (.slice f1 (aSt A).length f3), (.pointer (some ⟨b3, 0, none⟩)), (.slice B.sa B.sn B.sc), t56, (.slice (some ⟨wb, 0, none⟩) A.G A.G), t58, (.func (.func 42) #[] #[.pointer (some ⟨b9, 0, none⟩), .pointer (some ⟨b10, 0, none⟩), .pointer (some ⟨b8, 0, none⟩)]), t60, t61, t62, t63, t64, t65, t66, t67, t68, t69, t70, t71, t72, t73, t74, t75, t76, t77, t78, t79, t80, t81, t82, t83, t84, t85, t86, t87, t88, t89, t90, t91, t92, t93, t94, t95, t96, t97, t98, t99, t100, t101, t102, t103, t104, t105, t106, t107, t108, t109, t110, t111, t112, t113, t114, t115, t116, t117, t118, t119, t120, t121, t122, t123, t124, t125, t126, t127, t128, t129, t130, t131, t132, t133, t134, t135, t136, t137, t138, t139, t140, t141, t142, t143, t144, t145], defers := [] } z) := hid (by
    intro f1 f3 s1 s3 Bf Bs Bq b11 z3 z hq
    refine G_alt (l := [5, 14]) (by kernel_rfl) (by decide) ?_
    intro i hi
    have hi2 : i = 5 ∨ i = 14 := by simpa using hi
    clear hi
    rcases hi2 with rfl | rfl
    · refine ⟨{ dst := some 56, op := Op.call { callee := Callee.value (Operand.func 41), args := #[Operand.tmp 55], argTypes := #[22] }, type := 22, pos := _, after := #[{ on := 4, ground := Ground.data }, { on := 2, ground := Ground.chain }], guard := none }, rfl, fun K' hK => ?_⟩
      have hz := hq.low
      have HQ := hid hq
      clear hq
      go_simp
      refine (CB.out z hz).mono ?_
      rintro e z1 ⟨a1, c1, rfl, H1⟩
      dsimp only
      have hq1 := HQ.out.k2 H1.out.2 H1.out.1
      refine hK.out _ _ (fun _ => HS.out _ hq1.low) (fun _ => ?_)
      (try simp only [List.setIfInBounds_toArray, List.set_cons_zero, List.set_cons_succ])
      exact J2o.out f1 f3 a1 c1 Bf Bs Bq b11 z3 z1 hq1
    · refine ⟨{ dst := some 11, op := Op.alloc 26, type := 0, pos := _, after := #[], guard := none }, rfl, fun K' hK => ?_⟩
      have HQ := hid hq.al
      clear hq
      go_simp
      refine hK.out _ _ (fun _ => HS.out _ HQ.out.low) (fun _ => ?_)
      (try simp only [List.setIfInBounds_toArray, List.set_cons_zero, List.set_cons_succ])
      exact J1x.out f1 f3 s1 s3 Bf Bs Bq z.heap.size z3 _ HQ.out)
  have J0x : Hid (∀ (f1 : Option Addr) (f3 : Nat) (s1 : Option Addr) (s3 Bf Bs Bq b11 : Nat) (z3 z : World), QA w0 A B 0 f1 f3 s1 s3 Bf Bs Bq b8 wb z3 b11 true z → wpAnyG Tryd.prog .any (ops10 q0 q1 q2 q3 q4 q5 q6 q7 q8 q9 q10 q11 q12 q13 q14 q15 q16 q17) Q (fun z : World => z.cell? ⟨b2, 0, none⟩ = some (.slice A.sa A.sn A.sc) ∧ z.cell? ⟨b3, 0, none⟩ = some (.slice B.sa B.sn B.sc) ∧ z.cell? ⟨b8, 0, none⟩ = some (.slice (some ⟨wb, 0, none⟩) A.G A.G)) (fun _ => false) 11 #[true, true, false, true, true, false, true, false, true, false, false, false, false, false, true, false, false, false] { tmps := #[t0, t1, (.pointer (some ⟨b2, 0, none⟩)), (.pointer (some ⟨b3, 0, none⟩)), t4, t5, t6, t7, (.pointer (some ⟨b8, 0, none⟩)), (.pointer (some ⟨b9, 0, none⟩)), (.pointer (some ⟨b10, 0, none⟩)), (.pointer (some ⟨b11, 0, none⟩)), t12, t13, t14, t15, t16, t17, t18, t19, t20, t21, t22, t23, t24, t25, t26, t27, t28, t29, t30, t31, t32, t33, t34, t35, t36, t37, t38, t39, t40, t41, t42, t43, t44, t45, t46, t47, t48, t49, t50, (.pointer (some ⟨b2, 0, none⟩)), (.slice A.sa A.sn A.sc), t53, (.pointer (some ⟨b3, 0, none⟩)), (.slice B.sa B.sn B.sc), t56, (.slice (some ⟨wb, 0, none⟩) A.G A.G), t58, (.func (.func 42) #[] #[.pointer (some ⟨b9, 0, none⟩), .pointer (some ⟨b10, 0, none⟩), .pointer (some ⟨b8, 0, none⟩)]), t60, t61, t62, t63, t64, t65, t66, t67, t68, t69, t70, t71, t72, t73, t74, t75, t76, t77, t78, t79, t80, t81, t82, t83, t84, t85, t86, t87, t88, t89, t90, t91, t92, t93, t94, t95, t96, t97, t98, t99, t100, t101, t102, t103, t104, t105, t106, t107, t108, t109, t110, t111, t112, t113, t114, t115, t116, t117, t118, t119, t120, t121, t122, t123, t124, t125, t126, t127, t128, t129, t130, t131, t132, t133, t134, t135, t136, t137, t138, t139, t140, t141, t142, t143, t144, t145], defers := [] } z) := hid (by
    intro f1 f3 s1 s3 Bf Bs Bq b11 z3 z hq
    refine G_alt (l := [2]) (by kernel_rfl) (by decide) ?_
    intro i hi
    obtain rfl : i = 2 := by simpa using hi
    clear hi
    · refine ⟨{ dst := some 53, op := Op.call { callee := Callee.value (Operand.func 41), args := #[Operand.tmp 52], argTypes := #[22] }, type := 22, pos := _, after := #[{ on := 1, ground := Ground.data }], guard := none }, rfl, fun K' hK => ?_⟩
      have hz := hq.low
      have HQ := hid hq
      clear hq
      go_simp
      refine (CA.out z hz).mono ?_
      rintro e z1 ⟨a1, c1, rfl, H1⟩
      dsimp only
      have hq1 := HQ.out.k1 H1.out.2 H1.out.1
      refine hK.out _ _ (fun _ => HS.out _ hq1.low) (fun _ => ?_)
      (try simp only [List.setIfInBounds_toArray, List.set_cons_zero, List.set_cons_succ])
      exact J1x.out a1 c1 s1 s3 Bf Bs Bq b11 z3 z1 hq1)
  have J0o : Hid (∀ (f1 : Option Addr) (f3 : Nat) (s1 : Option Addr) (s3 Bf Bs Bq b11 : Nat) (z3 z : World), QA w0 A B 0 f1 f3 s1 s3 Bf Bs Bq b8 wb z3 b11 false z → wpAnyG Tryd.prog .any (ops10 q0 q1 q2 q3 q4 q5 q6 q7 q8 q9 q10 q11 q12 q13 q14 q15 q16 q17) Q (fun z : World => z.cell? ⟨b2, 0, none⟩ = some (.slice A.sa A.sn A.sc) ∧ z.cell? ⟨b3, 0, none⟩ = some (.slice B.sa B.sn B.sc) ∧ z.cell? ⟨b8, 0, none⟩ = some (.slice (some ⟨wb, 0, none⟩) A.G A.G)) (fun _ => false) 12 #[true, true, false, true, true, false, true, false, true, false, false, false, false, false, false, false, false, false] { tmps := #[t0, t1, (.pointer (some ⟨b2, 0, none⟩)), (.pointer (some ⟨b3, 0, none⟩)), t4, t5, t6, t7, (.pointer (some ⟨b8, 0, none⟩)), (.pointer (some ⟨b9, 0, none⟩)), (.pointer (some ⟨b10, 0, none⟩)), t11, t12, t13, t14, t15, t16, t17, t18, t19, t20, t21, t22, t23, t24, t25, t26, t27, t28, t29, t30, t31, t32, t33, t34, t35, t36, t37, t38, t39, t40, t41, t42, t43, t44, t45, t46, t47, t48, t49, t50, (.pointer (some ⟨b2, 0, none⟩)), (.slice A.sa A.sn A.sc), t53, (.pointer (some ⟨b3, 0, none⟩)), (.slice B.sa B.sn B.sc), t56, (.slice (some ⟨wb, 0, none⟩) A.G A.G), t58, (.func (.func 42) #[] #[.pointer (some ⟨b9, 0, none⟩), .pointer (some ⟨b10, 0, none⟩), .pointer (some ⟨b8, 0, none⟩)]), t60, t61, t62, t63, t64, t65, t66, t67, t68, t69, t70, t71, t72, t73, t74, t75, t76, t77, t78, t79, t80, t81, t82, t83, t84, t85, t86, t87, t88, t89, t90, t91, t92, t93, t94, t95, t96, t97, t98, t99, t100, t101, t102, t103, t104, t105, t106, t107, t108, t109, t110, t111, t112, t113, t114, t115, t116, t117, t118, t119, t120, t121, t122, t123, t124, t125, t126, t127, t128, t129, t130, t131, t132, t133, t134, t135, t136, t137, t138, t139, t140, t141, t142, t143, t144, t145], defers := [] } z) := hid (by
    intro f1 f3 s1 s3 Bf Bs Bq b11 z3 z hq
    refine G_alt (l := [2, 14]) (by kernel_rfl) (by decide) ?_
    intro i hi
    have hi2 : i = 2 ∨ i = 14 := by simpa using hi
    clear hi
    rcases hi2 with rfl | rfl
    · refine ⟨{ dst := some 53, op := Op.call { callee := Callee.value (Operand.func 41), args := #[Operand.tmp 52], argTypes := #[22] }, type := 22, pos := _, after := #[{ on := 1, ground := Ground.data }], guard := none }, rfl, fun K' hK => ?_⟩
      have hz := hq.low
      have HQ := hid hq
      clear hq
      go_simp
      refine (CA.out z hz).mono ?_
      rintro e z1 ⟨a1, c1, rfl, H1⟩
      dsimp only
      have hq1 := HQ.out.k1 H1.out.2 H1.out.1
      refine hK.out _ _ (fun _ => HS.out _ hq1.low) (fun _ => ?_)
      (try simp only [List.setIfInBounds_toArray, List.set_cons_zero, List.set_cons_succ])
      exact J1o.out a1 c1 s1 s3 Bf Bs Bq b11 z3 z1 hq1
    · refine ⟨{ dst := some 11, op := Op.alloc 26, type := 0, pos := _, after := #[], guard := none }, rfl, fun K' hK => ?_⟩
      have HQ := hid hq.al
      clear hq
      go_simp
      refine hK.out _ _ (fun _ => HS.out _ HQ.out.low) (fun _ => ?_)
      (try simp only [List.setIfInBounds_toArray, List.set_cons_zero, List.set_cons_succ])
      exact J0x.out f1 f3 s1 s3 Bf Bs Bq z.heap.size z3 _ HQ.out)
  have hS0 := HS.out w0 (Below.refl _ _)
  refine G_take (i := 0) (oi := { dst := some 51, op := Op.fieldAddr 26 (Operand.tmp 2) 0, type := 0, pos := _, after := #[], guard := none }) (v := .pointer (some ⟨b2, 0, none⟩)) rfl (by kernel_rfl) (by kernel_rfl) (by kernel_rfl) (by kernel_rfl) (fun c a w h => HQP.out _ _ _ _ _ h) (by rfl) (fun u hu => ?_) hS0 ?_
  · (try dsimp only at hu); go_simp
  (try simp only [Act.put, List.setIfInBounds_toArray, List.set_cons_zero, List.set_cons_succ])
  refine G_take (i := 1) (oi := { dst := some 52, op := Op.load 22 (Operand.tmp 51), type := 22, pos := _, after := #[{ on := 0, ground := Ground.data }], guard := none }) (v := .slice A.sa A.sn A.sc) rfl (by kernel_rfl) (by kernel_rfl) (by kernel_rfl) (by kernel_rfl) (fun c a w h => HQP.out _ _ _ _ _ h) (by rfl) (fun u hu => ?_) hS0 ?_
  · (try dsimp only at hu); go_simp
  (try simp only [Act.put, List.setIfInBounds_toArray, List.set_cons_zero, List.set_cons_succ])
  refine G_take (i := 3) (oi := { dst := some 54, op := Op.fieldAddr 26 (Operand.tmp 3) 0, type := 0, pos := _, after := #[], guard := none }) (v := .pointer (some ⟨b3, 0, none⟩)) rfl (by kernel_rfl) (by kernel_rfl) (by kernel_rfl) (by kernel_rfl) (fun c a w h => HQP.out _ _ _ _ _ h) (by rfl) (fun u hu => ?_) hS0 ?_
  · (try dsimp only at hu); go_simp
  (try simp only [Act.put, List.setIfInBounds_toArray, List.set_cons_zero, List.set_cons_succ])
  refine G_take (i := 4) (oi := { dst := some 55, op := Op.load 22 (Operand.tmp 54), type := 22, pos := _, after := #[{ on := 3, ground := Ground.data }], guard := none }) (v := .slice B.sa B.sn B.sc) rfl (by kernel_rfl) (by kernel_rfl) (by kernel_rfl) (by kernel_rfl) (fun c a w h => HQP.out _ _ _ _ _ h) (by rfl) (fun u hu => ?_) hS0 ?_
  · (try dsimp only at hu); go_simp
  (try simp only [Act.put, List.setIfInBounds_toArray, List.set_cons_zero, List.set_cons_succ])
  refine G_take (i := 6) (oi := { dst := some 57, op := Op.load 47 (Operand.tmp 8), type := 47, pos := _, after := #[], guard := none }) (v := .slice (some ⟨wb, 0, none⟩) A.G A.G) rfl (by kernel_rfl) (by kernel_rfl) (by kernel_rfl) (by kernel_rfl) (fun c a w h => HQP.out _ _ _ _ _ h) (by rfl) (fun u hu => ?_) hS0 ?_
  · (try dsimp only at hu); go_simp
  (try simp only [Act.put, List.setIfInBounds_toArray, List.set_cons_zero, List.set_cons_succ])
  refine G_take (i := 8) (oi := { dst := some 59, op := Op.makeFunc (Fn.func 42) #[] #[Operand.tmp 9, Operand.tmp 10, Operand.tmp 8], type := 80, pos := _, after := #[], guard := none }) (v := .func (.func 42) #[] #[.pointer (some ⟨b9, 0, none⟩), .pointer (some ⟨b10, 0, none⟩), .pointer (some ⟨b8, 0, none⟩)]) rfl (by kernel_rfl) (by kernel_rfl) (by kernel_rfl) (by kernel_rfl) (fun c a w h => HQP.out _ _ _ _ _ h) (by rfl) (fun u hu => ?_) hS0 ?_
  · (try dsimp only at hu); go_simp
  (try simp only [Act.put, List.setIfInBounds_toArray, List.set_cons_zero, List.set_cons_succ])
  exact J0o.out none 0 none 0 0 0 0 0 w0 w0 ⟨Below.refl _ _, fun h => by omega, fun h => by omega, fun h => by omega, fun h => (by cases h)⟩

end Go.Proofs.YtdncjikmknkkpaaDoor
