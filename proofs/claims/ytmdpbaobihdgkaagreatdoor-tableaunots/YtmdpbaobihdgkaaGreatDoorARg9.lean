
import Derived.Test.YtmdpbaobihdgkaaGreatDoorABth
/- Both: its three tables, made in whatever order. -/
set_option linter.unusedSimpArgs false
namespace Go.Proofs.YtmdpbaobihdgkaaGreatDoor
open Go.RowKit Go.Shelf Go.Maps
def Rwt (A : Ax) (nb : Nat) (V : Nat → Value) (z : World) : Prop := ∀ x, x < A.G → z.cell? ⟨nb, x, none⟩ = some (V x) ∧ z.ownsRow 0 3 1 (V x) (cs (aNx A x)).length (vals (cs (aNx A x)))
theorem Rwt.below {A : Ax} {nb : Nat} {V : Nat → Value} {z z' : World} (h : Rwt A nb V z) (hb : Below z.heap.size z z') : Rwt A nb V z' := fun x hx => ⟨below_cell hb jq0 (h x hx).1, owns_below (h x hx).2 hb⟩
structure Q9 (w0 : World) (A B : Ax) (wb nb mb : Nat) (V U : Nat → Value) (c b8 b9 b10 : Nat) (x8 x9 x10 : Bool) (z : World) : Prop where
 low : Below w0.heap.size w0 z
 p1 : 1 ≤ c → Ls z wb A.G (fun x => pwS (a_okB A B) x B.G) ∧ w0.heap.size ≤ wb ∧ wb < z.heap.size
 p2 : 2 ≤ c → Rwt A nb V z ∧ w0.heap.size ≤ nb ∧ nb < z.heap.size
 p3 : 3 ≤ c → Rwt B mb U z ∧ w0.heap.size ≤ mb ∧ mb < z.heap.size
 a8 : x8 = true → z.heap[b8]? = some (.cells #[.slice none 0 0] 64) ∧ w0.heap.size ≤ b8 ∧ (1 ≤ c → b8 ≠ wb) ∧ (2 ≤ c → b8 ≠ nb) ∧ (3 ≤ c → b8 ≠ mb)
 a9 : x9 = true → z.heap[b9]? = some (.cells #[.slice none 0 0] 30) ∧ w0.heap.size ≤ b9 ∧ (1 ≤ c → b9 ≠ wb) ∧ (2 ≤ c → b9 ≠ nb) ∧ (3 ≤ c → b9 ≠ mb)
 a10 : x10 = true → z.heap[b10]? = some (.cells #[.slice none 0 0] 30) ∧ w0.heap.size ≤ b10 ∧ (1 ≤ c → b10 ≠ wb) ∧ (2 ≤ c → b10 ≠ nb) ∧ (3 ≤ c → b10 ≠ mb)
 ne : x9 = true → x10 = true → b9 ≠ b10
theorem q9_old {z z' : World} (hb : Below z.heap.size z z') {b : Nat} {o : Obj} (h : z.heap[b]? = some o) : z'.heap[b]? = some o ∧ b < z.heap.size := ⟨(hb.block b (jq4.1 h).1).trans h, (jq4.1 h).1⟩
section
variable {w0 : World} {A B : Ax} {wb nb mb : Nat} {V U : Nat → Value} {b8 b9 b10 : Nat} {x8 x9 x10 : Bool} {z z' : World}
theorem Q9.c1 (h : Q9 w0 A B wb nb mb V U 0 b8 b9 b10 x8 x9 x10 z) {wb' : Nat} (hb : Below z.heap.size z z') (h1 : Ls z' wb' A.G (fun x => pwS (a_okB A B) x B.G)) (h2 : z.heap.size ≤ wb') (h3 : wb' < z'.heap.size) : Q9 w0 A B wb' nb mb V U 1 b8 b9 b10 x8 x9 x10 z' := by
 have hs := h.low.size
 refine ⟨h.low.trans (hb.mono hs), fun _ => ⟨h1, by omega, h3⟩, fun h => by omega, fun h => by omega, fun hx => ?_, fun hx => ?_, fun hx => ?_, h.ne⟩
 ·obtain ⟨g1, g2, _⟩ := h.a8 hx
  have := q9_old hb g1
  exact ⟨this.1, g2, fun _ => by omega, fun h => by omega, fun h => by omega⟩
 ·obtain ⟨g1, g2, _⟩ := h.a9 hx
  have := q9_old hb g1
  exact ⟨this.1, g2, fun _ => by omega, fun h => by omega, fun h => by omega⟩
 ·obtain ⟨g1, g2, _⟩ := h.a10 hx
  have := q9_old hb g1
  exact ⟨this.1, g2, fun _ => by omega, fun h => by omega, fun h => by omega⟩
theorem Q9.c2 (h : Q9 w0 A B wb nb mb V U 1 b8 b9 b10 x8 x9 x10 z) {nb' : Nat} {V' : Nat → Value} (hb : Below z.heap.size z z') (h1 : Rwt A nb' V' z') (h2 : z.heap.size ≤ nb') (h3 : nb' < z'.heap.size) : Q9 w0 A B wb nb' mb V' U 2 b8 b9 b10 x8 x9 x10 z' := by
 have hs := h.low.size
 have hz := hb.size
 obtain ⟨p1, p2, p3⟩ := h.p1 jq0
 refine ⟨h.low.trans (hb.mono hs), fun _ => ⟨p1.below' hb, p2, by omega⟩, fun _ => ⟨h1, by omega, h3⟩, fun h => by omega, fun hx => ?_, fun hx => ?_, fun hx => ?_, h.ne⟩
 ·obtain ⟨g1, g2, g3, _⟩ := h.a8 hx
  have := q9_old hb g1
  exact ⟨this.1, g2, fun _ => g3 (by omega), fun h => by omega, fun h => by omega⟩
 ·obtain ⟨g1, g2, g3, _⟩ := h.a9 hx
  have := q9_old hb g1
  exact ⟨this.1, g2, fun _ => g3 (by omega), fun h => by omega, fun h => by omega⟩
 ·obtain ⟨g1, g2, g3, _⟩ := h.a10 hx
  have := q9_old hb g1
  exact ⟨this.1, g2, fun _ => g3 (by omega), fun h => by omega, fun h => by omega⟩
theorem Q9.c3 (h : Q9 w0 A B wb nb mb V U 2 b8 b9 b10 x8 x9 x10 z) {mb' : Nat} {U' : Nat → Value} (hb : Below z.heap.size z z') (h1 : Rwt B mb' U' z') (h2 : z.heap.size ≤ mb') (h3 : mb' < z'.heap.size) : Q9 w0 A B wb nb mb' V U' 3 b8 b9 b10 x8 x9 x10 z' := by
 have hs := h.low.size
 have hz := hb.size
 obtain ⟨p1, p2, p3⟩ := h.p1 (by omega)
 obtain ⟨r1, r2, r3⟩ := h.p2 (by omega)
 refine ⟨h.low.trans (hb.mono hs), fun _ => ⟨p1.below' hb, p2, by omega⟩, fun _ => ⟨r1.below hb, r2, by omega⟩, fun _ => ⟨h1, by omega, h3⟩, fun hx => ?_, fun hx => ?_, fun hx => ?_, h.ne⟩
 ·obtain ⟨g1, g2, g3, g4, _⟩ := h.a8 hx
  have := q9_old hb g1
  exact ⟨this.1, g2, fun _ => g3 (by omega), fun _ => g4 (by omega), fun h => by omega⟩
 ·obtain ⟨g1, g2, g3, g4, _⟩ := h.a9 hx
  have := q9_old hb g1
  exact ⟨this.1, g2, fun _ => g3 (by omega), fun _ => g4 (by omega), fun h => by omega⟩
 ·obtain ⟨g1, g2, g3, g4, _⟩ := h.a10 hx
  have := q9_old hb g1
  exact ⟨this.1, g2, fun _ => g3 (by omega), fun _ => g4 (by omega), fun h => by omega⟩
theorem Q9.n8 {c : Nat} (h : Q9 w0 A B wb nb mb V U c b8 b9 b10 false x9 x10 z) : Q9 w0 A B wb nb mb V U c z.heap.size b9 b10 true x9 x10 (z.alloc (.cells #[.slice none 0 0] 64)) := by
 have hb := box_below z (.cells #[.slice none 0 0] 64)
 have hn : (z.alloc (.cells #[.slice none 0 0] 64)).heap[z.heap.size]? = some (.cells #[.slice none 0 0] 64) := Go.Deep.blk_alloc_new _ _
 have hz := hb.size
 have hs := h.low.size
 exact ⟨h.low.trans (hb.mono hs), fun hc => ⟨(h.p1 hc).1.below' hb, (h.p1 hc).2.1, Nat.lt_of_lt_of_le (h.p1 hc).2.2 hz⟩, fun hc => ⟨(h.p2 hc).1.below hb, (h.p2 hc).2.1, Nat.lt_of_lt_of_le (h.p2 hc).2.2 hz⟩, fun hc => ⟨(h.p3 hc).1.below hb, (h.p3 hc).2.1, Nat.lt_of_lt_of_le (h.p3 hc).2.2 hz⟩, fun _ => ⟨hn, hs, fun hc => by have := (h.p1 hc).2.2; omega, fun hc => by have := (h.p2 hc).2.2; omega, fun hc => by have := (h.p3 hc).2.2; omega⟩, fun hx => ⟨(q9_old hb (h.a9 hx).1).1, (h.a9 hx).2⟩, fun hx => ⟨(q9_old hb (h.a10 hx).1).1, (h.a10 hx).2⟩, h.ne⟩
theorem Q9.n9 {c : Nat} (h : Q9 w0 A B wb nb mb V U c b8 b9 b10 x8 false x10 z) : Q9 w0 A B wb nb mb V U c b8 z.heap.size b10 x8 true x10 (z.alloc (.cells #[.slice none 0 0] 30)) := by
 have hb := box_below z (.cells #[.slice none 0 0] 30)
 have hn : (z.alloc (.cells #[.slice none 0 0] 30)).heap[z.heap.size]? = some (.cells #[.slice none 0 0] 30) := Go.Deep.blk_alloc_new _ _
 have hz := hb.size
 have hs := h.low.size
 exact ⟨h.low.trans (hb.mono hs), fun hc => ⟨(h.p1 hc).1.below' hb, (h.p1 hc).2.1, Nat.lt_of_lt_of_le (h.p1 hc).2.2 hz⟩, fun hc => ⟨(h.p2 hc).1.below hb, (h.p2 hc).2.1, Nat.lt_of_lt_of_le (h.p2 hc).2.2 hz⟩, fun hc => ⟨(h.p3 hc).1.below hb, (h.p3 hc).2.1, Nat.lt_of_lt_of_le (h.p3 hc).2.2 hz⟩, fun hx => ⟨(q9_old hb (h.a8 hx).1).1, (h.a8 hx).2⟩, fun _ => ⟨hn, hs, fun hc => by have := (h.p1 hc).2.2; omega, fun hc => by have := (h.p2 hc).2.2; omega, fun hc => by have := (h.p3 hc).2.2; omega⟩, fun hx => ⟨(q9_old hb (h.a10 hx).1).1, (h.a10 hx).2⟩, fun _ hx => by have := (q9_old hb (h.a10 hx).1).2; omega⟩
theorem Q9.n10 {c : Nat} (h : Q9 w0 A B wb nb mb V U c b8 b9 b10 x8 x9 false z) : Q9 w0 A B wb nb mb V U c b8 b9 z.heap.size x8 x9 true (z.alloc (.cells #[.slice none 0 0] 30)) := by
 have hb := box_below z (.cells #[.slice none 0 0] 30)
 have hn : (z.alloc (.cells #[.slice none 0 0] 30)).heap[z.heap.size]? = some (.cells #[.slice none 0 0] 30) := Go.Deep.blk_alloc_new _ _
 have hz := hb.size
 have hs := h.low.size
 exact ⟨h.low.trans (hb.mono hs), fun hc => ⟨(h.p1 hc).1.below' hb, (h.p1 hc).2.1, Nat.lt_of_lt_of_le (h.p1 hc).2.2 hz⟩, fun hc => ⟨(h.p2 hc).1.below hb, (h.p2 hc).2.1, Nat.lt_of_lt_of_le (h.p2 hc).2.2 hz⟩, fun hc => ⟨(h.p3 hc).1.below hb, (h.p3 hc).2.1, Nat.lt_of_lt_of_le (h.p3 hc).2.2 hz⟩, fun hx => ⟨(q9_old hb (h.a8 hx).1).1, (h.a8 hx).2⟩, fun hx => ⟨(q9_old hb (h.a9 hx).1).1, (h.a9 hx).2⟩, fun _ => ⟨hn, hs, fun hc => by have := (h.p1 hc).2.2; omega, fun hc => by have := (h.p2 hc).2.2; omega, fun hc => by have := (h.p3 hc).2.2; omega⟩, fun hx _ => by have := (q9_old hb (h.a9 hx).1).2; omega⟩
end
theorem rw_set {A : Ax} {nb b t : Nat} {V : Nat → Value} {z : World} {v v0 : Value} (h : Rwt A nb V z) (hb : z.heap[b]? = some (.cells #[v0] t)) (ht : t ≠ 3) (hn : b ≠ nb) : Rwt A nb V (z.setCell ⟨b, 0, none⟩ v) := fun x hx => by
 have hbut : But b z (z.setCell ⟨b, 0, none⟩ v) := (But.refl _ _).setCell 0 _
 refine ⟨hbut.cell (fun e => hn e.symm) (h x hx).1, owns_of_blk (h x hx).2 (fun g e => ?_)⟩
 obtain ⟨c, q, h3⟩ := owns_blk (h x hx).2 e
 exact hbut.block g (jq4.1 h3).1 (fun e2 => by
  rw [e2, hb] at h3
  cases h3
  exact ht rfl)
theorem blk_other {z : World} {b c : Nat} {v : Value} {o : Obj} (h : z.heap[c]? = some o) (hne : c ≠ b) : (z.setCell ⟨b, 0, none⟩ v).heap[c]? = some o := (((But.refl b z).setCell 0 v).block c (jq4.1 h).1 hne).trans h
theorem blk_self {z : World} {b t : Nat} {v v0 : Value} (h : z.heap[b]? = some (.cells #[v0] t)) : (z.setCell ⟨b, 0, none⟩ v).heap[b]? = some (.cells #[v] t) := by
 have e := blk_setCell (i := 0) (v := v) h
 simpa using e
theorem one_cell {z : World} {b t : Nat} {v0 : Value} (h : z.heap[b]? = some (.cells #[v0] t)) : z.cell? ⟨b, 0, none⟩ = some v0 ∧ z.frozen? ⟨b, 0, none⟩ = false := ⟨cell_of_cells h rfl, by simp [World.frozen?, h]⟩
theorem q9_fin {w0 : World} {A B : Ax} {wb nb mb : Nat} {V U : Nat → Value} {b8 b9 b10 : Nat} {z : World} (h : Q9 w0 A B wb nb mb V U 3 b8 b9 b10 true true true z) (hT : Tb w0) (hA : chkA A = 0) (hB : chkA B = 0) :
  ∃ z1 z2 z3, z.setCell ⟨b8, 0, none⟩ (.slice (some ⟨wb, 0, none⟩) A.G A.G) = z1 ∧ z1.setCell ⟨b9, 0, none⟩ (.slice (some ⟨nb, 0, none⟩) A.G A.G) = z2 ∧ z2.setCell ⟨b10, 0, none⟩ (.slice (some ⟨mb, 0, none⟩) B.G B.G) = z3 ∧
   (z.cell? ⟨b8, 0, none⟩ = some (.slice none 0 0) ∧ z.frozen? ⟨b8, 0, none⟩ = false) ∧ (z1.cell? ⟨b9, 0, none⟩ = some (.slice none 0 0) ∧ z1.frozen? ⟨b9, 0, none⟩ = false) ∧ (z2.cell? ⟨b10, 0, none⟩ = some (.slice none 0 0) ∧ z2.frozen? ⟨b10, 0, none⟩ = false) ∧
   Below w0.heap.size w0 z1 ∧ Below w0.heap.size w0 z2 ∧ Below w0.heap.size w0 z3 ∧ Hid (Bgm A B b9 b10 b8 wb nb mb V U z3) := by
 obtain ⟨p1, p2, p3⟩ := h.p1 (by omega)
 obtain ⟨r1, r2, r3⟩ := h.p2 (by omega)
 obtain ⟨s1, s2, s3⟩ := h.p3 (by omega)
 obtain ⟨g1, g2, g3, g4, g5⟩ := h.a8 rfl
 obtain ⟨k1, k2, k3, k4, k5⟩ := h.a9 rfl
 obtain ⟨l1, l2, l3, l4, l5⟩ := h.a10 rfl
 have hne := h.ne rfl rfl
 have n89 : b8 ≠ b9 := fun e => by rw [e, k1] at g1; cases g1
 have n810 : b8 ≠ b10 := fun e => by rw [e, l1] at g1; cases g1
 have hlow := h.low
 have e1 := blk_self (v := .slice (some ⟨wb, 0, none⟩) A.G A.G) g1
 have e2 := blk_other (b := b8) (v := .slice (some ⟨wb, 0, none⟩) A.G A.G) k1 (Ne.symm n89)
 have e3 := blk_other (b := b8) (v := .slice (some ⟨wb, 0, none⟩) A.G A.G) l1 (Ne.symm n810)
 have e4 := rw_set (v := .slice (some ⟨wb, 0, none⟩) A.G A.G) r1 g1 (by decide) (g4 (by omega))
 have e5 := rw_set (v := .slice (some ⟨wb, 0, none⟩) A.G A.G) s1 g1 (by decide) (g5 (by omega))
 have e6 := p1.but ((But.refl b8 z).setCell 0 (.slice (some ⟨wb, 0, none⟩) A.G A.G)) (fun e => g3 (by omega) e.symm)
 have e7 : Below w0.heap.size w0 (z.setCell ⟨b8, 0, none⟩ (.slice (some ⟨wb, 0, none⟩) A.G A.G)) := hlow.setCell g2 _
 refine ⟨_, _, _, rfl, rfl, rfl, one_cell g1, ?_⟩
 generalize z.setCell ⟨b8, 0, none⟩ (.slice (some ⟨wb, 0, none⟩) A.G A.G) = z1 at *
 have f1 := blk_other (b := b9) (v := .slice (some ⟨nb, 0, none⟩) A.G A.G) e1 n89
 have f2 := blk_self (v := .slice (some ⟨nb, 0, none⟩) A.G A.G) e2
 have f3 := blk_other (b := b9) (v := .slice (some ⟨nb, 0, none⟩) A.G A.G) e3 (Ne.symm hne)
 have f4 := rw_set (v := .slice (some ⟨nb, 0, none⟩) A.G A.G) e4 e2 (by decide) (k4 (by omega))
 have f5 := rw_set (v := .slice (some ⟨nb, 0, none⟩) A.G A.G) e5 e2 (by decide) (k5 (by omega))
 have f6 := e6.but ((But.refl b9 z1).setCell 0 (.slice (some ⟨nb, 0, none⟩) A.G A.G)) (fun e => k3 (by omega) e.symm)
 have f7 : Below w0.heap.size w0 (z1.setCell ⟨b9, 0, none⟩ (.slice (some ⟨nb, 0, none⟩) A.G A.G)) := e7.setCell k2 _
 refine ⟨one_cell e2, ?_⟩
 generalize z1.setCell ⟨b9, 0, none⟩ (.slice (some ⟨nb, 0, none⟩) A.G A.G) = z2 at *
 have d1 := blk_other (b := b10) (v := .slice (some ⟨mb, 0, none⟩) B.G B.G) f1 n810
 have d2 := blk_other (b := b10) (v := .slice (some ⟨mb, 0, none⟩) B.G B.G) f2 hne
 have d3 := blk_self (v := .slice (some ⟨mb, 0, none⟩) B.G B.G) f3
 have d4 := rw_set (v := .slice (some ⟨mb, 0, none⟩) B.G B.G) f4 f3 (by decide) (l4 (by omega))
 have d5 := rw_set (v := .slice (some ⟨mb, 0, none⟩) B.G B.G) f5 f3 (by decide) (l5 (by omega))
 have d6 := f6.but ((But.refl b10 z2).setCell 0 (.slice (some ⟨mb, 0, none⟩) B.G B.G)) (fun e => l3 (by omega) e.symm)
 have d7 : Below w0.heap.size w0 (z2.setCell ⟨b10, 0, none⟩ (.slice (some ⟨mb, 0, none⟩) B.G B.G)) := f7.setCell l2 _
 exact ⟨one_cell f3, e7, f7, d7, hid ⟨(one_cell d2).1, (one_cell d3).1, (one_cell d1).1, d6, d4, d5, fun j hj => below_cell d7 jq0 (hT j hj), hA, hB⟩⟩
def ops9 (q0 q1 q2 q3 q4 q5 q6 q7 q8 q9 q10 q11 q12 q13 q14 : String) : Array Oper := #[{ dst := some 41, op := Op.load 32 (Operand.tmp 2), type := 32, pos := q0, after := #[], guard := none },
 { dst := some 42, op := Op.load 32 (Operand.tmp 3), type := 32, pos := q1, after := #[], guard := none },
 { dst := some 43, op := Op.call { callee := Callee.value (Operand.func 31), args := #[Operand.tmp 41, Operand.tmp 42], argTypes := #[32, 32] }, type := 64, pos := q2, after := #[{ on := 0, ground := Ground.data }, { on := 1, ground := Ground.data }], guard := none },
 { dst := some 44, op := Op.fieldAddr 32 (Operand.tmp 2) 1, type := 0, pos := q3, after := #[], guard := none },
 { dst := some 45, op := Op.load 30 (Operand.tmp 44), type := 30, pos := q4, after := #[{ on := 3, ground := Ground.data }], guard := none },
 { dst := some 46, op := Op.call { callee := Callee.value (Operand.func 32), args := #[Operand.tmp 45], argTypes := #[30] }, type := 30, pos := q5, after := #[{ on := 4, ground := Ground.data }, { on := 2, ground := Ground.chain }], guard := none },
 { dst := some 47, op := Op.fieldAddr 32 (Operand.tmp 3) 1, type := 0, pos := q6, after := #[], guard := none },
 { dst := some 48, op := Op.load 30 (Operand.tmp 47), type := 30, pos := q7, after := #[{ on := 6, ground := Ground.data }], guard := none },
 { dst := some 49, op := Op.call { callee := Callee.value (Operand.func 32), args := #[Operand.tmp 48], argTypes := #[30] }, type := 30, pos := q8, after := #[{ on := 7, ground := Ground.data }, { on := 5, ground := Ground.chain }], guard := none },
 { dst := some 8, op := Op.alloc 64, type := 0, pos := q9, after := #[], guard := none },
 { dst := some 9, op := Op.alloc 30, type := 0, pos := q10, after := #[], guard := none },
 { dst := some 10, op := Op.alloc 30, type := 0, pos := q11, after := #[], guard := none },
 { dst := none, op := Op.store 64 (Operand.tmp 8) (Operand.tmp 43), type := 0, pos := q12, after := #[{ on := 9, ground := Ground.data }, { on := 2, ground := Ground.data }, { on := 8, ground := Ground.chain }, { on := 0, ground := Ground.phase }, { on := 1, ground := Ground.phase }, { on := 2, ground := Ground.phase }, { on := 3, ground := Ground.textOnly Departure.lateStores }, { on := 4, ground := Ground.textOnly Departure.lateStores }, { on := 5, ground := Ground.textOnly Departure.lateStoresUnsure }, { on := 6, ground := Ground.textOnly Departure.lateStores }, { on := 7, ground := Ground.textOnly Departure.lateStores }, { on := 8, ground := Ground.textOnly Departure.lateStoresUnsure }, { on := 9, ground := Ground.phase }, { on := 10, ground := Ground.phase }, { on := 11, ground := Ground.phase }], guard := none },
 { dst := none, op := Op.store 30 (Operand.tmp 9) (Operand.tmp 46), type := 0, pos := q13, after := #[{ on := 10, ground := Ground.data }, { on := 5, ground := Ground.data }, { on := 12, ground := Ground.chain }, { on := 0, ground := Ground.phase }, { on := 1, ground := Ground.phase }, { on := 2, ground := Ground.phase }, { on := 3, ground := Ground.phase }, { on := 4, ground := Ground.phase }, { on := 5, ground := Ground.phase }, { on := 6, ground := Ground.textOnly Departure.lateStores }, { on := 7, ground := Ground.textOnly Departure.lateStores }, { on := 8, ground := Ground.textOnly Departure.lateStoresUnsure }, { on := 9, ground := Ground.phase }, { on := 10, ground := Ground.phase }, { on := 11, ground := Ground.phase }, { on := 12, ground := Ground.phase }], guard := none },
 { dst := none, op := Op.store 30 (Operand.tmp 10) (Operand.tmp 49), type := 0, pos := q14, after := #[{ on := 11, ground := Ground.data }, { on := 8, ground := Ground.data }, { on := 13, ground := Ground.chain }, { on := 0, ground := Ground.phase }, { on := 1, ground := Ground.phase }, { on := 2, ground := Ground.phase }, { on := 3, ground := Ground.phase }, { on := 4, ground := Ground.phase }, { on := 5, ground := Ground.phase }, { on := 6, ground := Ground.phase }, { on := 7, ground := Ground.phase }, { on := 8, ground := Ground.phase }, { on := 9, ground := Ground.phase }, { on := 10, ground := Ground.phase }, { on := 11, ground := Ground.phase }, { on := 12, ground := Ground.phase }, { on := 13, ground := Ground.phase }], guard := none }]
set_option maxRecDepth 100000 in
set_option maxHeartbeats 16000000 in
theorem reg9 {Q : Exit → Act → World → Prop} (A B : Ax) (b2 b3 : Nat) (t0 t1 t4 t5 t6 t7 t8 t9 t10 t11 t12 t13 t14 t15 t16 t17 t18 t19 t20 t21 t22 t23 t24 t25 t26 t27 t28 t29 t30 t31 t32 t33 t34 t35 t36 t37 t38 t39 t40 t41 t42 t43 t44 t45 t46 t47 t48 t49 t50 t51 t52 t53 t54 t55 t56 t57 t58 t59 t60 t61 t62 t63 t64 t65 t66 t67 t68 t69 t70 t71 t72 t73 t74 t75 t76 t77 t78 t79 t80 t81 t82 t83 t84 t85 t86 t87 t88 t89 t90 t91 t92 t93 t94 t95 t96 t97 t98 t99 t100 t101 t102 t103 t104 t105 t106 t107 t108 t109 t110 t111 t112 t113 t114 t115 t116 t117 t118 t119 t120 t121 t122 t123 t124 t125 t126 t127 t128 t129 t130 t131 t132 t133 t134 t135 t136 t137 t138 t139 t140 t141 t142 t143 t144 t145 : Value) (q0 q1 q2 q3 q4 q5 q6 q7 q8 q9 q10 q11 q12 q13 q14 : String) (w0 : World) (hQp : ∀ c (a : Act) (t : Nat) v w, Q (.panic c) (a.put (some t) v) w → Q (.panic c) a w) (hA : Aw w0 A) (hB : Aw w0 B) (hA0 : chkA A = 0) (hB0 : chkA B = 0) (hT : Tb w0) (hboA : Bo w0 b2 A) (hboB : Bo w0 b3 B)
  (hfin : ∀ (b8 b9 b10 wb nb mb : Nat) (V U : Nat → Value) (z : World), Below w0.heap.size w0 z → Bgm A B b9 b10 b8 wb nb mb V U z → w0.heap.size ≤ b8 ∧ w0.heap.size ≤ b9 ∧ w0.heap.size ≤ b10 → Q .normal { tmps := #[t0, t1, (.pointer (some ⟨b2, 0, none⟩)), (.pointer (some ⟨b3, 0, none⟩)), t4, t5, t6, t7, (.pointer (some ⟨b8, 0, none⟩)), (.pointer (some ⟨b9, 0, none⟩)), (.pointer (some ⟨b10, 0, none⟩)), t11, t12, t13, t14, t15, t16, t17, t18, t19, t20, t21, t22, t23, t24, t25, t26, t27, t28, t29, t30, t31, t32, t33, t34, t35, t36, t37, t38, t39, t40, (.agg #[.slice A.sa A.sn A.sc, .slice A.na A.G A.nc, .slice A.ma A.M A.mc, .slice A.oa A.O A.oc, .slice A.fa A.K A.fc]), (.agg #[.slice B.sa B.sn B.sc, .slice B.na B.G B.nc, .slice B.ma B.M B.mc, .slice B.oa B.O B.oc, .slice B.fa B.K B.fc]), (.slice (some ⟨wb, 0, none⟩) A.G A.G), (.pointer (some ⟨b2, 1, none⟩)), (.slice A.na A.G A.nc), (.slice (some ⟨nb, 0, none⟩) A.G A.G), (.pointer (some ⟨b3, 1, none⟩)), (.slice B.na B.G B.nc), (.slice (some ⟨mb, 0, none⟩) B.G B.G), t50, t51, t52, t53, t54, t55, t56, t57, t58, t59, t60, t61, t62, t63, t64, t65, t66, t67, t68, t69, t70, t71, t72, t73, t74, t75, t76, t77, t78, t79, t80, t81, t82, t83, t84, t85, t86, t87, t88, t89, t90, t91, t92, t93, t94, t95, t96, t97, t98, t99, t100, t101, t102, t103, t104, t105, t106, t107, t108, t109, t110, t111, t112, t113, t114, t115, t116, t117, t118, t119, t120, t121, t122, t123, t124, t125, t126, t127, t128, t129, t130, t131, t132, t133, t134, t135, t136, t137, t138, t139, t140, t141, t142, t143, t144, t145], defers := [] } z) :
  wpAnyG Tryz.prog .any (ops9 q0 q1 q2 q3 q4 q5 q6 q7 q8 q9 q10 q11 q12 q13 q14) Q (fun z : World => z.cell? ⟨b2, 0, none⟩ = some (.slice A.sa A.sn A.sc) ∧ z.cell? ⟨b2, 1, none⟩ = some (.slice A.na A.G A.nc) ∧ z.cell? ⟨b2, 2, none⟩ = some (.slice A.ma A.M A.mc) ∧ z.cell? ⟨b2, 3, none⟩ = some (.slice A.oa A.O A.oc) ∧ z.cell? ⟨b2, 4, none⟩ = some (.slice A.fa A.K A.fc) ∧ z.cell? ⟨b3, 0, none⟩ = some (.slice B.sa B.sn B.sc) ∧ z.cell? ⟨b3, 1, none⟩ = some (.slice B.na B.G B.nc) ∧ z.cell? ⟨b3, 2, none⟩ = some (.slice B.ma B.M B.mc) ∧ z.cell? ⟨b3, 3, none⟩ = some (.slice B.oa B.O B.oc) ∧ z.cell? ⟨b3, 4, none⟩ = some (.slice B.fa B.K B.fc)) (fun _ => false) 15 (Array.replicate 15 false) { tmps := #[t0, t1, (.pointer (some ⟨b2, 0, none⟩)), (.pointer (some ⟨b3, 0, none⟩)), t4, t5, t6, t7, t8, t9, t10, t11, t12, t13, t14, t15, t16, t17, t18, t19, t20, t21, t22, t23, t24, t25, t26, t27, t28, t29, t30, t31, t32, t33, t34, t35, t36, t37, t38, t39, t40, t41, t42, t43, t44, t45, t46, t47, t48, t49, t50, t51, t52, t53, t54, t55, t56, t57, t58, t59, t60, t61, t62, t63, t64, t65, t66, t67, t68, t69, t70, t71, t72, t73, t74, t75, t76, t77, t78, t79, t80, t81, t82, t83, t84, t85, t86, t87, t88, t89, t90, t91, t92, t93, t94, t95, t96, t97, t98, t99, t100, t101, t102, t103, t104, t105, t106, t107, t108, t109, t110, t111, t112, t113, t114, t115, t116, t117, t118, t119, t120, t121, t122, t123, t124, t125, t126, t127, t128, t129, t130, t131, t132, t133, t134, t135, t136, t137, t138, t139, t140, t141, t142, t143, t144, t145], defers := [] } w0 := by
 have HS : Hid (∀ z, Below w0.heap.size w0 z → (fun z : World => z.cell? ⟨b2, 0, none⟩ = some (.slice A.sa A.sn A.sc) ∧ z.cell? ⟨b2, 1, none⟩ = some (.slice A.na A.G A.nc) ∧ z.cell? ⟨b2, 2, none⟩ = some (.slice A.ma A.M A.mc) ∧ z.cell? ⟨b2, 3, none⟩ = some (.slice A.oa A.O A.oc) ∧ z.cell? ⟨b2, 4, none⟩ = some (.slice A.fa A.K A.fc) ∧ z.cell? ⟨b3, 0, none⟩ = some (.slice B.sa B.sn B.sc) ∧ z.cell? ⟨b3, 1, none⟩ = some (.slice B.na B.G B.nc) ∧ z.cell? ⟨b3, 2, none⟩ = some (.slice B.ma B.M B.mc) ∧ z.cell? ⟨b3, 3, none⟩ = some (.slice B.oa B.O B.oc) ∧ z.cell? ⟨b3, 4, none⟩ = some (.slice B.fa B.K B.fc)) z) := hid (fun z hz => ⟨(hboA.below hz).r0, (hboA.below hz).r1, (hboA.below hz).r2, (hboA.below hz).r3, (hboA.below hz).r4, (hboB.below hz).r0, (hboB.below hz).r1, (hboB.below hz).r2, (hboB.below hz).r3, (hboB.below hz).r4⟩)
 have C37 : Hid (∀ z, Below w0.heap.size w0 z → Calls Tryz.prog 31 #[.agg #[.slice A.sa A.sn A.sc, .slice A.na A.G A.nc, .slice A.ma A.M A.mc, .slice A.oa A.O A.oc, .slice A.fa A.K A.fc], .agg #[.slice B.sa B.sn B.sc, .slice B.na B.G B.nc, .slice B.ma B.M B.mc, .slice B.oa B.O B.oc, .slice B.fa B.K B.fc]] z fun e w' => e = .returned (.slice (some ⟨z.heap.size + 2, 0, none⟩) A.G A.G) ∧ Hid (Ls w' (z.heap.size + 2) A.G (fun x => pwS (a_okB A B) x B.G) ∧ Below z.heap.size z w' ∧ z.heap.size + 2 < w'.heap.size)) := hid (fun z hz => partners_any A B z (hA.below hz) (hB.below hz) hA0 hB0)
 have C38 : ∀ (D : Ax), Aw w0 D → chkA D = 0 → Hid (∀ z, Below w0.heap.size w0 z → Calls Tryz.prog 32 #[.slice D.na D.G D.nc] z fun e w' => e = .returned (.slice (some ⟨z.heap.size, 0, none⟩) D.G D.G) ∧ ∃ V, Hid (Rwt D z.heap.size V w' ∧ Below z.heap.size z w' ∧ z.heap.size < w'.heap.size)) := fun D hD hD0 => hid (fun z hz => by
  obtain ⟨hG, _, _, _, _, hZ, _⟩ := chkA_ok hD0
  refine (eachOnce_any D.na D.G D.nc D.L D.Z z hG (fun r hr => hD.l47 r hr) ((hD.below hz).next) (fun r hr i hi => by have := hZ r hr i hi; omega)).mono ?_
  rintro e w' ⟨rfl, V, hF⟩
  refine ⟨rfl, V, hid ⟨fun x hx => ⟨hF.top.cell hx, ?_⟩, hF.below, hF.size⟩⟩
  rw [aNx_is hx]
  exact owns_mono (hF.own x hx) (Nat.zero_le _))
 have CA := C38 A hA hA0
 have CB := C38 B hB hB0
 have HT := hid (And.intro hT (And.intro hA0 hB0))
 have HFIN := hid hfin
 have HQP := hid hQp
 clear hfin hA hB hA0 hB0 hT hboA hboB C38 hQp
 have K38910 : Hid (∀ (b8 b9 b10 wb nb mb : Nat) (V U : Nat → Value) (z : World), Q9 w0 A B wb nb mb V U 3 b8 b9 b10 true true true z → wpAnyG Tryz.prog .any (ops9 q0 q1 q2 q3 q4 q5 q6 q7 q8 q9 q10 q11 q12 q13 q14) Q (fun z : World => z.cell? ⟨b2, 0, none⟩ = some (.slice A.sa A.sn A.sc) ∧ z.cell? ⟨b2, 1, none⟩ = some (.slice A.na A.G A.nc) ∧ z.cell? ⟨b2, 2, none⟩ = some (.slice A.ma A.M A.mc) ∧ z.cell? ⟨b2, 3, none⟩ = some (.slice A.oa A.O A.oc) ∧ z.cell? ⟨b2, 4, none⟩ = some (.slice A.fa A.K A.fc) ∧ z.cell? ⟨b3, 0, none⟩ = some (.slice B.sa B.sn B.sc) ∧ z.cell? ⟨b3, 1, none⟩ = some (.slice B.na B.G B.nc) ∧ z.cell? ⟨b3, 2, none⟩ = some (.slice B.ma B.M B.mc) ∧ z.cell? ⟨b3, 3, none⟩ = some (.slice B.oa B.O B.oc) ∧ z.cell? ⟨b3, 4, none⟩ = some (.slice B.fa B.K B.fc)) (fun _ => false) 3 #[true, true, true, true, true, true, true, true, true, true, true, true, false, false, false] { tmps := #[t0, t1, (.pointer (some ⟨b2, 0, none⟩)), (.pointer (some ⟨b3, 0, none⟩)), t4, t5, t6, t7, (.pointer (some ⟨b8, 0, none⟩)), (.pointer (some ⟨b9, 0, none⟩)), (.pointer (some ⟨b10, 0, none⟩)), t11, t12, t13, t14, t15, t16, t17, t18, t19, t20, t21, t22, t23, t24, t25, t26, t27, t28, t29, t30, t31, t32, t33, t34, t35, t36, t37, t38, t39, t40, (.agg #[.slice A.sa A.sn A.sc, .slice A.na A.G A.nc, .slice A.ma A.M A.mc, .slice A.oa A.O A.oc, .slice A.fa A.K A.fc]), (.agg #[.slice B.sa B.sn B.sc, .slice B.na B.G B.nc, .slice B.ma B.M B.mc, .slice B.oa B.O B.oc, .slice B.fa B.K B.fc]), (.slice (some ⟨wb, 0, none⟩) A.G A.G), (.pointer (some ⟨b2, 1, none⟩)), (.slice A.na A.G A.nc), (.slice (some ⟨nb, 0, none⟩) A.G A.G), (.pointer (some ⟨b3, 1, none⟩)), (.slice B.na B.G B.nc), (.slice (some ⟨mb, 0, none⟩) B.G B.G), t50, t51, t52, t53, t54, t55, t56, t57, t58, t59, t60, t61, t62, t63, t64, t65, t66, t67, t68, t69, t70, t71, t72, t73, t74, t75, t76, t77, t78, t79, t80, t81, t82, t83, t84, t85, t86, t87, t88, t89, t90, t91, t92, t93, t94, t95, t96, t97, t98, t99, t100, t101, t102, t103, t104, t105, t106, t107, t108, t109, t110, t111, t112, t113, t114, t115, t116, t117, t118, t119, t120, t121, t122, t123, t124, t125, t126, t127, t128, t129, t130, t131, t132, t133, t134, t135, t136, t137, t138, t139, t140, t141, t142, t143, t144, t145], defers := [] } z) := hid (by
  intro b8 b9 b10 wb nb mb V U z hq
  obtain ⟨z1, z2, z3, e1, e2, e3, ⟨c1, f1⟩, ⟨c2, f2⟩, ⟨c3, f3⟩, l1, l2, l3, HB⟩ := q9_fin hq HT.out.1 HT.out.2.1 HT.out.2.2
  have HBB := hid (And.intro (hq.a8 rfl).2.1 (And.intro (hq.a9 rfl).2.1 (hq.a10 rfl).2.1))
  have L3 := hid l3
  have S1 := hid (HS.out z1 l1)
  have S2 := hid (HS.out z2 l2)
  have S3 := hid (HS.out z3 l3)
  clear hq l1 l2 l3
  refine G_step (i := 12) (o := { dst := none, op := Op.store 64 (Operand.tmp 8) (Operand.tmp 43), type := 0, pos := _, after := #[{ on := 9, ground := Ground.data }, { on := 2, ground := Ground.data }, { on := 8, ground := Ground.chain }, { on := 0, ground := Ground.phase }, { on := 1, ground := Ground.phase }, { on := 2, ground := Ground.phase }, { on := 3, ground := Ground.textOnly Departure.lateStores }, { on := 4, ground := Ground.textOnly Departure.lateStores }, { on := 5, ground := Ground.textOnly Departure.lateStoresUnsure }, { on := 6, ground := Ground.textOnly Departure.lateStores }, { on := 7, ground := Ground.textOnly Departure.lateStores }, { on := 8, ground := Ground.textOnly Departure.lateStoresUnsure }, { on := 9, ground := Ground.phase }, { on := 10, ground := Ground.phase }, { on := 11, ground := Ground.phase }], guard := none }) (by kernel_rfl) rfl (fun K' hK => ?_)
  go_simp
  (try rw [e1])
  refine hK.out _ _ (fun _ => S1.out) (fun _ => ?_)
  (try simp only [jq1, jq2, jq3])
  refine G_step (i := 13) (o := { dst := none, op := Op.store 30 (Operand.tmp 9) (Operand.tmp 46), type := 0, pos := _, after := #[{ on := 10, ground := Ground.data }, { on := 5, ground := Ground.data }, { on := 12, ground := Ground.chain }, { on := 0, ground := Ground.phase }, { on := 1, ground := Ground.phase }, { on := 2, ground := Ground.phase }, { on := 3, ground := Ground.phase }, { on := 4, ground := Ground.phase }, { on := 5, ground := Ground.phase }, { on := 6, ground := Ground.textOnly Departure.lateStores }, { on := 7, ground := Ground.textOnly Departure.lateStores }, { on := 8, ground := Ground.textOnly Departure.lateStoresUnsure }, { on := 9, ground := Ground.phase }, { on := 10, ground := Ground.phase }, { on := 11, ground := Ground.phase }, { on := 12, ground := Ground.phase }], guard := none }) (by kernel_rfl) rfl (fun K' hK => ?_)
  go_simp
  (try rw [e2])
  refine hK.out _ _ (fun _ => S2.out) (fun _ => ?_)
  (try simp only [jq1, jq2, jq3])
  refine G_step (i := 14) (o := { dst := none, op := Op.store 30 (Operand.tmp 10) (Operand.tmp 49), type := 0, pos := _, after := #[{ on := 11, ground := Ground.data }, { on := 8, ground := Ground.data }, { on := 13, ground := Ground.chain }, { on := 0, ground := Ground.phase }, { on := 1, ground := Ground.phase }, { on := 2, ground := Ground.phase }, { on := 3, ground := Ground.phase }, { on := 4, ground := Ground.phase }, { on := 5, ground := Ground.phase }, { on := 6, ground := Ground.phase }, { on := 7, ground := Ground.phase }, { on := 8, ground := Ground.phase }, { on := 9, ground := Ground.phase }, { on := 10, ground := Ground.phase }, { on := 11, ground := Ground.phase }, { on := 12, ground := Ground.phase }, { on := 13, ground := Ground.phase }], guard := none }) (by kernel_rfl) rfl (fun K' hK => ?_)
  go_simp
  (try rw [e3])
  refine hK.out _ _ (fun _ => S3.out) (fun _ => ?_)
  (try simp only [jq1, jq2, jq3])
  refine G_done (by kernel_rfl) ?_ _
  exact HFIN.out b8 b9 b10 wb nb mb V U z3 L3.out HB.out HBB.out)
 have K389 : Hid (∀ (b8 b9 b10 wb nb mb : Nat) (V U : Nat → Value) (z : World), Q9 w0 A B wb nb mb V U 3 b8 b9 b10 true true false z → wpAnyG Tryz.prog .any (ops9 q0 q1 q2 q3 q4 q5 q6 q7 q8 q9 q10 q11 q12 q13 q14) Q (fun z : World => z.cell? ⟨b2, 0, none⟩ = some (.slice A.sa A.sn A.sc) ∧ z.cell? ⟨b2, 1, none⟩ = some (.slice A.na A.G A.nc) ∧ z.cell? ⟨b2, 2, none⟩ = some (.slice A.ma A.M A.mc) ∧ z.cell? ⟨b2, 3, none⟩ = some (.slice A.oa A.O A.oc) ∧ z.cell? ⟨b2, 4, none⟩ = some (.slice A.fa A.K A.fc) ∧ z.cell? ⟨b3, 0, none⟩ = some (.slice B.sa B.sn B.sc) ∧ z.cell? ⟨b3, 1, none⟩ = some (.slice B.na B.G B.nc) ∧ z.cell? ⟨b3, 2, none⟩ = some (.slice B.ma B.M B.mc) ∧ z.cell? ⟨b3, 3, none⟩ = some (.slice B.oa B.O B.oc) ∧ z.cell? ⟨b3, 4, none⟩ = some (.slice B.fa B.K B.fc)) (fun _ => false) 4 #[true, true, true, true, true, true, true, true, true, true, true, false, false, false, false] { tmps := #[t0, t1, (.pointer (some ⟨b2, 0, none⟩)), (.pointer (some ⟨b3, 0, none⟩)), t4, t5, t6, t7, (.pointer (some ⟨b8, 0, none⟩)), (.pointer (some ⟨b9, 0, none⟩)), t10, t11, t12, t13, t14, t15, t16, t17, t18, t19, t20, t21, t22, t23, t24, t25, t26, t27, t28, t29, t30, t31, t32, t33, t34, t35, t36, t37, t38, t39, t40, (.agg #[.slice A.sa A.sn A.sc, .slice A.na A.G A.nc, .slice A.ma A.M A.mc, .slice A.oa A.O A.oc, .slice A.fa A.K A.fc]), (.agg #[.slice B.sa B.sn B.sc, .slice B.na B.G B.nc, .slice B.ma B.M B.mc, .slice B.oa B.O B.oc, .slice B.fa B.K B.fc]), (.slice (some ⟨wb, 0, none⟩) A.G A.G), (.pointer (some ⟨b2, 1, none⟩)), (.slice A.na A.G A.nc), (.slice (some ⟨nb, 0, none⟩) A.G A.G), (.pointer (some ⟨b3, 1, none⟩)), (.slice B.na B.G B.nc), (.slice (some ⟨mb, 0, none⟩) B.G B.G), t50, t51, t52, t53, t54, t55, t56, t57, t58, t59, t60, t61, t62, t63, t64, t65, t66, t67, t68, t69, t70, t71, t72, t73, t74, t75, t76, t77, t78, t79, t80, t81, t82, t83, t84, t85, t86, t87, t88, t89, t90, t91, t92, t93, t94, t95, t96, t97, t98, t99, t100, t101, t102, t103, t104, t105, t106, t107, t108, t109, t110, t111, t112, t113, t114, t115, t116, t117, t118, t119, t120, t121, t122, t123, t124, t125, t126, t127, t128, t129, t130, t131, t132, t133, t134, t135, t136, t137, t138, t139, t140, t141, t142, t143, t144, t145], defers := [] } z) := hid (by
  intro b8 b9 b10 wb nb mb V U z hq
  refine G_alt (l := [11]) (by kernel_rfl) (by decide) ?_
  intro i hi
  obtain rfl : i = 11 := by simpa using hi
  clear hi
  ·refine ⟨{ dst := some 10, op := Op.alloc 30, type := 0, pos := _, after := #[], guard := none }, rfl, fun K' hK => ?_⟩
   have hq1 := hq.n10
   have HQ := hid hq1
   clear hq hq1
   go_simp
   refine hK.out _ _ (fun _ => HS.out _ HQ.out.low) (fun _ => ?_)
   (try simp only [jq1, jq2, jq3])
   exact K38910.out b8 b9 z.heap.size wb nb mb V U _ HQ.out)
 have K3810 : Hid (∀ (b8 b9 b10 wb nb mb : Nat) (V U : Nat → Value) (z : World), Q9 w0 A B wb nb mb V U 3 b8 b9 b10 true false true z → wpAnyG Tryz.prog .any (ops9 q0 q1 q2 q3 q4 q5 q6 q7 q8 q9 q10 q11 q12 q13 q14) Q (fun z : World => z.cell? ⟨b2, 0, none⟩ = some (.slice A.sa A.sn A.sc) ∧ z.cell? ⟨b2, 1, none⟩ = some (.slice A.na A.G A.nc) ∧ z.cell? ⟨b2, 2, none⟩ = some (.slice A.ma A.M A.mc) ∧ z.cell? ⟨b2, 3, none⟩ = some (.slice A.oa A.O A.oc) ∧ z.cell? ⟨b2, 4, none⟩ = some (.slice A.fa A.K A.fc) ∧ z.cell? ⟨b3, 0, none⟩ = some (.slice B.sa B.sn B.sc) ∧ z.cell? ⟨b3, 1, none⟩ = some (.slice B.na B.G B.nc) ∧ z.cell? ⟨b3, 2, none⟩ = some (.slice B.ma B.M B.mc) ∧ z.cell? ⟨b3, 3, none⟩ = some (.slice B.oa B.O B.oc) ∧ z.cell? ⟨b3, 4, none⟩ = some (.slice B.fa B.K B.fc)) (fun _ => false) 4 #[true, true, true, true, true, true, true, true, true, true, false, true, false, false, false] { tmps := #[t0, t1, (.pointer (some ⟨b2, 0, none⟩)), (.pointer (some ⟨b3, 0, none⟩)), t4, t5, t6, t7, (.pointer (some ⟨b8, 0, none⟩)), t9, (.pointer (some ⟨b10, 0, none⟩)), t11, t12, t13, t14, t15, t16, t17, t18, t19, t20, t21, t22, t23, t24, t25, t26, t27, t28, t29, t30, t31, t32, t33, t34, t35, t36, t37, t38, t39, t40, (.agg #[.slice A.sa A.sn A.sc, .slice A.na A.G A.nc, .slice A.ma A.M A.mc, .slice A.oa A.O A.oc, .slice A.fa A.K A.fc]), (.agg #[.slice B.sa B.sn B.sc, .slice B.na B.G B.nc, .slice B.ma B.M B.mc, .slice B.oa B.O B.oc, .slice B.fa B.K B.fc]), (.slice (some ⟨wb, 0, none⟩) A.G A.G), (.pointer (some ⟨b2, 1, none⟩)), (.slice A.na A.G A.nc), (.slice (some ⟨nb, 0, none⟩) A.G A.G), (.pointer (some ⟨b3, 1, none⟩)), (.slice B.na B.G B.nc), (.slice (some ⟨mb, 0, none⟩) B.G B.G), t50, t51, t52, t53, t54, t55, t56, t57, t58, t59, t60, t61, t62, t63, t64, t65, t66, t67, t68, t69, t70, t71, t72, t73, t74, t75, t76, t77, t78, t79, t80, t81, t82, t83, t84, t85, t86, t87, t88, t89, t90, t91, t92, t93, t94, t95, t96, t97, t98, t99, t100, t101, t102, t103, t104, t105, t106, t107, t108, t109, t110, t111, t112, t113, t114, t115, t116, t117, t118, t119, t120, t121, t122, t123, t124, t125, t126, t127, t128, t129, t130, t131, t132, t133, t134, t135, t136, t137, t138, t139, t140, t141, t142, t143, t144, t145], defers := [] } z) := hid (by
  intro b8 b9 b10 wb nb mb V U z hq
  refine G_alt (l := [10]) (by kernel_rfl) (by decide) ?_
  intro i hi
  obtain rfl : i = 10 := by simpa using hi
  clear hi
  ·refine ⟨{ dst := some 9, op := Op.alloc 30, type := 0, pos := _, after := #[], guard := none }, rfl, fun K' hK => ?_⟩
   have hq1 := hq.n9
   have HQ := hid hq1
   clear hq hq1
   go_simp
   refine hK.out _ _ (fun _ => HS.out _ HQ.out.low) (fun _ => ?_)
   (try simp only [jq1, jq2, jq3])
   exact K38910.out b8 z.heap.size b10 wb nb mb V U _ HQ.out)
 have K3910 : Hid (∀ (b8 b9 b10 wb nb mb : Nat) (V U : Nat → Value) (z : World), Q9 w0 A B wb nb mb V U 3 b8 b9 b10 false true true z → wpAnyG Tryz.prog .any (ops9 q0 q1 q2 q3 q4 q5 q6 q7 q8 q9 q10 q11 q12 q13 q14) Q (fun z : World => z.cell? ⟨b2, 0, none⟩ = some (.slice A.sa A.sn A.sc) ∧ z.cell? ⟨b2, 1, none⟩ = some (.slice A.na A.G A.nc) ∧ z.cell? ⟨b2, 2, none⟩ = some (.slice A.ma A.M A.mc) ∧ z.cell? ⟨b2, 3, none⟩ = some (.slice A.oa A.O A.oc) ∧ z.cell? ⟨b2, 4, none⟩ = some (.slice A.fa A.K A.fc) ∧ z.cell? ⟨b3, 0, none⟩ = some (.slice B.sa B.sn B.sc) ∧ z.cell? ⟨b3, 1, none⟩ = some (.slice B.na B.G B.nc) ∧ z.cell? ⟨b3, 2, none⟩ = some (.slice B.ma B.M B.mc) ∧ z.cell? ⟨b3, 3, none⟩ = some (.slice B.oa B.O B.oc) ∧ z.cell? ⟨b3, 4, none⟩ = some (.slice B.fa B.K B.fc)) (fun _ => false) 4 #[true, true, true, true, true, true, true, true, true, false, true, true, false, false, false] { tmps := #[t0, t1, (.pointer (some ⟨b2, 0, none⟩)), (.pointer (some ⟨b3, 0, none⟩)), t4, t5, t6, t7, t8, (.pointer (some ⟨b9, 0, none⟩)), (.pointer (some ⟨b10, 0, none⟩)), t11, t12, t13, t14, t15, t16, t17, t18, t19, t20, t21, t22, t23, t24, t25, t26, t27, t28, t29, t30, t31, t32, t33, t34, t35, t36, t37, t38, t39, t40, (.agg #[.slice A.sa A.sn A.sc, .slice A.na A.G A.nc, .slice A.ma A.M A.mc, .slice A.oa A.O A.oc, .slice A.fa A.K A.fc]), (.agg #[.slice B.sa B.sn B.sc, .slice B.na B.G B.nc, .slice B.ma B.M B.mc, .slice B.oa B.O B.oc, .slice B.fa B.K B.fc]), (.slice (some ⟨wb, 0, none⟩) A.G A.G), (.pointer (some ⟨b2, 1, none⟩)), (.slice A.na A.G A.nc), (.slice (some ⟨nb, 0, none⟩) A.G A.G), (.pointer (some ⟨b3, 1, none⟩)), (.slice B.na B.G B.nc), (.slice (some ⟨mb, 0, none⟩) B.G B.G), t50, t51, t52, t53, t54, t55, t56, t57, t58, t59, t60, t61, t62, t63, t64, t65, t66, t67, t68, t69, t70, t71, t72, t73, t74, t75, t76, t77, t78, t79, t80, t81, t82, t83, t84, t85, t86, t87, t88, t89, t90, t91, t92, t93, t94, t95, t96, t97, t98, t99, t100, t101, t102, t103, t104, t105, t106, t107, t108, t109, t110, t111, t112, t113, t114, t115, t116, t117, t118, t119, t120, t121, t122, t123, t124, t125, t126, t127, t128, t129, t130, t131, t132, t133, t134, t135, t136, t137, t138, t139, t140, t141, t142, t143, t144, t145], defers := [] } z) := hid (by
  intro b8 b9 b10 wb nb mb V U z hq
  refine G_alt (l := [9]) (by kernel_rfl) (by decide) ?_
  intro i hi
  obtain rfl : i = 9 := by simpa using hi
  clear hi
  ·refine ⟨{ dst := some 8, op := Op.alloc 64, type := 0, pos := _, after := #[], guard := none }, rfl, fun K' hK => ?_⟩
   have hq1 := hq.n8
   have HQ := hid hq1
   clear hq hq1
   go_simp
   refine hK.out _ _ (fun _ => HS.out _ HQ.out.low) (fun _ => ?_)
   (try simp only [jq1, jq2, jq3])
   exact K38910.out z.heap.size b9 b10 wb nb mb V U _ HQ.out)
 have K38 : Hid (∀ (b8 b9 b10 wb nb mb : Nat) (V U : Nat → Value) (z : World), Q9 w0 A B wb nb mb V U 3 b8 b9 b10 true false false z → wpAnyG Tryz.prog .any (ops9 q0 q1 q2 q3 q4 q5 q6 q7 q8 q9 q10 q11 q12 q13 q14) Q (fun z : World => z.cell? ⟨b2, 0, none⟩ = some (.slice A.sa A.sn A.sc) ∧ z.cell? ⟨b2, 1, none⟩ = some (.slice A.na A.G A.nc) ∧ z.cell? ⟨b2, 2, none⟩ = some (.slice A.ma A.M A.mc) ∧ z.cell? ⟨b2, 3, none⟩ = some (.slice A.oa A.O A.oc) ∧ z.cell? ⟨b2, 4, none⟩ = some (.slice A.fa A.K A.fc) ∧ z.cell? ⟨b3, 0, none⟩ = some (.slice B.sa B.sn B.sc) ∧ z.cell? ⟨b3, 1, none⟩ = some (.slice B.na B.G B.nc) ∧ z.cell? ⟨b3, 2, none⟩ = some (.slice B.ma B.M B.mc) ∧ z.cell? ⟨b3, 3, none⟩ = some (.slice B.oa B.O B.oc) ∧ z.cell? ⟨b3, 4, none⟩ = some (.slice B.fa B.K B.fc)) (fun _ => false) 5 #[true, true, true, true, true, true, true, true, true, true, false, false, false, false, false] { tmps := #[t0, t1, (.pointer (some ⟨b2, 0, none⟩)), (.pointer (some ⟨b3, 0, none⟩)), t4, t5, t6, t7, (.pointer (some ⟨b8, 0, none⟩)), t9, t10, t11, t12, t13, t14, t15, t16, t17, t18, t19, t20, t21, t22, t23, t24, t25, t26, t27, t28, t29, t30, t31, t32, t33, t34, t35, t36, t37, t38, t39, t40, (.agg #[.slice A.sa A.sn A.sc, .slice A.na A.G A.nc, .slice A.ma A.M A.mc, .slice A.oa A.O A.oc, .slice A.fa A.K A.fc]), (.agg #[.slice B.sa B.sn B.sc, .slice B.na B.G B.nc, .slice B.ma B.M B.mc, .slice B.oa B.O B.oc, .slice B.fa B.K B.fc]), (.slice (some ⟨wb, 0, none⟩) A.G A.G), (.pointer (some ⟨b2, 1, none⟩)), (.slice A.na A.G A.nc), (.slice (some ⟨nb, 0, none⟩) A.G A.G), (.pointer (some ⟨b3, 1, none⟩)), (.slice B.na B.G B.nc), (.slice (some ⟨mb, 0, none⟩) B.G B.G), t50, t51, t52, t53, t54, t55, t56, t57, t58, t59, t60, t61, t62, t63, t64, t65, t66, t67, t68, t69, t70, t71, t72, t73, t74, t75, t76, t77, t78, t79, t80, t81, t82, t83, t84, t85, t86, t87, t88, t89, t90, t91, t92, t93, t94, t95, t96, t97, t98, t99, t100, t101, t102, t103, t104, t105, t106, t107, t108, t109, t110, t111, t112, t113, t114, t115, t116, t117, t118, t119, t120, t121, t122, t123, t124, t125, t126, t127, t128, t129, t130, t131, t132, t133, t134, t135, t136, t137, t138, t139, t140, t141, t142, t143, t144, t145], defers := [] } z) := hid (by
  intro b8 b9 b10 wb nb mb V U z hq
  refine G_alt (l := [10, 11]) (by kernel_rfl) (by decide) ?_
  intro i hi
  have hi2 : i = 10 ∨ i = 11 := by simpa using hi
  clear hi
  rcases hi2 with rfl | rfl
  ·refine ⟨{ dst := some 9, op := Op.alloc 30, type := 0, pos := _, after := #[], guard := none }, rfl, fun K' hK => ?_⟩
   have hq1 := hq.n9
   have HQ := hid hq1
   clear hq hq1
   go_simp
   refine hK.out _ _ (fun _ => HS.out _ HQ.out.low) (fun _ => ?_)
   (try simp only [jq1, jq2, jq3])
   exact K389.out b8 z.heap.size b10 wb nb mb V U _ HQ.out
  ·refine ⟨{ dst := some 10, op := Op.alloc 30, type := 0, pos := _, after := #[], guard := none }, rfl, fun K' hK => ?_⟩
   have hq1 := hq.n10
   have HQ := hid hq1
   clear hq hq1
   go_simp
   refine hK.out _ _ (fun _ => HS.out _ HQ.out.low) (fun _ => ?_)
   (try simp only [jq1, jq2, jq3])
   exact K3810.out b8 b9 z.heap.size wb nb mb V U _ HQ.out)
 have K39 : Hid (∀ (b8 b9 b10 wb nb mb : Nat) (V U : Nat → Value) (z : World), Q9 w0 A B wb nb mb V U 3 b8 b9 b10 false true false z → wpAnyG Tryz.prog .any (ops9 q0 q1 q2 q3 q4 q5 q6 q7 q8 q9 q10 q11 q12 q13 q14) Q (fun z : World => z.cell? ⟨b2, 0, none⟩ = some (.slice A.sa A.sn A.sc) ∧ z.cell? ⟨b2, 1, none⟩ = some (.slice A.na A.G A.nc) ∧ z.cell? ⟨b2, 2, none⟩ = some (.slice A.ma A.M A.mc) ∧ z.cell? ⟨b2, 3, none⟩ = some (.slice A.oa A.O A.oc) ∧ z.cell? ⟨b2, 4, none⟩ = some (.slice A.fa A.K A.fc) ∧ z.cell? ⟨b3, 0, none⟩ = some (.slice B.sa B.sn B.sc) ∧ z.cell? ⟨b3, 1, none⟩ = some (.slice B.na B.G B.nc) ∧ z.cell? ⟨b3, 2, none⟩ = some (.slice B.ma B.M B.mc) ∧ z.cell? ⟨b3, 3, none⟩ = some (.slice B.oa B.O B.oc) ∧ z.cell? ⟨b3, 4, none⟩ = some (.slice B.fa B.K B.fc)) (fun _ => false) 5 #[true, true, true, true, true, true, true, true, true, false, true, false, false, false, false] { tmps := #[t0, t1, (.pointer (some ⟨b2, 0, none⟩)), (.pointer (some ⟨b3, 0, none⟩)), t4, t5, t6, t7, t8, (.pointer (some ⟨b9, 0, none⟩)), t10, t11, t12, t13, t14, t15, t16, t17, t18, t19, t20, t21, t22, t23, t24, t25, t26, t27, t28, t29, t30, t31, t32, t33, t34, t35, t36, t37, t38, t39, t40, (.agg #[.slice A.sa A.sn A.sc, .slice A.na A.G A.nc, .slice A.ma A.M A.mc, .slice A.oa A.O A.oc, .slice A.fa A.K A.fc]), (.agg #[.slice B.sa B.sn B.sc, .slice B.na B.G B.nc, .slice B.ma B.M B.mc, .slice B.oa B.O B.oc, .slice B.fa B.K B.fc]), (.slice (some ⟨wb, 0, none⟩) A.G A.G), (.pointer (some ⟨b2, 1, none⟩)), (.slice A.na A.G A.nc), (.slice (some ⟨nb, 0, none⟩) A.G A.G), (.pointer (some ⟨b3, 1, none⟩)), (.slice B.na B.G B.nc), (.slice (some ⟨mb, 0, none⟩) B.G B.G), t50, t51, t52, t53, t54, t55, t56, t57, t58, t59, t60, t61, t62, t63, t64, t65, t66, t67, t68, t69, t70, t71, t72, t73, t74, t75, t76, t77, t78, t79, t80, t81, t82, t83, t84, t85, t86, t87, t88, t89, t90, t91, t92, t93, t94, t95, t96, t97, t98, t99, t100, t101, t102, t103, t104, t105, t106, t107, t108, t109, t110, t111, t112, t113, t114, t115, t116, t117, t118, t119, t120, t121, t122, t123, t124, t125, t126, t127, t128, t129, t130, t131, t132, t133, t134, t135, t136, t137, t138, t139, t140, t141, t142, t143, t144, t145], defers := [] } z) := hid (by
  intro b8 b9 b10 wb nb mb V U z hq
  refine G_alt (l := [9, 11]) (by kernel_rfl) (by decide) ?_
  intro i hi
  have hi2 : i = 9 ∨ i = 11 := by simpa using hi
  clear hi
  rcases hi2 with rfl | rfl
  ·refine ⟨{ dst := some 8, op := Op.alloc 64, type := 0, pos := _, after := #[], guard := none }, rfl, fun K' hK => ?_⟩
   have hq1 := hq.n8
   have HQ := hid hq1
   clear hq hq1
   go_simp
   refine hK.out _ _ (fun _ => HS.out _ HQ.out.low) (fun _ => ?_)
   (try simp only [jq1, jq2, jq3])
   exact K389.out z.heap.size b9 b10 wb nb mb V U _ HQ.out
  ·refine ⟨{ dst := some 10, op := Op.alloc 30, type := 0, pos := _, after := #[], guard := none }, rfl, fun K' hK => ?_⟩
   have hq1 := hq.n10
   have HQ := hid hq1
   clear hq hq1
   go_simp
   refine hK.out _ _ (fun _ => HS.out _ HQ.out.low) (fun _ => ?_)
   (try simp only [jq1, jq2, jq3])
   exact K3910.out b8 b9 z.heap.size wb nb mb V U _ HQ.out)
 have K310 : Hid (∀ (b8 b9 b10 wb nb mb : Nat) (V U : Nat → Value) (z : World), Q9 w0 A B wb nb mb V U 3 b8 b9 b10 false false true z → wpAnyG Tryz.prog .any (ops9 q0 q1 q2 q3 q4 q5 q6 q7 q8 q9 q10 q11 q12 q13 q14) Q (fun z : World => z.cell? ⟨b2, 0, none⟩ = some (.slice A.sa A.sn A.sc) ∧ z.cell? ⟨b2, 1, none⟩ = some (.slice A.na A.G A.nc) ∧ z.cell? ⟨b2, 2, none⟩ = some (.slice A.ma A.M A.mc) ∧ z.cell? ⟨b2, 3, none⟩ = some (.slice A.oa A.O A.oc) ∧ z.cell? ⟨b2, 4, none⟩ = some (.slice A.fa A.K A.fc) ∧ z.cell? ⟨b3, 0, none⟩ = some (.slice B.sa B.sn B.sc) ∧ z.cell? ⟨b3, 1, none⟩ = some (.slice B.na B.G B.nc) ∧ z.cell? ⟨b3, 2, none⟩ = some (.slice B.ma B.M B.mc) ∧ z.cell? ⟨b3, 3, none⟩ = some (.slice B.oa B.O B.oc) ∧ z.cell? ⟨b3, 4, none⟩ = some (.slice B.fa B.K B.fc)) (fun _ => false) 5 #[true, true, true, true, true, true, true, true, true, false, false, true, false, false, false] { tmps := #[t0, t1, (.pointer (some ⟨b2, 0, none⟩)), (.pointer (some ⟨b3, 0, none⟩)), t4, t5, t6, t7, t8, t9, (.pointer (some ⟨b10, 0, none⟩)), t11, t12, t13, t14, t15, t16, t17, t18, t19, t20, t21, t22, t23, t24, t25, t26, t27, t28, t29, t30, t31, t32, t33, t34, t35, t36, t37, t38, t39, t40, (.agg #[.slice A.sa A.sn A.sc, .slice A.na A.G A.nc, .slice A.ma A.M A.mc, .slice A.oa A.O A.oc, .slice A.fa A.K A.fc]), (.agg #[.slice B.sa B.sn B.sc, .slice B.na B.G B.nc, .slice B.ma B.M B.mc, .slice B.oa B.O B.oc, .slice B.fa B.K B.fc]), (.slice (some ⟨wb, 0, none⟩) A.G A.G), (.pointer (some ⟨b2, 1, none⟩)), (.slice A.na A.G A.nc), (.slice (some ⟨nb, 0, none⟩) A.G A.G), (.pointer (some ⟨b3, 1, none⟩)), (.slice B.na B.G B.nc), (.slice (some ⟨mb, 0, none⟩) B.G B.G), t50, t51, t52, t53, t54, t55, t56, t57, t58, t59, t60, t61, t62, t63, t64, t65, t66, t67, t68, t69, t70, t71, t72, t73, t74, t75, t76, t77, t78, t79, t80, t81, t82, t83, t84, t85, t86, t87, t88, t89, t90, t91, t92, t93, t94, t95, t96, t97, t98, t99, t100, t101, t102, t103, t104, t105, t106, t107, t108, t109, t110, t111, t112, t113, t114, t115, t116, t117, t118, t119, t120, t121, t122, t123, t124, t125, t126, t127, t128, t129, t130, t131, t132, t133, t134, t135, t136, t137, t138, t139, t140, t141, t142, t143, t144, t145], defers := [] } z) := hid (by
  intro b8 b9 b10 wb nb mb V U z hq
  refine G_alt (l := [9, 10]) (by kernel_rfl) (by decide) ?_
  intro i hi
  have hi2 : i = 9 ∨ i = 10 := by simpa using hi
  clear hi
  rcases hi2 with rfl | rfl
  ·refine ⟨{ dst := some 8, op := Op.alloc 64, type := 0, pos := _, after := #[], guard := none }, rfl, fun K' hK => ?_⟩
   have hq1 := hq.n8
   have HQ := hid hq1
   clear hq hq1
   go_simp
   refine hK.out _ _ (fun _ => HS.out _ HQ.out.low) (fun _ => ?_)
   (try simp only [jq1, jq2, jq3])
   exact K3810.out z.heap.size b9 b10 wb nb mb V U _ HQ.out
  ·refine ⟨{ dst := some 9, op := Op.alloc 30, type := 0, pos := _, after := #[], guard := none }, rfl, fun K' hK => ?_⟩
   have hq1 := hq.n9
   have HQ := hid hq1
   clear hq hq1
   go_simp
   refine hK.out _ _ (fun _ => HS.out _ HQ.out.low) (fun _ => ?_)
   (try simp only [jq1, jq2, jq3])
   exact K3910.out b8 z.heap.size b10 wb nb mb V U _ HQ.out)
 have K3 : Hid (∀ (b8 b9 b10 wb nb mb : Nat) (V U : Nat → Value) (z : World), Q9 w0 A B wb nb mb V U 3 b8 b9 b10 false false false z → wpAnyG Tryz.prog .any (ops9 q0 q1 q2 q3 q4 q5 q6 q7 q8 q9 q10 q11 q12 q13 q14) Q (fun z : World => z.cell? ⟨b2, 0, none⟩ = some (.slice A.sa A.sn A.sc) ∧ z.cell? ⟨b2, 1, none⟩ = some (.slice A.na A.G A.nc) ∧ z.cell? ⟨b2, 2, none⟩ = some (.slice A.ma A.M A.mc) ∧ z.cell? ⟨b2, 3, none⟩ = some (.slice A.oa A.O A.oc) ∧ z.cell? ⟨b2, 4, none⟩ = some (.slice A.fa A.K A.fc) ∧ z.cell? ⟨b3, 0, none⟩ = some (.slice B.sa B.sn B.sc) ∧ z.cell? ⟨b3, 1, none⟩ = some (.slice B.na B.G B.nc) ∧ z.cell? ⟨b3, 2, none⟩ = some (.slice B.ma B.M B.mc) ∧ z.cell? ⟨b3, 3, none⟩ = some (.slice B.oa B.O B.oc) ∧ z.cell? ⟨b3, 4, none⟩ = some (.slice B.fa B.K B.fc)) (fun _ => false) 6 #[true, true, true, true, true, true, true, true, true, false, false, false, false, false, false] { tmps := #[t0, t1, (.pointer (some ⟨b2, 0, none⟩)), (.pointer (some ⟨b3, 0, none⟩)), t4, t5, t6, t7, t8, t9, t10, t11, t12, t13, t14, t15, t16, t17, t18, t19, t20, t21, t22, t23, t24, t25, t26, t27, t28, t29, t30, t31, t32, t33, t34, t35, t36, t37, t38, t39, t40, (.agg #[.slice A.sa A.sn A.sc, .slice A.na A.G A.nc, .slice A.ma A.M A.mc, .slice A.oa A.O A.oc, .slice A.fa A.K A.fc]), (.agg #[.slice B.sa B.sn B.sc, .slice B.na B.G B.nc, .slice B.ma B.M B.mc, .slice B.oa B.O B.oc, .slice B.fa B.K B.fc]), (.slice (some ⟨wb, 0, none⟩) A.G A.G), (.pointer (some ⟨b2, 1, none⟩)), (.slice A.na A.G A.nc), (.slice (some ⟨nb, 0, none⟩) A.G A.G), (.pointer (some ⟨b3, 1, none⟩)), (.slice B.na B.G B.nc), (.slice (some ⟨mb, 0, none⟩) B.G B.G), t50, t51, t52, t53, t54, t55, t56, t57, t58, t59, t60, t61, t62, t63, t64, t65, t66, t67, t68, t69, t70, t71, t72, t73, t74, t75, t76, t77, t78, t79, t80, t81, t82, t83, t84, t85, t86, t87, t88, t89, t90, t91, t92, t93, t94, t95, t96, t97, t98, t99, t100, t101, t102, t103, t104, t105, t106, t107, t108, t109, t110, t111, t112, t113, t114, t115, t116, t117, t118, t119, t120, t121, t122, t123, t124, t125, t126, t127, t128, t129, t130, t131, t132, t133, t134, t135, t136, t137, t138, t139, t140, t141, t142, t143, t144, t145], defers := [] } z) := hid (by
  intro b8 b9 b10 wb nb mb V U z hq
  refine G_alt (l := [9, 10, 11]) (by kernel_rfl) (by decide) ?_
  intro i hi
  have hi2 : i = 9 ∨ i = 10 ∨ i = 11 := by simpa using hi
  clear hi
  rcases hi2 with rfl | rfl | rfl
  ·refine ⟨{ dst := some 8, op := Op.alloc 64, type := 0, pos := _, after := #[], guard := none }, rfl, fun K' hK => ?_⟩
   have hq1 := hq.n8
   have HQ := hid hq1
   clear hq hq1
   go_simp
   refine hK.out _ _ (fun _ => HS.out _ HQ.out.low) (fun _ => ?_)
   (try simp only [jq1, jq2, jq3])
   exact K38.out z.heap.size b9 b10 wb nb mb V U _ HQ.out
  ·refine ⟨{ dst := some 9, op := Op.alloc 30, type := 0, pos := _, after := #[], guard := none }, rfl, fun K' hK => ?_⟩
   have hq1 := hq.n9
   have HQ := hid hq1
   clear hq hq1
   go_simp
   refine hK.out _ _ (fun _ => HS.out _ HQ.out.low) (fun _ => ?_)
   (try simp only [jq1, jq2, jq3])
   exact K39.out b8 z.heap.size b10 wb nb mb V U _ HQ.out
  ·refine ⟨{ dst := some 10, op := Op.alloc 30, type := 0, pos := _, after := #[], guard := none }, rfl, fun K' hK => ?_⟩
   have hq1 := hq.n10
   have HQ := hid hq1
   clear hq hq1
   go_simp
   refine hK.out _ _ (fun _ => HS.out _ HQ.out.low) (fun _ => ?_)
   (try simp only [jq1, jq2, jq3])
   exact K310.out b8 b9 z.heap.size wb nb mb V U _ HQ.out)
 have K28910 : Hid (∀ (b8 b9 b10 wb nb mb : Nat) (V U : Nat → Value) (z : World), Q9 w0 A B wb nb mb V U 2 b8 b9 b10 true true true z → wpAnyG Tryz.prog .any (ops9 q0 q1 q2 q3 q4 q5 q6 q7 q8 q9 q10 q11 q12 q13 q14) Q (fun z : World => z.cell? ⟨b2, 0, none⟩ = some (.slice A.sa A.sn A.sc) ∧ z.cell? ⟨b2, 1, none⟩ = some (.slice A.na A.G A.nc) ∧ z.cell? ⟨b2, 2, none⟩ = some (.slice A.ma A.M A.mc) ∧ z.cell? ⟨b2, 3, none⟩ = some (.slice A.oa A.O A.oc) ∧ z.cell? ⟨b2, 4, none⟩ = some (.slice A.fa A.K A.fc) ∧ z.cell? ⟨b3, 0, none⟩ = some (.slice B.sa B.sn B.sc) ∧ z.cell? ⟨b3, 1, none⟩ = some (.slice B.na B.G B.nc) ∧ z.cell? ⟨b3, 2, none⟩ = some (.slice B.ma B.M B.mc) ∧ z.cell? ⟨b3, 3, none⟩ = some (.slice B.oa B.O B.oc) ∧ z.cell? ⟨b3, 4, none⟩ = some (.slice B.fa B.K B.fc)) (fun _ => false) 4 #[true, true, true, true, true, true, true, true, false, true, true, true, false, false, false] { tmps := #[t0, t1, (.pointer (some ⟨b2, 0, none⟩)), (.pointer (some ⟨b3, 0, none⟩)), t4, t5, t6, t7, (.pointer (some ⟨b8, 0, none⟩)), (.pointer (some ⟨b9, 0, none⟩)), (.pointer (some ⟨b10, 0, none⟩)), t11, t12, t13, t14, t15, t16, t17, t18, t19, t20, t21, t22, t23, t24, t25, t26, t27, t28, t29, t30, t31, t32, t33, t34, t35, t36, t37, t38, t39, t40, (.agg #[.slice A.sa A.sn A.sc, .slice A.na A.G A.nc, .slice A.ma A.M A.mc, .slice A.oa A.O A.oc, .slice A.fa A.K A.fc]), (.agg #[.slice B.sa B.sn B.sc, .slice B.na B.G B.nc, .slice B.ma B.M B.mc, .slice B.oa B.O B.oc, .slice B.fa B.K B.fc]), (.slice (some ⟨wb, 0, none⟩) A.G A.G), (.pointer (some ⟨b2, 1, none⟩)), (.slice A.na A.G A.nc), (.slice (some ⟨nb, 0, none⟩) A.G A.G), (.pointer (some ⟨b3, 1, none⟩)), (.slice B.na B.G B.nc), t49, t50, t51, t52, t53, t54, t55, t56, t57, t58, t59, t60, t61, t62, t63, t64, t65, t66, t67, t68, t69, t70, t71, t72, t73, t74, t75, t76, t77, t78, t79, t80, t81, t82, t83, t84, t85, t86, t87, t88, t89, t90, t91, t92, t93, t94, t95, t96, t97, t98, t99, t100, t101, t102, t103, t104, t105, t106, t107, t108, t109, t110, t111, t112, t113, t114, t115, t116, t117, t118, t119, t120, t121, t122, t123, t124, t125, t126, t127, t128, t129, t130, t131, t132, t133, t134, t135, t136, t137, t138, t139, t140, t141, t142, t143, t144, t145], defers := [] } z) := hid (by
  intro b8 b9 b10 wb nb mb V U z hq
  refine G_alt (l := [8]) (by kernel_rfl) (by decide) ?_
  intro i hi
  obtain rfl : i = 8 := by simpa using hi
  clear hi
  ·refine ⟨{ dst := some 49, op := Op.call { callee := Callee.value (Operand.func 32), args := #[Operand.tmp 48], argTypes := #[30] }, type := 30, pos := _, after := #[{ on := 7, ground := Ground.data }, { on := 5, ground := Ground.chain }], guard := none }, rfl, fun K' hK => ?_⟩
   have hz := hq.low
   have HQ := hid hq
   clear hq
   go_simp
   refine (CB.out z hz).mono ?_
   rintro e z1 ⟨rfl, U1, H1⟩
   dsimp only
   have hq1 := HQ.out.c3 H1.out.2.1 H1.out.1 jq0 H1.out.2.2
   refine hK.out _ _ (fun _ => HS.out _ hq1.low) (fun _ => ?_)
   (try simp only [jq1, jq2, jq3])
   exact K38910.out b8 b9 b10 wb nb z.heap.size V U1 z1 hq1)
 have K289 : Hid (∀ (b8 b9 b10 wb nb mb : Nat) (V U : Nat → Value) (z : World), Q9 w0 A B wb nb mb V U 2 b8 b9 b10 true true false z → wpAnyG Tryz.prog .any (ops9 q0 q1 q2 q3 q4 q5 q6 q7 q8 q9 q10 q11 q12 q13 q14) Q (fun z : World => z.cell? ⟨b2, 0, none⟩ = some (.slice A.sa A.sn A.sc) ∧ z.cell? ⟨b2, 1, none⟩ = some (.slice A.na A.G A.nc) ∧ z.cell? ⟨b2, 2, none⟩ = some (.slice A.ma A.M A.mc) ∧ z.cell? ⟨b2, 3, none⟩ = some (.slice A.oa A.O A.oc) ∧ z.cell? ⟨b2, 4, none⟩ = some (.slice A.fa A.K A.fc) ∧ z.cell? ⟨b3, 0, none⟩ = some (.slice B.sa B.sn B.sc) ∧ z.cell? ⟨b3, 1, none⟩ = some (.slice B.na B.G B.nc) ∧ z.cell? ⟨b3, 2, none⟩ = some (.slice B.ma B.M B.mc) ∧ z.cell? ⟨b3, 3, none⟩ = some (.slice B.oa B.O B.oc) ∧ z.cell? ⟨b3, 4, none⟩ = some (.slice B.fa B.K B.fc)) (fun _ => false) 5 #[true, true, true, true, true, true, true, true, false, true, true, false, false, false, false] { tmps := #[t0, t1, (.pointer (some ⟨b2, 0, none⟩)), (.pointer (some ⟨b3, 0, none⟩)), t4, t5, t6, t7, (.pointer (some ⟨b8, 0, none⟩)), (.pointer (some ⟨b9, 0, none⟩)), t10, t11, t12, t13, t14, t15, t16, t17, t18, t19, t20, t21, t22, t23, t24, t25, t26, t27, t28, t29, t30, t31, t32, t33, t34, t35, t36, t37, t38, t39, t40, (.agg #[.slice A.sa A.sn A.sc, .slice A.na A.G A.nc, .slice A.ma A.M A.mc, .slice A.oa A.O A.oc, .slice A.fa A.K A.fc]), (.agg #[.slice B.sa B.sn B.sc, .slice B.na B.G B.nc, .slice B.ma B.M B.mc, .slice B.oa B.O B.oc, .slice B.fa B.K B.fc]), (.slice (some ⟨wb, 0, none⟩) A.G A.G), (.pointer (some ⟨b2, 1, none⟩)), (.slice A.na A.G A.nc), (.slice (some ⟨nb, 0, none⟩) A.G A.G), (.pointer (some ⟨b3, 1, none⟩)), (.slice B.na B.G B.nc), t49, t50, t51, t52, t53, t54, t55, t56, t57, t58, t59, t60, t61, t62, t63, t64, t65, t66, t67, t68, t69, t70, t71, t72, t73, t74, t75, t76, t77, t78, t79, t80, t81, t82, t83, t84, t85, t86, t87, t88, t89, t90, t91, t92, t93, t94, t95, t96, t97, t98, t99, t100, t101, t102, t103, t104, t105, t106, t107, t108, t109, t110, t111, t112, t113, t114, t115, t116, t117, t118, t119, t120, t121, t122, t123, t124, t125, t126, t127, t128, t129, t130, t131, t132, t133, t134, t135, t136, t137, t138, t139, t140, t141, t142, t143, t144, t145], defers := [] } z) := hid (by
  intro b8 b9 b10 wb nb mb V U z hq
  refine G_alt (l := [8, 11]) (by kernel_rfl) (by decide) ?_
  intro i hi
  have hi2 : i = 8 ∨ i = 11 := by simpa using hi
  clear hi
  rcases hi2 with rfl | rfl
  ·refine ⟨{ dst := some 49, op := Op.call { callee := Callee.value (Operand.func 32), args := #[Operand.tmp 48], argTypes := #[30] }, type := 30, pos := _, after := #[{ on := 7, ground := Ground.data }, { on := 5, ground := Ground.chain }], guard := none }, rfl, fun K' hK => ?_⟩
   have hz := hq.low
   have HQ := hid hq
   clear hq
   go_simp
   refine (CB.out z hz).mono ?_
   rintro e z1 ⟨rfl, U1, H1⟩
   dsimp only
   have hq1 := HQ.out.c3 H1.out.2.1 H1.out.1 jq0 H1.out.2.2
   refine hK.out _ _ (fun _ => HS.out _ hq1.low) (fun _ => ?_)
   (try simp only [jq1, jq2, jq3])
   exact K389.out b8 b9 b10 wb nb z.heap.size V U1 z1 hq1
  ·refine ⟨{ dst := some 10, op := Op.alloc 30, type := 0, pos := _, after := #[], guard := none }, rfl, fun K' hK => ?_⟩
   have hq1 := hq.n10
   have HQ := hid hq1
   clear hq hq1
   go_simp
   refine hK.out _ _ (fun _ => HS.out _ HQ.out.low) (fun _ => ?_)
   (try simp only [jq1, jq2, jq3])
   exact K28910.out b8 b9 z.heap.size wb nb mb V U _ HQ.out)
 have K2810 : Hid (∀ (b8 b9 b10 wb nb mb : Nat) (V U : Nat → Value) (z : World), Q9 w0 A B wb nb mb V U 2 b8 b9 b10 true false true z → wpAnyG Tryz.prog .any (ops9 q0 q1 q2 q3 q4 q5 q6 q7 q8 q9 q10 q11 q12 q13 q14) Q (fun z : World => z.cell? ⟨b2, 0, none⟩ = some (.slice A.sa A.sn A.sc) ∧ z.cell? ⟨b2, 1, none⟩ = some (.slice A.na A.G A.nc) ∧ z.cell? ⟨b2, 2, none⟩ = some (.slice A.ma A.M A.mc) ∧ z.cell? ⟨b2, 3, none⟩ = some (.slice A.oa A.O A.oc) ∧ z.cell? ⟨b2, 4, none⟩ = some (.slice A.fa A.K A.fc) ∧ z.cell? ⟨b3, 0, none⟩ = some (.slice B.sa B.sn B.sc) ∧ z.cell? ⟨b3, 1, none⟩ = some (.slice B.na B.G B.nc) ∧ z.cell? ⟨b3, 2, none⟩ = some (.slice B.ma B.M B.mc) ∧ z.cell? ⟨b3, 3, none⟩ = some (.slice B.oa B.O B.oc) ∧ z.cell? ⟨b3, 4, none⟩ = some (.slice B.fa B.K B.fc)) (fun _ => false) 5 #[true, true, true, true, true, true, true, true, false, true, false, true, false, false, false] { tmps := #[t0, t1, (.pointer (some ⟨b2, 0, none⟩)), (.pointer (some ⟨b3, 0, none⟩)), t4, t5, t6, t7, (.pointer (some ⟨b8, 0, none⟩)), t9, (.pointer (some ⟨b10, 0, none⟩)), t11, t12, t13, t14, t15, t16, t17, t18, t19, t20, t21, t22, t23, t24, t25, t26, t27, t28, t29, t30, t31, t32, t33, t34, t35, t36, t37, t38, t39, t40, (.agg #[.slice A.sa A.sn A.sc, .slice A.na A.G A.nc, .slice A.ma A.M A.mc, .slice A.oa A.O A.oc, .slice A.fa A.K A.fc]), (.agg #[.slice B.sa B.sn B.sc, .slice B.na B.G B.nc, .slice B.ma B.M B.mc, .slice B.oa B.O B.oc, .slice B.fa B.K B.fc]), (.slice (some ⟨wb, 0, none⟩) A.G A.G), (.pointer (some ⟨b2, 1, none⟩)), (.slice A.na A.G A.nc), (.slice (some ⟨nb, 0, none⟩) A.G A.G), (.pointer (some ⟨b3, 1, none⟩)), (.slice B.na B.G B.nc), t49, t50, t51, t52, t53, t54, t55, t56, t57, t58, t59, t60, t61, t62, t63, t64, t65, t66, t67, t68, t69, t70, t71, t72, t73, t74, t75, t76, t77, t78, t79, t80, t81, t82, t83, t84, t85, t86, t87, t88, t89, t90, t91, t92, t93, t94, t95, t96, t97, t98, t99, t100, t101, t102, t103, t104, t105, t106, t107, t108, t109, t110, t111, t112, t113, t114, t115, t116, t117, t118, t119, t120, t121, t122, t123, t124, t125, t126, t127, t128, t129, t130, t131, t132, t133, t134, t135, t136, t137, t138, t139, t140, t141, t142, t143, t144, t145], defers := [] } z) := hid (by
  intro b8 b9 b10 wb nb mb V U z hq
  refine G_alt (l := [8, 10]) (by kernel_rfl) (by decide) ?_
  intro i hi
  have hi2 : i = 8 ∨ i = 10 := by simpa using hi
  clear hi
  rcases hi2 with rfl | rfl
  ·refine ⟨{ dst := some 49, op := Op.call { callee := Callee.value (Operand.func 32), args := #[Operand.tmp 48], argTypes := #[30] }, type := 30, pos := _, after := #[{ on := 7, ground := Ground.data }, { on := 5, ground := Ground.chain }], guard := none }, rfl, fun K' hK => ?_⟩
   have hz := hq.low
   have HQ := hid hq
   clear hq
   go_simp
   refine (CB.out z hz).mono ?_
   rintro e z1 ⟨rfl, U1, H1⟩
   dsimp only
   have hq1 := HQ.out.c3 H1.out.2.1 H1.out.1 jq0 H1.out.2.2
   refine hK.out _ _ (fun _ => HS.out _ hq1.low) (fun _ => ?_)
   (try simp only [jq1, jq2, jq3])
   exact K3810.out b8 b9 b10 wb nb z.heap.size V U1 z1 hq1
  ·refine ⟨{ dst := some 9, op := Op.alloc 30, type := 0, pos := _, after := #[], guard := none }, rfl, fun K' hK => ?_⟩
   have hq1 := hq.n9
   have HQ := hid hq1
   clear hq hq1
   go_simp
   refine hK.out _ _ (fun _ => HS.out _ HQ.out.low) (fun _ => ?_)
   (try simp only [jq1, jq2, jq3])
   exact K28910.out b8 z.heap.size b10 wb nb mb V U _ HQ.out)
 have K2910 : Hid (∀ (b8 b9 b10 wb nb mb : Nat) (V U : Nat → Value) (z : World), Q9 w0 A B wb nb mb V U 2 b8 b9 b10 false true true z → wpAnyG Tryz.prog .any (ops9 q0 q1 q2 q3 q4 q5 q6 q7 q8 q9 q10 q11 q12 q13 q14) Q (fun z : World => z.cell? ⟨b2, 0, none⟩ = some (.slice A.sa A.sn A.sc) ∧ z.cell? ⟨b2, 1, none⟩ = some (.slice A.na A.G A.nc) ∧ z.cell? ⟨b2, 2, none⟩ = some (.slice A.ma A.M A.mc) ∧ z.cell? ⟨b2, 3, none⟩ = some (.slice A.oa A.O A.oc) ∧ z.cell? ⟨b2, 4, none⟩ = some (.slice A.fa A.K A.fc) ∧ z.cell? ⟨b3, 0, none⟩ = some (.slice B.sa B.sn B.sc) ∧ z.cell? ⟨b3, 1, none⟩ = some (.slice B.na B.G B.nc) ∧ z.cell? ⟨b3, 2, none⟩ = some (.slice B.ma B.M B.mc) ∧ z.cell? ⟨b3, 3, none⟩ = some (.slice B.oa B.O B.oc) ∧ z.cell? ⟨b3, 4, none⟩ = some (.slice B.fa B.K B.fc)) (fun _ => false) 5 #[true, true, true, true, true, true, true, true, false, false, true, true, false, false, false] { tmps := #[t0, t1, (.pointer (some ⟨b2, 0, none⟩)), (.pointer (some ⟨b3, 0, none⟩)), t4, t5, t6, t7, t8, (.pointer (some ⟨b9, 0, none⟩)), (.pointer (some ⟨b10, 0, none⟩)), t11, t12, t13, t14, t15, t16, t17, t18, t19, t20, t21, t22, t23, t24, t25, t26, t27, t28, t29, t30, t31, t32, t33, t34, t35, t36, t37, t38, t39, t40, (.agg #[.slice A.sa A.sn A.sc, .slice A.na A.G A.nc, .slice A.ma A.M A.mc, .slice A.oa A.O A.oc, .slice A.fa A.K A.fc]), (.agg #[.slice B.sa B.sn B.sc, .slice B.na B.G B.nc, .slice B.ma B.M B.mc, .slice B.oa B.O B.oc, .slice B.fa B.K B.fc]), (.slice (some ⟨wb, 0, none⟩) A.G A.G), (.pointer (some ⟨b2, 1, none⟩)), (.slice A.na A.G A.nc), (.slice (some ⟨nb, 0, none⟩) A.G A.G), (.pointer (some ⟨b3, 1, none⟩)), (.slice B.na B.G B.nc), t49, t50, t51, t52, t53, t54, t55, t56, t57, t58, t59, t60, t61, t62, t63, t64, t65, t66, t67, t68, t69, t70, t71, t72, t73, t74, t75, t76, t77, t78, t79, t80, t81, t82, t83, t84, t85, t86, t87, t88, t89, t90, t91, t92, t93, t94, t95, t96, t97, t98, t99, t100, t101, t102, t103, t104, t105, t106, t107, t108, t109, t110, t111, t112, t113, t114, t115, t116, t117, t118, t119, t120, t121, t122, t123, t124, t125, t126, t127, t128, t129, t130, t131, t132, t133, t134, t135, t136, t137, t138, t139, t140, t141, t142, t143, t144, t145], defers := [] } z) := hid (by
  intro b8 b9 b10 wb nb mb V U z hq
  refine G_alt (l := [8, 9]) (by kernel_rfl) (by decide) ?_
  intro i hi
  have hi2 : i = 8 ∨ i = 9 := by simpa using hi
  clear hi
  rcases hi2 with rfl | rfl
  ·refine ⟨{ dst := some 49, op := Op.call { callee := Callee.value (Operand.func 32), args := #[Operand.tmp 48], argTypes := #[30] }, type := 30, pos := _, after := #[{ on := 7, ground := Ground.data }, { on := 5, ground := Ground.chain }], guard := none }, rfl, fun K' hK => ?_⟩
   have hz := hq.low
   have HQ := hid hq
   clear hq
   go_simp
   refine (CB.out z hz).mono ?_
   rintro e z1 ⟨rfl, U1, H1⟩
   dsimp only
   have hq1 := HQ.out.c3 H1.out.2.1 H1.out.1 jq0 H1.out.2.2
   refine hK.out _ _ (fun _ => HS.out _ hq1.low) (fun _ => ?_)
   (try simp only [jq1, jq2, jq3])
   exact K3910.out b8 b9 b10 wb nb z.heap.size V U1 z1 hq1
  ·refine ⟨{ dst := some 8, op := Op.alloc 64, type := 0, pos := _, after := #[], guard := none }, rfl, fun K' hK => ?_⟩
   have hq1 := hq.n8
   have HQ := hid hq1
   clear hq hq1
   go_simp
   refine hK.out _ _ (fun _ => HS.out _ HQ.out.low) (fun _ => ?_)
   (try simp only [jq1, jq2, jq3])
   exact K28910.out z.heap.size b9 b10 wb nb mb V U _ HQ.out)
 have K28 : Hid (∀ (b8 b9 b10 wb nb mb : Nat) (V U : Nat → Value) (z : World), Q9 w0 A B wb nb mb V U 2 b8 b9 b10 true false false z → wpAnyG Tryz.prog .any (ops9 q0 q1 q2 q3 q4 q5 q6 q7 q8 q9 q10 q11 q12 q13 q14) Q (fun z : World => z.cell? ⟨b2, 0, none⟩ = some (.slice A.sa A.sn A.sc) ∧ z.cell? ⟨b2, 1, none⟩ = some (.slice A.na A.G A.nc) ∧ z.cell? ⟨b2, 2, none⟩ = some (.slice A.ma A.M A.mc) ∧ z.cell? ⟨b2, 3, none⟩ = some (.slice A.oa A.O A.oc) ∧ z.cell? ⟨b2, 4, none⟩ = some (.slice A.fa A.K A.fc) ∧ z.cell? ⟨b3, 0, none⟩ = some (.slice B.sa B.sn B.sc) ∧ z.cell? ⟨b3, 1, none⟩ = some (.slice B.na B.G B.nc) ∧ z.cell? ⟨b3, 2, none⟩ = some (.slice B.ma B.M B.mc) ∧ z.cell? ⟨b3, 3, none⟩ = some (.slice B.oa B.O B.oc) ∧ z.cell? ⟨b3, 4, none⟩ = some (.slice B.fa B.K B.fc)) (fun _ => false) 6 #[true, true, true, true, true, true, true, true, false, true, false, false, false, false, false] { tmps := #[t0, t1, (.pointer (some ⟨b2, 0, none⟩)), (.pointer (some ⟨b3, 0, none⟩)), t4, t5, t6, t7, (.pointer (some ⟨b8, 0, none⟩)), t9, t10, t11, t12, t13, t14, t15, t16, t17, t18, t19, t20, t21, t22, t23, t24, t25, t26, t27, t28, t29, t30, t31, t32, t33, t34, t35, t36, t37, t38, t39, t40, (.agg #[.slice A.sa A.sn A.sc, .slice A.na A.G A.nc, .slice A.ma A.M A.mc, .slice A.oa A.O A.oc, .slice A.fa A.K A.fc]), (.agg #[.slice B.sa B.sn B.sc, .slice B.na B.G B.nc, .slice B.ma B.M B.mc, .slice B.oa B.O B.oc, .slice B.fa B.K B.fc]), (.slice (some ⟨wb, 0, none⟩) A.G A.G), (.pointer (some ⟨b2, 1, none⟩)), (.slice A.na A.G A.nc), (.slice (some ⟨nb, 0, none⟩) A.G A.G), (.pointer (some ⟨b3, 1, none⟩)), (.slice B.na B.G B.nc), t49, t50, t51, t52, t53, t54, t55, t56, t57, t58, t59, t60, t61, t62, t63, t64, t65, t66, t67, t68, t69, t70, t71, t72, t73, t74, t75, t76, t77, t78, t79, t80, t81, t82, t83, t84, t85, t86, t87, t88, t89, t90, t91, t92, t93, t94, t95, t96, t97, t98, t99, t100, t101, t102, t103, t104, t105, t106, t107, t108, t109, t110, t111, t112, t113, t114, t115, t116, t117, t118, t119, t120, t121, t122, t123, t124, t125, t126, t127, t128, t129, t130, t131, t132, t133, t134, t135, t136, t137, t138, t139, t140, t141, t142, t143, t144, t145], defers := [] } z) := hid (by
  intro b8 b9 b10 wb nb mb V U z hq
  refine G_alt (l := [8, 10, 11]) (by kernel_rfl) (by decide) ?_
  intro i hi
  have hi2 : i = 8 ∨ i = 10 ∨ i = 11 := by simpa using hi
  clear hi
  rcases hi2 with rfl | rfl | rfl
  ·refine ⟨{ dst := some 49, op := Op.call { callee := Callee.value (Operand.func 32), args := #[Operand.tmp 48], argTypes := #[30] }, type := 30, pos := _, after := #[{ on := 7, ground := Ground.data }, { on := 5, ground := Ground.chain }], guard := none }, rfl, fun K' hK => ?_⟩
   have hz := hq.low
   have HQ := hid hq
   clear hq
   go_simp
   refine (CB.out z hz).mono ?_
   rintro e z1 ⟨rfl, U1, H1⟩
   dsimp only
   have hq1 := HQ.out.c3 H1.out.2.1 H1.out.1 jq0 H1.out.2.2
   refine hK.out _ _ (fun _ => HS.out _ hq1.low) (fun _ => ?_)
   (try simp only [jq1, jq2, jq3])
   exact K38.out b8 b9 b10 wb nb z.heap.size V U1 z1 hq1
  ·refine ⟨{ dst := some 9, op := Op.alloc 30, type := 0, pos := _, after := #[], guard := none }, rfl, fun K' hK => ?_⟩
   have hq1 := hq.n9
   have HQ := hid hq1
   clear hq hq1
   go_simp
   refine hK.out _ _ (fun _ => HS.out _ HQ.out.low) (fun _ => ?_)
   (try simp only [jq1, jq2, jq3])
   exact K289.out b8 z.heap.size b10 wb nb mb V U _ HQ.out
  ·refine ⟨{ dst := some 10, op := Op.alloc 30, type := 0, pos := _, after := #[], guard := none }, rfl, fun K' hK => ?_⟩
   have hq1 := hq.n10
   have HQ := hid hq1
   clear hq hq1
   go_simp
   refine hK.out _ _ (fun _ => HS.out _ HQ.out.low) (fun _ => ?_)
   (try simp only [jq1, jq2, jq3])
   exact K2810.out b8 b9 z.heap.size wb nb mb V U _ HQ.out)
 have K29 : Hid (∀ (b8 b9 b10 wb nb mb : Nat) (V U : Nat → Value) (z : World), Q9 w0 A B wb nb mb V U 2 b8 b9 b10 false true false z → wpAnyG Tryz.prog .any (ops9 q0 q1 q2 q3 q4 q5 q6 q7 q8 q9 q10 q11 q12 q13 q14) Q (fun z : World => z.cell? ⟨b2, 0, none⟩ = some (.slice A.sa A.sn A.sc) ∧ z.cell? ⟨b2, 1, none⟩ = some (.slice A.na A.G A.nc) ∧ z.cell? ⟨b2, 2, none⟩ = some (.slice A.ma A.M A.mc) ∧ z.cell? ⟨b2, 3, none⟩ = some (.slice A.oa A.O A.oc) ∧ z.cell? ⟨b2, 4, none⟩ = some (.slice A.fa A.K A.fc) ∧ z.cell? ⟨b3, 0, none⟩ = some (.slice B.sa B.sn B.sc) ∧ z.cell? ⟨b3, 1, none⟩ = some (.slice B.na B.G B.nc) ∧ z.cell? ⟨b3, 2, none⟩ = some (.slice B.ma B.M B.mc) ∧ z.cell? ⟨b3, 3, none⟩ = some (.slice B.oa B.O B.oc) ∧ z.cell? ⟨b3, 4, none⟩ = some (.slice B.fa B.K B.fc)) (fun _ => false) 6 #[true, true, true, true, true, true, true, true, false, false, true, false, false, false, false] { tmps := #[t0, t1, (.pointer (some ⟨b2, 0, none⟩)), (.pointer (some ⟨b3, 0, none⟩)), t4, t5, t6, t7, t8, (.pointer (some ⟨b9, 0, none⟩)), t10, t11, t12, t13, t14, t15, t16, t17, t18, t19, t20, t21, t22, t23, t24, t25, t26, t27, t28, t29, t30, t31, t32, t33, t34, t35, t36, t37, t38, t39, t40, (.agg #[.slice A.sa A.sn A.sc, .slice A.na A.G A.nc, .slice A.ma A.M A.mc, .slice A.oa A.O A.oc, .slice A.fa A.K A.fc]), (.agg #[.slice B.sa B.sn B.sc, .slice B.na B.G B.nc, .slice B.ma B.M B.mc, .slice B.oa B.O B.oc, .slice B.fa B.K B.fc]), (.slice (some ⟨wb, 0, none⟩) A.G A.G), (.pointer (some ⟨b2, 1, none⟩)), (.slice A.na A.G A.nc), (.slice (some ⟨nb, 0, none⟩) A.G A.G), (.pointer (some ⟨b3, 1, none⟩)), (.slice B.na B.G B.nc), t49, t50, t51, t52, t53, t54, t55, t56, t57, t58, t59, t60, t61, t62, t63, t64, t65, t66, t67, t68, t69, t70, t71, t72, t73, t74, t75, t76, t77, t78, t79, t80, t81, t82, t83, t84, t85, t86, t87, t88, t89, t90, t91, t92, t93, t94, t95, t96, t97, t98, t99, t100, t101, t102, t103, t104, t105, t106, t107, t108, t109, t110, t111, t112, t113, t114, t115, t116, t117, t118, t119, t120, t121, t122, t123, t124, t125, t126, t127, t128, t129, t130, t131, t132, t133, t134, t135, t136, t137, t138, t139, t140, t141, t142, t143, t144, t145], defers := [] } z) := hid (by
  intro b8 b9 b10 wb nb mb V U z hq
  refine G_alt (l := [8, 9, 11]) (by kernel_rfl) (by decide) ?_
  intro i hi
  have hi2 : i = 8 ∨ i = 9 ∨ i = 11 := by simpa using hi
  clear hi
  rcases hi2 with rfl | rfl | rfl
  ·refine ⟨{ dst := some 49, op := Op.call { callee := Callee.value (Operand.func 32), args := #[Operand.tmp 48], argTypes := #[30] }, type := 30, pos := _, after := #[{ on := 7, ground := Ground.data }, { on := 5, ground := Ground.chain }], guard := none }, rfl, fun K' hK => ?_⟩
   have hz := hq.low
   have HQ := hid hq
   clear hq
   go_simp
   refine (CB.out z hz).mono ?_
   rintro e z1 ⟨rfl, U1, H1⟩
   dsimp only
   have hq1 := HQ.out.c3 H1.out.2.1 H1.out.1 jq0 H1.out.2.2
   refine hK.out _ _ (fun _ => HS.out _ hq1.low) (fun _ => ?_)
   (try simp only [jq1, jq2, jq3])
   exact K39.out b8 b9 b10 wb nb z.heap.size V U1 z1 hq1
  ·refine ⟨{ dst := some 8, op := Op.alloc 64, type := 0, pos := _, after := #[], guard := none }, rfl, fun K' hK => ?_⟩
   have hq1 := hq.n8
   have HQ := hid hq1
   clear hq hq1
   go_simp
   refine hK.out _ _ (fun _ => HS.out _ HQ.out.low) (fun _ => ?_)
   (try simp only [jq1, jq2, jq3])
   exact K289.out z.heap.size b9 b10 wb nb mb V U _ HQ.out
  ·refine ⟨{ dst := some 10, op := Op.alloc 30, type := 0, pos := _, after := #[], guard := none }, rfl, fun K' hK => ?_⟩
   have hq1 := hq.n10
   have HQ := hid hq1
   clear hq hq1
   go_simp
   refine hK.out _ _ (fun _ => HS.out _ HQ.out.low) (fun _ => ?_)
   (try simp only [jq1, jq2, jq3])
   exact K2910.out b8 b9 z.heap.size wb nb mb V U _ HQ.out)
 have K210 : Hid (∀ (b8 b9 b10 wb nb mb : Nat) (V U : Nat → Value) (z : World), Q9 w0 A B wb nb mb V U 2 b8 b9 b10 false false true z → wpAnyG Tryz.prog .any (ops9 q0 q1 q2 q3 q4 q5 q6 q7 q8 q9 q10 q11 q12 q13 q14) Q (fun z : World => z.cell? ⟨b2, 0, none⟩ = some (.slice A.sa A.sn A.sc) ∧ z.cell? ⟨b2, 1, none⟩ = some (.slice A.na A.G A.nc) ∧ z.cell? ⟨b2, 2, none⟩ = some (.slice A.ma A.M A.mc) ∧ z.cell? ⟨b2, 3, none⟩ = some (.slice A.oa A.O A.oc) ∧ z.cell? ⟨b2, 4, none⟩ = some (.slice A.fa A.K A.fc) ∧ z.cell? ⟨b3, 0, none⟩ = some (.slice B.sa B.sn B.sc) ∧ z.cell? ⟨b3, 1, none⟩ = some (.slice B.na B.G B.nc) ∧ z.cell? ⟨b3, 2, none⟩ = some (.slice B.ma B.M B.mc) ∧ z.cell? ⟨b3, 3, none⟩ = some (.slice B.oa B.O B.oc) ∧ z.cell? ⟨b3, 4, none⟩ = some (.slice B.fa B.K B.fc)) (fun _ => false) 6 #[true, true, true, true, true, true, true, true, false, false, false, true, false, false, false] { tmps := #[t0, t1, (.pointer (some ⟨b2, 0, none⟩)), (.pointer (some ⟨b3, 0, none⟩)), t4, t5, t6, t7, t8, t9, (.pointer (some ⟨b10, 0, none⟩)), t11, t12, t13, t14, t15, t16, t17, t18, t19, t20, t21, t22, t23, t24, t25, t26, t27, t28, t29, t30, t31, t32, t33, t34, t35, t36, t37, t38, t39, t40, (.agg #[.slice A.sa A.sn A.sc, .slice A.na A.G A.nc, .slice A.ma A.M A.mc, .slice A.oa A.O A.oc, .slice A.fa A.K A.fc]), (.agg #[.slice B.sa B.sn B.sc, .slice B.na B.G B.nc, .slice B.ma B.M B.mc, .slice B.oa B.O B.oc, .slice B.fa B.K B.fc]), (.slice (some ⟨wb, 0, none⟩) A.G A.G), (.pointer (some ⟨b2, 1, none⟩)), (.slice A.na A.G A.nc), (.slice (some ⟨nb, 0, none⟩) A.G A.G), (.pointer (some ⟨b3, 1, none⟩)), (.slice B.na B.G B.nc), t49, t50, t51, t52, t53, t54, t55, t56, t57, t58, t59, t60, t61, t62, t63, t64, t65, t66, t67, t68, t69, t70, t71, t72, t73, t74, t75, t76, t77, t78, t79, t80, t81, t82, t83, t84, t85, t86, t87, t88, t89, t90, t91, t92, t93, t94, t95, t96, t97, t98, t99, t100, t101, t102, t103, t104, t105, t106, t107, t108, t109, t110, t111, t112, t113, t114, t115, t116, t117, t118, t119, t120, t121, t122, t123, t124, t125, t126, t127, t128, t129, t130, t131, t132, t133, t134, t135, t136, t137, t138, t139, t140, t141, t142, t143, t144, t145], defers := [] } z) := hid (by
  intro b8 b9 b10 wb nb mb V U z hq
  refine G_alt (l := [8, 9, 10]) (by kernel_rfl) (by decide) ?_
  intro i hi
  have hi2 : i = 8 ∨ i = 9 ∨ i = 10 := by simpa using hi
  clear hi
  rcases hi2 with rfl | rfl | rfl
  ·refine ⟨{ dst := some 49, op := Op.call { callee := Callee.value (Operand.func 32), args := #[Operand.tmp 48], argTypes := #[30] }, type := 30, pos := _, after := #[{ on := 7, ground := Ground.data }, { on := 5, ground := Ground.chain }], guard := none }, rfl, fun K' hK => ?_⟩
   have hz := hq.low
   have HQ := hid hq
   clear hq
   go_simp
   refine (CB.out z hz).mono ?_
   rintro e z1 ⟨rfl, U1, H1⟩
   dsimp only
   have hq1 := HQ.out.c3 H1.out.2.1 H1.out.1 jq0 H1.out.2.2
   refine hK.out _ _ (fun _ => HS.out _ hq1.low) (fun _ => ?_)
   (try simp only [jq1, jq2, jq3])
   exact K310.out b8 b9 b10 wb nb z.heap.size V U1 z1 hq1
  ·refine ⟨{ dst := some 8, op := Op.alloc 64, type := 0, pos := _, after := #[], guard := none }, rfl, fun K' hK => ?_⟩
   have hq1 := hq.n8
   have HQ := hid hq1
   clear hq hq1
   go_simp
   refine hK.out _ _ (fun _ => HS.out _ HQ.out.low) (fun _ => ?_)
   (try simp only [jq1, jq2, jq3])
   exact K2810.out z.heap.size b9 b10 wb nb mb V U _ HQ.out
  ·refine ⟨{ dst := some 9, op := Op.alloc 30, type := 0, pos := _, after := #[], guard := none }, rfl, fun K' hK => ?_⟩
   have hq1 := hq.n9
   have HQ := hid hq1
   clear hq hq1
   go_simp
   refine hK.out _ _ (fun _ => HS.out _ HQ.out.low) (fun _ => ?_)
   (try simp only [jq1, jq2, jq3])
   exact K2910.out b8 z.heap.size b10 wb nb mb V U _ HQ.out)
 have K2 : Hid (∀ (b8 b9 b10 wb nb mb : Nat) (V U : Nat → Value) (z : World), Q9 w0 A B wb nb mb V U 2 b8 b9 b10 false false false z → wpAnyG Tryz.prog .any (ops9 q0 q1 q2 q3 q4 q5 q6 q7 q8 q9 q10 q11 q12 q13 q14) Q (fun z : World => z.cell? ⟨b2, 0, none⟩ = some (.slice A.sa A.sn A.sc) ∧ z.cell? ⟨b2, 1, none⟩ = some (.slice A.na A.G A.nc) ∧ z.cell? ⟨b2, 2, none⟩ = some (.slice A.ma A.M A.mc) ∧ z.cell? ⟨b2, 3, none⟩ = some (.slice A.oa A.O A.oc) ∧ z.cell? ⟨b2, 4, none⟩ = some (.slice A.fa A.K A.fc) ∧ z.cell? ⟨b3, 0, none⟩ = some (.slice B.sa B.sn B.sc) ∧ z.cell? ⟨b3, 1, none⟩ = some (.slice B.na B.G B.nc) ∧ z.cell? ⟨b3, 2, none⟩ = some (.slice B.ma B.M B.mc) ∧ z.cell? ⟨b3, 3, none⟩ = some (.slice B.oa B.O B.oc) ∧ z.cell? ⟨b3, 4, none⟩ = some (.slice B.fa B.K B.fc)) (fun _ => false) 7 #[true, true, true, true, true, true, true, true, false, false, false, false, false, false, false] { tmps := #[t0, t1, (.pointer (some ⟨b2, 0, none⟩)), (.pointer (some ⟨b3, 0, none⟩)), t4, t5, t6, t7, t8, t9, t10, t11, t12, t13, t14, t15, t16, t17, t18, t19, t20, t21, t22, t23, t24, t25, t26, t27, t28, t29, t30, t31, t32, t33, t34, t35, t36, t37, t38, t39, t40, (.agg #[.slice A.sa A.sn A.sc, .slice A.na A.G A.nc, .slice A.ma A.M A.mc, .slice A.oa A.O A.oc, .slice A.fa A.K A.fc]), (.agg #[.slice B.sa B.sn B.sc, .slice B.na B.G B.nc, .slice B.ma B.M B.mc, .slice B.oa B.O B.oc, .slice B.fa B.K B.fc]), (.slice (some ⟨wb, 0, none⟩) A.G A.G), (.pointer (some ⟨b2, 1, none⟩)), (.slice A.na A.G A.nc), (.slice (some ⟨nb, 0, none⟩) A.G A.G), (.pointer (some ⟨b3, 1, none⟩)), (.slice B.na B.G B.nc), t49, t50, t51, t52, t53, t54, t55, t56, t57, t58, t59, t60, t61, t62, t63, t64, t65, t66, t67, t68, t69, t70, t71, t72, t73, t74, t75, t76, t77, t78, t79, t80, t81, t82, t83, t84, t85, t86, t87, t88, t89, t90, t91, t92, t93, t94, t95, t96, t97, t98, t99, t100, t101, t102, t103, t104, t105, t106, t107, t108, t109, t110, t111, t112, t113, t114, t115, t116, t117, t118, t119, t120, t121, t122, t123, t124, t125, t126, t127, t128, t129, t130, t131, t132, t133, t134, t135, t136, t137, t138, t139, t140, t141, t142, t143, t144, t145], defers := [] } z) := hid (by
  intro b8 b9 b10 wb nb mb V U z hq
  refine G_alt (l := [8, 9, 10, 11]) (by kernel_rfl) (by decide) ?_
  intro i hi
  have hi2 : i = 8 ∨ i = 9 ∨ i = 10 ∨ i = 11 := by simpa using hi
  clear hi
  rcases hi2 with rfl | rfl | rfl | rfl
  ·refine ⟨{ dst := some 49, op := Op.call { callee := Callee.value (Operand.func 32), args := #[Operand.tmp 48], argTypes := #[30] }, type := 30, pos := _, after := #[{ on := 7, ground := Ground.data }, { on := 5, ground := Ground.chain }], guard := none }, rfl, fun K' hK => ?_⟩
   have hz := hq.low
   have HQ := hid hq
   clear hq
   go_simp
   refine (CB.out z hz).mono ?_
   rintro e z1 ⟨rfl, U1, H1⟩
   dsimp only
   have hq1 := HQ.out.c3 H1.out.2.1 H1.out.1 jq0 H1.out.2.2
   refine hK.out _ _ (fun _ => HS.out _ hq1.low) (fun _ => ?_)
   (try simp only [jq1, jq2, jq3])
   exact K3.out b8 b9 b10 wb nb z.heap.size V U1 z1 hq1
  ·refine ⟨{ dst := some 8, op := Op.alloc 64, type := 0, pos := _, after := #[], guard := none }, rfl, fun K' hK => ?_⟩
   have hq1 := hq.n8
   have HQ := hid hq1
   clear hq hq1
   go_simp
   refine hK.out _ _ (fun _ => HS.out _ HQ.out.low) (fun _ => ?_)
   (try simp only [jq1, jq2, jq3])
   exact K28.out z.heap.size b9 b10 wb nb mb V U _ HQ.out
  ·refine ⟨{ dst := some 9, op := Op.alloc 30, type := 0, pos := _, after := #[], guard := none }, rfl, fun K' hK => ?_⟩
   have hq1 := hq.n9
   have HQ := hid hq1
   clear hq hq1
   go_simp
   refine hK.out _ _ (fun _ => HS.out _ HQ.out.low) (fun _ => ?_)
   (try simp only [jq1, jq2, jq3])
   exact K29.out b8 z.heap.size b10 wb nb mb V U _ HQ.out
  ·refine ⟨{ dst := some 10, op := Op.alloc 30, type := 0, pos := _, after := #[], guard := none }, rfl, fun K' hK => ?_⟩
   have hq1 := hq.n10
   have HQ := hid hq1
   clear hq hq1
   go_simp
   refine hK.out _ _ (fun _ => HS.out _ HQ.out.low) (fun _ => ?_)
   (try simp only [jq1, jq2, jq3])
   exact K210.out b8 b9 z.heap.size wb nb mb V U _ HQ.out)
 have K18910 : Hid (∀ (b8 b9 b10 wb nb mb : Nat) (V U : Nat → Value) (z : World), Q9 w0 A B wb nb mb V U 1 b8 b9 b10 true true true z → wpAnyG Tryz.prog .any (ops9 q0 q1 q2 q3 q4 q5 q6 q7 q8 q9 q10 q11 q12 q13 q14) Q (fun z : World => z.cell? ⟨b2, 0, none⟩ = some (.slice A.sa A.sn A.sc) ∧ z.cell? ⟨b2, 1, none⟩ = some (.slice A.na A.G A.nc) ∧ z.cell? ⟨b2, 2, none⟩ = some (.slice A.ma A.M A.mc) ∧ z.cell? ⟨b2, 3, none⟩ = some (.slice A.oa A.O A.oc) ∧ z.cell? ⟨b2, 4, none⟩ = some (.slice A.fa A.K A.fc) ∧ z.cell? ⟨b3, 0, none⟩ = some (.slice B.sa B.sn B.sc) ∧ z.cell? ⟨b3, 1, none⟩ = some (.slice B.na B.G B.nc) ∧ z.cell? ⟨b3, 2, none⟩ = some (.slice B.ma B.M B.mc) ∧ z.cell? ⟨b3, 3, none⟩ = some (.slice B.oa B.O B.oc) ∧ z.cell? ⟨b3, 4, none⟩ = some (.slice B.fa B.K B.fc)) (fun _ => false) 5 #[true, true, true, true, true, false, true, true, false, true, true, true, false, false, false] { tmps := #[t0, t1, (.pointer (some ⟨b2, 0, none⟩)), (.pointer (some ⟨b3, 0, none⟩)), t4, t5, t6, t7, (.pointer (some ⟨b8, 0, none⟩)), (.pointer (some ⟨b9, 0, none⟩)), (.pointer (some ⟨b10, 0, none⟩)), t11, t12, t13, t14, t15, t16, t17, t18, t19, t20, t21, t22, t23, t24, t25, t26, t27, t28, t29, t30, t31, t32, t33, t34, t35, t36, t37, t38, t39, t40, (.agg #[.slice A.sa A.sn A.sc, .slice A.na A.G A.nc, .slice A.ma A.M A.mc, .slice A.oa A.O A.oc, .slice A.fa A.K A.fc]), (.agg #[.slice B.sa B.sn B.sc, .slice B.na B.G B.nc, .slice B.ma B.M B.mc, .slice B.oa B.O B.oc, .slice B.fa B.K B.fc]), (.slice (some ⟨wb, 0, none⟩) A.G A.G), (.pointer (some ⟨b2, 1, none⟩)), (.slice A.na A.G A.nc), t46, (.pointer (some ⟨b3, 1, none⟩)), (.slice B.na B.G B.nc), t49, t50, t51, t52, t53, t54, t55, t56, t57, t58, t59, t60, t61, t62, t63, t64, t65, t66, t67, t68, t69, t70, t71, t72, t73, t74, t75, t76, t77, t78, t79, t80, t81, t82, t83, t84, t85, t86, t87, t88, t89, t90, t91, t92, t93, t94, t95, t96, t97, t98, t99, t100, t101, t102, t103, t104, t105, t106, t107, t108, t109, t110, t111, t112, t113, t114, t115, t116, t117, t118, t119, t120, t121, t122, t123, t124, t125, t126, t127, t128, t129, t130, t131, t132, t133, t134, t135, t136, t137, t138, t139, t140, t141, t142, t143, t144, t145], defers := [] } z) := hid (by
  intro b8 b9 b10 wb nb mb V U z hq
  refine G_alt (l := [5]) (by kernel_rfl) (by decide) ?_
  intro i hi
  obtain rfl : i = 5 := by simpa using hi
  clear hi
  ·refine ⟨{ dst := some 46, op := Op.call { callee := Callee.value (Operand.func 32), args := #[Operand.tmp 45], argTypes := #[30] }, type := 30, pos := _, after := #[{ on := 4, ground := Ground.data }, { on := 2, ground := Ground.chain }], guard := none }, rfl, fun K' hK => ?_⟩
   have hz := hq.low
   have HQ := hid hq
   clear hq
   go_simp
   refine (CA.out z hz).mono ?_
   rintro e z1 ⟨rfl, V1, H1⟩
   dsimp only
   have hq1 := HQ.out.c2 H1.out.2.1 H1.out.1 jq0 H1.out.2.2
   refine hK.out _ _ (fun _ => HS.out _ hq1.low) (fun _ => ?_)
   (try simp only [jq1, jq2, jq3])
   exact K28910.out b8 b9 b10 wb z.heap.size mb V1 U z1 hq1)
 have K189 : Hid (∀ (b8 b9 b10 wb nb mb : Nat) (V U : Nat → Value) (z : World), Q9 w0 A B wb nb mb V U 1 b8 b9 b10 true true false z → wpAnyG Tryz.prog .any (ops9 q0 q1 q2 q3 q4 q5 q6 q7 q8 q9 q10 q11 q12 q13 q14) Q (fun z : World => z.cell? ⟨b2, 0, none⟩ = some (.slice A.sa A.sn A.sc) ∧ z.cell? ⟨b2, 1, none⟩ = some (.slice A.na A.G A.nc) ∧ z.cell? ⟨b2, 2, none⟩ = some (.slice A.ma A.M A.mc) ∧ z.cell? ⟨b2, 3, none⟩ = some (.slice A.oa A.O A.oc) ∧ z.cell? ⟨b2, 4, none⟩ = some (.slice A.fa A.K A.fc) ∧ z.cell? ⟨b3, 0, none⟩ = some (.slice B.sa B.sn B.sc) ∧ z.cell? ⟨b3, 1, none⟩ = some (.slice B.na B.G B.nc) ∧ z.cell? ⟨b3, 2, none⟩ = some (.slice B.ma B.M B.mc) ∧ z.cell? ⟨b3, 3, none⟩ = some (.slice B.oa B.O B.oc) ∧ z.cell? ⟨b3, 4, none⟩ = some (.slice B.fa B.K B.fc)) (fun _ => false) 6 #[true, true, true, true, true, false, true, true, false, true, true, false, false, false, false] { tmps := #[t0, t1, (.pointer (some ⟨b2, 0, none⟩)), (.pointer (some ⟨b3, 0, none⟩)), t4, t5, t6, t7, (.pointer (some ⟨b8, 0, none⟩)), (.pointer (some ⟨b9, 0, none⟩)), t10, t11, t12, t13, t14, t15, t16, t17, t18, t19, t20, t21, t22, t23, t24, t25, t26, t27, t28, t29, t30, t31, t32, t33, t34, t35, t36, t37, t38, t39, t40, (.agg #[.slice A.sa A.sn A.sc, .slice A.na A.G A.nc, .slice A.ma A.M A.mc, .slice A.oa A.O A.oc, .slice A.fa A.K A.fc]), (.agg #[.slice B.sa B.sn B.sc, .slice B.na B.G B.nc, .slice B.ma B.M B.mc, .slice B.oa B.O B.oc, .slice B.fa B.K B.fc]), (.slice (some ⟨wb, 0, none⟩) A.G A.G), (.pointer (some ⟨b2, 1, none⟩)), (.slice A.na A.G A.nc), t46, (.pointer (some ⟨b3, 1, none⟩)), (.slice B.na B.G B.nc), t49, t50, t51, t52, t53, t54, t55, t56, t57, t58, t59, t60, t61, t62, t63, t64, t65, t66, t67, t68, t69, t70, t71, t72, t73, t74, t75, t76, t77, t78, t79, t80, t81, t82, t83, t84, t85, t86, t87, t88, t89, t90, t91, t92, t93, t94, t95, t96, t97, t98, t99, t100, t101, t102, t103, t104, t105, t106, t107, t108, t109, t110, t111, t112, t113, t114, t115, t116, t117, t118, t119, t120, t121, t122, t123, t124, t125, t126, t127, t128, t129, t130, t131, t132, t133, t134, t135, t136, t137, t138, t139, t140, t141, t142, t143, t144, t145], defers := [] } z) := hid (by
  intro b8 b9 b10 wb nb mb V U z hq
  refine G_alt (l := [5, 11]) (by kernel_rfl) (by decide) ?_
  intro i hi
  have hi2 : i = 5 ∨ i = 11 := by simpa using hi
  clear hi
  rcases hi2 with rfl | rfl
  ·refine ⟨{ dst := some 46, op := Op.call { callee := Callee.value (Operand.func 32), args := #[Operand.tmp 45], argTypes := #[30] }, type := 30, pos := _, after := #[{ on := 4, ground := Ground.data }, { on := 2, ground := Ground.chain }], guard := none }, rfl, fun K' hK => ?_⟩
   have hz := hq.low
   have HQ := hid hq
   clear hq
   go_simp
   refine (CA.out z hz).mono ?_
   rintro e z1 ⟨rfl, V1, H1⟩
   dsimp only
   have hq1 := HQ.out.c2 H1.out.2.1 H1.out.1 jq0 H1.out.2.2
   refine hK.out _ _ (fun _ => HS.out _ hq1.low) (fun _ => ?_)
   (try simp only [jq1, jq2, jq3])
   exact K289.out b8 b9 b10 wb z.heap.size mb V1 U z1 hq1
  ·refine ⟨{ dst := some 10, op := Op.alloc 30, type := 0, pos := _, after := #[], guard := none }, rfl, fun K' hK => ?_⟩
   have hq1 := hq.n10
   have HQ := hid hq1
   clear hq hq1
   go_simp
   refine hK.out _ _ (fun _ => HS.out _ HQ.out.low) (fun _ => ?_)
   (try simp only [jq1, jq2, jq3])
   exact K18910.out b8 b9 z.heap.size wb nb mb V U _ HQ.out)
 have K1810 : Hid (∀ (b8 b9 b10 wb nb mb : Nat) (V U : Nat → Value) (z : World), Q9 w0 A B wb nb mb V U 1 b8 b9 b10 true false true z → wpAnyG Tryz.prog .any (ops9 q0 q1 q2 q3 q4 q5 q6 q7 q8 q9 q10 q11 q12 q13 q14) Q (fun z : World => z.cell? ⟨b2, 0, none⟩ = some (.slice A.sa A.sn A.sc) ∧ z.cell? ⟨b2, 1, none⟩ = some (.slice A.na A.G A.nc) ∧ z.cell? ⟨b2, 2, none⟩ = some (.slice A.ma A.M A.mc) ∧ z.cell? ⟨b2, 3, none⟩ = some (.slice A.oa A.O A.oc) ∧ z.cell? ⟨b2, 4, none⟩ = some (.slice A.fa A.K A.fc) ∧ z.cell? ⟨b3, 0, none⟩ = some (.slice B.sa B.sn B.sc) ∧ z.cell? ⟨b3, 1, none⟩ = some (.slice B.na B.G B.nc) ∧ z.cell? ⟨b3, 2, none⟩ = some (.slice B.ma B.M B.mc) ∧ z.cell? ⟨b3, 3, none⟩ = some (.slice B.oa B.O B.oc) ∧ z.cell? ⟨b3, 4, none⟩ = some (.slice B.fa B.K B.fc)) (fun _ => false) 6 #[true, true, true, true, true, false, true, true, false, true, false, true, false, false, false] { tmps := #[t0, t1, (.pointer (some ⟨b2, 0, none⟩)), (.pointer (some ⟨b3, 0, none⟩)), t4, t5, t6, t7, (.pointer (some ⟨b8, 0, none⟩)), t9, (.pointer (some ⟨b10, 0, none⟩)), t11, t12, t13, t14, t15, t16, t17, t18, t19, t20, t21, t22, t23, t24, t25, t26, t27, t28, t29, t30, t31, t32, t33, t34, t35, t36, t37, t38, t39, t40, (.agg #[.slice A.sa A.sn A.sc, .slice A.na A.G A.nc, .slice A.ma A.M A.mc, .slice A.oa A.O A.oc, .slice A.fa A.K A.fc]), (.agg #[.slice B.sa B.sn B.sc, .slice B.na B.G B.nc, .slice B.ma B.M B.mc, .slice B.oa B.O B.oc, .slice B.fa B.K B.fc]), (.slice (some ⟨wb, 0, none⟩) A.G A.G), (.pointer (some ⟨b2, 1, none⟩)), (.slice A.na A.G A.nc), t46, (.pointer (some ⟨b3, 1, none⟩)), (.slice B.na B.G B.nc), t49, t50, t51, t52, t53, t54, t55, t56, t57, t58, t59, t60, t61, t62, t63, t64, t65, t66, t67, t68, t69, t70, t71, t72, t73, t74, t75, t76, t77, t78, t79, t80, t81, t82, t83, t84, t85, t86, t87, t88, t89, t90, t91, t92, t93, t94, t95, t96, t97, t98, t99, t100, t101, t102, t103, t104, t105, t106, t107, t108, t109, t110, t111, t112, t113, t114, t115, t116, t117, t118, t119, t120, t121, t122, t123, t124, t125, t126, t127, t128, t129, t130, t131, t132, t133, t134, t135, t136, t137, t138, t139, t140, t141, t142, t143, t144, t145], defers := [] } z) := hid (by
  intro b8 b9 b10 wb nb mb V U z hq
  refine G_alt (l := [5, 10]) (by kernel_rfl) (by decide) ?_
  intro i hi
  have hi2 : i = 5 ∨ i = 10 := by simpa using hi
  clear hi
  rcases hi2 with rfl | rfl
  ·refine ⟨{ dst := some 46, op := Op.call { callee := Callee.value (Operand.func 32), args := #[Operand.tmp 45], argTypes := #[30] }, type := 30, pos := _, after := #[{ on := 4, ground := Ground.data }, { on := 2, ground := Ground.chain }], guard := none }, rfl, fun K' hK => ?_⟩
   have hz := hq.low
   have HQ := hid hq
   clear hq
   go_simp
   refine (CA.out z hz).mono ?_
   rintro e z1 ⟨rfl, V1, H1⟩
   dsimp only
   have hq1 := HQ.out.c2 H1.out.2.1 H1.out.1 jq0 H1.out.2.2
   refine hK.out _ _ (fun _ => HS.out _ hq1.low) (fun _ => ?_)
   (try simp only [jq1, jq2, jq3])
   exact K2810.out b8 b9 b10 wb z.heap.size mb V1 U z1 hq1
  ·refine ⟨{ dst := some 9, op := Op.alloc 30, type := 0, pos := _, after := #[], guard := none }, rfl, fun K' hK => ?_⟩
   have hq1 := hq.n9
   have HQ := hid hq1
   clear hq hq1
   go_simp
   refine hK.out _ _ (fun _ => HS.out _ HQ.out.low) (fun _ => ?_)
   (try simp only [jq1, jq2, jq3])
   exact K18910.out b8 z.heap.size b10 wb nb mb V U _ HQ.out)
 have K1910 : Hid (∀ (b8 b9 b10 wb nb mb : Nat) (V U : Nat → Value) (z : World), Q9 w0 A B wb nb mb V U 1 b8 b9 b10 false true true z → wpAnyG Tryz.prog .any (ops9 q0 q1 q2 q3 q4 q5 q6 q7 q8 q9 q10 q11 q12 q13 q14) Q (fun z : World => z.cell? ⟨b2, 0, none⟩ = some (.slice A.sa A.sn A.sc) ∧ z.cell? ⟨b2, 1, none⟩ = some (.slice A.na A.G A.nc) ∧ z.cell? ⟨b2, 2, none⟩ = some (.slice A.ma A.M A.mc) ∧ z.cell? ⟨b2, 3, none⟩ = some (.slice A.oa A.O A.oc) ∧ z.cell? ⟨b2, 4, none⟩ = some (.slice A.fa A.K A.fc) ∧ z.cell? ⟨b3, 0, none⟩ = some (.slice B.sa B.sn B.sc) ∧ z.cell? ⟨b3, 1, none⟩ = some (.slice B.na B.G B.nc) ∧ z.cell? ⟨b3, 2, none⟩ = some (.slice B.ma B.M B.mc) ∧ z.cell? ⟨b3, 3, none⟩ = some (.slice B.oa B.O B.oc) ∧ z.cell? ⟨b3, 4, none⟩ = some (.slice B.fa B.K B.fc)) (fun _ => false) 6 #[true, true, true, true, true, false, true, true, false, false, true, true, false, false, false] { tmps := #[t0, t1, (.pointer (some ⟨b2, 0, none⟩)), (.pointer (some ⟨b3, 0, none⟩)), t4, t5, t6, t7, t8, (.pointer (some ⟨b9, 0, none⟩)), (.pointer (some ⟨b10, 0, none⟩)), t11, t12, t13, t14, t15, t16, t17, t18, t19, t20, t21, t22, t23, t24, t25, t26, t27, t28, t29, t30, t31, t32, t33, t34, t35, t36, t37, t38, t39, t40, (.agg #[.slice A.sa A.sn A.sc, .slice A.na A.G A.nc, .slice A.ma A.M A.mc, .slice A.oa A.O A.oc, .slice A.fa A.K A.fc]), (.agg #[.slice B.sa B.sn B.sc, .slice B.na B.G B.nc, .slice B.ma B.M B.mc, .slice B.oa B.O B.oc, .slice B.fa B.K B.fc]), (.slice (some ⟨wb, 0, none⟩) A.G A.G), (.pointer (some ⟨b2, 1, none⟩)), (.slice A.na A.G A.nc), t46, (.pointer (some ⟨b3, 1, none⟩)), (.slice B.na B.G B.nc), t49, t50, t51, t52, t53, t54, t55, t56, t57, t58, t59, t60, t61, t62, t63, t64, t65, t66, t67, t68, t69, t70, t71, t72, t73, t74, t75, t76, t77, t78, t79, t80, t81, t82, t83, t84, t85, t86, t87, t88, t89, t90, t91, t92, t93, t94, t95, t96, t97, t98, t99, t100, t101, t102, t103, t104, t105, t106, t107, t108, t109, t110, t111, t112, t113, t114, t115, t116, t117, t118, t119, t120, t121, t122, t123, t124, t125, t126, t127, t128, t129, t130, t131, t132, t133, t134, t135, t136, t137, t138, t139, t140, t141, t142, t143, t144, t145], defers := [] } z) := hid (by
  intro b8 b9 b10 wb nb mb V U z hq
  refine G_alt (l := [5, 9]) (by kernel_rfl) (by decide) ?_
  intro i hi
  have hi2 : i = 5 ∨ i = 9 := by simpa using hi
  clear hi
  rcases hi2 with rfl | rfl
  ·refine ⟨{ dst := some 46, op := Op.call { callee := Callee.value (Operand.func 32), args := #[Operand.tmp 45], argTypes := #[30] }, type := 30, pos := _, after := #[{ on := 4, ground := Ground.data }, { on := 2, ground := Ground.chain }], guard := none }, rfl, fun K' hK => ?_⟩
   have hz := hq.low
   have HQ := hid hq
   clear hq
   go_simp
   refine (CA.out z hz).mono ?_
   rintro e z1 ⟨rfl, V1, H1⟩
   dsimp only
   have hq1 := HQ.out.c2 H1.out.2.1 H1.out.1 jq0 H1.out.2.2
   refine hK.out _ _ (fun _ => HS.out _ hq1.low) (fun _ => ?_)
   (try simp only [jq1, jq2, jq3])
   exact K2910.out b8 b9 b10 wb z.heap.size mb V1 U z1 hq1
  ·refine ⟨{ dst := some 8, op := Op.alloc 64, type := 0, pos := _, after := #[], guard := none }, rfl, fun K' hK => ?_⟩
   have hq1 := hq.n8
   have HQ := hid hq1
   clear hq hq1
   go_simp
   refine hK.out _ _ (fun _ => HS.out _ HQ.out.low) (fun _ => ?_)
   (try simp only [jq1, jq2, jq3])
   exact K18910.out z.heap.size b9 b10 wb nb mb V U _ HQ.out)
 have K18 : Hid (∀ (b8 b9 b10 wb nb mb : Nat) (V U : Nat → Value) (z : World), Q9 w0 A B wb nb mb V U 1 b8 b9 b10 true false false z → wpAnyG Tryz.prog .any (ops9 q0 q1 q2 q3 q4 q5 q6 q7 q8 q9 q10 q11 q12 q13 q14) Q (fun z : World => z.cell? ⟨b2, 0, none⟩ = some (.slice A.sa A.sn A.sc) ∧ z.cell? ⟨b2, 1, none⟩ = some (.slice A.na A.G A.nc) ∧ z.cell? ⟨b2, 2, none⟩ = some (.slice A.ma A.M A.mc) ∧ z.cell? ⟨b2, 3, none⟩ = some (.slice A.oa A.O A.oc) ∧ z.cell? ⟨b2, 4, none⟩ = some (.slice A.fa A.K A.fc) ∧ z.cell? ⟨b3, 0, none⟩ = some (.slice B.sa B.sn B.sc) ∧ z.cell? ⟨b3, 1, none⟩ = some (.slice B.na B.G B.nc) ∧ z.cell? ⟨b3, 2, none⟩ = some (.slice B.ma B.M B.mc) ∧ z.cell? ⟨b3, 3, none⟩ = some (.slice B.oa B.O B.oc) ∧ z.cell? ⟨b3, 4, none⟩ = some (.slice B.fa B.K B.fc)) (fun _ => false) 7 #[true, true, true, true, true, false, true, true, false, true, false, false, false, false, false] { tmps := #[t0, t1, (.pointer (some ⟨b2, 0, none⟩)), (.pointer (some ⟨b3, 0, none⟩)), t4, t5, t6, t7, (.pointer (some ⟨b8, 0, none⟩)), t9, t10, t11, t12, t13, t14, t15, t16, t17, t18, t19, t20, t21, t22, t23, t24, t25, t26, t27, t28, t29, t30, t31, t32, t33, t34, t35, t36, t37, t38, t39, t40, (.agg #[.slice A.sa A.sn A.sc, .slice A.na A.G A.nc, .slice A.ma A.M A.mc, .slice A.oa A.O A.oc, .slice A.fa A.K A.fc]), (.agg #[.slice B.sa B.sn B.sc, .slice B.na B.G B.nc, .slice B.ma B.M B.mc, .slice B.oa B.O B.oc, .slice B.fa B.K B.fc]), (.slice (some ⟨wb, 0, none⟩) A.G A.G), (.pointer (some ⟨b2, 1, none⟩)), (.slice A.na A.G A.nc), t46, (.pointer (some ⟨b3, 1, none⟩)), (.slice B.na B.G B.nc), t49, t50, t51, t52, t53, t54, t55, t56, t57, t58, t59, t60, t61, t62, t63, t64, t65, t66, t67, t68, t69, t70, t71, t72, t73, t74, t75, t76, t77, t78, t79, t80, t81, t82, t83, t84, t85, t86, t87, t88, t89, t90, t91, t92, t93, t94, t95, t96, t97, t98, t99, t100, t101, t102, t103, t104, t105, t106, t107, t108, t109, t110, t111, t112, t113, t114, t115, t116, t117, t118, t119, t120, t121, t122, t123, t124, t125, t126, t127, t128, t129, t130, t131, t132, t133, t134, t135, t136, t137, t138, t139, t140, t141, t142, t143, t144, t145], defers := [] } z) := hid (by
  intro b8 b9 b10 wb nb mb V U z hq
  refine G_alt (l := [5, 10, 11]) (by kernel_rfl) (by decide) ?_
  intro i hi
  have hi2 : i = 5 ∨ i = 10 ∨ i = 11 := by simpa using hi
  clear hi
  rcases hi2 with rfl | rfl | rfl
  ·refine ⟨{ dst := some 46, op := Op.call { callee := Callee.value (Operand.func 32), args := #[Operand.tmp 45], argTypes := #[30] }, type := 30, pos := _, after := #[{ on := 4, ground := Ground.data }, { on := 2, ground := Ground.chain }], guard := none }, rfl, fun K' hK => ?_⟩
   have hz := hq.low
   have HQ := hid hq
   clear hq
   go_simp
   refine (CA.out z hz).mono ?_
   rintro e z1 ⟨rfl, V1, H1⟩
   dsimp only
   have hq1 := HQ.out.c2 H1.out.2.1 H1.out.1 jq0 H1.out.2.2
   refine hK.out _ _ (fun _ => HS.out _ hq1.low) (fun _ => ?_)
   (try simp only [jq1, jq2, jq3])
   exact K28.out b8 b9 b10 wb z.heap.size mb V1 U z1 hq1
  ·refine ⟨{ dst := some 9, op := Op.alloc 30, type := 0, pos := _, after := #[], guard := none }, rfl, fun K' hK => ?_⟩
   have hq1 := hq.n9
   have HQ := hid hq1
   clear hq hq1
   go_simp
   refine hK.out _ _ (fun _ => HS.out _ HQ.out.low) (fun _ => ?_)
   (try simp only [jq1, jq2, jq3])
   exact K189.out b8 z.heap.size b10 wb nb mb V U _ HQ.out
  ·refine ⟨{ dst := some 10, op := Op.alloc 30, type := 0, pos := _, after := #[], guard := none }, rfl, fun K' hK => ?_⟩
   have hq1 := hq.n10
   have HQ := hid hq1
   clear hq hq1
   go_simp
   refine hK.out _ _ (fun _ => HS.out _ HQ.out.low) (fun _ => ?_)
   (try simp only [jq1, jq2, jq3])
   exact K1810.out b8 b9 z.heap.size wb nb mb V U _ HQ.out)
 have K19 : Hid (∀ (b8 b9 b10 wb nb mb : Nat) (V U : Nat → Value) (z : World), Q9 w0 A B wb nb mb V U 1 b8 b9 b10 false true false z → wpAnyG Tryz.prog .any (ops9 q0 q1 q2 q3 q4 q5 q6 q7 q8 q9 q10 q11 q12 q13 q14) Q (fun z : World => z.cell? ⟨b2, 0, none⟩ = some (.slice A.sa A.sn A.sc) ∧ z.cell? ⟨b2, 1, none⟩ = some (.slice A.na A.G A.nc) ∧ z.cell? ⟨b2, 2, none⟩ = some (.slice A.ma A.M A.mc) ∧ z.cell? ⟨b2, 3, none⟩ = some (.slice A.oa A.O A.oc) ∧ z.cell? ⟨b2, 4, none⟩ = some (.slice A.fa A.K A.fc) ∧ z.cell? ⟨b3, 0, none⟩ = some (.slice B.sa B.sn B.sc) ∧ z.cell? ⟨b3, 1, none⟩ = some (.slice B.na B.G B.nc) ∧ z.cell? ⟨b3, 2, none⟩ = some (.slice B.ma B.M B.mc) ∧ z.cell? ⟨b3, 3, none⟩ = some (.slice B.oa B.O B.oc) ∧ z.cell? ⟨b3, 4, none⟩ = some (.slice B.fa B.K B.fc)) (fun _ => false) 7 #[true, true, true, true, true, false, true, true, false, false, true, false, false, false, false] { tmps := #[t0, t1, (.pointer (some ⟨b2, 0, none⟩)), (.pointer (some ⟨b3, 0, none⟩)), t4, t5, t6, t7, t8, (.pointer (some ⟨b9, 0, none⟩)), t10, t11, t12, t13, t14, t15, t16, t17, t18, t19, t20, t21, t22, t23, t24, t25, t26, t27, t28, t29, t30, t31, t32, t33, t34, t35, t36, t37, t38, t39, t40, (.agg #[.slice A.sa A.sn A.sc, .slice A.na A.G A.nc, .slice A.ma A.M A.mc, .slice A.oa A.O A.oc, .slice A.fa A.K A.fc]), (.agg #[.slice B.sa B.sn B.sc, .slice B.na B.G B.nc, .slice B.ma B.M B.mc, .slice B.oa B.O B.oc, .slice B.fa B.K B.fc]), (.slice (some ⟨wb, 0, none⟩) A.G A.G), (.pointer (some ⟨b2, 1, none⟩)), (.slice A.na A.G A.nc), t46, (.pointer (some ⟨b3, 1, none⟩)), (.slice B.na B.G B.nc), t49, t50, t51, t52, t53, t54, t55, t56, t57, t58, t59, t60, t61, t62, t63, t64, t65, t66, t67, t68, t69, t70, t71, t72, t73, t74, t75, t76, t77, t78, t79, t80, t81, t82, t83, t84, t85, t86, t87, t88, t89, t90, t91, t92, t93, t94, t95, t96, t97, t98, t99, t100, t101, t102, t103, t104, t105, t106, t107, t108, t109, t110, t111, t112, t113, t114, t115, t116, t117, t118, t119, t120, t121, t122, t123, t124, t125, t126, t127, t128, t129, t130, t131, t132, t133, t134, t135, t136, t137, t138, t139, t140, t141, t142, t143, t144, t145], defers := [] } z) := hid (by
  intro b8 b9 b10 wb nb mb V U z hq
  refine G_alt (l := [5, 9, 11]) (by kernel_rfl) (by decide) ?_
  intro i hi
  have hi2 : i = 5 ∨ i = 9 ∨ i = 11 := by simpa using hi
  clear hi
  rcases hi2 with rfl | rfl | rfl
  ·refine ⟨{ dst := some 46, op := Op.call { callee := Callee.value (Operand.func 32), args := #[Operand.tmp 45], argTypes := #[30] }, type := 30, pos := _, after := #[{ on := 4, ground := Ground.data }, { on := 2, ground := Ground.chain }], guard := none }, rfl, fun K' hK => ?_⟩
   have hz := hq.low
   have HQ := hid hq
   clear hq
   go_simp
   refine (CA.out z hz).mono ?_
   rintro e z1 ⟨rfl, V1, H1⟩
   dsimp only
   have hq1 := HQ.out.c2 H1.out.2.1 H1.out.1 jq0 H1.out.2.2
   refine hK.out _ _ (fun _ => HS.out _ hq1.low) (fun _ => ?_)
   (try simp only [jq1, jq2, jq3])
   exact K29.out b8 b9 b10 wb z.heap.size mb V1 U z1 hq1
  ·refine ⟨{ dst := some 8, op := Op.alloc 64, type := 0, pos := _, after := #[], guard := none }, rfl, fun K' hK => ?_⟩
   have hq1 := hq.n8
   have HQ := hid hq1
   clear hq hq1
   go_simp
   refine hK.out _ _ (fun _ => HS.out _ HQ.out.low) (fun _ => ?_)
   (try simp only [jq1, jq2, jq3])
   exact K189.out z.heap.size b9 b10 wb nb mb V U _ HQ.out
  ·refine ⟨{ dst := some 10, op := Op.alloc 30, type := 0, pos := _, after := #[], guard := none }, rfl, fun K' hK => ?_⟩
   have hq1 := hq.n10
   have HQ := hid hq1
   clear hq hq1
   go_simp
   refine hK.out _ _ (fun _ => HS.out _ HQ.out.low) (fun _ => ?_)
   (try simp only [jq1, jq2, jq3])
   exact K1910.out b8 b9 z.heap.size wb nb mb V U _ HQ.out)
 have K110 : Hid (∀ (b8 b9 b10 wb nb mb : Nat) (V U : Nat → Value) (z : World), Q9 w0 A B wb nb mb V U 1 b8 b9 b10 false false true z → wpAnyG Tryz.prog .any (ops9 q0 q1 q2 q3 q4 q5 q6 q7 q8 q9 q10 q11 q12 q13 q14) Q (fun z : World => z.cell? ⟨b2, 0, none⟩ = some (.slice A.sa A.sn A.sc) ∧ z.cell? ⟨b2, 1, none⟩ = some (.slice A.na A.G A.nc) ∧ z.cell? ⟨b2, 2, none⟩ = some (.slice A.ma A.M A.mc) ∧ z.cell? ⟨b2, 3, none⟩ = some (.slice A.oa A.O A.oc) ∧ z.cell? ⟨b2, 4, none⟩ = some (.slice A.fa A.K A.fc) ∧ z.cell? ⟨b3, 0, none⟩ = some (.slice B.sa B.sn B.sc) ∧ z.cell? ⟨b3, 1, none⟩ = some (.slice B.na B.G B.nc) ∧ z.cell? ⟨b3, 2, none⟩ = some (.slice B.ma B.M B.mc) ∧ z.cell? ⟨b3, 3, none⟩ = some (.slice B.oa B.O B.oc) ∧ z.cell? ⟨b3, 4, none⟩ = some (.slice B.fa B.K B.fc)) (fun _ => false) 7 #[true, true, true, true, true, false, true, true, false, false, false, true, false, false, false] { tmps := #[t0, t1, (.pointer (some ⟨b2, 0, none⟩)), (.pointer (some ⟨b3, 0, none⟩)), t4, t5, t6, t7, t8, t9, (.pointer (some ⟨b10, 0, none⟩)), t11, t12, t13, t14, t15, t16, t17, t18, t19, t20, t21, t22, t23, t24, t25, t26, t27, t28, t29, t30, t31, t32, t33, t34, t35, t36, t37, t38, t39, t40, (.agg #[.slice A.sa A.sn A.sc, .slice A.na A.G A.nc, .slice A.ma A.M A.mc, .slice A.oa A.O A.oc, .slice A.fa A.K A.fc]), (.agg #[.slice B.sa B.sn B.sc, .slice B.na B.G B.nc, .slice B.ma B.M B.mc, .slice B.oa B.O B.oc, .slice B.fa B.K B.fc]), (.slice (some ⟨wb, 0, none⟩) A.G A.G), (.pointer (some ⟨b2, 1, none⟩)), (.slice A.na A.G A.nc), t46, (.pointer (some ⟨b3, 1, none⟩)), (.slice B.na B.G B.nc), t49, t50, t51, t52, t53, t54, t55, t56, t57, t58, t59, t60, t61, t62, t63, t64, t65, t66, t67, t68, t69, t70, t71, t72, t73, t74, t75, t76, t77, t78, t79, t80, t81, t82, t83, t84, t85, t86, t87, t88, t89, t90, t91, t92, t93, t94, t95, t96, t97, t98, t99, t100, t101, t102, t103, t104, t105, t106, t107, t108, t109, t110, t111, t112, t113, t114, t115, t116, t117, t118, t119, t120, t121, t122, t123, t124, t125, t126, t127, t128, t129, t130, t131, t132, t133, t134, t135, t136, t137, t138, t139, t140, t141, t142, t143, t144, t145], defers := [] } z) := hid (by
  intro b8 b9 b10 wb nb mb V U z hq
  refine G_alt (l := [5, 9, 10]) (by kernel_rfl) (by decide) ?_
  intro i hi
  have hi2 : i = 5 ∨ i = 9 ∨ i = 10 := by simpa using hi
  clear hi
  rcases hi2 with rfl | rfl | rfl
  ·refine ⟨{ dst := some 46, op := Op.call { callee := Callee.value (Operand.func 32), args := #[Operand.tmp 45], argTypes := #[30] }, type := 30, pos := _, after := #[{ on := 4, ground := Ground.data }, { on := 2, ground := Ground.chain }], guard := none }, rfl, fun K' hK => ?_⟩
   have hz := hq.low
   have HQ := hid hq
   clear hq
   go_simp
   refine (CA.out z hz).mono ?_
   rintro e z1 ⟨rfl, V1, H1⟩
   dsimp only
   have hq1 := HQ.out.c2 H1.out.2.1 H1.out.1 jq0 H1.out.2.2
   refine hK.out _ _ (fun _ => HS.out _ hq1.low) (fun _ => ?_)
   (try simp only [jq1, jq2, jq3])
   exact K210.out b8 b9 b10 wb z.heap.size mb V1 U z1 hq1
  ·refine ⟨{ dst := some 8, op := Op.alloc 64, type := 0, pos := _, after := #[], guard := none }, rfl, fun K' hK => ?_⟩
   have hq1 := hq.n8
   have HQ := hid hq1
   clear hq hq1
   go_simp
   refine hK.out _ _ (fun _ => HS.out _ HQ.out.low) (fun _ => ?_)
   (try simp only [jq1, jq2, jq3])
   exact K1810.out z.heap.size b9 b10 wb nb mb V U _ HQ.out
  ·refine ⟨{ dst := some 9, op := Op.alloc 30, type := 0, pos := _, after := #[], guard := none }, rfl, fun K' hK => ?_⟩
   have hq1 := hq.n9
   have HQ := hid hq1
   clear hq hq1
   go_simp
   refine hK.out _ _ (fun _ => HS.out _ HQ.out.low) (fun _ => ?_)
   (try simp only [jq1, jq2, jq3])
   exact K1910.out b8 z.heap.size b10 wb nb mb V U _ HQ.out)
 have K1 : Hid (∀ (b8 b9 b10 wb nb mb : Nat) (V U : Nat → Value) (z : World), Q9 w0 A B wb nb mb V U 1 b8 b9 b10 false false false z → wpAnyG Tryz.prog .any (ops9 q0 q1 q2 q3 q4 q5 q6 q7 q8 q9 q10 q11 q12 q13 q14) Q (fun z : World => z.cell? ⟨b2, 0, none⟩ = some (.slice A.sa A.sn A.sc) ∧ z.cell? ⟨b2, 1, none⟩ = some (.slice A.na A.G A.nc) ∧ z.cell? ⟨b2, 2, none⟩ = some (.slice A.ma A.M A.mc) ∧ z.cell? ⟨b2, 3, none⟩ = some (.slice A.oa A.O A.oc) ∧ z.cell? ⟨b2, 4, none⟩ = some (.slice A.fa A.K A.fc) ∧ z.cell? ⟨b3, 0, none⟩ = some (.slice B.sa B.sn B.sc) ∧ z.cell? ⟨b3, 1, none⟩ = some (.slice B.na B.G B.nc) ∧ z.cell? ⟨b3, 2, none⟩ = some (.slice B.ma B.M B.mc) ∧ z.cell? ⟨b3, 3, none⟩ = some (.slice B.oa B.O B.oc) ∧ z.cell? ⟨b3, 4, none⟩ = some (.slice B.fa B.K B.fc)) (fun _ => false) 8 #[true, true, true, true, true, false, true, true, false, false, false, false, false, false, false] { tmps := #[t0, t1, (.pointer (some ⟨b2, 0, none⟩)), (.pointer (some ⟨b3, 0, none⟩)), t4, t5, t6, t7, t8, t9, t10, t11, t12, t13, t14, t15, t16, t17, t18, t19, t20, t21, t22, t23, t24, t25, t26, t27, t28, t29, t30, t31, t32, t33, t34, t35, t36, t37, t38, t39, t40, (.agg #[.slice A.sa A.sn A.sc, .slice A.na A.G A.nc, .slice A.ma A.M A.mc, .slice A.oa A.O A.oc, .slice A.fa A.K A.fc]), (.agg #[.slice B.sa B.sn B.sc, .slice B.na B.G B.nc, .slice B.ma B.M B.mc, .slice B.oa B.O B.oc, .slice B.fa B.K B.fc]), (.slice (some ⟨wb, 0, none⟩) A.G A.G), (.pointer (some ⟨b2, 1, none⟩)), (.slice A.na A.G A.nc), t46, (.pointer (some ⟨b3, 1, none⟩)), (.slice B.na B.G B.nc), t49, t50, t51, t52, t53, t54, t55, t56, t57, t58, t59, t60, t61, t62, t63, t64, t65, t66, t67, t68, t69, t70, t71, t72, t73, t74, t75, t76, t77, t78, t79, t80, t81, t82, t83, t84, t85, t86, t87, t88, t89, t90, t91, t92, t93, t94, t95, t96, t97, t98, t99, t100, t101, t102, t103, t104, t105, t106, t107, t108, t109, t110, t111, t112, t113, t114, t115, t116, t117, t118, t119, t120, t121, t122, t123, t124, t125, t126, t127, t128, t129, t130, t131, t132, t133, t134, t135, t136, t137, t138, t139, t140, t141, t142, t143, t144, t145], defers := [] } z) := hid (by
  intro b8 b9 b10 wb nb mb V U z hq
  refine G_alt (l := [5, 9, 10, 11]) (by kernel_rfl) (by decide) ?_
  intro i hi
  have hi2 : i = 5 ∨ i = 9 ∨ i = 10 ∨ i = 11 := by simpa using hi
  clear hi
  rcases hi2 with rfl | rfl | rfl | rfl
  ·refine ⟨{ dst := some 46, op := Op.call { callee := Callee.value (Operand.func 32), args := #[Operand.tmp 45], argTypes := #[30] }, type := 30, pos := _, after := #[{ on := 4, ground := Ground.data }, { on := 2, ground := Ground.chain }], guard := none }, rfl, fun K' hK => ?_⟩
   have hz := hq.low
   have HQ := hid hq
   clear hq
   go_simp
   refine (CA.out z hz).mono ?_
   rintro e z1 ⟨rfl, V1, H1⟩
   dsimp only
   have hq1 := HQ.out.c2 H1.out.2.1 H1.out.1 jq0 H1.out.2.2
   refine hK.out _ _ (fun _ => HS.out _ hq1.low) (fun _ => ?_)
   (try simp only [jq1, jq2, jq3])
   exact K2.out b8 b9 b10 wb z.heap.size mb V1 U z1 hq1
  ·refine ⟨{ dst := some 8, op := Op.alloc 64, type := 0, pos := _, after := #[], guard := none }, rfl, fun K' hK => ?_⟩
   have hq1 := hq.n8
   have HQ := hid hq1
   clear hq hq1
   go_simp
   refine hK.out _ _ (fun _ => HS.out _ HQ.out.low) (fun _ => ?_)
   (try simp only [jq1, jq2, jq3])
   exact K18.out z.heap.size b9 b10 wb nb mb V U _ HQ.out
  ·refine ⟨{ dst := some 9, op := Op.alloc 30, type := 0, pos := _, after := #[], guard := none }, rfl, fun K' hK => ?_⟩
   have hq1 := hq.n9
   have HQ := hid hq1
   clear hq hq1
   go_simp
   refine hK.out _ _ (fun _ => HS.out _ HQ.out.low) (fun _ => ?_)
   (try simp only [jq1, jq2, jq3])
   exact K19.out b8 z.heap.size b10 wb nb mb V U _ HQ.out
  ·refine ⟨{ dst := some 10, op := Op.alloc 30, type := 0, pos := _, after := #[], guard := none }, rfl, fun K' hK => ?_⟩
   have hq1 := hq.n10
   have HQ := hid hq1
   clear hq hq1
   go_simp
   refine hK.out _ _ (fun _ => HS.out _ HQ.out.low) (fun _ => ?_)
   (try simp only [jq1, jq2, jq3])
   exact K110.out b8 b9 z.heap.size wb nb mb V U _ HQ.out)
 have K08910 : Hid (∀ (b8 b9 b10 wb nb mb : Nat) (V U : Nat → Value) (z : World), Q9 w0 A B wb nb mb V U 0 b8 b9 b10 true true true z → wpAnyG Tryz.prog .any (ops9 q0 q1 q2 q3 q4 q5 q6 q7 q8 q9 q10 q11 q12 q13 q14) Q (fun z : World => z.cell? ⟨b2, 0, none⟩ = some (.slice A.sa A.sn A.sc) ∧ z.cell? ⟨b2, 1, none⟩ = some (.slice A.na A.G A.nc) ∧ z.cell? ⟨b2, 2, none⟩ = some (.slice A.ma A.M A.mc) ∧ z.cell? ⟨b2, 3, none⟩ = some (.slice A.oa A.O A.oc) ∧ z.cell? ⟨b2, 4, none⟩ = some (.slice A.fa A.K A.fc) ∧ z.cell? ⟨b3, 0, none⟩ = some (.slice B.sa B.sn B.sc) ∧ z.cell? ⟨b3, 1, none⟩ = some (.slice B.na B.G B.nc) ∧ z.cell? ⟨b3, 2, none⟩ = some (.slice B.ma B.M B.mc) ∧ z.cell? ⟨b3, 3, none⟩ = some (.slice B.oa B.O B.oc) ∧ z.cell? ⟨b3, 4, none⟩ = some (.slice B.fa B.K B.fc)) (fun _ => false) 6 #[true, true, false, true, true, false, true, true, false, true, true, true, false, false, false] { tmps := #[t0, t1, (.pointer (some ⟨b2, 0, none⟩)), (.pointer (some ⟨b3, 0, none⟩)), t4, t5, t6, t7, (.pointer (some ⟨b8, 0, none⟩)), (.pointer (some ⟨b9, 0, none⟩)), (.pointer (some ⟨b10, 0, none⟩)), t11, t12, t13, t14, t15, t16, t17, t18, t19, t20, t21, t22, t23, t24, t25, t26, t27, t28, t29, t30, t31, t32, t33, t34, t35, t36, t37, t38, t39, t40, (.agg #[.slice A.sa A.sn A.sc, .slice A.na A.G A.nc, .slice A.ma A.M A.mc, .slice A.oa A.O A.oc, .slice A.fa A.K A.fc]), (.agg #[.slice B.sa B.sn B.sc, .slice B.na B.G B.nc, .slice B.ma B.M B.mc, .slice B.oa B.O B.oc, .slice B.fa B.K B.fc]), t43, (.pointer (some ⟨b2, 1, none⟩)), (.slice A.na A.G A.nc), t46, (.pointer (some ⟨b3, 1, none⟩)), (.slice B.na B.G B.nc), t49, t50, t51, t52, t53, t54, t55, t56, t57, t58, t59, t60, t61, t62, t63, t64, t65, t66, t67, t68, t69, t70, t71, t72, t73, t74, t75, t76, t77, t78, t79, t80, t81, t82, t83, t84, t85, t86, t87, t88, t89, t90, t91, t92, t93, t94, t95, t96, t97, t98, t99, t100, t101, t102, t103, t104, t105, t106, t107, t108, t109, t110, t111, t112, t113, t114, t115, t116, t117, t118, t119, t120, t121, t122, t123, t124, t125, t126, t127, t128, t129, t130, t131, t132, t133, t134, t135, t136, t137, t138, t139, t140, t141, t142, t143, t144, t145], defers := [] } z) := hid (by
  intro b8 b9 b10 wb nb mb V U z hq
  refine G_alt (l := [2]) (by kernel_rfl) (by decide) ?_
  intro i hi
  obtain rfl : i = 2 := by simpa using hi
  clear hi
  ·refine ⟨{ dst := some 43, op := Op.call { callee := Callee.value (Operand.func 31), args := #[Operand.tmp 41, Operand.tmp 42], argTypes := #[32, 32] }, type := 64, pos := _, after := #[{ on := 0, ground := Ground.data }, { on := 1, ground := Ground.data }], guard := none }, rfl, fun K' hK => ?_⟩
   have hz := hq.low
   have HQ := hid hq
   clear hq
   go_simp
   refine (C37.out z hz).mono ?_
   rintro e z1 ⟨rfl, H1⟩
   dsimp only
   have hq1 := HQ.out.c1 H1.out.2.1 H1.out.1 (by omega) H1.out.2.2
   refine hK.out _ _ (fun _ => HS.out _ hq1.low) (fun _ => ?_)
   (try simp only [jq1, jq2, jq3])
   exact K18910.out b8 b9 b10 (z.heap.size + 2) nb mb V U z1 hq1)
 have K089 : Hid (∀ (b8 b9 b10 wb nb mb : Nat) (V U : Nat → Value) (z : World), Q9 w0 A B wb nb mb V U 0 b8 b9 b10 true true false z → wpAnyG Tryz.prog .any (ops9 q0 q1 q2 q3 q4 q5 q6 q7 q8 q9 q10 q11 q12 q13 q14) Q (fun z : World => z.cell? ⟨b2, 0, none⟩ = some (.slice A.sa A.sn A.sc) ∧ z.cell? ⟨b2, 1, none⟩ = some (.slice A.na A.G A.nc) ∧ z.cell? ⟨b2, 2, none⟩ = some (.slice A.ma A.M A.mc) ∧ z.cell? ⟨b2, 3, none⟩ = some (.slice A.oa A.O A.oc) ∧ z.cell? ⟨b2, 4, none⟩ = some (.slice A.fa A.K A.fc) ∧ z.cell? ⟨b3, 0, none⟩ = some (.slice B.sa B.sn B.sc) ∧ z.cell? ⟨b3, 1, none⟩ = some (.slice B.na B.G B.nc) ∧ z.cell? ⟨b3, 2, none⟩ = some (.slice B.ma B.M B.mc) ∧ z.cell? ⟨b3, 3, none⟩ = some (.slice B.oa B.O B.oc) ∧ z.cell? ⟨b3, 4, none⟩ = some (.slice B.fa B.K B.fc)) (fun _ => false) 7 #[true, true, false, true, true, false, true, true, false, true, true, false, false, false, false] { tmps := #[t0, t1, (.pointer (some ⟨b2, 0, none⟩)), (.pointer (some ⟨b3, 0, none⟩)), t4, t5, t6, t7, (.pointer (some ⟨b8, 0, none⟩)), (.pointer (some ⟨b9, 0, none⟩)), t10, t11, t12, t13, t14, t15, t16, t17, t18, t19, t20, t21, t22, t23, t24, t25, t26, t27, t28, t29, t30, t31, t32, t33, t34, t35, t36, t37, t38, t39, t40, (.agg #[.slice A.sa A.sn A.sc, .slice A.na A.G A.nc, .slice A.ma A.M A.mc, .slice A.oa A.O A.oc, .slice A.fa A.K A.fc]), (.agg #[.slice B.sa B.sn B.sc, .slice B.na B.G B.nc, .slice B.ma B.M B.mc, .slice B.oa B.O B.oc, .slice B.fa B.K B.fc]), t43, (.pointer (some ⟨b2, 1, none⟩)), (.slice A.na A.G A.nc), t46, (.pointer (some ⟨b3, 1, none⟩)), (.slice B.na B.G B.nc), t49, t50, t51, t52, t53, t54, t55, t56, t57, t58, t59, t60, t61, t62, t63, t64, t65, t66, t67, t68, t69, t70, t71, t72, t73, t74, t75, t76, t77, t78, t79, t80, t81, t82, t83, t84, t85, t86, t87, t88, t89, t90, t91, t92, t93, t94, t95, t96, t97, t98, t99, t100, t101, t102, t103, t104, t105, t106, t107, t108, t109, t110, t111, t112, t113, t114, t115, t116, t117, t118, t119, t120, t121, t122, t123, t124, t125, t126, t127, t128, t129, t130, t131, t132, t133, t134, t135, t136, t137, t138, t139, t140, t141, t142, t143, t144, t145], defers := [] } z) := hid (by
  intro b8 b9 b10 wb nb mb V U z hq
  refine G_alt (l := [2, 11]) (by kernel_rfl) (by decide) ?_
  intro i hi
  have hi2 : i = 2 ∨ i = 11 := by simpa using hi
  clear hi
  rcases hi2 with rfl | rfl
  ·refine ⟨{ dst := some 43, op := Op.call { callee := Callee.value (Operand.func 31), args := #[Operand.tmp 41, Operand.tmp 42], argTypes := #[32, 32] }, type := 64, pos := _, after := #[{ on := 0, ground := Ground.data }, { on := 1, ground := Ground.data }], guard := none }, rfl, fun K' hK => ?_⟩
   have hz := hq.low
   have HQ := hid hq
   clear hq
   go_simp
   refine (C37.out z hz).mono ?_
   rintro e z1 ⟨rfl, H1⟩
   dsimp only
   have hq1 := HQ.out.c1 H1.out.2.1 H1.out.1 (by omega) H1.out.2.2
   refine hK.out _ _ (fun _ => HS.out _ hq1.low) (fun _ => ?_)
   (try simp only [jq1, jq2, jq3])
   exact K189.out b8 b9 b10 (z.heap.size + 2) nb mb V U z1 hq1
  ·refine ⟨{ dst := some 10, op := Op.alloc 30, type := 0, pos := _, after := #[], guard := none }, rfl, fun K' hK => ?_⟩
   have hq1 := hq.n10
   have HQ := hid hq1
   clear hq hq1
   go_simp
   refine hK.out _ _ (fun _ => HS.out _ HQ.out.low) (fun _ => ?_)
   (try simp only [jq1, jq2, jq3])
   exact K08910.out b8 b9 z.heap.size wb nb mb V U _ HQ.out)
 have K0810 : Hid (∀ (b8 b9 b10 wb nb mb : Nat) (V U : Nat → Value) (z : World), Q9 w0 A B wb nb mb V U 0 b8 b9 b10 true false true z → wpAnyG Tryz.prog .any (ops9 q0 q1 q2 q3 q4 q5 q6 q7 q8 q9 q10 q11 q12 q13 q14) Q (fun z : World => z.cell? ⟨b2, 0, none⟩ = some (.slice A.sa A.sn A.sc) ∧ z.cell? ⟨b2, 1, none⟩ = some (.slice A.na A.G A.nc) ∧ z.cell? ⟨b2, 2, none⟩ = some (.slice A.ma A.M A.mc) ∧ z.cell? ⟨b2, 3, none⟩ = some (.slice A.oa A.O A.oc) ∧ z.cell? ⟨b2, 4, none⟩ = some (.slice A.fa A.K A.fc) ∧ z.cell? ⟨b3, 0, none⟩ = some (.slice B.sa B.sn B.sc) ∧ z.cell? ⟨b3, 1, none⟩ = some (.slice B.na B.G B.nc) ∧ z.cell? ⟨b3, 2, none⟩ = some (.slice B.ma B.M B.mc) ∧ z.cell? ⟨b3, 3, none⟩ = some (.slice B.oa B.O B.oc) ∧ z.cell? ⟨b3, 4, none⟩ = some (.slice B.fa B.K B.fc)) (fun _ => false) 7 #[true, true, false, true, true, false, true, true, false, true, false, true, false, false, false] { tmps := #[t0, t1, (.pointer (some ⟨b2, 0, none⟩)), (.pointer (some ⟨b3, 0, none⟩)), t4, t5, t6, t7, (.pointer (some ⟨b8, 0, none⟩)), t9, (.pointer (some ⟨b10, 0, none⟩)), t11, t12, t13, t14, t15, t16, t17, t18, t19, t20, t21, t22, t23, t24, t25, t26, t27, t28, t29, t30, t31, t32, t33, t34, t35, t36, t37, t38, t39, t40, (.agg #[.slice A.sa A.sn A.sc, .slice A.na A.G A.nc, .slice A.ma A.M A.mc, .slice A.oa A.O A.oc, .slice A.fa A.K A.fc]), (.agg #[.slice B.sa B.sn B.sc, .slice B.na B.G B.nc, .slice B.ma B.M B.mc, .slice B.oa B.O B.oc, .slice B.fa B.K B.fc]), t43, (.pointer (some ⟨b2, 1, none⟩)), (.slice A.na A.G A.nc), t46, (.pointer (some ⟨b3, 1, none⟩)), (.slice B.na B.G B.nc), t49, t50, t51, t52, t53, t54, t55, t56, t57, t58, t59, t60, t61, t62, t63, t64, t65, t66, t67, t68, t69, t70, t71, t72, t73, t74, t75, t76, t77, t78, t79, t80, t81, t82, t83, t84, t85, t86, t87, t88, t89, t90, t91, t92, t93, t94, t95, t96, t97, t98, t99, t100, t101, t102, t103, t104, t105, t106, t107, t108, t109, t110, t111, t112, t113, t114, t115, t116, t117, t118, t119, t120, t121, t122, t123, t124, t125, t126, t127, t128, t129, t130, t131, t132, t133, t134, t135, t136, t137, t138, t139, t140, t141, t142, t143, t144, t145], defers := [] } z) := hid (by
  intro b8 b9 b10 wb nb mb V U z hq
  refine G_alt (l := [2, 10]) (by kernel_rfl) (by decide) ?_
  intro i hi
  have hi2 : i = 2 ∨ i = 10 := by simpa using hi
  clear hi
  rcases hi2 with rfl | rfl
  ·refine ⟨{ dst := some 43, op := Op.call { callee := Callee.value (Operand.func 31), args := #[Operand.tmp 41, Operand.tmp 42], argTypes := #[32, 32] }, type := 64, pos := _, after := #[{ on := 0, ground := Ground.data }, { on := 1, ground := Ground.data }], guard := none }, rfl, fun K' hK => ?_⟩
   have hz := hq.low
   have HQ := hid hq
   clear hq
   go_simp
   refine (C37.out z hz).mono ?_
   rintro e z1 ⟨rfl, H1⟩
   dsimp only
   have hq1 := HQ.out.c1 H1.out.2.1 H1.out.1 (by omega) H1.out.2.2
   refine hK.out _ _ (fun _ => HS.out _ hq1.low) (fun _ => ?_)
   (try simp only [jq1, jq2, jq3])
   exact K1810.out b8 b9 b10 (z.heap.size + 2) nb mb V U z1 hq1
  ·refine ⟨{ dst := some 9, op := Op.alloc 30, type := 0, pos := _, after := #[], guard := none }, rfl, fun K' hK => ?_⟩
   have hq1 := hq.n9
   have HQ := hid hq1
   clear hq hq1
   go_simp
   refine hK.out _ _ (fun _ => HS.out _ HQ.out.low) (fun _ => ?_)
   (try simp only [jq1, jq2, jq3])
   exact K08910.out b8 z.heap.size b10 wb nb mb V U _ HQ.out)
 have K0910 : Hid (∀ (b8 b9 b10 wb nb mb : Nat) (V U : Nat → Value) (z : World), Q9 w0 A B wb nb mb V U 0 b8 b9 b10 false true true z → wpAnyG Tryz.prog .any (ops9 q0 q1 q2 q3 q4 q5 q6 q7 q8 q9 q10 q11 q12 q13 q14) Q (fun z : World => z.cell? ⟨b2, 0, none⟩ = some (.slice A.sa A.sn A.sc) ∧ z.cell? ⟨b2, 1, none⟩ = some (.slice A.na A.G A.nc) ∧ z.cell? ⟨b2, 2, none⟩ = some (.slice A.ma A.M A.mc) ∧ z.cell? ⟨b2, 3, none⟩ = some (.slice A.oa A.O A.oc) ∧ z.cell? ⟨b2, 4, none⟩ = some (.slice A.fa A.K A.fc) ∧ z.cell? ⟨b3, 0, none⟩ = some (.slice B.sa B.sn B.sc) ∧ z.cell? ⟨b3, 1, none⟩ = some (.slice B.na B.G B.nc) ∧ z.cell? ⟨b3, 2, none⟩ = some (.slice B.ma B.M B.mc) ∧ z.cell? ⟨b3, 3, none⟩ = some (.slice B.oa B.O B.oc) ∧ z.cell? ⟨b3, 4, none⟩ = some (.slice B.fa B.K B.fc)) (fun _ => false) 7 #[true, true, false, true, true, false, true, true, false, false, true, true, false, false, false] { tmps := #[t0, t1, (.pointer (some ⟨b2, 0, none⟩)), (.pointer (some ⟨b3, 0, none⟩)), t4, t5, t6, t7, t8, (.pointer (some ⟨b9, 0, none⟩)), (.pointer (some ⟨b10, 0, none⟩)), t11, t12, t13, t14, t15, t16, t17, t18, t19, t20, t21, t22, t23, t24, t25, t26, t27, t28, t29, t30, t31, t32, t33, t34, t35, t36, t37, t38, t39, t40, (.agg #[.slice A.sa A.sn A.sc, .slice A.na A.G A.nc, .slice A.ma A.M A.mc, .slice A.oa A.O A.oc, .slice A.fa A.K A.fc]), (.agg #[.slice B.sa B.sn B.sc, .slice B.na B.G B.nc, .slice B.ma B.M B.mc, .slice B.oa B.O B.oc, .slice B.fa B.K B.fc]), t43, (.pointer (some ⟨b2, 1, none⟩)), (.slice A.na A.G A.nc), t46, (.pointer (some ⟨b3, 1, none⟩)), (.slice B.na B.G B.nc), t49, t50, t51, t52, t53, t54, t55, t56, t57, t58, t59, t60, t61, t62, t63, t64, t65, t66, t67, t68, t69, t70, t71, t72, t73, t74, t75, t76, t77, t78, t79, t80, t81, t82, t83, t84, t85, t86, t87, t88, t89, t90, t91, t92, t93, t94, t95, t96, t97, t98, t99, t100, t101, t102, t103, t104, t105, t106, t107, t108, t109, t110, t111, t112, t113, t114, t115, t116, t117, t118, t119, t120, t121, t122, t123, t124, t125, t126, t127, t128, t129, t130, t131, t132, t133, t134, t135, t136, t137, t138, t139, t140, t141, t142, t143, t144, t145], defers := [] } z) := hid (by
  intro b8 b9 b10 wb nb mb V U z hq
  refine G_alt (l := [2, 9]) (by kernel_rfl) (by decide) ?_
  intro i hi
  have hi2 : i = 2 ∨ i = 9 := by simpa using hi
  clear hi
  rcases hi2 with rfl | rfl
  ·refine ⟨{ dst := some 43, op := Op.call { callee := Callee.value (Operand.func 31), args := #[Operand.tmp 41, Operand.tmp 42], argTypes := #[32, 32] }, type := 64, pos := _, after := #[{ on := 0, ground := Ground.data }, { on := 1, ground := Ground.data }], guard := none }, rfl, fun K' hK => ?_⟩
   have hz := hq.low
   have HQ := hid hq
   clear hq
   go_simp
   refine (C37.out z hz).mono ?_
   rintro e z1 ⟨rfl, H1⟩
   dsimp only
   have hq1 := HQ.out.c1 H1.out.2.1 H1.out.1 (by omega) H1.out.2.2
   refine hK.out _ _ (fun _ => HS.out _ hq1.low) (fun _ => ?_)
   (try simp only [jq1, jq2, jq3])
   exact K1910.out b8 b9 b10 (z.heap.size + 2) nb mb V U z1 hq1
  ·refine ⟨{ dst := some 8, op := Op.alloc 64, type := 0, pos := _, after := #[], guard := none }, rfl, fun K' hK => ?_⟩
   have hq1 := hq.n8
   have HQ := hid hq1
   clear hq hq1
   go_simp
   refine hK.out _ _ (fun _ => HS.out _ HQ.out.low) (fun _ => ?_)
   (try simp only [jq1, jq2, jq3])
   exact K08910.out z.heap.size b9 b10 wb nb mb V U _ HQ.out)
 have K08 : Hid (∀ (b8 b9 b10 wb nb mb : Nat) (V U : Nat → Value) (z : World), Q9 w0 A B wb nb mb V U 0 b8 b9 b10 true false false z → wpAnyG Tryz.prog .any (ops9 q0 q1 q2 q3 q4 q5 q6 q7 q8 q9 q10 q11 q12 q13 q14) Q (fun z : World => z.cell? ⟨b2, 0, none⟩ = some (.slice A.sa A.sn A.sc) ∧ z.cell? ⟨b2, 1, none⟩ = some (.slice A.na A.G A.nc) ∧ z.cell? ⟨b2, 2, none⟩ = some (.slice A.ma A.M A.mc) ∧ z.cell? ⟨b2, 3, none⟩ = some (.slice A.oa A.O A.oc) ∧ z.cell? ⟨b2, 4, none⟩ = some (.slice A.fa A.K A.fc) ∧ z.cell? ⟨b3, 0, none⟩ = some (.slice B.sa B.sn B.sc) ∧ z.cell? ⟨b3, 1, none⟩ = some (.slice B.na B.G B.nc) ∧ z.cell? ⟨b3, 2, none⟩ = some (.slice B.ma B.M B.mc) ∧ z.cell? ⟨b3, 3, none⟩ = some (.slice B.oa B.O B.oc) ∧ z.cell? ⟨b3, 4, none⟩ = some (.slice B.fa B.K B.fc)) (fun _ => false) 8 #[true, true, false, true, true, false, true, true, false, true, false, false, false, false, false] { tmps := #[t0, t1, (.pointer (some ⟨b2, 0, none⟩)), (.pointer (some ⟨b3, 0, none⟩)), t4, t5, t6, t7, (.pointer (some ⟨b8, 0, none⟩)), t9, t10, t11, t12, t13, t14, t15, t16, t17, t18, t19, t20, t21, t22, t23, t24, t25, t26, t27, t28, t29, t30, t31, t32, t33, t34, t35, t36, t37, t38, t39, t40, (.agg #[.slice A.sa A.sn A.sc, .slice A.na A.G A.nc, .slice A.ma A.M A.mc, .slice A.oa A.O A.oc, .slice A.fa A.K A.fc]), (.agg #[.slice B.sa B.sn B.sc, .slice B.na B.G B.nc, .slice B.ma B.M B.mc, .slice B.oa B.O B.oc, .slice B.fa B.K B.fc]), t43, (.pointer (some ⟨b2, 1, none⟩)), (.slice A.na A.G A.nc), t46, (.pointer (some ⟨b3, 1, none⟩)), (.slice B.na B.G B.nc), t49, t50, t51, t52, t53, t54, t55, t56, t57, t58, t59, t60, t61, t62, t63, t64, t65, t66, t67, t68, t69, t70, t71, t72, t73, t74, t75, t76, t77, t78, t79, t80, t81, t82, t83, t84, t85, t86, t87, t88, t89, t90, t91, t92, t93, t94, t95, t96, t97, t98, t99, t100, t101, t102, t103, t104, t105, t106, t107, t108, t109, t110, t111, t112, t113, t114, t115, t116, t117, t118, t119, t120, t121, t122, t123, t124, t125, t126, t127, t128, t129, t130, t131, t132, t133, t134, t135, t136, t137, t138, t139, t140, t141, t142, t143, t144, t145], defers := [] } z) := hid (by
  intro b8 b9 b10 wb nb mb V U z hq
  refine G_alt (l := [2, 10, 11]) (by kernel_rfl) (by decide) ?_
  intro i hi
  have hi2 : i = 2 ∨ i = 10 ∨ i = 11 := by simpa using hi
  clear hi
  rcases hi2 with rfl | rfl | rfl
  ·refine ⟨{ dst := some 43, op := Op.call { callee := Callee.value (Operand.func 31), args := #[Operand.tmp 41, Operand.tmp 42], argTypes := #[32, 32] }, type := 64, pos := _, after := #[{ on := 0, ground := Ground.data }, { on := 1, ground := Ground.data }], guard := none }, rfl, fun K' hK => ?_⟩
   have hz := hq.low
   have HQ := hid hq
   clear hq
   go_simp
   refine (C37.out z hz).mono ?_
   rintro e z1 ⟨rfl, H1⟩
   dsimp only
   have hq1 := HQ.out.c1 H1.out.2.1 H1.out.1 (by omega) H1.out.2.2
   refine hK.out _ _ (fun _ => HS.out _ hq1.low) (fun _ => ?_)
   (try simp only [jq1, jq2, jq3])
   exact K18.out b8 b9 b10 (z.heap.size + 2) nb mb V U z1 hq1
  ·refine ⟨{ dst := some 9, op := Op.alloc 30, type := 0, pos := _, after := #[], guard := none }, rfl, fun K' hK => ?_⟩
   have hq1 := hq.n9
   have HQ := hid hq1
   clear hq hq1
   go_simp
   refine hK.out _ _ (fun _ => HS.out _ HQ.out.low) (fun _ => ?_)
   (try simp only [jq1, jq2, jq3])
   exact K089.out b8 z.heap.size b10 wb nb mb V U _ HQ.out
  ·refine ⟨{ dst := some 10, op := Op.alloc 30, type := 0, pos := _, after := #[], guard := none }, rfl, fun K' hK => ?_⟩
   have hq1 := hq.n10
   have HQ := hid hq1
   clear hq hq1
   go_simp
   refine hK.out _ _ (fun _ => HS.out _ HQ.out.low) (fun _ => ?_)
   (try simp only [jq1, jq2, jq3])
   exact K0810.out b8 b9 z.heap.size wb nb mb V U _ HQ.out)
 have K09 : Hid (∀ (b8 b9 b10 wb nb mb : Nat) (V U : Nat → Value) (z : World), Q9 w0 A B wb nb mb V U 0 b8 b9 b10 false true false z → wpAnyG Tryz.prog .any (ops9 q0 q1 q2 q3 q4 q5 q6 q7 q8 q9 q10 q11 q12 q13 q14) Q (fun z : World => z.cell? ⟨b2, 0, none⟩ = some (.slice A.sa A.sn A.sc) ∧ z.cell? ⟨b2, 1, none⟩ = some (.slice A.na A.G A.nc) ∧ z.cell? ⟨b2, 2, none⟩ = some (.slice A.ma A.M A.mc) ∧ z.cell? ⟨b2, 3, none⟩ = some (.slice A.oa A.O A.oc) ∧ z.cell? ⟨b2, 4, none⟩ = some (.slice A.fa A.K A.fc) ∧ z.cell? ⟨b3, 0, none⟩ = some (.slice B.sa B.sn B.sc) ∧ z.cell? ⟨b3, 1, none⟩ = some (.slice B.na B.G B.nc) ∧ z.cell? ⟨b3, 2, none⟩ = some (.slice B.ma B.M B.mc) ∧ z.cell? ⟨b3, 3, none⟩ = some (.slice B.oa B.O B.oc) ∧ z.cell? ⟨b3, 4, none⟩ = some (.slice B.fa B.K B.fc)) (fun _ => false) 8 #[true, true, false, true, true, false, true, true, false, false, true, false, false, false, false] { tmps := #[t0, t1, (.pointer (some ⟨b2, 0, none⟩)), (.pointer (some ⟨b3, 0, none⟩)), t4, t5, t6, t7, t8, (.pointer (some ⟨b9, 0, none⟩)), t10, t11, t12, t13, t14, t15, t16, t17, t18, t19, t20, t21, t22, t23, t24, t25, t26, t27, t28, t29, t30, t31, t32, t33, t34, t35, t36, t37, t38, t39, t40, (.agg #[.slice A.sa A.sn A.sc, .slice A.na A.G A.nc, .slice A.ma A.M A.mc, .slice A.oa A.O A.oc, .slice A.fa A.K A.fc]), (.agg #[.slice B.sa B.sn B.sc, .slice B.na B.G B.nc, .slice B.ma B.M B.mc, .slice B.oa B.O B.oc, .slice B.fa B.K B.fc]), t43, (.pointer (some ⟨b2, 1, none⟩)), (.slice A.na A.G A.nc), t46, (.pointer (some ⟨b3, 1, none⟩)), (.slice B.na B.G B.nc), t49, t50, t51, t52, t53, t54, t55, t56, t57, t58, t59, t60, t61, t62, t63, t64, t65, t66, t67, t68, t69, t70, t71, t72, t73, t74, t75, t76, t77, t78, t79, t80, t81, t82, t83, t84, t85, t86, t87, t88, t89, t90, t91, t92, t93, t94, t95, t96, t97, t98, t99, t100, t101, t102, t103, t104, t105, t106, t107, t108, t109, t110, t111, t112, t113, t114, t115, t116, t117, t118, t119, t120, t121, t122, t123, t124, t125, t126, t127, t128, t129, t130, t131, t132, t133, t134, t135, t136, t137, t138, t139, t140, t141, t142, t143, t144, t145], defers := [] } z) := hid (by
  intro b8 b9 b10 wb nb mb V U z hq
  refine G_alt (l := [2, 9, 11]) (by kernel_rfl) (by decide) ?_
  intro i hi
  have hi2 : i = 2 ∨ i = 9 ∨ i = 11 := by simpa using hi
  clear hi
  rcases hi2 with rfl | rfl | rfl
  ·refine ⟨{ dst := some 43, op := Op.call { callee := Callee.value (Operand.func 31), args := #[Operand.tmp 41, Operand.tmp 42], argTypes := #[32, 32] }, type := 64, pos := _, after := #[{ on := 0, ground := Ground.data }, { on := 1, ground := Ground.data }], guard := none }, rfl, fun K' hK => ?_⟩
   have hz := hq.low
   have HQ := hid hq
   clear hq
   go_simp
   refine (C37.out z hz).mono ?_
   rintro e z1 ⟨rfl, H1⟩
   dsimp only
   have hq1 := HQ.out.c1 H1.out.2.1 H1.out.1 (by omega) H1.out.2.2
   refine hK.out _ _ (fun _ => HS.out _ hq1.low) (fun _ => ?_)
   (try simp only [jq1, jq2, jq3])
   exact K19.out b8 b9 b10 (z.heap.size + 2) nb mb V U z1 hq1
  ·refine ⟨{ dst := some 8, op := Op.alloc 64, type := 0, pos := _, after := #[], guard := none }, rfl, fun K' hK => ?_⟩
   have hq1 := hq.n8
   have HQ := hid hq1
   clear hq hq1
   go_simp
   refine hK.out _ _ (fun _ => HS.out _ HQ.out.low) (fun _ => ?_)
   (try simp only [jq1, jq2, jq3])
   exact K089.out z.heap.size b9 b10 wb nb mb V U _ HQ.out
  ·refine ⟨{ dst := some 10, op := Op.alloc 30, type := 0, pos := _, after := #[], guard := none }, rfl, fun K' hK => ?_⟩
   have hq1 := hq.n10
   have HQ := hid hq1
   clear hq hq1
   go_simp
   refine hK.out _ _ (fun _ => HS.out _ HQ.out.low) (fun _ => ?_)
   (try simp only [jq1, jq2, jq3])
   exact K0910.out b8 b9 z.heap.size wb nb mb V U _ HQ.out)
 have K010 : Hid (∀ (b8 b9 b10 wb nb mb : Nat) (V U : Nat → Value) (z : World), Q9 w0 A B wb nb mb V U 0 b8 b9 b10 false false true z → wpAnyG Tryz.prog .any (ops9 q0 q1 q2 q3 q4 q5 q6 q7 q8 q9 q10 q11 q12 q13 q14) Q (fun z : World => z.cell? ⟨b2, 0, none⟩ = some (.slice A.sa A.sn A.sc) ∧ z.cell? ⟨b2, 1, none⟩ = some (.slice A.na A.G A.nc) ∧ z.cell? ⟨b2, 2, none⟩ = some (.slice A.ma A.M A.mc) ∧ z.cell? ⟨b2, 3, none⟩ = some (.slice A.oa A.O A.oc) ∧ z.cell? ⟨b2, 4, none⟩ = some (.slice A.fa A.K A.fc) ∧ z.cell? ⟨b3, 0, none⟩ = some (.slice B.sa B.sn B.sc) ∧ z.cell? ⟨b3, 1, none⟩ = some (.slice B.na B.G B.nc) ∧ z.cell? ⟨b3, 2, none⟩ = some (.slice B.ma B.M B.mc) ∧ z.cell? ⟨b3, 3, none⟩ = some (.slice B.oa B.O B.oc) ∧ z.cell? ⟨b3, 4, none⟩ = some (.slice B.fa B.K B.fc)) (fun _ => false) 8 #[true, true, false, true, true, false, true, true, false, false, false, true, false, false, false] { tmps := #[t0, t1, (.pointer (some ⟨b2, 0, none⟩)), (.pointer (some ⟨b3, 0, none⟩)), t4, t5, t6, t7, t8, t9, (.pointer (some ⟨b10, 0, none⟩)), t11, t12, t13, t14, t15, t16, t17, t18, t19, t20, t21, t22, t23, t24, t25, t26, t27, t28, t29, t30, t31, t32, t33, t34, t35, t36, t37, t38, t39, t40, (.agg #[.slice A.sa A.sn A.sc, .slice A.na A.G A.nc, .slice A.ma A.M A.mc, .slice A.oa A.O A.oc, .slice A.fa A.K A.fc]), (.agg #[.slice B.sa B.sn B.sc, .slice B.na B.G B.nc, .slice B.ma B.M B.mc, .slice B.oa B.O B.oc, .slice B.fa B.K B.fc]), t43, (.pointer (some ⟨b2, 1, none⟩)), (.slice A.na A.G A.nc), t46, (.pointer (some ⟨b3, 1, none⟩)), (.slice B.na B.G B.nc), t49, t50, t51, t52, t53, t54, t55, t56, t57, t58, t59, t60, t61, t62, t63, t64, t65, t66, t67, t68, t69, t70, t71, t72, t73, t74, t75, t76, t77, t78, t79, t80, t81, t82, t83, t84, t85, t86, t87, t88, t89, t90, t91, t92, t93, t94, t95, t96, t97, t98, t99, t100, t101, t102, t103, t104, t105, t106, t107, t108, t109, t110, t111, t112, t113, t114, t115, t116, t117, t118, t119, t120, t121, t122, t123, t124, t125, t126, t127, t128, t129, t130, t131, t132, t133, t134, t135, t136, t137, t138, t139, t140, t141, t142, t143, t144, t145], defers := [] } z) := hid (by
  intro b8 b9 b10 wb nb mb V U z hq
  refine G_alt (l := [2, 9, 10]) (by kernel_rfl) (by decide) ?_
  intro i hi
  have hi2 : i = 2 ∨ i = 9 ∨ i = 10 := by simpa using hi
  clear hi
  rcases hi2 with rfl | rfl | rfl
  ·refine ⟨{ dst := some 43, op := Op.call { callee := Callee.value (Operand.func 31), args := #[Operand.tmp 41, Operand.tmp 42], argTypes := #[32, 32] }, type := 64, pos := _, after := #[{ on := 0, ground := Ground.data }, { on := 1, ground := Ground.data }], guard := none }, rfl, fun K' hK => ?_⟩
   have hz := hq.low
   have HQ := hid hq
   clear hq
   go_simp
   refine (C37.out z hz).mono ?_
   rintro e z1 ⟨rfl, H1⟩
   dsimp only
   have hq1 := HQ.out.c1 H1.out.2.1 H1.out.1 (by omega) H1.out.2.2
   refine hK.out _ _ (fun _ => HS.out _ hq1.low) (fun _ => ?_)
   (try simp only [jq1, jq2, jq3])
   exact K110.out b8 b9 b10 (z.heap.size + 2) nb mb V U z1 hq1
  ·refine ⟨{ dst := some 8, op := Op.alloc 64, type := 0, pos := _, after := #[], guard := none }, rfl, fun K' hK => ?_⟩
   have hq1 := hq.n8
   have HQ := hid hq1
   clear hq hq1
   go_simp
   refine hK.out _ _ (fun _ => HS.out _ HQ.out.low) (fun _ => ?_)
   (try simp only [jq1, jq2, jq3])
   exact K0810.out z.heap.size b9 b10 wb nb mb V U _ HQ.out
  ·refine ⟨{ dst := some 9, op := Op.alloc 30, type := 0, pos := _, after := #[], guard := none }, rfl, fun K' hK => ?_⟩
   have hq1 := hq.n9
   have HQ := hid hq1
   clear hq hq1
   go_simp
   refine hK.out _ _ (fun _ => HS.out _ HQ.out.low) (fun _ => ?_)
   (try simp only [jq1, jq2, jq3])
   exact K0910.out b8 z.heap.size b10 wb nb mb V U _ HQ.out)
 have K0 : Hid (∀ (b8 b9 b10 wb nb mb : Nat) (V U : Nat → Value) (z : World), Q9 w0 A B wb nb mb V U 0 b8 b9 b10 false false false z → wpAnyG Tryz.prog .any (ops9 q0 q1 q2 q3 q4 q5 q6 q7 q8 q9 q10 q11 q12 q13 q14) Q (fun z : World => z.cell? ⟨b2, 0, none⟩ = some (.slice A.sa A.sn A.sc) ∧ z.cell? ⟨b2, 1, none⟩ = some (.slice A.na A.G A.nc) ∧ z.cell? ⟨b2, 2, none⟩ = some (.slice A.ma A.M A.mc) ∧ z.cell? ⟨b2, 3, none⟩ = some (.slice A.oa A.O A.oc) ∧ z.cell? ⟨b2, 4, none⟩ = some (.slice A.fa A.K A.fc) ∧ z.cell? ⟨b3, 0, none⟩ = some (.slice B.sa B.sn B.sc) ∧ z.cell? ⟨b3, 1, none⟩ = some (.slice B.na B.G B.nc) ∧ z.cell? ⟨b3, 2, none⟩ = some (.slice B.ma B.M B.mc) ∧ z.cell? ⟨b3, 3, none⟩ = some (.slice B.oa B.O B.oc) ∧ z.cell? ⟨b3, 4, none⟩ = some (.slice B.fa B.K B.fc)) (fun _ => false) 9 #[true, true, false, true, true, false, true, true, false, false, false, false, false, false, false] { tmps := #[t0, t1, (.pointer (some ⟨b2, 0, none⟩)), (.pointer (some ⟨b3, 0, none⟩)), t4, t5, t6, t7, t8, t9, t10, t11, t12, t13, t14, t15, t16, t17, t18, t19, t20, t21, t22, t23, t24, t25, t26, t27, t28, t29, t30, t31, t32, t33, t34, t35, t36, t37, t38, t39, t40, (.agg #[.slice A.sa A.sn A.sc, .slice A.na A.G A.nc, .slice A.ma A.M A.mc, .slice A.oa A.O A.oc, .slice A.fa A.K A.fc]), (.agg #[.slice B.sa B.sn B.sc, .slice B.na B.G B.nc, .slice B.ma B.M B.mc, .slice B.oa B.O B.oc, .slice B.fa B.K B.fc]), t43, (.pointer (some ⟨b2, 1, none⟩)), (.slice A.na A.G A.nc), t46, (.pointer (some ⟨b3, 1, none⟩)), (.slice B.na B.G B.nc), t49, t50, t51, t52, t53, t54, t55, t56, t57, t58, t59, t60, t61, t62, t63, t64, t65, t66, t67, t68, t69, t70, t71, t72, t73, t74, t75, t76, t77, t78, t79, t80, t81, t82, t83, t84, t85, t86, t87, t88, t89, t90, t91, t92, t93, t94, t95, t96, t97, t98, t99, t100, t101, t102, t103, t104, t105, t106, t107, t108, t109, t110, t111, t112, t113, t114, t115, t116, t117, t118, t119, t120, t121, t122, t123, t124, t125, t126, t127, t128, t129, t130, t131, t132, t133, t134, t135, t136, t137, t138, t139, t140, t141, t142, t143, t144, t145], defers := [] } z) := hid (by
  intro b8 b9 b10 wb nb mb V U z hq
  refine G_alt (l := [2, 9, 10, 11]) (by kernel_rfl) (by decide) ?_
  intro i hi
  have hi2 : i = 2 ∨ i = 9 ∨ i = 10 ∨ i = 11 := by simpa using hi
  clear hi
  rcases hi2 with rfl | rfl | rfl | rfl
  ·refine ⟨{ dst := some 43, op := Op.call { callee := Callee.value (Operand.func 31), args := #[Operand.tmp 41, Operand.tmp 42], argTypes := #[32, 32] }, type := 64, pos := _, after := #[{ on := 0, ground := Ground.data }, { on := 1, ground := Ground.data }], guard := none }, rfl, fun K' hK => ?_⟩
   have hz := hq.low
   have HQ := hid hq
   clear hq
   go_simp
   refine (C37.out z hz).mono ?_
   rintro e z1 ⟨rfl, H1⟩
   dsimp only
   have hq1 := HQ.out.c1 H1.out.2.1 H1.out.1 (by omega) H1.out.2.2
   refine hK.out _ _ (fun _ => HS.out _ hq1.low) (fun _ => ?_)
   (try simp only [jq1, jq2, jq3])
   exact K1.out b8 b9 b10 (z.heap.size + 2) nb mb V U z1 hq1
  ·refine ⟨{ dst := some 8, op := Op.alloc 64, type := 0, pos := _, after := #[], guard := none }, rfl, fun K' hK => ?_⟩
   have hq1 := hq.n8
   have HQ := hid hq1
   clear hq hq1
   go_simp
   refine hK.out _ _ (fun _ => HS.out _ HQ.out.low) (fun _ => ?_)
   (try simp only [jq1, jq2, jq3])
   exact K08.out z.heap.size b9 b10 wb nb mb V U _ HQ.out
  ·refine ⟨{ dst := some 9, op := Op.alloc 30, type := 0, pos := _, after := #[], guard := none }, rfl, fun K' hK => ?_⟩
   have hq1 := hq.n9
   have HQ := hid hq1
   clear hq hq1
   go_simp
   refine hK.out _ _ (fun _ => HS.out _ HQ.out.low) (fun _ => ?_)
   (try simp only [jq1, jq2, jq3])
   exact K09.out b8 z.heap.size b10 wb nb mb V U _ HQ.out
  ·refine ⟨{ dst := some 10, op := Op.alloc 30, type := 0, pos := _, after := #[], guard := none }, rfl, fun K' hK => ?_⟩
   have hq1 := hq.n10
   have HQ := hid hq1
   clear hq hq1
   go_simp
   refine hK.out _ _ (fun _ => HS.out _ HQ.out.low) (fun _ => ?_)
   (try simp only [jq1, jq2, jq3])
   exact K010.out b8 b9 z.heap.size wb nb mb V U _ HQ.out)
 have hS0 := HS.out w0 (Below.refl _ _)
 refine G_take (i := 0) (oi := { dst := some 41, op := Op.load 32 (Operand.tmp 2), type := 32, pos := _, after := #[], guard := none }) (v := .agg #[.slice A.sa A.sn A.sc, .slice A.na A.G A.nc, .slice A.ma A.M A.mc, .slice A.oa A.O A.oc, .slice A.fa A.K A.fc]) rfl (by kernel_rfl) (by kernel_rfl) (by kernel_rfl) (by kernel_rfl) (fun c a w h => HQP.out _ _ _ _ _ h) (by rfl) (fun u hu => ?_) hS0 ?_
 ·(try dsimp only at hu); go_simp
 (try simp only [Act.put, jq1, jq2, jq3])
 refine G_take (i := 1) (oi := { dst := some 42, op := Op.load 32 (Operand.tmp 3), type := 32, pos := _, after := #[], guard := none }) (v := .agg #[.slice B.sa B.sn B.sc, .slice B.na B.G B.nc, .slice B.ma B.M B.mc, .slice B.oa B.O B.oc, .slice B.fa B.K B.fc]) rfl (by kernel_rfl) (by kernel_rfl) (by kernel_rfl) (by kernel_rfl) (fun c a w h => HQP.out _ _ _ _ _ h) (by rfl) (fun u hu => ?_) hS0 ?_
 ·(try dsimp only at hu); go_simp
 (try simp only [Act.put, jq1, jq2, jq3])
 refine G_take (i := 3) (oi := { dst := some 44, op := Op.fieldAddr 32 (Operand.tmp 2) 1, type := 0, pos := _, after := #[], guard := none }) (v := .pointer (some ⟨b2, 1, none⟩)) rfl (by kernel_rfl) (by kernel_rfl) (by kernel_rfl) (by kernel_rfl) (fun c a w h => HQP.out _ _ _ _ _ h) (by rfl) (fun u hu => ?_) hS0 ?_
 ·(try dsimp only at hu); go_simp
 (try simp only [Act.put, jq1, jq2, jq3])
 refine G_take (i := 4) (oi := { dst := some 45, op := Op.load 30 (Operand.tmp 44), type := 30, pos := _, after := #[{ on := 3, ground := Ground.data }], guard := none }) (v := .slice A.na A.G A.nc) rfl (by kernel_rfl) (by kernel_rfl) (by kernel_rfl) (by kernel_rfl) (fun c a w h => HQP.out _ _ _ _ _ h) (by rfl) (fun u hu => ?_) hS0 ?_
 ·(try dsimp only at hu); go_simp
 (try simp only [Act.put, jq1, jq2, jq3])
 refine G_take (i := 6) (oi := { dst := some 47, op := Op.fieldAddr 32 (Operand.tmp 3) 1, type := 0, pos := _, after := #[], guard := none }) (v := .pointer (some ⟨b3, 1, none⟩)) rfl (by kernel_rfl) (by kernel_rfl) (by kernel_rfl) (by kernel_rfl) (fun c a w h => HQP.out _ _ _ _ _ h) (by rfl) (fun u hu => ?_) hS0 ?_
 ·(try dsimp only at hu); go_simp
 (try simp only [Act.put, jq1, jq2, jq3])
 refine G_take (i := 7) (oi := { dst := some 48, op := Op.load 30 (Operand.tmp 47), type := 30, pos := _, after := #[{ on := 6, ground := Ground.data }], guard := none }) (v := .slice B.na B.G B.nc) rfl (by kernel_rfl) (by kernel_rfl) (by kernel_rfl) (by kernel_rfl) (fun c a w h => HQP.out _ _ _ _ _ h) (by rfl) (fun u hu => ?_) hS0 ?_
 ·(try dsimp only at hu); go_simp
 (try simp only [Act.put, jq1, jq2, jq3])
 exact K0.out 0 0 0 0 0 0 (fun _ => undef) (fun _ => undef) w0 ⟨Below.refl _ _, fun h => by omega, fun h => by omega, fun h => by omega, fun h => (by cases h), fun h => (by cases h), fun h => (by cases h), fun h => (by cases h)⟩
end Go.Proofs.YtmdpbaobihdgkaaGreatDoor
