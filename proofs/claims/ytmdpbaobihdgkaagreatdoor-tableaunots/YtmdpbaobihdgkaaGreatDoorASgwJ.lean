/-     -/
import Derived.Test.YtmdpbaobihdgkaaGreatDoorARg10
/- Single: what it has in memory. -/
/- Both: what it has in memory while Must, Not and Fair are made. -/
/- Both: the sets of a side are there while Fair is made. -/
/- What Both answers; its end. -/
namespace Go.Proofs.YtmdpbaobihdgkaaGreatDoor
open Go.RowKit Go.Shelf Go.Maps
def vu (M : Nat → Nat) (j : Nat) : List Value := (List.range j).map fun i => .int .u64 ((M i : Nat) : Int)
theorem vu_succ (M : Nat → Nat) (j : Nat) : vu M (j + 1) = vu M j ++ [.int .u64 ((M j : Nat) : Int)] := by simp [vu, List.range_succ]
theorem owns_rowU {w : World} {base : Nat} {v : Value} {M : Nat → Nat} {n : Nat} (h : w.ownsRow base 48 1 v n (vu M n)) : ∃ a c, v = .slice a n c ∧ RowU w a n (fun i => ((M i : Nat) : Int)) := by
 rcases h.2 with ⟨rfl, h0⟩ | ⟨g, cap, cur, rfl, hb, hg, _⟩
 ·exact ⟨none, 0, by rw [h0], 0, 0, fun hh => by omega, fun i hi => by omega⟩
 ·refine ⟨some ⟨g, 0, none⟩, cap, rfl, g, 0, fun _ => rfl, fun i hi => ?_⟩
  have := h.cells (g := g) rfl i (.int .u64 ((M i : Nat) : Int)) (by simp [vu, hi])
  rwa [Addr.add_mid] at this
theorem mem_ofL' {A : Ax} (h0 : chkA A = 0) {k x : Nat} (hk : k < A.K) : mem (ofL (A.FZ k) (A.FL k)) x = aFr A k x := by
 obtain ⟨hG, _, _, _, _, _, h1, _⟩ := chkA_ok h0
 exact mem_ofL x (fun i hi => by have := h1 k hk i hi; omega)
def Oth (w0 W : World) (b : Nat) : Prop := b < w0.heap.size ∨ ∃ c t z, W.heap[b]? = some (.cells c t z) ∧ t ≠ 48
end Go.Proofs.YtmdpbaobihdgkaaGreatDoor
namespace Go.Proofs.YtmdpbaobihdgkaaGreatDoor
open Go.RowKit Go.Shelf Go.Maps
structure Lb (ab : Nat) (w0 : World) (sv nv mv ov fv : Value) (M N : Nat → Nat) (jm jo : Nat) (W : World) : Prop where
 aut : W.heap[ab]? = some (.cells #[sv, nv, mv, ov, fv] 32)
 ms : W.ownsRow w0.heap.size 48 1 mv jm (vu M jm)
 os : W.ownsRow w0.heap.size 48 1 ov jo (vu N jo)
 fr : Fr (fun b => b = ab) w0 W
 lt : ab < w0.heap.size
 ap : ∀ b, mv.ownBlock = some b → ov.ownBlock ≠ some b
theorem Lb.below {ab : Nat} {w0 : World} {sv nv mv ov fv : Value} {M N : Nat → Nat} {jm jo : Nat} {W W' : World} (h : Lb ab w0 sv nv mv ov fv M N jm jo W) (hb : Below W.heap.size W W') : Lb ab w0 sv nv mv ov fv M N jm jo W' :=
 ⟨(hb.block _ (jq4.1 h.aut).1).trans h.aut, owns_below h.ms hb, owns_below h.os hb, h.fr.trans (Fr.of_below (ex := fun _ => False) hb) (fun _ _ e => e.elim), h.lt, h.ap⟩
theorem lb_start {ab : Nat} {w0 : World} {sv nv fv : Value} (M N : Nat → Nat) (h : w0.heap[ab]? = some (.cells #[sv, nv, .slice none 0 0, .slice none 0 0, fv] 32)) : Lb ab w0 sv nv (.slice none 0 0) (.slice none 0 0) fv M N 0 0 w0 :=
 ⟨h, World.ownsRow_nil _ _ _ _, World.ownsRow_nil _ _ _ _, Fr.refl _ _, (jq4.1 h).1, fun b hb => by simp [Value.ownBlock] at hb⟩
theorem Lb.old {ab : Nat} {w0 : World} {sv nv mv ov fv : Value} {M N : Nat → Nat} {jm jo : Nat} {W : World} (h : Lb ab w0 sv nv mv ov fv M N jm jo W) {p : Addr} {v : Value} (hc : w0.cell? p = some v) (hn : p.block ≠ ab) : W.cell? p = some v := h.fr.cell hn hc
theorem Lb.must {ab : Nat} {w0 : World} {sv nv mv ov fv mv' : Value} {M N : Nat → Nat} {jm jo : Nat} {W W4 : World} {o : Obj} (h : Lb ab w0 sv nv mv ov fv M N jm jo W) (hown : W4.ownsRow w0.heap.size 48 1 mv' (jm + 1) (vu M jm ++ [.int .u64 ((M jm : Nat) : Int)])) (hgr : (W.alloc o).grownBy W4 mv.ownBlock) (hat : mv.ownBlock = mv'.ownBlock ∨ mv'.ownBlock = some (W.heap.size + 1)) :
  (∀ b, b < W.heap.size → Oth w0 W b → W4.heap[b]? = W.heap[b]?) ∧ W4.frozen? ⟨ab, 2, none⟩ = false ∧ Lb ab w0 sv nv mv' ov fv M N (jm + 1) jo (W4.setCell ⟨ab, 2, none⟩ mv') ∧ But ab W4 (W4.setCell ⟨ab, 2, none⟩ mv') := by
 have hg := (World.grownBy_alloc W o mv.ownBlock).trans hgr
 have hk : ∀ b, b < W.heap.size → mv.ownBlock ≠ some b → W4.heap[b]? = W.heap[b]? := fun b hb hn => hg.block b hb (fun e => hn e.symm)
 have hoth : ∀ b, b < W.heap.size → Oth w0 W b → W4.heap[b]? = W.heap[b]? := fun b hb ho => hk b hb (fun e => by
  rcases ho with h1 | ⟨c, t, z, h1, h2⟩
  ·have := (h.ms.lt b e).1; omega
  ·obtain ⟨c2, z2, h3⟩ := owns_blk h.ms e
   rw [h1] at h3
   cases h3
   exact h2 rfl)
 have hl0 := (jq4.1 h.aut).1
 have ha : W4.heap[ab]? = _ := (hoth _ hl0 (Or.inr ⟨_, _, _, h.aut, by decide⟩)).trans h.aut
 have hbut : But ab W4 (W4.setCell ⟨ab, 2, none⟩ mv') := (But.refl _ _).setCell 2 _
 have hset : ∀ {v : Value} {n : Nat} {xs : List Value}, W4.ownsRow w0.heap.size 48 1 v n xs → (W4.setCell ⟨ab, 2, none⟩ mv').ownsRow w0.heap.size 48 1 v n xs := fun {v n xs} h1 => owns_of_blk h1 (fun b e => by
  obtain ⟨c, z, h2⟩ := owns_blk h1 e
  exact hbut.block b (jq4.1 h2).1 (fun e2 => by
   rw [e2, ha] at h2
   cases h2))
 refine ⟨hoth, by simp [World.frozen?, ha], ⟨?_, hset (by rw [vu_succ]; exact hown), hset (owns_of_blk h.os (fun b e => ?_)), ?_, h.lt, fun b hb => ?_⟩, hbut⟩
 ·have e := blk_setCell (i := 2) (v := mv') ha
  simpa using e
 ·exact hk b (h.os.lt b e).2 (fun e2 => h.ap b e2 e)
 ·exact (h.fr.grown hg (fun b hb hl => by have := (h.ms.lt b hb).1; omega)).setCell (p := ⟨ab, 2, none⟩) (fun _ => rfl) _
 ·rcases hat with e | e
  ·exact h.ap b (e.trans hb)
  ·rw [e] at hb
   intro h2
   have := (h.os.lt b h2).2
   have hb2 : W.heap.size + 1 = b := Option.some.inj hb
   omega
theorem Lb.nots {ab : Nat} {w0 : World} {sv nv mv ov fv ov' : Value} {M N : Nat → Nat} {jm jo : Nat} {W W4 : World} {o : Obj} (h : Lb ab w0 sv nv mv ov fv M N jm jo W) (hown : W4.ownsRow w0.heap.size 48 1 ov' (jo + 1) (vu N jo ++ [.int .u64 ((N jo : Nat) : Int)])) (hgr : (W.alloc o).grownBy W4 ov.ownBlock) (hat : ov.ownBlock = ov'.ownBlock ∨ ov'.ownBlock = some (W.heap.size + 1)) :
  (∀ b, b < W.heap.size → Oth w0 W b → W4.heap[b]? = W.heap[b]?) ∧ W4.frozen? ⟨ab, 3, none⟩ = false ∧ Lb ab w0 sv nv mv ov' fv M N jm (jo + 1) (W4.setCell ⟨ab, 3, none⟩ ov') ∧ But ab W4 (W4.setCell ⟨ab, 3, none⟩ ov') := by
 have hg := (World.grownBy_alloc W o ov.ownBlock).trans hgr
 have hk : ∀ b, b < W.heap.size → ov.ownBlock ≠ some b → W4.heap[b]? = W.heap[b]? := fun b hb hn => hg.block b hb (fun e => hn e.symm)
 have hoth : ∀ b, b < W.heap.size → Oth w0 W b → W4.heap[b]? = W.heap[b]? := fun b hb ho => hk b hb (fun e => by
  rcases ho with h1 | ⟨c, t, z, h1, h2⟩
  ·have := (h.os.lt b e).1; omega
  ·obtain ⟨c2, z2, h3⟩ := owns_blk h.os e
   rw [h1] at h3
   cases h3
   exact h2 rfl)
 have hl0 := (jq4.1 h.aut).1
 have ha : W4.heap[ab]? = _ := (hoth _ hl0 (Or.inr ⟨_, _, _, h.aut, by decide⟩)).trans h.aut
 have hbut : But ab W4 (W4.setCell ⟨ab, 3, none⟩ ov') := (But.refl _ _).setCell 3 _
 have hset : ∀ {v : Value} {n : Nat} {xs : List Value}, W4.ownsRow w0.heap.size 48 1 v n xs → (W4.setCell ⟨ab, 3, none⟩ ov').ownsRow w0.heap.size 48 1 v n xs := fun {v n xs} h1 => owns_of_blk h1 (fun b e => by
  obtain ⟨c, z, h2⟩ := owns_blk h1 e
  exact hbut.block b (jq4.1 h2).1 (fun e2 => by
   rw [e2, ha] at h2
   cases h2))
 refine ⟨hoth, by simp [World.frozen?, ha], ⟨?_, hset (owns_of_blk h.ms (fun b e => ?_)), hset (by rw [vu_succ]; exact hown), ?_, h.lt, fun b hb hb2 => ?_⟩, hbut⟩
 ·have e := blk_setCell (i := 3) (v := ov') ha
  simpa using e
 ·exact hk b (h.ms.lt b e).2 (fun e2 => h.ap b e e2)
 ·exact (h.fr.grown hg (fun b hb hl => by have := (h.os.lt b hb).1; omega)).setCell (p := ⟨ab, 3, none⟩) (fun _ => rfl) _
 ·rcases hat with e | e
  ·exact h.ap b hb (e.trans hb2)
  ·rw [e] at hb2
   have := (h.ms.lt b hb).2
   have hb3 : W.heap.size + 1 = b := Option.some.inj hb2
   omega
structure Lf (ab : Nat) (w0 : World) (sv nv mv ov fv : Value) (M N : Nat → Nat) (k : Nat) (Tf : Nat → List Nat) (j : Nat) (V : List Value) (W : World) : Prop where
 l : Lb ab w0 sv nv mv ov fv M N k k W
 r : Rws2 W w0.heap.size fv j Tf V
theorem Lf.below {ab : Nat} {w0 : World} {sv nv mv ov fv : Value} {M N : Nat → Nat} {k : Nat} {Tf : Nat → List Nat} {j : Nat} {V : List Value} {W W' : World} (h : Lf ab w0 sv nv mv ov fv M N k Tf j V W) (hb : Below W.heap.size W W') : Lf ab w0 sv nv mv ov fv M N k Tf j V W' :=
 ⟨h.l.below hb, owns_below h.r.top hb, fun i hi => by
  obtain ⟨v, h1, h2⟩ := h.r.row i hi
  exact ⟨v, h1, owns_below h2 hb⟩⟩
theorem Lf.app {ab : Nat} {w0 : World} {sv nv mv ov fv fv' v : Value} {M N : Nat → Nat} {k : Nat} {Tf : Nat → List Nat} {j : Nat} {V : List Value} {W W4 : World} {o : Obj} (h : Lf ab w0 sv nv mv ov fv M N k Tf j V W) (hv : W.ownsRow w0.heap.size 3 1 v (cs (Tf j)).length (vals (cs (Tf j))))
  (hown : W4.ownsRow w0.heap.size 29 1 fv' (j + 1) (V ++ [v])) (hgr : (W.alloc o).grownBy W4 fv.ownBlock) :
  W4.cell? ⟨ab, 4, none⟩ = some fv ∧ W4.frozen? ⟨ab, 4, none⟩ = false ∧ Hid (Lf ab w0 sv nv mv ov fv' M N k Tf (j + 1) (V ++ [v]) (W4.setCell ⟨ab, 4, none⟩ fv')) := by
 have hg := (World.grownBy_alloc W o fv.ownBlock).trans hgr
 have hk : ∀ {b : Nat} {c : Array Value} {t : TypeId} {q : Nat × Nat}, W.heap[b]? = some (.cells c t q) → t ≠ 29 → W4.heap[b]? = W.heap[b]? := fun {b c t q} hb ht => hg.block b (jq4.1 hb).1 (fun e => by
  obtain ⟨c2, q2, h6⟩ := owns_blk h.r.top e.symm
  rw [hb] at h6
  cases h6
  exact ht rfl)
 have ha4 : W4.heap[ab]? = some (.cells #[sv, nv, mv, ov, fv] 32) := (hk h.l.aut (by decide)).trans h.l.aut
 have hbut : But ab W4 (W4.setCell ⟨ab, 4, none⟩ fv') := (But.refl _ _).setCell 4 _
 have hset : ∀ {base : Nat} {e : TypeId} {u : Value} {n : Nat} {xs : List Value}, e ≠ 32 → W4.ownsRow base e 1 u n xs → (W4.setCell ⟨ab, 4, none⟩ fv').ownsRow base e 1 u n xs := fun {base e u n xs} he h1 => owns_of_blk h1 (fun b e1 => by
  obtain ⟨c, q, h2⟩ := owns_blk h1 e1
  exact hbut.block b (jq4.1 h2).1 (fun e2 => by
   rw [e2, ha4] at h2
   cases h2
   exact he rfl))
 have hkeep : ∀ {base : Nat} {e : TypeId} {u : Value} {n : Nat} {xs : List Value}, e ≠ 29 → e ≠ 32 → W.ownsRow base e 1 u n xs → (W4.setCell ⟨ab, 4, none⟩ fv').ownsRow base e 1 u n xs := fun {base e u n xs} he he2 h1 => hset he2 (owns_of_blk h1 (fun b e1 => by
  obtain ⟨c, q, h2⟩ := owns_blk h1 e1
  exact hk h2 he))
 have hVl : V.length = j := by have := h.r.top.1; omega
 refine ⟨cell_of_cells ha4 rfl, by simp [World.frozen?, ha4], hid ⟨⟨?_, hkeep (by decide) (by decide) h.l.ms, hkeep (by decide) (by decide) h.l.os, ?_, h.l.lt, h.l.ap⟩, hset (by decide) hown, fun i hi => ?_⟩⟩
 ·have e := blk_setCell (i := 4) (v := fv') ha4
  simpa using e
 ·exact (h.l.fr.grown hg (fun b hb hl => by have := (h.r.top.lt b hb).1; omega)).setCell (p := ⟨ab, 4, none⟩) (fun _ => rfl) _
 ·by_cases e : i = j
  ·subst e
   exact ⟨v, by rw [List.getElem?_append_right (by omega), hVl]; simp, hkeep (by decide) (by decide) hv⟩
  ·obtain ⟨u, h1, h2⟩ := h.r.row i (by omega)
   exact ⟨u, by rw [List.getElem?_append_left (by omega)]; exact h1, hkeep (by decide) (by decide) h2⟩
end Go.Proofs.YtmdpbaobihdgkaaGreatDoor
namespace Go.Proofs.YtmdpbaobihdgkaaGreatDoor
open Go.RowKit Go.Shelf Go.Maps
structure Lg (ab : Nat) (w0 : World) (sv nv mv ov fv : Value) (M N : Nat → Nat) (k : Nat) (Tf : Nat → List Nat) (J : Nat) (V : List Value) (sb n : Nat) (X : Nat → Nat → Nat) (W : World) : Prop where
 f : Lf ab w0 sv nv mv ov fv M N k Tf J V W
 s : Ls W sb n X
 ap : fv.ownBlock ≠ some sb
 lt : sb < W.heap.size
 ne : sb ≠ ab
theorem Lg.below {ab : Nat} {w0 : World} {sv nv mv ov fv : Value} {M N : Nat → Nat} {k : Nat} {Tf : Nat → List Nat} {J : Nat} {V : List Value} {sb n : Nat} {X : Nat → Nat → Nat} {W W' : World} (h : Lg ab w0 sv nv mv ov fv M N k Tf J V sb n X W) (hb : Below W.heap.size W W') : Lg ab w0 sv nv mv ov fv M N k Tf J V sb n X W' :=
 ⟨h.f.below hb, h.s.below' hb, h.ap, Nat.lt_of_lt_of_le h.lt hb.size, h.ne⟩
theorem lg_start {ab : Nat} {w0 : World} {sv nv mv ov fv : Value} {M N : Nat → Nat} {k : Nat} {Tf : Nat → List Nat} {J : Nat} {V : List Value} {n : Nat} {X : Nat → Nat → Nat} {W W' : World} (h : Lf ab w0 sv nv mv ov fv M N k Tf J V W) (hb : Below W.heap.size W W') (hs : Ls W' W.heap.size n X) (hl : W.heap.size < W'.heap.size) : Lg ab w0 sv nv mv ov fv M N k Tf J V W.heap.size n X W' :=
 ⟨h.below hb, hs, fun e => by have := (h.r.top.lt _ e).2; omega, hl, fun e => by have h1 := h.l.lt; have h2 := h.l.fr.size; omega⟩
theorem lf_start {ab : Nat} {w0 : World} {sv nv mv ov : Value} {M N : Nat → Nat} {k : Nat} (Tf : Nat → List Nat) {W : World} (h : Lb ab w0 sv nv mv ov (.slice none 0 0) M N k k W) : Lf ab w0 sv nv mv ov (.slice none 0 0) M N k Tf 0 [] W :=
 ⟨h, World.ownsRow_nil _ _ _ _, fun _ hi => absurd hi (Nat.not_lt_zero _)⟩
theorem Ls.blk {w w' : World} {b n : Nat} {X : Nat → Nat → Nat} (h : Ls w b n X) (hb : w'.heap[b]? = w.heap[b]?) : Ls w' b n X := fun i hi => (h i hi).of_block hb
theorem Lg.app {ab : Nat} {w0 : World} {sv nv mv ov fv fv' v : Value} {M N : Nat → Nat} {k : Nat} {Tf : Nat → List Nat} {j : Nat} {V : List Value} {sb n : Nat} {X : Nat → Nat → Nat} {W W4 : World} {o : Obj} (h : Lg ab w0 sv nv mv ov fv M N k Tf j V sb n X W) (hv : W.ownsRow w0.heap.size 3 1 v (cs (Tf j)).length (vals (cs (Tf j))))
  (hown : W4.ownsRow w0.heap.size 29 1 fv' (j + 1) (V ++ [v])) (hgr : (W.alloc o).grownBy W4 fv.ownBlock) (hat : fv.ownBlock = fv'.ownBlock ∨ fv'.ownBlock = some (W.heap.size + 1)) :
  W4.cell? ⟨ab, 4, none⟩ = some fv ∧ W4.frozen? ⟨ab, 4, none⟩ = false ∧ Hid (Lg ab w0 sv nv mv ov fv' M N k Tf (j + 1) (V ++ [v]) sb n X (W4.setCell ⟨ab, 4, none⟩ fv')) := by
 obtain ⟨h1, h2, h3⟩ := h.f.app hv hown hgr
 have hg := (World.grownBy_alloc W o fv.ownBlock).trans hgr
 have hblk : W4.heap[sb]? = W.heap[sb]? := hg.block sb h.lt (fun e => h.ap e.symm)
 have hbut : But ab W4 (W4.setCell ⟨ab, 4, none⟩ fv') := (But.refl _ _).setCell 4 _
 have hsz : W.heap.size ≤ W4.heap.size := hg.size
 have hlt := h.lt
 refine ⟨h1, h2, hid ⟨h3.out, h.s.blk ((hbut.block sb (by omega) h.ne).trans hblk), fun e => ?_, ?_, h.ne⟩⟩
 ·rcases hat with hh | hh
  ·exact h.ap (hh.trans e)
  ·rw [e] at hh
   have := Option.some.inj hh
   omega
 ·have : (W4.setCell ⟨ab, 4, none⟩ fv').heap.size = W4.heap.size := by simp
  omega
theorem Lb.sp {ab : Nat} {w0 : World} {sv nv mv ov fv : Value} {M N : Nat → Nat} {jm jo : Nat} {W : World} (h : Lb ab w0 sv nv mv ov fv M N jm jo W) {a : Option Addr} {n : Nat} {q : Nat → Nat × Nat} (hs : Sp w0 a n q) (hn : ∀ p, a = some p → p.block ≠ ab) : Sp W a n q := by
 obtain ⟨b, h1, h2⟩ := hs
 refine ⟨b, h1, fun i hi => ?_⟩
 have hb : b ≠ ab := hn _ (h1 (by omega))
 exact ⟨h.old (h2 i hi).1 hb, h.old (h2 i hi).2 hb⟩
theorem bx_alloc0 (w : World) : Bx (w.alloc (.cells (cellsS (fun _ => 0)) 69)) w.heap.size (fun _ => 0) :=
 ⟨Go.Deep.blk_alloc_new _ _, fun _ _ => by decide⟩
def bFr (A B : Ax) (i : Nat) (p : Nat × Nat) : Bool := if i < A.K then aFr A i p.1 else aFr B (i - A.K) p.2
def bFS (A B : Ax) (k i : Nat) : List Nat := whN (fun r => bFr A B i (nAt (bL A B k) r)) k
theorem bFS_A {A B : Ax} (h0 : chkA A = 0) {k j : Nat} (hj : j < A.K) : whN (fun i => mem (ofL (A.FZ j) (A.FL j)) (nAt (bL A B k) i).1) k = bFS A B k j := by
 unfold bFS
 congr 1
 funext i
 unfold bFr
 rw [if_pos hj, mem_ofL' h0 hj]
theorem bFS_B {A B : Ax} (h0 : chkA B = 0) {k j : Nat} (hj : j < B.K) : whN (fun i => mem (ofL (B.FZ j) (B.FL j)) (nAt (bL A B k) i).2) k = bFS A B k (A.K + j) := by
 unfold bFS
 congr 1
 funext i
 unfold bFr
 rw [if_neg (by omega), Nat.add_sub_cancel_left, mem_ofL' h0 hj]
end Go.Proofs.YtmdpbaobihdgkaaGreatDoor
namespace Go.Proofs.YtmdpbaobihdgkaaGreatDoor
open Go.RowKit Go.Shelf Go.Maps
def BoIs (w : World) (A B : Ax) (e : Ending) (w' : World) : Prop :=
 (chkA A ≠ 0 ∧ e = .returned (.tuple #[.agg nil5, .int .i64 (chkA A)]) ∧ Below w.heap.size w w') ∨
 (chkA A = 0 ∧ chkA B ≠ 0 ∧ e = .returned (.tuple #[.agg nil5, .int .i64 (chkA B)]) ∧ Below w.heap.size w w') ∨
 (chkA A = 0 ∧ chkA B = 0 ∧ (80 < A.K + B.K ∨ ∃ k, 2048 < (bL A B k).length) ∧ e = .returned (.tuple #[.agg nil5, .int .i64 2]) ∧ Below w.heap.size w w') ∨
 (chkA A = 0 ∧ chkA B = 0 ∧ ¬ 80 < A.K + B.K ∧ ∃ (k : Nat) (sv nv mv ov fv : Value) (V VF : List Value), (bL A B k).length = k ∧ k ≤ 2048 ∧ e = .returned (.tuple #[.agg #[sv, nv, mv, ov, fv], .int .i64 0]) ∧ Below w.heap.size w w' ∧
  w'.ownsRow w.heap.size 3 1 sv (cs ((bS A B).map fun p => ix p (bL A B k))).length (vals (cs ((bS A B).map fun p => ix p (bL A B k)))) ∧
  Rws2 w' w.heap.size nv k (fun i => (bX A B (nAt (bL A B k) i)).map fun p => ix p (bL A B k)) V ∧
  w'.ownsRow w.heap.size 48 1 mv k (vu (fun i => A.Mu (nAt (bL A B k) i).1 ||| B.Mu (nAt (bL A B k) i).2) k) ∧ w'.ownsRow w.heap.size 48 1 ov k (vu (fun i => A.No (nAt (bL A B k) i).1 ||| B.No (nAt (bL A B k) i).2) k) ∧
  Rws2 w' w.heap.size fv (A.K + B.K) (bFS A B k) VF)
theorem bo_end {A B : Ax} {w z5 wr X : World} {b11 Bz base k : Nat} {sv nv mv ov fv : Value} {M N : Nat → Nat} {V V2 : List Value} (hA : chkA A = 0) (hB : chkA B = 0) (hK : ¬ 80 < A.K + B.K) (hw : Below w.heap.size w z5) (hlow : w.heap.size ≤ b11)
  (haut : z5.heap[b11]? = some (.cells #[sv, nv, .slice none 0 0, .slice none 0 0, .slice none 0 0] 32)) (h : Lf b11 z5 sv nv mv ov fv M N k (bFS A B k) (A.K + B.K) V wr) (hres : wr.heap[Bz]? = some (.cells nil5 32)) (hbx : But Bz wr X) (hBz : w.heap.size ≤ Bz)
  (hbase : w.heap.size ≤ base) (hsv : z5.ownsRow base 3 1 sv (cs ((bS A B).map fun p => ix p (bL A B k))).length (vals (cs ((bS A B).map fun p => ix p (bL A B k))))) (hnv : Rws2 z5 base nv k (fun i => (bX A B (nAt (bL A B k) i)).map fun p => ix p (bL A B k)) V2)
  (hM : (fun i => A.Mu (nAt (bL A B k) i).1 ||| B.Mu (nAt (bL A B k) i).2) = M) (hN : (fun i => A.No (nAt (bL A B k) i).1 ||| B.No (nAt (bL A B k) i).2) = N) (hk : (bL A B k).length = k) (hk2 : k ≤ 2048) :
  BoIs w A B (.returned (.tuple #[.agg #[sv, nv, mv, ov, fv], .int .i64 0])) X := by
 have own : ∀ {base : Nat} {e : TypeId} {v : Value} {m : Nat} {xs : List Value}, e ≠ 32 → z5.ownsRow base e 1 v m xs → wr.ownsRow base e 1 v m xs := fun {base e v m xs} he ho => owns_of_blk ho (fun b e1 => by
  obtain ⟨c, q, h3⟩ := owns_blk ho e1
  exact h.l.fr.block b (jq4.1 h3).1 (fun e2 => by
   rw [e2, haut] at h3
   cases h3
   exact he rfl))
 have ownX : ∀ {base : Nat} {e : TypeId} {v : Value} {m : Nat} {xs : List Value}, e ≠ 32 → w.heap.size ≤ base → wr.ownsRow base e 1 v m xs → X.ownsRow w.heap.size e 1 v m xs := fun {base e v m xs} he hb ho => owns_mono (owns_of_blk ho (fun b e1 => by
  obtain ⟨c, q, h3⟩ := owns_blk ho e1
  exact hbx.block b (jq4.1 h3).1 (fun e2 => by
   rw [e2, hres] at h3
   cases h3
   exact he rfl))) hb
 have hz := hw.size
 have hwr : Below w.heap.size w wr := h.l.fr.below hw (fun b hb e => by omega)
 refine Or.inr (Or.inr (Or.inr ⟨hA, hB, hK, k, sv, nv, mv, ov, fv, V2, V, hk, hk2, rfl, hwr.trans (hbx.below hBz hwr.size), ownX (by decide) hbase (own (by decide) hsv), ⟨ownX (by decide) hbase (own (by decide) hnv.top), fun i hi => ?_⟩, ?_, ?_, ⟨ownX (by decide) hz h.r.top, fun i hi => ?_⟩⟩))
 ·obtain ⟨v, g1, g2⟩ := hnv.row i hi
  exact ⟨v, g1, ownX (by decide) hbase (own (by decide) g2)⟩
 ·rw [hM]; exact ownX (by decide) hz h.l.ms
 ·rw [hN]; exact ownX (by decide) hz h.l.os
 ·obtain ⟨v, g1, g2⟩ := h.r.row i hi
  exact ⟨v, g1, ownX (by decide) hz g2⟩
end Go.Proofs.YtmdpbaobihdgkaaGreatDoor
