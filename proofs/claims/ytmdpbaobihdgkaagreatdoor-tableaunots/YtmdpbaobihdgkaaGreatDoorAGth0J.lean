/-   -/
import Derived.Test.YtmdpbaobihdgkaaGreatDoorARll
/- gather: what it has in memory, and the rounds. -/
/- What holds whatever lies in other blocks. -/
namespace Go.Proofs.YtmdpbaobihdgkaaGreatDoor
open Go.RowKit Go.Shelf Go.Maps
section
variable {α : Type} [DecidableEq α]
theorem nRun_last (nx : α → List α) : ∀ (f n : Nat) (l : List α), nRun nx (f + 1) n l = match (nRun nx f n l)[n + f]? with
  | none => nRun nx f n l
  | some x => nAdds (nRun nx f n l) (nx x)
 | 0, n, l => by
  rw [nRun]
  show (match l[n]? with | none => l | some x => nRun nx 0 (n + 1) (nAdds l (nx x))) = match l[n]? with | none => l | some x => nAdds l (nx x)
  cases l[n]? <;> rfl
 | f + 1, n, l => by
  by_cases h : n < l.length
  ·have hs := fun g => nRun_some (nx := nx) (f := g) (List.getElem?_eq_getElem h)
   rw [hs (f + 1), hs f, nRun_last nx f (n + 1) _, show n + 1 + f = n + (f + 1) by omega]
  ·rw [nRun_none (by omega), nRun_none (by omega), List.getElem?_eq_none (by omega)]
def gQ (nx : α → List α) (start : List α) (k : Nat) : List α := nAll nx k start
theorem gQ_some {nx : α → List α} {start : List α} {k : Nat} {x : α} (h : (gQ nx start k)[k]? = some x) : gQ nx start (k + 1) = nAdds (gQ nx start k) (nx x) := by
 unfold gQ nAll at *
 rw [nRun_last, Nat.zero_add, h]
theorem gQ_pre (nx : α → List α) (start : List α) (k : Nat) : gQ nx start k <+: gQ nx start (k + 1) := by
 unfold gQ nAll
 rw [nRun_last]
 split
 ·exact List.prefix_refl _
 ·exact nAdds_pre _ _
theorem gQ_le (nx : α → List α) (start : List α) (k d : Nat) : gQ nx start k <+: gQ nx start (k + d) := by
 induction d with
 | zero => exact List.prefix_refl _
 | succ d ih => exact ih.trans (gQ_pre nx start (k + d))
theorem gQ_stop {nx : α → List α} {start : List α} {i : Nat} (h : (gQ nx start i).length ≤ i) : ∀ d, gQ nx start (i + d) = gQ nx start i := by
 intro d
 induction d with
 | zero => rfl
 | succ d ih =>
  have e : gQ nx start (i + d + 1) = match (gQ nx start (i + d))[0 + (i + d)]? with
   | none => gQ nx start (i + d)
   | some x => nAdds (gQ nx start (i + d)) (nx x) := by unfold gQ nAll; exact nRun_last _ _ _ _
  rw [show i + (d + 1) = i + d + 1 by omega, e, ih, List.getElem?_eq_none (by omega)]
theorem gQ_lt {nx : α → List α} {start : List α} {i k : Nat} (h1 : i < k) (h2 : i < (gQ nx start k).length) : i < (gQ nx start i).length := by
 by_cases h : i < (gQ nx start i).length
 ·exact h
 ·have := gQ_stop (nx := nx) (start := start) (i := i) (by omega) (k - i)
  rw [show i + (k - i) = k by omega] at this
  rw [this] at h2
  exact absurd h2 h
end
theorem nAt_pre {Q R : List (Nat × Nat)} {i : Nat} (h : Q <+: R) (hi : i < Q.length) : nAt R i = nAt Q i := by
 unfold nAt
 rw [List.getD_eq_getElem?_getD, List.getD_eq_getElem?_getD, pre_at h (List.getElem?_eq_getElem hi), List.getElem?_eq_getElem hi]
theorem nAt_some {Q : List (Nat × Nat)} {i : Nat} (hi : i < Q.length) : Q[i]? = some (nAt Q i) := by
 unfold nAt
 rw [List.getD_eq_getElem?_getD, List.getElem?_eq_getElem hi]
 rfl
theorem gQ_mem {nx : Nat × Nat → List (Nat × Nat)} {start : List (Nat × Nat)} {i k : Nat} (h1 : i < k) (h2 : i < (gQ nx start k).length) : ∀ y ∈ nx (nAt (gQ nx start k) i), y ∈ gQ nx start k := by
 intro y hy
 have h3 := gQ_lt h1 h2
 have hp : gQ nx start i <+: gQ nx start k := by have := gQ_le nx start i (k - i); rwa [show i + (k - i) = k by omega] at this
 have hp1 : gQ nx start (i + 1) <+: gQ nx start k := by have := gQ_le nx start (i + 1) (k - (i + 1)); rwa [show i + 1 + (k - (i + 1)) = k by omega] at this
 rw [nAt_pre hp h3] at hy
 refine hp1.subset ?_
 rw [gQ_some (nAt_some h3)]
 exact (mem_nAdds _ _).2 (Or.inr hy)
theorem owns_of_blk {W W' : World} {base : Nat} {e : TypeId} {size : Nat} {v : Value} {m : Nat} {xs : List Value} (h : W.ownsRow base e size v m xs) (hb : ∀ b, v.ownBlock = some b → W'.heap[b]? = W.heap[b]?) : W'.ownsRow base e size v m xs :=
 ⟨h.1, h.2.imp id (fun ⟨g, cap, cur, e1, h1, h2, r⟩ => ⟨g, cap, cur, e1, h1, (hb g (by rw [e1]; rfl)).trans h2, r⟩)⟩
structure Rws2 (W : World) (base : Nat) (nv : Value) (n : Nat) (T : Nat → List Nat) (V : List Value) : Prop where
 top : W.ownsRow base 29 1 nv n V
 row : ∀ i, i < n → ∃ v, V[i]? = some v ∧ W.ownsRow base 3 1 v (cs (T i)).length (vals (cs (T i)))
abbrev nil5 : Array Value := #[.slice none 0 0, .slice none 0 0, .slice none 0 0, .slice none 0 0, .slice none 0 0]
abbrev two5 (sv nv : Value) : Array Value := #[sv, nv, .slice none 0 0, .slice none 0 0, .slice none 0 0]
structure Gm (w : World) (ab : Nat) (sv : Value) (S0 : List Nat) (n : Nat) (T : Nat → List Nat) (W : World) (nv : Value) (V : List Value) : Prop where
 aut : W.heap[ab]? = some (.cells (two5 sv nv) 32)
 sta : W.ownsRow w.heap.size 3 1 sv (cs S0).length (vals (cs S0))
 rws : Rws2 W w.heap.size nv n T V
 low : Below w.heap.size w W
 res : W.heap[w.heap.size]? = some (.cells nil5 32)
theorem Gm.of {w : World} {ab : Nat} {sv nv : Value} {S0 : List Nat} {n : Nat} {T : Nat → List Nat} {W W' : World} {V : List Value} (h : Gm w ab sv S0 n T W nv V) (hl : Below w.heap.size w W')
  (hb : ∀ {b : Nat} {c : Array Value} {t : TypeId} {z : Nat × Nat}, W.heap[b]? = some (.cells c t z) → t = 3 ∨ t = 29 ∨ t = 32 → W'.heap[b]? = W.heap[b]?) : Gm w ab sv S0 n T W' nv V := by
 have hown : ∀ {base : Nat} {e : TypeId} {size : Nat} {v : Value} {m : Nat} {xs : List Value}, W.ownsRow base e size v m xs → e = 3 ∨ e = 29 ∨ e = 32 → W'.ownsRow base e size v m xs := fun h1 h2 => owns_of_blk h1 (fun b e1 => by
  obtain ⟨c, z, h3⟩ := owns_blk h1 e1
  exact hb h3 h2)
 refine ⟨(hb h.aut (Or.inr (Or.inr rfl))).trans h.aut, hown h.sta (Or.inl rfl), ⟨hown h.rws.top (Or.inr (Or.inl rfl)), fun i hi => ?_⟩, hl, (hb h.res (Or.inr (Or.inr rfl))).trans h.res⟩
 obtain ⟨v, h1, h2⟩ := h.rws.row i hi
 exact ⟨v, h1, hown h2 (Or.inl rfl)⟩
theorem Gm.below {w : World} {ab : Nat} {sv nv : Value} {S0 : List Nat} {n : Nat} {T : Nat → List Nat} {W W' : World} {V : List Value} (h : Gm w ab sv S0 n T W nv V) (hb : Below W.heap.size W W') : Gm w ab sv S0 n T W' nv V :=
 h.of (h.low.trans (hb.mono h.low.size)) (fun {b _ _ _} h1 _ => hb.block b (jq4.1 h1).1)
theorem Gm.roll {w : World} {ab rb mb : Nat} {sv nv pv : Value} {S0 : List Nat} {n : Nat} {T : Nat → List Nat} {W W' : World} {V : List Value} {Q : List (Nat × Nat)} {D : DataW Unit} (h : Gm w ab sv S0 n T W nv V) (hr : Rol W rb mb pv Q D) (h1 : w.heap.size ≤ rb) (h2 : w.heap.size ≤ mb) (h3 : ∀ b, pv.ownBlock = some b → w.heap.size ≤ b) (f : Fr (rex rb mb pv) W W') : Gm w ab sv S0 n T W' nv V := by
 obtain ⟨es, mc, hm⟩ := map_lt hr.map
 refine h.of (f.below h.low (fun b hb hx => ?_)) (fun {b c t z} hb ht => f.block b (jq4.1 hb).1 (fun hx => ?_))
 ·rcases hx with hx | hx | hx
  ·omega
  ·omega
  ·have := h3 b hx; omega
 ·rcases hx with hx | hx | hx
  ·rw [hx, hr.blk] at hb
   cases hb
   rcases ht with h | h | h <;> cases h
  ·rw [hx, hm] at hb; cases hb
  ·obtain ⟨c2, z2, hc⟩ := owns_blk hr.own hx
   rw [hb] at hc
   cases hc
   rcases ht with h | h | h <;> cases h
theorem Gm.add {w : World} {ab : Nat} {sv nv nv' lv : Value} {S0 l : List Nat} {n : Nat} {T : Nat → List Nat} {W W3 : World} {V : List Value} {o : Obj} (h : Gm w ab sv S0 n T W nv V) (hab : w.heap.size < ab) (hl : W.ownsRow w.heap.size 3 1 lv (cs l).length (vals (cs l)))
  (hown : W3.ownsRow w.heap.size 29 1 nv' (n + 1) (V ++ [lv])) (hgrow : (W.alloc o).grownBy W3 nv.ownBlock) :
  W3.cell? ⟨ab, 1, none⟩ = some nv ∧ W3.frozen? ⟨ab, 1, none⟩ = false ∧ Hid (Gm w ab sv S0 (n + 1) (fun i => if i = n then l else T i) (W3.setCell ⟨ab, 1, none⟩ nv') nv' (V ++ [lv])) ∧ W.grownBy W3 nv.ownBlock := by
 have hg := (World.grownBy_alloc W o nv.ownBlock).trans hgrow
 have hnv : ∀ {b : Nat} {c : Array Value} {t : TypeId} {z : Nat × Nat}, W.heap[b]? = some (.cells c t z) → t ≠ 29 → W3.heap[b]? = W.heap[b]? := fun {b c t z} hb ht => hg.block b (jq4.1 hb).1 (fun e => by
  obtain ⟨c2, z2, h2⟩ := owns_blk h.rws.top e.symm
  rw [hb] at h2
  cases h2
  exact ht rfl)
 have ha3 : W3.heap[ab]? = some (.cells (two5 sv nv) 32) := (hnv h.aut (by decide)).trans h.aut
 have gs := gb_set W3 ⟨ab, 1, none⟩ nv'
 have hset : ∀ {b : Nat}, b < W3.heap.size → b ≠ ab → (W3.setCell ⟨ab, 1, none⟩ nv').heap[b]? = W3.heap[b]? := fun {b} hb hn => gs.block b hb (fun e => hn (Option.some.inj e))
 have h3own : ∀ {base : Nat} {v : Value} {m : Nat} {xs : List Value}, W.ownsRow base 3 1 v m xs → (W3.setCell ⟨ab, 1, none⟩ nv').ownsRow base 3 1 v m xs := fun {base v m xs} h1 => owns_of_blk h1 (fun b e1 => by
  obtain ⟨c, z, h3⟩ := owns_blk h1 e1
  rw [hset (Nat.lt_of_lt_of_le (jq4.1 h3).1 hg.size) (fun e => by rw [e, h.aut] at h3; cases h3)]
  exact hnv h3 (by decide))
 have hVl : V.length = n := by have := h.rws.top.1; omega
 refine ⟨cell_of_cells ha3 rfl, by simp [World.frozen?, ha3], ⟨?_, h3own h.sta, ⟨?_, fun i hi => ?_⟩, ?_, ?_⟩, hg⟩
 ·rw [blk_setCell ha3]; rfl
 ·refine owns_of_blk hown (fun b e1 => ?_)
  obtain ⟨c, z, h3⟩ := owns_blk hown e1
  exact hset (jq4.1 h3).1 (fun e => by rw [e, ha3] at h3; cases h3)
 ·by_cases e : i = n
  ·subst e
   rw [if_pos rfl]
   exact ⟨lv, by rw [List.getElem?_append_right (by omega), hVl]; simp, h3own hl⟩
  ·rw [if_neg e]
   obtain ⟨v, h1, h2⟩ := h.rws.row i (by omega)
   exact ⟨v, by rw [List.getElem?_append_left (by omega)]; exact h1, h3own h2⟩
 ·exact (h.low.grown hg h.low.size (fun b hb => (h.rws.top.lt b hb).1)).setCell (by show w.heap.size ≤ ab; omega) _
 ·rw [hset (Nat.lt_of_lt_of_le (jq4.1 h.res).1 hg.size) (by omega)]
  exact (hnv h.res (by decide)).trans h.res
theorem Rol.row {W W3 : World} {rb mb ab : Nat} {pv nv nv' : Value} {Q : List (Nat × Nat)} {D : DataW Unit} {base n : Nat} {V : List Value} {c5 : Array Value} (hr : Rol W rb mb pv Q D) (ht : W.ownsRow base 29 1 nv n V) (ha : W.heap[ab]? = some (.cells c5 32)) (hg : W.grownBy W3 nv.ownBlock) : Rol (W3.setCell ⟨ab, 1, none⟩ nv') rb mb pv Q D := by
 obtain ⟨es, mc, hm⟩ := map_lt hr.map
 have gs := gb_set W3 ⟨ab, 1, none⟩ nv'
 have hb : ∀ {b : Nat} {ob : Obj}, W.heap[b]? = some ob → (∀ c z, ob ≠ .cells c 29 z) → b ≠ ab → (W3.setCell ⟨ab, 1, none⟩ nv').heap[b]? = W.heap[b]? := fun {b ob} h1 h2 h3 => by
  have hlt := (jq4.1 h1).1
  rw [gs.block b (Nat.lt_of_lt_of_le hlt hg.size) (fun e => h3 (Option.some.inj e)), hg.block b hlt (fun e => ?_)]
  obtain ⟨c, z, h4⟩ := owns_blk ht e.symm
  rw [h1] at h4
  exact h2 c z (Option.some.inj h4)
 refine hr.of (hb hr.blk (fun c z e => by cases e) (fun e => by rw [← e, hr.blk] at ha; cases ha)) (hb hm (fun c z e => by cases e) (fun e => by rw [← e, hm] at ha; cases ha)) (owns_of_blk hr.own (fun b e1 => ?_))
 obtain ⟨c, z, h3⟩ := owns_blk hr.own e1
 exact hb h3 (fun c z e => by cases e) (fun e => by rw [e, ha] at h3; cases h3)
structure Ga (w : World) (rb mb ab : Nat) (sv : Value) (all0 : List Pr) (nx : Nat × Nat → List (Nat × Nat)) (k : Nat) (W : World) (pv nv : Value) (V : List Value) (D : DataW Unit) : Prop where
 rol : Rol W rb mb pv (gQ nx (all0.map prn) k) D
 mem : Gm w ab sv (nms (gQ nx (all0.map prn) k) all0) k (fun i => (nx (nAt (gQ nx (all0.map prn) k) i)).map fun p => ix p (gQ nx (all0.map prn) k)) W nv V
 pvb : ∀ b, pv.ownBlock = some b → w.heap.size ≤ b
 le : k ≤ (gQ nx (all0.map prn) k).length
 l2 : (gQ nx (all0.map prn) k).length ≤ 2048
theorem ga_rows {nx : Nat × Nat → List (Nat × Nat)} {all0 : List Pr} {k : Nat} (hk : k < (gQ nx (all0.map prn) k).length) : (∀ i, i < k + 1 → (if i = k then (nx (nAt (gQ nx (all0.map prn) k) k)).map (fun p => ix p (gQ nx (all0.map prn) (k + 1))) else (nx (nAt (gQ nx (all0.map prn) k) i)).map fun p => ix p (gQ nx (all0.map prn) k)) = (nx (nAt (gQ nx (all0.map prn) (k + 1)) i)).map fun p => ix p (gQ nx (all0.map prn) (k + 1))) ∧ nms (gQ nx (all0.map prn) (k + 1)) all0 = nms (gQ nx (all0.map prn) k) all0 := by
 have hp := gQ_pre nx (all0.map prn) k
 refine ⟨fun i hi => ?_, nms_pre hp (fun y hy => ?_)⟩
 ·by_cases e : i = k
  ·subst e
   rw [if_pos rfl, nAt_pre hp hk]
  ·rw [if_neg e, nAt_pre hp (by omega)]
   exact List.map_congr_left (fun p hp2 => (ix_pre (gQ_mem (by omega) (by omega) p hp2) hp).symm)
 ·exact nAll_start (List.mem_map.2 ⟨y, hy, rfl⟩)
theorem Gm.congr {w : World} {ab : Nat} {sv nv : Value} {S0 : List Nat} {n : Nat} {T U : Nat → List Nat} {W : World} {V : List Value} (h : Gm w ab sv S0 n T W nv V) (e : ∀ i, i < n → T i = U i) : Gm w ab sv S0 n U W nv V :=
 ⟨h.aut, h.sta, ⟨h.rws.top, fun i hi => by rw [← e i hi]; exact h.rws.row i hi⟩, h.low, h.res⟩
theorem Ga.next {w : World} {rb mb ab : Nat} {sv : Value} {all0 all : List Pr} {nx : Nat × Nat → List (Nat × Nat)} {k : Nat} {W W1 W2 W3 : World} {pv nv pv' nv' lv : Value} {V : List Value} {D D' : DataW Unit} {o : Obj} (h : Ga w rb mb ab sv all0 nx k W pv nv V D) (hk : k < (gQ nx (all0.map prn) k).length) (hab : w.heap.size < ab) (hrb : w.heap.size ≤ rb) (hmb : w.heap.size ≤ mb)
  (hall : all.map prn = nx (nAt (gQ nx (all0.map prn) k) k)) (hb1 : Below W.heap.size W W1) (hl2 : (qp (gQ nx (all0.map prn) k) all).length ≤ 2048) (hR : Rol W2 rb mb pv' (qp (gQ nx (all0.map prn) k) all) D') (hl : W2.ownsRow W1.heap.size 3 1 lv (cs (nms (qp (gQ nx (all0.map prn) k) all) all)).length (vals (cs (nms (qp (gQ nx (all0.map prn) k) all) all))))
  (hf : Fr (rex rb mb pv) W1 W2) (hloc : pv'.ownBlock = pv.ownBlock ∨ ∀ b, pv'.ownBlock = some b → W1.heap.size ≤ b)
  (hown : W3.ownsRow w.heap.size 29 1 nv' (k + 1) (V ++ [lv])) (hgrow : (W2.alloc o).grownBy W3 nv.ownBlock) :
  W3.cell? ⟨ab, 1, none⟩ = some nv ∧ W3.frozen? ⟨ab, 1, none⟩ = false ∧ Hid (Ga w rb mb ab sv all0 nx (k + 1) (W3.setCell ⟨ab, 1, none⟩ nv') pv' nv' (V ++ [lv]) D') := by
 have hq : qp (gQ nx (all0.map prn) k) all = gQ nx (all0.map prn) (k + 1) := by
  unfold qp
  rw [hall, gQ_some (nAt_some hk)]
 rw [hq] at hl2 hR hl
 have m1 := h.mem.below hb1
 have m2 := m1.roll (h.rol.below hb1) hrb hmb h.pvb hf
 have hsz : w.heap.size ≤ W1.heap.size := m1.low.size
 have hnum : nms (gQ nx (all0.map prn) (k + 1)) all = (nx (nAt (gQ nx (all0.map prn) k) k)).map fun p => ix p (gQ nx (all0.map prn) (k + 1)) := by
  rw [← hall]
  unfold nms
  rw [List.map_map]
  rfl
 rw [hnum] at hl
 obtain ⟨a1, a2, a3, a4⟩ := m2.add hab (owns_mono hl hsz) hown hgrow
 obtain ⟨r1, r2⟩ := ga_rows (nx := nx) (all0 := all0) hk
 refine ⟨a1, a2, ⟨hR.row m2.rws.top m2.aut a4, ?_, ?_, ?_, hl2⟩⟩
 ·rw [r2]
  exact a3.out.congr (fun i hi => r1 i hi)
 ·intro b hb
  rcases hloc with e | e
  ·exact h.pvb b (by rw [← e]; exact hb)
  ·exact Nat.le_trans hsz (e b hb)
 ·have := (gQ_pre nx (all0.map prn) k).length_le
  omega
end Go.Proofs.YtmdpbaobihdgkaaGreatDoor
namespace Go.Proofs.YtmdpbaobihdgkaaGreatDoor
open Go.RowKit
def Lie (lo : Nat) (q : Nat → Prop) (P : World → Prop) (w : World) : Prop :=
 ∃ p : Nat → Prop, (∀ g, p g → lo ≤ g ∧ g < w.heap.size ∧ ¬ q g) ∧ ∀ z : World, (∀ g, p g → z.heap[g]? = w.heap[g]?) → P z
def noB (_ : Nat) : Prop := False
def isB (b g : Nat) : Prop := g = b
theorem Lie.keep {lo : Nat} {q q' : Nat → Prop} {P : World → Prop} {w z : World} (h : Lie lo q P w) (hs : w.heap.size ≤ z.heap.size) (hz : ∀ g, lo ≤ g → g < w.heap.size → ¬ q g → z.heap[g]? = w.heap[g]? ∧ ¬ q' g) : Lie lo q' P z := by
 obtain ⟨p, h1, h2⟩ := h
 exact ⟨p, fun g hg => ⟨(h1 g hg).1, Nat.lt_of_lt_of_le (h1 g hg).2.1 hs, (hz g (h1 g hg).1 (h1 g hg).2.1 (h1 g hg).2.2).2⟩, fun y hy => h2 y (fun g hg => (hy g hg).trans (hz g (h1 g hg).1 (h1 g hg).2.1 (h1 g hg).2.2).1)⟩
theorem Lie.below {lo : Nat} {q : Nat → Prop} {P : World → Prop} {w z : World} (h : Lie lo q P w) (hb : Below w.heap.size w z) : Lie lo q P z :=
 h.keep hb.size (fun g _ hg hq => ⟨hb.block g hg, hq⟩)
theorem Lie.mono {lo lo' : Nat} {q : Nat → Prop} {P : World → Prop} {w : World} (h : Lie lo q P w) (hl : lo' ≤ lo) : Lie lo' q P w := by
 obtain ⟨p, h1, h2⟩ := h
 exact ⟨p, fun g hg => ⟨Nat.le_trans hl (h1 g hg).1, (h1 g hg).2⟩, h2⟩
theorem Lie.fresh {lo : Nat} {P : World → Prop} {w : World} (h : Lie lo noB P w) (o : Obj) : Lie lo (isB w.heap.size) P (w.alloc o) :=
 h.keep (box_below w o).size (fun g _ hg _ => ⟨(box_below w o).block g hg, fun e => by unfold isB at e; omega⟩)
theorem Lie.old {lo b : Nat} {P : World → Prop} {w : World} (h : Lie lo noB P w) (hb : b < lo) : Lie lo (isB b) P w := by
 obtain ⟨p, h1, h2⟩ := h
 exact ⟨p, fun g hg => ⟨(h1 g hg).1, (h1 g hg).2.1, fun e => by have := (h1 g hg).1; unfold isB at e; omega⟩, h2⟩
end Go.Proofs.YtmdpbaobihdgkaaGreatDoor
