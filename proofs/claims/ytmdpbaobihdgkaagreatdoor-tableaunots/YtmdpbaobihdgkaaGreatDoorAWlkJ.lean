/-   -/
import Derived.WalkSmall
import Derived.Test.YtmdpbaobihdgkaaGreatDoorAStfJ
import Derived.Test.YtmdpbaobihdgkaaGreatDoorAKsrJ
/- Going in depth through spots: what the function walk keeps in memory. -/
/- walk, forward. -/
namespace Go.Proofs.YtmdpbaobihdgkaaGreatDoor
open Go.RowKit
def spv (l : List (Nat × Nat)) : List Value := l.flatMap (fun q => [.int .i64 (q.1 : Nat), .int .i64 (q.2 : Nat)])
theorem spv_len : ∀ l, (spv l).length = l.length * 2
 | [] => rfl
 | q :: l => by
  have := spv_len l
  simp only [spv, List.flatMap_cons, List.length_append, List.length_cons, List.length_nil] at this ⊢
  omega
theorem spv_snoc (l : List (Nat × Nat)) (q : Nat × Nat) : spv (l ++ [q]) = spv l ++ [.int .i64 (q.1 : Nat), .int .i64 (q.2 : Nat)] := by simp [spv]
theorem spv_append (l k : List (Nat × Nat)) : spv (l ++ k) = spv l ++ spv k := by simp [spv]
theorem spv_at : ∀ (l : List (Nat × Nat)) (i : Nat), i < l.length → (spv l)[i * 2]? = some (.int .i64 ((l.getD i (0, 0)).1 : Nat)) ∧ (spv l)[i * 2 + 1]? = some (.int .i64 ((l.getD i (0, 0)).2 : Nat))
 | [], i, h => by simp at h
 | q :: l, 0, _ => by simp [spv]
 | q :: l, i + 1, h => by
  have := spv_at l i (by simpa using h)
  have e : spv (q :: l) = [.int .i64 (q.1 : Nat), .int .i64 (q.2 : Nat)] ++ spv l := by simp [spv]
  rw [e, show (i + 1) * 2 = i * 2 + 2 by omega, show i * 2 + 2 + 1 = i * 2 + 1 + 2 by omega]
  simpa using this
theorem spv_one (l : List (Nat × Nat)) : ∀ u ∈ spv l, u.oneCell' = true := by
 intro u hu
 simp only [spv, List.mem_flatMap] at hu
 obtain ⟨q, _, hq⟩ := hu
 simp at hq
 rcases hq with rfl | rfl <;> rfl
theorem Tryz.info120 : (Tryz.prog.info? 120).map (fun i => (i.zero, i.size, i.bytes)) = some (some (.agg #[.int .i64 0, .int .i64 0]), 2, 16) := by kernel_rfl
theorem owns_sp {w : World} {base : Nat} {v : Value} {l : List (Nat × Nat)} (h : w.ownsRow base 120 2 v l.length (spv l)) :
  ∃ a c, v = .slice a l.length c ∧ Sp w a l.length (fun i => l.getD i (0, 0)) ∧ (∀ p, a = some p → base ≤ p.block ∧ p.block < w.heap.size) := by
 rcases h.2 with ⟨rfl, h0⟩ | ⟨g, cap, cur, rfl, hb, hg, _⟩
 ·exact ⟨none, 0, by rw [h0], ⟨0, fun hh => by omega, fun i hi => by omega⟩, fun p hp => by cases hp⟩
 ·refine ⟨some ⟨g, 0, none⟩, cap, rfl, ⟨g, fun _ => rfl, fun i hi => ?_⟩, fun p hp => ?_⟩
  ·obtain ⟨h1, h2⟩ := spv_at l i hi
   have e1 := h.cells (g := g) rfl _ _ h1
   have e2 := h.cells (g := g) rfl _ _ h2
   rw [Addr.add_mid, Nat.zero_add] at e1 e2
   exact ⟨e1, e2⟩
  ·rw [Option.some.injEq] at hp
   subst hp
   exact ⟨hb, (jq4.1 hg).1⟩
def a_lf (m : Nat) (X : Nat → Nat → Nat) (q : Nat × Nat) : Prop := q.2 < m ∧ q.1 < 2048 ∧ mem (X q.2) q.1 = true
theorem lf_del {m : Nat} {X : Nat → Nat → Nat} {s p : Nat} (q : Nat × Nat) : a_lf m (at1 X p (sdel (X p) s)) q ↔ (a_lf m X q ∧ q ≠ (s, p)) := by
 obtain ⟨t, k⟩ := q
 unfold a_lf at1
 by_cases e : k = p
 ·subst e
  simp only [if_true, mem_del, Bool.and_eq_true, decide_eq_true_eq, ne_eq, Prod.mk.injEq, and_true]
  constructor
  ·rintro ⟨h1, h2, h3, h4⟩; exact ⟨⟨h1, h2, h4⟩, h3⟩
  ·rintro ⟨⟨h1, h2, h4⟩, h3⟩; exact ⟨h1, h2, h3, h4⟩
 ·simp only [ne_eq, Prod.mk.injEq, e, and_false, not_false_iff, and_true, if_false]
structure Wm (w wr : World) (lb m : Nat) (X : Nat → Nat → Nat) (dv : Value) (D : List (Nat × Nat)) (pv : Value) (P : List (Nat × Nat)) : Prop where
 but : But lb w wr
 left : Ls wr lb m X
 od : wr.ownsRow w.heap.size 120 2 dv D.length (spv D)
 op : wr.ownsRow w.heap.size 120 2 pv P.length (spv P)
 ap : ∀ b, dv.ownBlock = some b → pv.ownBlock ≠ some b
 lb : lb < w.heap.size
theorem owns_below {w w' : World} {base : Nat} {e : TypeId} {size : Nat} {v : Value} {n : Nat} {xs : List Value} (h : w.ownsRow base e size v n xs) (hb : Below w.heap.size w w') : w'.ownsRow base e size v n xs :=
 h.kept (row := none) ⟨hb.os, hb.tape, hb.output, hb.size, fun k hk _ => hb.block k hk⟩ (by
  cases hv : v.ownBlock with
  | none => exact Or.inl rfl
  | some b => exact Or.inr (fun e => by cases e))
theorem Wm.below {w wr wr' : World} {lb m : Nat} {X : Nat → Nat → Nat} {dv pv : Value} {D P : List (Nat × Nat)} (h : Wm w wr lb m X dv D pv P) (hb : Below wr.heap.size wr wr') : Wm w wr' lb m X dv D pv P :=
 ⟨h.but.trans (But.of_below hb), h.left.below' hb, owns_below h.od hb, owns_below h.op hb, h.ap, h.lb⟩
theorem Wm.del {w wr : World} {lb m : Nat} {X : Nat → Nat → Nat} {dv pv : Value} {D P : List (Nat × Nat)} (h : Wm w wr lb m X dv D pv P) {s p : Nat} (hs : s < 2048) (hp : p < m) :
  Wm w (wr.setCell ⟨lb, p * 32 + s / 64, none⟩ (.int .u64 (sdel (X p) s (s / 64) : Nat))) lb m (at1 X p (sdel (X p) s)) dv D pv P := by
 have hlb := h.lb
 refine ⟨h.but.setCell _ _, ?_, ownsRow_setCell_below h.od (by exact hlb) _, ownsRow_setCell_below h.op (by exact hlb) _, h.ap, hlb⟩
 have := h.left.set hp (k := s / 64) (by omega) (sdel_small (h.left p hp).small hs _ (by omega) : sdel (X p) s (s / 64) < _)
 refine this.congr (fun i _ j _ => ?_)
 unfold at1
 split
 ·simp only [sdel, upd_self]
 ·rfl
theorem Wm.grow {w wr w1 : World} {lb m : Nat} {X : Nat → Nat → Nat} {dv pv dv' : Value} {D P : List (Nat × Nat)} {o : Obj} (h : Wm w wr lb m X dv D pv P) {q : Nat × Nat}
  (hown : w1.ownsRow w.heap.size 120 2 dv' (D.length + 1) (spv D ++ [.int .i64 (q.1 : Nat), .int .i64 (q.2 : Nat)])) (hgrow : (wr.alloc o).grownBy w1 dv.ownBlock)
  (hloc : dv'.ownBlock = dv.ownBlock ∨ dv'.ownBlock = some (wr.alloc o).heap.size) : Wm w w1 lb m X dv' (D ++ [q]) pv P := by
 have hg : wr.grownBy w1 dv.ownBlock := (World.grownBy_alloc _ _ _).trans hgrow
 have hne : ∀ k, k < w.heap.size → some k ≠ dv.ownBlock := fun k hk e => by have := (h.od.lt k e.symm).1; omega
 have hbk : w1.heap[lb]? = wr.heap[lb]? := hg.block lb (Nat.lt_of_lt_of_le h.lb h.but.size) (hne lb h.lb)
 refine ⟨⟨hg.os.trans h.but.os, hg.tape.trans h.but.tape, hg.output.trans h.but.output, Nat.le_trans h.but.size hg.size, fun k h1 h2 => (hg.block k (Nat.lt_of_lt_of_le h1 h.but.size) (hne k h1)).trans (h.but.block k h1 h2)⟩, fun i hi => (h.left i hi).of_block hbk, ?_, ?_, fun b hb hb2 => ?_, h.lb⟩
 ·have e : (D ++ [q]).length = D.length + 1 := by simp
  rw [e, spv_snoc]; exact hown
 ·refine h.op.kept hg ?_
  cases hv : pv.ownBlock with
  | none => exact Or.inl rfl
  | some b => exact Or.inr (fun ee => h.ap b ee.symm hv)
 ·rcases hloc with hl | hl
  ·exact h.ap b (by rw [← hl]; exact hb) hb2
  ·rw [hl] at hb
   have := (h.op.lt b hb2).2
   simp only [Option.some.injEq, World.size_alloc] at hb
   omega
theorem Wm.swap {w wr : World} {lb m : Nat} {X : Nat → Nat → Nat} {dv pv : Value} {D P : List (Nat × Nat)} (h : Wm w wr lb m X dv D pv P) : Wm w wr lb m X pv P dv D :=
 ⟨h.but, h.left, h.op, h.od, fun b h1 h2 => h.ap b h2 h1, h.lb⟩
theorem Wm.popP {w wr : World} {lb m : Nat} {X : Nat → Nat → Nat} {dv : Value} {D P : List (Nat × Nat)} {g cap : Nat} {q : Nat × Nat} (h : Wm w wr lb m X dv D (.slice (some ⟨g, 0, none⟩) (P.length + 1) cap) (P ++ [q])) :
  Wm w wr lb m X dv D (.slice (some ⟨g, 0, none⟩) P.length cap) P := by
 refine ⟨h.but, h.left, h.od, ?_, h.ap, h.lb⟩
 have e : (P ++ [q]).length = P.length + 1 := by simp
 have := h.op
 rw [e, spv_snoc] at this
 exact ownsRow_pop (spv_len P) this
def lenV : Value → Nat
 | .slice _ n _ => n
 | _ => 0
theorem owns_len {w : World} {base : Nat} {e : TypeId} {size : Nat} {v : Value} {n : Nat} {xs : List Value} (h : w.ownsRow base e size v n xs) : lenV v = n := by
 rcases h.2 with ⟨rfl, h0⟩ | ⟨g, cap, cur, rfl, _⟩
 ·exact h0.symm
 ·rfl
theorem owns_cap {w : World} {base : Nat} {e : TypeId} {size g cap n k : Nat} {xs : List Value} (h : w.ownsRow base e size (.slice (some ⟨g, 0, none⟩) k cap) n xs) : n ≤ cap ∧ cap ≤ maxLen := by
 rcases h.2 with ⟨e, _⟩ | ⟨g, cap, cur, e, _, _, h1, h2, _⟩
 ·cases e
 ·cases e; exact ⟨h1, h2⟩
theorem owns_some {w : World} {base : Nat} {e : TypeId} {size : Nat} {v : Value} {n : Nat} {xs : List Value} (h : w.ownsRow base e size v (n + 1) xs) : ∃ g c, v = .slice (some ⟨g, 0, none⟩) (n + 1) c := by
 rcases h.2 with ⟨_, h0⟩ | ⟨g, cap, cur, rfl, _⟩
 ·omega
 ·exact ⟨g, cap, rfl⟩
theorem pairs_len {l : List (Nat × Nat)} {a b : Nat} (h : l.Nodup) (hb : ∀ q ∈ l, q.1 < a ∧ q.2 < b) : l.length ≤ a * b := by
 have := nodup_le (U := (List.range a).flatMap (fun s => (List.range b).map (fun p => (s, p)))) h (fun q hq => by
  rw [List.mem_flatMap]
  exact ⟨q.1, List.mem_range.2 (hb q hq).1, List.mem_map.2 ⟨q.2, List.mem_range.2 (hb q hq).2, rfl⟩⟩)
 have e : ((List.range a).flatMap (fun s => (List.range b).map (fun p => (s, p)))).length = a * b := by
  clear this hb h
  induction a with
  | zero => simp
  | succ a ih => rw [List.range_succ, List.flatMap_append, List.length_append, ih, Nat.succ_mul]; simp
 omega
theorem dfs_len {E : Nat × Nat → Nat × Nat → Prop} {T : Nat × Nat → Prop} {met D P : List (Nat × Nat)} {L : Nat × Nat → Prop} {G m : Nat} (h : Dfs E T (met ++ D) P L) (hT : ∀ q, T q → q.1 < G ∧ q.2 < m) (hG : G ≤ 2048) (hm : m ≤ 60) : D.length + P.length ≤ 122880 := by
 have h1 := pairs_len h.nd (fun q hq => hT q ((h.part q).2 (by rcases List.mem_append.1 hq with h | h; exact Or.inl h; exact Or.inr (Or.inl h))))
 have h2 : G * m ≤ 2048 * 60 := Nat.mul_le_mul hG hm
 simp only [List.length_append] at h1
 omega
end Go.Proofs.YtmdpbaobihdgkaaGreatDoor
namespace Go.Proofs.YtmdpbaobihdgkaaGreatDoor
open Go.RowKit
def Sf (R : Rx) (q t : Nat × Nat) : Prop := mem (R.N q.1) t.1 = true ∧ t.2 = (q.2 + 1) % R.m
set_option maxHeartbeats 4000000 in
theorem walkF_any (R : Rx) (lb lc : Nat) (X : Nat → Nat → Nat) (s p : Nat) (w : World) (h : Rw w R) (hl : Ls w lb R.m X) (hlb : lb < w.heap.size) (hap : lb ≠ R.nb ∧ lb ≠ R.pb ∧ lb ≠ R.tb ∧ lb ≠ R.fb ∧ lb ≠ 0)
  (E : Nat × Nat → Nat × Nat → Prop) (T : Nat × Nat → Prop) (met : List (Nat × Nat)) (hD : Dfs E T met [] (a_lf R.m X)) (hE : ∀ q t, T q → T t → (E q t ↔ Sf R q t)) (hT : ∀ q, T q → q.1 < R.G ∧ q.2 < R.m) (hv : a_lf R.m X (s, p)) :
  Calls Tryz.prog 75 #[.agg #[.int .i64 s, .int .i64 p], .slice (some ⟨lb, 0, none⟩) R.m lc, .func (.func 76) #[R.val] #[]] w fun e w' => ∃ v part X', e = .returned v ∧ w'.ownsRow w.heap.size 120 2 v part.length (spv part) ∧ Ls w' lb R.m X' ∧ But lb w w' ∧ Dfs E T (met ++ part) [] (a_lf R.m X') ∧ (s, p) ∈ part ∧ ∀ z, z ∈ part → Rt E T (s, p) z := by
 have hG := h.g
 have hm60 := h.m60
 have hv' := hT (s, p) ((hD.part _).2 (Or.inr (Or.inr hv)))
 have hvs : s < 2048 := by have := hv'.1; dsimp only at this; omega
 have hvp : p < R.m := hv'.2
 have H0 := hid h
 have HAP := hid hap
 have HE := hid hE
 have HT := hid hT
 have HD0 := hid hD
 have HV := hid hv
 have HLB := hid hlb
 -- the spot's box, and the first one taken away
 obtain ⟨W0, hW0, hb0, hs0, r0, r1⟩ : ∃ W0, w.alloc (.cells #[.int .i64 (s : Nat), .int .i64 (p : Nat)] 120) = W0 ∧ Below w.heap.size w W0 ∧ W0.heap.size = w.heap.size + 1 ∧ W0.cell? ⟨w.heap.size, 0, none⟩ = some (.int .i64 (s : Nat)) ∧ W0.cell? ⟨w.heap.size, 1, none⟩ = some (.int .i64 (p : Nat)) :=
  ⟨_, rfl, box_below _ _, by simp, cell_of_alloc rfl, cell_of_alloc rfl⟩
 have hW1 : Wm w W0.drew lb R.m X (.slice none 0 0) [] (.slice none 0 0) [] := by
  have hb := hb0.drew
  exact ⟨But.of_below hb, hl.below' hb, World.ownsRow_nil _ _ _ _, World.ownsRow_nil _ _ _ _, fun b hb => by simp [Value.ownBlock] at hb, hlb⟩
 have C0 := hid (del_any lb (p * 32) (X p) s _ hvs (hW1.left p hvp))
 have HW1 := hid (hW1.del hvs hvp)
 clear h hl hlb hap hE hT hD hv hW1 hv'
 obtain ⟨i0, hi, hz0, hz1, hz2⟩ := info_parts Tryz.info120
 have HI : Hid (Tryz.prog.info? 120 = some i0 ∧ i0.zero = some (.agg #[.int .i64 0, .int .i64 0]) ∧ i0.size = 2 ∧ i0.bytes = 16) := ⟨hi, hz0, hz1, hz2⟩
 clear hi hz0 hz1 hz2
 obtain ⟨nb, G, c1, pb, c2, tb, m, c3, fb, K, c4, N, P, T', F⟩ := R
 dsimp only [Rx.val] at *
 go_enter Tryz.func75, Tryz.ntmps75
 go_wp2
 clear hW0
 have hne : lb ≠ w.heap.size := by have := HLB.out; omega
 go_region_held3 (fun z => z.cell? ⟨w.heap.size, 0, none⟩ = some (.int .i64 (s : Nat)) ∧ z.cell? ⟨w.heap.size, 1, none⟩ = some (.int .i64 (p : Nat))) (first | go_keep) (first | (go_at_call 105; refine C0.out.mono ?_; rintro e w1 ⟨⟨v0, rfl⟩, rfl⟩) | fail)
 have HW1' := hid (HW1.out.below ((Sm.refl _).drew.below _))
 have q0 : (W0.drew.setCell ⟨lb, p * 32 + s / 64, none⟩ (.int .u64 (sdel (X p) s (s / 64) : Nat))).drew.cell? ⟨w.heap.size, 0, none⟩ = some (.int .i64 (s : Nat)) := by simp [World.cell?_setCell_far, r0, hne]
 have q1 : (W0.drew.setCell ⟨lb, p * 32 + s / 64, none⟩ (.int .u64 (sdel (X p) s (s / 64) : Nat))).drew.cell? ⟨w.heap.size, 1, none⟩ = some (.int .i64 (p : Nat)) := by simp [World.cell?_setCell_far, r1, hne]
 clear HW1 C0 r0 r1 hb0 hs0 hne
 rw [show (W0.setCell ⟨lb, p * 32 + s / 64, none⟩ (.int .u64 (sdel (X p) s (s / 64) : Nat))).drew.drew = (W0.drew.setCell ⟨lb, p * 32 + s / 64, none⟩ (.int .u64 (sdel (X p) s (s / 64) : Nat))).drew from rfl]
 generalize (W0.drew.setCell ⟨lb, p * 32 + s / 64, none⟩ (.int .u64 (sdel (X p) s (s / 64) : Nat))).drew = w1 at *
 go_wp2
 clear q0 q1
 go_loopw [7, 8] (fun dv pv wr => ∃ (D P : List (Nat × Nat)) (X' : Nat → Nat → Nat), Hid (Wm w wr lb m X' dv D pv P ∧ Dfs E T (met ++ D) P (a_lf m X') ∧ (s, p) ∈ D ++ P ∧ ∀ z, z ∈ D ++ P → Rt E T (s, p) z)) (fun dv pv _ => 2 * (122880 - (lenV dv + lenV pv)) + lenV pv)
 case atStart =>
  refine ⟨[], [(s, p)], at1 X p (sdel (X p) s), hid ⟨?_, ?_, by simp, fun z hz => ?_⟩⟩
  ·have h1 := HW1'.out.below (box_below w1 (.cells #[.int .i64 (s : Nat), .int .i64 (p : Nat)] 120))
   refine ⟨h1.but, h1.left, h1.od, ⟨rfl, Or.inr ⟨w1.heap.size, 1, _, rfl, HW1'.out.but.size, Go.Deep.blk_alloc_new _ _, Nat.le_refl _, by unfold maxLen; omega, rfl, rfl⟩⟩, fun b hb => by simp [Value.ownBlock] at hb, h1.lb⟩
  ·rw [List.append_nil]
   exact HD0.out.start HV.out (fun x => lf_del x)
  ·have : z = (s, p) := by simpa using hz
   rw [this]
   exact Rt.refl
 case round =>
  rename_i dv pv
  obtain ⟨D, P', X', H⟩ := hrel
  rcases List.eq_nil_or_concat P' with hP | ⟨P0, t, hP⟩
  ·subst hP
   obtain ⟨pa, pc, rfl, _⟩ := owns_sp H.out.1.op
   go_wp2
   go_ret
   obtain ⟨h1, h2, h3, h4⟩ := H.out
   rw [List.append_nil] at h3
   exact ⟨_, D, X', rfl, h1.od, h1.left, h1.but, h2, h3, fun z hz => h4 z (by simpa using hz)⟩
  ·rw [List.concat_eq_append] at hP
   subst hP
   obtain ⟨ts, tp⟩ := t
   have hop := H.out.1.op
   have e1 : (P0 ++ [(ts, tp)]).length = P0.length + 1 := by simp
   rw [e1] at hop
   obtain ⟨g, cap, rfl⟩ := owns_some hop
   have hcap := (owns_cap hop).1
   have hcap2 : cap ≤ 9223372036854775807 := by have := (owns_cap hop).2; unfold maxLen at this; omega
   obtain ⟨pa, pc, hpe, ⟨gb, hga, hgc⟩, _⟩ := owns_sp H.out.1.op
   rw [e1] at hpe hga hgc
   rw [Value.slice.injEq] at hpe
   have hgb := hga (by omega)
   rw [← hpe.1, Option.some.injEq, Addr.mk.injEq] at hgb
   obtain ⟨y1, y2⟩ := hgc P0.length (by omega)
   rw [← hgb.1] at y1 y2
   have e2 : (P0 ++ [(ts, tp)]).getD P0.length (0, 0) = (ts, tp) := by simp
   dsimp only at y1 y2
   rw [e2] at y1 y2
   dsimp only at y1 y2
   have hT1 := HT.out (ts, tp) ((H.out.2.1.part _).2 (Or.inr (Or.inl (by simp))))
   obtain ⟨hts, htp⟩ := hT1
   dsimp only at hts htp
   have hlen := dfs_len H.out.2.1 HT.out hG hm60
   rw [e1] at hlen
   have hDl := owns_len H.out.1.od
   clear hop hpe hga hgc hgb e1 e2
   generalize hPl : P0.length = pl at *
   have HPL := hid hPl
   clear hPl
   go_wp2_with fail
   obtain ⟨W2, hW2, hb2, hs2, r0, r1⟩ : ∃ W2, wr.alloc (.cells #[.int .i64 (ts : Nat), .int .i64 (tp : Nat)] 120) = W2 ∧ Below wr.heap.size wr W2 ∧ W2.heap.size = wr.heap.size + 1 ∧ W2.cell? ⟨wr.heap.size, 0, none⟩ = some (.int .i64 (ts : Nat)) ∧ W2.cell? ⟨wr.heap.size, 1, none⟩ = some (.int .i64 (tp : Nat)) :=
    ⟨_, rfl, box_below _ _, by simp, cell_of_alloc rfl, cell_of_alloc rfl⟩
   rw [hW2]
   clear hW2 y1 y2
   have hm2 := H.out.1.below hb2
   have hR2 : Rw W2 ⟨nb, G, c1, pb, c2, tb, m, c3, fb, K, c4, N, P, T', F⟩ := by
    have hb3 := hm2.but
    have ha := HAP.out
    have h0 := H0.out
    have hblk := h0.blk
    exact ⟨h0.next.but hb3 (Ne.symm ha.1), h0.prev.but hb3 (Ne.symm ha.2.1), h0.fits.but hb3 (Ne.symm ha.2.2.1), h0.fair.but hb3 (Ne.symm ha.2.2.2.1), h0.g, h0.m, h0.m60, h0.k80, fun j hj => hb3.cell (Ne.symm ha.2.2.2.2) (h0.tb j hj), by have := hb3.size; dsimp only at hblk ⊢; omega⟩
   refine (forward_any ⟨nb, G, c1, pb, c2, tb, m, c3, fb, K, c4, N, P, T', F⟩ ts tp W2 hR2 hts htp).mono ?_
   rintro e w3 ⟨rfl, hb3⟩
   dsimp only
   have hm3 := hm2.below hb3
   have hR3 := hR2.below hb3
   have g0 := below_cell hb3 jq0 r0
   have g1 := below_cell hb3 jq0 r1
   have hs3 := hb3.size
   obtain ⟨np, hnp, hnm⟩ : ∃ np, (tp + 1) % m = np ∧ np < m := ⟨_, rfl, Nat.mod_lt _ H0.out.m⟩
   rw [hnp]
   have C := hid (firstOf_any nb (ts * 32) lb (np * 32) (N ts) (X' np) w3 (hR3.next ts hts) (hm3.left np hnm) hR3.tb)
   have HNP := hid hnp
   have HM3 := hid hm3
   clear hm2 hR2 hm3 hR3 r0 r1 hb2 hb3 hnp hs2 hs3
   go_wp2_with fail
   refine C.out.mono ?_
   rintro e w4 ⟨⟨r, rfl, hr⟩, hsm⟩
   have f0 := (hsm.cell ⟨wr.heap.size, 0, none⟩).trans g0
   have f1 := (hsm.cell ⟨wr.heap.size, 1, none⟩).trans g1
   have HM4 := hid (HM3.out.below (hsm.below _))
   clear g0 g1 hsm HM3
   rcases hr with ⟨u, hu, rfl, hu1, hu2⟩ | ⟨rfl, hno⟩
   ·have hune : ((u : Int) == -1) = false := beq_eq_false_iff_ne.2 (by omega)
    have C2 := hid (del_any lb (np * 32) (X' np) u w4 hu (HM4.out.left np hnm))
    have HU := hid (And.intro hu1 hu2)
    clear hu1 hu2
    go_wp2_with fail
    refine C2.out.mono ?_
    rintro e w5 ⟨⟨v5, rfl⟩, rfl⟩
    have HM5 := hid ((HM4.out.del hu hnm).below ((Sm.refl _).drew.below _))
    generalize ((w4.setCell ⟨lb, np * 32 + u / 64, none⟩ (.int .u64 (sdel (X' np) u (u / 64) : Nat))).drew) = w6 at *
    have hsz6 : w.heap.size ≤ w6.heap.size := HM5.out.but.size
    have hown6 := HM5.out.op
    have e1 : (P0 ++ [(ts, tp)]).length = pl + 1 := by rw [← HPL.out]; simp
    have HO := hid (by rw [e1] at hown6; exact hown6 : w6.ownsRow w.heap.size 120 2 (.slice (some ⟨g, 0, none⟩) (pl + 1) cap) (pl + 1) (spv (P0 ++ [(ts, tp)])))
    clear hown6 e1 f0 f1
    go_wp2_with (at_builtin; refine wpList_append_own_at _ rfl _ _ 116 rfl w.heap.size 120 i0 _ 2 16 Tryz.underlying116 HI.out.1 HI.out.2.1 HI.out.2.2.1 HI.out.2.2.2 rfl (by decide) _ _ _ rfl (HO.out.alloc _) ⟨w6.heap.size, 0, none⟩ 1 1 [.int .i64 (u : Nat), .int .i64 (np : Nat)] rfl rfl (World.news_of_block (cs := #[.int .i64 (u : Nat), .int .i64 (np : Nat)]) (t := 120) (fr := (0, 0)) (Go.Deep.blk_alloc_new w6 _)) (spv_one [(u, np)]) (by unfold maxLen; omega) (by omega) (by simp; omega) ?_; intro pv' w7 hown' hgrow hnil hloc; have G7 := hid (HM5.out.swap.grow (q := (u, np)) (by rw [show (P0 ++ [(ts, tp)]).length + 1 = pl + 1 + 1 by rw [← HPL.out]; simp]; exact hown') hgrow hloc).swap; have hpl7 := owns_len hown'; clear hown' hgrow hnil hloc)
    have hTt : T (ts, tp) := (H.out.2.1.part _).2 (Or.inr (Or.inl (by simp)))
    have hLu : a_lf m X' (u, np) := ⟨hnm, hu, HU.out.2⟩
    have hTu : T (u, np) := (H.out.2.1.part _).2 (Or.inr (Or.inr hLu))
    have hEt : E (ts, tp) (u, np) := (HE.out _ _ hTt hTu).2 ⟨HU.out.1, HNP.out.symm⟩
    have hDP := H.out.2.1.push hEt hLu (L' := a_lf m (at1 X' np (sdel (X' np) u))) (fun x => lf_del x)
    have hlen2 := dfs_len hDP HT.out hG hm60
    rw [show (P0 ++ [(ts, tp)] ++ [(u, np)]).length = pl + 1 + 1 by rw [← HPL.out]; simp] at hlen2
    go_roundw
    case rel =>
     refine ⟨D, P0 ++ [(ts, tp)] ++ [(u, np)], at1 X' np (sdel (X' np) u), hid ⟨G7.out, hDP, ?_, fun z hz => ?_⟩⟩
     ·rw [← List.append_assoc]
      exact List.mem_append.2 (Or.inl H.out.2.2.1)
     ·rw [← List.append_assoc] at hz
      rcases List.mem_append.1 hz with hz | hz
      ·exact H.out.2.2.2 z hz
      ·have : z = (u, np) := by simpa using hz
       rw [this]
       exact (H.out.2.2.2 (ts, tp) (by simp)).tail hEt hTu
    case measure =>
     rw [hpl7, hDl]
     simp only [lenV]
     omega
   ·have hsz4 : w.heap.size ≤ w4.heap.size := HM4.out.but.size
    have HNO := hid hno
    clear hno
    go_wp2_with (at_builtin; refine wpList_append_own_at _ rfl _ _ 116 rfl w.heap.size 120 i0 _ 2 16 Tryz.underlying116 HI.out.1 HI.out.2.1 HI.out.2.2.1 HI.out.2.2.2 rfl (by decide) _ _ _ rfl (HM4.out.od.alloc _) ⟨w4.heap.size, 0, none⟩ 1 1 [.int .i64 (ts : Nat), .int .i64 (tp : Nat)] rfl rfl (World.news_of_block (cs := #[.int .i64 (ts : Nat), .int .i64 (tp : Nat)]) (t := 120) (fr := (0, 0)) (Go.Deep.blk_alloc_new w4 _)) (spv_one [(ts, tp)]) (by unfold maxLen; omega) (by omega) (by simp; omega) ?_; intro dv' w7 hown' hgrow hnil hloc; have G7 := hid (HM4.out.grow (q := (ts, tp)) hown' hgrow hloc); have hdl7 := owns_len hown'; clear hown' hgrow hnil hloc)
    go_roundw
    case rel =>
     have hpl := HPL.out
     subst hpl
     have hTt : T (ts, tp) := (H.out.2.1.part _).2 (Or.inr (Or.inl (by simp)))
     refine ⟨D ++ [(ts, tp)], P0, X', hid ⟨G7.out.popP, ?_, ?_, fun z hz => ?_⟩⟩
     ·rw [← List.append_assoc]
      refine H.out.2.1.pop (fun v hv hLv => ?_)
      have hTv : T v := (H.out.2.1.part _).2 (Or.inr (Or.inr hLv))
      obtain ⟨h1, h2⟩ := (HE.out _ _ hTt hTv).1 hv
      dsimp only at h1 h2
      rw [HNP.out] at h2
      have h3 := HNO.out v.1 hLv.2.1 h1
      have h4 := hLv.2.2
      rw [h2, h3] at h4
      cases h4
     ·have := H.out.2.2.1
      rw [List.append_assoc]
      exact (List.Perm.mem_iff (List.Perm.append_left _ List.perm_append_comm)).1 this
     ·rw [List.append_assoc] at hz
      exact H.out.2.2.2 z ((List.Perm.mem_iff (List.Perm.append_left _ List.perm_append_comm)).1 hz)
    case measure =>
     rw [hdl7, hDl]
     simp only [lenV]
     omega
end Go.Proofs.YtmdpbaobihdgkaaGreatDoor
