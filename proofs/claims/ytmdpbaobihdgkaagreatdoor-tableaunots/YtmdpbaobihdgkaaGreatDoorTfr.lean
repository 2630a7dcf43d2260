
import Derived.Test.YtmdpbaobihdgkaaGreatDoorTnx
/- tableau: fair. -/
set_option linter.unusedSimpArgs false
namespace Go.Proofs.YtmdpbaobihdgkaaGreatDoor
open Go.RowKit
set_option maxHeartbeats 800000 in
theorem fair60 {u : World} {b5 b6 b7 g1 g2 n : Nat} {kd : Int} {B1 B2 : Nat → Bool} (hk : u.cell? ⟨b5, 0, none⟩ = some (.int .i64 kd)) (h6 : u.cell? ⟨b6, 0, none⟩ = some (.slice (some ⟨g1, 0, none⟩) n n)) (h7 : u.cell? ⟨b7, 0, none⟩ = some (.slice (some ⟨g2, 0, none⟩) n n))
  (r1 : u.rowIs g1 4 n (fun i => .bool (B1 i))) (r2 : u.rowIs g2 4 n (fun i => .bool (B2 i))) (s : Nat) (hs : s < n) (hkd : kd = 8 ∨ kd = 9) :
  Calls Tryz.prog 60 #[.int .i64 s, .pointer (some ⟨b5, 0, none⟩), .pointer (some ⟨b6, 0, none⟩), .pointer (some ⟨b7, 0, none⟩)] u fun e u' => e = .returned (.bool (if kd = 8 then !B1 s || B2 s else B1 s || !B2 s)) ∧ Below u.heap.size u u' := by
 have c1 := r1.cell hs
 have c2 := r2.cell hs
 have hsz : (s : Int) < n := by omega
 clear r1 r2
 generalize B1 s = x at *
 generalize B2 s = y at *
 rcases hkd with rfl | rfl
 ·cases x <;> (go_enter Tryz.func60, Tryz.ntmps60; go_wp2; go_ret; exact ⟨by simp, Below.refl _ _⟩)
 ·cases x <;> (go_enter Tryz.func60, Tryz.ntmps60; go_wp2; go_ret; exact ⟨by simp, Below.refl _ _⟩)
structure Ff (u wr : World) (j : Nat) (T : Nat → List Int) (v : Value) : Prop where
 bel : Below u.heap.size u wr
 rows : ∃ V : List Value, wr.ownsRow u.heap.size 29 1 v j V ∧ ∀ i, i < j → ∃ x, V[i]? = some x ∧ wr.ownsRow u.heap.size 3 1 x (T i).length (vals (T i))
theorem Ff.start (u w : World) (T : Nat → List Int) (hb : Below u.heap.size u w) : Ff u w 0 T (.slice none 0 0) :=
 ⟨hb, [], World.ownsRow_nil _ _ _ _, fun i hi => absurd hi (Nat.not_lt_zero i)⟩
theorem Ff.below {u w w1 : World} {j : Nat} {T : Nat → List Int} {v : Value} (h : Ff u w j T v) (hb : Below w.heap.size w w1) : Ff u w1 j T v := by
 obtain ⟨V, h1, h2⟩ := h.rows
 exact ⟨h.bel.trans (hb.mono h.bel.size), V, owns3_below h1 hb, fun i hi => by
  obtain ⟨x, e, o⟩ := h2 i hi
  exact ⟨x, e, owns3_below o hb⟩⟩
theorem Ff.val {u w : World} {j : Nat} {T : Nat → List Int} {v : Value} (h : Ff u w j T v) : ∃ a c, v = .slice a j c := by
 obtain ⟨V, h1, h2⟩ := h.rows
 rcases h1.2 with ⟨rfl, e⟩ | ⟨g, cap, cur, rfl, _⟩
 ·exact ⟨none, 0, by rw [e]⟩
 ·exact ⟨_, _, rfl⟩
theorem Ff.ly {u w : World} {j : Nat} {T : Nat → List Int} {a : Option Addr} {c : Nat} (h : Ff u w j T (.slice a j c)) : Lie u.heap.size noB (fun y => Gr y a j (fun i => (T i).length) (fun i k => (T i).getD k 0)) w := by
 obtain ⟨V, h1, h2⟩ := h.rows
 refine ⟨fun g => (Value.slice a j c).ownBlock = some g ∨ ∃ i x, i < j ∧ V[i]? = some x ∧ x.ownBlock = some g, fun g hg => ?_, fun y hy => ?_⟩
 ·rcases hg with hg | ⟨i, x, hi, hx, hg⟩
  ·have := h1.lt g hg
   exact ⟨this.1, this.2, id⟩
  ·obtain ⟨x2, e, o⟩ := h2 i hi
   rw [hx] at e
   injection e with e
   subst e
   have := o.lt g hg
   exact ⟨this.1, this.2, id⟩
 ·have h3 := owns_of_blk h1 (fun b hb => hy b (Or.inl hb))
  rcases h3.2 with ⟨_, e⟩ | ⟨g, cap, cur, e, hb, hg, _⟩
  ·exact ⟨0, 0, fun hh => by omega, fun r hr => by omega⟩
  ·injection e with e1 e2 e3
   subst e1
   refine ⟨g, 0, fun _ => rfl, fun r hr => ?_⟩
   obtain ⟨x, e4, o⟩ := h2 r hr
   obtain ⟨a2, c2, hx, hrow⟩ := owns_row (owns_of_blk o (fun b hb => hy b (Or.inr ⟨r, x, hr, e4, hb⟩)))
   subst hx
   refine ⟨a2, c2, ?_, hrow⟩
   have := h3.cells (g := g) rfl r _ e4
   rwa [addr_none] at this
theorem Ff.add {u w w4 : World} {j : Nat} {T T2 : Nat → List Int} {v v' x : Value} {l : List Int} {V : List Value} {o : Obj} (h : Below u.heap.size u w) (h1 : w.ownsRow u.heap.size 29 1 v j V) (h2 : ∀ i, i < j → ∃ x, V[i]? = some x ∧ w.ownsRow u.heap.size 3 1 x (T i).length (vals (T i)))
  (hx : w.ownsRow u.heap.size 3 1 x l.length (vals l)) (hown : w4.ownsRow u.heap.size 29 1 v' (j + 1) (V ++ [x])) (hgr : (w.alloc o).grownBy w4 v.ownBlock) (hT : ∀ i, i < j → T2 i = T i) (hl : T2 j = l) : Ff u w4 (j + 1) T2 v' := by
 have hg := (World.grownBy_alloc w o v.ownBlock).trans hgr
 have hk : ∀ {y : Value} {m : Nat} {ys : List Value}, w.ownsRow u.heap.size 3 1 y m ys → w4.ownsRow u.heap.size 3 1 y m ys := fun {y m ys} hy => owns_of_blk hy (fun b e1 => by
  obtain ⟨c, z, h3⟩ := owns_blk hy e1
  exact hg.block b (jq4.1 h3).1 (fun e => by
   obtain ⟨c2, z2, h4⟩ := owns_blk h1 e.symm
   rw [h3] at h4
   cases h4))
 have hVl : V.length = j := by have := h1.1; omega
 refine ⟨h.grown hg h.size (fun b hb => (h1.lt b hb).1), V ++ [x], hown, fun i hi => ?_⟩
 by_cases e : i = j
 ·subst e
  exact ⟨x, by rw [List.getElem?_append_right (by omega), hVl]; simp, by rw [hl]; exact hk hx⟩
 ·obtain ⟨y, e1, o1⟩ := h2 i (by omega)
  exact ⟨y, by rw [List.getElem?_append_left (by omega)]; exact e1, by rw [hT i (by omega)]; exact hk o1⟩
theorem row_ne4 {w : World} {g b n : Nat} {f : Nat → Value} {c : Array Value} (h : w.rowIs g 4 n f) (hb : w.heap[b]? = some (.cells c 44 (0, 0))) : g ≠ b := by
 rintro rfl
 obtain ⟨c2, e, _⟩ := h
 rw [hb] at e
 injection e with e
 injection e with _ e
 exact absurd e (by decide)
theorem one_set {w : World} {b : Nat} {v : Value} (h : w.heap[b]? = some (.cells #[v] 44 (0, 0))) (x : Value) : (w.setCell ⟨b, 0, none⟩ x).heap[b]? = some (.cells #[x] 44 (0, 0)) := by
 have e := blk_setCell (i := 0) (v := x) h
 simpa using e
theorem frT_take {E : List Fml} {k : Nat} (hk : k < E.length) : frT (E.take (k + 1)) = if isFr (lf E k) = true then frT (E.take k) ++ [lf E k] else frT (E.take k) := by
 have hl : E[k]? = some (lf E k) := by unfold lf; rw [List.getD_eq_getElem?_getD, List.getElem?_eq_getElem hk]; rfl
 unfold frT
 rw [List.take_add_one, hl, List.filter_append]
 by_cases h : isFr (lf E k) = true
 ·rw [if_pos h]; simp [h]
 ·rw [if_neg h]; simp [h]
theorem lf_snoc (l : List Fml) (t : Fml) : (∀ i, i < l.length → lf (l ++ [t]) i = lf l i) ∧ lf (l ++ [t]) l.length = t := by
 constructor
 ·intro i hi
  unfold lf
  rw [List.getD_eq_getElem?_getD, List.getD_eq_getElem?_getD, List.getElem?_append_left hi]
 ·unfold lf
  rw [List.getD_eq_getElem?_getD, List.getElem?_append_right jq0, Nat.sub_self]
  rfl
theorem frT_len (l : List Fml) : (frT l).length ≤ l.length := List.length_filter_le _ _
set_option maxHeartbeats 8000000 in
theorem fair20 {w0 w : World} {E : List Fml} {ea : Option Addr} {ec : Nat} (hC : Ch w0 w E ea ec) (hw : ∀ x ∈ E, Wf x) (hI : ∀ x ∈ E, InE E x) :
  Calls Tryz.prog 20 #[.agg #[.slice ea E.length ec]] w fun e w' => ∃ a c, e = .returned (.slice a (frT E).length c) ∧
   Hid (Below w.heap.size w w' ∧ Lie w.heap.size noB (fun y => Gr y a (frT E).length (fun i => (trs (frF E (lf (frT E) i)) (2 ^ E.length)).length) (fun i k => (trs (frF E (lf (frT E) i)) (2 ^ E.length)).getD k 0)) w') := by
 obtain ⟨u, hu⟩ : ∃ y, y = w.alloc (.cells #[.slice ea E.length ec] 53) := ⟨_, rfl⟩
 have hBu : Below w.heap.size w u := by rw [hu]; exact box_below _ _
 have hcu : u.cell? ⟨w.heap.size, 0, none⟩ = some (.slice ea E.length ec) := by rw [hu]; exact cell_of_alloc rfl
 obtain ⟨n, hnn⟩ : ∃ n, n = 2 ^ E.length := ⟨_, rfl⟩
 have hE := hC.le
 have hn1 : n ≤ 1024 := by rw [hnn]; exact Nat.le_trans (Nat.pow_le_pow_right (by decide) hE) (by decide)
 have HCu := hid (hC.below hBu)
 have HC1 : Hid (∀ y, Below u.heap.size u y → y.cell? ⟨w.heap.size, 0, none⟩ = some (.slice ea E.length ec)) := hid (fun y hy => below_cell hy jq0 hcu)
 have HTr : Hid (∀ t, Wf t → InE E t → ∀ (a : Option Addr) (cap : Nat) (z : World), Below u.heap.size u z → Kds w0 t a → Calls Tryz.prog 18 #[.agg #[.slice ea E.length ec], .agg #[.int .i64 t.kind, .int .i64 t.num, .slice a t.cnt cap]] z fun e w' => NewB z n (trv E t) e w') := hid (fun t h1 h2 a cap z hz hk => by rw [hnn]; exact truths_any t h1 h2 a cap z (HCu.out.below hz) hk)
 have HU := hid hu
 have HBu := hid hBu
 have HN := hid hnn
 have HW := hid (And.intro hw hI)
 have HL := hid hE
 obtain ⟨N, hN⟩ : ∃ N, N = E.length := ⟨_, rfl⟩
 rw [← hnn]
 rw [← hN] at HC1 HU HL HTr
 have HNN := hid hN
 have hcu1 := HC1.out u (Below.refl _ _)
 obtain ⟨eb, eo, hea, hel⟩ := HCu.out.ro
 have HEL := hid hel
 have HEA : Hid (0 < N → ea = some ⟨eb, eo, none⟩) := hid (fun q => hea (by rw [← HNN.out]; exact q))
 have HS : Hid (Ff u u (frT (E.take 0)).length (fun i => trs (frF E (lf (frT (E.take 0)) i)) n) (.slice none 0 0)) := hid (Ff.start u u _ (Below.refl _ _))
 obtain ⟨i0, hi, hz0, hz1, hz2⟩ := info_parts Tryz.info29
 have HI : Hid (Tryz.prog.info? 29 = some i0 ∧ i0.zero = some (.slice none 0 0) ∧ i0.size = 1 ∧ i0.bytes = 24) := ⟨hi, hz0, hz1, hz2⟩
 rw [← hN]
 clear hC hu hBu hcu hnn hE hw hI hN hel hea hi hz0 hz1 hz2
 go_enter Tryz.func20, Tryz.ntmps20
 go_wp2_with fail
 rw [← HU.out]
 go_loopw [11, 3] (fun i v wr => ∃ k : Nat, k ≤ N ∧ i = .int .i64 k ∧ Hid (Ff u wr (frT (E.take k)).length (fun i => trs (frF E (lf (frT (E.take k)) i)) n) v)) (fun i _ _ => N - (intOf i).toNat)
 case atStart => exact ⟨0, Nat.zero_le _, rfl, HS⟩
 case round =>
  obtain ⟨k, hk, rfl, HJ⟩ := hrel
  obtain ⟨a0, c0, rfl⟩ := HJ.out.val
  clear HS
  have hN10 := HL.out
  by_cases hlt : k < N
  ·obtain rfl := HEA.out (by omega)
   obtain ⟨ai, ci, p1, p2, p3, p4, p5⟩ := HEL.out k (by rw [← HNN.out]; exact hlt)
   have y1 := below_cell HJ.out.bel jq0 p1
   have y2 := below_cell HJ.out.bel jq0 p2
   have y3 := below_cell HJ.out.bel jq0 p3
   have hbx := HC1.out wr HJ.out.bel
   have hbl : w.heap.size < wr.heap.size := World.block_lt_of_cell? _ _ hbx
   have hkz : (k : Int) < N := by omega
   have hmem : lf E k ∈ E := mem_lf (by rw [← HNN.out]; exact hlt)
   have hwf := HW.out.1 _ hmem
   have hin := HW.out.2 _ hmem
   have hft := fit_cases hwf.out.1
   have htk := frT_take (E := E) (k := k) (by rw [← HNN.out]; exact hlt)
   by_cases hfr : isFr (lf E k) = true
   ·rw [if_pos hfr] at htk
    have hkd : (lf E k).kind = 8 ∨ (lf E k).kind = 9 := by unfold isFr at hfr; simpa using hfr
    have hc2 : (lf E k).cnt = 2 := by omega
    obtain ⟨kb, ko, hka, hkk⟩ := p5.out
    obtain ⟨a1, c1, r1, r2, r3, r4, r5⟩ := hkk 1 (by omega)
    obtain rfl := hka (by omega)
    have hb0 := HCu.out.bel.trans (HJ.out.bel.mono HCu.out.bel.size)
    have x1 := below_cell hb0 jq0 r1
    have x2 := below_cell hb0 jq0 r2
    have x3 := below_cell hb0 jq0 r3
    simp only [Nat.one_mul] at x1 x2 x3
    have hw1 := hwf.out.2 1 (by omega)
    have hi1 := hin.kid (i := 1) (by omega)
    obtain ⟨t1, ht1⟩ : ∃ q, q = (lf E k).kid 1 := ⟨_, rfl⟩
    rw [← ht1] at x1 x2 x3 hw1 hi1 r5
    obtain ⟨t, ht⟩ : ∃ q, q = lf E k := ⟨_, rfl⟩
    rw [← ht] at y1 y2 y3 hwf hin hkd htk hc2 p5 ht1
    rw [hc2] at y3
    obtain ⟨U0, hU0⟩ : ∃ y, y = wr.alloc (.cells #[.int .i64 t.kind, .int .i64 t.num, .slice (some ⟨kb, ko, none⟩) 2 ci] 24) := ⟨_, rfl⟩
    obtain ⟨b5, hb5⟩ : ∃ q, q = wr.heap.size := ⟨_, rfl⟩
    have hB0 : Below wr.heap.size wr U0 := by rw [hU0]; exact box_below _ _
    have hx0 : Tri U0 b5 (.int .i64 t.kind) (.int .i64 t.num) (.slice (some ⟨kb, ko, none⟩) 2 ci) := by rw [hU0, hb5]; exact tri_new _ _ _ _
    have HF0 := hid (HJ.out.below hB0)
    have CA : Hid (∀ z, Below U0.heap.size U0 z → _) := hid (fun z hz => HTr.out t hwf hin (some ⟨kb, ko, none⟩) ci z (HF0.out.bel.trans (hz.mono HF0.out.bel.size)) p5)
    have CB : Hid (∀ z, Below U0.heap.size U0 z → _) := hid (fun z hz => HTr.out t1 hw1 hi1 a1 c1 z (HF0.out.bel.trans (hz.mono HF0.out.bel.size)) r5)
    rw [hc2] at CA
    obtain ⟨f0, f1, f2⟩ := (tri_cells hx0).1
    have HSt : Hid (∀ y, Below U0.heap.size U0 y → (fun y : World => y.cell? ⟨w.heap.size, 0, none⟩ = some (.slice (some ⟨eb, eo, none⟩) N ec) ∧ y.cell? ⟨b5, 0, none⟩ = some (.int .i64 t.kind) ∧ y.cell? ⟨b5, 1, none⟩ = some (.int .i64 t.num) ∧ y.cell? ⟨b5, 2, none⟩ = some (.slice (some ⟨kb, ko, none⟩) 2 ci) ∧ y.cell? ⟨kb, ko + 3, none⟩ = some (.int .i64 t1.kind) ∧ y.cell? ⟨kb, ko + 3 + 1, none⟩ = some (.int .i64 t1.num) ∧ y.cell? ⟨kb, ko + 3 + 2, none⟩ = some (.slice a1 t1.cnt c1)) y) := hid (fun y hy => ⟨below_cell hy jq0 (HC1.out U0 HF0.out.bel), below_cell hy jq0 f0, below_cell hy jq0 f1, below_cell hy jq0 f2, below_cell hy jq0 (below_cell hB0 jq0 x1), below_cell hy jq0 (below_cell hB0 jq0 x2), below_cell hy jq0 (below_cell hB0 jq0 x3)⟩)
    have HTX : Hid (frT (E.take (k + 1)) = frT (E.take k) ++ [t] ∧ (t.kind = 8 ∨ t.kind = 9) ∧ t1 = t.kid 1) := hid ⟨htk, hkd, ht1⟩
    have HX0 := hid hx0
    have HWW := hid (And.intro hU0 hb5)
    clear p1 p2 p3 p4 p5 hft hmem hwf hin r1 r2 r3 r4 r5 hb0 hkk htk hfr ht1 ht hU0 hb5 hB0 hx0 hw1 hi1 x1 x2 x3 f0 f1 f2 hka hc2
    go_upto_region 5 with fail
    rw [← HWW.out.1, ← HWW.out.2]
    go_cut [22] from 15 to 22 (fun v22 wc => v22 = .bool false ∧ wc = U0)
    case first =>
     obtain ⟨f0, f1, f2⟩ := (tri_cells HX0.out).1
     rcases hkd with e | e <;> rw [e] at f0 y1 <;> clear e
     ·go_wp2_with fail
      go_meet
      exact ⟨rfl, rfl⟩
     ·go_wp2_with fail
      go_meet
      exact ⟨rfl, rfl⟩
    obtain ⟨rfl, hcut⟩ := hcut
    have hcut := hcut.symm
    subst hcut
    go_wp2_with fail
    have hB : Below U0.heap.size U0 U0.drew := drew_below U0
    go_cut [6, 7] from 23 to 31 (fun v6 v7 wc => ∃ b6 b7 g1 g2, v6 = .pointer (some ⟨b6, 0, none⟩) ∧ v7 = .pointer (some ⟨b7, 0, none⟩) ∧ Hid (Below U0.heap.size U0 wc ∧ wc.heap[b6]? = some (.cells #[.slice (some ⟨g1, 0, none⟩) n n] 44 (0, 0)) ∧ wc.heap[b7]? = some (.cells #[.slice (some ⟨g2, 0, none⟩) n n] 44 (0, 0)) ∧ wc.rowIs g1 4 n (fun s => .bool (trv E t s)) ∧ wc.rowIs g2 4 n (fun s => .bool (trv E t1 s))))
    case first =>
     refine G_region (fun y : World => y.cell? ⟨w.heap.size, 0, none⟩ = some (.slice (some ⟨eb, eo, none⟩) N ec) ∧ y.cell? ⟨b5, 0, none⟩ = some (.int .i64 t.kind) ∧ y.cell? ⟨b5, 1, none⟩ = some (.int .i64 t.num) ∧ y.cell? ⟨b5, 2, none⟩ = some (.slice (some ⟨kb, ko, none⟩) 2 ci) ∧ y.cell? ⟨kb, ko + 3, none⟩ = some (.int .i64 t1.kind) ∧ y.cell? ⟨kb, ko + 3 + 1, none⟩ = some (.int .i64 t1.num) ∧ y.cell? ⟨kb, ko + 3 + 2, none⟩ = some (.slice a1 t1.cnt c1)) (fun i => false) (by kernel_rfl) (HSt.out _ hB) (fun _ => ?_)
     refine G_tk (i := 0) (oi := { dst := some 23, op := Op.load 53 (Operand.tmp 1), type := 53, pos := _, after := #[], guard := none }) (v := .agg #[.slice (some ⟨eb, eo, none⟩) N ec]) (HSt.out _ hB) ?_
     (try simp only [Act.put, jq1, jq2, jq3])
     refine G_tk (i := 1) (oi := { dst := some 24, op := Op.load 24 (Operand.tmp 5), type := 24, pos := _, after := #[], guard := none }) (v := .agg #[.int .i64 t.kind, .int .i64 t.num, .slice (some ⟨kb, ko, none⟩) 2 ci]) (HSt.out _ hB) ?_
     (try simp only [Act.put, jq1, jq2, jq3])
     refine G_tk (i := 3) (oi := { dst := some 26, op := Op.load 53 (Operand.tmp 1), type := 53, pos := _, after := #[], guard := none }) (v := .agg #[.slice (some ⟨eb, eo, none⟩) N ec]) (HSt.out _ hB) ?_
     (try simp only [Act.put, jq1, jq2, jq3])
     refine G_tk (i := 4) (oi := { dst := some 27, op := Op.fieldAddr 24 (Operand.tmp 5) 2, type := 0, pos := _, after := #[], guard := none }) (v := .pointer (some ⟨b5, 2, none⟩)) (HSt.out _ hB) ?_
     (try simp only [Act.put, jq1, jq2, jq3])
     refine G_tk (i := 5) (oi := { dst := some 28, op := Op.load 22 (Operand.tmp 27), type := 22, pos := _, after := #[{ on := 4, ground := Ground.data }], guard := none }) (v := .slice (some ⟨kb, ko, none⟩) 2 ci) (HSt.out _ hB) ?_
     (try simp only [Act.put, jq1, jq2, jq3])
     refine G_tk (i := 6) (oi := { dst := some 29, op := Op.indexAddr 22 (Operand.tmp 28) (Operand.const (Value.int IntKind.i64 1)), type := 0, pos := _, after := #[{ on := 5, ground := Ground.data }], guard := none }) (v := .pointer (some ⟨kb, ko + 3, none⟩)) (HSt.out _ hB) ?_
     (try simp only [Act.put, jq1, jq2, jq3])
     refine G_tk (i := 7) (oi := { dst := some 30, op := Op.load 24 (Operand.tmp 29), type := 24, pos := _, after := #[{ on := 6, ground := Ground.data }], guard := none }) (v := .agg #[.int .i64 t1.kind, .int .i64 t1.num, .slice a1 t1.cnt c1]) (HSt.out _ hB) ?_
     (try simp only [Act.put, jq1, jq2, jq3])
     obtain ⟨y0, hy0⟩ : ∃ q, q = U0.drew := ⟨_, rfl⟩
     rw [← hy0] at hB ⊢
     clear hy0
     refine G_alt (l := [2, 9, 10]) (by kernel_rfl) (by decide) ?_
     intro i hi
     have hi2 : i = 2 ∨ i = 9 ∨ i = 10 := by simpa using hi
     clear hi
     rcases hi2 with rfl | rfl | rfl
     ·refine ⟨_, rfl, fun K' hK => ?_⟩
      go_simp
      refine (CA.out _ hB).mono ?_
      rintro e y1 ⟨g1, rfl, hge, hr, hb⟩
      dsimp only
      have hg1 : Hid (y1.rowIs g1 4 n (fun s => .bool (trv E t s)) ∧ U0.heap.size ≤ g1) := hid ⟨hr, Nat.le_trans hB.size hge⟩
      replace hB := hB.trans (hb.mono hB.size)
      clear hb hr hge
      refine hK.out _ _ (fun _ => (HSt.out _ hB)) (fun _ => ?_)
      clear hK K'
      (try simp only [Act.put, jq1, jq2, jq3])
      refine G_alt (l := [8, 9, 10]) (by kernel_rfl) (by decide) ?_
      intro i hi
      have hi2 : i = 8 ∨ i = 9 ∨ i = 10 := by simpa using hi
      clear hi
      rcases hi2 with rfl | rfl | rfl
      ·refine ⟨_, rfl, fun K' hK => ?_⟩
       go_simp
       refine (CB.out _ hB).mono ?_
       rintro e y2 ⟨g2, rfl, hge, hr, hb⟩
       dsimp only
       have hg1 := hid (And.intro (rowIs_below hg1.out.1 hb) hg1.out.2)
       have hg2 : Hid (y2.rowIs g2 4 n (fun s => .bool (trv E t1 s)) ∧ U0.heap.size ≤ g2) := hid ⟨hr, Nat.le_trans hB.size hge⟩
       replace hB := hB.trans (hb.mono hB.size)
       clear hb hr hge
       refine hK.out _ _ (fun _ => (HSt.out _ hB)) (fun _ => ?_)
       clear hK K'
       (try simp only [Act.put, jq1, jq2, jq3])
       refine G_alt (l := [9, 10]) (by kernel_rfl) (by decide) ?_
       intro i hi
       have hi2 : i = 9 ∨ i = 10 := by simpa using hi
       clear hi
       rcases hi2 with rfl | rfl
       ·refine ⟨_, rfl, fun K' hK => ?_⟩
        go_simp
        obtain ⟨y3, hy⟩ : ∃ q, q = y2.alloc (.cells #[.slice none 0 0] 44) := ⟨_, rfl⟩
        have hb : Below y2.heap.size y2 y3 := by rw [hy]; exact box_below _ _
        obtain ⟨b6, hbx⟩ : ∃ q, q = y2.heap.size := ⟨_, rfl⟩
        have hb6 : Hid (y3.heap[b6]? = some (.cells #[.slice none 0 0] 44 (0, 0)) ∧ U0.heap.size ≤ b6) := by rw [hy, hbx]; exact hid ⟨Go.Deep.blk_alloc_new _ _, hB.size⟩
        rw [← hy]
        rw [← hbx]
        have hg1 := hid (And.intro (rowIs_below hg1.out.1 hb) hg1.out.2)
        have hg2 := hid (And.intro (rowIs_below hg2.out.1 hb) hg2.out.2)
        replace hB := hB.trans (hb.mono hB.size)
        clear hy hb hbx
        refine hK.out _ _ (fun _ => (HSt.out _ hB)) (fun _ => ?_)
        clear hK K'
        (try simp only [Act.put, jq1, jq2, jq3])
        refine G_step (i := 10) (o := _) (by kernel_rfl) rfl (fun K' hK => ?_)
        go_simp
        obtain ⟨y4, hy⟩ : ∃ q, q = y3.alloc (.cells #[.slice none 0 0] 44) := ⟨_, rfl⟩
        have hb : Below y3.heap.size y3 y4 := by rw [hy]; exact box_below _ _
        obtain ⟨b7, hbx⟩ : ∃ q, q = y3.heap.size := ⟨_, rfl⟩
        have hb7 : Hid (y4.heap[b7]? = some (.cells #[.slice none 0 0] 44 (0, 0)) ∧ U0.heap.size ≤ b7) := by rw [hy, hbx]; exact hid ⟨Go.Deep.blk_alloc_new _ _, hB.size⟩
        rw [← hy]
        rw [← hbx]
        have hne : Hid (b6 ≠ b7) := hid (by have := (jq4.1 hb6.out.1).1; omega)
        have hg1 := hid (And.intro (rowIs_below hg1.out.1 hb) hg1.out.2)
        have hg2 := hid (And.intro (rowIs_below hg2.out.1 hb) hg2.out.2)
        have hb6 := hid (And.intro ((hb.block _ (jq4.1 hb6.out.1).1).trans hb6.out.1) hb6.out.2)
        replace hB := hB.trans (hb.mono hB.size)
        clear hy hb hbx
        refine hK.out _ _ (fun _ => (HSt.out _ hB)) (fun _ => ?_)
        clear hK K'
        (try simp only [Act.put, jq1, jq2, jq3])
        have sc : y4.cell? ⟨b6, 0, none⟩ = some (.slice none 0 0) := cell_of_cells hb6.out.1 rfl
        have sf : y4.frozen? ⟨b6, 0, none⟩ = false := by have e := hb6.out.1; simp [World.frozen?, e]
        refine G_step (i := 11) (o := _) (by kernel_rfl) rfl (fun K' hK => ?_)
        go_simp
        obtain ⟨y5, hy⟩ : ∃ q, q = y4.setCell ⟨b6, 0, none⟩ (.slice (some ⟨g1, 0, none⟩) n n) := ⟨_, rfl⟩
        rw [← hy]
        have hbk : ∀ k, k ≠ b6 → y5.heap[k]? = y4.heap[k]? := fun k hk => by rw [hy]; exact Go.Deep.blk_setCell_other _ _ _ _ hk
        replace hB : Below U0.heap.size U0 y5 := by rw [hy]; exact hB.setCell hb6.out.2 _
        have hb7 := hid (And.intro ((hbk b7 (Ne.symm hne.out)).trans hb7.out.1) hb7.out.2)
        have hg1 := hid (And.intro (hg1.out.1.of_block (hbk g1 (row_ne4 hg1.out.1 hb6.out.1))) hg1.out.2)
        have hg2 := hid (And.intro (hg2.out.1.of_block (hbk g2 (row_ne4 hg2.out.1 hb6.out.1))) hg2.out.2)
        have hb6 : Hid (y5.heap[b6]? = some (.cells #[.slice (some ⟨g1, 0, none⟩) n n] 44 (0, 0)) ∧ U0.heap.size ≤ b6) := hid ⟨by rw [hy]; exact one_set hb6.out.1 _, hb6.out.2⟩
        clear hy hbk
        refine hK.out _ _ (fun _ => (HSt.out _ hB)) (fun _ => ?_)
        clear hK K'
        (try simp only [Act.put, jq1, jq2, jq3])
        clear sc sf
        have sc : y5.cell? ⟨b7, 0, none⟩ = some (.slice none 0 0) := cell_of_cells hb7.out.1 rfl
        have sf : y5.frozen? ⟨b7, 0, none⟩ = false := by have e := hb7.out.1; simp [World.frozen?, e]
        refine G_step (i := 12) (o := _) (by kernel_rfl) rfl (fun K' hK => ?_)
        go_simp
        obtain ⟨y6, hy⟩ : ∃ q, q = y5.setCell ⟨b7, 0, none⟩ (.slice (some ⟨g2, 0, none⟩) n n) := ⟨_, rfl⟩
        rw [← hy]
        have hbk : ∀ k, k ≠ b7 → y6.heap[k]? = y5.heap[k]? := fun k hk => by rw [hy]; exact Go.Deep.blk_setCell_other _ _ _ _ hk
        replace hB : Below U0.heap.size U0 y6 := by rw [hy]; exact hB.setCell hb7.out.2 _
        have hb6 := hid (And.intro ((hbk b6 hne.out).trans hb6.out.1) hb6.out.2)
        have hg1 := hid (And.intro (hg1.out.1.of_block (hbk g1 (row_ne4 hg1.out.1 hb7.out.1))) hg1.out.2)
        have hg2 := hid (And.intro (hg2.out.1.of_block (hbk g2 (row_ne4 hg2.out.1 hb7.out.1))) hg2.out.2)
        have hb7 : Hid (y6.heap[b7]? = some (.cells #[.slice (some ⟨g2, 0, none⟩) n n] 44 (0, 0)) ∧ U0.heap.size ≤ b7) := hid ⟨by rw [hy]; exact one_set hb7.out.1 _, hb7.out.2⟩
        clear hy hbk
        refine hK.out _ _ (fun _ => (HSt.out _ hB)) (fun _ => ?_)
        clear hK K'
        (try simp only [Act.put, jq1, jq2, jq3])
        clear sc sf
        refine G_done (by kernel_rfl) ?_ _
        go_wp2_with fail
        go_meet
        exact ⟨b6, b7, g1, g2, rfl, rfl, hid ⟨hB, hb6.out.1, hb7.out.1, hg1.out.1, hg2.out.1⟩⟩
       ·refine ⟨_, rfl, fun K' hK => ?_⟩
        go_simp
        obtain ⟨y7, hy⟩ : ∃ q, q = y2.alloc (.cells #[.slice none 0 0] 44) := ⟨_, rfl⟩
        have hb : Below y2.heap.size y2 y7 := by rw [hy]; exact box_below _ _
        obtain ⟨b7, hbx⟩ : ∃ q, q = y2.heap.size := ⟨_, rfl⟩
        have hb7 : Hid (y7.heap[b7]? = some (.cells #[.slice none 0 0] 44 (0, 0)) ∧ U0.heap.size ≤ b7) := by rw [hy, hbx]; exact hid ⟨Go.Deep.blk_alloc_new _ _, hB.size⟩
        rw [← hy]
        rw [← hbx]
        have hg1 := hid (And.intro (rowIs_below hg1.out.1 hb) hg1.out.2)
        have hg2 := hid (And.intro (rowIs_below hg2.out.1 hb) hg2.out.2)
        replace hB := hB.trans (hb.mono hB.size)
        clear hy hb hbx
        refine hK.out _ _ (fun _ => (HSt.out _ hB)) (fun _ => ?_)
        clear hK K'
        (try simp only [Act.put, jq1, jq2, jq3])
        refine G_step (i := 9) (o := _) (by kernel_rfl) rfl (fun K' hK => ?_)
        go_simp
        obtain ⟨y8, hy⟩ : ∃ q, q = y7.alloc (.cells #[.slice none 0 0] 44) := ⟨_, rfl⟩
        have hb : Below y7.heap.size y7 y8 := by rw [hy]; exact box_below _ _
        obtain ⟨b6, hbx⟩ : ∃ q, q = y7.heap.size := ⟨_, rfl⟩
        have hb6 : Hid (y8.heap[b6]? = some (.cells #[.slice none 0 0] 44 (0, 0)) ∧ U0.heap.size ≤ b6) := by rw [hy, hbx]; exact hid ⟨Go.Deep.blk_alloc_new _ _, hB.size⟩
        rw [← hy]
        rw [← hbx]
        have hne : Hid (b6 ≠ b7) := hid (by have := (jq4.1 hb7.out.1).1; omega)
        have hg1 := hid (And.intro (rowIs_below hg1.out.1 hb) hg1.out.2)
        have hg2 := hid (And.intro (rowIs_below hg2.out.1 hb) hg2.out.2)
        have hb7 := hid (And.intro ((hb.block _ (jq4.1 hb7.out.1).1).trans hb7.out.1) hb7.out.2)
        replace hB := hB.trans (hb.mono hB.size)
        clear hy hb hbx
        refine hK.out _ _ (fun _ => (HSt.out _ hB)) (fun _ => ?_)
        clear hK K'
        (try simp only [Act.put, jq1, jq2, jq3])
        have sc : y8.cell? ⟨b6, 0, none⟩ = some (.slice none 0 0) := cell_of_cells hb6.out.1 rfl
        have sf : y8.frozen? ⟨b6, 0, none⟩ = false := by have e := hb6.out.1; simp [World.frozen?, e]
        refine G_step (i := 11) (o := _) (by kernel_rfl) rfl (fun K' hK => ?_)
        go_simp
        obtain ⟨y9, hy⟩ : ∃ q, q = y8.setCell ⟨b6, 0, none⟩ (.slice (some ⟨g1, 0, none⟩) n n) := ⟨_, rfl⟩
        rw [← hy]
        have hbk : ∀ k, k ≠ b6 → y9.heap[k]? = y8.heap[k]? := fun k hk => by rw [hy]; exact Go.Deep.blk_setCell_other _ _ _ _ hk
        replace hB : Below U0.heap.size U0 y9 := by rw [hy]; exact hB.setCell hb6.out.2 _
        have hb7 := hid (And.intro ((hbk b7 (Ne.symm hne.out)).trans hb7.out.1) hb7.out.2)
        have hg1 := hid (And.intro (hg1.out.1.of_block (hbk g1 (row_ne4 hg1.out.1 hb6.out.1))) hg1.out.2)
        have hg2 := hid (And.intro (hg2.out.1.of_block (hbk g2 (row_ne4 hg2.out.1 hb6.out.1))) hg2.out.2)
        have hb6 : Hid (y9.heap[b6]? = some (.cells #[.slice (some ⟨g1, 0, none⟩) n n] 44 (0, 0)) ∧ U0.heap.size ≤ b6) := hid ⟨by rw [hy]; exact one_set hb6.out.1 _, hb6.out.2⟩
        clear hy hbk
        refine hK.out _ _ (fun _ => (HSt.out _ hB)) (fun _ => ?_)
        clear hK K'
        (try simp only [Act.put, jq1, jq2, jq3])
        clear sc sf
        have sc : y9.cell? ⟨b7, 0, none⟩ = some (.slice none 0 0) := cell_of_cells hb7.out.1 rfl
        have sf : y9.frozen? ⟨b7, 0, none⟩ = false := by have e := hb7.out.1; simp [World.frozen?, e]
        refine G_step (i := 12) (o := _) (by kernel_rfl) rfl (fun K' hK => ?_)
        go_simp
        obtain ⟨y10, hy⟩ : ∃ q, q = y9.setCell ⟨b7, 0, none⟩ (.slice (some ⟨g2, 0, none⟩) n n) := ⟨_, rfl⟩
        rw [← hy]
        have hbk : ∀ k, k ≠ b7 → y10.heap[k]? = y9.heap[k]? := fun k hk => by rw [hy]; exact Go.Deep.blk_setCell_other _ _ _ _ hk
        replace hB : Below U0.heap.size U0 y10 := by rw [hy]; exact hB.setCell hb7.out.2 _
        have hb6 := hid (And.intro ((hbk b6 hne.out).trans hb6.out.1) hb6.out.2)
        have hg1 := hid (And.intro (hg1.out.1.of_block (hbk g1 (row_ne4 hg1.out.1 hb7.out.1))) hg1.out.2)
        have hg2 := hid (And.intro (hg2.out.1.of_block (hbk g2 (row_ne4 hg2.out.1 hb7.out.1))) hg2.out.2)
        have hb7 : Hid (y10.heap[b7]? = some (.cells #[.slice (some ⟨g2, 0, none⟩) n n] 44 (0, 0)) ∧ U0.heap.size ≤ b7) := hid ⟨by rw [hy]; exact one_set hb7.out.1 _, hb7.out.2⟩
        clear hy hbk
        refine hK.out _ _ (fun _ => (HSt.out _ hB)) (fun _ => ?_)
        clear hK K'
        (try simp only [Act.put, jq1, jq2, jq3])
        clear sc sf
        refine G_done (by kernel_rfl) ?_ _
        go_wp2_with fail
        go_meet
        exact ⟨b6, b7, g1, g2, rfl, rfl, hid ⟨hB, hb6.out.1, hb7.out.1, hg1.out.1, hg2.out.1⟩⟩
      ·refine ⟨_, rfl, fun K' hK => ?_⟩
       go_simp
       obtain ⟨y11, hy⟩ : ∃ q, q = y1.alloc (.cells #[.slice none 0 0] 44) := ⟨_, rfl⟩
       have hb : Below y1.heap.size y1 y11 := by rw [hy]; exact box_below _ _
       obtain ⟨b6, hbx⟩ : ∃ q, q = y1.heap.size := ⟨_, rfl⟩
       have hb6 : Hid (y11.heap[b6]? = some (.cells #[.slice none 0 0] 44 (0, 0)) ∧ U0.heap.size ≤ b6) := by rw [hy, hbx]; exact hid ⟨Go.Deep.blk_alloc_new _ _, hB.size⟩
       rw [← hy]
       rw [← hbx]
       have hg1 := hid (And.intro (rowIs_below hg1.out.1 hb) hg1.out.2)
       replace hB := hB.trans (hb.mono hB.size)
       clear hy hb hbx
       refine hK.out _ _ (fun _ => (HSt.out _ hB)) (fun _ => ?_)
       clear hK K'
       (try simp only [Act.put, jq1, jq2, jq3])
       refine G_alt (l := [8, 10]) (by kernel_rfl) (by decide) ?_
       intro i hi
       have hi2 : i = 8 ∨ i = 10 := by simpa using hi
       clear hi
       rcases hi2 with rfl | rfl
       ·refine ⟨_, rfl, fun K' hK => ?_⟩
        go_simp
        refine (CB.out _ hB).mono ?_
        rintro e y12 ⟨g2, rfl, hge, hr, hb⟩
        dsimp only
        have hg1 := hid (And.intro (rowIs_below hg1.out.1 hb) hg1.out.2)
        have hb6 := hid (And.intro ((hb.block _ (jq4.1 hb6.out.1).1).trans hb6.out.1) hb6.out.2)
        have hg2 : Hid (y12.rowIs g2 4 n (fun s => .bool (trv E t1 s)) ∧ U0.heap.size ≤ g2) := hid ⟨hr, Nat.le_trans hB.size hge⟩
        replace hB := hB.trans (hb.mono hB.size)
        clear hb hr hge
        refine hK.out _ _ (fun _ => (HSt.out _ hB)) (fun _ => ?_)
        clear hK K'
        (try simp only [Act.put, jq1, jq2, jq3])
        refine G_step (i := 10) (o := _) (by kernel_rfl) rfl (fun K' hK => ?_)
        go_simp
        obtain ⟨y13, hy⟩ : ∃ q, q = y12.alloc (.cells #[.slice none 0 0] 44) := ⟨_, rfl⟩
        have hb : Below y12.heap.size y12 y13 := by rw [hy]; exact box_below _ _
        obtain ⟨b7, hbx⟩ : ∃ q, q = y12.heap.size := ⟨_, rfl⟩
        have hb7 : Hid (y13.heap[b7]? = some (.cells #[.slice none 0 0] 44 (0, 0)) ∧ U0.heap.size ≤ b7) := by rw [hy, hbx]; exact hid ⟨Go.Deep.blk_alloc_new _ _, hB.size⟩
        rw [← hy]
        rw [← hbx]
        have hne : Hid (b6 ≠ b7) := hid (by have := (jq4.1 hb6.out.1).1; omega)
        have hg1 := hid (And.intro (rowIs_below hg1.out.1 hb) hg1.out.2)
        have hb6 := hid (And.intro ((hb.block _ (jq4.1 hb6.out.1).1).trans hb6.out.1) hb6.out.2)
        have hg2 := hid (And.intro (rowIs_below hg2.out.1 hb) hg2.out.2)
        replace hB := hB.trans (hb.mono hB.size)
        clear hy hb hbx
        refine hK.out _ _ (fun _ => (HSt.out _ hB)) (fun _ => ?_)
        clear hK K'
        (try simp only [Act.put, jq1, jq2, jq3])
        have sc : y13.cell? ⟨b6, 0, none⟩ = some (.slice none 0 0) := cell_of_cells hb6.out.1 rfl
        have sf : y13.frozen? ⟨b6, 0, none⟩ = false := by have e := hb6.out.1; simp [World.frozen?, e]
        refine G_step (i := 11) (o := _) (by kernel_rfl) rfl (fun K' hK => ?_)
        go_simp
        obtain ⟨y14, hy⟩ : ∃ q, q = y13.setCell ⟨b6, 0, none⟩ (.slice (some ⟨g1, 0, none⟩) n n) := ⟨_, rfl⟩
        rw [← hy]
        have hbk : ∀ k, k ≠ b6 → y14.heap[k]? = y13.heap[k]? := fun k hk => by rw [hy]; exact Go.Deep.blk_setCell_other _ _ _ _ hk
        replace hB : Below U0.heap.size U0 y14 := by rw [hy]; exact hB.setCell hb6.out.2 _
        have hb7 := hid (And.intro ((hbk b7 (Ne.symm hne.out)).trans hb7.out.1) hb7.out.2)
        have hg1 := hid (And.intro (hg1.out.1.of_block (hbk g1 (row_ne4 hg1.out.1 hb6.out.1))) hg1.out.2)
        have hg2 := hid (And.intro (hg2.out.1.of_block (hbk g2 (row_ne4 hg2.out.1 hb6.out.1))) hg2.out.2)
        have hb6 : Hid (y14.heap[b6]? = some (.cells #[.slice (some ⟨g1, 0, none⟩) n n] 44 (0, 0)) ∧ U0.heap.size ≤ b6) := hid ⟨by rw [hy]; exact one_set hb6.out.1 _, hb6.out.2⟩
        clear hy hbk
        refine hK.out _ _ (fun _ => (HSt.out _ hB)) (fun _ => ?_)
        clear hK K'
        (try simp only [Act.put, jq1, jq2, jq3])
        clear sc sf
        have sc : y14.cell? ⟨b7, 0, none⟩ = some (.slice none 0 0) := cell_of_cells hb7.out.1 rfl
        have sf : y14.frozen? ⟨b7, 0, none⟩ = false := by have e := hb7.out.1; simp [World.frozen?, e]
        refine G_step (i := 12) (o := _) (by kernel_rfl) rfl (fun K' hK => ?_)
        go_simp
        obtain ⟨y15, hy⟩ : ∃ q, q = y14.setCell ⟨b7, 0, none⟩ (.slice (some ⟨g2, 0, none⟩) n n) := ⟨_, rfl⟩
        rw [← hy]
        have hbk : ∀ k, k ≠ b7 → y15.heap[k]? = y14.heap[k]? := fun k hk => by rw [hy]; exact Go.Deep.blk_setCell_other _ _ _ _ hk
        replace hB : Below U0.heap.size U0 y15 := by rw [hy]; exact hB.setCell hb7.out.2 _
        have hb6 := hid (And.intro ((hbk b6 hne.out).trans hb6.out.1) hb6.out.2)
        have hg1 := hid (And.intro (hg1.out.1.of_block (hbk g1 (row_ne4 hg1.out.1 hb7.out.1))) hg1.out.2)
        have hg2 := hid (And.intro (hg2.out.1.of_block (hbk g2 (row_ne4 hg2.out.1 hb7.out.1))) hg2.out.2)
        have hb7 : Hid (y15.heap[b7]? = some (.cells #[.slice (some ⟨g2, 0, none⟩) n n] 44 (0, 0)) ∧ U0.heap.size ≤ b7) := hid ⟨by rw [hy]; exact one_set hb7.out.1 _, hb7.out.2⟩
        clear hy hbk
        refine hK.out _ _ (fun _ => (HSt.out _ hB)) (fun _ => ?_)
        clear hK K'
        (try simp only [Act.put, jq1, jq2, jq3])
        clear sc sf
        refine G_done (by kernel_rfl) ?_ _
        go_wp2_with fail
        go_meet
        exact ⟨b6, b7, g1, g2, rfl, rfl, hid ⟨hB, hb6.out.1, hb7.out.1, hg1.out.1, hg2.out.1⟩⟩
       ·refine ⟨_, rfl, fun K' hK => ?_⟩
        go_simp
        obtain ⟨y16, hy⟩ : ∃ q, q = y11.alloc (.cells #[.slice none 0 0] 44) := ⟨_, rfl⟩
        have hb : Below y11.heap.size y11 y16 := by rw [hy]; exact box_below _ _
        obtain ⟨b7, hbx⟩ : ∃ q, q = y11.heap.size := ⟨_, rfl⟩
        have hb7 : Hid (y16.heap[b7]? = some (.cells #[.slice none 0 0] 44 (0, 0)) ∧ U0.heap.size ≤ b7) := by rw [hy, hbx]; exact hid ⟨Go.Deep.blk_alloc_new _ _, hB.size⟩
        rw [← hy]
        rw [← hbx]
        have hne : Hid (b6 ≠ b7) := hid (by have := (jq4.1 hb6.out.1).1; omega)
        have hg1 := hid (And.intro (rowIs_below hg1.out.1 hb) hg1.out.2)
        have hb6 := hid (And.intro ((hb.block _ (jq4.1 hb6.out.1).1).trans hb6.out.1) hb6.out.2)
        replace hB := hB.trans (hb.mono hB.size)
        clear hy hb hbx
        refine hK.out _ _ (fun _ => (HSt.out _ hB)) (fun _ => ?_)
        clear hK K'
        (try simp only [Act.put, jq1, jq2, jq3])
        refine G_step (i := 8) (o := _) (by kernel_rfl) rfl (fun K' hK => ?_)
        go_simp
        refine (CB.out _ hB).mono ?_
        rintro e y17 ⟨g2, rfl, hge, hr, hb⟩
        dsimp only
        have hg1 := hid (And.intro (rowIs_below hg1.out.1 hb) hg1.out.2)
        have hb6 := hid (And.intro ((hb.block _ (jq4.1 hb6.out.1).1).trans hb6.out.1) hb6.out.2)
        have hb7 := hid (And.intro ((hb.block _ (jq4.1 hb7.out.1).1).trans hb7.out.1) hb7.out.2)
        have hg2 : Hid (y17.rowIs g2 4 n (fun s => .bool (trv E t1 s)) ∧ U0.heap.size ≤ g2) := hid ⟨hr, Nat.le_trans hB.size hge⟩
        replace hB := hB.trans (hb.mono hB.size)
        clear hb hr hge
        refine hK.out _ _ (fun _ => (HSt.out _ hB)) (fun _ => ?_)
        clear hK K'
        (try simp only [Act.put, jq1, jq2, jq3])
        have sc : y17.cell? ⟨b6, 0, none⟩ = some (.slice none 0 0) := cell_of_cells hb6.out.1 rfl
        have sf : y17.frozen? ⟨b6, 0, none⟩ = false := by have e := hb6.out.1; simp [World.frozen?, e]
        refine G_step (i := 11) (o := _) (by kernel_rfl) rfl (fun K' hK => ?_)
        go_simp
        obtain ⟨y18, hy⟩ : ∃ q, q = y17.setCell ⟨b6, 0, none⟩ (.slice (some ⟨g1, 0, none⟩) n n) := ⟨_, rfl⟩
        rw [← hy]
        have hbk : ∀ k, k ≠ b6 → y18.heap[k]? = y17.heap[k]? := fun k hk => by rw [hy]; exact Go.Deep.blk_setCell_other _ _ _ _ hk
        replace hB : Below U0.heap.size U0 y18 := by rw [hy]; exact hB.setCell hb6.out.2 _
        have hb7 := hid (And.intro ((hbk b7 (Ne.symm hne.out)).trans hb7.out.1) hb7.out.2)
        have hg1 := hid (And.intro (hg1.out.1.of_block (hbk g1 (row_ne4 hg1.out.1 hb6.out.1))) hg1.out.2)
        have hg2 := hid (And.intro (hg2.out.1.of_block (hbk g2 (row_ne4 hg2.out.1 hb6.out.1))) hg2.out.2)
        have hb6 : Hid (y18.heap[b6]? = some (.cells #[.slice (some ⟨g1, 0, none⟩) n n] 44 (0, 0)) ∧ U0.heap.size ≤ b6) := hid ⟨by rw [hy]; exact one_set hb6.out.1 _, hb6.out.2⟩
        clear hy hbk
        refine hK.out _ _ (fun _ => (HSt.out _ hB)) (fun _ => ?_)
        clear hK K'
        (try simp only [Act.put, jq1, jq2, jq3])
        clear sc sf
        have sc : y18.cell? ⟨b7, 0, none⟩ = some (.slice none 0 0) := cell_of_cells hb7.out.1 rfl
        have sf : y18.frozen? ⟨b7, 0, none⟩ = false := by have e := hb7.out.1; simp [World.frozen?, e]
        refine G_step (i := 12) (o := _) (by kernel_rfl) rfl (fun K' hK => ?_)
        go_simp
        obtain ⟨y19, hy⟩ : ∃ q, q = y18.setCell ⟨b7, 0, none⟩ (.slice (some ⟨g2, 0, none⟩) n n) := ⟨_, rfl⟩
        rw [← hy]
        have hbk : ∀ k, k ≠ b7 → y19.heap[k]? = y18.heap[k]? := fun k hk => by rw [hy]; exact Go.Deep.blk_setCell_other _ _ _ _ hk
        replace hB : Below U0.heap.size U0 y19 := by rw [hy]; exact hB.setCell hb7.out.2 _
        have hb6 := hid (And.intro ((hbk b6 hne.out).trans hb6.out.1) hb6.out.2)
        have hg1 := hid (And.intro (hg1.out.1.of_block (hbk g1 (row_ne4 hg1.out.1 hb7.out.1))) hg1.out.2)
        have hg2 := hid (And.intro (hg2.out.1.of_block (hbk g2 (row_ne4 hg2.out.1 hb7.out.1))) hg2.out.2)
        have hb7 : Hid (y19.heap[b7]? = some (.cells #[.slice (some ⟨g2, 0, none⟩) n n] 44 (0, 0)) ∧ U0.heap.size ≤ b7) := hid ⟨by rw [hy]; exact one_set hb7.out.1 _, hb7.out.2⟩
        clear hy hbk
        refine hK.out _ _ (fun _ => (HSt.out _ hB)) (fun _ => ?_)
        clear hK K'
        (try simp only [Act.put, jq1, jq2, jq3])
        clear sc sf
        refine G_done (by kernel_rfl) ?_ _
        go_wp2_with fail
        go_meet
        exact ⟨b6, b7, g1, g2, rfl, rfl, hid ⟨hB, hb6.out.1, hb7.out.1, hg1.out.1, hg2.out.1⟩⟩
      ·refine ⟨_, rfl, fun K' hK => ?_⟩
       go_simp
       obtain ⟨y20, hy⟩ : ∃ q, q = y1.alloc (.cells #[.slice none 0 0] 44) := ⟨_, rfl⟩
       have hb : Below y1.heap.size y1 y20 := by rw [hy]; exact box_below _ _
       obtain ⟨b7, hbx⟩ : ∃ q, q = y1.heap.size := ⟨_, rfl⟩
       have hb7 : Hid (y20.heap[b7]? = some (.cells #[.slice none 0 0] 44 (0, 0)) ∧ U0.heap.size ≤ b7) := by rw [hy, hbx]; exact hid ⟨Go.Deep.blk_alloc_new _ _, hB.size⟩
       rw [← hy]
       rw [← hbx]
       have hg1 := hid (And.intro (rowIs_below hg1.out.1 hb) hg1.out.2)
       replace hB := hB.trans (hb.mono hB.size)
       clear hy hb hbx
       refine hK.out _ _ (fun _ => (HSt.out _ hB)) (fun _ => ?_)
       clear hK K'
       (try simp only [Act.put, jq1, jq2, jq3])
       refine G_alt (l := [8, 9]) (by kernel_rfl) (by decide) ?_
       intro i hi
       have hi2 : i = 8 ∨ i = 9 := by simpa using hi
       clear hi
       rcases hi2 with rfl | rfl
       ·refine ⟨_, rfl, fun K' hK => ?_⟩
        go_simp
        refine (CB.out _ hB).mono ?_
        rintro e y21 ⟨g2, rfl, hge, hr, hb⟩
        dsimp only
        have hg1 := hid (And.intro (rowIs_below hg1.out.1 hb) hg1.out.2)
        have hb7 := hid (And.intro ((hb.block _ (jq4.1 hb7.out.1).1).trans hb7.out.1) hb7.out.2)
        have hg2 : Hid (y21.rowIs g2 4 n (fun s => .bool (trv E t1 s)) ∧ U0.heap.size ≤ g2) := hid ⟨hr, Nat.le_trans hB.size hge⟩
        replace hB := hB.trans (hb.mono hB.size)
        clear hb hr hge
        refine hK.out _ _ (fun _ => (HSt.out _ hB)) (fun _ => ?_)
        clear hK K'
        (try simp only [Act.put, jq1, jq2, jq3])
        refine G_step (i := 9) (o := _) (by kernel_rfl) rfl (fun K' hK => ?_)
        go_simp
        obtain ⟨y22, hy⟩ : ∃ q, q = y21.alloc (.cells #[.slice none 0 0] 44) := ⟨_, rfl⟩
        have hb : Below y21.heap.size y21 y22 := by rw [hy]; exact box_below _ _
        obtain ⟨b6, hbx⟩ : ∃ q, q = y21.heap.size := ⟨_, rfl⟩
        have hb6 : Hid (y22.heap[b6]? = some (.cells #[.slice none 0 0] 44 (0, 0)) ∧ U0.heap.size ≤ b6) := by rw [hy, hbx]; exact hid ⟨Go.Deep.blk_alloc_new _ _, hB.size⟩
        rw [← hy]
        rw [← hbx]
        have hne : Hid (b6 ≠ b7) := hid (by have := (jq4.1 hb7.out.1).1; omega)
        have hg1 := hid (And.intro (rowIs_below hg1.out.1 hb) hg1.out.2)
        have hb7 := hid (And.intro ((hb.block _ (jq4.1 hb7.out.1).1).trans hb7.out.1) hb7.out.2)
        have hg2 := hid (And.intro (rowIs_below hg2.out.1 hb) hg2.out.2)
        replace hB := hB.trans (hb.mono hB.size)
        clear hy hb hbx
        refine hK.out _ _ (fun _ => (HSt.out _ hB)) (fun _ => ?_)
        clear hK K'
        (try simp only [Act.put, jq1, jq2, jq3])
        have sc : y22.cell? ⟨b6, 0, none⟩ = some (.slice none 0 0) := cell_of_cells hb6.out.1 rfl
        have sf : y22.frozen? ⟨b6, 0, none⟩ = false := by have e := hb6.out.1; simp [World.frozen?, e]
        refine G_step (i := 11) (o := _) (by kernel_rfl) rfl (fun K' hK => ?_)
        go_simp
        obtain ⟨y23, hy⟩ : ∃ q, q = y22.setCell ⟨b6, 0, none⟩ (.slice (some ⟨g1, 0, none⟩) n n) := ⟨_, rfl⟩
        rw [← hy]
        have hbk : ∀ k, k ≠ b6 → y23.heap[k]? = y22.heap[k]? := fun k hk => by rw [hy]; exact Go.Deep.blk_setCell_other _ _ _ _ hk
        replace hB : Below U0.heap.size U0 y23 := by rw [hy]; exact hB.setCell hb6.out.2 _
        have hb7 := hid (And.intro ((hbk b7 (Ne.symm hne.out)).trans hb7.out.1) hb7.out.2)
        have hg1 := hid (And.intro (hg1.out.1.of_block (hbk g1 (row_ne4 hg1.out.1 hb6.out.1))) hg1.out.2)
        have hg2 := hid (And.intro (hg2.out.1.of_block (hbk g2 (row_ne4 hg2.out.1 hb6.out.1))) hg2.out.2)
        have hb6 : Hid (y23.heap[b6]? = some (.cells #[.slice (some ⟨g1, 0, none⟩) n n] 44 (0, 0)) ∧ U0.heap.size ≤ b6) := hid ⟨by rw [hy]; exact one_set hb6.out.1 _, hb6.out.2⟩
        clear hy hbk
        refine hK.out _ _ (fun _ => (HSt.out _ hB)) (fun _ => ?_)
        clear hK K'
        (try simp only [Act.put, jq1, jq2, jq3])
        clear sc sf
        have sc : y23.cell? ⟨b7, 0, none⟩ = some (.slice none 0 0) := cell_of_cells hb7.out.1 rfl
        have sf : y23.frozen? ⟨b7, 0, none⟩ = false := by have e := hb7.out.1; simp [World.frozen?, e]
        refine G_step (i := 12) (o := _) (by kernel_rfl) rfl (fun K' hK => ?_)
        go_simp
        obtain ⟨y24, hy⟩ : ∃ q, q = y23.setCell ⟨b7, 0, none⟩ (.slice (some ⟨g2, 0, none⟩) n n) := ⟨_, rfl⟩
        rw [← hy]
        have hbk : ∀ k, k ≠ b7 → y24.heap[k]? = y23.heap[k]? := fun k hk => by rw [hy]; exact Go.Deep.blk_setCell_other _ _ _ _ hk
        replace hB : Below U0.heap.size U0 y24 := by rw [hy]; exact hB.setCell hb7.out.2 _
        have hb6 := hid (And.intro ((hbk b6 hne.out).trans hb6.out.1) hb6.out.2)
        have hg1 := hid (And.intro (hg1.out.1.of_block (hbk g1 (row_ne4 hg1.out.1 hb7.out.1))) hg1.out.2)
        have hg2 := hid (And.intro (hg2.out.1.of_block (hbk g2 (row_ne4 hg2.out.1 hb7.out.1))) hg2.out.2)
        have hb7 : Hid (y24.heap[b7]? = some (.cells #[.slice (some ⟨g2, 0, none⟩) n n] 44 (0, 0)) ∧ U0.heap.size ≤ b7) := hid ⟨by rw [hy]; exact one_set hb7.out.1 _, hb7.out.2⟩
        clear hy hbk
        refine hK.out _ _ (fun _ => (HSt.out _ hB)) (fun _ => ?_)
        clear hK K'
        (try simp only [Act.put, jq1, jq2, jq3])
        clear sc sf
        refine G_done (by kernel_rfl) ?_ _
        go_wp2_with fail
        go_meet
        exact ⟨b6, b7, g1, g2, rfl, rfl, hid ⟨hB, hb6.out.1, hb7.out.1, hg1.out.1, hg2.out.1⟩⟩
       ·refine ⟨_, rfl, fun K' hK => ?_⟩
        go_simp
        obtain ⟨y25, hy⟩ : ∃ q, q = y20.alloc (.cells #[.slice none 0 0] 44) := ⟨_, rfl⟩
        have hb : Below y20.heap.size y20 y25 := by rw [hy]; exact box_below _ _
        obtain ⟨b6, hbx⟩ : ∃ q, q = y20.heap.size := ⟨_, rfl⟩
        have hb6 : Hid (y25.heap[b6]? = some (.cells #[.slice none 0 0] 44 (0, 0)) ∧ U0.heap.size ≤ b6) := by rw [hy, hbx]; exact hid ⟨Go.Deep.blk_alloc_new _ _, hB.size⟩
        rw [← hy]
        rw [← hbx]
        have hne : Hid (b6 ≠ b7) := hid (by have := (jq4.1 hb7.out.1).1; omega)
        have hg1 := hid (And.intro (rowIs_below hg1.out.1 hb) hg1.out.2)
        have hb7 := hid (And.intro ((hb.block _ (jq4.1 hb7.out.1).1).trans hb7.out.1) hb7.out.2)
        replace hB := hB.trans (hb.mono hB.size)
        clear hy hb hbx
        refine hK.out _ _ (fun _ => (HSt.out _ hB)) (fun _ => ?_)
        clear hK K'
        (try simp only [Act.put, jq1, jq2, jq3])
        refine G_step (i := 8) (o := _) (by kernel_rfl) rfl (fun K' hK => ?_)
        go_simp
        refine (CB.out _ hB).mono ?_
        rintro e y26 ⟨g2, rfl, hge, hr, hb⟩
        dsimp only
        have hg1 := hid (And.intro (rowIs_below hg1.out.1 hb) hg1.out.2)
        have hb7 := hid (And.intro ((hb.block _ (jq4.1 hb7.out.1).1).trans hb7.out.1) hb7.out.2)
        have hb6 := hid (And.intro ((hb.block _ (jq4.1 hb6.out.1).1).trans hb6.out.1) hb6.out.2)
        have hg2 : Hid (y26.rowIs g2 4 n (fun s => .bool (trv E t1 s)) ∧ U0.heap.size ≤ g2) := hid ⟨hr, Nat.le_trans hB.size hge⟩
        replace hB := hB.trans (hb.mono hB.size)
        clear hb hr hge
        refine hK.out _ _ (fun _ => (HSt.out _ hB)) (fun _ => ?_)
        clear hK K'
        (try simp only [Act.put, jq1, jq2, jq3])
        have sc : y26.cell? ⟨b6, 0, none⟩ = some (.slice none 0 0) := cell_of_cells hb6.out.1 rfl
        have sf : y26.frozen? ⟨b6, 0, none⟩ = false := by have e := hb6.out.1; simp [World.frozen?, e]
        refine G_step (i := 11) (o := _) (by kernel_rfl) rfl (fun K' hK => ?_)
        go_simp
        obtain ⟨y27, hy⟩ : ∃ q, q = y26.setCell ⟨b6, 0, none⟩ (.slice (some ⟨g1, 0, none⟩) n n) := ⟨_, rfl⟩
        rw [← hy]
        have hbk : ∀ k, k ≠ b6 → y27.heap[k]? = y26.heap[k]? := fun k hk => by rw [hy]; exact Go.Deep.blk_setCell_other _ _ _ _ hk
        replace hB : Below U0.heap.size U0 y27 := by rw [hy]; exact hB.setCell hb6.out.2 _
        have hb7 := hid (And.intro ((hbk b7 (Ne.symm hne.out)).trans hb7.out.1) hb7.out.2)
        have hg1 := hid (And.intro (hg1.out.1.of_block (hbk g1 (row_ne4 hg1.out.1 hb6.out.1))) hg1.out.2)
        have hg2 := hid (And.intro (hg2.out.1.of_block (hbk g2 (row_ne4 hg2.out.1 hb6.out.1))) hg2.out.2)
        have hb6 : Hid (y27.heap[b6]? = some (.cells #[.slice (some ⟨g1, 0, none⟩) n n] 44 (0, 0)) ∧ U0.heap.size ≤ b6) := hid ⟨by rw [hy]; exact one_set hb6.out.1 _, hb6.out.2⟩
        clear hy hbk
        refine hK.out _ _ (fun _ => (HSt.out _ hB)) (fun _ => ?_)
        clear hK K'
        (try simp only [Act.put, jq1, jq2, jq3])
        clear sc sf
        have sc : y27.cell? ⟨b7, 0, none⟩ = some (.slice none 0 0) := cell_of_cells hb7.out.1 rfl
        have sf : y27.frozen? ⟨b7, 0, none⟩ = false := by have e := hb7.out.1; simp [World.frozen?, e]
        refine G_step (i := 12) (o := _) (by kernel_rfl) rfl (fun K' hK => ?_)
        go_simp
        obtain ⟨y28, hy⟩ : ∃ q, q = y27.setCell ⟨b7, 0, none⟩ (.slice (some ⟨g2, 0, none⟩) n n) := ⟨_, rfl⟩
        rw [← hy]
        have hbk : ∀ k, k ≠ b7 → y28.heap[k]? = y27.heap[k]? := fun k hk => by rw [hy]; exact Go.Deep.blk_setCell_other _ _ _ _ hk
        replace hB : Below U0.heap.size U0 y28 := by rw [hy]; exact hB.setCell hb7.out.2 _
        have hb6 := hid (And.intro ((hbk b6 hne.out).trans hb6.out.1) hb6.out.2)
        have hg1 := hid (And.intro (hg1.out.1.of_block (hbk g1 (row_ne4 hg1.out.1 hb7.out.1))) hg1.out.2)
        have hg2 := hid (And.intro (hg2.out.1.of_block (hbk g2 (row_ne4 hg2.out.1 hb7.out.1))) hg2.out.2)
        have hb7 : Hid (y28.heap[b7]? = some (.cells #[.slice (some ⟨g2, 0, none⟩) n n] 44 (0, 0)) ∧ U0.heap.size ≤ b7) := hid ⟨by rw [hy]; exact one_set hb7.out.1 _, hb7.out.2⟩
        clear hy hbk
        refine hK.out _ _ (fun _ => (HSt.out _ hB)) (fun _ => ?_)
        clear hK K'
        (try simp only [Act.put, jq1, jq2, jq3])
        clear sc sf
        refine G_done (by kernel_rfl) ?_ _
        go_wp2_with fail
        go_meet
        exact ⟨b6, b7, g1, g2, rfl, rfl, hid ⟨hB, hb6.out.1, hb7.out.1, hg1.out.1, hg2.out.1⟩⟩
     ·refine ⟨_, rfl, fun K' hK => ?_⟩
      go_simp
      obtain ⟨y29, hy⟩ : ∃ q, q = y0.alloc (.cells #[.slice none 0 0] 44) := ⟨_, rfl⟩
      have hb : Below y0.heap.size y0 y29 := by rw [hy]; exact box_below _ _
      obtain ⟨b6, hbx⟩ : ∃ q, q = y0.heap.size := ⟨_, rfl⟩
      have hb6 : Hid (y29.heap[b6]? = some (.cells #[.slice none 0 0] 44 (0, 0)) ∧ U0.heap.size ≤ b6) := by rw [hy, hbx]; exact hid ⟨Go.Deep.blk_alloc_new _ _, hB.size⟩
      rw [← hy]
      rw [← hbx]
      replace hB := hB.trans (hb.mono hB.size)
      clear hy hb hbx
      refine hK.out _ _ (fun _ => (HSt.out _ hB)) (fun _ => ?_)
      clear hK K'
      (try simp only [Act.put, jq1, jq2, jq3])
      refine G_alt (l := [2, 10]) (by kernel_rfl) (by decide) ?_
      intro i hi
      have hi2 : i = 2 ∨ i = 10 := by simpa using hi
      clear hi
      rcases hi2 with rfl | rfl
      ·refine ⟨_, rfl, fun K' hK => ?_⟩
       go_simp
       refine (CA.out _ hB).mono ?_
       rintro e y30 ⟨g1, rfl, hge, hr, hb⟩
       dsimp only
       have hb6 := hid (And.intro ((hb.block _ (jq4.1 hb6.out.1).1).trans hb6.out.1) hb6.out.2)
       have hg1 : Hid (y30.rowIs g1 4 n (fun s => .bool (trv E t s)) ∧ U0.heap.size ≤ g1) := hid ⟨hr, Nat.le_trans hB.size hge⟩
       replace hB := hB.trans (hb.mono hB.size)
       clear hb hr hge
       refine hK.out _ _ (fun _ => (HSt.out _ hB)) (fun _ => ?_)
       clear hK K'
       (try simp only [Act.put, jq1, jq2, jq3])
       refine G_alt (l := [8, 10]) (by kernel_rfl) (by decide) ?_
       intro i hi
       have hi2 : i = 8 ∨ i = 10 := by simpa using hi
       clear hi
       rcases hi2 with rfl | rfl
       ·refine ⟨_, rfl, fun K' hK => ?_⟩
        go_simp
        refine (CB.out _ hB).mono ?_
        rintro e y31 ⟨g2, rfl, hge, hr, hb⟩
        dsimp only
        have hb6 := hid (And.intro ((hb.block _ (jq4.1 hb6.out.1).1).trans hb6.out.1) hb6.out.2)
        have hg1 := hid (And.intro (rowIs_below hg1.out.1 hb) hg1.out.2)
        have hg2 : Hid (y31.rowIs g2 4 n (fun s => .bool (trv E t1 s)) ∧ U0.heap.size ≤ g2) := hid ⟨hr, Nat.le_trans hB.size hge⟩
        replace hB := hB.trans (hb.mono hB.size)
        clear hb hr hge
        refine hK.out _ _ (fun _ => (HSt.out _ hB)) (fun _ => ?_)
        clear hK K'
        (try simp only [Act.put, jq1, jq2, jq3])
        refine G_step (i := 10) (o := _) (by kernel_rfl) rfl (fun K' hK => ?_)
        go_simp
        obtain ⟨y32, hy⟩ : ∃ q, q = y31.alloc (.cells #[.slice none 0 0] 44) := ⟨_, rfl⟩
        have hb : Below y31.heap.size y31 y32 := by rw [hy]; exact box_below _ _
        obtain ⟨b7, hbx⟩ : ∃ q, q = y31.heap.size := ⟨_, rfl⟩
        have hb7 : Hid (y32.heap[b7]? = some (.cells #[.slice none 0 0] 44 (0, 0)) ∧ U0.heap.size ≤ b7) := by rw [hy, hbx]; exact hid ⟨Go.Deep.blk_alloc_new _ _, hB.size⟩
        rw [← hy]
        rw [← hbx]
        have hne : Hid (b6 ≠ b7) := hid (by have := (jq4.1 hb6.out.1).1; omega)
        have hb6 := hid (And.intro ((hb.block _ (jq4.1 hb6.out.1).1).trans hb6.out.1) hb6.out.2)
        have hg1 := hid (And.intro (rowIs_below hg1.out.1 hb) hg1.out.2)
        have hg2 := hid (And.intro (rowIs_below hg2.out.1 hb) hg2.out.2)
        replace hB := hB.trans (hb.mono hB.size)
        clear hy hb hbx
        refine hK.out _ _ (fun _ => (HSt.out _ hB)) (fun _ => ?_)
        clear hK K'
        (try simp only [Act.put, jq1, jq2, jq3])
        have sc : y32.cell? ⟨b6, 0, none⟩ = some (.slice none 0 0) := cell_of_cells hb6.out.1 rfl
        have sf : y32.frozen? ⟨b6, 0, none⟩ = false := by have e := hb6.out.1; simp [World.frozen?, e]
        refine G_step (i := 11) (o := _) (by kernel_rfl) rfl (fun K' hK => ?_)
        go_simp
        obtain ⟨y33, hy⟩ : ∃ q, q = y32.setCell ⟨b6, 0, none⟩ (.slice (some ⟨g1, 0, none⟩) n n) := ⟨_, rfl⟩
        rw [← hy]
        have hbk : ∀ k, k ≠ b6 → y33.heap[k]? = y32.heap[k]? := fun k hk => by rw [hy]; exact Go.Deep.blk_setCell_other _ _ _ _ hk
        replace hB : Below U0.heap.size U0 y33 := by rw [hy]; exact hB.setCell hb6.out.2 _
        have hb7 := hid (And.intro ((hbk b7 (Ne.symm hne.out)).trans hb7.out.1) hb7.out.2)
        have hg1 := hid (And.intro (hg1.out.1.of_block (hbk g1 (row_ne4 hg1.out.1 hb6.out.1))) hg1.out.2)
        have hg2 := hid (And.intro (hg2.out.1.of_block (hbk g2 (row_ne4 hg2.out.1 hb6.out.1))) hg2.out.2)
        have hb6 : Hid (y33.heap[b6]? = some (.cells #[.slice (some ⟨g1, 0, none⟩) n n] 44 (0, 0)) ∧ U0.heap.size ≤ b6) := hid ⟨by rw [hy]; exact one_set hb6.out.1 _, hb6.out.2⟩
        clear hy hbk
        refine hK.out _ _ (fun _ => (HSt.out _ hB)) (fun _ => ?_)
        clear hK K'
        (try simp only [Act.put, jq1, jq2, jq3])
        clear sc sf
        have sc : y33.cell? ⟨b7, 0, none⟩ = some (.slice none 0 0) := cell_of_cells hb7.out.1 rfl
        have sf : y33.frozen? ⟨b7, 0, none⟩ = false := by have e := hb7.out.1; simp [World.frozen?, e]
        refine G_step (i := 12) (o := _) (by kernel_rfl) rfl (fun K' hK => ?_)
        go_simp
        obtain ⟨y34, hy⟩ : ∃ q, q = y33.setCell ⟨b7, 0, none⟩ (.slice (some ⟨g2, 0, none⟩) n n) := ⟨_, rfl⟩
        rw [← hy]
        have hbk : ∀ k, k ≠ b7 → y34.heap[k]? = y33.heap[k]? := fun k hk => by rw [hy]; exact Go.Deep.blk_setCell_other _ _ _ _ hk
        replace hB : Below U0.heap.size U0 y34 := by rw [hy]; exact hB.setCell hb7.out.2 _
        have hb6 := hid (And.intro ((hbk b6 hne.out).trans hb6.out.1) hb6.out.2)
        have hg1 := hid (And.intro (hg1.out.1.of_block (hbk g1 (row_ne4 hg1.out.1 hb7.out.1))) hg1.out.2)
        have hg2 := hid (And.intro (hg2.out.1.of_block (hbk g2 (row_ne4 hg2.out.1 hb7.out.1))) hg2.out.2)
        have hb7 : Hid (y34.heap[b7]? = some (.cells #[.slice (some ⟨g2, 0, none⟩) n n] 44 (0, 0)) ∧ U0.heap.size ≤ b7) := hid ⟨by rw [hy]; exact one_set hb7.out.1 _, hb7.out.2⟩
        clear hy hbk
        refine hK.out _ _ (fun _ => (HSt.out _ hB)) (fun _ => ?_)
        clear hK K'
        (try simp only [Act.put, jq1, jq2, jq3])
        clear sc sf
        refine G_done (by kernel_rfl) ?_ _
        go_wp2_with fail
        go_meet
        exact ⟨b6, b7, g1, g2, rfl, rfl, hid ⟨hB, hb6.out.1, hb7.out.1, hg1.out.1, hg2.out.1⟩⟩
       ·refine ⟨_, rfl, fun K' hK => ?_⟩
        go_simp
        obtain ⟨y35, hy⟩ : ∃ q, q = y30.alloc (.cells #[.slice none 0 0] 44) := ⟨_, rfl⟩
        have hb : Below y30.heap.size y30 y35 := by rw [hy]; exact box_below _ _
        obtain ⟨b7, hbx⟩ : ∃ q, q = y30.heap.size := ⟨_, rfl⟩
        have hb7 : Hid (y35.heap[b7]? = some (.cells #[.slice none 0 0] 44 (0, 0)) ∧ U0.heap.size ≤ b7) := by rw [hy, hbx]; exact hid ⟨Go.Deep.blk_alloc_new _ _, hB.size⟩
        rw [← hy]
        rw [← hbx]
        have hne : Hid (b6 ≠ b7) := hid (by have := (jq4.1 hb6.out.1).1; omega)
        have hb6 := hid (And.intro ((hb.block _ (jq4.1 hb6.out.1).1).trans hb6.out.1) hb6.out.2)
        have hg1 := hid (And.intro (rowIs_below hg1.out.1 hb) hg1.out.2)
        replace hB := hB.trans (hb.mono hB.size)
        clear hy hb hbx
        refine hK.out _ _ (fun _ => (HSt.out _ hB)) (fun _ => ?_)
        clear hK K'
        (try simp only [Act.put, jq1, jq2, jq3])
        refine G_step (i := 8) (o := _) (by kernel_rfl) rfl (fun K' hK => ?_)
        go_simp
        refine (CB.out _ hB).mono ?_
        rintro e y36 ⟨g2, rfl, hge, hr, hb⟩
        dsimp only
        have hb6 := hid (And.intro ((hb.block _ (jq4.1 hb6.out.1).1).trans hb6.out.1) hb6.out.2)
        have hg1 := hid (And.intro (rowIs_below hg1.out.1 hb) hg1.out.2)
        have hb7 := hid (And.intro ((hb.block _ (jq4.1 hb7.out.1).1).trans hb7.out.1) hb7.out.2)
        have hg2 : Hid (y36.rowIs g2 4 n (fun s => .bool (trv E t1 s)) ∧ U0.heap.size ≤ g2) := hid ⟨hr, Nat.le_trans hB.size hge⟩
        replace hB := hB.trans (hb.mono hB.size)
        clear hb hr hge
        refine hK.out _ _ (fun _ => (HSt.out _ hB)) (fun _ => ?_)
        clear hK K'
        (try simp only [Act.put, jq1, jq2, jq3])
        have sc : y36.cell? ⟨b6, 0, none⟩ = some (.slice none 0 0) := cell_of_cells hb6.out.1 rfl
        have sf : y36.frozen? ⟨b6, 0, none⟩ = false := by have e := hb6.out.1; simp [World.frozen?, e]
        refine G_step (i := 11) (o := _) (by kernel_rfl) rfl (fun K' hK => ?_)
        go_simp
        obtain ⟨y37, hy⟩ : ∃ q, q = y36.setCell ⟨b6, 0, none⟩ (.slice (some ⟨g1, 0, none⟩) n n) := ⟨_, rfl⟩
        rw [← hy]
        have hbk : ∀ k, k ≠ b6 → y37.heap[k]? = y36.heap[k]? := fun k hk => by rw [hy]; exact Go.Deep.blk_setCell_other _ _ _ _ hk
        replace hB : Below U0.heap.size U0 y37 := by rw [hy]; exact hB.setCell hb6.out.2 _
        have hb7 := hid (And.intro ((hbk b7 (Ne.symm hne.out)).trans hb7.out.1) hb7.out.2)
        have hg1 := hid (And.intro (hg1.out.1.of_block (hbk g1 (row_ne4 hg1.out.1 hb6.out.1))) hg1.out.2)
        have hg2 := hid (And.intro (hg2.out.1.of_block (hbk g2 (row_ne4 hg2.out.1 hb6.out.1))) hg2.out.2)
        have hb6 : Hid (y37.heap[b6]? = some (.cells #[.slice (some ⟨g1, 0, none⟩) n n] 44 (0, 0)) ∧ U0.heap.size ≤ b6) := hid ⟨by rw [hy]; exact one_set hb6.out.1 _, hb6.out.2⟩
        clear hy hbk
        refine hK.out _ _ (fun _ => (HSt.out _ hB)) (fun _ => ?_)
        clear hK K'
        (try simp only [Act.put, jq1, jq2, jq3])
        clear sc sf
        have sc : y37.cell? ⟨b7, 0, none⟩ = some (.slice none 0 0) := cell_of_cells hb7.out.1 rfl
        have sf : y37.frozen? ⟨b7, 0, none⟩ = false := by have e := hb7.out.1; simp [World.frozen?, e]
        refine G_step (i := 12) (o := _) (by kernel_rfl) rfl (fun K' hK => ?_)
        go_simp
        obtain ⟨y38, hy⟩ : ∃ q, q = y37.setCell ⟨b7, 0, none⟩ (.slice (some ⟨g2, 0, none⟩) n n) := ⟨_, rfl⟩
        rw [← hy]
        have hbk : ∀ k, k ≠ b7 → y38.heap[k]? = y37.heap[k]? := fun k hk => by rw [hy]; exact Go.Deep.blk_setCell_other _ _ _ _ hk
        replace hB : Below U0.heap.size U0 y38 := by rw [hy]; exact hB.setCell hb7.out.2 _
        have hb6 := hid (And.intro ((hbk b6 hne.out).trans hb6.out.1) hb6.out.2)
        have hg1 := hid (And.intro (hg1.out.1.of_block (hbk g1 (row_ne4 hg1.out.1 hb7.out.1))) hg1.out.2)
        have hg2 := hid (And.intro (hg2.out.1.of_block (hbk g2 (row_ne4 hg2.out.1 hb7.out.1))) hg2.out.2)
        have hb7 : Hid (y38.heap[b7]? = some (.cells #[.slice (some ⟨g2, 0, none⟩) n n] 44 (0, 0)) ∧ U0.heap.size ≤ b7) := hid ⟨by rw [hy]; exact one_set hb7.out.1 _, hb7.out.2⟩
        clear hy hbk
        refine hK.out _ _ (fun _ => (HSt.out _ hB)) (fun _ => ?_)
        clear hK K'
        (try simp only [Act.put, jq1, jq2, jq3])
        clear sc sf
        refine G_done (by kernel_rfl) ?_ _
        go_wp2_with fail
        go_meet
        exact ⟨b6, b7, g1, g2, rfl, rfl, hid ⟨hB, hb6.out.1, hb7.out.1, hg1.out.1, hg2.out.1⟩⟩
      ·refine ⟨_, rfl, fun K' hK => ?_⟩
       go_simp
       obtain ⟨y39, hy⟩ : ∃ q, q = y29.alloc (.cells #[.slice none 0 0] 44) := ⟨_, rfl⟩
       have hb : Below y29.heap.size y29 y39 := by rw [hy]; exact box_below _ _
       obtain ⟨b7, hbx⟩ : ∃ q, q = y29.heap.size := ⟨_, rfl⟩
       have hb7 : Hid (y39.heap[b7]? = some (.cells #[.slice none 0 0] 44 (0, 0)) ∧ U0.heap.size ≤ b7) := by rw [hy, hbx]; exact hid ⟨Go.Deep.blk_alloc_new _ _, hB.size⟩
       rw [← hy]
       rw [← hbx]
       have hne : Hid (b6 ≠ b7) := hid (by have := (jq4.1 hb6.out.1).1; omega)
       have hb6 := hid (And.intro ((hb.block _ (jq4.1 hb6.out.1).1).trans hb6.out.1) hb6.out.2)
       replace hB := hB.trans (hb.mono hB.size)
       clear hy hb hbx
       refine hK.out _ _ (fun _ => (HSt.out _ hB)) (fun _ => ?_)
       clear hK K'
       (try simp only [Act.put, jq1, jq2, jq3])
       refine G_step (i := 2) (o := _) (by kernel_rfl) rfl (fun K' hK => ?_)
       go_simp
       refine (CA.out _ hB).mono ?_
       rintro e y40 ⟨g1, rfl, hge, hr, hb⟩
       dsimp only
       have hb6 := hid (And.intro ((hb.block _ (jq4.1 hb6.out.1).1).trans hb6.out.1) hb6.out.2)
       have hb7 := hid (And.intro ((hb.block _ (jq4.1 hb7.out.1).1).trans hb7.out.1) hb7.out.2)
       have hg1 : Hid (y40.rowIs g1 4 n (fun s => .bool (trv E t s)) ∧ U0.heap.size ≤ g1) := hid ⟨hr, Nat.le_trans hB.size hge⟩
       replace hB := hB.trans (hb.mono hB.size)
       clear hb hr hge
       refine hK.out _ _ (fun _ => (HSt.out _ hB)) (fun _ => ?_)
       clear hK K'
       (try simp only [Act.put, jq1, jq2, jq3])
       refine G_step (i := 8) (o := _) (by kernel_rfl) rfl (fun K' hK => ?_)
       go_simp
       refine (CB.out _ hB).mono ?_
       rintro e y41 ⟨g2, rfl, hge, hr, hb⟩
       dsimp only
       have hb6 := hid (And.intro ((hb.block _ (jq4.1 hb6.out.1).1).trans hb6.out.1) hb6.out.2)
       have hb7 := hid (And.intro ((hb.block _ (jq4.1 hb7.out.1).1).trans hb7.out.1) hb7.out.2)
       have hg1 := hid (And.intro (rowIs_below hg1.out.1 hb) hg1.out.2)
       have hg2 : Hid (y41.rowIs g2 4 n (fun s => .bool (trv E t1 s)) ∧ U0.heap.size ≤ g2) := hid ⟨hr, Nat.le_trans hB.size hge⟩
       replace hB := hB.trans (hb.mono hB.size)
       clear hb hr hge
       refine hK.out _ _ (fun _ => (HSt.out _ hB)) (fun _ => ?_)
       clear hK K'
       (try simp only [Act.put, jq1, jq2, jq3])
       have sc : y41.cell? ⟨b6, 0, none⟩ = some (.slice none 0 0) := cell_of_cells hb6.out.1 rfl
       have sf : y41.frozen? ⟨b6, 0, none⟩ = false := by have e := hb6.out.1; simp [World.frozen?, e]
       refine G_step (i := 11) (o := _) (by kernel_rfl) rfl (fun K' hK => ?_)
       go_simp
       obtain ⟨y42, hy⟩ : ∃ q, q = y41.setCell ⟨b6, 0, none⟩ (.slice (some ⟨g1, 0, none⟩) n n) := ⟨_, rfl⟩
       rw [← hy]
       have hbk : ∀ k, k ≠ b6 → y42.heap[k]? = y41.heap[k]? := fun k hk => by rw [hy]; exact Go.Deep.blk_setCell_other _ _ _ _ hk
       replace hB : Below U0.heap.size U0 y42 := by rw [hy]; exact hB.setCell hb6.out.2 _
       have hb7 := hid (And.intro ((hbk b7 (Ne.symm hne.out)).trans hb7.out.1) hb7.out.2)
       have hg1 := hid (And.intro (hg1.out.1.of_block (hbk g1 (row_ne4 hg1.out.1 hb6.out.1))) hg1.out.2)
       have hg2 := hid (And.intro (hg2.out.1.of_block (hbk g2 (row_ne4 hg2.out.1 hb6.out.1))) hg2.out.2)
       have hb6 : Hid (y42.heap[b6]? = some (.cells #[.slice (some ⟨g1, 0, none⟩) n n] 44 (0, 0)) ∧ U0.heap.size ≤ b6) := hid ⟨by rw [hy]; exact one_set hb6.out.1 _, hb6.out.2⟩
       clear hy hbk
       refine hK.out _ _ (fun _ => (HSt.out _ hB)) (fun _ => ?_)
       clear hK K'
       (try simp only [Act.put, jq1, jq2, jq3])
       clear sc sf
       have sc : y42.cell? ⟨b7, 0, none⟩ = some (.slice none 0 0) := cell_of_cells hb7.out.1 rfl
       have sf : y42.frozen? ⟨b7, 0, none⟩ = false := by have e := hb7.out.1; simp [World.frozen?, e]
       refine G_step (i := 12) (o := _) (by kernel_rfl) rfl (fun K' hK => ?_)
       go_simp
       obtain ⟨y43, hy⟩ : ∃ q, q = y42.setCell ⟨b7, 0, none⟩ (.slice (some ⟨g2, 0, none⟩) n n) := ⟨_, rfl⟩
       rw [← hy]
       have hbk : ∀ k, k ≠ b7 → y43.heap[k]? = y42.heap[k]? := fun k hk => by rw [hy]; exact Go.Deep.blk_setCell_other _ _ _ _ hk
       replace hB : Below U0.heap.size U0 y43 := by rw [hy]; exact hB.setCell hb7.out.2 _
       have hb6 := hid (And.intro ((hbk b6 hne.out).trans hb6.out.1) hb6.out.2)
       have hg1 := hid (And.intro (hg1.out.1.of_block (hbk g1 (row_ne4 hg1.out.1 hb7.out.1))) hg1.out.2)
       have hg2 := hid (And.intro (hg2.out.1.of_block (hbk g2 (row_ne4 hg2.out.1 hb7.out.1))) hg2.out.2)
       have hb7 : Hid (y43.heap[b7]? = some (.cells #[.slice (some ⟨g2, 0, none⟩) n n] 44 (0, 0)) ∧ U0.heap.size ≤ b7) := hid ⟨by rw [hy]; exact one_set hb7.out.1 _, hb7.out.2⟩
       clear hy hbk
       refine hK.out _ _ (fun _ => (HSt.out _ hB)) (fun _ => ?_)
       clear hK K'
       (try simp only [Act.put, jq1, jq2, jq3])
       clear sc sf
       refine G_done (by kernel_rfl) ?_ _
       go_wp2_with fail
       go_meet
       exact ⟨b6, b7, g1, g2, rfl, rfl, hid ⟨hB, hb6.out.1, hb7.out.1, hg1.out.1, hg2.out.1⟩⟩
     ·refine ⟨_, rfl, fun K' hK => ?_⟩
      go_simp
      obtain ⟨y44, hy⟩ : ∃ q, q = y0.alloc (.cells #[.slice none 0 0] 44) := ⟨_, rfl⟩
      have hb : Below y0.heap.size y0 y44 := by rw [hy]; exact box_below _ _
      obtain ⟨b7, hbx⟩ : ∃ q, q = y0.heap.size := ⟨_, rfl⟩
      have hb7 : Hid (y44.heap[b7]? = some (.cells #[.slice none 0 0] 44 (0, 0)) ∧ U0.heap.size ≤ b7) := by rw [hy, hbx]; exact hid ⟨Go.Deep.blk_alloc_new _ _, hB.size⟩
      rw [← hy]
      rw [← hbx]
      replace hB := hB.trans (hb.mono hB.size)
      clear hy hb hbx
      refine hK.out _ _ (fun _ => (HSt.out _ hB)) (fun _ => ?_)
      clear hK K'
      (try simp only [Act.put, jq1, jq2, jq3])
      refine G_alt (l := [2, 9]) (by kernel_rfl) (by decide) ?_
      intro i hi
      have hi2 : i = 2 ∨ i = 9 := by simpa using hi
      clear hi
      rcases hi2 with rfl | rfl
      ·refine ⟨_, rfl, fun K' hK => ?_⟩
       go_simp
       refine (CA.out _ hB).mono ?_
       rintro e y45 ⟨g1, rfl, hge, hr, hb⟩
       dsimp only
       have hb7 := hid (And.intro ((hb.block _ (jq4.1 hb7.out.1).1).trans hb7.out.1) hb7.out.2)
       have hg1 : Hid (y45.rowIs g1 4 n (fun s => .bool (trv E t s)) ∧ U0.heap.size ≤ g1) := hid ⟨hr, Nat.le_trans hB.size hge⟩
       replace hB := hB.trans (hb.mono hB.size)
       clear hb hr hge
       refine hK.out _ _ (fun _ => (HSt.out _ hB)) (fun _ => ?_)
       clear hK K'
       (try simp only [Act.put, jq1, jq2, jq3])
       refine G_alt (l := [8, 9]) (by kernel_rfl) (by decide) ?_
       intro i hi
       have hi2 : i = 8 ∨ i = 9 := by simpa using hi
       clear hi
       rcases hi2 with rfl | rfl
       ·refine ⟨_, rfl, fun K' hK => ?_⟩
        go_simp
        refine (CB.out _ hB).mono ?_
        rintro e y46 ⟨g2, rfl, hge, hr, hb⟩
        dsimp only
        have hb7 := hid (And.intro ((hb.block _ (jq4.1 hb7.out.1).1).trans hb7.out.1) hb7.out.2)
        have hg1 := hid (And.intro (rowIs_below hg1.out.1 hb) hg1.out.2)
        have hg2 : Hid (y46.rowIs g2 4 n (fun s => .bool (trv E t1 s)) ∧ U0.heap.size ≤ g2) := hid ⟨hr, Nat.le_trans hB.size hge⟩
        replace hB := hB.trans (hb.mono hB.size)
        clear hb hr hge
        refine hK.out _ _ (fun _ => (HSt.out _ hB)) (fun _ => ?_)
        clear hK K'
        (try simp only [Act.put, jq1, jq2, jq3])
        refine G_step (i := 9) (o := _) (by kernel_rfl) rfl (fun K' hK => ?_)
        go_simp
        obtain ⟨y47, hy⟩ : ∃ q, q = y46.alloc (.cells #[.slice none 0 0] 44) := ⟨_, rfl⟩
        have hb : Below y46.heap.size y46 y47 := by rw [hy]; exact box_below _ _
        obtain ⟨b6, hbx⟩ : ∃ q, q = y46.heap.size := ⟨_, rfl⟩
        have hb6 : Hid (y47.heap[b6]? = some (.cells #[.slice none 0 0] 44 (0, 0)) ∧ U0.heap.size ≤ b6) := by rw [hy, hbx]; exact hid ⟨Go.Deep.blk_alloc_new _ _, hB.size⟩
        rw [← hy]
        rw [← hbx]
        have hne : Hid (b6 ≠ b7) := hid (by have := (jq4.1 hb7.out.1).1; omega)
        have hb7 := hid (And.intro ((hb.block _ (jq4.1 hb7.out.1).1).trans hb7.out.1) hb7.out.2)
        have hg1 := hid (And.intro (rowIs_below hg1.out.1 hb) hg1.out.2)
        have hg2 := hid (And.intro (rowIs_below hg2.out.1 hb) hg2.out.2)
        replace hB := hB.trans (hb.mono hB.size)
        clear hy hb hbx
        refine hK.out _ _ (fun _ => (HSt.out _ hB)) (fun _ => ?_)
        clear hK K'
        (try simp only [Act.put, jq1, jq2, jq3])
        have sc : y47.cell? ⟨b6, 0, none⟩ = some (.slice none 0 0) := cell_of_cells hb6.out.1 rfl
        have sf : y47.frozen? ⟨b6, 0, none⟩ = false := by have e := hb6.out.1; simp [World.frozen?, e]
        refine G_step (i := 11) (o := _) (by kernel_rfl) rfl (fun K' hK => ?_)
        go_simp
        obtain ⟨y48, hy⟩ : ∃ q, q = y47.setCell ⟨b6, 0, none⟩ (.slice (some ⟨g1, 0, none⟩) n n) := ⟨_, rfl⟩
        rw [← hy]
        have hbk : ∀ k, k ≠ b6 → y48.heap[k]? = y47.heap[k]? := fun k hk => by rw [hy]; exact Go.Deep.blk_setCell_other _ _ _ _ hk
        replace hB : Below U0.heap.size U0 y48 := by rw [hy]; exact hB.setCell hb6.out.2 _
        have hb7 := hid (And.intro ((hbk b7 (Ne.symm hne.out)).trans hb7.out.1) hb7.out.2)
        have hg1 := hid (And.intro (hg1.out.1.of_block (hbk g1 (row_ne4 hg1.out.1 hb6.out.1))) hg1.out.2)
        have hg2 := hid (And.intro (hg2.out.1.of_block (hbk g2 (row_ne4 hg2.out.1 hb6.out.1))) hg2.out.2)
        have hb6 : Hid (y48.heap[b6]? = some (.cells #[.slice (some ⟨g1, 0, none⟩) n n] 44 (0, 0)) ∧ U0.heap.size ≤ b6) := hid ⟨by rw [hy]; exact one_set hb6.out.1 _, hb6.out.2⟩
        clear hy hbk
        refine hK.out _ _ (fun _ => (HSt.out _ hB)) (fun _ => ?_)
        clear hK K'
        (try simp only [Act.put, jq1, jq2, jq3])
        clear sc sf
        have sc : y48.cell? ⟨b7, 0, none⟩ = some (.slice none 0 0) := cell_of_cells hb7.out.1 rfl
        have sf : y48.frozen? ⟨b7, 0, none⟩ = false := by have e := hb7.out.1; simp [World.frozen?, e]
        refine G_step (i := 12) (o := _) (by kernel_rfl) rfl (fun K' hK => ?_)
        go_simp
        obtain ⟨y49, hy⟩ : ∃ q, q = y48.setCell ⟨b7, 0, none⟩ (.slice (some ⟨g2, 0, none⟩) n n) := ⟨_, rfl⟩
        rw [← hy]
        have hbk : ∀ k, k ≠ b7 → y49.heap[k]? = y48.heap[k]? := fun k hk => by rw [hy]; exact Go.Deep.blk_setCell_other _ _ _ _ hk
        replace hB : Below U0.heap.size U0 y49 := by rw [hy]; exact hB.setCell hb7.out.2 _
        have hb6 := hid (And.intro ((hbk b6 hne.out).trans hb6.out.1) hb6.out.2)
        have hg1 := hid (And.intro (hg1.out.1.of_block (hbk g1 (row_ne4 hg1.out.1 hb7.out.1))) hg1.out.2)
        have hg2 := hid (And.intro (hg2.out.1.of_block (hbk g2 (row_ne4 hg2.out.1 hb7.out.1))) hg2.out.2)
        have hb7 : Hid (y49.heap[b7]? = some (.cells #[.slice (some ⟨g2, 0, none⟩) n n] 44 (0, 0)) ∧ U0.heap.size ≤ b7) := hid ⟨by rw [hy]; exact one_set hb7.out.1 _, hb7.out.2⟩
        clear hy hbk
        refine hK.out _ _ (fun _ => (HSt.out _ hB)) (fun _ => ?_)
        clear hK K'
        (try simp only [Act.put, jq1, jq2, jq3])
        clear sc sf
        refine G_done (by kernel_rfl) ?_ _
        go_wp2_with fail
        go_meet
        exact ⟨b6, b7, g1, g2, rfl, rfl, hid ⟨hB, hb6.out.1, hb7.out.1, hg1.out.1, hg2.out.1⟩⟩
       ·refine ⟨_, rfl, fun K' hK => ?_⟩
        go_simp
        obtain ⟨y50, hy⟩ : ∃ q, q = y45.alloc (.cells #[.slice none 0 0] 44) := ⟨_, rfl⟩
        have hb : Below y45.heap.size y45 y50 := by rw [hy]; exact box_below _ _
        obtain ⟨b6, hbx⟩ : ∃ q, q = y45.heap.size := ⟨_, rfl⟩
        have hb6 : Hid (y50.heap[b6]? = some (.cells #[.slice none 0 0] 44 (0, 0)) ∧ U0.heap.size ≤ b6) := by rw [hy, hbx]; exact hid ⟨Go.Deep.blk_alloc_new _ _, hB.size⟩
        rw [← hy]
        rw [← hbx]
        have hne : Hid (b6 ≠ b7) := hid (by have := (jq4.1 hb7.out.1).1; omega)
        have hb7 := hid (And.intro ((hb.block _ (jq4.1 hb7.out.1).1).trans hb7.out.1) hb7.out.2)
        have hg1 := hid (And.intro (rowIs_below hg1.out.1 hb) hg1.out.2)
        replace hB := hB.trans (hb.mono hB.size)
        clear hy hb hbx
        refine hK.out _ _ (fun _ => (HSt.out _ hB)) (fun _ => ?_)
        clear hK K'
        (try simp only [Act.put, jq1, jq2, jq3])
        refine G_step (i := 8) (o := _) (by kernel_rfl) rfl (fun K' hK => ?_)
        go_simp
        refine (CB.out _ hB).mono ?_
        rintro e y51 ⟨g2, rfl, hge, hr, hb⟩
        dsimp only
        have hb7 := hid (And.intro ((hb.block _ (jq4.1 hb7.out.1).1).trans hb7.out.1) hb7.out.2)
        have hg1 := hid (And.intro (rowIs_below hg1.out.1 hb) hg1.out.2)
        have hb6 := hid (And.intro ((hb.block _ (jq4.1 hb6.out.1).1).trans hb6.out.1) hb6.out.2)
        have hg2 : Hid (y51.rowIs g2 4 n (fun s => .bool (trv E t1 s)) ∧ U0.heap.size ≤ g2) := hid ⟨hr, Nat.le_trans hB.size hge⟩
        replace hB := hB.trans (hb.mono hB.size)
        clear hb hr hge
        refine hK.out _ _ (fun _ => (HSt.out _ hB)) (fun _ => ?_)
        clear hK K'
        (try simp only [Act.put, jq1, jq2, jq3])
        have sc : y51.cell? ⟨b6, 0, none⟩ = some (.slice none 0 0) := cell_of_cells hb6.out.1 rfl
        have sf : y51.frozen? ⟨b6, 0, none⟩ = false := by have e := hb6.out.1; simp [World.frozen?, e]
        refine G_step (i := 11) (o := _) (by kernel_rfl) rfl (fun K' hK => ?_)
        go_simp
        obtain ⟨y52, hy⟩ : ∃ q, q = y51.setCell ⟨b6, 0, none⟩ (.slice (some ⟨g1, 0, none⟩) n n) := ⟨_, rfl⟩
        rw [← hy]
        have hbk : ∀ k, k ≠ b6 → y52.heap[k]? = y51.heap[k]? := fun k hk => by rw [hy]; exact Go.Deep.blk_setCell_other _ _ _ _ hk
        replace hB : Below U0.heap.size U0 y52 := by rw [hy]; exact hB.setCell hb6.out.2 _
        have hb7 := hid (And.intro ((hbk b7 (Ne.symm hne.out)).trans hb7.out.1) hb7.out.2)
        have hg1 := hid (And.intro (hg1.out.1.of_block (hbk g1 (row_ne4 hg1.out.1 hb6.out.1))) hg1.out.2)
        have hg2 := hid (And.intro (hg2.out.1.of_block (hbk g2 (row_ne4 hg2.out.1 hb6.out.1))) hg2.out.2)
        have hb6 : Hid (y52.heap[b6]? = some (.cells #[.slice (some ⟨g1, 0, none⟩) n n] 44 (0, 0)) ∧ U0.heap.size ≤ b6) := hid ⟨by rw [hy]; exact one_set hb6.out.1 _, hb6.out.2⟩
        clear hy hbk
        refine hK.out _ _ (fun _ => (HSt.out _ hB)) (fun _ => ?_)
        clear hK K'
        (try simp only [Act.put, jq1, jq2, jq3])
        clear sc sf
        have sc : y52.cell? ⟨b7, 0, none⟩ = some (.slice none 0 0) := cell_of_cells hb7.out.1 rfl
        have sf : y52.frozen? ⟨b7, 0, none⟩ = false := by have e := hb7.out.1; simp [World.frozen?, e]
        refine G_step (i := 12) (o := _) (by kernel_rfl) rfl (fun K' hK => ?_)
        go_simp
        obtain ⟨y53, hy⟩ : ∃ q, q = y52.setCell ⟨b7, 0, none⟩ (.slice (some ⟨g2, 0, none⟩) n n) := ⟨_, rfl⟩
        rw [← hy]
        have hbk : ∀ k, k ≠ b7 → y53.heap[k]? = y52.heap[k]? := fun k hk => by rw [hy]; exact Go.Deep.blk_setCell_other _ _ _ _ hk
        replace hB : Below U0.heap.size U0 y53 := by rw [hy]; exact hB.setCell hb7.out.2 _
        have hb6 := hid (And.intro ((hbk b6 hne.out).trans hb6.out.1) hb6.out.2)
        have hg1 := hid (And.intro (hg1.out.1.of_block (hbk g1 (row_ne4 hg1.out.1 hb7.out.1))) hg1.out.2)
        have hg2 := hid (And.intro (hg2.out.1.of_block (hbk g2 (row_ne4 hg2.out.1 hb7.out.1))) hg2.out.2)
        have hb7 : Hid (y53.heap[b7]? = some (.cells #[.slice (some ⟨g2, 0, none⟩) n n] 44 (0, 0)) ∧ U0.heap.size ≤ b7) := hid ⟨by rw [hy]; exact one_set hb7.out.1 _, hb7.out.2⟩
        clear hy hbk
        refine hK.out _ _ (fun _ => (HSt.out _ hB)) (fun _ => ?_)
        clear hK K'
        (try simp only [Act.put, jq1, jq2, jq3])
        clear sc sf
        refine G_done (by kernel_rfl) ?_ _
        go_wp2_with fail
        go_meet
        exact ⟨b6, b7, g1, g2, rfl, rfl, hid ⟨hB, hb6.out.1, hb7.out.1, hg1.out.1, hg2.out.1⟩⟩
      ·refine ⟨_, rfl, fun K' hK => ?_⟩
       go_simp
       obtain ⟨y54, hy⟩ : ∃ q, q = y44.alloc (.cells #[.slice none 0 0] 44) := ⟨_, rfl⟩
       have hb : Below y44.heap.size y44 y54 := by rw [hy]; exact box_below _ _
       obtain ⟨b6, hbx⟩ : ∃ q, q = y44.heap.size := ⟨_, rfl⟩
       have hb6 : Hid (y54.heap[b6]? = some (.cells #[.slice none 0 0] 44 (0, 0)) ∧ U0.heap.size ≤ b6) := by rw [hy, hbx]; exact hid ⟨Go.Deep.blk_alloc_new _ _, hB.size⟩
       rw [← hy]
       rw [← hbx]
       have hne : Hid (b6 ≠ b7) := hid (by have := (jq4.1 hb7.out.1).1; omega)
       have hb7 := hid (And.intro ((hb.block _ (jq4.1 hb7.out.1).1).trans hb7.out.1) hb7.out.2)
       replace hB := hB.trans (hb.mono hB.size)
       clear hy hb hbx
       refine hK.out _ _ (fun _ => (HSt.out _ hB)) (fun _ => ?_)
       clear hK K'
       (try simp only [Act.put, jq1, jq2, jq3])
       refine G_step (i := 2) (o := _) (by kernel_rfl) rfl (fun K' hK => ?_)
       go_simp
       refine (CA.out _ hB).mono ?_
       rintro e y55 ⟨g1, rfl, hge, hr, hb⟩
       dsimp only
       have hb7 := hid (And.intro ((hb.block _ (jq4.1 hb7.out.1).1).trans hb7.out.1) hb7.out.2)
       have hb6 := hid (And.intro ((hb.block _ (jq4.1 hb6.out.1).1).trans hb6.out.1) hb6.out.2)
       have hg1 : Hid (y55.rowIs g1 4 n (fun s => .bool (trv E t s)) ∧ U0.heap.size ≤ g1) := hid ⟨hr, Nat.le_trans hB.size hge⟩
       replace hB := hB.trans (hb.mono hB.size)
       clear hb hr hge
       refine hK.out _ _ (fun _ => (HSt.out _ hB)) (fun _ => ?_)
       clear hK K'
       (try simp only [Act.put, jq1, jq2, jq3])
       refine G_step (i := 8) (o := _) (by kernel_rfl) rfl (fun K' hK => ?_)
       go_simp
       refine (CB.out _ hB).mono ?_
       rintro e y56 ⟨g2, rfl, hge, hr, hb⟩
       dsimp only
       have hb7 := hid (And.intro ((hb.block _ (jq4.1 hb7.out.1).1).trans hb7.out.1) hb7.out.2)
       have hb6 := hid (And.intro ((hb.block _ (jq4.1 hb6.out.1).1).trans hb6.out.1) hb6.out.2)
       have hg1 := hid (And.intro (rowIs_below hg1.out.1 hb) hg1.out.2)
       have hg2 : Hid (y56.rowIs g2 4 n (fun s => .bool (trv E t1 s)) ∧ U0.heap.size ≤ g2) := hid ⟨hr, Nat.le_trans hB.size hge⟩
       replace hB := hB.trans (hb.mono hB.size)
       clear hb hr hge
       refine hK.out _ _ (fun _ => (HSt.out _ hB)) (fun _ => ?_)
       clear hK K'
       (try simp only [Act.put, jq1, jq2, jq3])
       have sc : y56.cell? ⟨b6, 0, none⟩ = some (.slice none 0 0) := cell_of_cells hb6.out.1 rfl
       have sf : y56.frozen? ⟨b6, 0, none⟩ = false := by have e := hb6.out.1; simp [World.frozen?, e]
       refine G_step (i := 11) (o := _) (by kernel_rfl) rfl (fun K' hK => ?_)
       go_simp
       obtain ⟨y57, hy⟩ : ∃ q, q = y56.setCell ⟨b6, 0, none⟩ (.slice (some ⟨g1, 0, none⟩) n n) := ⟨_, rfl⟩
       rw [← hy]
       have hbk : ∀ k, k ≠ b6 → y57.heap[k]? = y56.heap[k]? := fun k hk => by rw [hy]; exact Go.Deep.blk_setCell_other _ _ _ _ hk
       replace hB : Below U0.heap.size U0 y57 := by rw [hy]; exact hB.setCell hb6.out.2 _
       have hb7 := hid (And.intro ((hbk b7 (Ne.symm hne.out)).trans hb7.out.1) hb7.out.2)
       have hg1 := hid (And.intro (hg1.out.1.of_block (hbk g1 (row_ne4 hg1.out.1 hb6.out.1))) hg1.out.2)
       have hg2 := hid (And.intro (hg2.out.1.of_block (hbk g2 (row_ne4 hg2.out.1 hb6.out.1))) hg2.out.2)
       have hb6 : Hid (y57.heap[b6]? = some (.cells #[.slice (some ⟨g1, 0, none⟩) n n] 44 (0, 0)) ∧ U0.heap.size ≤ b6) := hid ⟨by rw [hy]; exact one_set hb6.out.1 _, hb6.out.2⟩
       clear hy hbk
       refine hK.out _ _ (fun _ => (HSt.out _ hB)) (fun _ => ?_)
       clear hK K'
       (try simp only [Act.put, jq1, jq2, jq3])
       clear sc sf
       have sc : y57.cell? ⟨b7, 0, none⟩ = some (.slice none 0 0) := cell_of_cells hb7.out.1 rfl
       have sf : y57.frozen? ⟨b7, 0, none⟩ = false := by have e := hb7.out.1; simp [World.frozen?, e]
       refine G_step (i := 12) (o := _) (by kernel_rfl) rfl (fun K' hK => ?_)
       go_simp
       obtain ⟨y58, hy⟩ : ∃ q, q = y57.setCell ⟨b7, 0, none⟩ (.slice (some ⟨g2, 0, none⟩) n n) := ⟨_, rfl⟩
       rw [← hy]
       have hbk : ∀ k, k ≠ b7 → y58.heap[k]? = y57.heap[k]? := fun k hk => by rw [hy]; exact Go.Deep.blk_setCell_other _ _ _ _ hk
       replace hB : Below U0.heap.size U0 y58 := by rw [hy]; exact hB.setCell hb7.out.2 _
       have hb6 := hid (And.intro ((hbk b6 hne.out).trans hb6.out.1) hb6.out.2)
       have hg1 := hid (And.intro (hg1.out.1.of_block (hbk g1 (row_ne4 hg1.out.1 hb7.out.1))) hg1.out.2)
       have hg2 := hid (And.intro (hg2.out.1.of_block (hbk g2 (row_ne4 hg2.out.1 hb7.out.1))) hg2.out.2)
       have hb7 : Hid (y58.heap[b7]? = some (.cells #[.slice (some ⟨g2, 0, none⟩) n n] 44 (0, 0)) ∧ U0.heap.size ≤ b7) := hid ⟨by rw [hy]; exact one_set hb7.out.1 _, hb7.out.2⟩
       clear hy hbk
       refine hK.out _ _ (fun _ => (HSt.out _ hB)) (fun _ => ?_)
       clear hK K'
       (try simp only [Act.put, jq1, jq2, jq3])
       clear sc sf
       refine G_done (by kernel_rfl) ?_ _
       go_wp2_with fail
       go_meet
       exact ⟨b6, b7, g1, g2, rfl, rfl, hid ⟨hB, hb6.out.1, hb7.out.1, hg1.out.1, hg2.out.1⟩⟩
    obtain ⟨b6, b7, g1, g2, rfl, rfl, HCx⟩ := hcut
    have HF2 := hid (HF0.out.below HCx.out.1)
    have hbx2 := HC1.out wc HF2.out.bel
    have hnN : n = 2 ^ N := by rw [HN.out, HNN.out]
    have C51 := hid (each51_60 wc (some ⟨eb, eo, none⟩) N ec (fun s => frF E t s) (.pointer (some ⟨b5, 0, none⟩)) (.pointer (some ⟨b6, 0, none⟩)) (.pointer (some ⟨b7, 0, none⟩)) hN10 (fun p z hp hz => by
     have h := fair60 (kd := t.kind) (b5 := b5) (B1 := trv E t) (B2 := trv E t1) (below_cell hz jq0 (tri_cells (HX0.out.below HCx.out.1)).1.1) (below_cell hz jq0 (cell_of_cells HCx.out.2.1 rfl)) (below_cell hz jq0 (cell_of_cells HCx.out.2.2.1 rfl)) (rowIs_below HCx.out.2.2.2.1 hz) (rowIs_below HCx.out.2.2.2.2 hz) p (by rw [hnN]; exact hp) HTX.out.2.1
     rw [HTX.out.2.2] at h
     exact h))
    rw [← hnN] at C51
    have hmf : ∀ (fn : Fn) (first cap : Array Value) (w : World), (Instr.makeFunc fn first cap).run Tryz.prog w = .ok (.func fn first cap) w := fun _ _ _ _ => rfl
    clear HCx HSt CA CB hnN hbx hbl y1 y2 y3
    go_wp2_with fail
    refine C51.out.mono ?_
    rintro e z2 ⟨g, rfl, q1, q2, q3⟩
    have C17 := hid (where17 (c := n) (rowIs_rowB q2) hn1)
    have HF3 := hid (HF2.out.below q3)
    clear q1 q2 q3 C51
    go_wp2_with fail
    refine C17.out.mono ?_
    rintro e z3 ⟨v, rfl, HV⟩
    obtain ⟨a3, c3, rfl, _⟩ := owns_row HV.out.1
    have HF4 := hid (HF3.out.below HV.out.2)
    obtain ⟨V, o1, o2⟩ := HF4.out.rows
    have HX3 := hid (owns_baseT HV.out.1 HF3.out.bel.size)
    have HO := hid o1
    have HO2 := hid o2
    have hus := HF4.out.bel.size
    have hj10 : (frT (E.take k)).length ≤ 10 := Nat.le_trans (frT_len _) (by rw [List.length_take]; omega)
    obtain ⟨m, hm⟩ : ∃ m, m = (trs (frF E t) n).length := ⟨_, rfl⟩
    obtain ⟨j, hj⟩ : ∃ j, j = (frT (E.take k)).length := ⟨_, rfl⟩
    rw [← hj] at HO HO2 hj10
    have HM := hid hm
    have HJL := hid hj
    rw [← hm] at HX3
    try rw [← hm]
    try rw [← hj]
    clear o1 o2 hm hj C17 HV HF2 HF3 hbx2 hmf
    go_wp2_with (at_builtin; refine wpList_append_own_at _ rfl _ _ 30 rfl u.heap.size 29 i0 (.slice none 0 0) 1 24 Tryz.underlying30 HI.out.1 HI.out.2.1 HI.out.2.2.1 HI.out.2.2.2 rfl (by decide) _ _ _ rfl (HO.out.alloc _) ⟨z3.heap.size, 0, none⟩ 1 1 [.slice a3 m c3] rfl rfl (cell_one_new _ _ _) (by intro q hq; simp at hq; subst hq; rfl) (by unfold maxLen; omega) (by omega) (by simp; omega) ?_; intro v' w4 hown hgrow hnil hat; have HR := hid (And.intro hown hgrow); clear hown hgrow hnil hat)
    go_roundw
    case rel =>
     have hx : z3.ownsRow u.heap.size 3 1 (.slice a3 m c3) (trs (frF E t) n).length (vals (trs (frF E t) n)) := by rw [← HM.out]; exact HX3.out
     have hs := lf_snoc (frT (E.take k)) t
     have h := Ff.add (T2 := fun i => trs (frF E (lf (frT (E.take (k + 1))) i)) n) HF4.out.bel HO.out HO2.out hx HR.out.1 HR.out.2 (fun i hi => by
      show trs (frF E (lf (frT (E.take (k + 1))) i)) n = _
      rw [HTX.out.1, hs.1 i (by rw [← HJL.out]; exact hi)]) (by
      show trs (frF E (lf (frT (E.take (k + 1))) j)) n = _
      rw [HTX.out.1, HJL.out, hs.2])
     have e : (frT (E.take (k + 1))).length = j + 1 := by rw [HTX.out.1, HJL.out]; simp
     exact ⟨k + 1, by omega, by go_num, hid (by rw [e]; exact h)⟩
    case measure => simp [intOf]; omega
   ·rw [if_neg hfr] at htk
    have h8 : (lf E k).kind ≠ 8 := fun q => hfr (by unfold isFr; rw [q]; rfl)
    have h9 : (lf E k).kind ≠ 9 := fun q => hfr (by unfold isFr; rw [q]; rfl)
    have hb8 : ((lf E k).kind != 8 && (lf E k).kind != 9) = true := by rw [bne_iff_ne.2 h8, bne_iff_ne.2 h9]; rfl
    have HJ2 := hid (HJ.out.below (box_below wr (.cells #[.int .i64 (lf E k).kind, .int .i64 (lf E k).num, .slice ai (lf E k).cnt ci] 24)))
    have HTX := hid htk
    generalize lf E k = t at y1 y2 y3 h8 h9 hb8 HJ2
    clear p1 p2 p3 p4 p5 hft hmem hwf hin hfr htk
    go_wp2
    go_roundw
    case rel => exact ⟨k + 1, by omega, by go_num, by rw [HTX.out]; exact HJ2⟩
    case measure => simp [intOf]; omega
  ·obtain rfl : k = N := by omega
   go_wp2
   go_ret
   have e : E.take k = E := by rw [HNN.out, List.take_length]
   have h := HJ.out
   rw [e] at h
   exact ⟨a0, c0, by rw [e]; rfl, hid ⟨HBu.out.trans (h.bel.mono HBu.out.size), h.ly.mono HBu.out.size⟩⟩
end Go.Proofs.YtmdpbaobihdgkaaGreatDoor
