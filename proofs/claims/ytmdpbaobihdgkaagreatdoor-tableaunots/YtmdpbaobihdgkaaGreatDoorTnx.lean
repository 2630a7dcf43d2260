
import Derived.Test.YtmdpbaobihdgkaaGreatDoorTlt
import Derived.Test.YtmdpbaobihdgkaaGreatDoorAGth0J
/- tableau: next. -/
namespace Go.Proofs.YtmdpbaobihdgkaaGreatDoor
open Go.RowKit
theorem or_powI {x k : Nat} (hx : x < 2 ^ 20) (hk : k < 20) : bits BinOp.or IntKind.i64 (x : Nat) ((2 ^ k : Nat) : Int) = ((x ||| 2 ^ k : Nat) : Int) :=
 (bits_nat .i64 63 (by decide) (fun n a b => by rw [IntKind.wrap_i64]; omega) x (2 ^ k) (Nat.lt_trans hx (by decide)) (Nat.lt_of_lt_of_le (Nat.pow_lt_pow_right (by decide) hk) (by decide))).2
theorem and_I {x y : Nat} (hx : x < 2 ^ 20) (hy : y < 2 ^ 20) : bits BinOp.and IntKind.i64 (x : Nat) (y : Nat) = ((x &&& y : Nat) : Int) :=
 (bits_nat .i64 63 (by decide) (fun n a b => by rw [IntKind.wrap_i64]; omega) x y (Nat.lt_trans hx (by decide)) (Nat.lt_trans hy (by decide))).1
theorem wrap_p {k : Nat} (hk : k < 20) : wrap64 ((2 : Int) ^ k) = ((2 ^ k : Nat) : Int) := by
 have h : (2 : Int) ^ k = ((2 ^ k : Nat) : Int) := by simp
 have hl : 2 ^ k < 2 ^ 20 := Nat.pow_lt_pow_right (by decide) hk
 rw [h]
 generalize 2 ^ k = y at *
 unfold wrap64
 omega
theorem or_wrap {x k : Nat} (hx : x < 2 ^ 20) (hk : k < 20) : bits BinOp.or IntKind.i64 (x : Nat) (wrap64 ((2 : Int) ^ k)) = ((x ||| 2 ^ k : Nat) : Int) := by
 rw [wrap_p hk, or_powI hx hk]
theorem owns_cell {w : World} {base n c i : Nat} {a : Option Addr} {l : List Int} (h : w.ownsRow base 3 1 (.slice a n c) l.length (vals l)) (hi : i < l.length) : ∃ b, a = some ⟨b, 0, none⟩ ∧ w.cell? ⟨b, i, none⟩ = some (.int .i64 (l.getD i 0)) := by
 rcases h.2 with ⟨_, h0⟩ | ⟨g, cap, cur, e, hb, hg, _⟩
 ·omega
 ·injection e with e1 e2 e3
  subst e1
  refine ⟨g, rfl, ?_⟩
  have := h.cells (g := g) rfl i (.int .i64 (l.getD i 0)) (by simp [vals, hi])
  have hadd : (⟨g, 0, none⟩ : Addr).add i = ⟨g, 0 + i, none⟩ := by unfold Addr.add; split <;> simp_all
  rw [hadd, Nat.zero_add] at this
  exact this
theorem tk_step {L : List Int} {j s : Nat} (hj : j < L.length) (hs : L.getD j 0 = (s : Int)) (f : Nat → Nat) (p q : Nat) :
  (if q = s then (if (s : Int) ∈ L.take j then f s ||| p else f s) ||| p else if (q : Int) ∈ L.take j then f q ||| p else f q) = if (q : Int) ∈ L.take (j + 1) then f q ||| p else f q := by
 have hm : (q : Int) ∈ L.take (j + 1) ↔ ((q : Int) ∈ L.take j ∨ q = s) := by
  rw [List.take_add_one, List.mem_append]
  have : L[j]? = some (s : Int) := by
   rw [List.getElem?_eq_getElem hj]
   rw [List.getD_eq_getElem?_getD, List.getElem?_eq_getElem hj] at hs
   exact congrArg some hs
  rw [this]
  simp only [Option.toList_some, List.mem_singleton]
  constructor
  ·rintro (h | h)
   ·exact Or.inl h
   ·exact Or.inr (by omega)
  ·rintro (h | h)
   ·exact Or.inl h
   ·exact Or.inr (by omega)
 by_cases e : q = s
 ·subst e
  rw [if_pos rfl, if_pos (hm.2 (Or.inr rfl))]
  by_cases h : (q : Int) ∈ L.take j
  ·rw [if_pos h, Nat.or_assoc, Nat.or_self]
  ·rw [if_neg h]
 ·rw [if_neg e]
  by_cases h : (q : Int) ∈ L.take j
  ·rw [if_pos h, if_pos (hm.2 (Or.inl h))]
  ·rw [if_neg h, if_neg (fun x => (hm.1 x).elim h e)]
structure Na (u wr : World) (ab n : Nat) (M : Nat → Nat) : Prop where
 bel : Below u.heap.size u wr
 r : wr.rowIs ab 3 n (fun s => .int .i64 (M s : Nat))
 a : u.heap.size ≤ ab
theorem Na.below {u wr w1 : World} {ab n : Nat} {M : Nat → Nat} (h : Na u wr ab n M) (hb : Below wr.heap.size wr w1) : Na u w1 ab n M := ⟨h.bel.trans (hb.mono h.bel.size), rowIs_below h.r hb, h.a⟩
theorem Na.congr {u wr : World} {ab n : Nat} {M P : Nat → Nat} (h : Na u wr ab n M) (e : ∀ s, s < n → M s = P s) : Na u wr ab n P := ⟨h.bel, h.r.congr (fun i hi => by rw [e i hi]), h.a⟩
structure Nb (u wi : World) (ab n base : Nat) (M : Nat → Nat) (v : Value) (L : List Int) : Prop where
 na : Na u wi ab n M
 o : wi.ownsRow base 3 1 v L.length (vals L)
 lt : ab < base
theorem Nb.set {u wi : World} {ab n base : Nat} {M : Nat → Nat} {v : Value} {L : List Int} (h : Nb u wi ab n base M v L) (s x : Nat) : Nb u (wi.drew.setCell ⟨ab, s, none⟩ (.int .i64 (x : Nat))) ab n base (fun q => if q = s then x else M q) v L := by
 refine ⟨⟨(below_drewN h.na.bel 1).setCell h.na.a _, ?_, h.na.a⟩, ?_, h.lt⟩
 ·have h1 : wi.drew.rowIs ab 3 n (fun s => .int .i64 (M s : Nat)) := h.na.r
  exact (h1.set s _).congr (fun i _ => by by_cases e : i = s <;> simp [e])
 ·have h1 : wi.drew.ownsRow base 3 1 v L.length (vals L) := h.o
  exact ownsRow_setCell_below h1 h.lt _
theorem ahd_step {E : List Fml} {k : Nat} (h3 : (lf E k).kind ≠ 3) (s : Nat) : ahd E s (k + 1) = if trv E (asd (lf E k)) s = true then ahd E s k ||| 2 ^ k else ahd E s k := by
 have hb : ((lf E k).kind != 3) = true := bne_iff_ne.2 h3
 show orN _ (k + 1) = _
 rw [orN, hb, Bool.true_and]
 rfl
theorem ahd_skip {E : List Fml} {k : Nat} (h3 : (lf E k).kind = 3) (s : Nat) : ahd E s (k + 1) = ahd E s k := by
 show orN _ (k + 1) = _
 rw [orN, h3]
 simp; rfl
theorem tld_step {E : List Fml} {k : Nat} (h3 : (lf E k).kind ≠ 3) : tld E (k + 1) = tld E k ||| 2 ^ k := by
 have hb : ((lf E k).kind != 3) = true := bne_iff_ne.2 h3
 show orN _ (k + 1) = _
 rw [orN, hb, if_pos rfl]
 rfl
theorem tld_skip {E : List Fml} {k : Nat} (h3 : (lf E k).kind = 3) : tld E (k + 1) = tld E k := by
 show orN _ (k + 1) = _
 rw [orN, h3]
 simp; rfl
structure Nc (z wr : World) (n k : Nat) (T : Nat → List Int) (V : Nat → Value) : Prop where
 bel : Below z.heap.size z wr
 top : wr.rowIs z.heap.size 29 n V
 own : ∀ s, s < k → wr.ownsRow (z.heap.size + 1) 3 1 (V s) (T s).length (vals (T s))
theorem Nc.start (z : World) (n : Nat) (T : Nat → List Int) : Nc z (z.alloc (.cells (madeCells #[.slice none 0 0] n) 29)) n 0 T (fun _ => .slice none 0 0) :=
 ⟨(Below.refl _ _).alloc jq0 _, World.rowIs_made z _ n 29, fun s hs => absurd hs (Nat.not_lt_zero s)⟩
theorem owns_baseT {w : World} {b b' n : Nat} {v : Value} {l : List Value} (h : w.ownsRow b 3 1 v n l) (hb : b' ≤ b) : w.ownsRow b' 3 1 v n l := by
 refine ⟨h.1, ?_⟩
 rcases h.2 with h0 | ⟨g, cap, cur, e1, e2, e3, e4⟩
 ·exact Or.inl h0
 ·exact Or.inr ⟨g, cap, cur, e1, by omega, e3, e4⟩
theorem Nc.step {z wr w2 : World} {n k : Nat} {T : Nat → List Int} {V : Nat → Value} {v : Value} (h : Nc z wr n k T V) (hb : Below wr.heap.size wr w2) (hv : w2.ownsRow wr.heap.size 3 1 v (T k).length (vals (T k))) :
  Nc z (w2.setCell ⟨z.heap.size, k, none⟩ v) n (k + 1) T (fun i => if i = k then v else V i) := by
 have hlt := h.top.lt
 refine ⟨(h.bel.trans (hb.mono h.bel.size)).setCell jq0 _, (rowIs_below h.top hb).set k v, fun s hs => ?_⟩
 by_cases e : s = k
 ·subst e
  simp only [if_true]
  exact ownsRow_setCell_below (owns_baseT hv (by omega)) (by show z.heap.size < _; omega) _
 ·simp only [if_neg e]
  exact ownsRow_setCell_below (owns3_below (h.own s (by omega)) hb) (by show z.heap.size < _; omega) _
theorem Nc.ly {z wr : World} {n : Nat} {T : Nat → List Int} {V : Nat → Value} (h : Nc z wr n n T V) : Lie z.heap.size noB (fun y => Gr y (some ⟨z.heap.size, 0, none⟩) n (fun j => (T j).length) (fun j i => (T j).getD i 0)) wr := by
 refine ⟨fun g => g = z.heap.size ∨ ∃ j, j < n ∧ (V j).ownBlock = some g, fun g hg => ?_, fun y hy => ?_⟩
 ·rcases hg with rfl | ⟨j, hj, hg⟩
  ·exact ⟨Nat.le_refl _, h.top.lt, id⟩
  ·have := (h.own j hj).lt g hg
   exact ⟨by omega, this.2, id⟩
 ·have ht := h.top.of_block (hy _ (Or.inl rfl))
  refine ⟨z.heap.size, 0, fun _ => rfl, fun r hr => ?_⟩
  obtain ⟨a, c, hv, hrow⟩ := owns_row (owns_of_blk (h.own r hr) (fun b hb => hy b (Or.inr ⟨r, hr, hb⟩)))
  exact ⟨a, c, by rw [Nat.zero_add, ht.cell hr, hv], hrow⟩
theorem bh_step {E : List Fml} {N j x : Nat} (hx : ahd E j N = x) (c : Nat) : (if c = x then trs (fun q => decide (ahd E q N = x)) j ++ [(j : Int)] else trs (fun q => decide (ahd E q N = c)) j) = trs (fun q => decide (ahd E q N = c)) (j + 1) := by
 by_cases e : c = x
 ·subst e
  rw [if_pos rfl, trs, if_pos (decide_eq_true hx)]
 ·rw [if_neg e, trs, if_neg (by simp; omega)]
set_option maxHeartbeats 4000000 in
theorem next19 {w0 w : World} {E : List Fml} {ea : Option Addr} {ec : Nat} (hC : Ch w0 w E ea ec) (hw : ∀ x ∈ E, Wf x) (hI : ∀ x ∈ E, InE E x) :
  Calls Tryz.prog 19 #[.agg #[.slice ea E.length ec]] w fun e w' => ∃ b, e = .returned (.slice (some ⟨b, 0, none⟩) (2 ^ E.length) (2 ^ E.length)) ∧
   Hid (Below w.heap.size w w' ∧ Lie w.heap.size noB (fun y => Gr y (some ⟨b, 0, none⟩) (2 ^ E.length) (fun s => (nxt E s).length) (fun s i => (nxt E s).getD i 0)) w') := by
 obtain ⟨u, hu⟩ : ∃ y, y = w.alloc (.cells #[.slice ea E.length ec] 53) := ⟨_, rfl⟩
 have hBu : Below w.heap.size w u := by rw [hu]; exact box_below _ _
 have hcu : u.cell? ⟨w.heap.size, 0, none⟩ = some (.slice ea E.length ec) := by rw [hu]; exact cell_of_alloc rfl
 obtain ⟨n, hnn⟩ : ∃ n, n = 2 ^ E.length := ⟨_, rfl⟩
 have hE := hC.le
 have hn1 : n ≤ 1024 := by rw [hnn]; exact Nat.le_trans (Nat.pow_le_pow_right (by decide) hE) (by decide)
 have HCu := hid (hC.below hBu)
 have HC1 : Hid (∀ y, Below u.heap.size u y → y.cell? ⟨w.heap.size, 0, none⟩ = some (.slice ea E.length ec)) := hid (fun y hy => below_cell hy jq0 hcu)
 have C58 : Hid (∀ y, Below u.heap.size u y → Calls Tryz.prog 58 #[.agg #[.slice ea E.length ec]] y fun e w' => e = .returned (.int .i64 (n : Nat)) ∧ Below y.heap.size y w') := hid (fun y _ => by rw [hnn]; exact count58 E.length ea ec y hE)
 have HTr : Hid (∀ t, Wf t → InE E t → ∀ (a : Option Addr) (cap : Nat) (z : World), Below u.heap.size u z → Kds w0 t a → Calls Tryz.prog 18 #[.agg #[.slice ea E.length ec], .agg #[.int .i64 t.kind, .int .i64 t.num, .slice a t.cnt cap]] z fun e w' => NewB z n (trv E t) e w') := hid (fun t h1 h2 a cap z hz hk => by rw [hnn]; exact truths_any t h1 h2 a cap z (HCu.out.below hz) hk)
 have hmk := run_make_row' (P := Tryz.prog) 29 3 (.int .i64 0) 8 Tryz.underlying29 Tryz.info3 rfl .i64 .i64 n (by omega) (by omega)
 have HU := hid hu
 have HBu := hid hBu
 have HN := hid hnn
 have HW := hid (And.intro hw hI)
 have HL := hid hE
 obtain ⟨N, hN⟩ : ∃ N, N = E.length := ⟨_, rfl⟩
 rw [← hnn]
 rw [← hN] at HC1 C58 HU HL HTr ⊢
 have HNN := hid hN
 have hcu1 := HC1.out u (Below.refl _ _)
 obtain ⟨eb, eo, hea, hel⟩ := HCu.out.ro
 have HEL := hid hel
 have HEA : Hid (0 < N → ea = some ⟨eb, eo, none⟩) := hid (fun q => hea (by rw [← HNN.out]; exact q))
 clear hC hu hBu hcu hnn hE hw hI hN hel hea
 go_enter Tryz.func19, Tryz.ntmps19
 go_wp2_with fail
 rw [← HU.out]
 refine (C58.out u (Below.refl _ _)).mono ?_
 rintro e z ⟨rfl, hbz⟩
 have HS : Hid (Na u (z.alloc (.cells (madeCells #[.int .i64 0] n) 3)) z.heap.size n (fun s => ahd E s 0)) := hid ⟨hbz.alloc hbz.size _, World.rowIs_made z (.int .i64 0) n 3, hbz.size⟩
 obtain ⟨ab, hab⟩ : ∃ q, q = z.heap.size := ⟨_, rfl⟩
 obtain ⟨z1, hz1⟩ : ∃ q, q = z.alloc (.cells (madeCells #[.int .i64 0] n) 3) := ⟨_, rfl⟩
 rw [← hab, ← hz1] at HS
 have HZ1 := hid (And.intro hab hz1)
 have hbx := HC1.out z1 HS.out.bel
 have hbx0 := HC1.out z hbz
 have hzl : w.heap.size < z.heap.size := World.block_lt_of_cell? _ _ hbx0
 clear hbz hab hz1
 go_wp2
 clear hmk
 rw [← HZ1.out.2, ← HZ1.out.1]
 clear hbx0 hzl HZ1
 go_loopw [21, 4] (fun i told wr => ∃ k : Nat, k ≤ N ∧ i = .int .i64 k ∧ told = .int .i64 (tld E k : Nat) ∧ Hid (Na u wr ab n (fun s => ahd E s k))) (fun i _ _ => N - (intOf i).toNat)
 case atStart => exact ⟨0, Nat.zero_le _, rfl, rfl, HS⟩
 case round =>
  obtain ⟨k, hk, rfl, rfl, HJ⟩ := hrel
  clear HS
  have hN10 := HL.out
  by_cases hlt : k < N
  ·obtain rfl := HEA.out (by omega)
   obtain ⟨ai, ci, p1, p2, p3, p4, p5⟩ := HEL.out k (by rw [← HNN.out]; exact hlt)
   have y1 := below_cell HJ.out.bel jq0 p1
   have y2 := below_cell HJ.out.bel jq0 p2
   have y3 := below_cell HJ.out.bel jq0 p3
   have hbx := HC1.out wr HJ.out.bel
   have hbl : w.heap.size < wr.heap.size := World.block_lt_of_cell? _ _ hbx
   have hkz : (k : Int) < N := by omega
   have hmem : lf E k ∈ E := mem_lf (by rw [← HNN.out]; exact hlt)
   have hwf := HW.out.1 _ hmem
   have hin := HW.out.2 _ hmem
   have hft := fit_cases hwf.out.1
   by_cases h3 : (lf E k).kind = 3
   ·have HL1 : Hid ((∀ s, ahd E s (k + 1) = ahd E s k) ∧ tld E (k + 1) = tld E k) := hid ⟨ahd_skip h3, tld_skip h3⟩
    have HJ2 := hid (HJ.out.below ((box_below wr (.cells #[.int .i64 (lf E k).kind, .int .i64 (lf E k).num, .slice ai (lf E k).cnt ci] 24)).alloc (by simp) (.cells #[.int .i64 (lf E k).kind, .int .i64 (lf E k).num, .slice ai (lf E k).cnt ci] 24)))
    rw [h3] at y1 HJ2
    obtain ⟨tn, htn⟩ : ∃ q, q = (lf E k).num := ⟨_, rfl⟩
    obtain ⟨tc, htc⟩ : ∃ q, q = (lf E k).cnt := ⟨_, rfl⟩
    rw [← htn] at y2 HJ2
    rw [← htc] at y3 HJ2
    clear p1 p2 p3 p4 p5 hft hmem hwf hin htn htc h3
    go_wp2
    go_roundw
    case rel => exact ⟨k + 1, by omega, by go_num, by rw [HL1.out.2], hid (HJ2.out.congr (fun s _ => (HL1.out.1 s).symm))⟩
    case measure => simp [intOf]; omega
   ·have HL1 : Hid ((∀ s, ahd E s (k + 1) = if trv E (asd (lf E k)) s = true then ahd E s k ||| 2 ^ k else ahd E s k) ∧ tld E (k + 1) = tld E k ||| 2 ^ k ∧ tld E k < 2 ^ 20 ∧ ∀ s, ahd E s k < 2 ^ 20) :=
     hid ⟨ahd_step h3, tld_step h3, Nat.lt_of_lt_of_le (orN_lt _ _) (Nat.pow_le_pow_right (by decide) (by omega)), fun s => Nat.lt_of_lt_of_le (orN_lt _ _) (Nat.pow_le_pow_right (by decide) (by omega))⟩
    have h3b : ((lf E k).kind == 3) = false := beq_eq_false_iff_ne.2 h3
    have ET := hid (or_wrap HL1.out.2.2.1 (show k < 20 by omega))
    by_cases h7 : (lf E k).kind = 7
    ·have hc1 : (lf E k).cnt = 1 := by omega
     obtain ⟨kb, ko, hka, hkk⟩ := p5.out
     obtain ⟨a2, c2, r1, r2, r3, r4, r5⟩ := hkk 0 (by omega)
     obtain rfl := hka (by omega)
     have hb0 := HCu.out.bel.trans (HJ.out.bel.mono HCu.out.bel.size)
     have x1 := below_cell hb0 jq0 r1
     have x2 := below_cell hb0 jq0 r2
     have x3 := below_cell hb0 jq0 r3
     simp only [Nat.zero_mul, Nat.add_zero] at x1 x2 x3
     have hkl : kb < wr.heap.size := World.block_lt_of_cell? _ _ x1
     obtain ⟨t2, ht2⟩ : ∃ q, q = (lf E k).kid 0 := ⟨_, rfl⟩
     have HAS : Hid (asd (lf E k) = t2) := hid (by rw [ht2, asd, if_pos h7])
     have hw2 := hwf.out.2 0 (by omega)
     have hi2 := hin.kid (i := 0) (by omega)
     rw [← ht2] at x1 x2 x3 hw2 hi2 r5
     have CT : Hid (∀ z, Below u.heap.size u z → _) := hid (fun z hz => HTr.out t2 hw2 hi2 a2 c2 z hz r5)
     rw [h7] at y1
     rw [hc1] at y3
     obtain ⟨W1, hW1⟩ : ∃ q, q = (wr.alloc (.cells #[.int .i64 7, .int .i64 (lf E k).num, .slice (some ⟨kb, ko, none⟩) 1 ci] 24)).alloc (.cells #[.int .i64 t2.kind, .int .i64 t2.num, .slice a2 t2.cnt c2] 24) := ⟨_, rfl⟩
     have HN1 := hid (HJ.out.below (show Below wr.heap.size wr W1 by rw [hW1]; exact (box_below wr _).alloc (by simp) _))
     have HWW := hid hW1
     clear p1 p2 p3 p4 p5 hft hmem hwf hin h3 h3b ht2 hw2 hi2 r1 r2 r3 r4 r5 hb0 hkk hW1
     go_wp2_with fail
     rw [ET.out, ← HWW.out]
     refine (CT.out W1 HN1.out.bel).mono ?_
     rintro e z2 ⟨g, rfl, g1, g2, g3⟩
     have HN2 := hid (HN1.out.below g3)
     have C17 := hid (where17 (c := n) (rowIs_rowB g2) hn1)
     clear g1 g2 g3 CT HN1 HWW
     go_wp2_with fail
     refine C17.out.mono ?_
     rintro e z3 ⟨v, rfl, HV⟩
     obtain ⟨L, hL⟩ : ∃ L, L = trs (trv E t2) n := ⟨_, rfl⟩
     have HLm : Hid (∀ s : Nat, (s : Int) ∈ L ↔ s < n ∧ trv E t2 s = true) := hid (fun s => by
      rw [hL, trs_mem]
      constructor
      ·rintro ⟨q, h1, h2, h3⟩
       obtain rfl : s = q := by omega
       exact ⟨h1, h3⟩
      ·rintro ⟨h1, h2⟩
       exact ⟨s, h1, rfl, h2⟩)
     have HLe : Hid (∀ i, i < L.length → ∃ s : Nat, L.getD i 0 = (s : Int) ∧ s < n) := hid (fun i hi => by
      have hm : L.getD i 0 ∈ L := by rw [List.getD_eq_getElem?_getD, List.getElem?_eq_getElem hi]; exact List.getElem_mem _
      rw [hL] at hm ⊢
      obtain ⟨s, h1, h2, _⟩ := (trs_mem _ _ _).1 hm
      exact ⟨s, h2, h1⟩)
     have hLn : L.length ≤ n := by rw [hL]; exact trs_len _ _
     rw [← hL] at HV
     obtain ⟨a3, c3, rfl, _⟩ := owns_row HV.out.1
     have HI0 : Hid (Nb u z3 ab n z2.heap.size (fun s => ahd E s k) (.slice a3 L.length c3) L) := hid ⟨HN2.out.below HV.out.2, HV.out.1, HN2.out.r.lt⟩
     obtain ⟨m, hm⟩ : ∃ m, m = L.length := ⟨_, rfl⟩
     rw [← hm] at hLn HLe HI0 ⊢
     have HM := hid hm
     obtain ⟨bz, hbz⟩ : ∃ q, q = z2.heap.size := ⟨_, rfl⟩
     rw [← hbz] at HI0
     clear HV HN2 C17 hL hm hbz
     go_wp2
     go_loopw [46] (fun i wi => ∃ j : Nat, j ≤ m ∧ i = .int .i64 j ∧ Hid (Nb u wi ab n bz (fun s => if (s : Int) ∈ L.take j then ahd E s k ||| 2 ^ k else ahd E s k) (.slice a3 m c3) L)) (fun i _ => m - (intOf i).toNat)
     case atStart => exact ⟨0, Nat.zero_le _, rfl, hid ⟨HI0.out.na.congr (fun s _ => by simp), HI0.out.o, HI0.out.lt⟩⟩
     case round =>
      obtain ⟨j, hj, rfl, HI⟩ := hrel
      by_cases hlj : j < m
      ·have hjz : (j : Int) < m := by omega
       obtain ⟨b3, rfl, l1⟩ := owns_cell (i := j) HI.out.o (by rw [← HM.out]; exact hlj)
       obtain ⟨s, hs, hsn⟩ := HLe.out j hlj
       have m1 := HI.out.na.r.cell hsn
       have m2 := HI.out.na.r.frozen s
       have HR := hid (HI.out.set s ((if (s : Int) ∈ L.take j then ahd E s k ||| 2 ^ k else ahd E s k) ||| 2 ^ k))
       have HSt := hid (tk_step (by rw [← HM.out]; exact hlj) hs (fun q => ahd E q k) (2 ^ k))
       have hx20 : (if (s : Int) ∈ L.take j then ahd E s k ||| 2 ^ k else ahd E s k) < 2 ^ 20 := by
        split
        ·exact Nat.or_lt_two_pow (HL1.out.2.2.2 s) (Nat.pow_lt_pow_right (by decide) (by omega))
        ·exact HL1.out.2.2.2 s
       have E2 := hid (or_wrap hx20 (show k < 20 by omega))
       rw [hs] at l1
       have hsz : (s : Int) < n := by omega
       obtain ⟨x, hx⟩ : ∃ x, x = (if (s : Int) ∈ L.take j then ahd E s k ||| 2 ^ k else ahd E s k) := ⟨_, rfl⟩
       rw [← hx] at m1 HR E2
       simp only [← hx] at HSt
       clear hs hx hx20
       go_wp2
       go_region
       rw [E2.out]
       go_wp2
       go_roundw
       case rel => exact ⟨j + 1, by omega, by go_num, hid ⟨HR.out.na.congr (fun q _ => HSt.out q), HR.out.o, HR.out.lt⟩⟩
       case measure => simp [intOf]; omega
      ·obtain rfl : j = m := by omega
       go_wp2
       go_roundw
       case rel =>
        refine ⟨k + 1, by omega, by go_num, by rw [HL1.out.2.1], hid (HI.out.na.congr (fun s hs => ?_))⟩
        rw [HL1.out.1 s, HAS.out, HM.out, List.take_length]
        by_cases e : trv E t2 s = true
        ·rw [if_pos e, if_pos ((HLm.out s).2 ⟨hs, e⟩)]
        ·rw [if_neg e, if_neg (fun q => e ((HLm.out s).1 q).2)]
       case measure => simp [intOf]; omega
    ·have h7b : ((lf E k).kind == 7) = false := beq_eq_false_iff_ne.2 h7
     have HAS0 : asd (lf E k) = lf E k := by rw [asd, if_neg h7]
     have CT : Hid (∀ z, Below u.heap.size u z → _) := hid (fun z hz => HTr.out (lf E k) hwf hin ai ci z hz p5)
     obtain ⟨t2, ht2⟩ : ∃ q, q = lf E k := ⟨_, rfl⟩
     have HAS : Hid (asd (lf E k) = t2) := hid (HAS0.trans ht2.symm)
     rw [← ht2] at y1 y2 y3 CT h3b h7b
     clear HAS0
     obtain ⟨W1, hW1⟩ : ∃ q, q = (wr.alloc (.cells #[.int .i64 t2.kind, .int .i64 t2.num, .slice ai t2.cnt ci] 24)).alloc (.cells #[.int .i64 t2.kind, .int .i64 t2.num, .slice ai t2.cnt ci] 24) := ⟨_, rfl⟩
     have HN1 := hid (HJ.out.below (show Below wr.heap.size wr W1 by rw [hW1]; exact (box_below wr _).alloc (by simp) _))
     have HWW := hid hW1
     clear p1 p2 p3 p4 p5 hft hmem hwf hin h3 ht2 hW1
     go_wp2_with fail
     rw [ET.out, ← HWW.out]
     refine (CT.out W1 HN1.out.bel).mono ?_
     rintro e z2 ⟨g, rfl, g1, g2, g3⟩
     have HN2 := hid (HN1.out.below g3)
     have C17 := hid (where17 (c := n) (rowIs_rowB g2) hn1)
     clear g1 g2 g3 CT HN1 HWW
     go_wp2_with fail
     refine C17.out.mono ?_
     rintro e z3 ⟨v, rfl, HV⟩
     obtain ⟨L, hL⟩ : ∃ L, L = trs (trv E t2) n := ⟨_, rfl⟩
     have HLm : Hid (∀ s : Nat, (s : Int) ∈ L ↔ s < n ∧ trv E t2 s = true) := hid (fun s => by
      rw [hL, trs_mem]
      constructor
      ·rintro ⟨q, h1, h2, h3⟩
       obtain rfl : s = q := by omega
       exact ⟨h1, h3⟩
      ·rintro ⟨h1, h2⟩
       exact ⟨s, h1, rfl, h2⟩)
     have HLe : Hid (∀ i, i < L.length → ∃ s : Nat, L.getD i 0 = (s : Int) ∧ s < n) := hid (fun i hi => by
      have hm : L.getD i 0 ∈ L := by rw [List.getD_eq_getElem?_getD, List.getElem?_eq_getElem hi]; exact List.getElem_mem _
      rw [hL] at hm ⊢
      obtain ⟨s, h1, h2, _⟩ := (trs_mem _ _ _).1 hm
      exact ⟨s, h2, h1⟩)
     have hLn : L.length ≤ n := by rw [hL]; exact trs_len _ _
     rw [← hL] at HV
     obtain ⟨a3, c3, rfl, _⟩ := owns_row HV.out.1
     have HI0 : Hid (Nb u z3 ab n z2.heap.size (fun s => ahd E s k) (.slice a3 L.length c3) L) := hid ⟨HN2.out.below HV.out.2, HV.out.1, HN2.out.r.lt⟩
     obtain ⟨m, hm⟩ : ∃ m, m = L.length := ⟨_, rfl⟩
     rw [← hm] at hLn HLe HI0 ⊢
     have HM := hid hm
     obtain ⟨bz, hbz⟩ : ∃ q, q = z2.heap.size := ⟨_, rfl⟩
     rw [← hbz] at HI0
     clear HV HN2 C17 hL hm hbz
     go_wp2
     go_loopw [46] (fun i wi => ∃ j : Nat, j ≤ m ∧ i = .int .i64 j ∧ Hid (Nb u wi ab n bz (fun s => if (s : Int) ∈ L.take j then ahd E s k ||| 2 ^ k else ahd E s k) (.slice a3 m c3) L)) (fun i _ => m - (intOf i).toNat)
     case atStart => exact ⟨0, Nat.zero_le _, rfl, hid ⟨HI0.out.na.congr (fun s _ => by simp), HI0.out.o, HI0.out.lt⟩⟩
     case round =>
      obtain ⟨j, hj, rfl, HI⟩ := hrel
      by_cases hlj : j < m
      ·have hjz : (j : Int) < m := by omega
       obtain ⟨b3, rfl, l1⟩ := owns_cell (i := j) HI.out.o (by rw [← HM.out]; exact hlj)
       obtain ⟨s, hs, hsn⟩ := HLe.out j hlj
       have m1 := HI.out.na.r.cell hsn
       have m2 := HI.out.na.r.frozen s
       have HR := hid (HI.out.set s ((if (s : Int) ∈ L.take j then ahd E s k ||| 2 ^ k else ahd E s k) ||| 2 ^ k))
       have HSt := hid (tk_step (by rw [← HM.out]; exact hlj) hs (fun q => ahd E q k) (2 ^ k))
       have hx20 : (if (s : Int) ∈ L.take j then ahd E s k ||| 2 ^ k else ahd E s k) < 2 ^ 20 := by
        split
        ·exact Nat.or_lt_two_pow (HL1.out.2.2.2 s) (Nat.pow_lt_pow_right (by decide) (by omega))
        ·exact HL1.out.2.2.2 s
       have E2 := hid (or_wrap hx20 (show k < 20 by omega))
       rw [hs] at l1
       have hsz : (s : Int) < n := by omega
       obtain ⟨x, hx⟩ : ∃ x, x = (if (s : Int) ∈ L.take j then ahd E s k ||| 2 ^ k else ahd E s k) := ⟨_, rfl⟩
       rw [← hx] at m1 HR E2
       simp only [← hx] at HSt
       clear hs hx hx20
       go_wp2
       go_region
       rw [E2.out]
       go_wp2
       go_roundw
       case rel => exact ⟨j + 1, by omega, by go_num, hid ⟨HR.out.na.congr (fun q _ => HSt.out q), HR.out.o, HR.out.lt⟩⟩
       case measure => simp [intOf]; omega
      ·obtain rfl : j = m := by omega
       go_wp2
       go_roundw
       case rel =>
        refine ⟨k + 1, by omega, by go_num, by rw [HL1.out.2.1], hid (HI.out.na.congr (fun s hs => ?_))⟩
        rw [HL1.out.1 s, HAS.out, HM.out, List.take_length]
        by_cases e : trv E t2 s = true
        ·rw [if_pos e, if_pos ((HLm.out s).2 ⟨hs, e⟩)]
        ·rw [if_neg e, if_neg (fun q => e ((HLm.out s).1 q).2)]
       case measure => simp [intOf]; omega
  ·obtain rfl : k = N := by omega
   have hbx := HC1.out wr HJ.out.bel
   have hbl : w.heap.size < wr.heap.size := World.block_lt_of_cell? _ _ hbx
   have C4 := hid (C58.out wr HJ.out.bel)
   have hmk := run_make_row' (P := Tryz.prog) 30 29 (.slice none 0 0) 24 Tryz.underlying30 Tryz.info29 rfl .i64 .i64 n (by omega) (by omega)
   obtain ⟨i0, hi, hz0, hz1, hz2⟩ := info3_parts
   have HI : Hid (Tryz.prog.info? 3 = some i0 ∧ i0.zero = some (.int .i64 0) ∧ i0.size = 1 ∧ i0.bytes = 8) := ⟨hi, hz0, hz1, hz2⟩
   have HAL : Hid (tld E k < n ∧ ∀ s, ahd E s k < n) := hid ⟨by rw [HN.out, ← HNN.out]; exact orN_lt _ _, fun s => by rw [HN.out, ← HNN.out]; exact orN_lt _ _⟩
   clear hi hz0 hz1 hz2
   go_wp2_with fail
   refine C4.out.mono ?_
   rintro e z4 ⟨rfl, hb4⟩
   have HJ4 := hid (HJ.out.below hb4)
   clear hb4 C4 hbx hbl
   go_wp2
   clear hmk
   go_loopw [65] (fun i wb => ∃ j : Nat, j ≤ n ∧ i = .int .i64 j ∧ ∃ V, Fam z4 wb n (fun c => trs (fun q => decide (ahd E q k = c)) j) V) (fun i _ => n - (intOf i).toNat)
   case atStart => exact ⟨0, Nat.zero_le _, rfl, _, fam_start z4 n _ (fun j _ => rfl)⟩
   case round =>
    obtain ⟨j, hj, rfl, V, hF⟩ := hrel
    by_cases hlj : j < n
    ·obtain ⟨t, ht⟩ : ∃ t : Nat, ahd E j k = t := ⟨_, rfl⟩
     have htG : t < n := by rw [← ht]; exact HAL.out.2 j
     have htz : (t : Int) < n := by omega
     have hjz : (j : Int) < n := by omega
     have y1 := (rowIs_below HJ4.out.r hF.below).cell hlj
     rw [ht] at y1
     have HT := hid ht
     obtain ⟨a2, c2, hv, hrow⟩ := owns_row (hF.own t htG)
     have hown := hF.own t htG
     have htop := hF.top.cell htG
     rw [hv] at hown htop
     have hlen := trs_len (fun q => decide (ahd E q k = t)) j
     have HF := hid hF
     have HV := hid hv
     have HO := hid hown
     have hsize := hF.size
     clear hrow hF hv hown ht
     generalize hn2 : (trs (fun q => decide (ahd E q k = t)) j).length = n2 at *
     have HN2 : Hid ((trs (fun q => decide (ahd E q k = t)) j).length = n2) := hn2
     clear hn2
     go_wp2_with (at_builtin; refine wpList_append_own_at _ rfl _ _ 29 rfl (z4.heap.size + 1) 3 i0 (.int .i64 0) 1 8 Tryz.underlying29 HI.out.1 HI.out.2.1 HI.out.2.2.1 HI.out.2.2.2 rfl (by decide) _ _ _ rfl (HO.out.alloc _) ⟨wr.heap.size, 0, none⟩ 1 1 [.int .i64 j] rfl rfl (cell_one_new _ _ _) (ints_oneCell .i64 [(j : Int)]) (by unfold maxLen; omega) (by omega) (by simp; omega) ?_; intro v' w2 hown' hgrow hnil hloc; obtain ⟨⟨a3, c3, rfl⟩, g1, g2, G3⟩ := Fam.step' HF.out htG HN2.out HV.out hown' hgrow hloc; clear hown' hgrow hnil hloc)
     go_roundw
     case rel => exact ⟨j + 1, by omega, by go_num, _, G3.out.congr (fun c _ => bh_step HT.out c)⟩
     case measure => simp [intOf]; omega
    ·obtain rfl : j = n := by omega
     have hBw : Below u.heap.size u wr := HJ4.out.bel.trans (hF.below.mono HJ4.out.bel.size)
     have hbx := HC1.out wr hBw
     have hbl : w.heap.size < wr.heap.size := World.block_lt_of_cell? _ _ hbx
     have C6 := hid (C58.out wr hBw)
     have HF := hid hF
     have HBw := hid hBw
     have hmk := run_make_row' (P := Tryz.prog) 30 29 (.slice none 0 0) 24 Tryz.underlying30 Tryz.info29 rfl .i64 .i64 j (by omega) (by omega)
     clear hF hBw
     go_wp2_with fail
     refine C6.out.mono ?_
     rintro e z6 ⟨rfl, hb6⟩
     have HB6 := hid hb6
     have HFc : Hid (∀ y, Below z6.heap.size z6 y → ∀ c, c < j → y.ownsRow (z4.heap.size + 1) 3 1 (V c) (trs (fun q => decide (ahd E q k = c)) j).length (vals (trs (fun q => decide (ahd E q k = c)) j)) ∧ y.cell? ⟨z4.heap.size, c, none⟩ = some (V c)) :=
      hid (fun y hy c hc => ⟨owns3_below (owns3_below (HF.out.own c hc) hb6) hy, below_cell hy jq0 (below_cell hb6 jq0 (HF.out.top.cell hc))⟩)
     clear hb6 C6 hbx hbl
     go_wp2
     clear hmk
     go_loopw [86] (fun i wc => ∃ s : Nat, s ≤ j ∧ i = .int .i64 s ∧ ∃ V2, Hid (Nc z6 wc j s (fun s => nxt E s) V2)) (fun i _ => j - (intOf i).toNat)
     case atStart => exact ⟨0, Nat.zero_le _, rfl, _, hid (Nc.start z6 j _)⟩
     case round =>
      obtain ⟨s, hs, rfl, V2, HC⟩ := hrel
      by_cases hls : s < j
      ·obtain ⟨c, hc⟩ : ∃ c : Nat, s &&& tld E k = c := ⟨_, rfl⟩
       have hcn : c < j := by rw [← hc]; exact Nat.lt_of_le_of_lt Nat.and_le_right HAL.out.1
       have hEA : bits BinOp.and IntKind.i64 ((s : Nat) : Int) ((tld E k : Nat) : Int) = ((c : Nat) : Int) := by rw [and_I (Nat.lt_trans hls (by omega)) (Nat.lt_trans HAL.out.1 (by omega)), hc]
       have HNx : Hid (trs (fun q => decide (ahd E q k = c)) j = nxt E s) := hid (by have h2 := HN.out; rw [← HNN.out] at h2; unfold nxt; rw [← HNN.out, ← h2, ← hc])
       obtain ⟨o1, y1⟩ := HFc.out wr HC.out.bel c hcn
       have hln := trs_len (fun q => decide (ahd E q k = c)) j
       have C59 := hid (cloneL_any wr o1 (by omega))
       have hcz : (c : Int) < j := by omega
       have hsz : (s : Int) < j := by omega
       obtain ⟨vc, hvc⟩ : ∃ q, q = V c := ⟨_, rfl⟩
       rw [← hvc] at y1 C59
       clear o1 hc hvc hln
       go_wp2_with fail
       refine C59.out.mono ?_
       rintro e w2 ⟨v', rfl, HVc⟩
       obtain ⟨a5, c5, rfl, _⟩ := owns_row HVc.out.1
       have t1 := (rowIs_below HC.out.top HVc.out.2).cell hls
       have t2 := (rowIs_below HC.out.top HVc.out.2).frozen s
       clear C59 y1
       go_wp2
       go_roundw
       case rel => exact ⟨s + 1, by omega, by go_num, _, hid (HC.out.step HVc.out.2 (by rw [← HNx.out]; exact HVc.out.1))⟩
       case measure => simp [intOf]; omega
      ·obtain rfl : s = j := by omega
       go_wp2
       go_ret
       exact ⟨z6.heap.size, rfl, hid ⟨(HBu.out.trans (HBw.out.mono HBu.out.size)).trans ((HB6.out.trans (HC.out.bel.mono HB6.out.size)).mono (by have := HBu.out.size; have := HBw.out.size; omega)), HC.out.ly.mono (by have := HBu.out.size; have := HBw.out.size; have := HB6.out.size; omega)⟩⟩
end Go.Proofs.YtmdpbaobihdgkaaGreatDoor
