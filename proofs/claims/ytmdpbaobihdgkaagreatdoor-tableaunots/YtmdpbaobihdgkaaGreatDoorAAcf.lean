
import Derived.Test.YtmdpbaobihdgkaaGreatDoorAAcp
/- acceptFrom: the spots that are met, then their parts. -/
set_option linter.unusedSimpArgs false
namespace Go.Proofs.YtmdpbaobihdgkaaGreatDoor
open Go.RowKit Go.Shelf
attribute [local go_sem] Oper.semAt_some
theorem lf_add {m : Nat} {X : Nat → Nat → Nat} {s p : Nat} (hs : s < 2048) (hp : p < m) (q : Nat × Nat) : a_lf m (at1 X p (sadd (X p) s)) q ↔ (q = (s, p) ∨ a_lf m X q) := by
 obtain ⟨t, k⟩ := q
 unfold a_lf at1
 by_cases e : k = p
 ·subst e
  simp only [if_true, mem_add, Bool.or_eq_true, decide_eq_true_eq, Prod.mk.injEq, and_true]
  constructor
  ·rintro ⟨h1, h2, h3 | h3⟩
   ·exact Or.inl h3
   ·exact Or.inr ⟨h1, h2, h3⟩
  ·rintro (rfl | ⟨h1, h2, h3⟩)
   ·exact ⟨hp, hs, Or.inl rfl⟩
   ·exact ⟨h1, h2, Or.inr h3⟩
 ·simp only [Prod.mk.injEq, e, and_false, false_or, if_false]
theorem Ls.add {w : World} {b n : Nat} {X : Nat → Nat → Nat} (h : Ls w b n X) {p s : Nat} (hp : p < n) (hs : s < 2048) : Ls (w.setCell ⟨b, p * 32 + s / 64, none⟩ (.int .u64 (sadd (X p) s (s / 64) : Nat))) b n (at1 X p (sadd (X p) s)) := by
 have := h.set hp (k := s / 64) (by omega) (sadd_small (h p hp).small hs _ (by omega) : sadd (X p) s (s / 64) < _)
 refine this.congr (fun i _ j _ => ?_)
 unfold at1
 split
 ·simp only [sadd, upd_self]
 ·rfl
structure Rk (R : Rx) : Prop where
 turn : ∀ a b, a < R.G → b < R.G → mem (R.P a) b = mem (R.N b) a
 fits : ∀ p, p < R.m → ∀ s, s < 2048 → mem (R.T p) s = true → s < R.G
theorem es_sb {R : Rx} (h : Rk R) (q t : Nat × Nat) (hq : q.1 < R.G ∧ q.2 < R.m) (ht : t.1 < R.G ∧ t.2 < R.m) : Es R t q ↔ Sb R q t := by
 unfold Es Sb
 rw [h.turn q.1 t.1 hq.1 ht.1]
 have e : (q.2 = (t.2 + 1) % R.m) ↔ (t.2 = (q.2 + R.m - 1) % R.m) := by
  have h1 := hq.2
  have h2 := ht.2
  constructor
  ·intro h3
   by_cases h4 : t.2 + 1 = R.m
   ·rw [h4, Nat.mod_self] at h3
    rw [h3, Nat.zero_add, Nat.mod_eq_of_lt (by omega)]
    omega
   ·rw [Nat.mod_eq_of_lt (by omega)] at h3
    rw [h3, show t.2 + 1 + R.m - 1 = t.2 + R.m by omega, Nat.add_mod_right, Nat.mod_eq_of_lt h2]
  ·intro h3
   by_cases h4 : q.2 = 0
   ·rw [h4, Nat.zero_add, Nat.mod_eq_of_lt (by omega)] at h3
    rw [h4, h3, show R.m - 1 + 1 = R.m by omega, Nat.mod_self]
   ·rw [show q.2 + R.m - 1 = q.2 - 1 + R.m by omega, Nat.add_mod_right, Nat.mod_eq_of_lt (by omega)] at h3
    rw [h3, show q.2 - 1 + 1 = q.2 by omega, Nat.mod_eq_of_lt h1]
 rw [e]
theorem owns_but {w w' : World} {base : Nat} {e : TypeId} {size b : Nat} {v : Value} {n : Nat} {xs : List Value} (h : w.ownsRow base e size v n xs) (hb : But b w w') (hbb : b < base) : w'.ownsRow base e size v n xs :=
 h.kept (row := some b) ⟨hb.os, hb.tape, hb.output, hb.size, fun k hk hne => hb.block k hk (fun e => hne (by rw [e]))⟩ (by
  cases hv : v.ownBlock with
  | none => exact Or.inl rfl
  | some g => exact Or.inr (fun e => by
    rw [Option.some.injEq] at e
    have := (h.lt g hv).1
    omega))
structure Am (W wr : World) (lb m : Nat) (X : Nat → Nat → Nat) (mv : Value) (met : List (Nat × Nat)) : Prop where
 but : But lb W wr
 left : Ls wr lb m X
 own : wr.ownsRow W.heap.size 120 2 mv met.length (spv met)
 lb : lb < W.heap.size
theorem Am.below {W wr wr' : World} {lb m : Nat} {X : Nat → Nat → Nat} {mv : Value} {met : List (Nat × Nat)} (h : Am W wr lb m X mv met) (hb : Below wr.heap.size wr wr') : Am W wr' lb m X mv met :=
 ⟨h.but.trans (But.of_below hb), h.left.below' hb, owns_below h.own hb, h.lb⟩
theorem Am.grow {W wr w1 : World} {lb m : Nat} {X : Nat → Nat → Nat} {mv mv' : Value} {met p : List (Nat × Nat)} (h : Am W wr lb m X mv met)
  (hown : w1.ownsRow W.heap.size 120 2 mv' (met.length + p.length) (spv met ++ spv p)) (hg : wr.grownBy w1 mv.ownBlock) : Am W w1 lb m X mv' (met ++ p) := by
 have hne : ∀ k, k < W.heap.size → some k ≠ mv.ownBlock := fun k hk e => by have := (h.own.lt k e.symm).1; omega
 have hbk : w1.heap[lb]? = wr.heap[lb]? := hg.block lb (Nat.lt_of_lt_of_le h.lb h.but.size) (hne lb h.lb)
 refine ⟨⟨hg.os.trans h.but.os, hg.tape.trans h.but.tape, hg.output.trans h.but.output, Nat.le_trans h.but.size hg.size, fun k h1 h2 => (hg.block k (Nat.lt_of_lt_of_le h1 h.but.size) (hne k h1)).trans (h.but.block k h1 h2)⟩, fun i hi => (h.left i hi).of_block hbk, ?_, h.lb⟩
 rw [spv_append, List.length_append]
 exact hown
theorem grow_below {wr w1 : World} {base : Nat} {e : TypeId} {size : Nat} {v : Value} {n : Nat} {xs : List Value} (h : wr.ownsRow base e size v n xs) (hb : base ≤ wr.heap.size) (hg : wr.grownBy w1 v.ownBlock) : Below base wr w1 :=
 ⟨hg.os, hg.tape, hg.output, hg.size, fun k hk => hg.block k (Nat.lt_of_lt_of_le hk hb) (fun e => by have := (h.lt k e.symm).1; omega)⟩
def Bg (R : Rx) (x : Nat → Nat) (z : Nat × Nat) : Prop := ∃ s, s < 2048 ∧ mem x s = true ∧ Ts R (s, 0) ∧ Rt (Es R) (Ts R) (s, 0) z
def Afs (R : Rx) (x : Nat → Nat) : Prop := ∃ z, Bg R x z ∧ Fp (Es R) (Ts R) R.K (Fs R) z
theorem af_world (w : World) (nb G c1 pb c2 tb m c3 fb K c4 : Nat) (N P T F : Nat → Nat → Nat) (x : Nat → Nat) (hx : ∀ i, i < 32 → x i < 18446744073709551616) :
  ∃ W, ((w.alloc (.cells #[.slice (some ⟨nb, 0, none⟩) G c1, .slice (some ⟨pb, 0, none⟩) G c2, .slice (some ⟨tb, 0, none⟩) m c3, .slice (some ⟨fb, 0, none⟩) K c4] 67)).alloc (.cells (cellsS x) 69)).alloc (.cells #[.bool false] 4) = W ∧
   Below w.heap.size w W ∧ W.heap.size = w.heap.size + 3 ∧ Rb W w.heap.size ⟨nb, G, c1, pb, c2, tb, m, c3, fb, K, c4, N, P, T, F⟩ ∧ Bx W (w.heap.size + 1) x ∧ W.cell? ⟨w.heap.size + 2, 0, none⟩ = some (.bool false) ∧ W.frozen? ⟨w.heap.size + 2, 0, none⟩ = false := by
 obtain ⟨W0, h0, hb0, hs0, hR0⟩ := rb_new w nb G c1 pb c2 tb m c3 fb K c4 N P T F
 rw [h0]
 have q1 := bx_new W0 x hx
 have b1 := box_below W0 (.cells (cellsS x) 69)
 have s1 : (W0.alloc (.cells (cellsS x) 69)).heap.size = w.heap.size + 2 := by rw [World.size_alloc, hs0]
 generalize W0.alloc (.cells (cellsS x) 69) = W1 at *
 have q2 : (W1.alloc (.cells #[.bool false] 4)).cell? ⟨W1.heap.size, 0, none⟩ = some (.bool false) := cell_of_alloc rfl
 have q3 : (W1.alloc (.cells #[.bool false] 4)).frozen? ⟨W1.heap.size, 0, none⟩ = false := by simp
 have b2 := box_below W1 (.cells #[.bool false] 4)
 have s2 : (W1.alloc (.cells #[.bool false] 4)).heap.size = w.heap.size + 3 := by rw [World.size_alloc, s1]
 generalize W1.alloc (.cells #[.bool false] 4) = W2 at *
 rw [hs0] at q1
 rw [s1] at q2 q3
 exact ⟨W2, rfl, (hb0.trans (b1.mono (by omega))).trans (b2.mono (by omega)), s2, (hR0.below b1).below b2, q1.below b2 (bx_lt q1), q2, q3⟩
structure Ab (b0 lv lb lc : Nat) (R : Rx) (x : Nat → Nat) (W : World) : Prop where
 rb : Rb W b0 R
 bx : Bx W (b0 + 1) x
 rc : W.cell? ⟨b0 + 1 + 1, 0, none⟩ = some (.bool false)
 rf : W.frozen? ⟨b0 + 1 + 1, 0, none⟩ = false
 lvc : W.cell? ⟨lv, 0, none⟩ = some (.slice (some ⟨lb, 0, none⟩) R.m lc)
 rw : Rw W R
 ne : lb ≠ b0 ∧ lb ≠ b0 + 1 ∧ lb ≠ b0 + 1 + 1 ∧ lb ≠ lv
 na : lb ≠ R.nb ∧ lb ≠ R.pb ∧ lb ≠ R.tb ∧ lb ≠ R.fb ∧ lb ≠ 0
theorem Ab.but {b0 lv lb lc : Nat} {R : Rx} {x : Nat → Nat} {W W' : World} (h : Ab b0 lv lb lc R x W) (hb : But lb W W') : Ab b0 lv lb lc R x W' := by
 have n := h.ne
 have a := h.na
 have r := h.rw
 refine ⟨h.rb.but hb (Ne.symm n.1), h.bx.but hb (Ne.symm n.2.1), hb.cell (Ne.symm n.2.2.1) h.rc, ?_, hb.cell (Ne.symm n.2.2.2) h.lvc, ⟨r.next.but hb (Ne.symm a.1), r.prev.but hb (Ne.symm a.2.1), r.fits.but hb (Ne.symm a.2.2.1), r.fair.but hb (Ne.symm a.2.2.2.1), r.g, r.m, r.m60, r.k80, fun j hj => hb.cell (Ne.symm a.2.2.2.2) (r.tb j hj), by have := r.blk; have := hb.size; omega⟩, n, a⟩
 rw [World.frozen?_of_block (w := W) (hb.block _ (World.block_lt_of_cell? _ _ h.rc) (Ne.symm n.2.2.1))]
 exact h.rf
theorem Ab.belowB {b0 lv lb lc B : Nat} {R : Rx} {x : Nat → Nat} {W W' : World} (h : Ab b0 lv lb lc R x W) (hb : Below B W W') (hB : b0 + 1 + 1 < B ∧ lv < B ∧ R.nb < B ∧ R.pb < B ∧ R.tb < B ∧ R.fb < B) : Ab b0 lv lb lc R x W' := by
 have r := h.rw
 refine ⟨⟨below_cell' hb (by dsimp only; omega) h.rb.r0, below_cell' hb (by dsimp only; omega) h.rb.r1, below_cell' hb (by dsimp only; omega) h.rb.r2, below_cell' hb (by dsimp only; omega) h.rb.r3⟩, h.bx.below hb (by omega), below_cell' hb hB.1 h.rc, ?_, below_cell' hb hB.2.1 h.lvc, ⟨fun i hi => (r.next i hi).below hb hB.2.2.1, fun i hi => (r.prev i hi).below hb hB.2.2.2.1, fun i hi => (r.fits i hi).below hb hB.2.2.2.2.1, fun i hi => (r.fair i hi).below hb hB.2.2.2.2.2, r.g, r.m, r.m60, r.k80, fun j hj => below_cell' hb (by dsimp only; omega) (r.tb j hj), by have := r.blk; have := hb.size; omega⟩, h.ne, h.na⟩
 rw [World.frozen?_of_block (w := W) (hb.block _ hB.1)]
 exact h.rf
theorem Ab.below {b0 lv lb lc : Nat} {R : Rx} {x : Nat → Nat} {W W' : World} (h : Ab b0 lv lb lc R x W) (hb : Below W.heap.size W W') : Ab b0 lv lb lc R x W' := h.but (But.of_below hb)
theorem keeps_but {b B : Nat} {W W' : World} (h : But b W W') (hb : b < B) : KeepsFrom B W W' :=
 ⟨h.size, fun k o hk h0 _ => (h.block k (jq4.1 h0).1 (by omega)).trans h0⟩
theorem kb_but {b c d : Nat} {W W' : World} (h : But b W W') (hc : b ≠ c) (hd : b ≠ d) (h1 : c < W.heap.size) (h2 : d < W.heap.size) : a_Kb c d W W' := ⟨h.block c h1 (Ne.symm hc), h.block d h2 (Ne.symm hd)⟩
theorem pre_last {n : Nat} {pre : List (Fin n)} {j : Fin n} (h : pre ++ [j] <+: revF n) : pre <+: revF n ∧ pre.length < n ∧ j.1 = n - 1 - pre.length := by
 have h1 : pre <+: revF n := (List.prefix_append pre [j]).trans h
 have hl := h.length_le
 rw [List.length_append, revF_len] at hl
 simp only [List.length_cons, List.length_nil] at hl
 refine ⟨h1, by omega, ?_⟩
 obtain ⟨t, ht⟩ := h
 have h2 : (pre ++ [j] ++ t)[pre.length]? = some j := by simp
 rw [ht, revF_at (by omega)] at h2
 rw [← Option.some.inj h2]
theorem drop_last {met : List (Nat × Nat)} {k : Nat} (h : k < met.length) : met.drop (met.length - (k + 1)) = met.getD (met.length - 1 - k) (0, 0) :: met.drop (met.length - k) ∧ met = met.take (met.length - 1 - k) ++ met.getD (met.length - 1 - k) (0, 0) :: met.drop (met.length - k) := by
 have h1 : met.length - 1 - k < met.length := by omega
 have e : met.drop (met.length - 1 - k) = met.getD (met.length - 1 - k) (0, 0) :: met.drop (met.length - k) := by
  rw [List.drop_eq_getElem_cons h1, show met.length - 1 - k + 1 = met.length - k by omega, List.getD_eq_getElem?_getD, List.getElem?_eq_getElem h1]
  rfl
 refine ⟨by rw [show met.length - (k + 1) = met.length - 1 - k by omega]; exact e, ?_⟩
 rw [← e, List.take_append_drop]
def AfIs (R : Rx) (x : Nat → Nat) (e : Ending) : Prop := ∃ b, e = .returned (.bool b) ∧ (b = true ↔ Afs R x)
def Ain (R : Rx) (lb : Nat) (w11 : World) (met : List (Nat × Nat)) (pre : List (Fin met.length)) (W : World) : Prop :=
 But lb w11 W ∧ ∃ X, Ls W lb R.m X ∧ (∀ q, a_lf R.m X q → Ts R q) ∧ (pre <+: revF met.length → Kl (Es R) (Ts R) R.K (Fs R) met (met.drop (met.length - pre.length)) (a_lf R.m X))
set_option maxHeartbeats 4000000 in
theorem acceptFrom_any (R : Rx) (x : Nat → Nat) (w : World) (h : Rw w R) (hR : Rk R) (hx : ∀ i, i < 32 → x i < 18446744073709551616) :
  Calls Tryz.prog 30 #[R.val, .agg (cellsS x)] w fun e w' => AfIs R x e ∧ Below w.heap.size w w' := by
 have hG := h.g
 have hm0 := h.m
 have hm60 := h.m60
 have H0 := hid h
 have HK := hid hR
 have HX := hid hx
 have hfit := h.fits
 clear h hR hx
 obtain ⟨i0, hi, hz0, hz1, hz2⟩ := info_parts Tryz.info120
 have HI : Hid (Tryz.prog.info? 120 = some i0 ∧ i0.zero = some (.agg #[.int .i64 0, .int .i64 0]) ∧ i0.size = 2 ∧ i0.bytes = 16) := ⟨hi, hz0, hz1, hz2⟩
 clear hi hz0 hz1 hz2
 obtain ⟨nb, G, c1, pb, c2, tb, m, c3, fb, K, c4, N, P, T, F⟩ := R
 dsimp only [Rx.val] at *
 refine (callsIn_wide (n := 9)).1 (callsIn_of_wp_marks Tryz.func30 rfl trivial ?_ rfl)
 refine wpIn_wide.2 ?_
 simp only [Tryz.ntmps30, List.size_toArray, List.length_cons, List.length_nil, Nat.reduceAdd, Nat.reduceSub, Array.replicate_succ, Array.replicate_zero, List.push_toArray, List.append_toArray, List.nil_append, List.cons_append]
 go_wp2_with fail
 obtain ⟨W1, hW1, hb1, hs1, hRb, hBx, hres, hresf⟩ := af_world w nb G c1 pb c2 tb m c3 fb K c4 N P T F x HX.out
 rw [hW1]
 clear hW1
 have HB1 := hid hb1
 have H1 := hid (H0.out.below hb1)
 clear hb1
 obtain ⟨r0, r1, r2, r3⟩ := hRb
 dsimp only at r0 r1 r2 r3
 refine (cloneS_any tb m c3 T W1 hm0 hm60 H1.out.fits).mono ?_
 rintro e w2 ⟨⟨lb, lc, rfl, hlb1, hlb2, hls⟩, hb2⟩
 have HLS := hid hls
 have H2 := hid (H1.out.below hb2)
 have HB2 := hid (HB1.out.trans (hb2.mono HB1.out.size))
 have HBx2 := hid (hBx.below hb2 (bx_lt hBx))
 have q0 := below_cell hb2 jq0 r0
 have q1 := below_cell hb2 jq0 r1
 have q2 := below_cell hb2 jq0 r2
 have q3 := below_cell hb2 jq0 r3
 have qr := below_cell hb2 jq0 hres
 have qf : w2.frozen? ⟨w.heap.size + 2, 0, none⟩ = false := (hb2.frozen (p := ⟨w.heap.size + 2, 0, none⟩) (World.block_lt_of_cell? _ _ hres)).trans hresf
 have hsz2 : w.heap.size + 3 ≤ w2.heap.size := by have := hb2.size; omega
 have hs12 := hb2.size
 clear r0 r1 r2 r3 hb2 hls hres hresf hBx hfit
 go_wp2_with fail
 obtain ⟨W3, hW3, hb3, hs3, hlv⟩ : ∃ W3, w2.alloc (.cells #[.slice (some ⟨lb, 0, none⟩) m lc] 64) = W3 ∧ Below w2.heap.size w2 W3 ∧ W3.heap.size = w2.heap.size + 1 ∧ W3.cell? ⟨w2.heap.size, 0, none⟩ = some (.slice (some ⟨lb, 0, none⟩) m lc) := ⟨_, rfl, box_below _ _, by simp, cell_of_alloc rfl⟩
 rw [hW3]
 clear hW3
 have hlb1' := hlb1
 rw [hs1] at hlb1'
 have HA : Hid (Ab w.heap.size w2.heap.size lb lc ⟨nb, G, c1, pb, c2, tb, m, c3, fb, K, c4, N, P, T, F⟩ x W3) := by
  have hblk := H0.out.blk
  dsimp only at hblk
  exact ⟨⟨below_cell hb3 jq0 q0, below_cell hb3 jq0 q1, below_cell hb3 jq0 q2, below_cell hb3 jq0 q3⟩, HBx2.out.below hb3 (bx_lt HBx2.out), below_cell hb3 jq0 qr, (hb3.frozen (p := ⟨w.heap.size + 2, 0, none⟩) (World.block_lt_of_cell? _ _ qr)).trans qf, hlv, H2.out.below hb3, by omega, by dsimp only; omega⟩
 have HM : Hid (Am W3 W3 lb m T (.slice none 0 0) []) := hid ⟨But.refl _ _, HLS.out.below' hb3, World.ownsRow_nil _ _ _ _, by omega⟩
 have HB3 := hid (HB2.out.trans (hb3.mono HB2.out.size))
 have hsz3 : w.heap.size + 4 ≤ W3.heap.size := by omega
 have hlbw : w.heap.size + 3 ≤ lb := hlb1'
 have hlv3 : w2.heap.size < W3.heap.size := by omega
 obtain ⟨lv, hlve⟩ : ∃ lv, lv = w2.heap.size := ⟨_, rfl⟩
 rw [← hlve] at HA hlv3 ⊢
 have HD : Hid (Dfs (Es ⟨nb, G, c1, pb, c2, tb, m, c3, fb, K, c4, N, P, T, F⟩) (Ts ⟨nb, G, c1, pb, c2, tb, m, c3, fb, K, c4, N, P, T, F⟩) [] [] (a_lf m T)) := hid (dfs_nil (fun q => by
  unfold Ts a_lf
  constructor
  ·rintro ⟨h1, h2, h3⟩; dsimp only at h1 h2 h3; exact ⟨h2, by omega, h3⟩
  ·rintro ⟨h1, h2, h3⟩; exact ⟨HK.out.fits q.2 h1 q.1 h2 h3, h1, h3⟩))
 clear q0 q1 q2 q3 qr qf hb3 hs3 hlv HLS HBx2 H1 H2 HB1 HB2 hlb1 hlb1' hlb2 hsz2 hs12 hs1 hlve
 obtain ⟨R, hRe⟩ : ∃ R : Rx, R = ⟨nb, G, c1, pb, c2, tb, m, c3, fb, K, c4, N, P, T, F⟩ := ⟨_, rfl⟩
 have HRe := hid hRe
 have hfo := firstOf_any (w.heap.size + 1) 0 lb 0 x (T 0) W3 HA.out.bx.st (by have := HM.out.left 0 hm0; rwa [Nat.zero_mul] at this) HA.out.rw.tb
 refine hfo.mono ?_
 rintro e w4 ⟨⟨r, rfl, hr⟩, hsm⟩
 have HA4 := hid (HA.out.below (hsm.below _))
 have HM4 := hid (HM.out.below (hsm.below _))
 have HF4 := hid hr
 clear hr hsm hfo HA HM hRe
 go_wp2
 go_loopw [6, 7] (fun mv sv wr => ∃ (met : List (Nat × Nat)) (X : Nat → Nat → Nat) (r : Int), sv = .int .i64 r ∧ Hid (Am W3 wr lb m X mv met ∧ Ab w.heap.size lv lb lc R x wr ∧ Dfs (Es R) (Ts R) met [] (a_lf m X) ∧ (∀ z, z ∈ met → Bg R x z) ∧ FsIs x (X 0) r)) (fun mv _ _ => 122880 - lenV mv)
 case atStart =>
  refine ⟨[], T, r, rfl, hid ?_⟩
  rw [HRe.out]
  exact ⟨HM4.out, HA4.out, HD.out, fun z hz => by simp at hz, HF4.out⟩
 case round =>
  obtain ⟨met, X, r1, rfl, H⟩ := hrel
  rw [HRe.out] at H
  rcases H.out.2.2.2.2 with ⟨s, hs, rfl, hs1, hs2⟩ | ⟨rfl, hno⟩
  ·have hne : ((s : Int) != -1) = true := by simp
   have hlvc := H.out.2.1.lvc
   obtain ⟨r0, r1, r2, r3⟩ := H.out.2.1.rb
   dsimp only at hlvc r0 r1 r2 r3
   have hmv := owns_len H.out.1.own
   have hlfs : a_lf m X (s, 0) := ⟨hm0, hs, hs2⟩
   have C := hid (walkF_any ⟨nb, G, c1, pb, c2, tb, m, c3, fb, K, c4, N, P, T, F⟩ lb lc X s 0 wr H.out.2.1.rw H.out.1.left (Nat.lt_of_lt_of_le H.out.1.lb H.out.1.but.size) H.out.2.1.na _ _ met H.out.2.2.1 (fun q t _ _ => Iff.rfl) (fun q hq => ⟨hq.1, hq.2.1⟩) hlfs)
   have hlen := dfs_len (met := []) (D := met) (P := []) H.out.2.2.1 (G := G) (m := m) (fun q hq => ⟨hq.1, hq.2.1⟩) hG hm60
   simp only [List.length_nil, Nat.add_zero] at hlen
   have HS := hid (And.intro hs1 hlfs)
   have HBB : Hid (w.heap.size + 1 + 1 < W3.heap.size ∧ lv < W3.heap.size ∧ nb < W3.heap.size ∧ pb < W3.heap.size ∧ tb < W3.heap.size ∧ fb < W3.heap.size) := hid (by have := H0.out.blk; dsimp only at this; omega)
   clear hs1 hs2 hlfs
   go_wp2_with fail
   refine C.out.mono ?_
   rintro e w5 ⟨pv, part, X', rfl, hpo, hpl, hpb, hpd, hpm, hpr⟩
   have HP := hid (And.intro hpd (And.intro hpm hpr))
   obtain ⟨pa, pc, rfl, ⟨pgb, pga, pgc⟩, hpblk⟩ := owns_sp hpo
   have hpn : 0 < part.length := List.length_pos_of_mem hpm
   obtain rfl := pga hpn
   have hnews : Hid (∀ j u, (spv part)[j]? = some u → w5.cell? ((⟨pgb, 0, none⟩ : Addr).add j) = some u) := hid (hpo.cells (g := pgb) rfl)
   have HA5 := hid (H.out.2.1.but hpb)
   have HM5 : Hid (Am W3 w5 lb m X' u6 met) := hid ⟨H.out.1.but.trans hpb, hpl, owns_but H.out.1.own hpb H.out.1.lb, H.out.1.lb⟩
   have hsz5 : W3.heap.size ≤ w5.heap.size := HM5.out.but.size
   have hlen5 := dfs_len (met := met) (D := part) (P := []) hpd (G := G) (m := m) (fun q hq => ⟨hq.1, hq.2.1⟩) hG hm60
   have hlen6 := dfs_len (met := []) (D := met ++ part) (P := []) hpd (G := G) (m := m) (fun q hq => ⟨hq.1, hq.2.1⟩) hG hm60
   simp only [List.length_nil, Nat.add_zero, List.length_append] at hlen5 hlen6
   clear hpo hpl hpb hpd hpm hpr pga pgc hpblk hlvc r0 r1 r2 r3
   go_wp2_with (at_builtin; refine wpList_append_own_at _ rfl _ _ 116 rfl W3.heap.size 120 i0 _ 2 16 Tryz.underlying116 HI.out.1 HI.out.2.1 HI.out.2.2.1 HI.out.2.2.2 rfl (by decide) _ _ _ rfl HM5.out.own ⟨pgb, 0, none⟩ part.length pc (spv part) rfl (spv_len part) hnews.out (spv_one part) (by unfold maxLen; omega) (by omega) hsz5 ?_; intro mv' w6 hown' hgrow hnil hloc; have G6 := hid (HM5.out.grow hown' hgrow); have hml6 := owns_len hown'; have HA6 := hid (HA5.out.belowB (grow_below HM5.out.own hsz5 hgrow) HBB.out); have hlvc6 := HA6.out.lvc; dsimp only at hlvc6; clear hown' hgrow hnil hloc)
   have C2 := hid (firstOf_any (w.heap.size + 1) 0 lb 0 x (X' 0) w6 HA6.out.bx.st (by have := G6.out.left 0 hm0; rwa [Nat.zero_mul] at this) HA6.out.rw.tb)
   go_wp2_with fail
   refine C2.out.mono ?_
   rintro e w7 ⟨⟨r7, rfl, hr7⟩, hsm⟩
   have HM7 := hid (G6.out.below (hsm.below _))
   have HA7 := hid (HA6.out.below (hsm.below _))
   have HF7 := hid hr7
   clear hr7 hsm
   go_wp2
   go_roundw
   case rel =>
    refine ⟨met ++ part, X', r7, rfl, hid ?_⟩
    rw [HRe.out]
    refine ⟨HM7.out, HA7.out, HP.out.1, fun z hz => ?_, HF7.out⟩
    rcases List.mem_append.1 hz with hz | hz
    ·exact H.out.2.2.2.1 z hz
    ·exact ⟨s, hs, HS.out.1, (H.out.2.2.1.part _).2 (Or.inr (Or.inr HS.out.2)), HP.out.2.2 z hz⟩
   case measure => rw [hml6, hmv]; omega
  ·obtain ⟨w8, hcl, hb8, hs8, hls8⟩ := clear_run (c := lc) hm0 H.out.1.left
   have hlvc := H.out.2.1.lvc
   dsimp only at hlvc
   have HA8 := hid (H.out.2.1.but hb8)
   have HM8 : Hid (Am W3 w8 lb m (fun _ _ => 0) u6 met) := hid ⟨H.out.1.but.trans hb8, hls8, owns_but H.out.1.own hb8 H.out.1.lb, H.out.1.lb⟩
   have HD := hid H.out.2.2.1
   have HBG := hid H.out.2.2.2.1
   have hbeg : Hid (∀ s, s < 2048 → mem x s = true → Ts ⟨nb, G, c1, pb, c2, tb, m, c3, fb, K, c4, N, P, T, F⟩ (s, 0) → (s, 0) ∈ met) := hid (fun s h1 h2 h3 => by
    rcases (H.out.2.2.1.part _).1 h3 with h4 | h4 | h4
    ·exact h4
    ·simp at h4
    ·have := hno s h1 h2
     rw [h4.2.2] at this
     cases this)
   have hlen := dfs_len (met := []) (D := met) (P := []) H.out.2.2.1 (G := G) (m := m) (fun q hq => ⟨hq.1, hq.2.1⟩) hG hm60
   simp only [List.length_nil, Nat.add_zero] at hlen
   have HBB : Hid (w.heap.size + 1 + 1 < W3.heap.size ∧ lv < W3.heap.size ∧ nb < W3.heap.size ∧ pb < W3.heap.size ∧ tb < W3.heap.size ∧ fb < W3.heap.size) := hid (by have := H0.out.blk; dsimp only at this; omega)
   have hTm : Hid (∀ q, q ∈ met → q.1 < G ∧ q.2 < m) := hid (fun q hq => by have := (H.out.2.2.1.part q).2 (Or.inl hq); exact ⟨this.1, this.2.1⟩)
   clear hb8 hs8 hls8 hno H
   obtain ⟨ma, mc, rfl, hsp, hmblk⟩ := owns_sp HM8.out.own
   clear hsp
   go_wp2
   clear hcl hlvc
   go_loopw [34] (fun i wr => ∃ (k : Nat) (X : Nat → Nat → Nat), k ≤ met.length ∧ i = .int .i64 k ∧ Hid (Am W3 wr lb m X (.slice ma met.length mc) met ∧ Ab w.heap.size lv lb lc R x wr ∧ ∀ q, a_lf m X q ↔ q ∈ met.take k)) (fun i _ => met.length - (intOf i).toNat)
   case atStart =>
    refine ⟨0, _, by omega, rfl, hid ⟨HM8.out, ?_, fun q => ?_⟩⟩
    ·rw [HRe.out]; exact HA8.out
    ·simp [a_lf, mem_zero]
   case round =>
    obtain ⟨k, X, hk, rfl, H⟩ := hrel
    rw [HRe.out] at H
    by_cases hlt : k < met.length
    ·obtain ⟨ma', mc', hme, ⟨mb, mga, mgc⟩, hmb⟩ := owns_sp H.out.1.own
     rw [Value.slice.injEq] at hme
     obtain ⟨rfl, _, rfl⟩ := hme
     obtain rfl := mga (by omega)
     obtain ⟨y1, y2⟩ := mgc k hlt
     dsimp only at y1 y2
     obtain ⟨q, hq⟩ : ∃ q, met.getD k (0, 0) = q := ⟨_, rfl⟩
     rw [hq] at y1 y2
     have hqm : q ∈ met := by rw [← hq, List.getD_eq_getElem?_getD, List.getElem?_eq_getElem hlt]; exact List.getElem_mem _
     have hqT := hTm.out q hqm
     have hqt : Hid (met.take (k + 1) = met.take k ++ [q]) := hid (by rw [List.take_add_one, List.getElem?_eq_getElem hlt, ← hq, List.getD_eq_getElem?_getD, List.getElem?_eq_getElem hlt]; rfl)
     obtain ⟨qs, qp⟩ := q
     dsimp only at y1 y2 hqT
     have hlvc := H.out.2.1.lvc
     dsimp only at hlvc
     clear hq hqm mgc mga hmb
     go_wp2
     obtain ⟨W9, hW9, hb9, hs9, r0, r1⟩ : ∃ W9, wr.alloc (.cells #[.int .i64 (qs : Nat), .int .i64 (qp : Nat)] 120) = W9 ∧ Below wr.heap.size wr W9 ∧ W9.heap.size = wr.heap.size + 1 ∧ W9.cell? ⟨wr.heap.size, 0, none⟩ = some (.int .i64 (qs : Nat)) ∧ W9.cell? ⟨wr.heap.size, 1, none⟩ = some (.int .i64 (qp : Nat)) :=
      ⟨_, rfl, box_below _ _, by simp, cell_of_alloc rfl, cell_of_alloc rfl⟩
     rw [hW9]
     have HM9 := hid (H.out.1.below (hb9.drew))
     have HA9 := hid (H.out.2.1.below (hb9.drew))
     have hlv9 := below_cell hb9 jq0 hlvc
     have hne1 : lb ≠ lv := H.out.2.1.ne.2.2.2
     have hne2 : lb ≠ wr.heap.size := by have := H.out.1.lb; have := H.out.1.but.size; omega
     have hqs : qs < 2048 := by omega
     have C := hid (add_any lb (qp * 32) (X qp) qs W9.drew hqs (HM9.out.left qp hqT.2))
     have hqpm := hqT.2
     clear hW9 hb9 hs9 hlvc y1 y2
     go_region_held3 (fun z => z.cell? ⟨wr.heap.size, 0, none⟩ = some (.int .i64 (qs : Nat)) ∧ z.cell? ⟨wr.heap.size, 1, none⟩ = some (.int .i64 (qp : Nat)) ∧ z.cell? ⟨lv, 0, none⟩ = some (.slice (some ⟨lb, 0, none⟩) m lc)) (first | go_keep) (first | (go_at_call 70; refine C.out.mono ?_; rintro e w10 ⟨⟨v0, rfl⟩, rfl⟩) | fail)
     go_wp2
     go_roundw
     case rel =>
      have hM10 : Am W3 (W9.drew.setCell ⟨lb, qp * 32 + qs / 64, none⟩ (.int .u64 (sadd (X qp) qs (qs / 64) : Nat))).drew lb m (at1 X qp (sadd (X qp) qs)) (.slice (some ⟨mb, 0, none⟩) met.length mc) met := by
       have h1 := HM9.out
       have hbt : But lb W9.drew (W9.drew.setCell ⟨lb, qp * 32 + qs / 64, none⟩ (.int .u64 (sadd (X qp) qs (qs / 64) : Nat))).drew := ((But.refl lb W9.drew).setCell _ _).trans ((Sm.refl _).drew.but _)
       exact ⟨h1.but.trans hbt, (Sm.refl _).drew.ls (h1.left.add hqpm hqs), owns_but h1.own hbt h1.lb, h1.lb⟩
      refine ⟨k + 1, at1 X qp (sadd (X qp) qs), by omega, by go_num, hid ⟨hM10, ?_, fun q => ?_⟩⟩
      ·rw [HRe.out]
       exact HA9.out.but (((But.refl lb W9.drew).setCell _ _).trans ((Sm.refl _).drew.but _))
      ·rw [lf_add hqs hqpm, H.out.2.2, hqt.out, List.mem_append, List.mem_singleton]
       exact Or.comm
     case measure => simp [intOf]; omega
    ·obtain rfl : k = met.length := by omega
     have HL : Hid (∀ q, a_lf m X q ↔ q ∈ met) := hid (fun q => by rw [H.out.2.2, List.take_length])
     go_wp2_with fail
     refine (bwd71 ma met.length mc wr).mono ?_
     rintro e w11 ⟨rfl, rfl⟩
     have HM11 := hid (H.out.1.below (box_below wr (.cells #[.slice ma met.length mc] 116)))
     have HA11 := hid (H.out.2.1.below (box_below wr (.cells #[.slice ma met.length mc] 116)))
     have hbs : (wr.alloc (.cells #[.slice ma met.length mc] 116)).cell? ⟨wr.heap.size, 0, none⟩ = some (.slice ma met.length mc) := cell_of_alloc rfl
     have hs11 : (wr.alloc (.cells #[.slice ma met.length mc] 116)).heap.size = wr.heap.size + 1 := by simp
     generalize wr.alloc (.cells #[.slice ma met.length mc] 116) = w11 at *
     go_wp2_with fail
     obtain ⟨ma', mc', hme, ⟨mb, mga, mgc⟩, hmb⟩ := owns_sp HM11.out.own
     rw [Value.slice.injEq] at hme
     obtain ⟨rfl, _, rfl⟩ := hme
     have hmbs : mb < w11.heap.size ∧ (0 < met.length → W3.heap.size ≤ mb) ∧ (0 < met.length → ma = some ⟨mb, 0, none⟩) ∧ (∀ i, i < met.length → w11.cell? ⟨mb, i * 2, none⟩ = some (.int .i64 ((met.getD i (0, 0)).1 : Nat)) ∧ w11.cell? ⟨mb, i * 2 + 1, none⟩ = some (.int .i64 ((met.getD i (0, 0)).2 : Nat))) ∨ met.length = 0 := by
      by_cases h0 : 0 < met.length
      ·have := hmb _ (mga h0)
       exact Or.inl ⟨this.2, fun _ => this.1, mga, mgc⟩
      ·exact Or.inr (by omega)
     obtain ⟨mb2, hmb2, hmb3, hma2, hmc2⟩ : ∃ mb2, mb2 < w11.heap.size ∧ lb ≠ mb2 ∧ (0 < met.length → ma = some ⟨mb2, 0, none⟩) ∧ (∀ i, i < met.length → w11.cell? ⟨mb2, i * 2, none⟩ = some (.int .i64 ((met.getD i (0, 0)).1 : Nat)) ∧ w11.cell? ⟨mb2, i * 2 + 1, none⟩ = some (.int .i64 ((met.getD i (0, 0)).2 : Nat))) := by
      rcases hmbs with ⟨h1, h2, h3, h4⟩ | h0
      ·by_cases h5 : 0 < met.length
       ·exact ⟨mb, h1, by have := HM11.out.lb; have := h2 h5; omega, h3, h4⟩
       ·exact ⟨0, by omega, HA11.out.na.2.2.2.2, fun h => absurd h h5, fun i hi => by omega⟩
      ·exact ⟨0, by omega, HA11.out.na.2.2.2.2, fun h => by omega, fun i hi => by omega⟩
     have hBsz : wr.heap.size < w11.heap.size := by omega
     have hlb11 : lb < w11.heap.size := by have := HM11.out.lb; have := HM11.out.but.size; omega
     have hlbw11 : lb ≠ wr.heap.size := by have := H.out.1.lb; have := H.out.1.but.size; omega
     clear hmbs mga mgc hmb hs11
     refine (wpIn_wide (n := 9)).1 ?_
     refine wpIn_rangeFunc_ownH (F := Fence.wide) rfl (by decide) (gf := 106) (lb := #[.pointer (some ⟨wr.heap.size, 0, none⟩)]) rfl trivial (enters_of Tryz.func106 (by kernel_rfl) rfl) (bwd_stops 8 wr.heap.size mb2 mc met w11 hlen ma hma2 hBsz hmb2 hbs hmc2)
      (fun h k => ⟨k.1.trans h.1, k.2.trans h.2⟩) (fun W l o o' h1 h2 h3 h4 => ?_) (Below.refl _ _) (fun _ => rfl)
      (fun pre W => Ain ⟨nb, G, c1, pb, c2, tb, m, c3, fb, K, c4, N, P, T, F⟩ lb w11 met pre W)
      (fun c pre W => c = .ret ∧ Hid (Below w.heap.size w W ∧ W.cell? ⟨w.heap.size + 1 + 1, 0, none⟩ = some (.bool true) ∧ (pre <+: revF met.length → Afs ⟨nb, G, c1, pb, c2, tb, m, c3, fb, K, c4, N, P, T, F⟩ x)))
      ?hI ?hIx ?h0 (fun j a' W => ∃ Bq, w11.heap.size ≤ Bq ∧ W.cell? ⟨Bq, 0, none⟩ = some (.int .i64 ((gq met j.1).1 : Nat)) ∧ W.cell? ⟨Bq, 1, none⟩ = some (.int .i64 ((gq met j.1).2 : Nat)) ∧ a' = { tmps := #[.agg #[.slice (some ⟨nb, 0, none⟩) G c1, .slice (some ⟨pb, 0, none⟩) G c2, .slice (some ⟨tb, 0, none⟩) m c3, .slice (some ⟨fb, 0, none⟩) K c4], .agg (cellsS x), .pointer (some ⟨w.heap.size, 0, none⟩), .pointer (some ⟨w.heap.size + 1, 0, none⟩), .pointer (some ⟨w.heap.size + 1 + 1, 0, none⟩), .pointer (some ⟨lv, 0, none⟩), .slice ma met.length mc, .int .i64 (-1), undef, u9, undef, .pointer (some ⟨Bq, 0, none⟩), .pointer (some ⟨w.heap.size, 2, none⟩), .slice (some ⟨tb, 0, none⟩) m c3, .slice (some ⟨lb, 0, none⟩) m lc, .slice (some ⟨lb, 0, none⟩) m lc, .pointer (some ⟨lb, 0, none⟩), .int .i64 r, .int .i64 (-1), .bool false, u20, u21, u22, u23, u24, u25, u26, u27, u28, u29, u30, .slice (some ⟨lb, 0, none⟩) m lc, .slice ma met.length mc, .int .i64 (met.length : Nat), .int .i64 (met.length : Nat), .bool false, u36, u37, u38, u39, u40, u41, u42, u43, u44, u45, .slice ma met.length mc, .func (.func 106) #[] #[.pointer (some ⟨wr.heap.size, 0, none⟩)], .int .i64 ((j.1 : Nat) : Int), .agg #[.int .i64 ((gq met j.1).1 : Nat), .int .i64 ((gq met j.1).2 : Nat)], undef, undef, undef, undef, undef, undef, undef, undef, undef, undef, undef, undef, undef, undef, undef, undef], defers := [] }) ?hAx ?assign ?body ?done ?stop
     case hI =>
      intro s A B row hs hg hr
      have hne : ∀ k, k < w11.heap.size → some k ≠ row := fun k hk e => by have := (hr k e.symm).1; omega
      obtain ⟨h1, X1, h2, h3⟩ := hs
      refine ⟨⟨hg.os.trans h1.os, hg.tape.trans h1.tape, hg.output.trans h1.output, Nat.le_trans h1.size hg.size, fun k k1 k2 => (hg.block k (Nat.lt_of_lt_of_le k1 h1.size) (hne k k1)).trans (h1.block k k1 k2)⟩, X1, fun i hi => (h2 i hi).of_block (hg.block lb (Nat.lt_of_lt_of_le hlb11 h1.size) (hne lb hlb11)), h3⟩
     case hIx =>
      intro c s A B row hs hg hr
      obtain ⟨h1, h2, h3⟩ := hs.2.out
      have hne : ∀ k, k < w.heap.size → some k ≠ row := fun k hk e => by have := (hr k e.symm).1; have := HB3.out.size; have := HM11.out.but.size; omega
      exact ⟨hs.1, hid ⟨⟨hg.os.trans h1.os, hg.tape.trans h1.tape, hg.output.trans h1.output, Nat.le_trans h1.size hg.size, fun k k1 => (hg.block k (Nat.lt_of_lt_of_le k1 h1.size) (hne k k1)).trans (h1.block k k1)⟩, cell_kept h2 hg (fun r e => (hr r e).2), h3⟩⟩
     case h0 =>
      refine ⟨But.refl _ _, X, HM11.out.left, fun q hq => (HD.out.part q).2 (Or.inl ((HL.out q).1 hq)), fun _ => ?_⟩
      rw [List.length_nil, Nat.sub_zero, List.drop_length]
      refine kl_start (fun d hd y hy => ?_) HL.out
      induction hy using Rt.ind with
      | refl => exact hd
      | @tail a b _ h2 h3 ih =>
       rcases HD.out.out a ih b h2 h3 with h4 | h4
       ·exact h4
       ·simp at h4
     case hAx =>
      intro j a' s A B row hs hg hr
      obtain ⟨Bq, h1, h2, h3, h4⟩ := hs
      exact ⟨Bq, h1, cell_kept h2 hg (fun r e => (hr r e).2), cell_kept h3 hg (fun r e => (hr r e).2), h4⟩
     case assign =>
      rintro l pre j W K hi hK
      gi_wp2
      obtain ⟨h1, X1, h2, h3⟩ := hi
      have hb := box_below W (.cells #[.int .i64 ((gq met j.1).1 : Nat), .int .i64 ((gq met j.1).2 : Nat)] 120)
      exact hK _ _ ((KeepsOthers.alloc _ _).from _) ⟨hb.block _ (Nat.lt_of_lt_of_le hBsz h1.size), hb.block _ (Nat.lt_of_lt_of_le hmb2 h1.size)⟩ ⟨h1.trans (But.of_below hb), X1, h2.below' hb, h3⟩ ⟨W.heap.size, h1.size, cell_of_alloc rfl, cell_of_alloc rfl, rfl⟩
     case body =>
      rintro l pre j a' W hl ⟨rr, hrr⟩ hi ⟨Bq, hBq, z0, z1, rfl⟩ hlen2
      obtain ⟨hbW, X1, hlsW, hTW, hKl⟩ := hi
      dsimp only at hlsW hTW hKl
      have hjm : gq met j.1 ∈ met := by unfold gq; rw [List.getD_eq_getElem?_getD, List.getElem?_eq_getElem j.2]; exact List.getElem_mem _
      have hqT := hTm.out _ hjm
      generalize hqe : gq met j.1 = q at *
      obtain ⟨qs, qp⟩ := q
      dsimp only at hqT z0 z1 ⊢
      have HBW := hid hbW
      have HKl := hid hKl
      have HTW := hid hTW
      have HLW := hid hlsW
      have hAW := HA11.out.but hbW
      have HAz := hid (hAW.below ((Sm.refl W).drew.below _))
      have hqs : qs < 2048 := by omega
      have hlBq : lb ≠ Bq := by omega
      have HSk : Hid (∀ z, But lb W z → (fun z => z.cell? ⟨lv, 0, none⟩ = some (.slice (some ⟨lb, 0, none⟩) m lc) ∧ z.cell? ⟨Bq, 0, none⟩ = some (.int .i64 (qs : Nat)) ∧ z.cell? ⟨Bq, 1, none⟩ = some (.int .i64 (qp : Nat)) ∧ z.cell? ⟨w.heap.size, 0, none⟩ = some (.slice (some ⟨nb, 0, none⟩) G c1) ∧ z.cell? ⟨w.heap.size, 1, none⟩ = some (.slice (some ⟨pb, 0, none⟩) G c2) ∧ z.cell? ⟨w.heap.size, 2, none⟩ = some (.slice (some ⟨tb, 0, none⟩) m c3) ∧ z.cell? ⟨w.heap.size, 3, none⟩ = some (.slice (some ⟨fb, 0, none⟩) K c4))  z) := hid (fun z hz => by
       have hq := hAW.but hz
       obtain ⟨r0, r1, r2, r3⟩ := hq.rb
       exact ⟨hq.lvc, hz.cell (Ne.symm hlBq) z0, hz.cell (Ne.symm hlBq) z1, r0, r1, r2, r3⟩)
      have hS0 : (fun z => z.cell? ⟨lv, 0, none⟩ = some (.slice (some ⟨lb, 0, none⟩) m lc) ∧ z.cell? ⟨Bq, 0, none⟩ = some (.int .i64 (qs : Nat)) ∧ z.cell? ⟨Bq, 1, none⟩ = some (.int .i64 (qp : Nat)) ∧ z.cell? ⟨w.heap.size, 0, none⟩ = some (.slice (some ⟨nb, 0, none⟩) G c1) ∧ z.cell? ⟨w.heap.size, 1, none⟩ = some (.slice (some ⟨pb, 0, none⟩) G c2) ∧ z.cell? ⟨w.heap.size, 2, none⟩ = some (.slice (some ⟨tb, 0, none⟩) m c3) ∧ z.cell? ⟨w.heap.size, 3, none⟩ = some (.slice (some ⟨fb, 0, none⟩) K c4)) W.drew := HSk.out W.drew ((Sm.refl W).drew.but lb)
      have hlsD : Ls W.drew lb m X1 := (Sm.refl W).drew.ls hlsW
      have CH := hid (has_any lb (qp * 32) (X1 qp) qs W.drew hqs (hlsD qp hqT.2))
      have HT2 : Hid (∀ q, a_lf m X1 q → q.1 < G ∧ q.2 < m) := hid (fun q hq => ⟨(hTW q hq).1, (hTW q hq).2.1⟩)
      have hsWl : lb < W.drew.heap.size := Nat.lt_of_lt_of_le hlb11 hbW.size
      clear hlsW hTW hKl hbW z0 z1 hAW
      refine wpIn_block (wpIn_seq ?_)
      cases hmem : mem (X1 qp) qs
      ·refine G_round (fun z => z.cell? ⟨lv, 0, none⟩ = some (.slice (some ⟨lb, 0, none⟩) m lc) ∧ z.cell? ⟨Bq, 0, none⟩ = some (.int .i64 (qs : Nat)) ∧ z.cell? ⟨Bq, 1, none⟩ = some (.int .i64 (qp : Nat)) ∧ z.cell? ⟨w.heap.size, 0, none⟩ = some (.slice (some ⟨nb, 0, none⟩) G c1) ∧ z.cell? ⟨w.heap.size, 1, none⟩ = some (.slice (some ⟨pb, 0, none⟩) G c2) ∧ z.cell? ⟨w.heap.size, 2, none⟩ = some (.slice (some ⟨tb, 0, none⟩) m c3) ∧ z.cell? ⟨w.heap.size, 3, none⟩ = some (.slice (some ⟨fb, 0, none⟩) K c4)) (fun _ => false) (by kernel_rfl) (fun ⟨_, _, h⟩ => h) (by kernel_rfl) hS0 (fun _ => ?_)
       refine G_tk (i := 0) (oi := { dst := some 50, op := Op.load 64 (Operand.tmp 5), type := 64, pos := _, after := #[], guard := none }) (v := .slice (some ⟨lb, 0, none⟩) m lc) hS0 ?_
       (try simp only [Act.put, jq1, jq2, jq3])
       refine G_tk (i := 1) (oi := { dst := some 51, op := Op.fieldAddr 120 (Operand.tmp 11) 1, type := 0, pos := _, after := #[], guard := none }) (v := .pointer (some ⟨Bq, 1, none⟩)) hS0 ?_
       (try simp only [Act.put, jq1, jq2, jq3])
       refine G_tk (i := 2) (oi := { dst := some 52, op := Op.load 3 (Operand.tmp 51), type := 3, pos := _, after := #[{ on := 1, ground := Ground.data }], guard := none }) (v := .int .i64 (qp : Nat)) hS0 ?_
       (try simp only [Act.put, jq1, jq2, jq3])
       refine G_tk (i := 3) (oi := { dst := some 53, op := Op.indexAddr 64 (Operand.tmp 50) (Operand.tmp 52), type := 0, pos := _, after := #[{ on := 0, ground := Ground.data }, { on := 2, ground := Ground.data }], guard := none }) (v := .pointer (some ⟨lb, qp * 32, none⟩)) hS0 ?_
       (try simp only [Act.put, jq1, jq2, jq3])
       refine G_tk (i := 4) (oi := { dst := some 54, op := Op.fieldAddr 120 (Operand.tmp 11) 0, type := 0, pos := _, after := #[], guard := none }) (v := .pointer (some ⟨Bq, 0, none⟩)) hS0 ?_
       (try simp only [Act.put, jq1, jq2, jq3])
       refine G_tk (i := 5) (oi := { dst := some 55, op := Op.load 3 (Operand.tmp 54), type := 3, pos := _, after := #[{ on := 4, ground := Ground.data }], guard := none }) (v := .int .i64 (qs : Nat)) hS0 ?_
       (try simp only [Act.put, jq1, jq2, jq3])
       refine G_step (i := 6) (o := _) (by kernel_rfl) rfl (fun K' hK => ?_)
       go_simp
       refine CH.out.mono ?_
       rintro e z1 ⟨rfl, rfl⟩
       dsimp only
       refine hK.out _ _ (fun _ => hS0) (fun _ => ?_)
       (try simp only [Act.put, jq1, jq2, jq3])
       rw [hmem]
       refine G_tk (i := 7) (oi := { dst := some 57, op := Op.move (Operand.tmp 56), type := 4, pos := _, after := #[{ on := 6, ground := Ground.data }, { on := 6, ground := Ground.chain }], guard := none }) (v := .bool false) hS0 ?_
       (try simp only [Act.put, jq1, jq2, jq3])
       refine G_skip (i := 8) (oi := { dst := some 58, op := Op.load 67 (Operand.tmp 2), type := 67, pos := _, after := #[{ on := 7, ground := Ground.guard }], guard := some (7, true) }) rfl (by kernel_rfl) (by kernel_rfl) (by kernel_rfl) (by kernel_rfl) (fun _ _ _ h => h) (by rfl) hS0 ?_
       (try simp only [Act.put, jq1, jq2, jq3])
       refine G_skip (i := 9) (oi := { dst := some 59, op := Op.load 120 (Operand.tmp 11), type := 120, pos := _, after := #[{ on := 7, ground := Ground.guard }], guard := some (7, true) }) rfl (by kernel_rfl) (by kernel_rfl) (by kernel_rfl) (by kernel_rfl) (fun _ _ _ h => h) (by rfl) hS0 ?_
       (try simp only [Act.put, jq1, jq2, jq3])
       refine G_skip (i := 10) (oi := { dst := some 60, op := Op.load 64 (Operand.tmp 5), type := 64, pos := _, after := #[{ on := 7, ground := Ground.guard }], guard := some (7, true) }) rfl (by kernel_rfl) (by kernel_rfl) (by kernel_rfl) (by kernel_rfl) (fun _ _ _ h => h) (by rfl) hS0 ?_
       (try simp only [Act.put, jq1, jq2, jq3])
       refine G_skip (i := 11) (oi := { dst := some 61, op := Op.load 67 (Operand.tmp 2), type := 67, pos := _, after := #[{ on := 7, ground := Ground.guard }], guard := some (7, true) }) rfl (by kernel_rfl) (by kernel_rfl) (by kernel_rfl) (by kernel_rfl) (fun _ _ _ h => h) (by rfl) hS0 ?_
       (try simp only [Act.put, jq1, jq2, jq3])
       refine G_skip (i := 12) (oi := { dst := some 62, op := Op.makeFunc (.func 79) #[Operand.tmp 61] #[], type := 121, pos := _, after := #[{ on := 11, ground := Ground.data }, { on := 7, ground := Ground.guard }], guard := some (7, true) }) rfl (by kernel_rfl) (by kernel_rfl) (by kernel_rfl) (by kernel_rfl) (fun _ _ _ h => h) (by rfl) hS0 ?_
       (try simp only [Act.put, jq1, jq2, jq3])
       refine G_skip (i := 13) (oi := { dst := some 63, op := Op.call { callee := Callee.value (Operand.func 75), args := #[Operand.tmp 59, Operand.tmp 60, Operand.tmp 62], argTypes := #[120, 64, 121] }, type := 116, pos := _, after := #[{ on := 9, ground := Ground.data }, { on := 10, ground := Ground.data }, { on := 12, ground := Ground.data }, { on := 7, ground := Ground.chain }, { on := 7, ground := Ground.guard }], guard := some (7, true) }) rfl (by kernel_rfl) (by kernel_rfl) (by kernel_rfl) (by kernel_rfl) (fun _ _ _ h => h) (by rfl) hS0 ?_
       (try simp only [Act.put, jq1, jq2, jq3])
       refine G_skip (i := 14) (oi := { dst := some 64, op := Op.call { callee := Callee.value (Operand.func 78), args := #[Operand.tmp 58, Operand.tmp 63], argTypes := #[67, 116] }, type := 4, pos := _, after := #[{ on := 8, ground := Ground.data }, { on := 13, ground := Ground.data }, { on := 13, ground := Ground.chain }, { on := 7, ground := Ground.guard }], guard := some (7, true) }) rfl (by kernel_rfl) (by kernel_rfl) (by kernel_rfl) (by kernel_rfl) (fun _ _ _ h => h) (by rfl) hS0 ?_
       (try simp only [Act.put, jq1, jq2, jq3])
       refine G_tk (i := 15) (oi := { dst := some 65, op := Op.pick (Operand.tmp 57) (Operand.tmp 64) (Operand.const (Value.bool false)), type := 4, pos := _, after := #[{ on := 7, ground := Ground.data }, { on := 14, ground := Ground.data }], guard := none }) (v := .bool false) hS0 ?_
       (try simp only [Act.put, jq1, jq2, jq3])
       refine G_done (by kernel_rfl) ?_ _
       dsimp only [Exit.then]
       gi_wp2
       refine ⟨keeps_but ((Sm.refl W).drew.but lb) hlb11, kb_but ((Sm.refl W).drew.but lb) hlbw11 hmb3 (by have := HBW.out.size; omega) (by have := HBW.out.size; omega), ⟨HBW.out.trans ((Sm.refl W).drew.but lb), X1, hlsD, HTW.out, fun hpf => ?_⟩⟩
       obtain ⟨g1, g2, g3⟩ := pre_last hpf
       have hq : met.getD (met.length - 1 - pre.length) (0, 0) = (qs, qp) := by rw [← g3]; exact hqe
       rw [List.length_append, List.length_singleton, (drop_last g2).1, hq]
       exact (HKl.out g1).skip (fun hh => by have := hh.2.2; dsimp only at this; rw [hmem] at this; cases this)
      ·have CW := hid (walkB_any ⟨nb, G, c1, pb, c2, tb, m, c3, fb, K, c4, N, P, T, F⟩ lb lc X1 qs qp W.drew HAz.out.rw hlsD hsWl HAz.out.na (fun x y => Es ⟨nb, G, c1, pb, c2, tb, m, c3, fb, K, c4, N, P, T, F⟩ y x) (a_lf m X1) [] (dfs_nil (fun _ => Iff.rfl)) (fun q t hq ht => es_sb HK.out q t (HT2.out q hq) (HT2.out t ht)) HT2.out ⟨hqT.2, hqs, hmem⟩)
       refine G_round (fun z => z.cell? ⟨lv, 0, none⟩ = some (.slice (some ⟨lb, 0, none⟩) m lc) ∧ z.cell? ⟨Bq, 0, none⟩ = some (.int .i64 (qs : Nat)) ∧ z.cell? ⟨Bq, 1, none⟩ = some (.int .i64 (qp : Nat)) ∧ z.cell? ⟨w.heap.size, 0, none⟩ = some (.slice (some ⟨nb, 0, none⟩) G c1) ∧ z.cell? ⟨w.heap.size, 1, none⟩ = some (.slice (some ⟨pb, 0, none⟩) G c2) ∧ z.cell? ⟨w.heap.size, 2, none⟩ = some (.slice (some ⟨tb, 0, none⟩) m c3) ∧ z.cell? ⟨w.heap.size, 3, none⟩ = some (.slice (some ⟨fb, 0, none⟩) K c4)) (fun _ => false) (by kernel_rfl) (fun ⟨_, _, h⟩ => h) (by kernel_rfl) hS0 (fun _ => ?_)
       refine G_tk (i := 0) (oi := { dst := some 50, op := Op.load 64 (Operand.tmp 5), type := 64, pos := _, after := #[], guard := none }) (v := .slice (some ⟨lb, 0, none⟩) m lc) hS0 ?_
       (try simp only [Act.put, jq1, jq2, jq3])
       refine G_tk (i := 1) (oi := { dst := some 51, op := Op.fieldAddr 120 (Operand.tmp 11) 1, type := 0, pos := _, after := #[], guard := none }) (v := .pointer (some ⟨Bq, 1, none⟩)) hS0 ?_
       (try simp only [Act.put, jq1, jq2, jq3])
       refine G_tk (i := 2) (oi := { dst := some 52, op := Op.load 3 (Operand.tmp 51), type := 3, pos := _, after := #[{ on := 1, ground := Ground.data }], guard := none }) (v := .int .i64 (qp : Nat)) hS0 ?_
       (try simp only [Act.put, jq1, jq2, jq3])
       refine G_tk (i := 3) (oi := { dst := some 53, op := Op.indexAddr 64 (Operand.tmp 50) (Operand.tmp 52), type := 0, pos := _, after := #[{ on := 0, ground := Ground.data }, { on := 2, ground := Ground.data }], guard := none }) (v := .pointer (some ⟨lb, qp * 32, none⟩)) hS0 ?_
       (try simp only [Act.put, jq1, jq2, jq3])
       refine G_tk (i := 4) (oi := { dst := some 54, op := Op.fieldAddr 120 (Operand.tmp 11) 0, type := 0, pos := _, after := #[], guard := none }) (v := .pointer (some ⟨Bq, 0, none⟩)) hS0 ?_
       (try simp only [Act.put, jq1, jq2, jq3])
       refine G_tk (i := 5) (oi := { dst := some 55, op := Op.load 3 (Operand.tmp 54), type := 3, pos := _, after := #[{ on := 4, ground := Ground.data }], guard := none }) (v := .int .i64 (qs : Nat)) hS0 ?_
       (try simp only [Act.put, jq1, jq2, jq3])
       refine G_step (i := 6) (o := _) (by kernel_rfl) rfl (fun K' hK => ?_)
       go_simp
       refine CH.out.mono ?_
       rintro e z1 ⟨rfl, rfl⟩
       dsimp only
       refine hK.out _ _ (fun _ => hS0) (fun _ => ?_)
       (try simp only [Act.put, jq1, jq2, jq3])
       rw [hmem]
       refine G_tk (i := 7) (oi := { dst := some 57, op := Op.move (Operand.tmp 56), type := 4, pos := _, after := #[{ on := 6, ground := Ground.data }, { on := 6, ground := Ground.chain }], guard := none }) (v := .bool true) hS0 ?_
       (try simp only [Act.put, jq1, jq2, jq3])
       refine G_tk (i := 8) (oi := { dst := some 58, op := Op.load 67 (Operand.tmp 2), type := 67, pos := _, after := #[{ on := 7, ground := Ground.guard }], guard := some (7, true) }) (v := .agg #[.slice (some ⟨nb, 0, none⟩) G c1, .slice (some ⟨pb, 0, none⟩) G c2, .slice (some ⟨tb, 0, none⟩) m c3, .slice (some ⟨fb, 0, none⟩) K c4]) hS0 ?_
       (try simp only [Act.put, jq1, jq2, jq3])
       refine G_tk (i := 9) (oi := { dst := some 59, op := Op.load 120 (Operand.tmp 11), type := 120, pos := _, after := #[{ on := 7, ground := Ground.guard }], guard := some (7, true) }) (v := .agg #[.int .i64 (qs : Nat), .int .i64 (qp : Nat)]) hS0 ?_
       (try simp only [Act.put, jq1, jq2, jq3])
       refine G_tk (i := 10) (oi := { dst := some 60, op := Op.load 64 (Operand.tmp 5), type := 64, pos := _, after := #[{ on := 7, ground := Ground.guard }], guard := some (7, true) }) (v := .slice (some ⟨lb, 0, none⟩) m lc) hS0 ?_
       (try simp only [Act.put, jq1, jq2, jq3])
       refine G_tk (i := 11) (oi := { dst := some 61, op := Op.load 67 (Operand.tmp 2), type := 67, pos := _, after := #[{ on := 7, ground := Ground.guard }], guard := some (7, true) }) (v := .agg #[.slice (some ⟨nb, 0, none⟩) G c1, .slice (some ⟨pb, 0, none⟩) G c2, .slice (some ⟨tb, 0, none⟩) m c3, .slice (some ⟨fb, 0, none⟩) K c4]) hS0 ?_
       (try simp only [Act.put, jq1, jq2, jq3])
       refine G_tk (i := 12) (oi := { dst := some 62, op := Op.makeFunc (.func 79) #[Operand.tmp 61] #[], type := 121, pos := _, after := #[{ on := 11, ground := Ground.data }, { on := 7, ground := Ground.guard }], guard := some (7, true) }) (v := .func (.func 79) #[.agg #[.slice (some ⟨nb, 0, none⟩) G c1, .slice (some ⟨pb, 0, none⟩) G c2, .slice (some ⟨tb, 0, none⟩) m c3, .slice (some ⟨fb, 0, none⟩) K c4]] #[]) hS0 ?_
       (try simp only [Act.put, jq1, jq2, jq3])
       refine G_step (i := 13) (o := _) (by kernel_rfl) rfl (fun K' hK => ?_)
       go_simp
       refine CW.out.mono ?_
       rintro e z2 ⟨pv, part, X2, rfl, hpo, hpl, hpb, hpd, hpm, hpr⟩
       obtain ⟨pa, pc, rfl, hsp, _⟩ := owns_sp hpo
       have hS2 := HSk.out z2 (((Sm.refl W).drew.but lb).trans hpb)
       dsimp only
       refine hK.out _ _ (fun _ => hS2) (fun _ => ?_)
       (try simp only [Act.put, jq1, jq2, jq3])
       refine G_step (i := 14) (o := _) (by kernel_rfl) rfl (fun K' hK => ?_)
       go_simp
       have hpart : ∀ i, i < part.length → (part.getD i (0, 0)).1 < G ∧ (part.getD i (0, 0)).2 < m := fun i hi => HT2.out _ ((hpd.part _).2 (Or.inl (by rw [List.getD_eq_getElem?_getD, List.getElem?_eq_getElem hi]; exact List.getElem_mem _)))
       have hplen := dfs_len (met := []) (D := part) (P := []) hpd (G := G) (m := m) HT2.out hG hm60
       simp only [List.length_nil, Nat.add_zero] at hplen
       refine (isFair_any ⟨nb, G, c1, pb, c2, tb, m, c3, fb, K, c4, N, P, T, F⟩ pa part.length pc (fun i => part.getD i (0, 0)) z2 (HAz.out.but hpb).rw hsp (List.length_pos_of_mem hpm) (by omega) hpart).mono ?_
       rintro e z3 ⟨rfl, hb3⟩
       have hbz : But lb W z3 := (((Sm.refl W).drew.but lb).trans hpb).trans (But.of_below hb3)
       have hS3 := HSk.out z3 hbz
       dsimp only
       refine hK.out _ _ (fun _ => hS3) (fun _ => ?_)
       (try simp only [Act.put, jq1, jq2, jq3])
       generalize hfr : frs ⟨nb, G, c1, pb, c2, tb, m, c3, fb, K, c4, N, P, T, F⟩ part.length (fun i => part.getD i (0, 0)) = fr
       refine G_tk (i := 15) (oi := { dst := some 65, op := Op.pick (Operand.tmp 57) (Operand.tmp 64) (Operand.const (Value.bool false)), type := 4, pos := _, after := #[{ on := 7, ground := Ground.data }, { on := 14, ground := Ground.data }], guard := none }) (v := .bool fr) hS3 ?_
       (try simp only [Act.put, jq1, jq2, jq3])
       refine G_done (by kernel_rfl) ?_ _
       have hpd' : Dfs (fun x y => Es ⟨nb, G, c1, pb, c2, tb, m, c3, fb, K, c4, N, P, T, F⟩ y x) (a_lf m X1) part [] (a_lf m X2) := hpd
       have hHP := hid (And.intro hpd' (And.intro hpm hpr))
       have hpl3 := hpl.below' hb3
       have hAz3 := (HAz.out.but hpb).below hb3
       have hfp : Hid (pre ++ [j] <+: revF met.length → (fr = true ↔ Fp (Es ⟨nb, G, c1, pb, c2, tb, m, c3, fb, K, c4, N, P, T, F⟩) (Ts ⟨nb, G, c1, pb, c2, tb, m, c3, fb, K, c4, N, P, T, F⟩) K (Fs ⟨nb, G, c1, pb, c2, tb, m, c3, fb, K, c4, N, P, T, F⟩) (qs, qp))) := hid (fun hpf => by
        obtain ⟨g1, g2, g3⟩ := pre_last hpf
        have hq : met.getD (met.length - 1 - pre.length) (0, 0) = (qs, qp) := by rw [← g3]; exact hqe
        have hmeq := (drop_last g2).2
        rw [hq] at hmeq
        rw [← hfr]
        exact frs_fp ⟨nb, G, c1, pb, c2, tb, m, c3, fb, K, c4, N, P, T, F⟩ hG part (qs, qp) (HTW.out _ ⟨hqT.2, hqs, hmem⟩) (by have := hpd'.nd; rwa [List.append_nil] at this) hpm ((HKl.out g1).part (by have := HD.out.nd; rwa [List.append_nil] at this) HD.out.kosaraju hmeq (fun x hx => (HD.out.part x).2 (Or.inl hx)) ⟨hqT.2, hqs, hmem⟩ hpd' hpm hpr))
       have HPL3 := hid hpl3
       clear hpd hpd' hpl3 hpl hpo hsp hpart hplen hpm hpr hS0 hS2 hfr
       have hfT : Hid (fr = true → pre ++ [j] <+: revF met.length → Fp (Es ⟨nb, G, c1, pb, c2, tb, m, c3, fb, K, c4, N, P, T, F⟩) (Ts ⟨nb, G, c1, pb, c2, tb, m, c3, fb, K, c4, N, P, T, F⟩) K (Fs ⟨nb, G, c1, pb, c2, tb, m, c3, fb, K, c4, N, P, T, F⟩) (qs, qp)) := hid (fun e h => (hfp.out h).1 e)
       have hfF : Hid (fr = false → pre ++ [j] <+: revF met.length → ¬ Fp (Es ⟨nb, G, c1, pb, c2, tb, m, c3, fb, K, c4, N, P, T, F⟩) (Ts ⟨nb, G, c1, pb, c2, tb, m, c3, fb, K, c4, N, P, T, F⟩) K (Fs ⟨nb, G, c1, pb, c2, tb, m, c3, fb, K, c4, N, P, T, F⟩) (qs, qp)) := hid (fun e h hf => by rw [(hfp.out h).2 hf] at e; cases e)
       clear hfp
       cases fr
       ·have hnF := hid (hfF.out rfl)
        clear hfT hfF
        dsimp only [Exit.then]
        gi_wp2
        refine ⟨keeps_but hbz hlb11, kb_but hbz hlbw11 hmb3 (by have := HBW.out.size; omega) (by have := HBW.out.size; omega), ⟨HBW.out.trans hbz, X2, HPL3.out, fun q hq => HTW.out q ((hHP.out.1.part q).2 (Or.inr (Or.inr hq))), fun hpf => ?_⟩⟩
        have hnf := hnF.out hpf
        obtain ⟨g1, g2, g3⟩ := pre_last hpf
        have hq : met.getD (met.length - 1 - pre.length) (0, 0) = (qs, qp) := by rw [← g3]; exact hqe
        have hmeq := (drop_last g2).2
        rw [hq] at hmeq
        rw [List.length_append, List.length_singleton, (drop_last g2).1, hq]
        exact (HKl.out g1).go (by have := HD.out.nd; rwa [List.append_nil] at this) HD.out.kosaraju hmeq (fun x hx => (HD.out.part x).2 (Or.inl hx)) ⟨hqT.2, hqs, hmem⟩ hHP.out.1 hHP.out.2.1 hHP.out.2.2 hnf
       ·have hyF := hid (hfT.out rfl)
        clear hfT hfF
        have rc := hAz3.rc
        have rf := hAz3.rf
        dsimp only [Exit.then]
        gi_wp2
        have hb4 : But (w.heap.size + 1 + 1) z3 (z3.setCell ⟨w.heap.size + 1 + 1, 0, none⟩ (.bool true)) := (But.refl _ _).setCell _ _
        have hszz : w11.heap.size ≤ z3.heap.size := Nat.le_trans HBW.out.size hbz.size
        have hsz11 : W3.heap.size ≤ w11.heap.size := HM11.out.but.size
        refine ⟨(keeps_but hbz hlb11).trans (keeps_but hb4 (by omega)), rfl, hid ⟨?_, World.cell?_setCell_same _ _ _ rc, fun hpf => ⟨(qs, qp), HBG.out _ hjm, hyF.out hpf⟩⟩⟩
        have hBW : Below w.heap.size w z3 := HB3.out.trans (((HM11.out.but.trans HBW.out).trans hbz).below (by omega) (by omega))
        exact hBW.trans (hb4.below (by omega) (by have := hBW.size; omega))
     case done =>
      rintro D xs W hD rfl hI hK
      obtain ⟨hbW, X1, hlsW, hTW, hKl⟩ := hI
      dsimp only at hlsW hTW hKl
      have hAW := HA11.out.but hbW
      have rc := hAW.rc
      have rf := hAW.rf
      have hkl := hid (hKl (List.prefix_refl _))
      have hsz11 : W3.heap.size ≤ w11.heap.size := HM11.out.but.size
      have hBW : Below w.heap.size w W := HB3.out.trans ((HM11.out.but.trans hbW).below (by omega) (by omega))
      have HBW := hid hBW
      clear hKl hTW hlsW hAW hBW
      go_wp2
      have hK' := (KeepsOthers.setCell W ⟨w.heap.size + 1 + 1, 0, none⟩ (.bool false)).same D _ hK rfl
      refine ⟨by simp, .inl ⟨_, _, rfl, run_takeDeferred hK', ?_⟩⟩
      have hg5 := grownBy_putObj' (W.setCell ⟨w.heap.size + 1 + 1, 0, none⟩ (.bool false)) D (.deferred none)
      have hc5 := cell_kept (World.cell?_setCell_same W ⟨w.heap.size + 1 + 1, 0, none⟩ (.bool false) rc) hg5 (fun r e => by cases e; exact ⟨_, hK', rfl⟩)
      refine ⟨.bool false, by simp [results, Tryz.f30, go_sem, hc5], ⟨false, rfl, ?_⟩, ?_⟩
      ·refine ⟨(fun h => by cases h), fun ⟨z, ⟨s, h1, h2, h3, h4⟩, hf⟩ => ?_⟩
       have hcl : ∀ y, Rt (Es ⟨nb, G, c1, pb, c2, tb, m, c3, fb, K, c4, N, P, T, F⟩) (Ts ⟨nb, G, c1, pb, c2, tb, m, c3, fb, K, c4, N, P, T, F⟩) (s, 0) y → y ∈ met := by
        intro y hy
        induction hy using Rt.ind with
        | refl => exact hbeg.out s h1 h2 h3
        | @tail a b _ g2 g3 ih =>
         rcases HD.out.out a ih b g2 g3 with g4 | g4
         ·exact g4
         ·simp at g4
       have hz := hcl z h4
       have hk := hkl.out
       rw [revF_len, Nat.sub_self, List.drop_zero] at hk
       exact absurd hf (hk.nf z hz (hk.off z hz))
      ·have hb6 := HBW.out.setCell (p := ⟨w.heap.size + 1 + 1, 0, none⟩) (by dsimp only; omega) (.bool false)
       exact hb6.grown hg5 hb6.size (fun k hk => by cases hk; omega)
     case stop =>
      rintro D c pre W hD hp ⟨rfl, hI⟩ hK
      obtain ⟨hBW, hcc, hacc⟩ := hI.out
      have hac := hid (hacc hp)
      have HBW := hid hBW
      clear hI hacc hBW
      refine wpIn_wide.2 ?_
      go_wp2
      refine ⟨by simp, .inl ⟨_, _, rfl, run_takeDeferred hK, ?_⟩⟩
      have hg5 := grownBy_putObj' W D (.deferred none)
      have hc5 := cell_kept hcc hg5 (fun r e => by cases e; exact ⟨_, hK, rfl⟩)
      have hsz11 : W3.heap.size ≤ w11.heap.size := HM11.out.but.size
      refine ⟨.bool true, by simp [results, Tryz.f30, go_sem, hc5], ⟨true, rfl, fun _ => hac.out, fun _ => rfl⟩, ?_⟩
      exact HBW.out.grown hg5 HBW.out.size (fun k hk => by cases hk; omega)
     ·have hlt := (jq4.1 h2).1
      have hg := grownBy_putObj' W l o'
      exact ⟨hg.block _ (by omega) (fun e => by rw [Option.some.injEq] at e; omega), hg.block _ (by omega) (fun e => by rw [Option.some.injEq] at e; omega)⟩
end Go.Proofs.YtmdpbaobihdgkaaGreatDoor
