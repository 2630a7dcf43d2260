/- explore. -/
import Derived.Test.YthpbgfodejoecaaSpRev
import Derived.Test.YthpbgfodejoecaaGameLay
namespace Go.Proofs.Ythpbgfodejoecaa
open Go.RowKit Go.Maps

theorem results_cell_tmp3 {P : Program} {fn : Func} {p u v : Tmp} {ty : TypeId} (h : fn.results = #[.cell p ty, .tmp u, .tmp v]) (tmps : Array Value) (w : World) (g : Nat) (t : TypeId) (cs : Array Value) (fr : Nat × Nat) (d : TypeDesc)
    (hp : tmps.getD p undef = .pointer (some ⟨g, 0, none⟩)) (hg : w.heap[g]? = some (.cells cs t fr))
    (hu : P.underlying ty = some d) (hd : (match d with | .struct _ | .array _ _ => true | _ => false) = true) (hi : (P.info? ty).map (·.size) = some cs.size) :
    (results fn tmps).run P w = .ok (.tuple #[.agg cs, tmps.getD u undef, tmps.getD v undef]) w := by
  have hp' : tmps[p]?.getD undef = .pointer (some ⟨g, 0, none⟩) := by simpa using hp
  simp [results, h, hp', asAddr, run_loadVar_row w g t ty cs fr d hg hu hd hi]

/-- Two cells lie in block r, and may be written. -/
def Two (w : World) (r : Nat) (a b : Value) : Prop := w.heap[r]? = some (.cells #[a, b] 37 (0, 0))

theorem two_cells {w : World} {r : Nat} {a b : Value} (h : Two w r a b) : (w.cell? ⟨r, 0, none⟩ = some a ∧ w.cell? ⟨r, 1, none⟩ = some b) ∧ w.frozen? ⟨r, 0, none⟩ = false ∧ w.frozen? ⟨r, 1, none⟩ = false := by
  refine ⟨⟨cell_of_cells h rfl, cell_of_cells h rfl⟩, ?_⟩
  unfold Two at h
  simp [World.frozen?, h]

theorem two_set {w : World} {r : Nat} {a b a' b' : Value} (h : Two w r a b) : Two ((w.setCell ⟨r, 0, none⟩ a').setCell ⟨r, 1, none⟩ b') r a' b' := by
  unfold Two at *
  simp [World.setCell, Array.getElem?_modify, h]

theorem Two.below {w w' : World} {B r : Nat} {a b : Value} (h : Two w r a b) (hb : Below B w w') (hr : r < B) : Two w' r a b := by
  unfold Two at *
  rw [hb.block r hr]
  exact h

theorem two_new {w : World} {r : Nat} {a b a' b' : Value} {o : Obj} (h : Two w r a b) : Two (((w.setCell ⟨r, 0, none⟩ a').setCell ⟨r, 1, none⟩ b').alloc o) r a' b' := by
  have h1 := two_set (a' := a') (b' := b') h
  have h2 := (Array.getElem?_eq_some_iff.1 h1).1
  unfold Two at *
  rw [Below.heap_alloc _ _ _ h2]
  exact h1

theorem two_below {w0 w : World} {r : Nat} {a b : Value} {o : Obj} (h : Below w0.heap.size w0 w) (hr : w0.heap.size ≤ r) : Below w0.heap.size w0 (((w.setCell ⟨r, 0, none⟩ a).setCell ⟨r, 1, none⟩ b).alloc o) :=
  ((h.setCell hr _).setCell hr _).alloc ((h.setCell hr _).setCell hr _).size _

theorem kp_two {L : List (Option TypeId)} {w : World} {r : Nat} {a b x y : Value} (h : Two w r a b) (ht : some 37 ∉ L) : Kp L w ((w.setCell ⟨r, 0, none⟩ x).setCell ⟨r, 1, none⟩ y) := fun j o ho htg => by
  by_cases e : j = r
  · subst e
    unfold Two at h
    rw [h] at ho
    cases ho
    exact absurd htg ht
  · rw [Below.heap_setCell _ _ _ _ e, Below.heap_setCell _ _ _ _ e]
    exact ho

theorem cam_len {C : List (Int × Int)} {ways : List (List Int)} (h : Cam C ways) : ∀ (n k : Nat), k < n → k < ways.length → (ways.getD k []).length ≤ k
  | 0, k, hk, _ => by omega
  | n + 1, k, hk, hl => by
    rcases h.2 k hl with ⟨_, _, h2⟩ | ⟨j, h1, _, h3⟩
    · rw [h2]
      simp
    · have := cam_len h n j (by omega) (by omega)
      rw [h3, List.length_append, List.length_singleton]
      omega

/-- A space, in memory from base on. -/
def Spc (w : World) (base : Nat) (mv nv : Value) (F : Nat) (marks : List (List Int)) (nexts : List (List (Int × Int))) : Prop := Mks w base mv F marks ∧ Nxs w base nv nexts

/-- What explore answers. -/
def ExIs (b0 : Nat) (E tk st : Int) (F : Nat) (R : Sum (Int × List Int) Xp) (e : Ending) (w : World) : Prop :=
  (E ≠ 0 ∧ e = .returned (.tuple #[.agg #[.slice none 0 0, .slice none 0 0], .slice none 0 0, .int .i64 E])) ∨
  (E = 0 ∧ ¬ ((1 ≤ tk ∧ tk ≤ 9) ∧ 1 ≤ st ∧ st ≤ 200) ∧ e = .returned (.tuple #[.agg #[.slice none 0 0, .slice none 0 0], .slice none 0 0, .int .i64 1])) ∨
  (E = 0 ∧ ((1 ≤ tk ∧ tk ≤ 9) ∧ 1 ≤ st ∧ st ≤ 200) ∧ ∃ (c : Int) (way : List Int) (a : Option Addr) (cp : Nat), R = .inl (c, way) ∧ c ≠ 0 ∧ e = .returned (.tuple #[.agg #[.slice none 0 0, .slice none 0 0], .slice a way.length cp, .int .i64 c]) ∧ Row w a way.length (fun i => way.getD i 0)) ∨
  (E = 0 ∧ ((1 ≤ tk ∧ tk ≤ 9) ∧ 1 ≤ st ∧ st ≤ 200) ∧ ∃ (T : Xp) (mv nv : Value) (base : Nat), b0 ≤ base ∧ R = .inr T ∧ e = .returned (.tuple #[.agg #[mv, nv], .slice none 0 0, .int .i64 0]) ∧ Spc w base mv nv F T.marks T.nexts)

/-- The reckoning. -/
def xall (tk st : Int) (K A B : Nat → Int) (F : Nat) (l : List St3) (X : List Int → Nat → Int) : Sum (Int × List Int) Xp := xouter tk st.toNat (nxl K A B F l) (cnl X l.length) 201 (xstart (lst F (bgn K A)))

/-- How far the markings have been gone through. -/
structure Exd (W wr : World) (base r mb : Nat) (b0 b1 b2 b3 b4 : Value) (tk : Int) (q F : Nat) (nx : Int → List Int → List Int) (cn : List Int → List Int) (m0 : List Int) (R : Sum (Int × List Int) Xp) (T : Xp) (k : Nat) (C : List (Int × Int)) (mv nv cv : Value) (D : DataW Unit) : Prop where
  below : Below base W wr
  big : base ≤ wr.heap.size
  rest : ∃ f, f + k = 201 ∧ xouter tk q nx cn f T = R
  len : T.nexts.length = k
  inv : XInv tk q nx cn m0 T []
  cur : T.cur = []
  xr : Xr wr base r mb b0 b1 b2 b3 b4 tk q F T.marks T.nexts C mv nv cv D
  cam : Cam C T.ways

theorem xr_start {W : World} {b0 b1 b2 b3 b4 : Value} {tk st : Int} {F : Nat} : Xr ((W.alloc (.map #[] 0)).alloc (.cells #[b0, b1, b2, b3, b4, .int .i64 tk, .int .i64 st, .slice none 0 0, .slice none 0 0, .map (some W.heap.size), .slice none 0 0] 123)) W.heap.size (W.heap.size + 1) W.heap.size b0 b1 b2 b3 b4 tk st F [] [] [] (.slice none 0 0) (.slice none 0 0) (.slice none 0 0) (.map []) := by
  have e : (W.alloc (.map #[] 0)).heap.size = W.heap.size + 1 := by simp
  refine ⟨by omega, Nat.le_refl _, ?_, ⟨fun _ => 0, ⟨[], World.ownsRow_nil _ _ _ _, fun i hi => by simp at hi⟩, fun i hi => by simp at hi⟩, ⟨[], World.ownsRow_nil _ _ _ _, fun i hi => by simp at hi⟩, World.ownsRow_nil _ _ _ _, (World.ownsMap_made _ _ _ _).alloc _, nmd_start F, rfl, fun m hm => by cases hm⟩
  unfold Srch
  rw [← e]
  exact Go.Deep.blk_alloc_new _ _

theorem exd_next {W wr w6 : World} {base r mb : Nat} {b0 b1 b2 b3 b4 : Value} {tk : Int} {q F : Nat} {nx : Int → List Int → List Int} {cn : List Int → List Int} {m0 : List Int} {R : Sum (Int × List Int) Xp} {T T' : Xp} {k : Nat} {C C' : List (Int × Int)} {mv nv cv mv' nv' cv' : Value} {D D' : DataW Unit}
    (h : Exd W wr base r mb b0 b1 b2 b3 b4 tk q F nx cn m0 R T k C mv nv cv D) (hq : q ≤ 200) (hlt : T.nexts.length < T.marks.length) (hb : Below base wr w6) (hin : xinner tk q nx (cn T.here) T = .inr T') (hI : XInv tk q nx cn m0 T' (cn T'.here)) (hn : T'.nexts = T.nexts) (hlt' : T'.nexts.length < T'.marks.length) (hc : Cam C' T'.ways)
    (hx : Xr w6 base r mb b0 b1 b2 b3 b4 tk q F T'.marks (T'.nexts ++ [T'.cur]) C' mv' nv' cv' D') : Exd W w6 base r mb b0 b1 b2 b3 b4 tk q F nx cn m0 R T'.close (k + 1) C' mv' nv' cv' D' := by
  obtain ⟨f, hf, hR⟩ := h.rest
  have h1 := h.len
  have h2 := h.inv.few
  refine ⟨h.below.trans hb, Nat.le_trans h.big hb.size, ?_, ?_, xclose_inv hI hlt', rfl, hx, hc⟩
  · cases f with
    | zero => omega
    | succ f =>
      refine ⟨f, by omega, ?_⟩
      unfold xouter at hR
      rw [if_pos hlt, hin] at hR
      exact hR
  · show (T'.nexts ++ [T'.cur]).length = k + 1
    rw [hn]
    simp [h1]

theorem exd_stop {W wr : World} {base r mb : Nat} {b0 b1 b2 b3 b4 : Value} {tk : Int} {q F : Nat} {nx : Int → List Int → List Int} {cn : List Int → List Int} {m0 : List Int} {R : Sum (Int × List Int) Xp} {T : Xp} {k : Nat} {C : List (Int × Int)} {mv nv cv : Value} {D : DataW Unit} {e : Int × List Int}
    (h : Exd W wr base r mb b0 b1 b2 b3 b4 tk q F nx cn m0 R T k C mv nv cv D) (hq : q ≤ 200) (hlt : T.nexts.length < T.marks.length) (hin : xinner tk q nx (cn T.here) T = .inl e) : R = .inl e := by
  obtain ⟨f, hf, hR⟩ := h.rest
  have h1 := h.len
  have h2 := h.inv.few
  cases f with
  | zero => omega
  | succ f =>
    unfold xouter at hR
    rw [if_pos hlt, hin] at hR
    exact hR.symm

theorem exd_end {W wr : World} {base r mb : Nat} {b0 b1 b2 b3 b4 : Value} {tk : Int} {q F : Nat} {nx : Int → List Int → List Int} {cn : List Int → List Int} {m0 : List Int} {R : Sum (Int × List Int) Xp} {T : Xp} {k : Nat} {C : List (Int × Int)} {mv nv cv : Value} {D : DataW Unit}
    (h : Exd W wr base r mb b0 b1 b2 b3 b4 tk q F nx cn m0 R T k C mv nv cv D) (hlt : ¬ T.nexts.length < T.marks.length) : R = .inr T := by
  obtain ⟨f, hf, hR⟩ := h.rest
  cases f with
  | zero => exact hR.symm
  | succ f =>
    unfold xouter at hR
    rw [if_neg hlt] at hR
    exact hR.symm

set_option maxRecDepth 20000 in
set_option maxHeartbeats 4000000 in
theorem explore_any {na fa : Option Addr} {N nc F fc : Nat} {M : Nat → ByteArray} {K A B : Nat → Int} {e0 : Int} {w : World} (hp : Prc w na N nc fa F M K A B) (he : ChkIs N F M K A B e0) (tk st : Int) {X : List Int → Nat → Int} (hX : XOk K A B F (stAll K A B F N) X) :
    Calls Try.prog 41 #[.agg #[.slice na N nc, .slice fa F fc], .int .i64 tk, .int .i64 st] w fun e w' => Below w.heap.size w w' ∧ ExIs w.heap.size (spE e0 (stAll K A B F N).length) tk st F (xall tk st K A B F (stAll K A B F N) X) e w' := by
  have HP : Hid (Prc w na N nc fa F M K A B) := hp
  have HE : Hid (ChkIs N F M K A B e0) := he
  have HXo : Hid (XOk K A B F (stAll K A B F N) X) := hX
  obtain ⟨i0, hi, hz0, hz1, hz2⟩ := info_parts Try.info3
  have HI : Hid (Try.prog.info? 3 = some i0 ∧ i0.zero = some (.int .i64 0) ∧ i0.size = 1 ∧ i0.bytes = 8) := ⟨hi, hz0, hz1, hz2⟩
  clear hi hz0 hz1 hz2
  obtain ⟨W, eW⟩ : ∃ x, x = (w.alloc (.cells #[.slice na N nc, .slice fa F fc] 25)).alloc (.cells #[.slice none 0 0, .slice none 0 0] 37) := ⟨_, rfl⟩
  have HW : Hid (Below w.heap.size w W ∧ W.heap.size = w.heap.size + 1 + 1 ∧ Two W (w.heap.size + 1) (.slice none 0 0) (.slice none 0 0)) := by
    subst eW
    have e1 : (w.alloc (.cells #[.slice na N nc, .slice fa F fc] 25)).heap.size = w.heap.size + 1 := by simp
    refine ⟨(box_below _ _).trans ((box_below _ _).mono (by simp)), by simp, ?_⟩
    unfold Two
    rw [← e1]
    exact Go.Deep.blk_alloc_new _ _
  have HEW : Hid ((w.alloc (.cells #[.slice na N nc, .slice fa F fc] 25)).alloc (.cells #[.slice none 0 0, .slice none 0 0] 37) = W) := eW.symm
  have C1 : Hid (Calls Try.prog 43 #[.agg #[.slice na N nc, .slice fa F fc]] W fun e w' => Below W.heap.size W w' ∧ LyIs W.heap.size (spE e0 (stAll K A B F N).length) N F M K A B e w') := lay_any (hp.below HW.out.1) he
  clear eW hp he hX
  generalize hEE : spE e0 (stAll K A B F N).length = E at *
  clear hEE
  go_enter Try.func41, Try.ntmps41
  go_wp2_with fail
  rw [HEW.out]
  refine C1.out.mono ?_
  rintro e w1 ⟨hb1, hs1⟩
  have HB1 : Hid (Below W.heap.size W w1) := hb1
  have HBw1 : Hid (Below w.heap.size w w1) := HW.out.1.trans (hb1.mono HW.out.1.size)
  have H2 : Hid (Two w1 (w.heap.size + 1) (.slice none 0 0) (.slice none 0 0)) := HW.out.2.2.below hb1 (by have := HW.out.2.1; omega)
  have hsz1 : w.heap.size + 1 < w1.heap.size := by have := hb1.size; have := HW.out.2.1; omega
  clear hb1 C1
  rcases hs1 with ⟨h1, rfl⟩ | ⟨h1, na, nc, fa, fc, sa, sc, ib, ob, _, _, rfl, hbrd⟩
  · have hz' : (E != 0) = true := by rw [bne_iff_ne]; exact h1
    have HZ : Hid (E ≠ 0) := h1
    obtain ⟨⟨q0, q1⟩, f0, f1⟩ := two_cells H2.out
    clear h1
    go_wp2
    (try simp only [Exit.inBlock, Exit.then])
    refine bodyPost_ret (results_cell_tmp3 rfl _ _ (w.heap.size + 1) 37 #[.slice none 0 0, .slice none 0 0] (0, 0) _ rfl (two_new H2.out) Try.underlying37 rfl (by kernel_rfl)) rfl ?_
    exact ⟨two_below HBw1.out (by omega), Or.inl ⟨HZ.out, rfl⟩⟩
  · subst h1
    obtain ⟨⟨q0, q1⟩, f0, f1⟩ := two_cells H2.out
    have hl60 := hbrd.few
    have hF30 : F ≤ 30 := (chk_zero hbrd.chk).1.2
    obtain ⟨l, hl⟩ : ∃ l, l = stAll K A B F N := ⟨_, rfl⟩
    have HL : Hid (l = stAll K A B F N) := hl
    have HBrd : Hid (Brd w1 na N nc fa F sa (some ⟨ib, 0, none⟩) (some ⟨ob, 0, none⟩) M K A B l) := by rw [hl]; exact hbrd
    rw [← hl] at hl60 HXo ⊢
    clear hbrd hl
    by_cases hok : (1 ≤ tk ∧ tk ≤ 9) ∧ 1 ≤ st ∧ st ≤ 200
    · have HOk : Hid ((1 ≤ tk ∧ tk ≤ 9) ∧ 1 ≤ st ∧ st ≤ 200) := hok
      obtain ⟨q, rfl⟩ : ∃ q : Nat, st = q := ⟨st.toNat, by omega⟩
      have hk1 : ¬ tk < 1 := by omega
      have hk2 : ¬ 9 < tk := by omega
      have hk3 : ¬ (q : Int) < 1 := by omega
      have hk4 : ¬ 200 < (q : Int) := by omega
      have hq : q ≤ 200 := by omega
      have htk : tk ≤ 9 := by omega
      obtain ⟨R, hR⟩ : ∃ R, R = xall tk (q : Int) K A B F l X := ⟨_, rfl⟩
      have HR : Hid (R = xall tk (q : Int) K A B F l X) := hR
      obtain ⟨W2, eW2⟩ : ∃ x, x = w1.alloc (.cells #[.slice na N nc, .slice fa F fc, .slice sa l.length sc, .slice (some ⟨ib, 0, none⟩) N N, .slice (some ⟨ob, 0, none⟩) N N] 94) := ⟨_, rfl⟩
      obtain ⟨W3, eW3⟩ : ∃ x, x = (W2.alloc (.map #[] 0)).alloc (.cells #[.slice na N nc, .slice fa F fc, .slice sa l.length sc, .slice (some ⟨ib, 0, none⟩) N N, .slice (some ⟨ob, 0, none⟩) N N, .int .i64 tk, .int .i64 (q : Nat), .slice none 0 0, .slice none 0 0, .map (some (w1.heap.size + 1)), .slice none 0 0] 123) := ⟨_, rfl⟩
      have hW2s : W2.heap.size = w1.heap.size + 1 := by subst eW2; simp
      have hW3s : W3.heap.size = w1.heap.size + 1 + 1 + 1 := by rw [eW3]; simp [hW2s]
      have HW23 : Hid (Below (w1.heap.size + 1) W2 W3) := by
        show Below _ _ _
        rw [eW3, ← hW2s]
        exact (box_below _ _).trans ((box_below _ _).mono (by simp))
      have HW12 : Hid (Below w1.heap.size w1 W2) := by subst eW2; exact box_below _ _
      have HX0 : Hid (Xr W3 (w1.heap.size + 1) (w1.heap.size + 1 + 1) (w1.heap.size + 1) (.slice na N nc) (.slice fa F fc) (.slice sa l.length sc) (.slice (some ⟨ib, 0, none⟩) N N) (.slice (some ⟨ob, 0, none⟩) N N) tk (q : Int) F [] [] [] (.slice none 0 0) (.slice none 0 0) (.slice none 0 0) (.map [])) := by
        have := xr_start (W := W2) (b0 := .slice na N nc) (b1 := .slice fa F fc) (b2 := .slice sa l.length sc) (b3 := .slice (some ⟨ib, 0, none⟩) N N) (b4 := .slice (some ⟨ob, 0, none⟩) N N) (tk := tk) (st := (q : Int)) (F := F)
        rw [hW2s] at this
        rw [eW3]
        exact this
      have HBu : Hid (∀ u, Below (w1.heap.size + 1) W3 u → Brd u na N nc fa F sa (some ⟨ib, 0, none⟩) (some ⟨ob, 0, none⟩) M K A B l) := fun u hu => by
        refine (HBrd.out.below HW12.out).below ?_
        rw [hW2s]
        exact HW23.out.trans hu
      have HBx : Hid (∀ u, Below (w1.heap.size + 1) W3 u → Below w.heap.size w u ∧ Two u (w.heap.size + 1) (.slice none 0 0) (.slice none 0 0)) := fun u hu => by
        have h3 : Below (w1.heap.size + 1) W2 u := HW23.out.trans hu
        have h4 : Below w1.heap.size w1 u := HW12.out.trans (h3.mono (by omega))
        exact ⟨HBw1.out.trans (h4.mono HBw1.out.size), H2.out.below h4 hsz1⟩
      have HBo : Hid (∀ u, Below W3.heap.size W3 u → u.cell? ⟨w1.heap.size, 0, none⟩ = some (.slice na N nc) ∧ u.cell? ⟨w1.heap.size, 1, none⟩ = some (.slice fa F fc) ∧ u.cell? ⟨w1.heap.size, 2, none⟩ = some (.slice sa l.length sc) ∧ u.cell? ⟨w1.heap.size, 3, none⟩ = some (.slice (some ⟨ib, 0, none⟩) N N) ∧ u.cell? ⟨w1.heap.size, 4, none⟩ = some (.slice (some ⟨ob, 0, none⟩) N N)) := fun u hu => by
        have h5 : Below W2.heap.size W2 u := by rw [hW2s]; exact HW23.out.trans (hu.mono (by omega))
        subst eW2
        exact ⟨new_alloc h5 rfl, new_alloc h5 rfl, new_alloc h5 rfl, new_alloc h5 rfl, new_alloc h5 rfl⟩
      have HEW3 : Hid (((w1.alloc (.cells #[.slice na N nc, .slice fa F fc, .slice sa l.length sc, .slice (some ⟨ib, 0, none⟩) N N, .slice (some ⟨ob, 0, none⟩) N N] 94)).alloc (.map #[] 0)).alloc (.cells #[.slice na N nc, .slice fa F fc, .slice sa l.length sc, .slice (some ⟨ib, 0, none⟩) N N, .slice (some ⟨ob, 0, none⟩) N N, .int .i64 tk, .int .i64 (q : Nat), .slice none 0 0, .slice none 0 0, .map (some (w1.heap.size + 1)), .slice none 0 0] 123) = W3) := by show _ = _; rw [eW3, eW2]
      have C2 : Hid (Calls Try.prog 69 #[.agg #[.slice na N nc, .slice fa F fc, .slice sa l.length sc, .slice (some ⟨ib, 0, none⟩) N N, .slice (some ⟨ob, 0, none⟩) N N]] W3 fun e w' => Below W3.heap.size W3 w' ∧ ∃ g, e = .returned (.slice (some ⟨g, 0, none⟩) F F) ∧ w'.rowIs g 3 F (fun i => .int .i64 (bgn K A i))) := begin_any (HBu.out W3 (Below.refl _ _))
      have hmm := @run_makeMap Try.prog
      have HW3s : Hid (w1.heap.size + 1 ≤ W3.heap.size) := by show _ ≤ _; omega
      clear eW2 eW3 hok hR hW2s
      go_wp2_with fail
      rw [HEW3.out]
      refine C2.out.mono ?_
      rintro e w4 ⟨hb4, g, rfl, hrow⟩
      have HB4 : Hid (Below (w1.heap.size + 1) W3 w4) := hb4.mono HW3s.out
      have HMk : Hid (Mk w4 g F (bgn K A)) := ⟨F, _, Nat.le_refl _, hrow, fun _ _ => rfl⟩
      have C3 : Hid (Calls Try.prog 68 #[.pointer (some ⟨w1.heap.size + 1 + 1, 0, none⟩), .slice (some ⟨g, 0, none⟩) F F, .agg #[.int .i64 (-1), .int .i64 0]] w4 fun e w' => e = .returned (.int .i64 ((([] : List (List Int)).length : Nat) : Int)) ∧ Below (w1.heap.size + 1) w4 w' ∧ Kp [some 3, some 31, some 44] w4 w' ∧ ∃ mv' cv' D', Xr w' (w1.heap.size + 1) (w1.heap.size + 1 + 1) (w1.heap.size + 1) (.slice na N nc) (.slice fa F fc) (.slice sa l.length sc) (.slice (some ⟨ib, 0, none⟩) N N) (.slice (some ⟨ob, 0, none⟩) N N) tk (q : Int) F ([] ++ [lst F (bgn K A)]) [] ([] ++ [((-1 : Int), (0 : Int))]) mv' (.slice none 0 0) cv' D') :=
        add_any (HX0.out.below hb4) hF30 (Nat.le_trans HW3s.out hb4.size) (by simp) HMk.out (fun i _ => bgn_ok K A i) (by simp) (-1) 0
      clear hmm hb4 hrow C2
      go_wp2_with fail
      refine C3.out.mono ?_
      rintro e w5 ⟨rfl, hb5, _, mv5, cv5, D5, hX5⟩
      have HS0 : Hid (Exd W3 w5 (w1.heap.size + 1) (w1.heap.size + 1 + 1) (w1.heap.size + 1) (.slice na N nc) (.slice fa F fc) (.slice sa l.length sc) (.slice (some ⟨ib, 0, none⟩) N N) (.slice (some ⟨ob, 0, none⟩) N N) tk q F (nxl K A B F l) (cnl X l.length) (lst F (bgn K A)) R (xstart (lst F (bgn K A))) 0 [((-1 : Int), (0 : Int))] mv5 (.slice none 0 0) cv5 D5) := by
        refine ⟨HB4.out.trans hb5, Nat.le_trans HW3s.out (Nat.le_trans HB4.out.size hb5.size), ⟨201, rfl, ?_⟩, rfl, xinv_start ?_ (by omega), rfl, hX5, cam_start⟩
        · rw [HR.out]
          unfold xall
          rw [Int.toNat_natCast]
        · cases ho : ovr tk (lst F (bgn K A))
          · rfl
          · obtain ⟨j, _, hj⟩ := ovr_lst.1 ho
            have : bgn K A j ≤ 1 := by unfold bgn; split <;> omega
            omega
      clear hb5 hX5 C3 q0 q1 f0 f1
      go_wp2
      go_loopw [12] (fun i wr => ∃ (k : Nat) (T : Xp) (C : List (Int × Int)) (mv nv cv : Value) (D : DataW Unit), i = .int .i64 k ∧ Hid (Exd W3 wr (w1.heap.size + 1) (w1.heap.size + 1 + 1) (w1.heap.size + 1) (.slice na N nc) (.slice fa F fc) (.slice sa l.length sc) (.slice (some ⟨ib, 0, none⟩) N N) (.slice (some ⟨ob, 0, none⟩) N N) tk q F (nxl K A B F l) (cnl X l.length) (lst F (bgn K A)) R T k C mv nv cv D)) (fun i _ => 202 - (intOf i).toNat)
      case atStart => exact ⟨0, _, _, _, _, _, _, rfl, HS0.out⟩
      case round =>
        obtain ⟨k, T, C, mv, nv, cv, D, rfl, HT⟩ := hrel
        clear HS0
        obtain ⟨n, hn⟩ : ∃ n, n = T.marks.length := ⟨_, rfl⟩
        have HN : Hid (n = T.marks.length ∧ T.nexts.length = k) := ⟨hn, HT.out.len⟩
        obtain ⟨ma, mc, hmv⟩ : ∃ ma mc, mv = .slice ma n mc := by
          obtain ⟨G, ⟨Vs, h1, _⟩, _⟩ := HT.out.xr.mks
          rw [hn]
          rcases h1.2 with ⟨rfl, h0⟩ | ⟨g, cap, cur, rfl, _⟩
          · exact ⟨none, 0, by rw [h0]⟩
          · exact ⟨_, _, rfl⟩
        subst hmv
        obtain ⟨xa, xn, xc, hnv⟩ : ∃ xa xn xc, nv = .slice xa xn xc := by
          obtain ⟨Vs, h1, _⟩ := HT.out.xr.nxs
          rcases h1.2 with ⟨rfl, h0⟩ | ⟨g, cap, cur, rfl, _⟩
          · exact ⟨none, 0, 0, rfl⟩
          · exact ⟨_, _, _, rfl⟩
        subst hnv
        obtain ⟨_, _, _, p7, p8, _, _⟩ := srch_cells HT.out.xr.blk
        have hrr := srch_lt HT.out.xr.blk
        have hnlen := HT.out.inv.nlen
        have hfew := HT.out.inv.few
        have hk200 : k ≤ 200 := by have := HT.out.len; omega
        clear hnlen hfew hn
        by_cases hlt : k < n
        · have hltI : (k : Int) < (n : Int) := by omega
          have hTl : T.nexts.length < T.marks.length := by have := HN.out; omega
          have HTl : Hid (T.nexts.length < T.marks.length) := hTl
          have C4 : Hid (Calls Try.prog 70 #[.pointer (some ⟨w1.heap.size + 1 + 1, 0, none⟩), .int .i64 (k : Nat)] wr fun e w' => Below (w1.heap.size + 1) wr w' ∧ SpdIs w' (w1.heap.size + 1) (w1.heap.size + 1 + 1) (w1.heap.size + 1) (.slice na N nc) (.slice fa F fc) (.slice sa l.length sc) (.slice (some ⟨ib, 0, none⟩) N N) (.slice (some ⟨ob, 0, none⟩) N N) tk q F (nxl K A B F l) (cnl X l.length) (lst F (bgn K A)) T e) := by
            have := spread_any (HBu.out wr HT.out.below) HXo.out HT.out.big (fun u hu => HBu.out u (HT.out.below.trans hu)) HT.out.xr HT.out.inv HT.out.cam hTl HT.out.cur hq htk
            rw [HT.out.len] at this
            exact this
          clear hTl
          go_wp2_with fail
          refine C4.out.mono ?_
          rintro e w6 ⟨hb6, hs6⟩
          have HB6 : Hid (Below (w1.heap.size + 1) wr w6) := hb6
          rcases hs6 with ⟨c, s, Sf, C', mv', nv', cv', D', hc0, hin, hnx, hlt', hl200, rfl, hcam, hx⟩ | ⟨T', C', mv', nv', cv', D', hin, hI, hnx, hlt', rfl, hcam, hx⟩
          · have hc0' : (c != 0) = true := by rw [bne_iff_ne]; exact hc0
            have HRe : Hid (R = .inl (c, Sf.way s) ∧ c ≠ 0) := ⟨exd_stop HT.out hq HTl.out hin, hc0⟩
            have hSk : Sf.nexts.length = k := by rw [hnx]; exact HT.out.len
            have hwl : Sf.nexts.length < Sf.ways.length := by have h1 := hcam.1; have h2 := hx.len; omega
            have C5 : Hid (Calls Try.prog 71 #[.pointer (some ⟨w1.heap.size + 1 + 1, 0, none⟩), .int .i64 (k : Nat)] w6 fun e w' => Below w6.heap.size w6 w' ∧ ∃ a c, e = .returned (.slice a (Sf.ways.getD k []).length c) ∧ w'.ownsRow w6.heap.size 3 1 (.slice a (Sf.ways.getD k []).length c) (Sf.ways.getD k []).length (vals (Sf.ways.getD k []))) := by
              have := wayTo_any hx hcam hwl hl200
              rw [hSk] at this
              exact this
            have HSk : Hid (Sf.way s = Sf.ways.getD k [] ++ [s]) := by show _ = _; unfold Xp.way; rw [hSk]
            have h1000 : (Sf.ways.getD k []).length ≤ 1000000 := by have := cam_len hcam (k + 1) k (by omega) (by omega); omega
            generalize hwy : Sf.ways.getD k [] = wy at *
            generalize hwn : wy.length = wn at *
            have HWn : Hid (wy.length = wn) := hwn
            clear hc0 hin hnx hlt' hl200 hcam hx hSk hwl hb6 C4 hwy hwn p7 p8
            go_wp2_with fail
            refine C5.out.mono ?_
            rintro e w7 ⟨hb7, a7, c7, rfl, ho7⟩
            have HO7 : Hid (w7.ownsRow w6.heap.size 3 1 (.slice a7 wn c7) wn (vals wy)) := ho7
            have HB7 : Hid (Below w6.heap.size w6 w7) := hb7
            have HSz7 : Hid (w6.heap.size ≤ w7.heap.size) := hb7.size
            have H8f : Hid (∀ (v8 : Value) (w8 : World) (o : Obj), w8.ownsRow w6.heap.size 3 1 v8 (wn + 1) (vals wy ++ [.int .i64 s]) → (w7.alloc o).grownBy w8 (Value.slice a7 wn c7).ownBlock → (∃ a c, v8 = .slice a (wn + 1) c) ∧ (w8.cell? ⟨w.heap.size + 1, 0, none⟩ = some (.slice none 0 0) ∧ w8.cell? ⟨w.heap.size + 1, 1, none⟩ = some (.slice none 0 0)) ∧ (w8.frozen? ⟨w.heap.size + 1, 0, none⟩ = false ∧ w8.frozen? ⟨w.heap.size + 1, 1, none⟩ = false) ∧ Hid (Below w.heap.size w w8 ∧ Two w8 (w.heap.size + 1) (.slice none 0 0) (.slice none 0 0) ∧ w8.ownsRow w6.heap.size 3 1 v8 (wn + 1) (vals (wy ++ [s])))) := fun v8 w8 o hown hgrow => by
              obtain ⟨h4, h5⟩ := list_step hb7 ho7 hown hgrow
              have hbig : w1.heap.size + 1 ≤ w6.heap.size := Nat.le_trans HT.out.big HB6.out.size
              have hb8 : Below (w1.heap.size + 1) W3 w8 := (HT.out.below.trans HB6.out).trans (h5.out.1.mono hbig)
              obtain ⟨h6, h7⟩ := HBx.out w8 hb8
              exact ⟨h4, (two_cells h7).1, (two_cells h7).2, h6, h7, h5.out.2⟩
            clear hb7 ho7 C5
            go_wp2_with (at_builtin; refine wpList_append_own_at _ rfl _ _ 26 rfl w6.heap.size 3 i0 (.int .i64 0) 1 8 Try.underlying26 HI.out.1 HI.out.2.1 HI.out.2.2.1 HI.out.2.2.2 rfl (by decide) _ _ _ rfl (HO7.out.alloc _) ⟨w7.heap.size, 0, none⟩ 1 1 [.int .i64 s] rfl rfl (cell_one_new _ _ _) (ints_oneCell .i64 [s]) (by unfold maxLen; omega) (by omega) (by have := HSz7.out; simp; omega) ?_; intro v8 w8 hown8 hgrow8 _ _; obtain ⟨⟨a8, c8, rfl⟩, ⟨q0, q1⟩, ⟨f0, f1⟩, H8⟩ := H8f.out _ _ _ hown8 hgrow8; clear hown8 hgrow8)
            (try simp only [Exit.inBlock, Exit.then])
            refine bodyPost_ret (results_cell_tmp3 rfl _ _ (w.heap.size + 1) 37 #[.slice none 0 0, .slice none 0 0] (0, 0) _ rfl (two_set H8.out.2.1) Try.underlying37 rfl (by kernel_rfl)) rfl ?_
            rw [← HL.out, ← HR.out]
            have hlen : (wy ++ [s]).length = wn + 1 := by rw [List.length_append, HWn.out]; rfl
            refine ⟨(H8.out.1.setCell (by show w.heap.size ≤ w.heap.size + 1; omega) _).setCell (by show w.heap.size ≤ w.heap.size + 1; omega) _, Or.inr (Or.inr (Or.inl ⟨rfl, HOk.out, c, wy ++ [s], a8, c8, by rw [HRe.out.1, HSk.out], HRe.out.2, by rw [hlen]; rfl, ?_⟩))⟩
            rw [hlen]
            exact owns_row' hlen.symm (row_kp H8.out.2.2 (kp_two (L := [some 3]) H8.out.2.1 (by decide)) (by decide))
          · have HN6 := exd_next HT.out hq HTl.out hb6 hin hI hnx hlt' hcam hx
            have HNx : Hid (Exd W3 w6 (w1.heap.size + 1) (w1.heap.size + 1 + 1) (w1.heap.size + 1) (.slice na N nc) (.slice fa F fc) (.slice sa l.length sc) (.slice (some ⟨ib, 0, none⟩) N N) (.slice (some ⟨ob, 0, none⟩) N N) tk q F (nxl K A B F l) (cnl X l.length) (lst F (bgn K A)) R T'.close (k + 1) C' mv' nv' cv' D') := HN6
            clear HN6 hin hI hnx hlt' hcam hx hb6 C4 p7 p8
            go_wp2
            go_roundw
            case rel => exact ⟨k + 1, _, _, _, _, _, _, by go_num, HNx.out⟩
            case measure => simp [intOf]; omega
        · have hltI : ¬ (k : Int) < (n : Int) := by omega
          have HRe : Hid (R = .inr T) := exd_end HT.out (by have := HN.out; omega)
          obtain ⟨h6, h7⟩ := HBx.out wr HT.out.below
          have HB6 : Hid (Below w.heap.size w wr ∧ Two wr (w.heap.size + 1) (.slice none 0 0) (.slice none 0 0)) := ⟨h6, h7⟩
          obtain ⟨⟨q0, q1⟩, f0, f1⟩ := two_cells h7
          clear h6 h7
          go_wp2
          (try simp only [Exit.inBlock, Exit.then])
          refine bodyPost_ret (results_cell_tmp3 rfl _ _ (w.heap.size + 1) 37 #[.slice ma n mc, .slice xa xn xc] (0, 0) _ rfl (two_set HB6.out.2) Try.underlying37 rfl (by kernel_rfl)) rfl ?_
          rw [← HL.out, ← HR.out]
          have kp := kp_two (L := [some 26, some 3, some 31, some 44]) (x := .slice ma n mc) (y := .slice xa xn xc) HB6.out.2 (by decide)
          refine ⟨(HB6.out.1.setCell (by show w.heap.size ≤ w.heap.size + 1; omega) _).setCell (by show w.heap.size ≤ w.heap.size + 1; omega) _, Or.inr (Or.inr (Or.inr ⟨rfl, HOk.out, T, _, _, w1.heap.size + 1, by omega, HRe.out, rfl, mks_kp HT.out.xr.mks kp (by decide) (by decide), nxs_kp HT.out.xr.nxs kp (by decide) (by decide)⟩))⟩
    · have HBad : Hid (¬ ((1 ≤ tk ∧ tk ≤ 9) ∧ 1 ≤ st ∧ st ≤ 200)) := hok
      clear hok HBrd
      by_cases hk1 : tk < 1
      · go_wp2
        (try simp only [Exit.inBlock, Exit.then])
        refine bodyPost_ret (results_cell_tmp3 rfl _ _ (w.heap.size + 1) 37 #[.slice none 0 0, .slice none 0 0] (0, 0) _ rfl (two_new H2.out) Try.underlying37 rfl (by kernel_rfl)) rfl ?_
        exact ⟨two_below HBw1.out (by omega), Or.inr (Or.inl ⟨rfl, HBad.out, rfl⟩)⟩
      · by_cases hk2 : 9 < tk
        · go_wp2
          (try simp only [Exit.inBlock, Exit.then])
          refine bodyPost_ret (results_cell_tmp3 rfl _ _ (w.heap.size + 1) 37 #[.slice none 0 0, .slice none 0 0] (0, 0) _ rfl (two_new H2.out) Try.underlying37 rfl (by kernel_rfl)) rfl ?_
          exact ⟨two_below HBw1.out (by omega), Or.inr (Or.inl ⟨rfl, HBad.out, rfl⟩)⟩
        · by_cases hk3 : st < 1
          · go_wp2
            (try simp only [Exit.inBlock, Exit.then])
            refine bodyPost_ret (results_cell_tmp3 rfl _ _ (w.heap.size + 1) 37 #[.slice none 0 0, .slice none 0 0] (0, 0) _ rfl (two_new H2.out) Try.underlying37 rfl (by kernel_rfl)) rfl ?_
            exact ⟨two_below HBw1.out (by omega), Or.inr (Or.inl ⟨rfl, HBad.out, rfl⟩)⟩
          · have hk4 : 200 < st := by have := HBad.out; omega
            go_wp2
            (try simp only [Exit.inBlock, Exit.then])
            refine bodyPost_ret (results_cell_tmp3 rfl _ _ (w.heap.size + 1) 37 #[.slice none 0 0, .slice none 0 0] (0, 0) _ rfl (two_new H2.out) Try.underlying37 rfl (by kernel_rfl)) rfl ?_
            exact ⟨two_below HBw1.out (by omega), Or.inr (Or.inl ⟨rfl, HBad.out, rfl⟩)⟩

end Go.Proofs.Ythpbgfodejoecaa
