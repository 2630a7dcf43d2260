/- AutoOwn: what it has in memory. -/
import Derived.Test.YtdncjikmknkkpabOwa
import Derived.Test.YtdncjikmknkkpabSgl
import Derived.Test.YtdncjikmknkkpabAutoOneWalk
import Derived.Test.YtdncjikmknkkpabEvr
namespace Go.Proofs.Ytdncjikmknkkpab
open Go.RowKit Go.Shelf

/-- A family of lists, its nil ones empty. -/
def GrN (w : World) (ga : Option Addr) (G : Nat) (L : Nat → Nat) (Z : Nat → Nat → Int) : Prop :=
  ∃ gb go, (0 < G → ga = some ⟨gb, go, none⟩) ∧ ∀ r, r < G → ∃ a c, w.cell? ⟨gb, go + r, none⟩ = some (.slice a (L r) c) ∧ Row w a (L r) (Z r) ∧ (a = none → L r = 0 ∧ c = 0)
theorem GrN.below {w w' : World} {ga : Option Addr} {G : Nat} {L : Nat → Nat} {Z : Nat → Nat → Int} (h : GrN w ga G L Z) (hb : Below w.heap.size w w') : GrN w' ga G L Z := by
  obtain ⟨gb, go, h1, h2⟩ := h
  refine ⟨gb, go, h1, fun r hr => ?_⟩
  obtain ⟨a, c, h3, h4, h5⟩ := h2 r hr
  exact ⟨a, c, below_cell hb (Nat.le_refl _) h3, h4.below hb, h5⟩

/-- What AutoOwn wants of an automaton beside. -/
structure Ao (w : World) (A : Ax) : Prop where
  next : GrN w A.na A.G A.L A.Z
  fair : GrN w A.fa A.K A.FL A.FZ
  sn : A.sa = none → A.sn = 0 ∧ A.sc = 0
  mn : A.ma = none → A.M = 0 ∧ A.mc = 0
  on : A.oa = none → A.O = 0 ∧ A.oc = 0
  s44 : A.sn ≤ 17592186043904
  m44 : A.M ≤ 17592186043904
  o44 : A.O ≤ 17592186043904
  l44 : ∀ r, r < A.G → A.L r ≤ 17592186043904
  f44 : ∀ r, r < A.K → A.FL r ≤ 17592186043904
  g24 : A.G * 24 + 24 ≤ 140737488355328
  k24 : A.K * 24 + 24 ≤ 140737488355328
theorem Ao.below {w w' : World} {A : Ax} (h : Ao w A) (hb : Below w.heap.size w w') : Ao w' A :=
  ⟨h.next.below hb, h.fair.below hb, h.sn, h.mn, h.on, h.s44, h.m44, h.o44, h.l44, h.f44, h.g24, h.k24⟩

/-- The copy with room, as it grows. -/
structure Inn (w0 : World) (A : Ax) (B5 : Nat) (sv nv mv ov fv : Value) (G1 K1 : Nat) (Vn Vf : List Value) (W : World) : Prop where
  aut : W.heap[B5]? = some (.cells #[sv, nv, mv, ov, fv] 26)
  b5 : w0.heap.size ≤ B5
  st : Rm 3 .i64 W w0.heap.size sv A.sn A.S
  ms : Rm 33 .u64 W w0.heap.size mv A.M (fun i => (A.Mu i : Int))
  os : Rm 33 .u64 W w0.heap.size ov A.O (fun i => (A.No i : Int))
  nt : W.ownsRow w0.heap.size 22 1 nv G1 Vn
  nr : ∀ r, r < G1 → ∃ v, Vn[r]? = some v ∧ Rm 3 .i64 W w0.heap.size v (A.L r) (A.Z r)
  ft : W.ownsRow w0.heap.size 22 1 fv K1 Vf
  fr : ∀ r, r < K1 → ∃ v, Vf[r]? = some v ∧ Rm 3 .i64 W w0.heap.size v (A.FL r) (A.FZ r)
  low : Below w0.heap.size w0 W
  ap : ∀ b, nv.ownBlock = some b → fv.ownBlock ≠ some b

theorem Inn.below {w0 : World} {A : Ax} {B5 : Nat} {sv nv mv ov fv : Value} {G1 K1 : Nat} {Vn Vf : List Value} {W W' : World} (h : Inn w0 A B5 sv nv mv ov fv G1 K1 Vn Vf W) (hb : Below W.heap.size W W') : Inn w0 A B5 sv nv mv ov fv G1 K1 Vn Vf W' :=
  ⟨(hb.block _ (Array.getElem?_eq_some_iff.1 h.aut).1).trans h.aut, h.b5, h.st.below hb, h.ms.below hb, h.os.below hb, owns_below h.nt hb, fun r hr => by
    obtain ⟨v, h1, h2⟩ := h.nr r hr
    exact ⟨v, h1, h2.below hb⟩, owns_below h.ft hb, fun r hr => by
    obtain ⟨v, h1, h2⟩ := h.fr r hr
    exact ⟨v, h1, h2.below hb⟩, h.low.trans (hb.mono h.low.size), h.ap⟩

/-- A block that no list of lists lies in. -/
def Otn (w0 W : World) (b : Nat) : Prop := b < w0.heap.size ∨ ∃ c t z, W.heap[b]? = some (.cells c t z) ∧ t ≠ 22
theorem otn_cell {w0 W W4 : World} (h : ∀ b, b < W.heap.size → Otn w0 W b → W4.heap[b]? = W.heap[b]?) {p : Addr} {v : Value} (ho : Otn w0 W p.block) (hc : W.cell? p = some v) : W4.cell? p = some v :=
  (World.cell?_of_block (w := W) (h _ (World.block_lt_of_cell? _ _ hc) ho)).trans hc

/-- One list more in Next. -/
theorem Inn.addN {w0 : World} {A : Ax} {B5 : Nat} {sv nv mv ov fv nv' lv : Value} {G1 K1 : Nat} {Vn Vf : List Value} {W W4 : World} {o : Obj} (h : Inn w0 A B5 sv nv mv ov fv G1 K1 Vn Vf W) (hl : Rm 3 .i64 W w0.heap.size lv (A.L G1) (A.Z G1)) (hown : W4.ownsRow w0.heap.size 22 1 nv' (G1 + 1) (Vn ++ [lv])) (hgr : (W.alloc o).grownBy W4 nv.ownBlock) (hat : nv.ownBlock = nv'.ownBlock ∨ nv'.ownBlock = some (W.heap.size + 1)) :
    (∀ b, b < W.heap.size → Otn w0 W b → W4.heap[b]? = W.heap[b]?) ∧ W4.frozen? ⟨B5, 1, none⟩ = false ∧ Inn w0 A B5 sv nv' mv ov fv (G1 + 1) K1 (Vn ++ [lv]) Vf (W4.setCell ⟨B5, 1, none⟩ nv') := by
  have hg := (World.grownBy_alloc W o nv.ownBlock).trans hgr
  have hk : ∀ b, b < W.heap.size → nv.ownBlock ≠ some b → W4.heap[b]? = W.heap[b]? := fun b hb hn => hg.block b hb (fun e => hn e.symm)
  have hoth : ∀ b, b < W.heap.size → Otn w0 W b → W4.heap[b]? = W.heap[b]? := fun b hb ho => hk b hb (fun e => by
    rcases ho with h1 | ⟨c, t, z, h1, h2⟩
    · have := (h.nt.lt b e).1; omega
    · obtain ⟨c2, z2, h3⟩ := owns_blk h.nt e
      rw [h1] at h3
      cases h3
      exact h2 rfl)
  have hl0 := (Array.getElem?_eq_some_iff.1 h.aut).1
  have ha : W4.heap[B5]? = _ := (hoth _ hl0 (Or.inr ⟨_, _, _, h.aut, by decide⟩)).trans h.aut
  have hbut : But B5 W4 (W4.setCell ⟨B5, 1, none⟩ nv') := (But.refl _ _).setCell 1 _
  have hrm : ∀ {t : TypeId} {K : IntKind} {v : Value} {n : Nat} {Z : Nat → Int}, t ≠ 22 → t ≠ 26 → Rm t K W w0.heap.size v n Z → Rm t K (W4.setCell ⟨B5, 1, none⟩ nv') w0.heap.size v n Z := fun {t K v n Z} h1 h1' h2 => h2.of_blk (fun g c _ hg2 => by
    have hlt := (Array.getElem?_eq_some_iff.1 hg2).1
    have e4 := hoth g hlt (Or.inr ⟨_, _, _, hg2, h1⟩)
    rw [hbut.block g (by have := Nat.lt_of_lt_of_le hlt hg.size; exact this) (fun e => by
      rw [e, h.aut] at hg2
      cases hg2
      exact h1' rfl), e4])
  have hset : ∀ {v : Value} {n : Nat} {xs : List Value}, W4.ownsRow w0.heap.size 22 1 v n xs → (W4.setCell ⟨B5, 1, none⟩ nv').ownsRow w0.heap.size 22 1 v n xs := fun {v n xs} h1 => owns_of_blk h1 (fun b e => by
    obtain ⟨c, z, h2⟩ := owns_blk h1 e
    exact hbut.block b (Array.getElem?_eq_some_iff.1 h2).1 (fun e2 => by
      rw [e2, ha] at h2
      cases h2))
  have hotherrow : (W4.setCell ⟨B5, 1, none⟩ nv').ownsRow w0.heap.size 22 1 fv K1 Vf := hset (owns_of_blk h.ft (fun b e => hk b (h.ft.lt b e).2 (fun e2 => h.ap b e2 e)))
  have hlen : Vn.length = G1 := by have := h.nt.1; omega
  refine ⟨hoth, by simp [World.frozen?, ha], ?_⟩
  have haut : (W4.setCell ⟨B5, 1, none⟩ nv').heap[B5]? = some (.cells #[sv, nv', mv, ov, fv] 26) := by
    have e := blk_setCell (i := 1) (v := nv') ha
    simpa using e
  have hrows : ∀ r, r < G1 + 1 → ∃ v, (Vn ++ [lv])[r]? = some v ∧ Rm 3 .i64 (W4.setCell ⟨B5, 1, none⟩ nv') w0.heap.size v (A.L r) (A.Z r) := fun r hr => by
    by_cases e : r = G1
    · subst e
      exact ⟨lv, by rw [List.getElem?_append_right (by omega), hlen]; simp, hrm (by decide) (by decide) hl⟩
    · obtain ⟨v, h1, h2⟩ := h.nr r (by omega)
      exact ⟨v, by rw [List.getElem?_append_left (by omega)]; exact h1, hrm (by decide) (by decide) h2⟩
  have horows : ∀ r, r < K1 → ∃ v, Vf[r]? = some v ∧ Rm 3 .i64 (W4.setCell ⟨B5, 1, none⟩ nv') w0.heap.size v (A.FL r) (A.FZ r) := fun r hr => by
    obtain ⟨v, h1, h2⟩ := h.fr r hr
    exact ⟨v, h1, hrm (by decide) (by decide) h2⟩
  have hlow := (h.low.grown hg h.low.size (fun b hb => (h.nt.lt b hb).1)).setCell (p := ⟨B5, 1, none⟩) h.b5 nv'
  refine ⟨haut, h.b5, hrm (by decide) (by decide) h.st, hrm (by decide) (by decide) h.ms, hrm (by decide) (by decide) h.os, hset hown, hrows, hotherrow, horows, hlow, fun b hb hb2 => ?_⟩
  rcases hat with e | e
  · exact h.ap b (e.trans hb) hb2
  · rw [e] at hb
    have h1 := (h.ft.lt b hb2).2
    have h2 : W.heap.size + 1 = b := Option.some.inj hb
    omega

/-- One list more in Fair. -/
theorem Inn.addF {w0 : World} {A : Ax} {B5 : Nat} {sv nv mv ov fv fv' lv : Value} {G1 K1 : Nat} {Vn Vf : List Value} {W W4 : World} {o : Obj} (h : Inn w0 A B5 sv nv mv ov fv G1 K1 Vn Vf W) (hl : Rm 3 .i64 W w0.heap.size lv (A.FL K1) (A.FZ K1)) (hown : W4.ownsRow w0.heap.size 22 1 fv' (K1 + 1) (Vf ++ [lv])) (hgr : (W.alloc o).grownBy W4 fv.ownBlock) (hat : fv.ownBlock = fv'.ownBlock ∨ fv'.ownBlock = some (W.heap.size + 1)) :
    (∀ b, b < W.heap.size → Otn w0 W b → W4.heap[b]? = W.heap[b]?) ∧ W4.frozen? ⟨B5, 4, none⟩ = false ∧ Inn w0 A B5 sv nv mv ov fv' G1 (K1 + 1) Vn (Vf ++ [lv]) (W4.setCell ⟨B5, 4, none⟩ fv') := by
  have hg := (World.grownBy_alloc W o fv.ownBlock).trans hgr
  have hk : ∀ b, b < W.heap.size → fv.ownBlock ≠ some b → W4.heap[b]? = W.heap[b]? := fun b hb hn => hg.block b hb (fun e => hn e.symm)
  have hoth : ∀ b, b < W.heap.size → Otn w0 W b → W4.heap[b]? = W.heap[b]? := fun b hb ho => hk b hb (fun e => by
    rcases ho with h1 | ⟨c, t, z, h1, h2⟩
    · have := (h.ft.lt b e).1; omega
    · obtain ⟨c2, z2, h3⟩ := owns_blk h.ft e
      rw [h1] at h3
      cases h3
      exact h2 rfl)
  have hl0 := (Array.getElem?_eq_some_iff.1 h.aut).1
  have ha : W4.heap[B5]? = _ := (hoth _ hl0 (Or.inr ⟨_, _, _, h.aut, by decide⟩)).trans h.aut
  have hbut : But B5 W4 (W4.setCell ⟨B5, 4, none⟩ fv') := (But.refl _ _).setCell 4 _
  have hrm : ∀ {t : TypeId} {K : IntKind} {v : Value} {n : Nat} {Z : Nat → Int}, t ≠ 22 → t ≠ 26 → Rm t K W w0.heap.size v n Z → Rm t K (W4.setCell ⟨B5, 4, none⟩ fv') w0.heap.size v n Z := fun {t K v n Z} h1 h1' h2 => h2.of_blk (fun g c _ hg2 => by
    have hlt := (Array.getElem?_eq_some_iff.1 hg2).1
    have e4 := hoth g hlt (Or.inr ⟨_, _, _, hg2, h1⟩)
    rw [hbut.block g (by have := Nat.lt_of_lt_of_le hlt hg.size; exact this) (fun e => by
      rw [e, h.aut] at hg2
      cases hg2
      exact h1' rfl), e4])
  have hset : ∀ {v : Value} {n : Nat} {xs : List Value}, W4.ownsRow w0.heap.size 22 1 v n xs → (W4.setCell ⟨B5, 4, none⟩ fv').ownsRow w0.heap.size 22 1 v n xs := fun {v n xs} h1 => owns_of_blk h1 (fun b e => by
    obtain ⟨c, z, h2⟩ := owns_blk h1 e
    exact hbut.block b (Array.getElem?_eq_some_iff.1 h2).1 (fun e2 => by
      rw [e2, ha] at h2
      cases h2))
  have hotherrow : (W4.setCell ⟨B5, 4, none⟩ fv').ownsRow w0.heap.size 22 1 nv G1 Vn := hset (owns_of_blk h.nt (fun b e => hk b (h.nt.lt b e).2 (fun e2 => h.ap b e e2)))
  have hlen : Vf.length = K1 := by have := h.ft.1; omega
  refine ⟨hoth, by simp [World.frozen?, ha], ?_⟩
  have haut : (W4.setCell ⟨B5, 4, none⟩ fv').heap[B5]? = some (.cells #[sv, nv, mv, ov, fv'] 26) := by
    have e := blk_setCell (i := 4) (v := fv') ha
    simpa using e
  have hrows : ∀ r, r < K1 + 1 → ∃ v, (Vf ++ [lv])[r]? = some v ∧ Rm 3 .i64 (W4.setCell ⟨B5, 4, none⟩ fv') w0.heap.size v (A.FL r) (A.FZ r) := fun r hr => by
    by_cases e : r = K1
    · subst e
      exact ⟨lv, by rw [List.getElem?_append_right (by omega), hlen]; simp, hrm (by decide) (by decide) hl⟩
    · obtain ⟨v, h1, h2⟩ := h.fr r (by omega)
      exact ⟨v, by rw [List.getElem?_append_left (by omega)]; exact h1, hrm (by decide) (by decide) h2⟩
  have horows : ∀ r, r < G1 → ∃ v, Vn[r]? = some v ∧ Rm 3 .i64 (W4.setCell ⟨B5, 4, none⟩ fv') w0.heap.size v (A.L r) (A.Z r) := fun r hr => by
    obtain ⟨v, h1, h2⟩ := h.nr r hr
    exact ⟨v, h1, hrm (by decide) (by decide) h2⟩
  have hlow := (h.low.grown hg h.low.size (fun b hb => (h.ft.lt b hb).1)).setCell (p := ⟨B5, 4, none⟩) h.b5 fv'
  refine ⟨haut, h.b5, hrm (by decide) (by decide) h.st, hrm (by decide) (by decide) h.ms, hrm (by decide) (by decide) h.os, hotherrow, horows, hset hown, hrows, hlow, fun b hb hb2 => ?_⟩
  rcases hat with e | e
  · exact h.ap b hb (e.trans hb2)
  · rw [e] at hb2
    have h1 := (h.nt.lt b hb).2
    have h2 : W.heap.size + 1 = b := Option.some.inj hb2
    omega

/-- The copy, as an automaton. -/
theorem Inn.aw {w0 : World} {A : Ax} {B5 : Nat} {sv nv mv ov fv : Value} {Vn Vf : List Value} {W w : World} (h : Inn w0 A B5 sv nv mv ov fv A.G A.K Vn Vf W) (hA : Aw w A) : ∃ sa sc na nc ma mc oa oc fa fc, sv = .slice sa A.sn sc ∧ nv = .slice na A.G nc ∧ mv = .slice ma A.M mc ∧ ov = .slice oa A.O oc ∧ fv = .slice fa A.K fc ∧ Hid (Aw W { A with sa := sa, sc := sc, na := na, nc := nc, ma := ma, mc := mc, oa := oa, oc := oc, fa := fa, fc := fc } ∧ RmAll W w0.heap.size na A.G A.L A.Z ∧ RmAll W w0.heap.size fa A.K A.FL A.FZ) := by
  obtain ⟨sg, sc, hsv, rs⟩ := h.st.row
  obtain ⟨mg, mc, hmv, rm⟩ := h.ms.row
  obtain ⟨og, oc, hov, ro⟩ := h.os.row
  obtain ⟨na, nc, hnv⟩ := owns_sl h.nt
  obtain ⟨fa, fc, hfv⟩ := owns_sl h.ft
  have fam : ∀ {v : Value} {a : Option Addr} {G c : Nat} {V : List Value} {L : Nat → Nat} {Z : Nat → Nat → Int}, v = .slice a G c → W.ownsRow w0.heap.size 22 1 v G V → (∀ r, r < G → ∃ v, V[r]? = some v ∧ Rm 3 .i64 W w0.heap.size v (L r) (Z r)) → RmAll W w0.heap.size a G L Z := fun {v a G c V L Z} e ho hr => by
    rcases ho.2 with ⟨e2, hz⟩ | ⟨g, cap, cur, e2, _⟩
    · exact ⟨0, 0, fun hh => by omega, fun r hr2 => by omega⟩
    · rw [e2] at e
      cases e
      refine ⟨g, 0, fun _ => rfl, fun r hr2 => ?_⟩
      obtain ⟨v2, h1, h2⟩ := hr r hr2
      have := ho.cells (g := g) (by rw [e2]; rfl) r v2 h1
      rw [Addr.add_mid] at this
      exact ⟨v2, this, h2⟩
  have gr : ∀ {a : Option Addr} {G : Nat} {L : Nat → Nat} {Z : Nat → Nat → Int}, RmAll W w0.heap.size a G L Z → Gr W a G L Z := fun {a G L Z} hh => by
    obtain ⟨b, o, h1, h2⟩ := hh
    refine ⟨b, o, h1, fun r hr => ?_⟩
    obtain ⟨v, h3, h4⟩ := h2 r hr
    obtain ⟨g, c, rfl, h5⟩ := h4.row
    exact ⟨_, _, h3, h5⟩
  have fn := fam hnv h.nt h.nr
  have ff := fam hfv h.ft h.fr
  exact ⟨some ⟨sg, 0, none⟩, sc, na, nc, some ⟨mg, 0, none⟩, mc, some ⟨og, 0, none⟩, oc, fa, fc, hsv, hnv, hmv, hov, hfv, hid ⟨⟨rs, gr fn, rm, ro, gr ff, hA.s47, hA.g47, hA.l47, hA.m47, hA.o47, hA.k47, hA.f47, hA.mu, hA.no⟩, fn, ff⟩⟩

theorem sg_stop {A : Ax} {k : Nat} (h : (sgL A k).length = k) {j : Nat} (hj : k ≤ j) : sgL A j = sgL A k := by
  have := gQ_stop (nx := sgX A) (start := sgS A) (i := k) (by show (sgL A k).length ≤ k; omega) (j - k)
  rw [show k + (j - k) = j by omega] at this
  exact this
theorem sg_uniq {A : Ax} {k j : Nat} (h1 : (sgL A k).length = k) (h2 : (sgL A j).length = j) : k = j := by
  rcases Nat.le_total k j with hh | hh
  · have := sg_stop h1 hh
    rw [this] at h2
    omega
  · have := sg_stop h2 hh
    rw [this] at h1
    omega
theorem sg_nobig {A : Ax} {k : Nat} (h1 : (sgL A k).length = k) (h2 : k ≤ 2048) (j : Nat) : (sgL A j).length ≤ 2048 := by
  rcases Nat.le_total k j with hh | hh
  · rw [sg_stop h1 hh]; omega
  · have := (gQ_le (sgX A) (sgS A) j (k - j)).length_le
    rw [show j + (k - j) = k by omega] at this
    have h3 : (sgL A j).length ≤ (sgL A k).length := this
    omega

/-- What Single answers, where it is right. -/
structure SiO (base : Nat) (A : Ax) (k : Nat) (sa : Option Addr) (sc : Nat) (na : Option Addr) (nc : Nat) (ma : Option Addr) (mc : Nat) (oa : Option Addr) (oc : Nat) (ga : Option Addr) (gc g : Nat) (V : List Value) (W : World) : Prop where
  hk : (sgL A k).length = k
  k2 : k ≤ 2048
  s : W.ownsRow base 3 1 (.slice sa (cs ((sgS A).map fun p => ix p (sgL A k))).length sc) (cs ((sgS A).map fun p => ix p (sgL A k))).length (vals (cs ((sgS A).map fun p => ix p (sgL A k))))
  n : Rws2 W base (.slice na k nc) k (fun i => (sgX A (nAt (sgL A k) i)).map fun p => ix p (sgL A k)) V
  m : W.ownsRow base 33 1 (.slice ma k mc) k (vu (fun i => A.Mu (nAt (sgL A k) i).1) k)
  o : W.ownsRow base 33 1 (.slice oa k oc) k (vu (fun i => A.No (nAt (sgL A k) i).1) k)
  bg : base ≤ g
  g : W.cell? ⟨g, 0, none⟩ = some (.slice ga (cs (whN (fun i => sgF A (nAt (sgL A k) i)) k)).length gc)
  f : W.ownsRow base 3 1 (.slice ga (cs (whN (fun i => sgF A (nAt (sgL A k) i)) k)).length gc) (cs (whN (fun i => sgF A (nAt (sgL A k) i)) k)).length (vals (cs (whN (fun i => sgF A (nAt (sgL A k) i)) k)))

theorem SiO.of {base : Nat} {A : Ax} {k : Nat} {sa : Option Addr} {sc : Nat} {na : Option Addr} {nc : Nat} {ma : Option Addr} {mc : Nat} {oa : Option Addr} {oc : Nat} {ga : Option Addr} {gc g : Nat} {V : List Value} {W W' : World} (h : SiO base A k sa sc na nc ma mc oa oc ga gc g V W) (hb : ∀ b, base ≤ b → b < W.heap.size → W'.heap[b]? = W.heap[b]?) : SiO base A k sa sc na nc ma mc oa oc ga gc g V W' := by
  have ow : ∀ {e : TypeId} {v : Value} {n : Nat} {xs : List Value}, W.ownsRow base e 1 v n xs → W'.ownsRow base e 1 v n xs := fun {e v n xs} h1 => owns_of_blk h1 (fun b e => hb b (h1.lt b e).1 (h1.lt b e).2)
  exact ⟨h.hk, h.k2, ow h.s, ⟨ow h.n.top, fun i hi => by
    obtain ⟨v, h1, h2⟩ := h.n.row i hi
    exact ⟨v, h1, ow h2⟩⟩, ow h.m, ow h.o, h.bg, (World.cell?_of_block (w := W) (hb g h.bg (World.block_lt_of_cell? _ _ h.g))).trans h.g, ow h.f⟩

/-- What Single answers, told apart. -/
theorem si_cases {w w' : World} {A : Ax} {e : Ending} (h : SiIs w A e w') : ∃ (sa : Option Addr) (sn sc : Nat) (na : Option Addr) (G nc : Nat) (ma : Option Addr) (M mc : Nat) (oa : Option Addr) (O oc : Nat) (fa : Option Addr) (K fc : Nat) (er : Int), e = .returned (.tuple #[.agg #[.slice sa sn sc, .slice na G nc, .slice ma M mc, .slice oa O oc, .slice fa K fc], .int .i64 er]) ∧ Hid (Below w.heap.size w w' ∧
    (er = 0 → chkA A = 0 ∧ ∃ (k : Nat) (ga : Option Addr) (gc g : Nat) (V : List Value), sn = (sgS A).length ∧ G = k ∧ M = k ∧ O = k ∧ K = 1 ∧ fc = 1 ∧ fa = some ⟨g, 0, none⟩ ∧ SiO w.heap.size A k sa sc na nc ma mc oa oc ga gc g V w') ∧ (er ≠ 0 → chkA A ≠ 0 ∨ ∃ k, 2048 < (sgL A k).length)) := by
  rcases h with ⟨h0, rfl, hb⟩ | ⟨h0, h1, rfl, hb⟩ | ⟨h0, k, sv, nv, mv, ov, gv, g, V, hk, hk2, rfl, hb, r1, r2, r3, r4, hg, r5, r6⟩
  · exact ⟨none, 0, 0, none, 0, 0, none, 0, 0, none, 0, 0, none, 0, 0, chkA A, rfl, hid ⟨hb, fun e => absurd e h0, fun _ => Or.inl h0⟩⟩
  · exact ⟨none, 0, 0, none, 0, 0, none, 0, 0, none, 0, 0, none, 0, 0, 2, rfl, hid ⟨hb, fun e => (by cases e), fun _ => Or.inr h1⟩⟩
  · obtain ⟨sa, sc, rfl⟩ := owns_sl r1
    obtain ⟨na, nc, rfl⟩ := owns_sl r2.top
    obtain ⟨ma, mc, rfl⟩ := owns_sl r3
    obtain ⟨oa, oc, rfl⟩ := owns_sl r4
    obtain ⟨ga, gc, rfl⟩ := owns_sl r6
    refine ⟨sa, (cs ((sgS A).map fun p => ix p (sgL A k))).length, sc, na, k, nc, ma, k, mc, oa, k, oc, some ⟨g, 0, none⟩, 1, 1, 0, rfl, hid ⟨hb, fun _ => ⟨h0, k, ga, gc, g, V, by rw [cs_len, List.length_map], rfl, rfl, rfl, rfl, rfl, rfl, ⟨hk, hk2, r1, r2, r3, r4, hg, r5, r6⟩⟩, fun e => absurd rfl e⟩⟩

end Go.Proofs.Ytdncjikmknkkpab
