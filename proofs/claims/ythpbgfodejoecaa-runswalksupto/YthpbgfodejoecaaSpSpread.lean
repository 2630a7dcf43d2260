/- spread. -/
import Derived.Test.YthpbgfodejoecaaSpFollow
namespace Go.Proofs.Ythpbgfodejoecaa
open Go.RowKit Go.Maps

theorem Try.info44 : (Try.prog.info? 44).map (fun i => (i.zero, i.size, i.bytes)) = some (some (.agg #[.int .i64 0, .int .i64 0]), 2, 16) := by kernel_rfl
theorem Try.info31 : (Try.prog.info? 31).map (fun i => (i.zero, i.size, i.bytes)) = some (some (.slice none 0 0), 1, 24) := by kernel_rfl

/-- How each marking came, and its way. -/
def Cam (C : List (Int × Int)) (ways : List (List Int)) : Prop := C.length = ways.length ∧ ∀ k, k < ways.length →
  (k = 0 ∧ (C.getD k (0, 0)).1 = -1 ∧ ways.getD k [] = []) ∨ (∃ j : Nat, j < k ∧ (C.getD k (0, 0)).1 = j ∧ ways.getD k [] = ways.getD j [] ++ [(C.getD k (0, 0)).2])

theorem cam_start : Cam [(-1, 0)] [[]] := ⟨rfl, fun k hk => by
  obtain rfl : k = 0 := by simp at hk; omega
  exact Or.inl ⟨rfl, rfl, rfl⟩⟩

theorem cam_snoc {C : List (Int × Int)} {ways : List (List Int)} (h : Cam C ways) {j : Nat} (hj : j < ways.length) (s : Int) : Cam (C ++ [((j : Int), s)]) (ways ++ [ways.getD j [] ++ [s]]) := by
  obtain ⟨h1, h2⟩ := h
  refine ⟨by simp [h1], fun k hk => ?_⟩
  by_cases e : k = ways.length
  · subst e
    refine Or.inr ⟨j, hj, ?_, ?_⟩
    · rw [← h1]
      simp
    · rw [show (ways ++ [ways.getD j [] ++ [s]]).getD ways.length [] = ways.getD j [] ++ [s] by simp, show (C ++ [((j : Int), s)]).getD ways.length (0, 0) = ((j : Int), s) by rw [← h1]; simp]
      rw [show (ways ++ [ways.getD j [] ++ [s]]).getD j [] = ways.getD j [] by simp [List.getElem?_append_left hj]]
  · have hk' : k < ways.length := by simp at hk; omega
    have hC : (C ++ [((j : Int), s)]).getD k (0, 0) = C.getD k (0, 0) := by simp [List.getElem?_append_left (show k < C.length by omega)]
    have hW : ∀ i, i < ways.length → (ways ++ [ways.getD j [] ++ [s]]).getD i [] = ways.getD i [] := fun i hi => by simp [List.getElem?_append_left hi]
    rw [hC, hW k hk']
    rcases h2 k hk' with h3 | ⟨i, h3, h4, h5⟩
    · exact Or.inl h3
    · exact Or.inr ⟨i, h3, h4, by rw [hW i (by omega)]; exact h5⟩

/-- One edge, as follow tells it. -/
theorem fo_put {w' : World} {base r mb : Nat} {b0 b1 b2 b3 b4 : Value} {tk : Int} {q F : Nat} {nexts : List (List (Int × Int))} {C : List (Int × Int)} {mv nv cv : Value} {D : DataW Unit} {s : Nat} {e : Ending} {S : Xp} {K A B : Nat → Int} {l : List St3}
    (hlt : S.nexts.length < S.ways.length) (hc : Cam C S.ways) (h : FoIs w' base r mb b0 b1 b2 b3 b4 tk q F S.marks nexts C mv nv cv D S.nexts.length s (lst F (frs K A B (l.getD s (0, 0, 0)) (fnl (S.marks.getD S.nexts.length [])))) e) :
    (∃ c : Int, (c = 7 ∨ c = 8) ∧ xput tk q (nxl K A B F l) S (s : Int) = .inl (c, S.way (s : Int)) ∧ e = .returned (.tuple #[.int .i64 0, .int .i64 c]) ∧ Xr w' base r mb b0 b1 b2 b3 b4 tk q F S.marks nexts C mv nv cv D) ∨
    (∃ (S' : Xp) (to : Int) (C' : List (Int × Int)) (mv' cv' : Value) (D' : DataW Unit), xput tk q (nxl K A B F l) S (s : Int) = .inr S' ∧ S'.cur = S.cur ++ [((s : Int), to)] ∧ e = .returned (.tuple #[.int .i64 to, .int .i64 0]) ∧ Cam C' S'.ways ∧ Xr w' base r mb b0 b1 b2 b3 b4 tk q F S'.marks nexts C' mv' nv cv' D') := by
  have hn : nxl K A B F l (s : Int) S.here = lst F (frs K A B (l.getD s (0, 0, 0)) (fnl (S.marks.getD S.nexts.length []))) := by
    unfold nxl
    rw [Int.toNat_natCast]
    rfl
  rw [← hn] at h
  rcases h with ⟨h1, h2, h3⟩ | ⟨h1, h2, h3, h4⟩ | ⟨h1, h2, h3, h4, h5⟩ | ⟨h1, h2, h3, h4, mv', cv', D', h5⟩
  · refine Or.inl ⟨7, Or.inl rfl, ?_, h2, h3⟩
    unfold xput
    rw [if_pos h1]
  · refine Or.inr ⟨{ S with cur := S.cur ++ [((s : Int), ((S.marks.idxOf (nxl K A B F l (s : Int) S.here) : Nat) : Int))] }, _, C, mv, cv, D, ?_, rfl, h3, hc, h4⟩
    unfold xput
    rw [if_neg (by rw [h1]; decide), if_pos h2]
  · refine Or.inl ⟨8, Or.inr rfl, ?_, h4, h5⟩
    unfold xput
    rw [if_neg (by rw [h1]; decide), if_neg h2, if_pos h3]
  · refine Or.inr ⟨{ S with marks := S.marks ++ [nxl K A B F l (s : Int) S.here], ways := S.ways ++ [S.way (s : Int)], cur := S.cur ++ [((s : Int), ((S.marks.length : Nat) : Int))] }, _, _, mv', cv', D', ?_, rfl, h4, cam_snoc hc hlt _, h5⟩
    unfold xput
    rw [if_neg (by rw [h1]; decide), if_neg h2, if_neg h3]

/-- How far spread has come: the rest of the reckoning gives V. -/
structure Spr (w0 wr : World) (base r mb : Nat) (b0 b1 b2 b3 b4 : Value) (tk : Int) (q F : Nat) (nx : Int → List Int → List Int) (cn : List Int → List Int) (m0 : List Int) (S0 S : Xp) (k : Nat) (C : List (Int × Int)) (mv nv cv : Value) (D : DataW Unit) (ev : Value) : Prop where
  below : Below base w0 wr
  size : w0.heap.size ≤ wr.heap.size
  kp : Kp [some 3, some 31, some 44] w0 wr
  rest : xinner tk q nx ((cn S0.here).drop k) S = xinner tk q nx (cn S0.here) S0
  inv : XInv tk q nx cn m0 S ((cn S0.here).take k)
  nex : S.nexts = S0.nexts
  her : S.here = S0.here
  lt : S.nexts.length < S.marks.length
  xr : Xr wr base r mb b0 b1 b2 b3 b4 tk q F S.marks S0.nexts C mv nv cv D
  nxs0 : Nxs w0 base nv S0.nexts
  cam : Cam C S.ways
  edg : wr.ownsRow w0.heap.size 44 2 ev k (pvals S.cur)

theorem spr_len {w0 wr : World} {base r mb : Nat} {b0 b1 b2 b3 b4 : Value} {tk : Int} {q F : Nat} {nx : Int → List Int → List Int} {cn : List Int → List Int} {m0 : List Int} {S0 S : Xp} {k : Nat} {C : List (Int × Int)} {mv nv cv : Value} {D : DataW Unit} {ev : Value}
    (h : Spr w0 wr base r mb b0 b1 b2 b3 b4 tk q F nx cn m0 S0 S k C mv nv cv D ev) (hk : k ≤ (cn S0.here).length) : S.cur.length = k := by
  have := congrArg List.length h.inv.curs
  rw [List.length_map, List.length_take] at this
  omega

/-- What spread answers. -/
def SpdIs (w' : World) (base r mb : Nat) (b0 b1 b2 b3 b4 : Value) (tk : Int) (q F : Nat) (nx : Int → List Int → List Int) (cn : List Int → List Int) (m0 : List Int) (S : Xp) (e : Ending) : Prop :=
  (∃ (c s : Int) (Sf : Xp) (C : List (Int × Int)) (mv nv cv : Value) (D : DataW Unit), c ≠ 0 ∧ xinner tk q nx (cn S.here) S = .inl (c, Sf.way s) ∧ Sf.nexts = S.nexts ∧ Sf.nexts.length < Sf.marks.length ∧ Sf.ways.length ≤ 200 ∧ e = .returned (.tuple #[.int .i64 s, .int .i64 c]) ∧ Cam C Sf.ways ∧ Xr w' base r mb b0 b1 b2 b3 b4 tk q F Sf.marks Sf.nexts C mv nv cv D) ∨
  (∃ (S' : Xp) (C : List (Int × Int)) (mv nv cv : Value) (D : DataW Unit), xinner tk q nx (cn S.here) S = .inr S' ∧ XInv tk q nx cn m0 S' (cn S'.here) ∧ S'.nexts = S.nexts ∧ S'.nexts.length < S'.marks.length ∧ e = .returned (.tuple #[.int .i64 0, .int .i64 0]) ∧ Cam C S'.ways ∧ Xr w' base r mb b0 b1 b2 b3 b4 tk q F S'.marks (S'.nexts ++ [S'.cur]) C mv nv cv D)

theorem xinner_go {tk : Int} {q : Nat} {nx : Int → List Int → List Int} {S S' : Xp} {s : Int} {l : List Int} (h : xput tk q nx S s = .inr S') : xinner tk q nx (s :: l) S = xinner tk q nx l S' := by
  conv => lhs; unfold xinner
  rw [h]

theorem xinner_stop {tk : Int} {q : Nat} {nx : Int → List Int → List Int} {S : Xp} {s : Int} {l : List Int} {e : Int × List Int} (h : xput tk q nx S s = .inl e) : xinner tk q nx (s :: l) S = .inl e := by
  unfold xinner
  rw [h]

theorem drop_cons {l : List Int} {k : Nat} (h : k < l.length) : l.drop k = l.getD k 0 :: l.drop (k + 1) := by
  rw [List.drop_eq_getElem_cons h]
  congr 1
  simp [h]

theorem take_snoc {l : List Int} {k : Nat} (h : k < l.length) : l.take (k + 1) = l.take k ++ [l.getD k 0] := by
  rw [List.take_add_one]
  simp [h]

/-- 'edges = append(edges, ..)'. -/
theorem Spr.app {w0 wr w6 w7 : World} {base r mb : Nat} {b0 b1 b2 b3 b4 : Value} {tk : Int} {q F : Nat} {nx : Int → List Int → List Int} {cn : List Int → List Int} {m0 : List Int} {S0 S S' : Xp} {k : Nat} {C C' : List (Int × Int)} {mv mv' nv cv cv' : Value} {D D' : DataW Unit} {ev v7 : Value} {to : Int} {o : Obj}
    (h : Spr w0 wr base r mb b0 b1 b2 b3 b4 tk q F nx cn m0 S0 S k C mv nv cv D ev) (hk : k < (cn S0.here).length) (hbase : base ≤ w0.heap.size) (hb : Below base wr w6) (hkp : Kp [some 3, some 31, some 44] wr w6)
    (hput : xput tk q nx S ((cn S0.here).getD k 0) = .inr S') (hcur : S'.cur = S.cur ++ [((cn S0.here).getD k 0, to)]) (hc : Cam C' S'.ways) (hx : Xr w6 base r mb b0 b1 b2 b3 b4 tk q F S'.marks S0.nexts C' mv' nv cv' D')
    (hown : w7.ownsRow w0.heap.size 44 2 v7 (k + 1) (pvals S.cur ++ [.int .i64 ((cn S0.here).getD k 0), .int .i64 to])) (hgrow : (w6.alloc o).grownBy w7 ev.ownBlock) :
    (∃ a c, v7 = .slice a (k + 1) c) ∧ Hid (Spr w0 w7 base r mb b0 b1 b2 b3 b4 tk q F nx cn m0 S0 S' (k + 1) C' mv' nv cv' D' v7) := by
  have hg : w6.grownBy w7 ev.ownBlock := (World.grownBy_alloc _ _ _).trans hgrow
  have he6 : w6.ownsRow w0.heap.size 44 2 ev k (pvals S.cur) := row_kp h.edg hkp (by decide)
  have kp : Kp [some 123, some 26, some 3, some 127, some 31, none] w6 w7 := kp_row he6 hg (by decide)
  have hs6 : w0.heap.size ≤ w6.heap.size := Nat.le_trans h.size hb.size
  have hb6 : Below base w0 w6 := h.below.trans hb
  have hnew : ∀ b, ev.ownBlock = some b → w0.heap.size ≤ b := fun b e => (he6.lt b e).1
  have kp0 : Kp [some 3, some 31, some 44] w0 w7 := (h.kp.trans hkp).new hg hs6 hnew
  refine ⟨?_, ?_⟩
  · rcases hown.2 with ⟨_, h0⟩ | ⟨g, cap, cur, rfl, _⟩
    · omega
    · exact ⟨_, _, rfl⟩
  · have hmem : (cn S0.here).getD k 0 ∈ cn S.here := by
      rw [h.her, List.getD_eq_getElem?_getD, List.getElem?_eq_getElem hk]
      exact List.getElem_mem hk
    rcases xput_inv h.inv h.lt hmem with ⟨r', h1, _⟩ | ⟨S1, h1, h2, h3, h4, h5⟩
    · rw [hput] at h1
      cases h1
    · rw [hput] at h1
      cases h1
      refine ⟨hb6.grown hg (Nat.le_trans hbase hs6) (fun b e => Nat.le_trans hbase (hnew b e)), Nat.le_trans hs6 hg.size, kp0, ?_, ?_, h3.trans h.nex, h4.trans h.her, h5, ?_, h.nxs0, hc, ?_⟩
      · rw [← h.rest, drop_cons hk, xinner_go hput]
      · rw [take_snoc hk]
        exact h2
      · exact xr_kp hx kp (by decide) (nxs_kp h.nxs0 kp0 (by decide) (by decide))
      · rw [hcur, ← pvals_snoc]
        exact hown

/-- 'next = append(next, edges)'. -/
theorem Spr.fin {w0 wr w6 : World} {base r mb : Nat} {b0 b1 b2 b3 b4 : Value} {tk : Int} {q F : Nat} {nx : Int → List Int → List Int} {cn : List Int → List Int} {m0 : List Int} {S0 S : Xp} {k : Nat} {C : List (Int × Int)} {mv cv : Value} {na : Option Addr} {nn nc : Nat} {D : DataW Unit} {ev v6 : Value} {Vs : List Value} {o : Obj}
    (h : Spr w0 wr base r mb b0 b1 b2 b3 b4 tk q F nx cn m0 S0 S k C mv (.slice na nn nc) cv D ev) (hk : k = (cn S0.here).length) (hbase : base ≤ w0.heap.size) (hnn : nn = S0.nexts.length)
    (hV : wr.ownsRow base 31 1 (.slice na nn nc) nn Vs ∧ ∀ i, i < nn → ∃ v, Vs[i]? = some v ∧ wr.ownsRow base 44 2 v (S0.nexts.getD i []).length (pvals (S0.nexts.getD i [])))
    (hown : w6.ownsRow base 31 1 v6 (nn + 1) (Vs ++ [ev])) (hgrow : (wr.alloc o).grownBy w6 (Value.slice na nn nc).ownBlock) :
    (∃ a c, v6 = .slice a (nn + 1) c) ∧ w6.frozen? ⟨r, 8, none⟩ = false ∧ w6.cell? ⟨r, 8, none⟩ = some (.slice na nn nc) ∧
      Hid (Below base w0 (w6.setCell ⟨r, 8, none⟩ v6) ∧ Xr (w6.setCell ⟨r, 8, none⟩ v6) base r mb b0 b1 b2 b3 b4 tk q F S.marks (S.nexts ++ [S.cur]) C mv v6 cv D) := by
  have hg : wr.grownBy w6 (Value.slice na nn nc).ownBlock := (World.grownBy_alloc _ _ _).trans hgrow
  have kp : Kp [some 123, some 26, some 3, some 127, some 44, none] wr w6 := kp_row hV.1 hg (by decide)
  have hs6 := srch_kp h.xr.blk kp (by decide)
  have kp7 : Kp [some 26, some 3, some 127, some 31, some 44, none] w6 (w6.setCell ⟨r, 8, none⟩ v6) := kp_set hs6 (by decide) v6
  have kp8 : Kp [some 26, some 3, some 127, some 44, none] wr (w6.setCell ⟨r, 8, none⟩ v6) := (kp.sub (by decide)).trans (kp7.sub (by decide))
  have hsz : base ≤ wr.heap.size := Nat.le_trans hbase h.size
  have hb6 : Below base w0 w6 := h.below.grown hg hsz (fun b e => (hV.1.lt b e).1)
  have hcl := spr_len h (by omega)
  refine ⟨?_, srch_frozen hs6 8, (srch_cells hs6).2.2.2.2.1, hb6.setCell h.xr.hr _, ⟨h.xr.hr, h.xr.hmb, srch_set8 hs6 v6, mks_kp h.xr.mks kp8 (by decide) (by decide), ?_, row_kp h.xr.cam kp8 (by decide), map_kp h.xr.map kp8 (by decide), h.xr.nmd, h.xr.len, h.xr.shp⟩⟩
  · rcases hown.2 with ⟨_, h0⟩ | ⟨g, cap, cur, rfl, _⟩
    · omega
    · exact ⟨_, _, rfl⟩
  · have hl : (S.nexts ++ [S.cur]).length = nn + 1 := by rw [h.nex, hnn]; simp
    refine ⟨Vs ++ [ev], ?_, fun i hi => ?_⟩
    · rw [hl]
      exact row_kp hown kp7 (by decide)
    · rw [hl] at hi
      have hVl : Vs.length = nn := by have := hV.1.1; omega
      by_cases e : i = nn
      · subst e
        refine ⟨ev, by rw [List.getElem?_append_right (by omega), hVl]; simp, ?_⟩
        have e2 : (S.nexts ++ [S.cur]).getD i [] = S.cur := by rw [h.nex, hnn]; simp
        rw [e2, hcl]
        exact row_kp (owns_base h.edg hbase) kp8 (by decide)
      · obtain ⟨v, h1, h2⟩ := hV.2 i (by omega)
        refine ⟨v, by rw [List.getElem?_append_left (by omega), h1], ?_⟩
        have e2 : (S.nexts ++ [S.cur]).getD i [] = S0.nexts.getD i [] := by rw [h.nex]; simp [List.getElem?_append_left (show i < S0.nexts.length by omega)]
        rw [e2]
        exact row_kp h2 kp8 (by decide)

set_option maxRecDepth 20000 in
set_option maxHeartbeats 4000000 in
theorem spread_any {w : World} {base r mb : Nat} {na fa sa ia oa : Option Addr} {N nc F fc sc ic oc : Nat} {M : Nat → ByteArray} {K A B : Nat → Int} {l : List St3} (hB : Brd w na N nc fa F sa ia oa M K A B l) {X : List Int → Nat → Int} (hX : XOk K A B F l X) {m0 : List Int}
    {tk : Int} {q : Nat} {S : Xp} {C : List (Int × Int)} {mv nv cv : Value} {D : DataW Unit} (hbelow : base ≤ w.heap.size) (hBb : ∀ u, Below base w u → Brd u na N nc fa F sa ia oa M K A B l)
    (h : Xr w base r mb (.slice na N nc) (.slice fa F fc) (.slice sa l.length sc) (.slice ia N ic) (.slice oa N oc) tk q F S.marks S.nexts C mv nv cv D) (hI : XInv tk q (nxl K A B F l) (cnl X l.length) m0 S []) (hc : Cam C S.ways) (hlt : S.nexts.length < S.marks.length) (hcur : S.cur = []) (hq : q ≤ 200) (htk : tk ≤ 9) :
    Calls Try.prog 70 #[.pointer (some ⟨r, 0, none⟩), .int .i64 (S.nexts.length : Nat)] w fun e w' => Below base w w' ∧
      SpdIs w' base r mb (.slice na N nc) (.slice fa F fc) (.slice sa l.length sc) (.slice ia N ic) (.slice oa N oc) tk q F (nxl K A B F l) (cnl X l.length) m0 S e := by
  have HB : Hid (Brd w na N nc fa F sa ia oa M K A B l) := hB
  have HBb : Hid (∀ u, Below base w u → Brd u na N nc fa F sa ia oa M K A B l) := hBb
  have HX : Hid (Xr w base r mb (.slice na N nc) (.slice fa F fc) (.slice sa l.length sc) (.slice ia N ic) (.slice oa N oc) tk q F S.marks S.nexts C mv nv cv D) := h
  have HI : Hid (XInv tk q (nxl K A B F l) (cnl X l.length) m0 S []) := hI
  have HCm : Hid (Cam C S.ways) := hc
  have HCur : Hid (S.cur = []) := hcur
  have HXo : Hid (XOk K A B F l X) := hX
  have hF30 : F ≤ 30 := (chk_zero hB.chk).1.2
  have hl60 := hB.few
  obtain ⟨i3, hi, hz0, hz1, hz2⟩ := info_parts Try.info44
  have HI3 : Hid (Try.prog.info? 44 = some i3 ∧ i3.zero = some (.agg #[.int .i64 0, .int .i64 0]) ∧ i3.size = 2 ∧ i3.bytes = 16) := ⟨hi, hz0, hz1, hz2⟩
  clear hi hz0 hz1 hz2
  obtain ⟨i1, hi, hz0, hz1, hz2⟩ := info_parts Try.info31
  have HI1 : Hid (Try.prog.info? 31 = some i1 ∧ i1.zero = some (.slice none 0 0) ∧ i1.size = 1 ∧ i1.bytes = 24) := ⟨hi, hz0, hz1, hz2⟩
  clear hi hz0 hz1 hz2
  obtain ⟨n, hn⟩ : ∃ n, n = S.marks.length := ⟨_, rfl⟩
  obtain ⟨nn, hnn⟩ : ∃ nn, nn = S.nexts.length := ⟨_, rfl⟩
  have HN : Hid (n = S.marks.length ∧ nn = S.nexts.length) := ⟨hn, hnn⟩
  have hfew := hI.few
  have hn200 : n ≤ 200 := by omega
  have hnnn : (nn : Int) < (n : Int) := by omega
  have hnn200 : nn ≤ 200 := by omega
  obtain ⟨ma, mc, hmv⟩ : ∃ ma mc, mv = .slice ma n mc := by
    obtain ⟨G, ⟨Vs, h1, _⟩, _⟩ := h.mks
    rw [hn]
    rcases h1.2 with ⟨rfl, h0⟩ | ⟨g, cap, cur, rfl, _⟩
    · exact ⟨none, 0, by rw [h0]⟩
    · exact ⟨_, _, rfl⟩
  obtain ⟨xa, xc, hnv⟩ : ∃ xa xc, nv = .slice xa nn xc := by
    obtain ⟨Vs, h1, _⟩ := h.nxs
    rw [hnn]
    rcases h1.2 with ⟨rfl, h0⟩ | ⟨g, cap, cur, rfl, _⟩
    · exact ⟨none, 0, by rw [h0]⟩
    · exact ⟨_, _, rfl⟩
  subst hmv
  subst hnv
  obtain ⟨gb, go, g, gc, rfl, hmc, hmk⟩ := mk_at h.mks hlt
  have hsh : Shp F (S.marks.getD S.nexts.length []) := h.shp _ (by rw [List.getD_eq_getElem?_getD, List.getElem?_eq_getElem hlt]; exact List.getElem_mem hlt)
  have HMk : Hid (Mk w g F (fnl S.here)) := hmk
  have H9 : Hid (∀ i, i < F → 0 ≤ fnl S.here i ∧ fnl S.here i ≤ 9) := hsh.2
  rw [← hnn] at hmc
  have hrl : r < w.heap.size := srch_lt h.blk
  obtain ⟨⟨p0, p1, p2, p3, p4⟩, _, _, p7, p8, _, _⟩ := srch_cells h.blk
  have C1 : Hid (∀ u, Below w.heap.size w u → Calls Try.prog 44 #[.agg #[.slice na N nc, .slice fa F fc, .slice sa l.length sc, .slice ia N ic, .slice oa N oc], .slice (some ⟨g, 0, none⟩) F gc] u fun e w' => Below u.heap.size u w' ∧ ∃ a c, e = .returned (.tuple #[.slice a (tally (X S.here) 1 l.length) c, .int .i64 0]) ∧ w'.ownsRow u.heap.size 3 1 (.slice a (tally (X S.here) 1 l.length) c) (tally (X S.here) 1 l.length) (vals (fl (X S.here) 1 l.length))) := fun u hu =>
    enabledB_own (HB.out.below hu) (HMk.out.below hu).row H9.out (X S.here) (fun i _ => HXo.out S.here i)
  obtain ⟨cn, hcn⟩ : ∃ cn, cn = cnl X l.length S.here := ⟨_, rfl⟩
  have hcl : cn.length = tally (X S.here) 1 l.length := by rw [hcn]; exact fl_len _ _ _
  have HCn : Hid (cn = cnl X l.length S.here ∧ fl (X S.here) 1 l.length = cn ∧ tally (X S.here) 1 l.length = cn.length) := ⟨hcn, hcn.symm, hcl.symm⟩
  have hcn60 : cn.length ≤ 60 := by have := tally_le (X S.here) 1 l.length; omega
  have HLt : Hid (S.nexts.length < S.marks.length) := hlt
  clear hB hBb h hI hc hcur hX hmk hsh hcn hcl hn
  rw [← hnn]
  clear hnn hlt
  go_enter Try.func70, Try.ntmps70
  go_wp2
  go_region_held3 (fun z => z.cell? ⟨r, 0, none⟩ = some (.slice na N nc) ∧ z.cell? ⟨r, 1, none⟩ = some (.slice fa F fc) ∧ z.cell? ⟨r, 2, none⟩ = some (.slice sa l.length sc) ∧ z.cell? ⟨r, 3, none⟩ = some (.slice ia N ic) ∧ z.cell? ⟨r, 4, none⟩ = some (.slice oa N oc) ∧ z.cell? ⟨r, 7, none⟩ = some (.slice (some ⟨gb, go, none⟩) n mc) ∧ z.cell? ⟨gb, go + nn, none⟩ = some (.slice (some ⟨g, 0, none⟩) F gc))
    (first | (with_reducible exact ⟨x0, x1, x2, x3, x4, x7, xg⟩) | (exact ⟨p0, p1, p2, p3, p4, p7, hmc⟩))
    (first | (go_at_call 44; refine (C1.out _ (below_drew_iff.2 (Below.refl _ _))).mono ?_; rintro e w1 ⟨hb1, ea, ec, rfl, hrow⟩; have hb1' : Below w.heap.size w w1 := (below_drew_iff.2 (Below.refl _ _)).trans hb1; obtain ⟨⟨x0, x1, x2, x3, x4⟩, _, _, x7, _, _, _⟩ := srch_cells (HX.out.below hb1').blk; have xg : w1.cell? ⟨gb, go + nn, none⟩ = some (.slice (some ⟨g, 0, none⟩) F gc) := (hb1'.cell (p := ⟨gb, go + nn, none⟩) (World.block_lt_of_cell? _ _ hmc)).trans hmc; have HRow : Hid (w1.ownsRow w.heap.size 3 1 (.slice ea cn.length ec) cn.length (vals cn)) := (by have := hrow; rw [HCn.out.2.1, HCn.out.2.2] at this; exact this); clear hrow; dsimp only))
  rw [HCn.out.2.2]
  have HB1 : Hid (Below w.heap.size w w1) := hb1'
  have HX1 : Hid (Xr w1 base r mb (.slice na N nc) (.slice fa F fc) (.slice sa l.length sc) (.slice ia N ic) (.slice oa N oc) tk q F S.marks S.nexts C (.slice (some ⟨gb, go, none⟩) n mc) (.slice xa nn xc) cv D) := HX.out.below hb1'
  have hb1s : base ≤ w1.heap.size := Nat.le_trans hbelow hb1'.size
  have hrl1 : r < w1.heap.size := Nat.lt_of_lt_of_le hrl hb1'.size
  have HS0 : Hid (Spr w1 w1 base r mb (.slice na N nc) (.slice fa F fc) (.slice sa l.length sc) (.slice ia N ic) (.slice oa N oc) tk q F (nxl K A B F l) (cnl X l.length) m0 S S 0 C (.slice (some ⟨gb, go, none⟩) n mc) (.slice xa nn xc) cv D (.slice none 0 0)) :=
    ⟨Below.refl _ _, Nat.le_refl _, Kp.refl _ _, rfl, HI.out, rfl, rfl, HLt.out, HX1.out, HX1.out.nxs, HCm.out, by rw [HCur.out]; exact World.ownsRow_nil _ _ _ _⟩
  clear p0 p1 p2 p3 p4 p7 p8 hmc xg x0 x1 x2 x3 x4 x7 hb1 hb1' C1
  go_wp2
  go_loopw [8, 31] (fun v i wr => ∃ (k : Nat) (va : Option Addr) (vc : Nat) (T : Xp) (C' : List (Int × Int)) (mv' cv' : Value) (D' : DataW Unit), k ≤ cn.length ∧ i = .int .i64 k ∧ v = .slice va k vc ∧ Hid (Spr w1 wr base r mb (.slice na N nc) (.slice fa F fc) (.slice sa l.length sc) (.slice ia N ic) (.slice oa N oc) tk q F (nxl K A B F l) (cnl X l.length) m0 S T k C' mv' (.slice xa nn xc) cv' D' (.slice va k vc))) (fun _ i _ => cn.length - (intOf i).toNat)
  case atStart => exact ⟨0, none, 0, S, C, _, cv, D, Nat.zero_le _, rfl, rfl, HS0.out⟩
  case round =>
    obtain ⟨k, va, vc, T, C', mv', cv', D', hk, rfl, rfl, HT⟩ := hrel
    clear HS0
    have HBr : Hid (Below base w wr) := (HB1.out.mono hbelow).trans HT.out.below
    have hrr : r < wr.heap.size := Nat.lt_of_lt_of_le hrl1 HT.out.size
    by_cases hlt : k < cn.length
    · obtain ⟨eb, eo, hea, hec⟩ := owns_row' rfl (row_kp HRow.out HT.out.kp (by decide))
      obtain rfl := hea (by omega)
      have hcell : wr.cell? ⟨eb, eo + k, none⟩ = some (.int .i64 (cn.getD k 0)) := hec k hlt
      have hkI : (k : Int) < (cn.length : Int) := by omega
      have hmem : cn.getD k 0 ∈ cnl X l.length S.here := by
        rw [← HCn.out.1, List.getD_eq_getElem?_getD, List.getElem?_eq_getElem hlt]
        exact List.getElem_mem hlt
      obtain ⟨s, hs1, hs2, hs3⟩ := (mem_cnl HXo.out).1 hmem
      rw [hs1] at hcell
      have HS : Hid (cn.getD k 0 = (s : Int) ∧ s < l.length) := ⟨hs1, hs2⟩
      have hTn : T.nexts.length = nn := by rw [HT.out.nex, ← HN.out.2]
      have HTn : Hid (T.nexts.length = nn) := hTn
      have hhere : T.marks.getD nn [] = S.here := by rw [← HT.out.her, ← hTn]; rfl
      have hTl : nn < T.marks.length := by rw [← hTn]; exact HT.out.lt
      have C6 := follow_any (HBb.out wr HBr.out) HT.out.xr (Nat.le_trans hb1s HT.out.size) HT.out.inv.few hq htk hTl hs2 (by rw [hhere]; exact hs3)
      have C7 : Hid (Calls Try.prog 98 #[.pointer (some ⟨r, 0, none⟩), .int .i64 (nn : Nat), .int .i64 (s : Nat)] wr fun e w' => Below base wr w' ∧ Kp [some 3, some 31, some 44] wr w' ∧
          FoIs w' base r mb (.slice na N nc) (.slice fa F fc) (.slice sa l.length sc) (.slice ia N ic) (.slice oa N oc) tk q F T.marks S.nexts C' mv' (.slice xa nn xc) cv' D' T.nexts.length s (lst F (frs K A B (l.getD s (0, 0, 0)) (fnl (T.marks.getD T.nexts.length [])))) e) := by rw [hTn]; exact C6
      have hwl : T.nexts.length < T.ways.length := by rw [HT.out.inv.wlen]; exact HT.out.lt
      have HWl : Hid (T.nexts.length < T.ways.length) := hwl
      clear C6 hec hea hmem hs1 hs2 hs3 hTn hhere hTl hwl
      go_wp2_with fail
      refine C7.out.mono ?_
      rintro e w6 ⟨hb6, hk6, hfo⟩
      have HB6 : Hid (Below base wr w6 ∧ Kp [some 3, some 31, some 44] wr w6) := ⟨hb6, hk6⟩
      have HCl : Hid ((cnl X l.length S.here) = cn) := HCn.out.1.symm
      rcases fo_put HWl.out HT.out.cam hfo with ⟨c, hc78, hput, rfl, hx⟩ | ⟨S', to, C'', mv'', cv'', D'', hput, hcur, rfl, hcam, hx⟩
      · have hc0 : (c != 0) = true := by
          rw [bne_iff_ne]
          rcases hc78 with rfl | rfl <;> decide
        have HF : Hid (Below base w w6 ∧ SpdIs w6 base r mb (.slice na N nc) (.slice fa F fc) (.slice sa l.length sc) (.slice ia N ic) (.slice oa N oc) tk q F (nxl K A B F l) (cnl X l.length) m0 S (.returned (.tuple #[.int .i64 (s : Nat), .int .i64 c]))) := by
          refine ⟨HBr.out.trans hb6, Or.inl ⟨c, (s : Int), T, C', mv', (.slice xa nn xc), cv', D', by rcases hc78 with rfl | rfl <;> decide, ?_, HT.out.nex, HT.out.lt, ?_, rfl, HT.out.cam, ?_⟩⟩
          · rw [← HT.out.rest, HCl.out, drop_cons hlt, HS.out.1]
            exact xinner_stop hput
          · rw [HT.out.inv.wlen]
            exact Nat.le_trans HT.out.inv.few hq
          · rw [HT.out.nex]
            exact hx
        clear hb6 hk6 hfo hput hx hc78 C7
        go_wp2
        go_ret2
        exact HF.out
      · have HPut : Hid (xput tk q (nxl K A B F l) T ((cnl X l.length S.here).getD k 0) = .inr S' ∧ S'.cur = T.cur ++ [((cnl X l.length S.here).getD k 0, to)]) := by rw [HCl.out, HS.out.1]; exact ⟨hput, hcur⟩
        have HX6 : Hid (Cam C'' S'.ways ∧ Xr w6 base r mb (.slice na N nc) (.slice fa F fc) (.slice sa l.length sc) (.slice ia N ic) (.slice oa N oc) tk q F S'.marks S.nexts C'' mv'' (.slice xa nn xc) cv'' D'') := ⟨hcam, hx⟩
        have HE6 : Hid (w6.ownsRow w1.heap.size 44 2 (.slice va k vc) k (pvals T.cur)) := row_kp HT.out.edg hk6 (by decide)
        have HSz6 : Hid (w1.heap.size ≤ w6.heap.size) := Nat.le_trans HT.out.size hb6.size
        have HLk : Hid (k < (cnl X l.length S.here).length) := by rw [HCl.out]; exact hlt
        have HSc : Hid ((cnl X l.length S.here).getD k 0 = (s : Int)) := by rw [HCl.out]; exact HS.out.1
        clear hb6 hk6 hfo hput hcur hcam hx C7
        go_wp2_with (at_builtin; refine wpList_append_own_at _ rfl _ _ 31 rfl w1.heap.size 44 i3 (.agg #[.int .i64 0, .int .i64 0]) 2 16 Try.underlying31 HI3.out.1 HI3.out.2.1 HI3.out.2.2.1 HI3.out.2.2.2 rfl (by decide) _ _ _ rfl (HE6.out.alloc _) ⟨w6.heap.size, 0, none⟩ 1 1 [.int .i64 (s : Nat), .int .i64 to] rfl rfl (World.news_of_block (cs := #[.int .i64 (s : Nat), .int .i64 to]) (t := 44) (fr := (0, 0)) (heap_alloc_new w6 _)) (by simp [Value.oneCell']) (by unfold maxLen; omega) (by omega) (by have := HSz6.out; simp; omega) ?_; intro v7 w7 hown7 hgrow7 _ _; obtain ⟨⟨a7, c7, rfl⟩, H7⟩ := Spr.app HT.out HLk.out hb1s HB6.out.1 HB6.out.2 HPut.out.1 HPut.out.2 HX6.out.1 HX6.out.2 (by rw [HSc.out]; exact hown7) hgrow7; clear hown7 hgrow7)
        go_roundw
        case rel => exact ⟨k + 1, a7, c7, _, _, _, _, _, by omega, by go_num, rfl, H7.out⟩
        case measure => simp [intOf]; omega
    · obtain rfl : cn.length = k := by omega
      obtain ⟨_, _, _, _, z8, _, _⟩ := srch_cells HT.out.xr.blk
      obtain ⟨Vs, hVs⟩ := HT.out.xr.nxs
      rw [← HN.out.2] at hVs
      have HVs : Hid (wr.ownsRow base 31 1 (.slice xa nn xc) nn Vs ∧ ∀ i, i < nn → ∃ v, Vs[i]? = some v ∧ wr.ownsRow base 44 2 v (S.nexts.getD i []).length (pvals (S.nexts.getD i []))) := hVs
      have HSz : Hid (base ≤ wr.heap.size) := Nat.le_trans hb1s HT.out.size
      have HCl : Hid (cn.length = (cnl X l.length S.here).length) := congrArg List.length HCn.out.1
      clear hVs
      go_wp2_with (at_builtin; refine wpList_append_own_at _ rfl _ _ 35 rfl base 31 i1 (.slice none 0 0) 1 24 Try.underlying35 HI1.out.1 HI1.out.2.1 HI1.out.2.2.1 HI1.out.2.2.2 rfl (by decide) _ _ _ rfl (HVs.out.1.alloc _) ⟨wr.heap.size, 0, none⟩ 1 1 [.slice va cn.length vc] rfl rfl (World.news_of_block (cs := #[.slice va cn.length vc]) (t := 31) (fr := (0, 0)) (heap_alloc_new wr _)) (by simp [Value.oneCell']) (by unfold maxLen; omega) (by omega) (by have := HSz.out; simp; omega) ?_; intro v6 w6 hown6 hgrow6 _ _; obtain ⟨⟨a6, c6, rfl⟩, gf8, g8, H6⟩ := Spr.fin HT.out HCl.out hb1s HN.out.2 HVs.out hown6 hgrow6; clear hown6 hgrow6)
      go_ret2
      refine ⟨(HB1.out.mono hbelow).trans H6.out.1, Or.inr ⟨T, C', mv', _, cv', D', ?_, ?_, HT.out.nex, HT.out.lt, rfl, HT.out.cam, H6.out.2⟩⟩
      · rw [← HT.out.rest, HCl.out, List.drop_length]
        rfl
      · have := HT.out.inv
        rw [HCl.out, List.take_length] at this
        rw [HT.out.her]
        exact this

end Go.Proofs.Ythpbgfodejoecaa
