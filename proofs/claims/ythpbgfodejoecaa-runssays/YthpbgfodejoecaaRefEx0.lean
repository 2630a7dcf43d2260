/- What the document's Explored holds in memory. -/
import Derived.Deep.RegionHeld3
import Derived.Deep.CutRange
import Derived.Deep.AppendLies
import Derived.Test.YthpbgfodejoecaaSpFaceJ
import Derived.Test.YthpbgfodejoecaaRefStepJ
namespace Go.Proofs.Ythpbgfodejoecaa
open Go.RowKit Go.Maps

/-- The world W, but for what is new and for the second cell of block r. -/
structure Blr (W wr : World) (r : Nat) (nv : Value) : Prop where
  below : Below r W wr
  old : ∀ i, i < W.heap.size → i ≠ r → wr.heap[i]? = W.heap[i]?
  two : Two wr r (.slice none 0 0) nv

theorem Blr.next {W wr u : World} {r : Nat} {nv : Value} (h : Blr W wr r nv) (hr : r < W.heap.size) (hb : Below W.heap.size wr u) : Blr W u r nv :=
  ⟨h.below.trans (hb.mono (Nat.le_of_lt hr)), fun i hi hne => (hb.block i hi).trans (h.old i hi hne), h.two.below hb hr⟩

theorem Blr.set {W wr : World} {r : Nat} {nv : Value} (h : Blr W wr r nv) (v : Value) : Blr W (wr.setCell ⟨r, 1, none⟩ v) r v :=
  ⟨h.below.setCell (Nat.le_refl _) v, fun i hi hne => (Below.heap_setCell _ _ _ _ hne).trans (h.old i hi hne), by
    have := h.two
    unfold Two at *
    simp [World.setCell, Array.getElem?_modify, this]⟩

/-- The steps lie elsewhere than in block r. -/
theorem Blr.sts {W wr : World} {r : Nat} {nv x y : Value} (h : Blr W wr r nv) (h2 : Two W r x y) (hx : ∀ i, x ≠ .int .i64 i) (hy : ∀ i, y ≠ .int .i64 i) {a : Option Addr} {n : Nat} {T : Nat → St3} (hs : Sts W a n T) : Sts wr a n T := by
  obtain ⟨b, o, ha, hc⟩ := hs
  refine ⟨b, o, ha, fun i hi => ?_⟩
  obtain ⟨c0, c1, c2⟩ := hc i hi
  have hne : b ≠ r := fun e => by
    subst e
    unfold Two at h2
    rw [cell_of_row W b _ _ _ _ h2] at c0
    generalize o + i * 3 = j at c0
    match j, c0 with
    | 0, c0 => exact hx _ (by simpa using c0)
    | 1, c0 => exact hy _ (by simpa using c0)
    | j + 2, c0 => simp at c0
  have hb : wr.heap[b]? = W.heap[b]? := h.old b (World.block_lt_of_cell? _ _ c0) hne
  exact ⟨(World.cell?_of_block (w := W) (a := ⟨b, o + i * 3, none⟩) hb).trans c0, (World.cell?_of_block (w := W) (a := ⟨b, o + i * 3 + 1, none⟩) hb).trans c1, (World.cell?_of_block (w := W) (a := ⟨b, o + i * 3 + 2, none⟩) hb).trans c2⟩

theorem row_on {w w' : World} {base s n : Nat} {t : TypeId} {v : Value} {xs : List Value} (h : w.ownsRow base t s v n xs) (hs : ∀ b, v.ownBlock = some b → w'.heap[b]? = w.heap[b]?) : w'.ownsRow base t s v n xs := by
  obtain ⟨h1, h2⟩ := h
  refine ⟨h1, ?_⟩
  rcases h2 with h2 | ⟨g, cap, cur, rfl, hb, hg, h3⟩
  · exact Or.inl h2
  · exact Or.inr ⟨g, cap, cur, rfl, hb, (hs g rfl).trans hg, h3⟩

/-- The ways, as lists of numbers. -/
def Wys (w : World) (base : Nat) (wv : Value) (ways : List (List Int)) : Prop :=
  ∃ Vs, w.ownsRow base 26 1 wv ways.length Vs ∧ ∀ i, i < ways.length → ∃ v, Vs[i]? = some v ∧ w.ownsRow base 3 1 v (ways.getD i []).length (vals (ways.getD i [])) ∧ (ways.getD i [] = [] → v = .slice none 0 0)

theorem wys_on {w w' : World} {base : Nat} {wv : Value} {ways : List (List Int)} (h : Wys w base wv ways) (hs : ∀ b, wv.ownBlock = some b → w'.heap[b]? = w.heap[b]?) (hk : Kp [some 3] w w') : Wys w' base wv ways := by
  obtain ⟨Vs, h3, h4⟩ := h
  refine ⟨Vs, row_on h3 hs, fun i hi => ?_⟩
  obtain ⟨v, h5, h6, h7⟩ := h4 i hi
  exact ⟨v, h5, row_kp h6 hk (by decide), h7⟩

theorem mks_on {w w' : World} {base F : Nat} {mv : Value} {marks : List (List Int)} (h : Mks w base mv F marks) (hs : ∀ b, mv.ownBlock = some b → w'.heap[b]? = w.heap[b]?) (hk : Kp [some 3] w w') : Mks w' base mv F marks := by
  obtain ⟨G, ⟨Vs, h3, h4⟩, h5⟩ := h
  exact ⟨G, ⟨Vs, row_on h3 hs, h4⟩, fun i hi => mk_kp (h5 i hi) hk (by decide)⟩

/-- Markings, ways and edges. -/
structure Rmm (w : World) (base F : Nat) (marks ways : List (List Int)) (nexts : List (List (Int × Int))) (mv wv nv : Value) : Prop where
  mks : Mks w base mv F marks
  wys : Wys w base wv ways
  nxs : Nxs w base nv nexts
  apart : ∀ b, mv.ownBlock = some b → wv.ownBlock = some b → False
  shp : ∀ m, m ∈ marks → Shp F m

theorem Rmm.kp {L : List (Option TypeId)} {w w' : World} {base F : Nat} {marks ways : List (List Int)} {nexts : List (List (Int × Int))} {mv wv nv : Value} (h : Rmm w base F marks ways nexts mv wv nv) (hk : Kp L w w') (hL : ∀ t, t ∈ [some 26, some 3, some 31, some 44] → t ∈ L) : Rmm w' base F marks ways nexts mv wv nv := by
  refine ⟨mks_kp h.mks hk (hL _ (by simp)) (hL _ (by simp)), ?_, nxs_kp h.nxs hk (hL _ (by simp)) (hL _ (by simp)), h.apart, h.shp⟩
  obtain ⟨Vs, h3, h4⟩ := h.wys
  refine ⟨Vs, row_kp h3 hk (hL _ (by simp)), fun i hi => ?_⟩
  obtain ⟨v, h5, h6, h7⟩ := h4 i hi
  exact ⟨v, h5, row_kp h6 hk (hL _ (by simp)), h7⟩

theorem Rmm.below {w w' : World} {base F : Nat} {marks ways : List (List Int)} {nexts : List (List (Int × Int))} {mv wv nv : Value} (h : Rmm w base F marks ways nexts mv wv nv) (hb : Below w.heap.size w w') : Rmm w' base F marks ways nexts mv wv nv :=
  h.kp (L := [some 26, some 3, some 31, some 44]) (kp_below hb) (fun _ h => h)

theorem kp_grown {L : List (Option TypeId)} {w w' : World} {base s n : Nat} {t : TypeId} {v : Value} {xs : List Value} {o : Obj} (hown : w.ownsRow base t s v n xs) (hg : (w.alloc o).grownBy w' v.ownBlock) (ht : some t ∉ L) : Kp L w w' := kp_row hown ((World.grownBy_alloc _ _ _).trans hg) ht

theorem below_grown {w w' : World} {base s n : Nat} {t : TypeId} {v : Value} {xs : List Value} {o : Obj} (hown : w.ownsRow base t s v n xs) (hg : (w.alloc o).grownBy w' v.ownBlock) (hb : base ≤ w.heap.size) : Below base w w' :=
  (Below.refl _ _).grown ((World.grownBy_alloc _ _ _).trans hg) hb (fun b hb => (hown.lt b hb).1)

/-- 'marks = append(marks, m)'. -/
theorem Rmm.mark {w w' : World} {base F n g c : Nat} {marks ways : List (List Int)} {nexts : List (List (Int × Int))} {mv wv nv v' : Value} {Z : Nat → Int} {G : Nat → Nat} {Vs : List Value} {o : Obj} (h : Rmm w base F marks ways nexts mv wv nv) (hn : n = marks.length) (hbase : base ≤ w.heap.size) (hm : Mk w g F Z) (h9 : ∀ i, i < F → 0 ≤ Z i ∧ Z i ≤ 9)
    (hM : Mrs w base mv F n (fun i => fnl (marks.getD i [])) G) (hV : w.ownsRow base 26 1 mv n Vs ∧ ∀ i, i < n → ∃ c, Vs[i]? = some (.slice (some ⟨G i, 0, none⟩) F c))
    (hown : w'.ownsRow base 26 1 v' (n + 1) (Vs ++ [.slice (some ⟨g, 0, none⟩) F c])) (hgrow : (w.alloc o).grownBy w' mv.ownBlock) (hbl : v'.ownBlock = mv.ownBlock ∨ v'.ownBlock = some (w.alloc o).heap.size) :
    (∃ a c, v' = .slice a (n + 1) c) ∧ Hid (Rmm w' base F (marks ++ [lst F Z]) ways nexts v' wv nv ∧ Below base w w' ∧ Kp [some 3, some 31, some 44] w w') := by
  obtain ⟨h4, h5⟩ := Mrs.app hM hV hm hown hgrow
  have kp : Kp [some 3, some 31, some 44] w w' := kp_grown hV.1 hgrow (by decide)
  have hg : w.grownBy w' mv.ownBlock := (World.grownBy_alloc _ _ _).trans hgrow
  obtain ⟨Us, hU, _⟩ := h.wys
  refine ⟨h4, ⟨mks_snoc hn h5.out, wys_on h.wys (fun b hb => hg.block b (hU.lt b hb).2 (fun e => h.apart b e.symm hb)) (kp.sub (by decide)), nxs_kp h.nxs kp (by decide) (by decide), fun b h1 h2 => ?_, fun m hm => ?_⟩, below_grown hV.1 hgrow hbase, kp⟩
  · have hlt := (hU.lt b h2).2
    rcases hbl with e | e
    · exact h.apart b (e.symm.trans h1) h2
    · rw [e] at h1
      simp at h1
      omega
  · rcases List.mem_append.1 hm with hm | hm
    · exact h.shp m hm
    · obtain rfl := List.mem_singleton.1 hm
      exact shp_lst h9

/-- 'ways = append(ways, way)'. -/
theorem Rmm.wayApp {w w' : World} {base lo F n : Nat} {marks ways : List (List Int)} {nexts : List (List (Int × Int))} {mv wv nv v' yv : Value} {y : List Int} {Us : List Value} {o : Obj} (h : Rmm w base F marks ways nexts mv wv nv) (hn : n = ways.length) (hbase : base ≤ w.heap.size) (hlo : base ≤ lo) (hy : w.ownsRow lo 3 1 yv y.length (vals y)) (hy0 : y ≠ [])
    (hU : w.ownsRow base 26 1 wv n Us ∧ ∀ i, i < n → ∃ v, Us[i]? = some v ∧ w.ownsRow base 3 1 v (ways.getD i []).length (vals (ways.getD i [])) ∧ (ways.getD i [] = [] → v = .slice none 0 0))
    (hown : w'.ownsRow base 26 1 v' (n + 1) (Us ++ [yv])) (hgrow : (w.alloc o).grownBy w' wv.ownBlock) (hbl : v'.ownBlock = wv.ownBlock ∨ v'.ownBlock = some (w.alloc o).heap.size) :
    (∃ a c, v' = .slice a (n + 1) c) ∧ Hid (Rmm w' base F marks (ways ++ [y]) nexts mv v' nv ∧ Below base w w' ∧ Kp [some 3, some 31, some 44] w w') := by
  have kp : Kp [some 3, some 31, some 44] w w' := kp_grown hU.1 hgrow (by decide)
  have hg : w.grownBy w' wv.ownBlock := (World.grownBy_alloc _ _ _).trans hgrow
  obtain ⟨G, ⟨Vs, hV, _⟩, _⟩ := h.mks
  refine ⟨?_, ⟨mks_on h.mks (fun b hb => hg.block b (hV.lt b hb).2 (fun e => h.apart b hb e.symm)) (kp.sub (by decide)), ⟨Us ++ [yv], ?_, fun i hi => ?_⟩, nxs_kp h.nxs kp (by decide) (by decide), fun b h1 h2 => ?_, h.shp⟩, below_grown hU.1 hgrow hbase, kp⟩
  · rcases hown.2 with ⟨_, h0⟩ | ⟨g, cap, cur, rfl, _⟩
    · omega
    · exact ⟨_, _, rfl⟩
  · rw [List.length_append, List.length_singleton, ← hn]
    exact hown
  · have hUl : Us.length = n := by have := hU.1.1; omega
    rw [List.length_append, List.length_singleton, ← hn] at hi
    by_cases e : i = n
    · subst e
      refine ⟨yv, by rw [List.getElem?_append_right (by omega), hUl]; simp, ?_⟩
      have e2 : (ways ++ [y]).getD i [] = y := by rw [hn]; simp
      rw [e2]
      exact ⟨row_kp (owns_base hy hlo) kp (by decide), fun e => absurd e hy0⟩
    · obtain ⟨v, h5, h6, h7⟩ := hU.2 i (by omega)
      refine ⟨v, by rw [List.getElem?_append_left (by omega), h5], ?_⟩
      have e2 : (ways ++ [y]).getD i [] = ways.getD i [] := by simp [List.getElem?_append_left (show i < ways.length by omega)]
      rw [e2]
      exact ⟨row_kp h6 kp (by decide), h7⟩
  · have hlt := (hV.lt b h1).2
    rcases hbl with e | e
    · exact h.apart b h1 (e.symm.trans h2)
    · rw [e] at h2
      simp at h2
      omega

/-- The i-th way, in memory. -/
theorem wys_at {w : World} {base : Nat} {wa : Option Addr} {n wc : Nat} {ways : List (List Int)} (h : Wys w base (.slice wa n wc) ways) {i : Nat} (hi : i < ways.length) :
    ∃ b o a c, wa = some ⟨b, o, none⟩ ∧ w.cell? ⟨b, o + i, none⟩ = some (.slice a (ways.getD i []).length c) ∧ w.ownsRow base 3 1 (.slice a (ways.getD i []).length c) (ways.getD i []).length (vals (ways.getD i [])) ∧ (ways.getD i [] = [] → a = none ∧ c = 0) := by
  obtain ⟨Vs, h1, h2⟩ := h
  obtain ⟨v, hv, ho, hnil⟩ := h2 i hi
  have hvs : ∃ a c, v = .slice a (ways.getD i []).length c := by
    rcases ho.2 with ⟨rfl, h0⟩ | ⟨g, cap, cur, rfl, _⟩
    · exact ⟨none, 0, by rw [h0]⟩
    · exact ⟨_, _, rfl⟩
  obtain ⟨a, c, rfl⟩ := hvs
  rcases h1.2 with ⟨e, h0⟩ | ⟨g, cap, cur, e, _⟩
  · omega
  · simp only [Value.slice.injEq] at e
    obtain ⟨rfl, rfl, rfl⟩ := e
    have := h1.cells (g := g) rfl i _ hv
    rw [add_none2] at this
    exact ⟨g, 0, a, c, rfl, this, ho, fun e => by have := hnil e; simp at this; exact ⟨this.1, this.2.2⟩⟩

/-- How far the markings have been gone through. -/
structure Rx (W wr : World) (r : Nat) (tk : Int) (q F : Nat) (nx : Int → List Int → List Int) (cn : List Int → List Int) (m0 : List Int) (R : Sum (Int × List Int) Xp) (T : Xp) (k : Nat) (mv wv nv : Value) : Prop where
  blr : Blr W wr r nv
  big : W.heap.size ≤ wr.heap.size
  rest : ∃ f, f + k = 201 ∧ xouter tk q nx cn f T = R
  len : T.nexts.length = k
  inv : XInv tk q nx cn m0 T []
  cur : T.cur = []
  mem : Rmm wr W.heap.size F T.marks T.ways T.nexts mv wv nv

/-- And the edges of one. -/
structure Ri (W w1 wr : World) (r : Nat) (tk : Int) (q F : Nat) (nx : Int → List Int → List Int) (cn : List Int → List Int) (m0 : List Int) (S0 S : Xp) (k : Nat) (mv wv nv ev : Value) : Prop where
  blr : Blr W wr r nv
  size : w1.heap.size ≤ wr.heap.size
  kp : Kp [some 3, some 31, some 44] w1 wr
  rest : xinner tk q nx ((cn S0.here).drop k) S = xinner tk q nx (cn S0.here) S0
  inv : XInv tk q nx cn m0 S ((cn S0.here).take k)
  nex : S.nexts = S0.nexts
  her : S.here = S0.here
  lt : S.nexts.length < S.marks.length
  mem : Rmm wr W.heap.size F S.marks S.ways S0.nexts mv wv nv
  nxs0 : Nxs w1 W.heap.size nv S0.nexts
  edg : wr.ownsRow w1.heap.size 44 2 ev k (pvals S.cur)

theorem ri_len {W w1 wr : World} {r : Nat} {tk : Int} {q F : Nat} {nx : Int → List Int → List Int} {cn : List Int → List Int} {m0 : List Int} {S0 S : Xp} {k : Nat} {mv wv nv ev : Value}
    (h : Ri W w1 wr r tk q F nx cn m0 S0 S k mv wv nv ev) (hk : k ≤ (cn S0.here).length) : S.cur.length = k := by
  have := congrArg List.length h.inv.curs
  rw [List.length_map, List.length_take] at this
  omega

theorem rx_stop {W wr : World} {r : Nat} {tk : Int} {q F : Nat} {nx : Int → List Int → List Int} {cn : List Int → List Int} {m0 : List Int} {R : Sum (Int × List Int) Xp} {T : Xp} {k : Nat} {mv wv nv : Value} {e : Int × List Int}
    (h : Rx W wr r tk q F nx cn m0 R T k mv wv nv) (hq : q ≤ 200) (hlt : T.nexts.length < T.marks.length) (hin : xinner tk q nx (cn T.here) T = .inl e) : R = .inl e := by
  obtain ⟨f, hf, hR⟩ := h.rest
  have h1 := h.len
  have h2 := h.inv.few
  cases f with
  | zero => omega
  | succ f =>
    unfold xouter at hR
    rw [if_pos hlt, hin] at hR
    exact hR.symm

theorem rx_end {W wr : World} {r : Nat} {tk : Int} {q F : Nat} {nx : Int → List Int → List Int} {cn : List Int → List Int} {m0 : List Int} {R : Sum (Int × List Int) Xp} {T : Xp} {k : Nat} {mv wv nv : Value}
    (h : Rx W wr r tk q F nx cn m0 R T k mv wv nv) (hlt : ¬ T.nexts.length < T.marks.length) : R = .inr T := by
  obtain ⟨f, hf, hR⟩ := h.rest
  cases f with
  | zero => exact hR.symm
  | succ f =>
    unfold xouter at hR
    rw [if_neg hlt] at hR
    exact hR.symm

/-- Where the way is told: the inner reckoning has stopped. -/
theorem ri_stop {W w1 wr : World} {r : Nat} {tk : Int} {q F : Nat} {nx : Int → List Int → List Int} {cn : List Int → List Int} {m0 : List Int} {S0 S : Xp} {k : Nat} {mv wv nv ev : Value} {e : Int × List Int}
    (h : Ri W w1 wr r tk q F nx cn m0 S0 S k mv wv nv ev) (hk : k < (cn S0.here).length) (hp : xput tk q nx S ((cn S0.here).getD k 0) = .inl e) : xinner tk q nx (cn S0.here) S0 = .inl e := by
  rw [← h.rest, drop_cons hk]
  exact xinner_stop hp

/-- What is behind one edge, ahead of 'next = append(next, ..)'. -/
structure Rj (W w1 wr : World) (r : Nat) (tk : Int) (q F : Nat) (nx : Int → List Int → List Int) (cn : List Int → List Int) (S0 S S' : Xp) (k : Nat) (mv wv nv ev : Value) (tw : Int) : Prop where
  blr : Blr W wr r nv
  size : w1.heap.size ≤ wr.heap.size
  kp : Kp [some 3, some 31, some 44] w1 wr
  put : xput tk q nx S ((cn S0.here).getD k 0) = .inr S'
  cur : S'.cur = S.cur ++ [((cn S0.here).getD k 0, tw)]
  mem : Rmm wr W.heap.size F S'.marks S'.ways S0.nexts mv wv nv
  edg : wr.ownsRow w1.heap.size 44 2 ev k (pvals S.cur)

/-- 'next = append(next, ..)'. -/
theorem Rj.app {W w1 w0 wr w7 : World} {r : Nat} {tk : Int} {q F : Nat} {nx : Int → List Int → List Int} {cn : List Int → List Int} {m0 : List Int} {S0 S S' : Xp} {k : Nat} {mv wv nv ev mv' wv' v7 : Value} {tw : Int} {o : Obj}
    (h0 : Ri W w1 w0 r tk q F nx cn m0 S0 S k mv wv nv ev) (h : Rj W w1 wr r tk q F nx cn S0 S S' k mv' wv' nv ev tw) (hk : k < (cn S0.here).length) (hr : r < W.heap.size) (hW : W.heap.size ≤ w1.heap.size)
    (hown : w7.ownsRow w1.heap.size 44 2 v7 (k + 1) (pvals S.cur ++ [.int .i64 ((cn S0.here).getD k 0), .int .i64 tw])) (hgrow : (wr.alloc o).grownBy w7 ev.ownBlock) :
    (∃ a c, v7 = .slice a (k + 1) c) ∧ Hid (Ri W w1 w7 r tk q F nx cn m0 S0 S' (k + 1) mv' wv' nv v7) := by
  have kp : Kp [some 26, some 3, some 31] wr w7 := kp_grown h.edg hgrow (by decide)
  have hg : wr.grownBy w7 ev.ownBlock := (World.grownBy_alloc _ _ _).trans hgrow
  have hbW : Below W.heap.size wr w7 := (Below.refl _ _).grown hg (Nat.le_trans hW h.size) (fun b e => Nat.le_trans hW (h.edg.lt b e).1)
  have kp0 : Kp [some 3, some 31, some 44] w1 w7 := h.kp.new hg h.size (fun b e => (h.edg.lt b e).1)
  refine ⟨?_, ?_⟩
  · rcases hown.2 with ⟨_, h0⟩ | ⟨g, cap, cur, rfl, _⟩
    · omega
    · exact ⟨_, _, rfl⟩
  · have hmem : (cn S0.here).getD k 0 ∈ cn S.here := by
      rw [h0.her, List.getD_eq_getElem?_getD, List.getElem?_eq_getElem hk]
      exact List.getElem_mem hk
    rcases xput_inv h0.inv h0.lt hmem with ⟨r', h1, _⟩ | ⟨S1, h1, h2, h3, h4, h5⟩
    · rw [h.put] at h1
      cases h1
    · rw [h.put] at h1
      cases h1
      refine ⟨h.blr.next hr hbW, Nat.le_trans h.size hg.size, kp0, ?_, ?_, h3.trans h0.nex, h4.trans h0.her, h5, ⟨mks_kp h.mem.mks kp (by decide) (by decide), ?_, nxs_kp h0.nxs0 kp0 (by decide) (by decide), h.mem.apart, h.mem.shp⟩, h0.nxs0, ?_⟩
      · rw [← h0.rest, drop_cons hk, xinner_go h.put]
      · rw [take_snoc hk]
        exact h2
      · obtain ⟨Us, hU, _⟩ := h.mem.wys
        exact wys_on h.mem.wys (fun b hb => by
          obtain ⟨d, hd⟩ := own_tag hU hb
          exact (kp b _ hd (by simp [otag])).trans hd.symm) (kp.sub (by decide))
      · rw [h.cur, ← pvals_snoc]
        exact hown

end Go.Proofs.Ythpbgfodejoecaa
