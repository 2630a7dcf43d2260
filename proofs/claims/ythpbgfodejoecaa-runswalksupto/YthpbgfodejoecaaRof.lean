/- The world of a process: Of. -/
import Derived.Deep.CutRange
import Derived.Test.YthpbgfodejoecaaFst
import Derived.Test.YthpbgfodejoecaaGos
import Derived.Test.YthpbgfodejoecaaWaysJ
namespace Go.Proofs.Ythpbgfodejoecaa
open Go.RowKit Go.Maps

section
variable {P : Program} {ops : Array Oper} {Q : Exit → Act → World → Prop} {md : Region.Mode} {S : World → Prop} {ex : Nat → Bool}
/-- Whichever of those that are ready comes up. -/
theorem G_alt {f : Nat} {listed : Array Bool} {a : Act} {w : World} {l : List Nat} (hr : Region.ready md ops listed = l) (hl : l ≠ [])
    (h : ∀ i, i ∈ l → ∃ o, ops[i]? = some o ∧ ∀ K' : Act → World → Prop, Shut (∀ a w, (ex i = false → S w) → ((ex i = false → S w) → wpAnyG P md ops Q S ex f (listed.setIfInBounds i true) a w) → K' a w) → if Region.wanted o (yielded ops a.tmps) = true then Oper.wp P o a w K' Q else K' (a.put o.dst undef) w) :
    wpAnyG P md ops Q S ex (f + 1) listed a w := by
  refine ⟨fun h0 => absurd (hr.symm.trans h0) hl, fun j hj => ?_⟩
  rw [hr] at hj
  obtain ⟨o, ho, hh⟩ := h j hj
  exact wpOp_step ho (fun K' hK => hh K' (fun a w hS hW => hK a w ⟨hS, hW hS⟩))
end

theorem nxs_egs {w : World} {base : Nat} {xa : Option Addr} {xl xc : Nat} {nx : List (List (Int × Int))} (h : Nxs w base (.slice xa xl xc) nx) (hl : xl = nx.length) : Egs w xa xl (snL nx) (snS nx) (snZ nx) := by
  subst hl
  obtain ⟨Vs, h1, h2⟩ := h
  rcases h1.2 with ⟨h3, h0⟩ | ⟨g, cap, cur, h3, _⟩
  · exact ⟨0, 0, fun hh => by omega, fun i hi => by omega⟩
  · cases h3
    refine ⟨g, 0, fun _ => rfl, fun r hr => ?_⟩
    obtain ⟨v, hv, ho⟩ := h2 r hr
    obtain ⟨a, c, rfl, _, b', o', ha', hc'⟩ := owns_prs ho rfl
    have := h1.cells (g := g) rfl _ _ hv
    rw [add_none2] at this
    exact ⟨a, c, this, b', o', ha', hc'⟩

/-! ### Four cells of a world -/
theorem fou_cells {w : World} {r : Nat} {a b c d : Value} (h : w.heap[r]? = some (.cells #[a, b, c, d] 30 (0, 0))) : (w.cell? ⟨r, 0, none⟩ = some a ∧ w.cell? ⟨r, 1, none⟩ = some b ∧ w.cell? ⟨r, 2, none⟩ = some c ∧ w.cell? ⟨r, 3, none⟩ = some d) ∧ w.frozen? ⟨r, 0, none⟩ = false ∧ w.frozen? ⟨r, 1, none⟩ = false ∧ w.frozen? ⟨r, 2, none⟩ = false ∧ w.frozen? ⟨r, 3, none⟩ = false := by
  refine ⟨⟨cell_of_cells h rfl, cell_of_cells h rfl, cell_of_cells h rfl, cell_of_cells h rfl⟩, ?_⟩
  simp [World.frozen?, h]
theorem fou_set {w : World} {r : Nat} {a b c d : Value} (h : w.heap[r]? = some (.cells #[a, b, c, d] 30 (0, 0))) (a' b' c' d' : Value) : ((((w.setCell ⟨r, 0, none⟩ a').setCell ⟨r, 1, none⟩ b').setCell ⟨r, 2, none⟩ c').setCell ⟨r, 3, none⟩ d').heap[r]? = some (.cells #[a', b', c', d'] 30 (0, 0)) := by
  simp [World.setCell, Array.getElem?_modify, h]
theorem fou_low {N : Nat} {w0 w : World} {r : Nat} (h : Below N w0 w) (hr : N ≤ r) (a' b' c' d' : Value) : Below N w0 ((((w.setCell ⟨r, 0, none⟩ a').setCell ⟨r, 1, none⟩ b').setCell ⟨r, 2, none⟩ c').setCell ⟨r, 3, none⟩ d') :=
  (((h.setCell hr _).setCell hr _).setCell hr _).setCell hr _
theorem fou_else {w : World} {r g : Nat} (hne : g ≠ r) (a' b' c' d' : Value) : ((((w.setCell ⟨r, 0, none⟩ a').setCell ⟨r, 1, none⟩ b').setCell ⟨r, 2, none⟩ c').setCell ⟨r, 3, none⟩ d').heap[g]? = w.heap[g]? := by
  rw [Below.heap_setCell _ _ _ _ hne, Below.heap_setCell _ _ _ _ hne, Below.heap_setCell _ _ _ _ hne, Below.heap_setCell _ _ _ _ hne]

theorem Lie.low {lo : Nat} {P : World → Prop} {w z : World} (h : Lie lo noB P w) (hs : w.heap.size ≤ z.heap.size) (hz : ∀ g, lo ≤ g → z.heap[g]? = w.heap[g]?) : Lie lo noB P z :=
  h.keep hs (fun g hl _ hq => ⟨hz g hl, hq⟩)
theorem Fam.row0 {w wr : World} {G : Nat} {T : Nat → List Int} {V : Nat → Value} {a : Option Addr} {c n : Nat} (h : Fam w wr G T V) (h0 : 0 < G) (hn : (T 0).length = n) (hV : V 0 = .slice a n c) : Lie w.heap.size noB (fun z => Row z a n (fun i => (T 0).getD i 0)) wr := by
  subst hn
  refine ⟨fun g => (V 0).ownBlock = some g, fun g hg => ?_, fun z hz => ?_⟩
  · have := (h.own 0 h0).lt g hg
    exact ⟨by omega, this.2, id⟩
  · have h1 := own_on (h.own 0 h0) (fun b hb => hz b hb)
    obtain ⟨a', c', e, hr⟩ := owns_row h1
    rw [hV] at e
    cases e
    exact hr

/-- The states, by their numbers. -/
def rnT (nx : List (List (Int × Int))) (G i : Nat) : St3 := (dgs nx G).getD i (0, 0, 0)
/-- The states of a marking. -/
def rnM (nx : List (List (Int × Int))) (G j : Nat) : List Int := fl (fun i => (rnT nx G i).1) (j : Nat) (dgs nx G).length
/-- The error that is told. -/
def rnE (E : Int) (nx : List (List (Int × Int))) (G : Nat) : Int := if E ≠ 0 then E else if 600 < (dgs nx G).length then 2 else 0

def Wx.val (A : Wx) : Value := .agg #[.slice A.sa A.sn A.sc, .slice A.na A.G A.nc, .slice A.la A.M A.lc, .slice A.fa A.K A.fc]

/-- The world of a process. -/
structure RnA (A : Wx) (nx : List (List (Int × Int))) (g : Nat) (l : List St3) : Prop where
  sn : A.sn = (rnM nx g 0).length
  S : A.S = fun i => (rnM nx g 0).getD i 0
  G : A.G = (dgs nx g).length
  L : A.L = fun i => (rnM nx g (rnT nx g i).2.2.toNat).length
  Z : A.Z = fun i j => (rnM nx g (rnT nx g i).2.2.toNat).getD j 0
  M : A.M = (dgs nx g).length
  Lb : A.Lb = fun i => lbN l (rnT nx g i)
  K : A.K = l.length
  FL : A.FL = fun q => (fsL (snL nx) (snS nx) (rnT nx g) (dgs nx g).length (q : Nat)).length
  FZ : A.FZ = fun q i => (fsL (snL nx) (snS nx) (rnT nx g) (dgs nx g).length (q : Nat)).getD i 0

/-- What Of answers. -/
def RnIs (E : Int) (nx : List (List (Int × Int))) (G : Nat) (l : List St3) (e : Ending) (w : World) : Prop :=
  (rnE E nx G ≠ 0 ∧ e = .returned (.tuple #[.agg #[.slice none 0 0, .slice none 0 0, .slice none 0 0, .slice none 0 0], .slice none 0 0, .int .i64 (rnE E nx G)])) ∨
  (rnE E nx G = 0 ∧ ∃ (A : Wx) (oa : Option Addr) (oc : Nat), e = .returned (.tuple #[A.val, .slice oa (dgs nx G).length oc, .int .i64 0]) ∧ Hid (RnA A nx G l ∧ Ww w A ∧ Fls w oa (dgs nx G).length (fun i => (rnT nx G i).2.1) (fun i => (rnT nx G i).1)))

theorem dgL_mem {m : Nat} {l : List (Int × Int)} {t : St3} (h : t ∈ dgL m l) : t.1 = m ∧ ((t.2.1 = -1 ∧ t.2.2 = m ∧ l = []) ∨ ∃ e, e ∈ l ∧ t.2.1 = e.1 ∧ t.2.2 = e.2) := by
  by_cases h0 : l.length = 0
  · rw [dgL_none h0] at h
    obtain rfl := List.mem_singleton.1 h
    exact ⟨rfl, Or.inl ⟨rfl, rfl, List.length_eq_zero_iff.1 h0⟩⟩
  · rw [dgL_some h0] at h
    unfold dgE at h
    obtain ⟨e, he, rfl⟩ := List.mem_map.1 h
    exact ⟨rfl, Or.inr ⟨e, he, rfl, rfl⟩⟩
theorem dgs_mem {nx : List (List (Int × Int))} {t : St3} : ∀ {G}, t ∈ dgs nx G → ∃ m, m < G ∧ t ∈ dgL m (nx.getD m [])
  | 0, h => by cases h
  | G + 1, h => by
    rcases List.mem_append.1 h with h | h
    · obtain ⟨m, h1, h2⟩ := dgs_mem h
      exact ⟨m, by omega, h2⟩
    · exact ⟨G, by omega, h⟩
theorem rnT_mem {nx : List (List (Int × Int))} {G i : Nat} (h : i < (dgs nx G).length) : rnT nx G i ∈ dgs nx G := by
  unfold rnT
  rw [List.getD_eq_getElem?_getD, List.getElem?_eq_getElem h]
  exact List.getElem_mem h
/-- What is known of a state. -/
theorem rn_ok {N F : Nat} {l : List St3} {marks : List (List Int)} {nx : List (List (Int × Int))} (h : Sok N F l marks nx) {i : Nat} (hi : i < (dgs nx marks.length).length) :
    (0 ≤ (rnT nx marks.length i).1 ∧ (rnT nx marks.length i).1 < marks.length) ∧ ((rnT nx marks.length i).2.1 = -1 ∨ (0 ≤ (rnT nx marks.length i).2.1 ∧ (rnT nx marks.length i).2.1 < l.length)) ∧ (0 ≤ (rnT nx marks.length i).2.2 ∧ (rnT nx marks.length i).2.2 < marks.length) := by
  obtain ⟨m, hm, hm2⟩ := dgs_mem (rnT_mem hi)
  obtain ⟨h1, h2⟩ := dgL_mem hm2
  refine ⟨by omega, ?_, ?_⟩
  · rcases h2 with ⟨h3, _⟩ | ⟨e, he, h3, h4⟩
    · exact Or.inl h3
    · obtain ⟨k, hk, ek⟩ := List.mem_iff_getElem.1 he
      have := h.stp m hm k hk
      unfold snS at this
      rw [List.getD_eq_getElem?_getD (l := nx.getD m []), List.getElem?_eq_getElem hk] at this
      simp only [Option.getD_some, ek] at this
      exact Or.inr (by rw [h3]; exact this)
  · rcases h2 with ⟨_, h3, _⟩ | ⟨e, he, h3, h4⟩
    · omega
    · obtain ⟨k, hk, ek⟩ := List.mem_iff_getElem.1 he
      have := (errG_zero h.tos).2 m hm k hk
      unfold snZ at this
      rw [List.getD_eq_getElem?_getD (l := nx.getD m []), List.getElem?_eq_getElem hk] at this
      simp only [Option.getD_some, ek] at this
      rw [h4]; exact this

theorem rnM_len (nx : List (List (Int × Int))) (G j : Nat) : (rnM nx G j).length ≤ (dgs nx G).length := by unfold rnM; rw [fl_len]; exact tally_le _ _ _
theorem fsL_len (L : Nat → Nat) (S : Nat → Nat → Int) (T : Nat → St3) (n : Nat) (q : Int) : (fsL L S T n q).length ≤ n := by unfold fsL; rw [fl_len]; exact tally_le _ _ _

/-- The pieces put together. -/
theorem rn_put {z : World} {nx : List (List (Int × Int))} {G ll s0 c0 n p1 p2 p3 : Nat} {l : List St3} {a0 : Option Addr} (hn : n = (dgs nx G).length) (hll : ll = l.length) (h600 : n ≤ 600) (h60 : ll ≤ 60) (hs0 : s0 = (rnM nx G 0).length) (h20 : ∀ i, i < l.length → 0 ≤ (l.getD i (0, 0, 0)).1 ∧ (l.getD i (0, 0, 0)).1 < 20)
    (hS : Row z a0 s0 (fun i => (rnM nx G 0).getD i 0)) (hN : Gc z (some ⟨p1, 0, none⟩) n (fun i => (rnM nx G (rnT nx G i).2.2.toNat).length) (fun i j => (rnM nx G (rnT nx G i).2.2.toNat).getD j 0)) (hL : z.rowIs p2 57 n (lbF l (rnT nx G) n))
    (hF : Gc z (some ⟨p3, 0, none⟩) ll (fun q => (fsL (snL nx) (snS nx) (rnT nx G) n (q : Nat)).length) (fun q i => (fsL (snL nx) (snS nx) (rnT nx G) n (q : Nat)).getD i 0)) :
    ∃ A : Wx, A.val = .agg #[.slice a0 s0 c0, .slice (some ⟨p1, 0, none⟩) n n, .slice (some ⟨p2, 0, none⟩) n n, .slice (some ⟨p3, 0, none⟩) ll ll] ∧ RnA A nx G l ∧ Ww z A := by
  subst hn hll hs0
  refine ⟨⟨a0, (rnM nx G 0).length, c0, some ⟨p1, 0, none⟩, (dgs nx G).length, (dgs nx G).length, some ⟨p2, 0, none⟩, (dgs nx G).length, (dgs nx G).length, some ⟨p3, 0, none⟩, l.length, l.length, fun i => (rnM nx G 0).getD i 0, fun i => (rnM nx G (rnT nx G i).2.2.toNat).length, fun i j => (rnM nx G (rnT nx G i).2.2.toNat).getD j 0, fun i => lbN l (rnT nx G i), fun q => (fsL (snL nx) (snS nx) (rnT nx G) (dgs nx G).length (q : Nat)).length, fun q i => (fsL (snL nx) (snS nx) (rnT nx G) (dgs nx G).length (q : Nat)).getD i 0⟩, rfl, ⟨rfl, rfl, rfl, rfl, rfl, rfl, rfl, rfl, rfl, rfl⟩, hS, hN.gr, ⟨p2, 0, fun _ => rfl, fun i hi => ?_⟩, hF.gr, ?_, ?_, ?_, ?_, ?_, ?_, ?_⟩
  · have := hL.cell hi
    unfold lbF at this
    rw [if_pos hi] at this
    rw [Nat.zero_add]
    exact this
  · have := rnM_len nx G 0
    show (rnM nx G 0).length ≤ _
    omega
  · show (dgs nx G).length ≤ _
    omega
  · intro r _
    have := rnM_len nx G (rnT nx G r).2.2.toNat
    show (rnM nx G (rnT nx G r).2.2.toNat).length ≤ _
    omega
  · show (dgs nx G).length ≤ _
    omega
  · show l.length ≤ _
    omega
  · intro r _
    have := fsL_len (snL nx) (snS nx) (rnT nx G) (dgs nx G).length (r : Nat)
    show (fsL (snL nx) (snS nx) (rnT nx G) (dgs nx G).length (r : Nat)).length ≤ _
    omega
  · intro i _
    have := lbN_lt (t := rnT nx G i) h20
    show lbN l (rnT nx G i) < _
    omega

set_option maxHeartbeats 8000000 in
theorem runsOf_any {na fa : Option Addr} {N nc F fc : Nat} {M : Nat → ByteArray} {K A B : Nat → Int} {e0 : Int} {w : World} (hp : Prc w na N nc fa F M K A B) (he : ChkIs N F M K A B e0) (tk st : Int) {X : List Int → Nat → Int} (hX : XOk K A B F (stAll K A B F N) X) :
    Calls Try.prog 6 #[.agg #[.slice na N nc, .slice fa F fc], .int .i64 tk, .int .i64 st] w fun e w' => Below w.heap.size w w' ∧ RnIs (xE (spE e0 (stAll K A B F N).length) tk st (xall tk st K A B F (stAll K A B F N) X)) (xN (spE e0 (stAll K A B F N).length) tk st (xall tk st K A B F (stAll K A B F N) X)) (xM (spE e0 (stAll K A B F N).length) tk st (xall tk st K A B F (stAll K A B F N) X)).length (stAll K A B F N) e w' := by
  have HP : Hid (Prc w na N nc fa F M K A B) := hp
  have HE : Hid (ChkIs N F M K A B e0) := he
  have HSok := hid (fun h => sok_of (tk := tk) (st := st) (X := X) he hX h)
  obtain ⟨r, hr⟩ : ∃ r, r = w.heap.size + 1 := ⟨_, rfl⟩
  have HRr : Hid (r = w.heap.size + 1) := hr
  obtain ⟨W, eW⟩ : ∃ x, x = (w.alloc (.cells #[.slice na N nc, .slice fa F fc] 25)).alloc (.cells #[.slice none 0 0, .slice none 0 0, .slice none 0 0, .slice none 0 0] 30) := ⟨_, rfl⟩
  have e1 : (w.alloc (.cells #[.slice na N nc, .slice fa F fc] 25)).heap.size = w.heap.size + 1 := by simp
  have HW : Hid (Below w.heap.size w W ∧ W.heap.size = w.heap.size + 1 + 1) := by
    subst eW
    exact ⟨(box_below _ _).trans ((box_below _ _).mono (by simp)), by simp⟩
  have HR4 : Hid (∀ z, Below W.heap.size W z → z.heap[w.heap.size + 1]? = some (.cells #[.slice none 0 0, .slice none 0 0, .slice none 0 0, .slice none 0 0] 30 (0, 0))) := hid (fun z hz => by
    have h1 := hz.block (w.heap.size + 1) (by rw [HW.out.2]; omega)
    rw [h1]
    subst eW
    rw [← e1]
    exact Go.Deep.blk_alloc_new _ _)
  have HPb : Hid (∀ z, Below W.heap.size W z → z.cell? ⟨w.heap.size, 0, none⟩ = some (.slice na N nc) ∧ z.cell? ⟨w.heap.size, 1, none⟩ = some (.slice fa F fc)) := hid (fun z hz => by
    have h1 := hz.block w.heap.size (by rw [HW.out.2]; omega)
    have h2 : z.heap[w.heap.size]? = some (.cells #[.slice na N nc, .slice fa F fc] 25 (0, 0)) := by
      rw [h1]
      subst eW
      rw [Below.heap_alloc _ _ _ (by rw [e1]; omega)]
      exact Go.Deep.blk_alloc_new _ _
    exact ⟨cell_of_cells h2 rfl, cell_of_cells h2 rfl⟩)
  have HEW : Hid ((w.alloc (.cells #[.slice na N nc, .slice fa F fc] 25)).alloc (.cells #[.slice none 0 0, .slice none 0 0, .slice none 0 0, .slice none 0 0] 30) = W) := eW.symm
  have C1 := exploreF_any (fc := fc) (hp.below HW.out.1) he tk st hX
  unfold EpIs at C1
  have CS := hid (fun z (hz : Below w.heap.size w z) => of_any na fa N nc F fc M K A B e0 z (hp.below hz) he)
  have HN20 := hid (fun (h : e0 = 0) => (chk_zero (h ▸ he)).1.1)
  clear eW hp he hX e1 hr
  generalize hEE : spE e0 (stAll K A B F N).length = E at *
  generalize hRR : xall tk st K A B F (stAll K A B F N) X = R at *
  have HEE := hid hEE
  generalize hee : xE E tk st R = E1 at *
  generalize hxx : xN E tk st R = nx at *
  generalize hmm : xM E tk st R = marks at *
  generalize hll : stAll K A B F N = l at *
  have HEz : Hid (E1 = 0 → E = 0) := hid (fun h => by
    rw [← hee] at h
    unfold xE at h
    exact Classical.byContradiction (fun hne => by rw [if_pos hne] at h; exact hne h))
  have HL20 : Hid (e0 = 0 → ∀ i, i < l.length → 0 ≤ (l.getD i (0, 0, 0)).1 ∧ (l.getD i (0, 0, 0)).1 < 20) := hid (fun h0 i hi => by
    have h2 := st_nodes (K := K) (A := A) (B := B) (F := F) (N := N) i (by rw [hll]; exact hi)
    rw [hll] at h2
    have := HN20.out h0
    omega)
  have HSok : Hid (E1 = 0 → Sok N F l marks nx) := HSok
  have C1 := hid C1
  clear hEE hRR hee hxx hmm hll HN20
  go_enter Try.func6, Try.ntmps6
  go_wp2_with fail
  rw [HEW.out]
  refine C1.out.mono ?_
  rintro e w1 ⟨hb1, ma, mc, xa, xc, base, hbase, rfl, hsp⟩
  have HB1 : Hid (Below W.heap.size W w1) := hb1
  have HSp := hid hsp
  obtain ⟨G, hG⟩ : ∃ G, G = marks.length := ⟨_, rfl⟩
  rw [← hG]
  have HGm := hid hG
  obtain ⟨W9, hW9⟩ : ∃ x, w1.alloc (.cells #[.slice ma G mc, .slice xa nx.length xc] 37) = x := ⟨_, rfl⟩
  have HB9 : Hid (Below w1.heap.size w1 W9 ∧ Below W.heap.size W W9) := hid (by subst hW9; exact ⟨box_below _ _, hb1.trans ((box_below _ _).mono hb1.size)⟩)
  have HX9 : Hid (W9.cell? ⟨w1.heap.size, 0, none⟩ = some (.slice ma G mc) ∧ W9.cell? ⟨w1.heap.size, 1, none⟩ = some (.slice xa nx.length xc)) := hid (by subst hW9; exact ⟨cell_of_alloc rfl, cell_of_alloc rfl⟩)
  have hR4 := HR4.out _ HB9.out.2
  obtain ⟨⟨d0, d1, d2, d3⟩, g0, g1, g2, g3⟩ := fou_cells hR4
  have hRl := (Array.getElem?_eq_some_iff.1 hR4).1
  clear hb1 hbase hsp hG C1
  by_cases hE1 : E1 = 0
  case neg =>
    have hz : (E1 != 0) = true := by rw [bne_iff_ne]; exact hE1
    have HE1 := hid hE1
    clear hE1
    go_wp2
    (try simp only [Exit.inBlock, Exit.then])
    refine bodyPost_ret (results_cell_tmp3 rfl _ _ (w.heap.size + 1) 30 #[.slice none 0 0, .slice none 0 0, .slice none 0 0, .slice none 0 0] (0, 0) _ rfl (fou_set hR4 _ _ _ _) Try.underlying30 rfl (by kernel_rfl)) rfl ?_
    have hE2 : rnE E1 nx G = E1 := by unfold rnE; rw [if_pos HE1.out]
    rw [← HGm.out]
    exact ⟨fou_low (HW.out.1.trans (HB9.out.2.mono HW.out.1.size)) (by omega) _ _ _ _, Or.inl ⟨by rw [hE2]; exact HE1.out, by rw [hE2]; rfl⟩⟩
  have hz : (E1 != 0) = false := by rw [hE1]; rfl
  have hE1z := hE1
  subst hE1z
  have hok := HSok.out rfl
  have HOk := hid hok
  have hG200 : G ≤ 200 := by rw [HGm.out]; exact hok.few
  have hxl : nx.length = G := by rw [HGm.out]; exact hok.len
  have h60 : ∀ r, r < G → snL nx r ≤ 60 := fun r hr => Nat.le_trans (hok.small r (by rw [← HGm.out]; exact hr)) hok.lfew
  have hEgs : Egs w1 xa G (snL nx) (snS nx) (snZ nx) := by
    have := nxs_egs HSp.out.2 rfl
    rwa [hxl] at this
  rw [hxl] at hW9 HX9 ⊢
  have HEg := hid (hEgs.below HB9.out.1)
  have hG0 : 0 < G := by rw [HGm.out]; exact hok.pos
  have CD := hid (doings_any ma xa G mc G xc nx W9 hG200 h60 HEg.out)
  obtain ⟨x0, x1⟩ := HX9.out
  have H60 := hid h60
  have hE0 : e0 = 0 ∧ l.length ≤ 60 := by
    have h1 := HEz.out rfl
    rw [← HEE.out] at h1
    exact spE_zero h1
  have HE0 := hid hE0
  clear hok hEgs h60 hE0 hE1 d0 d1 d2 d3 g0 g1 g2 g3 hRl hR4
  go_wp2_with fail
  refine CD.out.mono ?_
  rintro e w2 ⟨hb2, da, dc, rfl, HD⟩
  obtain ⟨n, hn⟩ : ∃ n, n = (dgs nx G).length := ⟨_, rfl⟩
  rw [← hn] at HD ⊢
  have HN := hid hn
  have HB2 : Hid (Below W.heap.size W w2 ∧ Below W9.heap.size W9 w2) := hid ⟨HB9.out.2.trans (hb2.mono HB9.out.2.size), hb2⟩
  have hR4 := HR4.out _ HB2.out.1
  obtain ⟨⟨d0, d1, d2, d3⟩, g0, g1, g2, g3⟩ := fou_cells hR4
  have hRl := (Array.getElem?_eq_some_iff.1 hR4).1
  obtain ⟨q0, q1⟩ := HPb.out _ HB2.out.1
  clear hn hb2 x0 x1 CD
  by_cases h600 : 600 < n
  case pos =>
    have hz6 : (600 : Int) < n := by omega
    have H6 := hid h600
    clear h600
    go_wp2
    (try simp only [Exit.inBlock, Exit.then])
    refine bodyPost_ret (results_cell_tmp3 rfl _ _ (w.heap.size + 1) 30 #[.slice none 0 0, .slice none 0 0, .slice none 0 0, .slice none 0 0] (0, 0) _ rfl (fou_set hR4 _ _ _ _) Try.underlying30 rfl (by kernel_rfl)) rfl ?_
    have hE2 : rnE 0 nx G = 2 := by unfold rnE; rw [if_neg (by simp), if_pos (by rw [← HN.out]; exact H6.out)]
    rw [← HGm.out]
    exact ⟨fou_low (HW.out.1.trans (HB2.out.1.mono HW.out.1.size)) (by omega) _ _ _ _, Or.inl ⟨by rw [hE2]; decide, by rw [hE2]; rfl⟩⟩
  have hz6 : ¬ (600 : Int) < n := by omega
  have CS2 := hid (CS.out w2 (HW.out.1.trans (HB2.out.1.mono HW.out.1.size)))
  go_wp2_with fail
  refine CS2.out.mono ?_
  rintro e w3 ⟨hb3, hs3⟩
  have hsp3 : ∃ la lc, e = .returned (.tuple #[.slice la l.length lc, .int .i64 0]) ∧ Sts w3 la l.length (fun i => l.getD i (0, 0, 0)) := by
    rcases hs3 with ⟨h1, _⟩ | ⟨_, h1, _⟩ | ⟨_, _, a, c, h1, _, h2⟩
    · exact absurd HE0.out.1 h1
    · have := HE0.out.2; omega
    · exact ⟨a, c, h1, h2⟩
  obtain ⟨la, lc, rfl, hSl⟩ := hsp3
  obtain ⟨ll, hll⟩ : ∃ ll, ll = l.length := ⟨_, rfl⟩
  rw [← hll] at hSl ⊢
  have HLl := hid hll
  have HB3 : Hid (Below W.heap.size W w3 ∧ Below W9.heap.size W9 w3 ∧ Below w2.heap.size w2 w3) := hid ⟨HB2.out.1.trans (hb3.mono HB2.out.1.size), HB2.out.2.trans (hb3.mono HB2.out.2.size), hb3⟩
  have HSl := hid hSl
  have HSt := hid (HD.out.2.below hb3)
  have hok2 := fun i (hi : i < n) => rn_ok HOk.out (i := i) (by rw [← HGm.out, ← HN.out]; exact hi)
  rw [← HGm.out] at hok2
  have HO2 := hid hok2
  have CB := hid (byMarking_any da n dc G (rnT nx G) w3 (by omega) hG200 HSt.out (fun i hi => (HO2.out i hi).1))
  have x0 := below_c HB3.out.2.1 HX9.out.1
  clear hll hSl hs3 hb3 hok2 d0 d1 d2 d3 g0 g1 g2 g3 hRl hR4 q0 q1 CS2
  go_wp2_with fail
  refine CB.out.mono ?_
  rintro e u ⟨rfl, V, hF⟩
  have HF := hid hF
  obtain ⟨a0, c0, hv, hrow⟩ := owns_row (hF.own 0 hG0)
  have htop := hF.top.cell hG0
  obtain ⟨s0, hs0⟩ : ∃ s, s = (fl (fun i => (rnT nx G i).1) (0 : Nat) n).length := ⟨_, rfl⟩
  rw [← hs0] at hv
  rw [hv] at htop
  have HR0 := hid (hF.row0 hG0 hs0.symm hv)
  have hGc : Gc u (some ⟨w3.heap.size, 0, none⟩) G (fun j => (fl (fun i => (rnT nx G i).1) (j : Nat) n).length) (fun j i => (fl (fun i => (rnT nx G i).1) (j : Nat) n).getD i 0) := hF.gc
  have hbu := hF.below
  have HS0s : Hid (s0 = (rnM nx G 0).length) := hid (by rw [hs0, HN.out]; rfl)
  have x0 := below_c hbu x0
  have x1 := below_c (HB3.out.2.1.trans (hbu.mono HB3.out.2.1.size)) HX9.out.2
  have HS0 : Hid (∀ z, Below u.heap.size u z → (fun y : World => y.cell? ⟨w1.heap.size, 0, none⟩ = some (.slice ma G mc) ∧ y.cell? ⟨w1.heap.size, 1, none⟩ = some (.slice xa G xc) ∧ y.cell? ⟨w3.heap.size, 0, none⟩ = some (.slice a0 s0 c0)) z) := hid (fun z hz => ⟨below_c hz x0, below_c hz x1, below_c hz htop⟩)
  have CG : Hid (∀ y, Below u.heap.size u y → Calls Try.prog 24 #[.slice da n dc, .slice (some ⟨w3.heap.size, 0, none⟩) G G] y fun e w' => e = .returned (.slice (some ⟨y.heap.size, 0, none⟩) n n) ∧ Below y.heap.size y w' ∧ Lie y.heap.size noB (fun z => Gc z (some ⟨y.heap.size, 0, none⟩) n (fun i => (rnM nx G (rnT nx G i).2.2.toNat).length) (fun i j => (rnM nx G (rnT nx G i).2.2.toNat).getD j 0)) w') := hid (fun y hy => by
    have := goings_any da (some ⟨w3.heap.size, 0, none⟩) n dc G G (rnT nx G) (fun j => (fl (fun i => (rnT nx G i).1) (j : Nat) n).length) (fun j i => (fl (fun i => (rnT nx G i).1) (j : Nat) n).getD i 0) y (by omega) ((HSt.out.below hbu).below hy) (hGc.below hy) (fun r _ => by rw [fl_len]; have := tally_le (fun i => (rnT nx G i).1) (r : Nat) n; omega) (fun i hi => (HO2.out i hi).2.2)
    unfold rnM
    rw [← HN.out]
    exact this)
  have CL : Hid (∀ y, Below u.heap.size u y → Calls Try.prog 25 #[.slice da n dc, .slice la ll lc] y fun e w' => e = .returned (.slice (some ⟨y.heap.size, 0, none⟩) n n) ∧ Below y.heap.size y w' ∧ w'.rowIs y.heap.size 57 n (lbF l (rnT nx G) n)) := hid (fun y hy =>
    labels_any da la n dc ll lc (rnT nx G) l y (by omega) ((HSt.out.below hbu).below hy) ((HSl.out.below hbu).below hy) HLl.out (HL20.out HE0.out.1) (fun i hi => by have := (HO2.out i hi).2.1; rw [HLl.out]; exact this))
  have CF : Hid (∀ y, Below u.heap.size u y → Calls Try.prog 26 #[.agg #[.slice ma G mc, .slice xa G xc], .slice da n dc, .int .i64 (ll : Nat)] y fun e w' => ∃ b, e = .returned (.slice (some ⟨b, 0, none⟩) ll ll) ∧ Hid (Below y.heap.size y w' ∧ Lie y.heap.size noB (fun z => Gc z (some ⟨b, 0, none⟩) ll (fun q => (fsL (snL nx) (snS nx) (rnT nx G) n (q : Nat)).length) (fun q i => (fsL (snL nx) (snS nx) (rnT nx G) n (q : Nat)).getD i 0)) w')) := hid (fun y hy =>
    fairSets_any ma xa da G mc G xc n dc ll (snL nx) (snS nx) (snZ nx) (rnT nx G) y hG200 (by omega) (by rw [HLl.out]; exact HE0.out.2) H60.out ((HEg.out.below (HB3.out.2.1.trans (hbu.mono HB3.out.2.1.size))).below hy) ((HSt.out.below hbu).below hy) (fun i hi => (HO2.out i hi).1))
  have CT : Hid (∀ y, Below u.heap.size u y → Calls Try.prog 27 #[.slice da n dc] y fun e w' => e = .returned (.slice (some ⟨y.heap.size, 0, none⟩) n n) ∧ Below y.heap.size y w' ∧ w'.rowIs y.heap.size 44 (n * 2) (tlF (rnT nx G) n)) := hid (fun y hy => told_any da n dc (rnT nx G) y (by omega) ((HSt.out.below hbu).below hy))
  have HBU : Hid (Below W.heap.size W u ∧ w3.heap.size ≤ u.heap.size) := hid ⟨HB3.out.1.trans (hbu.mono HB3.out.1.size), hbu.size⟩
  have HW3s : Hid (w.heap.size + 1 < w3.heap.size) := hid (by have := HB3.out.1.size; have := HW.out.2; show _ < _; omega)
  have hB0 : Below u.heap.size u u.drew := below_drew_iff.2 (Below.refl _ _)
  have hGz : (0 : Int) < G := by omega
  clear hv hrow htop hs0 hGc hbu x0 x1 hF CB HSl HSt
  go_wp2_with fail
  go_cut [15] from 43 to 57 (fun v15 wc => ∃ bx p1 p2 p3, v15 = .pointer (some ⟨bx, 0, none⟩) ∧ Hid (Below u.heap.size u wc ∧ wc.heap[bx]? = some (.cells #[.slice a0 s0 c0, .slice (some ⟨p1, 0, none⟩) n n, .slice (some ⟨p2, 0, none⟩) n n, .slice (some ⟨p3, 0, none⟩) ll ll] 30 (0, 0)) ∧ u.heap.size ≤ bx ∧ Lie u.heap.size noB (fun z => Gc z (some ⟨p1, 0, none⟩) n (fun i => (rnM nx G (rnT nx G i).2.2.toNat).length) (fun i j => (rnM nx G (rnT nx G i).2.2.toNat).getD j 0)) wc ∧ Lie u.heap.size noB (fun z => z.rowIs p2 57 n (lbF l (rnT nx G) n)) wc ∧ Lie u.heap.size noB (fun z => Gc z (some ⟨p3, 0, none⟩) ll (fun q => (fsL (snL nx) (snS nx) (rnT nx G) n (q : Nat)).length) (fun q i => (fsL (snL nx) (snS nx) (rnT nx G) n (q : Nat)).getD i 0)) wc))
  case first =>
    refine G_region (fun y : World => y.cell? ⟨w1.heap.size, 0, none⟩ = some (.slice ma G mc) ∧ y.cell? ⟨w1.heap.size, 1, none⟩ = some (.slice xa G xc) ∧ y.cell? ⟨w3.heap.size, 0, none⟩ = some (.slice a0 s0 c0)) (fun i => i == 16) (by kernel_rfl) (HS0.out _ hB0) (fun _ => ?_)
    refine G_take (i := 0) (oi := { dst := some 43, op := Op.move (Operand.tmp 14), type := 27, pos := _, after := #[], guard := none }) (v := .slice (some ⟨w3.heap.size, 0, none⟩) G G) rfl (by kernel_rfl) (by kernel_rfl) (by kernel_rfl) (by kernel_rfl) (fun _ _ _ h => h) (by rfl) (fun u hu => ?_) (HS0.out _ hB0) ?_
    · (try dsimp only at hu); go_simp
    (try simp only [Act.put, List.setIfInBounds_toArray, List.set_cons_zero, List.set_cons_succ])
    refine G_take (i := 1) (oi := { dst := some 44, op := Op.indexAddr 27 (Operand.tmp 43) (Operand.const (Value.int IntKind.i64 0)), type := 0, pos := _, after := #[{ on := 0, ground := Ground.data }], guard := none }) (v := .pointer (some ⟨w3.heap.size, 0, none⟩)) rfl (by kernel_rfl) (by kernel_rfl) (by kernel_rfl) (by kernel_rfl) (fun _ _ _ h => h) (by rfl) (fun u hu => ?_) (HS0.out _ hB0) ?_
    · (try dsimp only at hu); go_simp
    (try simp only [Act.put, List.setIfInBounds_toArray, List.set_cons_zero, List.set_cons_succ])
    refine G_take (i := 2) (oi := { dst := some 45, op := Op.load 26 (Operand.tmp 44), type := 26, pos := _, after := #[{ on := 1, ground := Ground.data }], guard := none }) (v := .slice a0 s0 c0) rfl (by kernel_rfl) (by kernel_rfl) (by kernel_rfl) (by kernel_rfl) (fun _ _ _ h => h) (by rfl) (fun u hu => ?_) (HS0.out _ hB0) ?_
    · (try dsimp only at hu); go_simp
    (try simp only [Act.put, List.setIfInBounds_toArray, List.set_cons_zero, List.set_cons_succ])
    refine G_take (i := 3) (oi := { dst := some 46, op := Op.move (Operand.tmp 11), type := 68, pos := _, after := #[], guard := none }) (v := .slice da n dc) rfl (by kernel_rfl) (by kernel_rfl) (by kernel_rfl) (by kernel_rfl) (fun _ _ _ h => h) (by rfl) (fun u hu => ?_) (HS0.out _ hB0) ?_
    · (try dsimp only at hu); go_simp
    (try simp only [Act.put, List.setIfInBounds_toArray, List.set_cons_zero, List.set_cons_succ])
    refine G_take (i := 4) (oi := { dst := some 47, op := Op.move (Operand.tmp 14), type := 27, pos := _, after := #[], guard := none }) (v := .slice (some ⟨w3.heap.size, 0, none⟩) G G) rfl (by kernel_rfl) (by kernel_rfl) (by kernel_rfl) (by kernel_rfl) (fun _ _ _ h => h) (by rfl) (fun u hu => ?_) (HS0.out _ hB0) ?_
    · (try dsimp only at hu); go_simp
    (try simp only [Act.put, List.setIfInBounds_toArray, List.set_cons_zero, List.set_cons_succ])
    refine G_take (i := 6) (oi := { dst := some 49, op := Op.move (Operand.tmp 11), type := 68, pos := _, after := #[], guard := none }) (v := .slice da n dc) rfl (by kernel_rfl) (by kernel_rfl) (by kernel_rfl) (by kernel_rfl) (fun _ _ _ h => h) (by rfl) (fun u hu => ?_) (HS0.out _ hB0) ?_
    · (try dsimp only at hu); go_simp
    (try simp only [Act.put, List.setIfInBounds_toArray, List.set_cons_zero, List.set_cons_succ])
    refine G_take (i := 7) (oi := { dst := some 50, op := Op.move (Operand.tmp 12), type := 60, pos := _, after := #[], guard := none }) (v := .slice la ll lc) rfl (by kernel_rfl) (by kernel_rfl) (by kernel_rfl) (by kernel_rfl) (fun _ _ _ h => h) (by rfl) (fun u hu => ?_) (HS0.out _ hB0) ?_
    · (try dsimp only at hu); go_simp
    (try simp only [Act.put, List.setIfInBounds_toArray, List.set_cons_zero, List.set_cons_succ])
    refine G_take (i := 9) (oi := { dst := some 52, op := Op.load 37 (Operand.tmp 9), type := 37, pos := _, after := #[], guard := none }) (v := .agg #[.slice ma G mc, .slice xa G xc]) rfl (by kernel_rfl) (by kernel_rfl) (by kernel_rfl) (by kernel_rfl) (fun _ _ _ h => h) (by rfl) (fun u hu => ?_) (HS0.out _ hB0) ?_
    · (try dsimp only at hu); go_simp
    (try simp only [Act.put, List.setIfInBounds_toArray, List.set_cons_zero, List.set_cons_succ])
    refine G_take (i := 10) (oi := { dst := some 53, op := Op.move (Operand.tmp 11), type := 68, pos := _, after := #[], guard := none }) (v := .slice da n dc) rfl (by kernel_rfl) (by kernel_rfl) (by kernel_rfl) (by kernel_rfl) (fun _ _ _ h => h) (by rfl) (fun u hu => ?_) (HS0.out _ hB0) ?_
    · (try dsimp only at hu); go_simp
    (try simp only [Act.put, List.setIfInBounds_toArray, List.set_cons_zero, List.set_cons_succ])
    refine G_take (i := 11) (oi := { dst := some 54, op := Op.move (Operand.tmp 12), type := 60, pos := _, after := #[], guard := none }) (v := .slice la ll lc) rfl (by kernel_rfl) (by kernel_rfl) (by kernel_rfl) (by kernel_rfl) (fun _ _ _ h => h) (by rfl) (fun u hu => ?_) (HS0.out _ hB0) ?_
    · (try dsimp only at hu); go_simp
    (try simp only [Act.put, List.setIfInBounds_toArray, List.set_cons_zero, List.set_cons_succ])
    refine G_take (i := 12) (oi := { dst := some 55, op := Op.call { callee := Callee.builtin Builtin.len, args := #[Operand.tmp 54], argTypes := #[60] }, type := 3, pos := _, after := #[{ on := 11, ground := Ground.data }], guard := none }) (v := .int .i64 (ll : Nat)) rfl (by kernel_rfl) (by kernel_rfl) (by kernel_rfl) (by kernel_rfl) (fun _ _ _ h => h) (by rfl) (fun u hu => ?_) (HS0.out _ hB0) ?_
    · (try dsimp only at hu); go_simp
    (try simp only [Act.put, List.setIfInBounds_toArray, List.set_cons_zero, List.set_cons_succ])
    obtain ⟨y0, hy0⟩ : ∃ q, q = u.drew := ⟨_, rfl⟩
    rw [← hy0] at hB0 ⊢
    have hB := hB0
    clear hy0 hB0
    refine G_alt (l := [5, 15]) (by kernel_rfl) (by decide) ?_
    intro i hi
    have hi2 : i = 5 ∨ i = 15 := by simpa using hi
    clear hi
    rcases hi2 with rfl | rfl
    · refine ⟨{ dst := some 48, op := Op.call { callee := Callee.value (Operand.func 24), args := #[Operand.tmp 46, Operand.tmp 47], argTypes := #[68, 27] }, type := 27, pos := _, after := #[{ on := 3, ground := Ground.data }, { on := 4, ground := Ground.data }], guard := none }, rfl, fun K' hK => ?_⟩
      go_simp
      refine (CG.out _ hB).mono ?_
      rintro e y1 ⟨rfl, hb, hr⟩
      dsimp only
      obtain ⟨p1, hp⟩ : ∃ q, q = y0.heap.size := ⟨_, rfl⟩
      have hNx : Hid (Lie u.heap.size noB (fun z => Gc z (some ⟨p1, 0, none⟩) n (fun i => (rnM nx G (rnT nx G i).2.2.toNat).length) (fun i j => (rnM nx G (rnT nx G i).2.2.toNat).getD j 0)) y1) := hid (by rw [hp]; exact Lie.mono hr hB.size)
      rw [← hp]
      replace hB := hB.trans (hb.mono hB.size)
      clear hr hb hp
      refine hK.out _ _ (fun _ => HS0.out _ hB) (fun _ => ?_)
      clear hK K'
      (try simp only [Act.put, List.setIfInBounds_toArray, List.set_cons_zero, List.set_cons_succ])
      refine G_alt (l := [8, 15]) (by kernel_rfl) (by decide) ?_
      intro i hi
      have hi2 : i = 8 ∨ i = 15 := by simpa using hi
      clear hi
      rcases hi2 with rfl | rfl
      · refine ⟨{ dst := some 51, op := Op.call { callee := Callee.value (Operand.func 25), args := #[Operand.tmp 49, Operand.tmp 50], argTypes := #[68, 60] }, type := 28, pos := _, after := #[{ on := 6, ground := Ground.data }, { on := 7, ground := Ground.data }, { on := 5, ground := Ground.chain }], guard := none }, rfl, fun K' hK => ?_⟩
        go_simp
        refine (CL.out _ hB).mono ?_
        rintro e y2 ⟨rfl, hb, hr⟩
        dsimp only
        obtain ⟨p2, hp⟩ : ∃ q, q = y1.heap.size := ⟨_, rfl⟩
        have hLb : Hid (Lie u.heap.size noB (fun z => z.rowIs p2 57 n (lbF l (rnT nx G) n)) y2) := hid (by rw [hp]; exact Lie.mono (ly_row hr (Nat.le_refl _)) hB.size)
        rw [← hp]
        have hNx := hid (hNx.out.below hb)
        replace hB := hB.trans (hb.mono hB.size)
        clear hr hb hp
        refine hK.out _ _ (fun _ => HS0.out _ hB) (fun _ => ?_)
        clear hK K'
        (try simp only [Act.put, List.setIfInBounds_toArray, List.set_cons_zero, List.set_cons_succ])
        refine G_alt (l := [13, 15]) (by kernel_rfl) (by decide) ?_
        intro i hi
        have hi2 : i = 13 ∨ i = 15 := by simpa using hi
        clear hi
        rcases hi2 with rfl | rfl
        · refine ⟨{ dst := some 56, op := Op.call { callee := Callee.value (Operand.func 26), args := #[Operand.tmp 52, Operand.tmp 53, Operand.tmp 55], argTypes := #[37, 68, 3] }, type := 27, pos := _, after := #[{ on := 9, ground := Ground.data }, { on := 10, ground := Ground.data }, { on := 12, ground := Ground.data }, { on := 8, ground := Ground.chain }], guard := none }, rfl, fun K' hK => ?_⟩
          go_simp
          refine (CF.out _ hB).mono ?_
          rintro e y3 ⟨p3, rfl, hr⟩
          dsimp only
          have hb := hr.out.1
          have hFr : Hid (Lie u.heap.size noB (fun z => Gc z (some ⟨p3, 0, none⟩) ll (fun q => (fsL (snL nx) (snS nx) (rnT nx G) n (q : Nat)).length) (fun q i => (fsL (snL nx) (snS nx) (rnT nx G) n (q : Nat)).getD i 0)) y3) := hid (by exact Lie.mono hr.out.2 hB.size)
          have hNx := hid (hNx.out.below hb)
          have hLb := hid (hLb.out.below hb)
          replace hB := hB.trans (hb.mono hB.size)
          clear hr hb
          refine hK.out _ _ (fun _ => HS0.out _ hB) (fun _ => ?_)
          clear hK K'
          (try simp only [Act.put, List.setIfInBounds_toArray, List.set_cons_zero, List.set_cons_succ])
          refine G_take (i := 14) (oi := { dst := some 57, op := Op.build 30 #[(0, Operand.tmp 45), (1, Operand.tmp 48), (2, Operand.tmp 51), (3, Operand.tmp 56)], type := 30, pos := _, after := #[{ on := 2, ground := Ground.data }, { on := 5, ground := Ground.data }, { on := 8, ground := Ground.data }, { on := 13, ground := Ground.data }], guard := none }) (v := .agg #[.slice a0 s0 c0, .slice (some ⟨p1, 0, none⟩) n n, .slice (some ⟨p2, 0, none⟩) n n, .slice (some ⟨p3, 0, none⟩) ll ll]) rfl (by kernel_rfl) (by kernel_rfl) (by kernel_rfl) (by kernel_rfl) (fun _ _ _ h => h) (by rfl) (fun u hu => ?_) (HS0.out _ hB) ?_
          · (try dsimp only at hu); go_simp
          (try simp only [Act.put, List.setIfInBounds_toArray, List.set_cons_zero, List.set_cons_succ])
          refine G_step (i := 15) (o := { dst := some 15, op := Op.alloc 30, type := 0, pos := _, after := #[], guard := none }) (by kernel_rfl) rfl (fun K' hK => ?_)
          go_simp
          obtain ⟨y4, hy⟩ : ∃ q, q = y3.alloc (.cells #[.slice none 0 0, .slice none 0 0, .slice none 0 0, .slice none 0 0] 30) := ⟨_, rfl⟩
          have hb : Below y3.heap.size y3 y4 := by rw [hy]; exact box_below _ _
          obtain ⟨bx, hbx⟩ : ∃ q, q = y3.heap.size := ⟨_, rfl⟩
          have hBx : Hid (y4.heap[bx]? = some (.cells #[.slice none 0 0, .slice none 0 0, .slice none 0 0, .slice none 0 0] 30 (0, 0))) := by rw [hy, hbx]; exact hid (Go.Deep.blk_alloc_new _ _)
          have hBu : Hid (u.heap.size ≤ bx ∧ bx < y4.heap.size) := hid (by rw [hbx]; exact ⟨hB.size, by rw [hy]; simp⟩)
          have hNx : Hid (Lie u.heap.size (isB bx) (fun z => Gc z (some ⟨p1, 0, none⟩) n (fun i => (rnM nx G (rnT nx G i).2.2.toNat).length) (fun i j => (rnM nx G (rnT nx G i).2.2.toNat).getD j 0)) y4) := hid (by rw [hy, hbx]; exact hNx.out.fresh _)
          have hLb : Hid (Lie u.heap.size (isB bx) (fun z => z.rowIs p2 57 n (lbF l (rnT nx G) n)) y4) := hid (by rw [hy, hbx]; exact hLb.out.fresh _)
          have hFr : Hid (Lie u.heap.size (isB bx) (fun z => Gc z (some ⟨p3, 0, none⟩) ll (fun q => (fsL (snL nx) (snS nx) (rnT nx G) n (q : Nat)).length) (fun q i => (fsL (snL nx) (snS nx) (rnT nx G) n (q : Nat)).getD i 0)) y4) := hid (by rw [hy, hbx]; exact hFr.out.fresh _)
          rw [← hy]
          rw [← hbx]
          replace hB := hB.trans (hb.mono hB.size)
          clear hy hb hbx
          refine hK.out _ _ (fun _ => HS0.out _ hB) (fun _ => ?_)
          clear hK K'
          (try simp only [Act.put, List.setIfInBounds_toArray, List.set_cons_zero, List.set_cons_succ])
          obtain ⟨⟨d0, d1, d2, d3⟩, g0, g1, g2, g3⟩ := fou_cells hBx.out
          have hBl := (Array.getElem?_eq_some_iff.1 hBx.out).1
          refine G_step (i := 16) (o := { dst := none, op := Op.store 30 (Operand.tmp 15) (Operand.tmp 57), type := 0, pos := _, after := #[{ on := 15, ground := Ground.data }, { on := 14, ground := Ground.data }, { on := 13, ground := Ground.chain }, { on := 0, ground := Ground.phase }, { on := 1, ground := Ground.phase }, { on := 2, ground := Ground.phase }, { on := 3, ground := Ground.phase }, { on := 4, ground := Ground.phase }, { on := 5, ground := Ground.phase }, { on := 6, ground := Ground.phase }, { on := 7, ground := Ground.phase }, { on := 8, ground := Ground.phase }, { on := 9, ground := Ground.phase }, { on := 10, ground := Ground.phase }, { on := 11, ground := Ground.phase }, { on := 12, ground := Ground.phase }, { on := 13, ground := Ground.phase }, { on := 14, ground := Ground.phase }, { on := 15, ground := Ground.phase }], guard := none }) (by kernel_rfl) rfl (fun K' hK => ?_)
          go_simp
          obtain ⟨y5, hy⟩ : ∃ q, q = (((y4.setCell ⟨bx, 0, none⟩ (.slice a0 s0 c0)).setCell ⟨bx, 1, none⟩ (.slice (some ⟨p1, 0, none⟩) n n)).setCell ⟨bx, 2, none⟩ (.slice (some ⟨p2, 0, none⟩) n n)).setCell ⟨bx, 3, none⟩ (.slice (some ⟨p3, 0, none⟩) ll ll) := ⟨_, rfl⟩
          rw [← hy]
          have HFIN : Hid (Below u.heap.size u y5 ∧ y5.heap[bx]? = some (.cells #[.slice a0 s0 c0, .slice (some ⟨p1, 0, none⟩) n n, .slice (some ⟨p2, 0, none⟩) n n, .slice (some ⟨p3, 0, none⟩) ll ll] 30 (0, 0)) ∧ u.heap.size ≤ bx ∧ Lie u.heap.size noB (fun z => Gc z (some ⟨p1, 0, none⟩) n (fun i => (rnM nx G (rnT nx G i).2.2.toNat).length) (fun i j => (rnM nx G (rnT nx G i).2.2.toNat).getD j 0)) y5 ∧ Lie u.heap.size noB (fun z => z.rowIs p2 57 n (lbF l (rnT nx G) n)) y5 ∧ Lie u.heap.size noB (fun z => Gc z (some ⟨p3, 0, none⟩) ll (fun q => (fsL (snL nx) (snS nx) (rnT nx G) n (q : Nat)).length) (fun q i => (fsL (snL nx) (snS nx) (rnT nx G) n (q : Nat)).getD i 0)) y5) := hid (by
            have hz : ∀ g, g ≠ bx → y5.heap[g]? = y4.heap[g]? := fun g hg => by rw [hy]; exact fou_else hg _ _ _ _
            have hsz : y4.heap.size ≤ y5.heap.size := by rw [hy]; simp [World.setCell]
            exact ⟨by rw [hy]; exact fou_low hB hBu.out.1 _ _ _ _, by rw [hy]; exact fou_set hBx.out _ _ _ _, hBu.out.1, hNx.out.but hsz hz, hLb.out.but hsz hz, hFr.out.but hsz hz⟩)
          refine hK.out _ _ (fun hh => by cases hh) (fun _ => ?_)
          clear hK K' hy d0 d1 d2 d3 g0 g1 g2 g3 hBl hNx hLb hFr hBx hBu hB
          (try simp only [Act.put, List.setIfInBounds_toArray, List.set_cons_zero, List.set_cons_succ])
          refine G_done (by kernel_rfl) ?_ _
          go_wp2_with fail
          go_meet
          exact ⟨bx, p1, p2, p3, rfl, HFIN⟩
        · refine ⟨{ dst := some 15, op := Op.alloc 30, type := 0, pos := _, after := #[], guard := none }, rfl, fun K' hK => ?_⟩
          go_simp
          obtain ⟨y6, hy⟩ : ∃ q, q = y2.alloc (.cells #[.slice none 0 0, .slice none 0 0, .slice none 0 0, .slice none 0 0] 30) := ⟨_, rfl⟩
          have hb : Below y2.heap.size y2 y6 := by rw [hy]; exact box_below _ _
          obtain ⟨bx, hbx⟩ : ∃ q, q = y2.heap.size := ⟨_, rfl⟩
          have hBx : Hid (y6.heap[bx]? = some (.cells #[.slice none 0 0, .slice none 0 0, .slice none 0 0, .slice none 0 0] 30 (0, 0))) := by rw [hy, hbx]; exact hid (Go.Deep.blk_alloc_new _ _)
          have hBu : Hid (u.heap.size ≤ bx ∧ bx < y6.heap.size) := hid (by rw [hbx]; exact ⟨hB.size, by rw [hy]; simp⟩)
          have hNx : Hid (Lie u.heap.size (isB bx) (fun z => Gc z (some ⟨p1, 0, none⟩) n (fun i => (rnM nx G (rnT nx G i).2.2.toNat).length) (fun i j => (rnM nx G (rnT nx G i).2.2.toNat).getD j 0)) y6) := hid (by rw [hy, hbx]; exact hNx.out.fresh _)
          have hLb : Hid (Lie u.heap.size (isB bx) (fun z => z.rowIs p2 57 n (lbF l (rnT nx G) n)) y6) := hid (by rw [hy, hbx]; exact hLb.out.fresh _)
          rw [← hy]
          rw [← hbx]
          replace hB := hB.trans (hb.mono hB.size)
          clear hy hb hbx
          refine hK.out _ _ (fun _ => HS0.out _ hB) (fun _ => ?_)
          clear hK K'
          (try simp only [Act.put, List.setIfInBounds_toArray, List.set_cons_zero, List.set_cons_succ])
          refine G_step (i := 13) (o := { dst := some 56, op := Op.call { callee := Callee.value (Operand.func 26), args := #[Operand.tmp 52, Operand.tmp 53, Operand.tmp 55], argTypes := #[37, 68, 3] }, type := 27, pos := _, after := #[{ on := 9, ground := Ground.data }, { on := 10, ground := Ground.data }, { on := 12, ground := Ground.data }, { on := 8, ground := Ground.chain }], guard := none }) (by kernel_rfl) rfl (fun K' hK => ?_)
          go_simp
          refine (CF.out _ hB).mono ?_
          rintro e y7 ⟨p3, rfl, hr⟩
          dsimp only
          have hb := hr.out.1
          have hFr : Hid (Lie u.heap.size (isB bx) (fun z => Gc z (some ⟨p3, 0, none⟩) ll (fun q => (fsL (snL nx) (snS nx) (rnT nx G) n (q : Nat)).length) (fun q i => (fsL (snL nx) (snS nx) (rnT nx G) n (q : Nat)).getD i 0)) y7) := hid (by exact Lie.mono (hr.out.2.old hBu.out.2) hB.size)
          have hNx := hid (hNx.out.below hb)
          have hLb := hid (hLb.out.below hb)
          have hBx := hid ((hb.block _ (Array.getElem?_eq_some_iff.1 hBx.out).1).trans hBx.out)
          have hBu := hid (And.intro hBu.out.1 (Nat.lt_of_lt_of_le hBu.out.2 hb.size))
          replace hB := hB.trans (hb.mono hB.size)
          clear hr hb
          refine hK.out _ _ (fun _ => HS0.out _ hB) (fun _ => ?_)
          clear hK K'
          (try simp only [Act.put, List.setIfInBounds_toArray, List.set_cons_zero, List.set_cons_succ])
          refine G_take (i := 14) (oi := { dst := some 57, op := Op.build 30 #[(0, Operand.tmp 45), (1, Operand.tmp 48), (2, Operand.tmp 51), (3, Operand.tmp 56)], type := 30, pos := _, after := #[{ on := 2, ground := Ground.data }, { on := 5, ground := Ground.data }, { on := 8, ground := Ground.data }, { on := 13, ground := Ground.data }], guard := none }) (v := .agg #[.slice a0 s0 c0, .slice (some ⟨p1, 0, none⟩) n n, .slice (some ⟨p2, 0, none⟩) n n, .slice (some ⟨p3, 0, none⟩) ll ll]) rfl (by kernel_rfl) (by kernel_rfl) (by kernel_rfl) (by kernel_rfl) (fun _ _ _ h => h) (by rfl) (fun u hu => ?_) (HS0.out _ hB) ?_
          · (try dsimp only at hu); go_simp
          (try simp only [Act.put, List.setIfInBounds_toArray, List.set_cons_zero, List.set_cons_succ])
          obtain ⟨⟨d0, d1, d2, d3⟩, g0, g1, g2, g3⟩ := fou_cells hBx.out
          have hBl := (Array.getElem?_eq_some_iff.1 hBx.out).1
          refine G_step (i := 16) (o := { dst := none, op := Op.store 30 (Operand.tmp 15) (Operand.tmp 57), type := 0, pos := _, after := #[{ on := 15, ground := Ground.data }, { on := 14, ground := Ground.data }, { on := 13, ground := Ground.chain }, { on := 0, ground := Ground.phase }, { on := 1, ground := Ground.phase }, { on := 2, ground := Ground.phase }, { on := 3, ground := Ground.phase }, { on := 4, ground := Ground.phase }, { on := 5, ground := Ground.phase }, { on := 6, ground := Ground.phase }, { on := 7, ground := Ground.phase }, { on := 8, ground := Ground.phase }, { on := 9, ground := Ground.phase }, { on := 10, ground := Ground.phase }, { on := 11, ground := Ground.phase }, { on := 12, ground := Ground.phase }, { on := 13, ground := Ground.phase }, { on := 14, ground := Ground.phase }, { on := 15, ground := Ground.phase }], guard := none }) (by kernel_rfl) rfl (fun K' hK => ?_)
          go_simp
          obtain ⟨y8, hy⟩ : ∃ q, q = (((y7.setCell ⟨bx, 0, none⟩ (.slice a0 s0 c0)).setCell ⟨bx, 1, none⟩ (.slice (some ⟨p1, 0, none⟩) n n)).setCell ⟨bx, 2, none⟩ (.slice (some ⟨p2, 0, none⟩) n n)).setCell ⟨bx, 3, none⟩ (.slice (some ⟨p3, 0, none⟩) ll ll) := ⟨_, rfl⟩
          rw [← hy]
          have HFIN : Hid (Below u.heap.size u y8 ∧ y8.heap[bx]? = some (.cells #[.slice a0 s0 c0, .slice (some ⟨p1, 0, none⟩) n n, .slice (some ⟨p2, 0, none⟩) n n, .slice (some ⟨p3, 0, none⟩) ll ll] 30 (0, 0)) ∧ u.heap.size ≤ bx ∧ Lie u.heap.size noB (fun z => Gc z (some ⟨p1, 0, none⟩) n (fun i => (rnM nx G (rnT nx G i).2.2.toNat).length) (fun i j => (rnM nx G (rnT nx G i).2.2.toNat).getD j 0)) y8 ∧ Lie u.heap.size noB (fun z => z.rowIs p2 57 n (lbF l (rnT nx G) n)) y8 ∧ Lie u.heap.size noB (fun z => Gc z (some ⟨p3, 0, none⟩) ll (fun q => (fsL (snL nx) (snS nx) (rnT nx G) n (q : Nat)).length) (fun q i => (fsL (snL nx) (snS nx) (rnT nx G) n (q : Nat)).getD i 0)) y8) := hid (by
            have hz : ∀ g, g ≠ bx → y8.heap[g]? = y7.heap[g]? := fun g hg => by rw [hy]; exact fou_else hg _ _ _ _
            have hsz : y7.heap.size ≤ y8.heap.size := by rw [hy]; simp [World.setCell]
            exact ⟨by rw [hy]; exact fou_low hB hBu.out.1 _ _ _ _, by rw [hy]; exact fou_set hBx.out _ _ _ _, hBu.out.1, hNx.out.but hsz hz, hLb.out.but hsz hz, hFr.out.but hsz hz⟩)
          refine hK.out _ _ (fun hh => by cases hh) (fun _ => ?_)
          clear hK K' hy d0 d1 d2 d3 g0 g1 g2 g3 hBl hNx hLb hFr hBx hBu hB
          (try simp only [Act.put, List.setIfInBounds_toArray, List.set_cons_zero, List.set_cons_succ])
          refine G_done (by kernel_rfl) ?_ _
          go_wp2_with fail
          go_meet
          exact ⟨bx, p1, p2, p3, rfl, HFIN⟩
      · refine ⟨{ dst := some 15, op := Op.alloc 30, type := 0, pos := _, after := #[], guard := none }, rfl, fun K' hK => ?_⟩
        go_simp
        obtain ⟨y9, hy⟩ : ∃ q, q = y1.alloc (.cells #[.slice none 0 0, .slice none 0 0, .slice none 0 0, .slice none 0 0] 30) := ⟨_, rfl⟩
        have hb : Below y1.heap.size y1 y9 := by rw [hy]; exact box_below _ _
        obtain ⟨bx, hbx⟩ : ∃ q, q = y1.heap.size := ⟨_, rfl⟩
        have hBx : Hid (y9.heap[bx]? = some (.cells #[.slice none 0 0, .slice none 0 0, .slice none 0 0, .slice none 0 0] 30 (0, 0))) := by rw [hy, hbx]; exact hid (Go.Deep.blk_alloc_new _ _)
        have hBu : Hid (u.heap.size ≤ bx ∧ bx < y9.heap.size) := hid (by rw [hbx]; exact ⟨hB.size, by rw [hy]; simp⟩)
        have hNx : Hid (Lie u.heap.size (isB bx) (fun z => Gc z (some ⟨p1, 0, none⟩) n (fun i => (rnM nx G (rnT nx G i).2.2.toNat).length) (fun i j => (rnM nx G (rnT nx G i).2.2.toNat).getD j 0)) y9) := hid (by rw [hy, hbx]; exact hNx.out.fresh _)
        rw [← hy]
        rw [← hbx]
        replace hB := hB.trans (hb.mono hB.size)
        clear hy hb hbx
        refine hK.out _ _ (fun _ => HS0.out _ hB) (fun _ => ?_)
        clear hK K'
        (try simp only [Act.put, List.setIfInBounds_toArray, List.set_cons_zero, List.set_cons_succ])
        refine G_step (i := 8) (o := { dst := some 51, op := Op.call { callee := Callee.value (Operand.func 25), args := #[Operand.tmp 49, Operand.tmp 50], argTypes := #[68, 60] }, type := 28, pos := _, after := #[{ on := 6, ground := Ground.data }, { on := 7, ground := Ground.data }, { on := 5, ground := Ground.chain }], guard := none }) (by kernel_rfl) rfl (fun K' hK => ?_)
        go_simp
        refine (CL.out _ hB).mono ?_
        rintro e y10 ⟨rfl, hb, hr⟩
        dsimp only
        obtain ⟨p2, hp⟩ : ∃ q, q = y9.heap.size := ⟨_, rfl⟩
        have hLb : Hid (Lie u.heap.size (isB bx) (fun z => z.rowIs p2 57 n (lbF l (rnT nx G) n)) y10) := hid (by rw [hp]; exact Lie.mono ((ly_row hr (Nat.le_refl _)).old hBu.out.2) hB.size)
        rw [← hp]
        have hNx := hid (hNx.out.below hb)
        have hBx := hid ((hb.block _ (Array.getElem?_eq_some_iff.1 hBx.out).1).trans hBx.out)
        have hBu := hid (And.intro hBu.out.1 (Nat.lt_of_lt_of_le hBu.out.2 hb.size))
        replace hB := hB.trans (hb.mono hB.size)
        clear hr hb hp
        refine hK.out _ _ (fun _ => HS0.out _ hB) (fun _ => ?_)
        clear hK K'
        (try simp only [Act.put, List.setIfInBounds_toArray, List.set_cons_zero, List.set_cons_succ])
        refine G_step (i := 13) (o := { dst := some 56, op := Op.call { callee := Callee.value (Operand.func 26), args := #[Operand.tmp 52, Operand.tmp 53, Operand.tmp 55], argTypes := #[37, 68, 3] }, type := 27, pos := _, after := #[{ on := 9, ground := Ground.data }, { on := 10, ground := Ground.data }, { on := 12, ground := Ground.data }, { on := 8, ground := Ground.chain }], guard := none }) (by kernel_rfl) rfl (fun K' hK => ?_)
        go_simp
        refine (CF.out _ hB).mono ?_
        rintro e y11 ⟨p3, rfl, hr⟩
        dsimp only
        have hb := hr.out.1
        have hFr : Hid (Lie u.heap.size (isB bx) (fun z => Gc z (some ⟨p3, 0, none⟩) ll (fun q => (fsL (snL nx) (snS nx) (rnT nx G) n (q : Nat)).length) (fun q i => (fsL (snL nx) (snS nx) (rnT nx G) n (q : Nat)).getD i 0)) y11) := hid (by exact Lie.mono (hr.out.2.old hBu.out.2) hB.size)
        have hNx := hid (hNx.out.below hb)
        have hBx := hid ((hb.block _ (Array.getElem?_eq_some_iff.1 hBx.out).1).trans hBx.out)
        have hLb := hid (hLb.out.below hb)
        have hBu := hid (And.intro hBu.out.1 (Nat.lt_of_lt_of_le hBu.out.2 hb.size))
        replace hB := hB.trans (hb.mono hB.size)
        clear hr hb
        refine hK.out _ _ (fun _ => HS0.out _ hB) (fun _ => ?_)
        clear hK K'
        (try simp only [Act.put, List.setIfInBounds_toArray, List.set_cons_zero, List.set_cons_succ])
        refine G_take (i := 14) (oi := { dst := some 57, op := Op.build 30 #[(0, Operand.tmp 45), (1, Operand.tmp 48), (2, Operand.tmp 51), (3, Operand.tmp 56)], type := 30, pos := _, after := #[{ on := 2, ground := Ground.data }, { on := 5, ground := Ground.data }, { on := 8, ground := Ground.data }, { on := 13, ground := Ground.data }], guard := none }) (v := .agg #[.slice a0 s0 c0, .slice (some ⟨p1, 0, none⟩) n n, .slice (some ⟨p2, 0, none⟩) n n, .slice (some ⟨p3, 0, none⟩) ll ll]) rfl (by kernel_rfl) (by kernel_rfl) (by kernel_rfl) (by kernel_rfl) (fun _ _ _ h => h) (by rfl) (fun u hu => ?_) (HS0.out _ hB) ?_
        · (try dsimp only at hu); go_simp
        (try simp only [Act.put, List.setIfInBounds_toArray, List.set_cons_zero, List.set_cons_succ])
        obtain ⟨⟨d0, d1, d2, d3⟩, g0, g1, g2, g3⟩ := fou_cells hBx.out
        have hBl := (Array.getElem?_eq_some_iff.1 hBx.out).1
        refine G_step (i := 16) (o := { dst := none, op := Op.store 30 (Operand.tmp 15) (Operand.tmp 57), type := 0, pos := _, after := #[{ on := 15, ground := Ground.data }, { on := 14, ground := Ground.data }, { on := 13, ground := Ground.chain }, { on := 0, ground := Ground.phase }, { on := 1, ground := Ground.phase }, { on := 2, ground := Ground.phase }, { on := 3, ground := Ground.phase }, { on := 4, ground := Ground.phase }, { on := 5, ground := Ground.phase }, { on := 6, ground := Ground.phase }, { on := 7, ground := Ground.phase }, { on := 8, ground := Ground.phase }, { on := 9, ground := Ground.phase }, { on := 10, ground := Ground.phase }, { on := 11, ground := Ground.phase }, { on := 12, ground := Ground.phase }, { on := 13, ground := Ground.phase }, { on := 14, ground := Ground.phase }, { on := 15, ground := Ground.phase }], guard := none }) (by kernel_rfl) rfl (fun K' hK => ?_)
        go_simp
        obtain ⟨y12, hy⟩ : ∃ q, q = (((y11.setCell ⟨bx, 0, none⟩ (.slice a0 s0 c0)).setCell ⟨bx, 1, none⟩ (.slice (some ⟨p1, 0, none⟩) n n)).setCell ⟨bx, 2, none⟩ (.slice (some ⟨p2, 0, none⟩) n n)).setCell ⟨bx, 3, none⟩ (.slice (some ⟨p3, 0, none⟩) ll ll) := ⟨_, rfl⟩
        rw [← hy]
        have HFIN : Hid (Below u.heap.size u y12 ∧ y12.heap[bx]? = some (.cells #[.slice a0 s0 c0, .slice (some ⟨p1, 0, none⟩) n n, .slice (some ⟨p2, 0, none⟩) n n, .slice (some ⟨p3, 0, none⟩) ll ll] 30 (0, 0)) ∧ u.heap.size ≤ bx ∧ Lie u.heap.size noB (fun z => Gc z (some ⟨p1, 0, none⟩) n (fun i => (rnM nx G (rnT nx G i).2.2.toNat).length) (fun i j => (rnM nx G (rnT nx G i).2.2.toNat).getD j 0)) y12 ∧ Lie u.heap.size noB (fun z => z.rowIs p2 57 n (lbF l (rnT nx G) n)) y12 ∧ Lie u.heap.size noB (fun z => Gc z (some ⟨p3, 0, none⟩) ll (fun q => (fsL (snL nx) (snS nx) (rnT nx G) n (q : Nat)).length) (fun q i => (fsL (snL nx) (snS nx) (rnT nx G) n (q : Nat)).getD i 0)) y12) := hid (by
          have hz : ∀ g, g ≠ bx → y12.heap[g]? = y11.heap[g]? := fun g hg => by rw [hy]; exact fou_else hg _ _ _ _
          have hsz : y11.heap.size ≤ y12.heap.size := by rw [hy]; simp [World.setCell]
          exact ⟨by rw [hy]; exact fou_low hB hBu.out.1 _ _ _ _, by rw [hy]; exact fou_set hBx.out _ _ _ _, hBu.out.1, hNx.out.but hsz hz, hLb.out.but hsz hz, hFr.out.but hsz hz⟩)
        refine hK.out _ _ (fun hh => by cases hh) (fun _ => ?_)
        clear hK K' hy d0 d1 d2 d3 g0 g1 g2 g3 hBl hNx hLb hFr hBx hBu hB
        (try simp only [Act.put, List.setIfInBounds_toArray, List.set_cons_zero, List.set_cons_succ])
        refine G_done (by kernel_rfl) ?_ _
        go_wp2_with fail
        go_meet
        exact ⟨bx, p1, p2, p3, rfl, HFIN⟩
    · refine ⟨{ dst := some 15, op := Op.alloc 30, type := 0, pos := _, after := #[], guard := none }, rfl, fun K' hK => ?_⟩
      go_simp
      obtain ⟨y13, hy⟩ : ∃ q, q = y0.alloc (.cells #[.slice none 0 0, .slice none 0 0, .slice none 0 0, .slice none 0 0] 30) := ⟨_, rfl⟩
      have hb : Below y0.heap.size y0 y13 := by rw [hy]; exact box_below _ _
      obtain ⟨bx, hbx⟩ : ∃ q, q = y0.heap.size := ⟨_, rfl⟩
      have hBx : Hid (y13.heap[bx]? = some (.cells #[.slice none 0 0, .slice none 0 0, .slice none 0 0, .slice none 0 0] 30 (0, 0))) := by rw [hy, hbx]; exact hid (Go.Deep.blk_alloc_new _ _)
      have hBu : Hid (u.heap.size ≤ bx ∧ bx < y13.heap.size) := hid (by rw [hbx]; exact ⟨hB.size, by rw [hy]; simp⟩)
      rw [← hy]
      rw [← hbx]
      replace hB := hB.trans (hb.mono hB.size)
      clear hy hb hbx
      refine hK.out _ _ (fun _ => HS0.out _ hB) (fun _ => ?_)
      clear hK K'
      (try simp only [Act.put, List.setIfInBounds_toArray, List.set_cons_zero, List.set_cons_succ])
      refine G_step (i := 5) (o := { dst := some 48, op := Op.call { callee := Callee.value (Operand.func 24), args := #[Operand.tmp 46, Operand.tmp 47], argTypes := #[68, 27] }, type := 27, pos := _, after := #[{ on := 3, ground := Ground.data }, { on := 4, ground := Ground.data }], guard := none }) (by kernel_rfl) rfl (fun K' hK => ?_)
      go_simp
      refine (CG.out _ hB).mono ?_
      rintro e y14 ⟨rfl, hb, hr⟩
      dsimp only
      obtain ⟨p1, hp⟩ : ∃ q, q = y13.heap.size := ⟨_, rfl⟩
      have hNx : Hid (Lie u.heap.size (isB bx) (fun z => Gc z (some ⟨p1, 0, none⟩) n (fun i => (rnM nx G (rnT nx G i).2.2.toNat).length) (fun i j => (rnM nx G (rnT nx G i).2.2.toNat).getD j 0)) y14) := hid (by rw [hp]; exact Lie.mono (hr.old hBu.out.2) hB.size)
      rw [← hp]
      have hBx := hid ((hb.block _ (Array.getElem?_eq_some_iff.1 hBx.out).1).trans hBx.out)
      have hBu := hid (And.intro hBu.out.1 (Nat.lt_of_lt_of_le hBu.out.2 hb.size))
      replace hB := hB.trans (hb.mono hB.size)
      clear hr hb hp
      refine hK.out _ _ (fun _ => HS0.out _ hB) (fun _ => ?_)
      clear hK K'
      (try simp only [Act.put, List.setIfInBounds_toArray, List.set_cons_zero, List.set_cons_succ])
      refine G_step (i := 8) (o := { dst := some 51, op := Op.call { callee := Callee.value (Operand.func 25), args := #[Operand.tmp 49, Operand.tmp 50], argTypes := #[68, 60] }, type := 28, pos := _, after := #[{ on := 6, ground := Ground.data }, { on := 7, ground := Ground.data }, { on := 5, ground := Ground.chain }], guard := none }) (by kernel_rfl) rfl (fun K' hK => ?_)
      go_simp
      refine (CL.out _ hB).mono ?_
      rintro e y15 ⟨rfl, hb, hr⟩
      dsimp only
      obtain ⟨p2, hp⟩ : ∃ q, q = y14.heap.size := ⟨_, rfl⟩
      have hLb : Hid (Lie u.heap.size (isB bx) (fun z => z.rowIs p2 57 n (lbF l (rnT nx G) n)) y15) := hid (by rw [hp]; exact Lie.mono ((ly_row hr (Nat.le_refl _)).old hBu.out.2) hB.size)
      rw [← hp]
      have hBx := hid ((hb.block _ (Array.getElem?_eq_some_iff.1 hBx.out).1).trans hBx.out)
      have hNx := hid (hNx.out.below hb)
      have hBu := hid (And.intro hBu.out.1 (Nat.lt_of_lt_of_le hBu.out.2 hb.size))
      replace hB := hB.trans (hb.mono hB.size)
      clear hr hb hp
      refine hK.out _ _ (fun _ => HS0.out _ hB) (fun _ => ?_)
      clear hK K'
      (try simp only [Act.put, List.setIfInBounds_toArray, List.set_cons_zero, List.set_cons_succ])
      refine G_step (i := 13) (o := { dst := some 56, op := Op.call { callee := Callee.value (Operand.func 26), args := #[Operand.tmp 52, Operand.tmp 53, Operand.tmp 55], argTypes := #[37, 68, 3] }, type := 27, pos := _, after := #[{ on := 9, ground := Ground.data }, { on := 10, ground := Ground.data }, { on := 12, ground := Ground.data }, { on := 8, ground := Ground.chain }], guard := none }) (by kernel_rfl) rfl (fun K' hK => ?_)
      go_simp
      refine (CF.out _ hB).mono ?_
      rintro e y16 ⟨p3, rfl, hr⟩
      dsimp only
      have hb := hr.out.1
      have hFr : Hid (Lie u.heap.size (isB bx) (fun z => Gc z (some ⟨p3, 0, none⟩) ll (fun q => (fsL (snL nx) (snS nx) (rnT nx G) n (q : Nat)).length) (fun q i => (fsL (snL nx) (snS nx) (rnT nx G) n (q : Nat)).getD i 0)) y16) := hid (by exact Lie.mono (hr.out.2.old hBu.out.2) hB.size)
      have hBx := hid ((hb.block _ (Array.getElem?_eq_some_iff.1 hBx.out).1).trans hBx.out)
      have hNx := hid (hNx.out.below hb)
      have hLb := hid (hLb.out.below hb)
      have hBu := hid (And.intro hBu.out.1 (Nat.lt_of_lt_of_le hBu.out.2 hb.size))
      replace hB := hB.trans (hb.mono hB.size)
      clear hr hb
      refine hK.out _ _ (fun _ => HS0.out _ hB) (fun _ => ?_)
      clear hK K'
      (try simp only [Act.put, List.setIfInBounds_toArray, List.set_cons_zero, List.set_cons_succ])
      refine G_take (i := 14) (oi := { dst := some 57, op := Op.build 30 #[(0, Operand.tmp 45), (1, Operand.tmp 48), (2, Operand.tmp 51), (3, Operand.tmp 56)], type := 30, pos := _, after := #[{ on := 2, ground := Ground.data }, { on := 5, ground := Ground.data }, { on := 8, ground := Ground.data }, { on := 13, ground := Ground.data }], guard := none }) (v := .agg #[.slice a0 s0 c0, .slice (some ⟨p1, 0, none⟩) n n, .slice (some ⟨p2, 0, none⟩) n n, .slice (some ⟨p3, 0, none⟩) ll ll]) rfl (by kernel_rfl) (by kernel_rfl) (by kernel_rfl) (by kernel_rfl) (fun _ _ _ h => h) (by rfl) (fun u hu => ?_) (HS0.out _ hB) ?_
      · (try dsimp only at hu); go_simp
      (try simp only [Act.put, List.setIfInBounds_toArray, List.set_cons_zero, List.set_cons_succ])
      obtain ⟨⟨d0, d1, d2, d3⟩, g0, g1, g2, g3⟩ := fou_cells hBx.out
      have hBl := (Array.getElem?_eq_some_iff.1 hBx.out).1
      refine G_step (i := 16) (o := { dst := none, op := Op.store 30 (Operand.tmp 15) (Operand.tmp 57), type := 0, pos := _, after := #[{ on := 15, ground := Ground.data }, { on := 14, ground := Ground.data }, { on := 13, ground := Ground.chain }, { on := 0, ground := Ground.phase }, { on := 1, ground := Ground.phase }, { on := 2, ground := Ground.phase }, { on := 3, ground := Ground.phase }, { on := 4, ground := Ground.phase }, { on := 5, ground := Ground.phase }, { on := 6, ground := Ground.phase }, { on := 7, ground := Ground.phase }, { on := 8, ground := Ground.phase }, { on := 9, ground := Ground.phase }, { on := 10, ground := Ground.phase }, { on := 11, ground := Ground.phase }, { on := 12, ground := Ground.phase }, { on := 13, ground := Ground.phase }, { on := 14, ground := Ground.phase }, { on := 15, ground := Ground.phase }], guard := none }) (by kernel_rfl) rfl (fun K' hK => ?_)
      go_simp
      obtain ⟨y17, hy⟩ : ∃ q, q = (((y16.setCell ⟨bx, 0, none⟩ (.slice a0 s0 c0)).setCell ⟨bx, 1, none⟩ (.slice (some ⟨p1, 0, none⟩) n n)).setCell ⟨bx, 2, none⟩ (.slice (some ⟨p2, 0, none⟩) n n)).setCell ⟨bx, 3, none⟩ (.slice (some ⟨p3, 0, none⟩) ll ll) := ⟨_, rfl⟩
      rw [← hy]
      have HFIN : Hid (Below u.heap.size u y17 ∧ y17.heap[bx]? = some (.cells #[.slice a0 s0 c0, .slice (some ⟨p1, 0, none⟩) n n, .slice (some ⟨p2, 0, none⟩) n n, .slice (some ⟨p3, 0, none⟩) ll ll] 30 (0, 0)) ∧ u.heap.size ≤ bx ∧ Lie u.heap.size noB (fun z => Gc z (some ⟨p1, 0, none⟩) n (fun i => (rnM nx G (rnT nx G i).2.2.toNat).length) (fun i j => (rnM nx G (rnT nx G i).2.2.toNat).getD j 0)) y17 ∧ Lie u.heap.size noB (fun z => z.rowIs p2 57 n (lbF l (rnT nx G) n)) y17 ∧ Lie u.heap.size noB (fun z => Gc z (some ⟨p3, 0, none⟩) ll (fun q => (fsL (snL nx) (snS nx) (rnT nx G) n (q : Nat)).length) (fun q i => (fsL (snL nx) (snS nx) (rnT nx G) n (q : Nat)).getD i 0)) y17) := hid (by
        have hz : ∀ g, g ≠ bx → y17.heap[g]? = y16.heap[g]? := fun g hg => by rw [hy]; exact fou_else hg _ _ _ _
        have hsz : y16.heap.size ≤ y17.heap.size := by rw [hy]; simp [World.setCell]
        exact ⟨by rw [hy]; exact fou_low hB hBu.out.1 _ _ _ _, by rw [hy]; exact fou_set hBx.out _ _ _ _, hBu.out.1, hNx.out.but hsz hz, hLb.out.but hsz hz, hFr.out.but hsz hz⟩)
      refine hK.out _ _ (fun hh => by cases hh) (fun _ => ?_)
      clear hK K' hy d0 d1 d2 d3 g0 g1 g2 g3 hBl hNx hLb hFr hBx hBu hB
      (try simp only [Act.put, List.setIfInBounds_toArray, List.set_cons_zero, List.set_cons_succ])
      refine G_done (by kernel_rfl) ?_ _
      go_wp2_with fail
      go_meet
      exact ⟨bx, p1, p2, p3, rfl, HFIN⟩
  obtain ⟨bx, p1, p2, p3, rfl, HCx⟩ := hcut
  go_wp2_with fail
  refine G_region (fun y : World => y.heap[bx]? = some (.cells #[.slice a0 s0 c0, .slice (some ⟨p1, 0, none⟩) n n, .slice (some ⟨p2, 0, none⟩) n n, .slice (some ⟨p3, 0, none⟩) ll ll] 30 (0, 0))) (fun i => i == 5) (by kernel_rfl) HCx.out.2.1 (fun hH => ?_)
  refine G_take (i := 0) (oi := { dst := some 58, op := Op.load 30 (Operand.tmp 15), type := 30, pos := _, after := #[], guard := none }) (v := .agg #[.slice a0 s0 c0, .slice (some ⟨p1, 0, none⟩) n n, .slice (some ⟨p2, 0, none⟩) n n, .slice (some ⟨p3, 0, none⟩) ll ll]) rfl (by kernel_rfl) (by kernel_rfl) (by kernel_rfl) (by kernel_rfl) (fun _ _ _ h => h) (by rfl) (fun u hu => ?_) hH ?_
  · have hu2 := fou_cells hu; obtain ⟨⟨d0, d1, d2, d3⟩, -⟩ := hu2; clear hu; go_simp
  (try simp only [Act.put, List.setIfInBounds_toArray, List.set_cons_zero, List.set_cons_succ])
  refine G_take (i := 1) (oi := { dst := some 59, op := Op.move (Operand.tmp 11), type := 68, pos := _, after := #[], guard := none }) (v := .slice da n dc) rfl (by kernel_rfl) (by kernel_rfl) (by kernel_rfl) (by kernel_rfl) (fun _ _ _ h => h) (by rfl) (fun u hu => ?_) hH ?_
  · (try dsimp only at hu); go_simp
  (try simp only [Act.put, List.setIfInBounds_toArray, List.set_cons_zero, List.set_cons_succ])
  refine G_step (i := 2) (o := { dst := some 60, op := Op.call { callee := Callee.value (Operand.func 27), args := #[Operand.tmp 59], argTypes := #[68] }, type := 31, pos := _, after := #[{ on := 1, ground := Ground.data }], guard := none }) (by kernel_rfl) rfl (fun K' hK => ?_)
  go_simp
  refine (CT.out _ (below_drew_iff.2 HCx.out.1)).mono ?_
  rintro e z ⟨rfl, hb, hr⟩
  dsimp only
  have HZ : Hid (Below u.heap.size u z ∧ z.heap[bx]? = some (.cells #[.slice a0 s0 c0, .slice (some ⟨p1, 0, none⟩) n n, .slice (some ⟨p2, 0, none⟩) n n, .slice (some ⟨p3, 0, none⟩) ll ll] 30 (0, 0))) := hid ⟨(below_drew_iff.2 HCx.out.1).trans (hb.mono HCx.out.1.size), (hb.block _ (Array.getElem?_eq_some_iff.1 HCx.out.2.1).1).trans HCx.out.2.1⟩
  have hbw : Below wc.heap.size wc z := (below_drew_iff.2 (Below.refl _ _)).trans hb
  have HW3 := hid (And.intro (HCx.out.2.2.2.1.below hbw) (And.intro (HCx.out.2.2.2.2.1.below hbw) (HCx.out.2.2.2.2.2.below hbw)))
  have HTo := hid (ly_row hr (Nat.le_refl _))
  obtain ⟨ob, hob⟩ : ∃ q, q = wc.heap.size := ⟨_, rfl⟩
  have hdr : wc.drew.heap.size = wc.heap.size := rfl
  rw [hdr, ← hob] at HTo
  have HOb := hid (And.intro hob HCx.out.1.size)
  rw [hdr, ← hob]
  refine hK.out _ _ (fun _ => HZ.out.2) (fun _ => ?_)
  clear hK K' hH hr hb hbw
  (try simp only [Act.put, List.setIfInBounds_toArray, List.set_cons_zero, List.set_cons_succ])
  have hR4 := HR4.out _ (HBU.out.1.trans (HZ.out.1.mono HBU.out.1.size))
  obtain ⟨⟨d0, d1, d2, d3⟩, g0, g1, g2, g3⟩ := fou_cells hR4
  have hRl := (Array.getElem?_eq_some_iff.1 hR4).1
  refine G_step (i := 3) (o := { dst := none, op := Op.store 30 (Operand.tmp 6) (Operand.tmp 58), type := 0, pos := _, after := #[{ on := 0, ground := Ground.data }, { on := 2, ground := Ground.chain }, { on := 0, ground := Ground.phase }, { on := 1, ground := Ground.textOnly Departure.lateStores }, { on := 2, ground := Ground.textOnly Departure.lateStoresUnsure }], guard := none }) (by kernel_rfl) rfl (fun K' hK => ?_)
  go_simp
  obtain ⟨z2, hz2⟩ : ∃ q, q = (((z.setCell ⟨w.heap.size + 1, 0, none⟩ (.slice a0 s0 c0)).setCell ⟨w.heap.size + 1, 1, none⟩ (.slice (some ⟨p1, 0, none⟩) n n)).setCell ⟨w.heap.size + 1, 2, none⟩ (.slice (some ⟨p2, 0, none⟩) n n)).setCell ⟨w.heap.size + 1, 3, none⟩ (.slice (some ⟨p3, 0, none⟩) ll ll) := ⟨_, rfl⟩
  rw [← hz2]
  have HFF : Hid (z2.heap[w.heap.size + 1]? = some (.cells #[.slice a0 s0 c0, .slice (some ⟨p1, 0, none⟩) n n, .slice (some ⟨p2, 0, none⟩) n n, .slice (some ⟨p3, 0, none⟩) ll ll] 30 (0, 0)) ∧ Below (w.heap.size + 1) z z2 ∧ (∀ g, g ≠ w.heap.size + 1 → z2.heap[g]? = z.heap[g]?) ∧ z.heap.size ≤ z2.heap.size) := hid (by rw [hz2]; exact ⟨fou_set hR4 _ _ _ _, fou_low (Below.refl _ _) (Nat.le_refl _) _ _ _ _, fun g hg => fou_else hg _ _ _ _, by simp [World.setCell]⟩)
  have HZ2 := hid ((HFF.out.2.2.1 bx (by have := HCx.out.2.2.1; have := HBU.out.2; have := HW3s.out; omega)).trans HZ.out.2)
  refine hK.out _ _ (fun _ => HZ2.out) (fun _ => ?_)
  clear hK K' hz2 d0 d1 d2 d3 g0 g1 g2 g3 hRl hR4
  (try simp only [Act.put, List.setIfInBounds_toArray, List.set_cons_zero, List.set_cons_succ])
  refine G_step (i := 4) (o := { dst := some 7, op := Op.assign (Operand.tmp 60), type := 31, pos := _, after := #[{ on := 2, ground := Ground.data }, { on := 3, ground := Ground.chain }, { on := 0, ground := Ground.phase }, { on := 1, ground := Ground.phase }, { on := 2, ground := Ground.phase }, { on := 3, ground := Ground.phase }], guard := none }) (by kernel_rfl) rfl (fun K' hK => ?_)
  go_simp
  refine hK.out _ _ (fun _ => HZ2.out) (fun _ => ?_)
  clear hK K'
  (try simp only [Act.put, List.setIfInBounds_toArray, List.set_cons_zero, List.set_cons_succ])
  refine G_step (i := 5) (o := { dst := some 8, op := Op.assign (Operand.const (Value.int IntKind.i64 0)), type := 32, pos := _, after := #[{ on := 4, ground := Ground.chain }, { on := 0, ground := Ground.phase }, { on := 1, ground := Ground.phase }, { on := 2, ground := Ground.phase }, { on := 3, ground := Ground.phase }, { on := 4, ground := Ground.phase }], guard := none }) (by kernel_rfl) rfl (fun K' hK => ?_)
  go_simp
  refine hK.out _ _ (fun _ => HZ2.out) (fun _ => ?_)
  clear hK K'
  (try simp only [Act.put, List.setIfInBounds_toArray, List.set_cons_zero, List.set_cons_succ])
  refine G_done (by kernel_rfl) ?_ _
--[end
  go_wp2
  (try simp only [Exit.inBlock, Exit.then])
  refine bodyPost_ret (results_cell_tmp3 rfl _ _ (w.heap.size + 1) 30 #[.slice a0 s0 c0, .slice (some ⟨p1, 0, none⟩) n n, .slice (some ⟨p2, 0, none⟩) n n, .slice (some ⟨p3, 0, none⟩) ll ll] (0, 0) _ rfl HFF.out.1 Try.underlying30 rfl (by kernel_rfl)) rfl ?_
  rw [← HGm.out]
  have hlo : w.heap.size + 1 < w3.heap.size := HW3s.out
  have hlu : w3.heap.size ≤ u.heap.size := HBU.out.2
  have hoth : ∀ g, u.heap.size ≤ g → z2.heap[g]? = z.heap[g]? := fun g hg => HFF.out.2.2.1 g (by omega)
  have hoth3 : ∀ g, w3.heap.size ≤ g → z2.heap[g]? = z.heap[g]? := fun g hg => HFF.out.2.2.1 g (by omega)
  have hsz2 := HFF.out.2.2.2
  have hN2 := (HW3.out.1.low hsz2 hoth).here
  have hL2 := (HW3.out.2.1.low hsz2 hoth).here
  have hF2 := (HW3.out.2.2.low hsz2 hoth).here
  have hR2 := (((HR0.out.below HZ.out.1).low hsz2 hoth3).here)
  have hT2 := (HTo.out.low hsz2 (fun g hg => HFF.out.2.2.1 g (by have := HOb.out.2; have := HOb.out.1; omega))).here
  have hr0 : rnE 0 nx G = 0 := by unfold rnE; rw [if_neg (by simp), if_neg (by rw [← HN.out]; exact h600)]
  have hBz : Below w.heap.size w z2 := ((HW.out.1.trans (HBU.out.1.mono HW.out.1.size)).trans (HZ.out.1.mono (HW.out.1.trans (HBU.out.1.mono HW.out.1.size)).size)).trans (HFF.out.2.1.mono (by omega))
  have hpt : (fun i => (fl (fun i => (rnT nx G i).1) ((0 : Nat) : Int) n).getD i 0) = fun i => (rnM nx G 0).getD i 0 := by unfold rnM; rw [HN.out]
  have hR3 : Row z2 a0 s0 (fun i => (rnM nx G 0).getD i 0) := by
    rw [← hpt]
    exact hR2
  obtain ⟨A, hA1, hA2, hA3⟩ := rn_put (c0 := c0) HN.out HLl.out (by omega) (by rw [HLl.out]; exact HE0.out.2) HS0s.out (HL20.out HE0.out.1) hR3 hN2 hL2 hF2
  refine ⟨hBz, Or.inr ⟨hr0, A, some ⟨ob, 0, none⟩, n, ?_, hid ⟨hA2, hA3, ?_⟩⟩⟩
  · rw [hA1, ← HN.out, HOb.out.1]
    rfl
  · rw [← HN.out]
    exact tl_prs hT2
--]end

end Go.Proofs.Ythpbgfodejoecaa
