/- A space that is all there, as a graph. Look. -/
import Derived.Test.YtjenkhphngiphaaSpFaceJ
import Derived.Test.YtjenkhphngiphaaSndStillJ
import Derived.Deep.CutRange
namespace Go.Proofs.Ytjenkhphngiphaa
open Go.RowKit Go.Maps

def snL (nx : List (List (Int × Int))) (r : Nat) : Nat := (nx.getD r []).length
def snS (nx : List (List (Int × Int))) (r i : Nat) : Int := ((nx.getD r []).getD i (0, 0)).1
def snZ (nx : List (List (Int × Int))) (r i : Nat) : Int := ((nx.getD r []).getD i (0, 0)).2
def mY (marks : List (List Int)) (i : Nat) : Nat → Int := fnl (marks.getD i [])

theorem nxs_egs {w : World} {base : Nat} {xa : Option Addr} {n xc : Nat} {nexts : List (List (Int × Int))} (hn : n = nexts.length) (h : Nxs w base (.slice xa n xc) nexts) : Egs w xa n (snL nexts) (snS nexts) (snZ nexts) := by
  subst hn
  obtain ⟨Vs, h1, h2⟩ := h
  rcases h1.2 with ⟨e, h0⟩ | ⟨g, cap, cur, e, _⟩
  · exact ⟨0, 0, fun hh => by omega, fun r hr => by omega⟩
  · simp only [Value.slice.injEq] at e
    obtain ⟨rfl, _, rfl⟩ := e
    refine ⟨g, 0, fun _ => rfl, fun i hi => ?_⟩
    obtain ⟨v, hv, ho⟩ := h2 i hi
    obtain ⟨a, c, rfl, _, hp⟩ := owns_prs ho rfl
    have := h1.cells (g := g) rfl i _ hv
    rw [add_none2] at this
    exact ⟨a, c, this, hp⟩

/-- What is wanted of a space. -/
structure Sok (N F : Nat) (l : List St3) (marks : List (List Int)) (nexts : List (List (Int × Int))) : Prop where
  len : nexts.length = marks.length
  pos : 0 < marks.length
  few : marks.length ≤ 200
  lfew : l.length ≤ 60
  F30 : F ≤ 30
  N20 : N ≤ 20
  small : ∀ r, r < marks.length → snL nexts r ≤ l.length
  stp : ∀ r, r < marks.length → ∀ i, i < snL nexts r → 0 ≤ snS nexts r i ∧ snS nexts r i < l.length
  tos : errG marks.length (snL nexts) (snZ nexts) = 0
  all : ∀ m, m < marks.length → Comes marks.length (snL nexts) (snZ nexts) 1 (fun _ => (0 : Int)) m
  one : ∀ i k, i < marks.length → k < marks.length → zB F (mY marks i) = true → zB F (mY marks k) = true → i = k
  nodes : ∀ s, s < l.length → 0 ≤ (l.getD s (0, 0, 0)).1 ∧ (l.getD s (0, 0, 0)).1 < N

theorem fl_in {X : Nat → Int} {x y : Int} : ∀ {n}, y ∈ fl X x n → 0 ≤ y ∧ y < n
  | 0, h => by cases h
  | n + 1, h => by
    by_cases e : X n = x
    · rw [fl_hit e] at h
      rcases List.mem_append.1 h with h | h
      · have := fl_in h
        omega
      · have := List.mem_singleton.1 h
        omega
    · rw [fl_miss e] at h
      have := fl_in h
      omega

theorem st_nodes {K A B : Nat → Int} {F N : Nat} : ∀ s, s < (stAll K A B F N).length → 0 ≤ ((stAll K A B F N).getD s (0, 0, 0)).1 ∧ ((stAll K A B F N).getD s (0, 0, 0)).1 < N := by
  intro s hs
  obtain ⟨k, hk, hm⟩ := mem_stAll.1 (getD3_mem hs)
  rw [stK_node hm]
  omega

theorem sok_of {N F : Nat} {M : Nat → ByteArray} {K A B : Nat → Int} {e0 tk st : Int} {X : List Int → Nat → Int} (he : ChkIs N F M K A B e0) (hX : XOk K A B F (stAll K A B F N) X) (h : xE (spE e0 (stAll K A B F N).length) tk st (xall tk st K A B F (stAll K A B F N) X) = 0) :
    Sok N F (stAll K A B F N) (xM (spE e0 (stAll K A B F N).length) tk st (xall tk st K A B F (stAll K A B F N) X)) (xN (spE e0 (stAll K A B F N).length) tk st (xall tk st K A B F (stAll K A B F N) X)) := by
  obtain ⟨hE, hb, T, h3, h4, h5, h6, h7⟩ := x_ok h
  obtain ⟨rfl, hfew⟩ := spE_zero hE
  have hl := steps_lt he
  obtain ⟨_, T', g4, g5, g7, g8, _, g9, g10, g11, g12, g13, g14⟩ := x_counts hX (fun _ => hl) h
  rw [h4] at g4
  rw [h5] at g5
  rw [h4, h5]
  rw [← g4] at g7 g8 g9 g10 g11 g13 g14
  rw [← g5] at g7 g12 g13 g14
  have hZ : ∀ r, r < T.marks.length → ∀ i, i < snL T.nexts r → 0 ≤ snZ T.nexts r i ∧ snZ T.nexts r i < T.marks.length := fun r hr i hi => by
    obtain ⟨k, h1, h2⟩ := g13 r (by omega) _ (getD2_mem hi)
    unfold snZ
    rw [h1]
    omega
  refine ⟨h7, g9, g8, hfew, (chk_zero he).1.2, (chk_zero he).1.1, fun r hr => g12 r (by omega), fun r hr i hi => ?_, errG_ok (by omega) (okG_yes (fun r hr => allIn_yes (fun i hi => hZ r hr i hi))), ?_, ?_, st_nodes⟩
  · have hr' : r < T.nexts.length := by omega
    obtain ⟨h8, _⟩ := h6.edges r (T.nexts.getD r []) (T.marks.getD r []) (by rw [List.getD_eq_getElem?_getD, List.getElem?_eq_getElem hr']; rfl) (by rw [List.getD_eq_getElem?_getD, List.getElem?_eq_getElem hr]; rfl)
    have hm : snS T.nexts r i ∈ (T.nexts.getD r []).map Prod.fst := List.mem_map.2 ⟨_, getD2_mem hi, rfl⟩
    rw [h8] at hm
    exact fl_in hm
  · have key : ∀ n m, m < n → m < T.marks.length → RchG (Ego T.marks.length (snL T.nexts) (snZ T.nexts)) 0 m := by
      intro n
      induction n with
      | zero => intro m hm; omega
      | succ n ih =>
        intro m hm hmG
        by_cases e : m = 0
        · subst e
          exact RchG.refl _
        · obtain ⟨q, e', h8, h9, h10⟩ := g14 m (by omega) hmG
          obtain ⟨i, hi, ei⟩ := List.mem_iff_getElem.1 h9
          refine (ih q (by omega) (by omega)).on ⟨by omega, i, hi, ?_⟩
          unfold snZ
          rw [List.getD_eq_getElem?_getD, List.getElem?_eq_getElem hi, ei]
          exact h10
    intro m hm
    have := comes_one.2 (key (m + 1) m (by omega) hm)
    exact this
  · intro i k hi hk h8 h9
    rcases Nat.lt_trichotomy i k with h10 | h10 | h10
    · have := marks_ne g10 (fun m hm => (g11 m hm).1) h10 hk
      rw [same_yes rfl (fun j hj => by rw [show fnl (T.marks.getD i []) j = 0 from zB_iff.1 h8 j hj, show fnl (T.marks.getD k []) j = 0 from zB_iff.1 h9 j hj])] at this
      cases this
    · exact h10
    · have := marks_ne g10 (fun m hm => (g11 m hm).1) h10 hi
      rw [same_yes rfl (fun j hj => by rw [show fnl (T.marks.getD i []) j = 0 from zB_iff.1 h8 j hj, show fnl (T.marks.getD k []) j = 0 from zB_iff.1 h9 j hj])] at this
      cases this

/-- What is found in a space. -/
structure FdIs (N F : Nat) (K : Nat → Int) (l : List St3) (marks : List (List Int)) (nexts : List (List (Int × Int))) (d : List Int) (r1 r2 : Int) (l1 l2 : List Int) : Prop where
  dead : DeadIs N marks.length (snL nexts) (snS nexts) (fun i => l.getD i (0, 0, 0)) K d
  still : FstIs (fun i => snL nexts i = 0 ∧ zB F (mY marks i) = false) marks.length r1
  never : FstIs (NvP marks.length F (snL nexts) (snZ nexts) (mY marks)) marks.length r2
  toStill : ToIs marks.length (snL nexts) (snS nexts) (snZ nexts) r1 l1
  toNever : ToIs marks.length (snL nexts) (snS nexts) (snZ nexts) r2 l2

theorem FdIs.uniq {N F : Nat} {K : Nat → Int} {l : List St3} {marks : List (List Int)} {nexts : List (List (Int × Int))} {d d' : List Int} {r1 r2 r1' r2' : Int} {l1 l2 l1' l2' : List Int} (h : FdIs N F K l marks nexts d r1 r2 l1 l2) (h' : FdIs N F K l marks nexts d' r1' r2' l1' l2') : d = d' ∧ r1 = r1' ∧ r2 = r2' ∧ l1 = l1' ∧ l2 = l2' := by
  have e1 := h.still.uniq h'.still
  have e2 := h.never.uniq h'.never
  subst e1
  subst e2
  exact ⟨h.dead.uniq h'.dead, rfl, rfl, h.toStill.uniq h'.toStill, h.toNever.uniq h'.toNever⟩

/-- What Look answers. -/
def LkIs (b0 : Nat) (E : Int) (N F : Nat) (K : Nat → Int) (l : List St3) (marks : List (List Int)) (nexts : List (List (Int × Int))) (e : Ending) (w : World) : Prop :=
  ∃ (a0 a3 a4 : Option Addr) (c0 c3 c4 : Nat) (d : List Int) (r1 r2 : Int) (l1 l2 : List Int),
    e = .returned (.tuple #[.agg #[.slice a0 d.length c0, .int .i64 r1, .int .i64 r2, .slice a3 l1.length c3, .slice a4 l2.length c4], .int .i64 E]) ∧
    w.ownsRow b0 3 1 (.slice a0 d.length c0) d.length (vals d) ∧ w.ownsRow b0 3 1 (.slice a3 l1.length c3) l1.length (vals l1) ∧ w.ownsRow b0 3 1 (.slice a4 l2.length c4) l2.length (vals l2) ∧
    ((E ≠ 0 ∧ d = [] ∧ r1 = 0 ∧ r2 = 0 ∧ l1 = [] ∧ l2 = []) ∨ (E = 0 ∧ FdIs N F K l marks nexts d r1 r2 l1 l2))

end Go.Proofs.Ytjenkhphngiphaa

namespace Go.Proofs.Ytjenkhphngiphaa
open Go.RowKit Go.Maps

/-- The five cells of a finding. -/
def Fin5 (w : World) (r : Nat) (a b c d e : Value) : Prop := w.heap[r]? = some (.cells #[a, b, c, d, e] 28 (0, 0))

theorem fin5_cells {w : World} {r : Nat} {a b c d e : Value} (h : Fin5 w r a b c d e) :
    (w.cell? ⟨r, 0, none⟩ = some a ∧ w.cell? ⟨r, 1, none⟩ = some b ∧ w.cell? ⟨r, 2, none⟩ = some c ∧ w.cell? ⟨r, 3, none⟩ = some d ∧ w.cell? ⟨r, 4, none⟩ = some e) ∧
      (w.frozen? ⟨r, 0, none⟩ = false ∧ w.frozen? ⟨r, 1, none⟩ = false ∧ w.frozen? ⟨r, 2, none⟩ = false ∧ w.frozen? ⟨r, 3, none⟩ = false ∧ w.frozen? ⟨r, 4, none⟩ = false) := by
  refine ⟨⟨cell_of_cells h rfl, cell_of_cells h rfl, cell_of_cells h rfl, cell_of_cells h rfl, cell_of_cells h rfl⟩, ?_⟩
  unfold Fin5 at h
  simp [World.frozen?, h]

theorem fin5_set {w : World} {r : Nat} {a b c d e a' b' c' d' e' : Value} (h : Fin5 w r a b c d e) :
    Fin5 (((((w.setCell ⟨r, 0, none⟩ a').setCell ⟨r, 1, none⟩ b').setCell ⟨r, 2, none⟩ c').setCell ⟨r, 3, none⟩ d').setCell ⟨r, 4, none⟩ e') r a' b' c' d' e' := by
  unfold Fin5 at *
  simp [World.setCell, Array.getElem?_modify, h]

theorem Fin5.below {w w' : World} {r : Nat} {a b c d e : Value} (h : Fin5 w r a b c d e) (hb : Below w.heap.size w w') : Fin5 w' r a b c d e := by
  unfold Fin5 at *
  rw [hb.block r (Array.getElem?_eq_some_iff.1 h).1]
  exact h

theorem fin5_new {w : World} {r : Nat} {a b c d e a' b' c' d' e' : Value} {o : Obj} (h : Fin5 w r a b c d e) :
    Fin5 ((((((w.setCell ⟨r, 0, none⟩ a').setCell ⟨r, 1, none⟩ b').setCell ⟨r, 2, none⟩ c').setCell ⟨r, 3, none⟩ d').setCell ⟨r, 4, none⟩ e').alloc o) r a' b' c' d' e' :=
  (fin5_set h).below (box_below _ _)

theorem fin5_kp {L : List (Option TypeId)} {w : World} {r : Nat} {a b c d e a' b' c' d' e' : Value} (h : Fin5 w r a b c d e) (ht : some 28 ∉ L) :
    Kp L w (((((w.setCell ⟨r, 0, none⟩ a').setCell ⟨r, 1, none⟩ b').setCell ⟨r, 2, none⟩ c').setCell ⟨r, 3, none⟩ d').setCell ⟨r, 4, none⟩ e') := fun j o ho htg => by
  by_cases e : j = r
  · subst e
    unfold Fin5 at h
    rw [h] at ho
    cases ho
    exact absurd htg ht
  · rw [Below.heap_setCell _ _ _ _ e, Below.heap_setCell _ _ _ _ e, Below.heap_setCell _ _ _ _ e, Below.heap_setCell _ _ _ _ e, Below.heap_setCell _ _ _ _ e]
    exact ho

theorem hsts_below {w w' : World} {a : Option Addr} {n : Nat} {T : Nat → St3} (h : Sts w a n T) (hb : Below w.heap.size w w') : Sts w' a n T := by
  obtain ⟨b, o, ha, hc⟩ := h
  exact ⟨b, o, ha, fun i hi => Sts.at hc hb hi⟩

theorem fst_ex (P : Nat → Prop) : ∀ n, ∃ r, FstIs P n r
  | 0 => ⟨-1, .no (fun i hi => by omega)⟩
  | n + 1 => by
    obtain ⟨r, hr⟩ := fst_ex P n
    rcases hr with ⟨h1, h2⟩ | ⟨k, h1, h2, h3, h4⟩
    · by_cases h : P n
      · exact ⟨n, .hit (by omega) h h2⟩
      · refine ⟨-1, .no (fun i hi => ?_)⟩
        by_cases e : i = n
        · subst e; exact h
        · exact h2 i (by omega)
    · exact ⟨r, Or.inr ⟨k, by omega, h2, h3, h4⟩⟩

/-- The finding that is handed back. -/
def Fnl (w0 wc : World) (r N F : Nat) (K : Nat → Int) (l : List St3) (marks : List (List Int)) (nexts : List (List (Int × Int))) : Prop :=
  Below w0.heap.size w0 wc ∧ ∃ (a0 a3 a4 : Option Addr) (c0 c3 c4 : Nat) (d : List Int) (r1 r2 : Int) (l1 l2 : List Int), Fin5 wc r (.slice a0 d.length c0) (.int .i64 r1) (.int .i64 r2) (.slice a3 l1.length c3) (.slice a4 l2.length c4) ∧
    (wc.ownsRow w0.heap.size 3 1 (.slice a0 d.length c0) d.length (vals d) ∧ wc.ownsRow w0.heap.size 3 1 (.slice a3 l1.length c3) l1.length (vals l1) ∧ wc.ownsRow w0.heap.size 3 1 (.slice a4 l2.length c4) l2.length (vals l2)) ∧ FdIs N F K l marks nexts d r1 r2 l1 l2

theorem fnl_of {w wc w7 : World} {r N F : Nat} {K : Nat → Int} {l : List St3} {marks : List (List Int)} {nexts : List (List (Int × Int))} {a0 a3 a4 : Option Addr} {c0 c3 c4 : Nat} {d l1 l2 : List Int} {r1 r2 : Int} {v0 v1 v2 v3 v4 : Value} (hb : Below w.heap.size w w7) (hr : w.heap.size ≤ r) (hwc : w.heap.size ≤ wc.heap.size) (h5 : Fin5 w7 r v0 v1 v2 v3 v4)
    (h1 : w7.ownsRow wc.heap.size 3 1 (.slice a0 d.length c0) d.length (vals d)) (h2 : w7.ownsRow wc.heap.size 3 1 (.slice a3 l1.length c3) l1.length (vals l1)) (h3 : w7.ownsRow wc.heap.size 3 1 (.slice a4 l2.length c4) l2.length (vals l2)) (hf : FdIs N F K l marks nexts d r1 r2 l1 l2) :
    Fnl w (((((w7.setCell ⟨r, 0, none⟩ (.slice a0 d.length c0)).setCell ⟨r, 1, none⟩ (.int .i64 r1)).setCell ⟨r, 2, none⟩ (.int .i64 r2)).setCell ⟨r, 3, none⟩ (.slice a3 l1.length c3)).setCell ⟨r, 4, none⟩ (.slice a4 l2.length c4)) r N F K l marks nexts :=
  ⟨five_below hb hr, a0, a3, a4, c0, c3, c4, d, r1, r2, l1, l2, fin5_set h5, ⟨row_kp (L := [some 3]) (owns_base h1 hwc) (fin5_kp h5 (by decide)) (by decide), row_kp (L := [some 3]) (owns_base h2 hwc) (fin5_kp h5 (by decide)) (by decide), row_kp (L := [some 3]) (owns_base h3 hwc) (fin5_kp h5 (by decide)) (by decide)⟩, hf⟩

set_option maxHeartbeats 4000000 in
theorem look_any {na fa : Option Addr} {N nc F fc : Nat} {M : Nat → ByteArray} {K A B : Nat → Int} {e0 : Int} {w : World} (hp : Prc w na N nc fa F M K A B) (he : ChkIs N F M K A B e0) (tk st : Int) {X : List Int → Nat → Int} (hX : XOk K A B F (stAll K A B F N) X) :
    Calls Try.prog 6 #[.agg #[.slice na N nc, .slice fa F fc], .int .i64 tk, .int .i64 st] w fun e w' => Below w.heap.size w w' ∧
      LkIs w.heap.size (xE (spE e0 (stAll K A B F N).length) tk st (xall tk st K A B F (stAll K A B F N) X)) N F K (stAll K A B F N) (xM (spE e0 (stAll K A B F N).length) tk st (xall tk st K A B F (stAll K A B F N) X)) (xN (spE e0 (stAll K A B F N).length) tk st (xall tk st K A B F (stAll K A B F N) X)) e w' := by
  obtain ⟨W, eW⟩ : ∃ x, x = (w.alloc (.cells #[.slice na N nc, .slice fa F fc] 25)).alloc (.cells #[.slice none 0 0, .int .i64 0, .int .i64 0, .slice none 0 0, .slice none 0 0] 28) := ⟨_, rfl⟩
  have HW : Hid (Below w.heap.size w W ∧ W.heap.size = w.heap.size + 1 + 1 ∧ Fin5 W (w.heap.size + 1) (.slice none 0 0) (.int .i64 0) (.int .i64 0) (.slice none 0 0) (.slice none 0 0)) := by
    subst eW
    have e1 : (w.alloc (.cells #[.slice na N nc, .slice fa F fc] 25)).heap.size = w.heap.size + 1 := by simp
    refine ⟨(box_below _ _).trans ((box_below _ _).mono (by simp)), by simp, ?_⟩
    unfold Fin5
    rw [← e1]
    exact Go.Deep.blk_alloc_new _ _
  have HEW : Hid ((w.alloc (.cells #[.slice na N nc, .slice fa F fc] 25)).alloc (.cells #[.slice none 0 0, .int .i64 0, .int .i64 0, .slice none 0 0, .slice none 0 0] 28) = W) := eW.symm
  have HBp : Hid (∀ u, Below W.heap.size W u → u.cell? ⟨w.heap.size, 0, none⟩ = some (.slice na N nc) ∧ u.cell? ⟨w.heap.size, 1, none⟩ = some (.slice fa F fc)) := fun u hu => by
    subst eW
    exact ⟨keep_alloc hu (cell_of_alloc rfl), keep_alloc hu (cell_of_alloc rfl)⟩
  have HPW : Hid (Prc W na N nc fa F M K A B) := hp.below HW.out.1
  have C1 : Hid (Calls Try.prog 11 #[.agg #[.slice na N nc, .slice fa F fc], .int .i64 tk, .int .i64 st] W fun e w' => Below W.heap.size W w' ∧ EpIs W.heap.size (spE e0 (stAll K A B F N).length) tk st F (xall tk st K A B F (stAll K A B F N) X) e w') := exploreF_any HPW.out he tk st hX
  have HSok : Hid (xE (spE e0 (stAll K A B F N).length) tk st (xall tk st K A B F (stAll K A B F N) X) = 0 → Sok N F (stAll K A B F N) (xM (spE e0 (stAll K A B F N).length) tk st (xall tk st K A B F (stAll K A B F N) X)) (xN (spE e0 (stAll K A B F N).length) tk st (xall tk st K A B F (stAll K A B F N) X)) ∧ e0 = 0) := fun h => ⟨sok_of he hX h, (spE_zero (x_ok h).1).1⟩
  have HE : Hid (ChkIs N F M K A B e0) := he
  clear eW hp he hX
  go_enter Try.func6, Try.ntmps6
  go_wp2_with fail
  rw [HEW.out]
  refine C1.out.mono ?_
  rintro e w1 ⟨hb1, ma, mc, xa, xc, base, _, rfl, hs1⟩
  generalize hM1 : xM (spE e0 (stAll K A B F N).length) tk st (xall tk st K A B F (stAll K A B F N) X) = M1 at *
  generalize hN1 : xN (spE e0 (stAll K A B F N).length) tk st (xall tk st K A B F (stAll K A B F N) X) = N1 at *
  generalize hy1 : xE (spE e0 (stAll K A B F N).length) tk st (xall tk st K A B F (stAll K A B F N) X) = y1 at *
  have HM1 : Hid (xM (spE e0 (stAll K A B F N).length) tk st (xall tk st K A B F (stAll K A B F N) X) = M1 ∧ xN (spE e0 (stAll K A B F N).length) tk st (xall tk st K A B F (stAll K A B F N) X) = N1 ∧ xE (spE e0 (stAll K A B F N).length) tk st (xall tk st K A B F (stAll K A B F N) X) = y1) := ⟨hM1, hN1, hy1⟩
  clear hM1 hN1 hy1 C1
  have HB1 : Hid (Below W.heap.size W w1) := hb1
  have HF1 : Hid (Fin5 w1 (w.heap.size + 1) (.slice none 0 0) (.int .i64 0) (.int .i64 0) (.slice none 0 0) (.slice none 0 0)) := HW.out.2.2.below hb1
  have hsz1 : w.heap.size + 1 < w1.heap.size := by have := hb1.size; have := HW.out.2.1; omega
  have hsz0 : w.heap.size < w1.heap.size := by omega
  by_cases hz : y1 = 0
  · subst hz
    obtain ⟨hsok, he0⟩ := HSok.out rfl
    have HS : Hid (Sok N F (stAll K A B F N) M1 N1) := hsok
    have hlen := hsok.len
    have hG0 := hsok.pos
    have hG1 := hsok.few
    rw [hlen] at hs1 ⊢
    obtain ⟨G, hG⟩ : ∃ G, G = M1.length := ⟨_, rfl⟩
    have HG : Hid (G = M1.length) := hG
    rw [← hG] at hs1 hG0 hG1 ⊢
    obtain ⟨W1, eW1⟩ : ∃ x, x = w1.alloc (.cells #[.slice ma G mc, .slice xa G xc] 35) := ⟨_, rfl⟩
    have HEW1 : Hid (w1.alloc (.cells #[.slice ma G mc, .slice xa G xc] 35) = W1) := eW1.symm
    have HB1' : Hid (Below W.heap.size W W1) := by subst eW1; exact HB1.out.alloc HB1.out.size _
    have HGr : Hid (Gr W1 ma G (fun _ => F) (mY M1) ∧ Egs W1 xa G (snL N1) (snS N1) (snZ N1)) := by
      have hs2 : Spc W1 base (.slice ma G mc) (.slice xa G xc) F M1 N1 := by subst eW1; exact hs1.below (box_below _ _)
      exact ⟨mks_gr hG hs2.1, nxs_egs (hG.trans hlen.symm) hs2.2⟩
    have HBs : Hid (∀ u, Below W1.heap.size W1 u → u.cell? ⟨w1.heap.size, 0, none⟩ = some (.slice ma G mc) ∧ u.cell? ⟨w1.heap.size, 1, none⟩ = some (.slice xa G xc)) := fun u hu => by
      subst eW1
      exact ⟨new_alloc hu rfl, new_alloc hu rfl⟩
    obtain ⟨hp0, hp1⟩ := HBp.out w1 HB1.out
    have C2 : Hid (Calls Try.prog 20 #[.agg #[.slice na N nc, .slice fa F fc]] W1 fun e w' => Below W1.heap.size W1 w' ∧ ∃ (la : Option Addr) (lc : Nat), e = .returned (.tuple #[.slice la (stAll K A B F N).length lc, .int .i64 0]) ∧ Sts w' la (stAll K A B F N).length (fun i => (stAll K A B F N).getD i (0, 0, 0))) := by
      refine (of_any na fa N nc F fc M K A B e0 W1 (HPW.out.below HB1'.out) HE.out).mono fun e w' hh => ⟨hh.1, ?_⟩
      rcases hh.2 with ⟨h1, _⟩ | ⟨_, h1, _⟩ | ⟨_, _, la, lc, h1, _, h2⟩
      · exact absurd he0 h1
      · have := hsok.lfew
        omega
      · exact ⟨la, lc, h1, h2⟩
    clear hsok hlen hs1 hG eW1 hb1 he0 HSok
    generalize hLL : (stAll K A B F N).length = ln at *
    have HLL : Hid ((stAll K A B F N).length = ln) := hLL
    clear hLL
    go_wp2_with fail
    rw [HEW1.out]
    refine C2.out.mono ?_
    rintro e w2 ⟨hb2, la, lc, rfl, hsts⟩
    have HB2 : Hid (Below W1.heap.size W1 w2) := hb2
    have HSts : Hid (Sts w2 la ln (fun i => (stAll K A B F N).getD i (0, 0, 0))) := hsts
    obtain ⟨q0, q1⟩ := HBs.out w2 hb2
    have C3 : Hid (Calls Try.prog 21 #[.agg #[.slice ma G mc, .slice xa G xc]] w2 fun e w' => (∃ b, e = .returned (.slice (some ⟨b, 0, none⟩) G G) ∧ w2.heap.size ≤ b ∧ Gr w' (some ⟨b, 0, none⟩) G (snL N1) (snZ N1)) ∧ Below w2.heap.size w2 w') := by
      refine graph_any (by omega) (fun r hr => ?_) (HGr.out.2.below hb2)
      have h1 := HS.out.small r (by rw [← HG.out]; exact hr)
      have h2 := HS.out.lfew
      omega
    clear hb2 hsts C2
    go_wp2_with fail
    refine C3.out.mono ?_
    rintro e w3 ⟨⟨gb, rfl, _, hgr⟩, hb3⟩
    have HB3 : Hid (Below W1.heap.size W1 w3 ∧ Below w2.heap.size w2 w3) := ⟨HB2.out.trans (hb3.mono HB2.out.size), hb3⟩
    have HG3 : Hid (Gr w3 (some ⟨gb, 0, none⟩) G (snL N1) (snZ N1)) := hgr
    obtain ⟨r1, hr1⟩ := fst_ex (fun i => snL N1 i = 0 ∧ zB F (mY M1 i) = false) G
    obtain ⟨r2, hr2⟩ := fst_ex (NvP G F (snL N1) (snZ N1) (mY M1)) G
    have HR : Hid (FstIs (fun i => snL N1 i = 0 ∧ zB F (mY M1 i) = false) G r1 ∧ FstIs (NvP G F (snL N1) (snZ N1) (mY M1)) G r2) := ⟨hr1, hr2⟩
    have HLe : Hid (∀ r, r < G → snL N1 r ≤ 1000) := fun r hr => by
      have h1 := HS.out.small r (by rw [← HG.out]; exact hr)
      have h2 := HS.out.lfew
      omega
    have HErr : Hid (errG G (snL N1) (snZ N1) = 0) := by show _ = _; rw [HG.out]; exact HS.out.tos
    have HF30 : Hid (F ≤ 30) := HS.out.F30
    have C4 : Hid (∀ u, Below w3.heap.size w3 u → Calls Try.prog 22 #[.agg #[.slice ma G mc, .slice xa G xc]] u fun e w' => e = .returned (.int .i64 r1) ∧ Below u.heap.size u w') := fun u hu => by
      have hbu : Below W1.heap.size W1 u := HB3.out.1.trans (hu.mono HB3.out.1.size)
      refine (firstStill_any (by have := HF30.out; omega) (by omega) (HGr.out.1.below hbu) (HGr.out.2.below hbu) HLe.out).mono ?_
      rintro e w' ⟨⟨r, rfl, hr⟩, hb⟩
      exact ⟨by rw [hr.uniq HR.out.1], hb⟩
    have C5 : Hid (∀ u, Below w3.heap.size w3 u → Calls Try.prog 23 #[.agg #[.slice ma G mc, .slice xa G xc], .slice (some ⟨gb, 0, none⟩) G G] u fun e w' => e = .returned (.int .i64 r2) ∧ Below u.heap.size u w') := fun u hu => by
      have hbu : Below W1.heap.size W1 u := HB3.out.1.trans (hu.mono HB3.out.1.size)
      refine (firstNever_any (by have := HF30.out; omega) (by omega) (by omega) (HGr.out.1.below hbu) (HG3.out.below hu) HLe.out HErr.out (fun i k hi hk => HS.out.one i k (by rw [← HG.out]; exact hi) (by rw [← HG.out]; exact hk))).mono ?_
      rintro e w' ⟨⟨r, rfl, hr⟩, hb⟩
      exact ⟨by rw [hr.uniq HR.out.2], hb⟩
    clear q0 q1
    obtain ⟨q0, q1⟩ := HBs.out w3 HB3.out.1
    clear hb3 hgr C3 hr1 hr2
    go_upto_region 6 with fail
    go_cut [13, 14] from 33 to 37 (fun a b wc => a = .int .i64 r1 ∧ b = .int .i64 r2 ∧ Hid (Below w3.heap.size w3 wc))
    case first =>
      go_region_held3 (fun z => z.cell? ⟨w1.heap.size, 0, none⟩ = some (.slice ma G mc) ∧ z.cell? ⟨w1.heap.size, 1, none⟩ = some (.slice xa G xc))
        (first | (with_reducible exact ⟨y0, y1⟩) | (with_reducible exact ⟨x0, x1⟩) | (with_reducible exact ⟨(World.cell?_drew _ _).trans q0, (World.cell?_drew _ _).trans q1⟩) | go_keep)
        (first
          | (go_at_call 22; refine (C4.out _ (below_drew_iff.2 (Below.refl _ _))).mono ?_; rintro e w5 ⟨rfl, hb5⟩; have hw5 : Below w3.heap.size w3 w5 := (below_drew_iff.2 (Below.refl _ _)).trans hb5; obtain ⟨x0, x1⟩ := HBs.out w5 (HB3.out.1.trans (hw5.mono HB3.out.1.size)); dsimp only)
          | (go_at_call 23; refine (C5.out _ hw5).mono ?_; rintro e w6 ⟨rfl, hb6⟩; have hw6 : Below w3.heap.size w3 w6 := hw5.trans (hb6.mono hw5.size); obtain ⟨y0, y1⟩ := HBs.out w6 (HB3.out.1.trans (hw6.mono HB3.out.1.size)); dsimp only)
          | fail)
      all_goals go_wp2_with fail
      all_goals go_meet
      all_goals exact ⟨rfl, rfl, hid hw6⟩
    obtain ⟨rfl, rfl, HC⟩ := hcut
    obtain ⟨wk, ek⟩ : ∃ x, x = wc := ⟨_, rfl⟩
    subst ek
    have HBc : Hid (Below W1.heap.size W1 wk ∧ Below W.heap.size W wk) := ⟨HB3.out.1.trans (HC.out.mono HB3.out.1.size), HB1'.out.trans ((HB3.out.1.trans (HC.out.mono HB3.out.1.size)).mono HB1'.out.size)⟩
    clear q0 q1 C4 C5 hp0 hp1
    obtain ⟨q0, q1⟩ := HBs.out wk HBc.out.1
    obtain ⟨p0, p1⟩ := HBp.out wk HBc.out.2
    have HLn : Hid (ln ≤ 60) := by show _ ≤ _; rw [← HLL.out]; exact HS.out.lfew
    have C6 : Hid (∀ u, Below wk.heap.size wk u → Calls Try.prog 24 #[.agg #[.slice na N nc, .slice fa F fc], .slice la ln lc, .agg #[.slice ma G mc, .slice xa G xc]] u fun e w' => (∃ (a : Option Addr) (c : Nat) (d : List Int), e = .returned (.slice a d.length c) ∧ DeadIs N G (snL N1) (snS N1) (fun i => (stAll K A B F N).getD i (0, 0, 0)) K d ∧ w'.ownsRow u.heap.size 3 1 (.slice a d.length c) d.length (vals d)) ∧ Below u.heap.size u w') := fun u hu => by
      have hbu : Below W1.heap.size W1 u := HBc.out.1.trans (hu.mono HBc.out.1.size)
      have hbu2 : Below w2.heap.size w2 u := (HB3.out.2.trans (HC.out.mono HB3.out.2.size)).trans (hu.mono (HB3.out.2.trans (HC.out.mono HB3.out.2.size)).size)
      refine dead_any (by have := HS.out.N20; omega) (by omega) (by have := HLn.out; omega) HLe.out ((HPW.out.below HB1'.out).nds.below hbu) (HGr.out.2.below hbu) (hsts_below HSts.out hbu2) (fun r hr i hi => ?_) (fun s hs => HS.out.nodes s (by rw [HLL.out]; exact hs))
      have := HS.out.stp r (by rw [← HG.out]; exact hr) i hi
      rw [HLL.out] at this
      exact this
    have C7 : Hid (∀ mk, (mk = -1 ∨ (0 ≤ mk ∧ mk < (G : Int))) → ∀ u, Below wk.heap.size wk u → Calls Try.prog 25 #[.agg #[.slice ma G mc, .slice xa G xc], .slice (some ⟨gb, 0, none⟩) G G, .int .i64 mk] u fun e w' => (∃ (a : Option Addr) (c : Nat) (l : List Int), e = .returned (.slice a l.length c) ∧ ToIs G (snL N1) (snS N1) (snZ N1) mk l ∧ w'.ownsRow u.heap.size 3 1 (.slice a l.length c) l.length (vals l)) ∧ Below u.heap.size u w') := fun mk hmk u hu => by
      have hbu : Below W1.heap.size W1 u := HBc.out.1.trans (hu.mono HBc.out.1.size)
      refine stepsTo_any mk hmk (by omega) (HGr.out.2.below hbu) (HG3.out.below (HC.out.trans (hu.mono HC.out.size))) HLe.out HErr.out (fun m hm => ?_)
      have := HS.out.all m (by rw [← HG.out]; exact hm)
      rw [← HG.out] at this
      exact this
    have C7a : Hid (∀ u, Below wk.heap.size wk u → Calls Try.prog 25 #[.agg #[.slice ma G mc, .slice xa G xc], .slice (some ⟨gb, 0, none⟩) G G, .int .i64 r1] u fun e w' => (∃ (a : Option Addr) (c : Nat) (l : List Int), e = .returned (.slice a l.length c) ∧ ToIs G (snL N1) (snS N1) (snZ N1) r1 l ∧ w'.ownsRow u.heap.size 3 1 (.slice a l.length c) l.length (vals l)) ∧ Below u.heap.size u w') := C7.out r1 HR.out.1.range
    have C7b : Hid (∀ u, Below wk.heap.size wk u → Calls Try.prog 25 #[.agg #[.slice ma G mc, .slice xa G xc], .slice (some ⟨gb, 0, none⟩) G G, .int .i64 r2] u fun e w' => (∃ (a : Option Addr) (c : Nat) (l : List Int), e = .returned (.slice a l.length c) ∧ ToIs G (snL N1) (snS N1) (snZ N1) r2 l ∧ w'.ownsRow u.heap.size 3 1 (.slice a l.length c) l.length (vals l)) ∧ Below u.heap.size u w') := C7.out r2 HR.out.2.range
    have HFc : Hid (∀ u, Below wk.heap.size wk u → Fin5 u (w.heap.size + 1) (.slice none 0 0) (.int .i64 0) (.int .i64 0) (.slice none 0 0) (.slice none 0 0)) := fun u hu => HW.out.2.2.below (HBc.out.2.trans (hu.mono HBc.out.2.size))
    have HBw : Hid (∀ u, Below wk.heap.size wk u → Below w.heap.size w u) := fun u hu => HW.out.1.trans ((HBc.out.2.trans (hu.mono HBc.out.2.size)).mono HW.out.1.size)
    have hwc : w.heap.size ≤ wk.heap.size := Nat.le_trans HW.out.1.size HBc.out.2.size
    have hne0 : w.heap.size ≠ w.heap.size + 1 := by omega
    have hne1 : w1.heap.size ≠ w.heap.size + 1 := by omega
    have HFd : Hid (∀ d l1 l2, DeadIs N G (snL N1) (snS N1) (fun i => (stAll K A B F N).getD i (0, 0, 0)) K d → ToIs G (snL N1) (snS N1) (snZ N1) r1 l1 → ToIs G (snL N1) (snS N1) (snZ N1) r2 l2 → FdIs N F K (stAll K A B F N) M1 N1 d r1 r2 l1 l2) := fun d l1 l2 h1 h2 h3 => by
      have e := HG.out
      have hr := HR.out
      rw [e] at h1 h2 h3 hr
      exact ⟨h1, hr.1, hr.2, h2, h3⟩
    clear C7
    go_upto_region 7 with fail
    go_cut [7] from 38 to 52 (fun v wk' => v = .int .i64 0 ∧ Hid (Fnl w wk' (w.heap.size + 1) N F K (stAll K A B F N) M1 N1))
    case first =>
      go_region_held3 (fun z => z.cell? ⟨w1.heap.size, 0, none⟩ = some (.slice ma G mc) ∧ z.cell? ⟨w1.heap.size, 1, none⟩ = some (.slice xa G xc) ∧ z.cell? ⟨w.heap.size, 0, none⟩ = some (.slice na N nc) ∧ z.cell? ⟨w.heap.size, 1, none⟩ = some (.slice fa F fc))
        (first | (with_reducible exact ⟨z0, z1, z2, z3⟩) | (with_reducible exact ⟨y0, y1, y2, y3⟩) | (with_reducible exact ⟨x0, x1, x2, x3⟩) | (with_reducible exact ⟨(set_other5 ⟨w1.heap.size, 0, none⟩ hne1).trans z0, (set_other5 ⟨w1.heap.size, 1, none⟩ hne1).trans z1, (set_other5 ⟨w.heap.size, 0, none⟩ hne0).trans z2, (set_other5 ⟨w.heap.size, 1, none⟩ hne0).trans z3⟩) | (with_reducible exact ⟨(World.cell?_drew _ _).trans q0, (World.cell?_drew _ _).trans q1, (World.cell?_drew _ _).trans p0, (World.cell?_drew _ _).trans p1⟩) | go_keep)
        (first
          | (go_at_call 24; refine (C6.out _ (below_drew_iff.2 (Below.refl _ _))).mono ?_; rintro e w5 ⟨⟨a0, c0, d, rfl, hd, ho5⟩, hb5⟩; have hw5 : Below wk.heap.size wk w5 := (below_drew_iff.2 (Below.refl _ _)).trans hb5; obtain ⟨x0, x1⟩ := HBs.out w5 (HBc.out.1.trans (hw5.mono HBc.out.1.size)); obtain ⟨x2, x3⟩ := HBp.out w5 (HBc.out.2.trans (hw5.mono HBc.out.2.size)); dsimp only)
          | (go_at_call_of 25 (Value.int .i64 r1); refine (C7a.out _ hw5).mono ?_; rintro e w6 ⟨⟨a3, c3, l1, rfl, ht1, ho6⟩, hb6⟩; have hw6 : Below wk.heap.size wk w6 := hw5.trans (hb6.mono hw5.size); obtain ⟨y0, y1⟩ := HBs.out w6 (HBc.out.1.trans (hw6.mono HBc.out.1.size)); obtain ⟨y2, y3⟩ := HBp.out w6 (HBc.out.2.trans (hw6.mono HBc.out.2.size)); dsimp only)
          | (go_at_call_of 25 (Value.int .i64 r2); refine (C7b.out _ hw6).mono ?_; rintro e w7 ⟨⟨a4, c4, l2, rfl, ht2, ho7⟩, hb7⟩; have hw7 : Below wk.heap.size wk w7 := hw6.trans (hb7.mono hw6.size); obtain ⟨z0, z1⟩ := HBs.out w7 (HBc.out.1.trans (hw7.mono HBc.out.1.size)); obtain ⟨z2, z3⟩ := HBp.out w7 (HBc.out.2.trans (hw7.mono HBc.out.2.size)); have HF7 : Hid (Fin5 w7 (w.heap.size + 1) (.slice none 0 0) (.int .i64 0) (.int .i64 0) (.slice none 0 0) (.slice none 0 0)) := HFc.out w7 hw7; obtain ⟨⟨k0, k1, k2, k3, k4⟩, ⟨f0, f1, f2, f3, f4⟩⟩ := fin5_cells HF7.out; dsimp only)
          | fail)
      all_goals go_wp2_with fail
      all_goals go_meet
      all_goals exact ⟨rfl, hid (fnl_of (HBw.out w7 hw7) (by omega) hwc HF7.out (below_ownsRow (below_ownsRow ho5 hb6) hb7) (below_ownsRow (owns_base ho6 hw5.size) hb7) (owns_base ho7 hw6.size) (HFd.out d l1 l2 hd ht1 ht2))⟩
    obtain ⟨rfl, HC2⟩ := hcut
    obtain ⟨hbf, a0, a3, a4, c0, c3, c4, d, s1, s2, l1, l2, h5, hrows, hfd⟩ := HC2.out
    have HRow : Hid (Fin5 wc (w.heap.size + 1) (.slice a0 d.length c0) (.int .i64 s1) (.int .i64 s2) (.slice a3 l1.length c3) (.slice a4 l2.length c4) ∧ Below w.heap.size w wc ∧ LkIs w.heap.size 0 N F K (stAll K A B F N) M1 N1 (.returned (.tuple #[.agg #[.slice a0 d.length c0, .int .i64 s1, .int .i64 s2, .slice a3 l1.length c3, .slice a4 l2.length c4], .int .i64 0])) wc) := ⟨h5, hbf, a0, a3, a4, c0, c3, c4, d, s1, s2, l1, l2, rfl, hrows.1, hrows.2.1, hrows.2.2, Or.inr ⟨rfl, hfd⟩⟩
    clear hbf h5 hrows hfd
    go_wp2
    (try simp only [Exit.inBlock, Exit.then])
    refine bodyPost_ret (results_cell_tmp1 rfl _ _ (w.heap.size + 1) 28 #[.slice a0 d.length c0, .int .i64 s1, .int .i64 s2, .slice a3 l1.length c3, .slice a4 l2.length c4] (0, 0) _ rfl HRow.out.1 Try.underlying28 rfl (by kernel_rfl)) rfl ?_
    rw [HLL.out, HM1.out.1, HM1.out.2.1, HM1.out.2.2]
    exact HRow.out.2
  · have HSk : Hid (y1 ≠ 0) := hz
    have hz' : (y1 != 0) = true := by rw [bne_iff_ne]; exact hz
    obtain ⟨⟨k0, k1, k2, k3, k4⟩, ⟨f0, f1, f2, f3, f4⟩⟩ := fin5_cells HF1.out
    clear hz hs1 hb1 HSok
    generalize M1.length = ml at *
    generalize N1.length = xl at *
    go_wp2
    (try simp only [Exit.inBlock, Exit.then])
    refine bodyPost_ret (results_cell_tmp1 rfl _ _ (w.heap.size + 1) 28 #[.slice none 0 0, .int .i64 0, .int .i64 0, .slice none 0 0, .slice none 0 0] (0, 0) _ rfl (fin5_new HF1.out) Try.underlying28 rfl (by kernel_rfl)) rfl ?_
    rw [HM1.out.1, HM1.out.2.1, HM1.out.2.2]
    have hb : Below w.heap.size w w1 := HW.out.1.trans (HB1.out.mono HW.out.1.size)
    refine ⟨(five_below hb (by omega)).alloc (five_below hb (by omega)).size _, none, none, none, 0, 0, 0, [], 0, 0, [], [], rfl, World.ownsRow_nil _ _ _ _, World.ownsRow_nil _ _ _ _, World.ownsRow_nil _ _ _ _, Or.inl ⟨HSk.out, rfl, rfl, rfl, rfl, rfl⟩⟩

end Go.Proofs.Ytjenkhphngiphaa
