/- What the search holds in memory. -/
import Derived.Test.YthpbgfodejoecaaSpKey
namespace Go.Proofs.Ythpbgfodejoecaa
open Go.RowKit Go.Maps

/-! ### Blocks by their tags -/
def otag : Obj → Option TypeId
  | .cells _ t _ => some t
  | _ => none

/-- All blocks whose tags are in L stay. -/
def Kp (L : List (Option TypeId)) (w w' : World) : Prop := ∀ (i : Nat) (o : Obj), w.heap[i]? = some o → otag o ∈ L → w'.heap[i]? = some o

theorem Kp.refl (L : List (Option TypeId)) (w : World) : Kp L w w := fun _ _ h _ => h

theorem Kp.trans {L : List (Option TypeId)} {a b c : World} (h : Kp L a b) (k : Kp L b c) : Kp L a c := fun i o ho ht => k i o (h i o ho ht) ht

theorem Kp.sub {L M : List (Option TypeId)} {a b : World} (h : Kp L a b) (hs : ∀ t, t ∈ M → t ∈ L) : Kp M a b := fun i o ho ht => h i o ho (hs _ ht)

theorem kp_below {L : List (Option TypeId)} {w w' : World} (h : Below w.heap.size w w') : Kp L w w' := fun i o ho _ => by
  rw [h.block i (Array.getElem?_eq_some_iff.1 ho).1]
  exact ho

theorem kp_set {L : List (Option TypeId)} {w : World} {r i : Nat} {c : Array Value} {t : TypeId} {fr : Nat × Nat} (h : w.heap[r]? = some (.cells c t fr)) (ht : some t ∉ L) (u : Value) : Kp L w (w.setCell ⟨r, i, none⟩ u) := fun j o ho htg => by
  by_cases e : j = r
  · subst e
    rw [h] at ho
    cases ho
    exact absurd htg ht
  · exact (Below.heap_setCell w ⟨r, i, none⟩ u j e).trans ho

theorem kp_row {L : List (Option TypeId)} {w w' : World} {base s n : Nat} {t : TypeId} {v : Value} {xs : List Value} (hown : w.ownsRow base t s v n xs) (hg : w.grownBy w' v.ownBlock) (ht : some t ∉ L) : Kp L w w' := fun j o ho htg => by
  refine (hg.block j (Array.getElem?_eq_some_iff.1 ho).1 (fun e => ?_)).trans ho
  rcases hown.2 with ⟨rfl, _⟩ | ⟨g, cap, cur, rfl, _, hh, _⟩
  · cases e
  · cases e
    rw [hh] at ho
    cases ho
    exact ht htg

theorem kp_map {L : List (Option TypeId)} {w w' : World} {k : TypeId} {R : Value → Option (DataW Unit × List MemPlace)} {b n : Nat} {D : DataW Unit} (hown : w.ownsMap Try.prog k R b n D) (hg : w.grownBy w' (some b)) (ht : none ∉ L) : Kp L w w' := fun j o ho htg => by
  refine (hg.block j (Array.getElem?_eq_some_iff.1 ho).1 (fun e => ?_)).trans ho
  obtain ⟨es, clock, hb, _⟩ := hown
  cases e
  rw [hb] at ho
  cases ho
  exact ht htg

/-- What is new may be written over. -/
theorem Kp.new {L : List (Option TypeId)} {w0 w w' : World} {row : Option Nat} (h : Kp L w0 w) (hg : w.grownBy w' row) (hs : w0.heap.size ≤ w.heap.size) (hr : ∀ b, row = some b → w0.heap.size ≤ b) : Kp L w0 w' := fun j o ho ht => by
  have hj := (Array.getElem?_eq_some_iff.1 ho).1
  refine (hg.block j (by omega) (fun e => ?_)).trans (h j o ho ht)
  have := hr j e.symm
  omega

theorem row_kp {L : List (Option TypeId)} {w w' : World} {base s n : Nat} {t : TypeId} {v : Value} {xs : List Value} (h : w.ownsRow base t s v n xs) (hk : Kp L w w') (ht : some t ∈ L) : w'.ownsRow base t s v n xs := by
  obtain ⟨h1, h2⟩ := h
  refine ⟨h1, ?_⟩
  rcases h2 with h2 | ⟨g, cap, cur, e, hb, hg, h3⟩
  · exact Or.inl h2
  · exact Or.inr ⟨g, cap, cur, e, hb, hk g _ hg ht, h3⟩

theorem mk_kp {L : List (Option TypeId)} {w w' : World} {g n : Nat} {Z : Nat → Int} (h : Mk w g n Z) (hk : Kp L w w') (ht : some 3 ∈ L) : Mk w' g n Z := by
  obtain ⟨c, hc⟩ := mk_tag h
  exact h.of_block ((hk g _ hc ht).trans hc.symm)

theorem map_kp {L : List (Option TypeId)} {w w' : World} {k : TypeId} {R : Value → Option (DataW Unit × List MemPlace)} {b n : Nat} {D : DataW Unit} (h : w.ownsMap Try.prog k R b n D) (hk : Kp L w w') (ht : none ∈ L) : w'.ownsMap Try.prog k R b n D := by
  obtain ⟨es, clock, hb, h2⟩ := h
  exact ⟨es, clock, hk b _ hb ht, h2⟩

/-! ### Pairs -/
def pvals (C : List (Int × Int)) : List Value := C.flatMap fun p => [.int .i64 p.1, .int .i64 p.2]

theorem pvals_snoc (C : List (Int × Int)) (a b : Int) : pvals C ++ [.int .i64 a, .int .i64 b] = pvals (C ++ [(a, b)]) := by simp [pvals]

theorem pvals_get : ∀ (C : List (Int × Int)) (i : Nat), i < C.length → (pvals C)[i * 2]? = some (.int .i64 (C.getD i (0, 0)).1) ∧ (pvals C)[i * 2 + 1]? = some (.int .i64 (C.getD i (0, 0)).2)
  | [], i, hi => by simp at hi
  | p :: C, 0, _ => by simp [pvals]
  | p :: C, i + 1, hi => by
    have := pvals_get C i (by simpa using hi)
    have e : (i + 1) * 2 = i * 2 + 1 + 1 := by omega
    rw [e]
    simpa [pvals] using this

/-- The pairs C lie at a. -/
def Prs (w : World) (a : Option Addr) (C : List (Int × Int)) : Prop :=
  ∃ b o, (0 < C.length → a = some ⟨b, o, none⟩) ∧ ∀ i, i < C.length → w.cell? ⟨b, o + i * 2, none⟩ = some (.int .i64 (C.getD i (0, 0)).1) ∧ w.cell? ⟨b, o + i * 2 + 1, none⟩ = some (.int .i64 (C.getD i (0, 0)).2)

theorem add_none2 (b o j : Nat) : (⟨b, o, none⟩ : Addr).add j = ⟨b, o + j, none⟩ := by unfold Addr.add; split <;> simp_all

theorem owns_prs {w : World} {base n : Nat} {t : TypeId} {v : Value} {C : List (Int × Int)} (h : w.ownsRow base t 2 v n (pvals C)) (hn : n = C.length) :
    ∃ a c, v = .slice a n c ∧ n ≤ c ∧ Prs w a C := by
  subst hn
  rcases h.2 with ⟨rfl, h0⟩ | ⟨g, cap, cur, rfl, hb, hg, hcap, _⟩
  · exact ⟨none, 0, by rw [h0], by omega, 0, 0, fun hh => by omega, fun i hi => by omega⟩
  · refine ⟨some ⟨g, 0, none⟩, cap, rfl, hcap, g, 0, fun _ => rfl, fun i hi => ?_⟩
    obtain ⟨h1, h2⟩ := pvals_get C i hi
    have c1 := h.cells (g := g) rfl _ _ h1
    have c2 := h.cells (g := g) rfl _ _ h2
    rw [add_none2] at c1 c2
    exact ⟨c1, c2⟩

/-! ### The search's own block -/
def Srch (w : World) (r : Nat) (b0 b1 b2 b3 b4 : Value) (tk st : Int) (mv nv : Value) (mb : Nat) (cv : Value) : Prop :=
  w.heap[r]? = some (.cells #[b0, b1, b2, b3, b4, .int .i64 tk, .int .i64 st, mv, nv, .map (some mb), cv] 123 (0, 0))

theorem srch_cells {w : World} {r : Nat} {b0 b1 b2 b3 b4 : Value} {tk st : Int} {mv nv : Value} {mb : Nat} {cv : Value} (h : Srch w r b0 b1 b2 b3 b4 tk st mv nv mb cv) :
    (w.cell? ⟨r, 0, none⟩ = some b0 ∧ w.cell? ⟨r, 1, none⟩ = some b1 ∧ w.cell? ⟨r, 2, none⟩ = some b2 ∧ w.cell? ⟨r, 3, none⟩ = some b3 ∧ w.cell? ⟨r, 4, none⟩ = some b4) ∧
      w.cell? ⟨r, 5, none⟩ = some (.int .i64 tk) ∧ w.cell? ⟨r, 6, none⟩ = some (.int .i64 st) ∧ w.cell? ⟨r, 7, none⟩ = some mv ∧ w.cell? ⟨r, 8, none⟩ = some nv ∧ w.cell? ⟨r, 9, none⟩ = some (.map (some mb)) ∧ w.cell? ⟨r, 10, none⟩ = some cv :=
  ⟨⟨cell_of_cells h rfl, cell_of_cells h rfl, cell_of_cells h rfl, cell_of_cells h rfl, cell_of_cells h rfl⟩, cell_of_cells h rfl, cell_of_cells h rfl, cell_of_cells h rfl, cell_of_cells h rfl, cell_of_cells h rfl, cell_of_cells h rfl⟩

theorem srch_frozen {w : World} {r : Nat} {b0 b1 b2 b3 b4 : Value} {tk st : Int} {mv nv : Value} {mb : Nat} {cv : Value} (h : Srch w r b0 b1 b2 b3 b4 tk st mv nv mb cv) (i : Nat) : w.frozen? ⟨r, i, none⟩ = false := by
  unfold Srch at h
  simp [World.frozen?, h]

theorem srch_lt {w : World} {r : Nat} {b0 b1 b2 b3 b4 : Value} {tk st : Int} {mv nv : Value} {mb : Nat} {cv : Value} (h : Srch w r b0 b1 b2 b3 b4 tk st mv nv mb cv) : r < w.heap.size := (Array.getElem?_eq_some_iff.1 h).1

theorem srch_set7 {w : World} {r : Nat} {b0 b1 b2 b3 b4 : Value} {tk st : Int} {mv nv : Value} {mb : Nat} {cv : Value} (h : Srch w r b0 b1 b2 b3 b4 tk st mv nv mb cv) (u : Value) : Srch (w.setCell ⟨r, 7, none⟩ u) r b0 b1 b2 b3 b4 tk st u nv mb cv := by
  unfold Srch at *
  simp [World.setCell, Array.getElem?_modify, h]

theorem srch_set8 {w : World} {r : Nat} {b0 b1 b2 b3 b4 : Value} {tk st : Int} {mv nv : Value} {mb : Nat} {cv : Value} (h : Srch w r b0 b1 b2 b3 b4 tk st mv nv mb cv) (u : Value) : Srch (w.setCell ⟨r, 8, none⟩ u) r b0 b1 b2 b3 b4 tk st mv u mb cv := by
  unfold Srch at *
  simp [World.setCell, Array.getElem?_modify, h]

theorem srch_set10 {w : World} {r : Nat} {b0 b1 b2 b3 b4 : Value} {tk st : Int} {mv nv : Value} {mb : Nat} {cv : Value} (h : Srch w r b0 b1 b2 b3 b4 tk st mv nv mb cv) (u : Value) : Srch (w.setCell ⟨r, 10, none⟩ u) r b0 b1 b2 b3 b4 tk st mv nv mb u := by
  unfold Srch at *
  simp [World.setCell, Array.getElem?_modify, h]

theorem srch_kp {L : List (Option TypeId)} {w w' : World} {r : Nat} {b0 b1 b2 b3 b4 : Value} {tk st : Int} {mv nv : Value} {mb : Nat} {cv : Value} (h : Srch w r b0 b1 b2 b3 b4 tk st mv nv mb cv) (hk : Kp L w w') (ht : some 123 ∈ L) : Srch w' r b0 b1 b2 b3 b4 tk st mv nv mb cv := hk r _ h ht

/-! ### The markings' numbers -/
/-- A marking, as a list of F numbers. -/
def Shp (F : Nat) (m : List Int) : Prop := m = lst F (fnl m) ∧ ∀ i, i < F → 0 ≤ fnl m i ∧ fnl m i ≤ 9

theorem shp_lst {F : Nat} {Z : Nat → Int} (h : ∀ i, i < F → 0 ≤ Z i ∧ Z i ≤ 9) : Shp F (lst F Z) :=
  ⟨(lst_congr (fun i hi => (fnl_lst hi).symm)), fun i hi => by rw [fnl_lst hi]; exact h i hi⟩

theorem shp_ext {F : Nat} {m m' : List Int} (h : Shp F m) (h' : Shp F m') (e : ∀ i, i < F → fnl m i = fnl m' i) : m = m' := by
  rw [h.1, h'.1]
  exact lst_congr e

/-- The map D has each marking's number. -/
def Nmd (F : Nat) (marks : List (List Int)) (D : DataW Unit) : Prop := ∀ m kl, Shp F m → keyOf Try.prog 149 (kyv F (fnl m)) = some kl →
  (Maps.has D kl = true ↔ m ∈ marks) ∧ (m ∈ marks → D.atKey kl (.lit (.int .i64 0)) = .lit (.int .i64 ((marks.idxOf m : Nat) : Int)))

theorem nmd_start (F : Nat) : Nmd F [] (.map []) := fun m kl _ _ => ⟨by simp [has_eq], fun h => by cases h⟩

theorem nmd_put {F : Nat} {marks : List (List Int)} {D : DataW Unit} (hF : F ≤ 30) (h : Nmd F marks D) (hD : IsMap D) {m' : List Int} (hm : Shp F m') (hn : m' ∉ marks) {kl' : Lit} (hk : keyOf Try.prog 149 (kyv F (fnl m')) = some kl') :
    Nmd F (marks ++ [m']) (D.put kl' (.lit (.int .i64 ((marks.length : Nat) : Int)))) := by
  intro m kl hs hkl
  by_cases e : m = m'
  · subst e
    obtain rfl : kl = kl' := by rw [hkl] at hk; exact Option.some.inj hk
    refine ⟨⟨fun _ => by simp, fun _ => has_put_same hD (Try.keyed.key hkl) _⟩, fun _ => ?_⟩
    rw [atKey_put_same hD (Try.keyed.key hkl)]
    have : (marks ++ [m]).idxOf m = marks.length := by
      rw [List.idxOf_append, if_neg hn]
      simp
    rw [this]
  · have hne : kl ≠ kl' := fun e2 => by
      subst e2
      have := Try.keyed.inj hkl hk
      exact e (shp_ext hs hm (kyv_inj hF this))
    obtain ⟨h1, h2⟩ := h m kl hs hkl
    rw [has_put_other hne, atKey_put_other hne]
    refine ⟨h1.trans (by simp [e]), fun hmem => ?_⟩
    have hmm : m ∈ marks := by
      rcases List.mem_append.1 hmem with h3 | h3
      · exact h3
      · exact absurd (List.mem_singleton.1 h3) e
    rw [h2 hmm, List.idxOf_append, if_pos hmm]

/-! ### All of it -/
/-- The lists of edges. -/
def Nxs (w : World) (base : Nat) (nv : Value) (nexts : List (List (Int × Int))) : Prop :=
  ∃ Vs, w.ownsRow base 31 1 nv nexts.length Vs ∧ ∀ i, i < nexts.length → ∃ v, Vs[i]? = some v ∧ w.ownsRow base 44 2 v (nexts.getD i []).length (pvals (nexts.getD i []))

theorem nxs_kp {L : List (Option TypeId)} {w w' : World} {base : Nat} {nv : Value} {nexts : List (List (Int × Int))} (h : Nxs w base nv nexts) (hk : Kp L w w') (h1 : some 31 ∈ L) (h2 : some 44 ∈ L) : Nxs w' base nv nexts := by
  obtain ⟨Vs, h3, h4⟩ := h
  refine ⟨Vs, row_kp h3 hk h1, fun i hi => ?_⟩
  obtain ⟨v, h5, h6⟩ := h4 i hi
  exact ⟨v, h5, row_kp h6 hk h2⟩

/-- The markings. -/
def Mks (w : World) (base : Nat) (mv : Value) (F : Nat) (marks : List (List Int)) : Prop := ∃ G, Mrs w base mv F marks.length (fun i => fnl (marks.getD i [])) G

theorem mks_kp {L : List (Option TypeId)} {w w' : World} {base F : Nat} {mv : Value} {marks : List (List Int)} (h : Mks w base mv F marks) (hk : Kp L w w') (h1 : some 26 ∈ L) (h2 : some 3 ∈ L) : Mks w' base mv F marks := by
  obtain ⟨G, ⟨Vs, h3, h4⟩, h5⟩ := h
  exact ⟨G, ⟨Vs, row_kp h3 hk h1, h4⟩, fun i hi => mk_kp (h5 i hi) hk h2⟩

structure Xr (w : World) (base r mb : Nat) (b0 b1 b2 b3 b4 : Value) (tk st : Int) (F : Nat) (marks : List (List Int)) (nexts : List (List (Int × Int))) (C : List (Int × Int)) (mv nv cv : Value) (D : DataW Unit) : Prop where
  hr : base ≤ r
  hmb : base ≤ mb
  blk : Srch w r b0 b1 b2 b3 b4 tk st mv nv mb cv
  mks : Mks w base mv F marks
  nxs : Nxs w base nv nexts
  cam : w.ownsRow base 127 2 cv C.length (pvals C)
  map : w.ownsMap Try.prog 149 (plainElem Try.prog 3) mb marks.length D
  nmd : Nmd F marks D
  len : C.length = marks.length
  shp : ∀ m, m ∈ marks → Shp F m

theorem xr_kp {L : List (Option TypeId)} {w w' : World} {base r mb : Nat} {b0 b1 b2 b3 b4 : Value} {tk st : Int} {F : Nat} {marks : List (List Int)} {nexts : List (List (Int × Int))} {C : List (Int × Int)} {mv nv cv : Value} {D : DataW Unit}
    (h : Xr w base r mb b0 b1 b2 b3 b4 tk st F marks nexts C mv nv cv D) (hk : Kp L w w') (hL : ∀ t, t ∈ [some 123, some 26, some 3, some 127, (none : Option TypeId)] → t ∈ L) (hn : Nxs w' base nv nexts) : Xr w' base r mb b0 b1 b2 b3 b4 tk st F marks nexts C mv nv cv D :=
  ⟨h.hr, h.hmb, srch_kp h.blk hk (hL _ (by simp)), mks_kp h.mks hk (hL _ (by simp)) (hL _ (by simp)), hn, row_kp h.cam hk (hL _ (by simp)), map_kp h.map hk (hL _ (by simp)), h.nmd, h.len, h.shp⟩

theorem Xr.below {w w' : World} {base r mb : Nat} {b0 b1 b2 b3 b4 : Value} {tk st : Int} {F : Nat} {marks : List (List Int)} {nexts : List (List (Int × Int))} {C : List (Int × Int)} {mv nv cv : Value} {D : DataW Unit}
    (h : Xr w base r mb b0 b1 b2 b3 b4 tk st F marks nexts C mv nv cv D) (hb : Below w.heap.size w w') : Xr w' base r mb b0 b1 b2 b3 b4 tk st F marks nexts C mv nv cv D :=
  xr_kp (L := [some 123, some 26, some 3, some 127, none]) h (kp_below hb) (fun _ h => h) (nxs_kp (L := [some 31, some 44]) h.nxs (kp_below hb) (by simp) (by simp))

end Go.Proofs.Ythpbgfodejoecaa
