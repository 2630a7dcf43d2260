/- The law SpaceCounts, walked. -/
import Derived.Test.YtpgodjinbabniabSpLeaf
import Derived.Test.YtpgodjinbabniabSpaceBoundsWalk
namespace Go.Proofs.Ytpgodjinbabniab
open Go.RowKit Go.Maps

/-- The straight process, explored with too few markings. -/
theorem st_explore2 {na fa : Option Addr} {w : World} (hp : Prc w na 3 3 fa 2 sMs sKs sAs sBs) :
    Calls Try.prog 18 #[.agg #[.slice na 3 3, .slice fa 2 2], .int .i64 1, .int .i64 2] w fun e w' => Below w.heap.size w w' ∧ ∃ (ma : Option Addr) (mc : Nat) (xa : Option Addr) (xc : Nat), e = .returned (.tuple #[.agg #[.slice ma 0 mc, .slice xa 0 xc], .int .i64 8]) := by
  obtain ⟨X, hX⟩ := xok_ex sKs sAs sBs 2 (stAll sKs sAs sBs 2 3)
  refine (exploreF_any hp straight_chk 1 2 hX).mono fun e w' hh => ⟨hh.1, ?_⟩
  have hb : bndOk 1 2 = true := by decide
  have h := hh.2
  rw [st_x2 hX (by omega), st_E] at h
  unfold EpIs xM xN xE at h
  simp only [hb] at h
  obtain ⟨ma, mc, xa, xc, base, _, h1, _⟩ := h
  exact ⟨ma, mc, xa, xc, h1⟩

theorem steps_lt {N F : Nat} {M : Nat → ByteArray} {K A B : Nat → Int} (he : ChkIs N F M K A B 0) : ∀ j, j < (stAll K A B F N).length → ((stAll K A B F N).getD j (0, 0, 0)).2.1 < F := by
  intro j hj
  have h0 := chk_some he
  obtain ⟨n, _, _, h, _⟩ := step_facts (getD3_mem hj)
  rcases h with h | ⟨q, h1, h2, _⟩ <;> omega

/-- The markings of a space are markings. -/
theorem x_shp {tk : Int} {q : Nat} {K A B : Nat → Int} {F : Nat} {l : List St3} {X : List Int → Nat → Int} (hX : XOk K A B F l X) (hl : ∀ j, j < l.length → (l.getD j (0, 0, 0)).2.1 < F) (htk : tk ≤ 9) {T : Xp} (h : XInv tk q (nxl K A B F l) (cnl X l.length) (lst F (bgn K A)) T []) {m : List Int} (hm : m ∈ T.marks) : Shp F m := by
  obtain ⟨w, hg⟩ := xinv_goes h hm
  obtain ⟨Ms, hp, rfl, _, _⟩ := goes_pth (P := fun x => x ∈ T.marks) hX hl htk (hg.mono (fun x hx => ⟨hx, h.low x hx⟩))
  exact shp_lst (fun i hi => hp.ok w.length (Nat.le_refl _) i hi)

/-- What the counts want of a space that is all there. -/
theorem x_counts {E a b : Int} {K A B : Nat → Int} {F : Nat} {l : List St3} {X : List Int → Nat → Int} (hX : XOk K A B F l X) (hl : E = 0 → ∀ j, j < l.length → (l.getD j (0, 0, 0)).2.1 < F) (h : xE E a b (xall a b K A B F l X) = 0) :
    E = 0 ∧ ∃ T : Xp, xM E a b (xall a b K A B F l X) = T.marks ∧ xN E a b (xall a b K A B F l X) = T.nexts ∧ T.nexts.length = T.marks.length ∧ T.marks.length ≤ 200 ∧ (T.marks.length : Int) ≤ b ∧ 0 < T.marks.length ∧ T.marks.Nodup ∧ (∀ m, m ∈ T.marks → Shp F m ∧ ovr a m = false) ∧ (∀ i, i < T.nexts.length → (T.nexts.getD i []).length ≤ l.length) ∧
      (∀ i, i < T.nexts.length → ∀ e, e ∈ T.nexts.getD i [] → ∃ k : Nat, e.2 = k ∧ k < T.marks.length) ∧ (∀ k, 0 < k → k < T.marks.length → ∃ n e, n < k ∧ e ∈ T.nexts.getD n [] ∧ e.2 = (k : Int)) := by
  obtain ⟨h0, hb, T, h3, h4, h5, h6, h7⟩ := x_ok h
  have hb' := bnd_all hb
  have hf := h6.few
  refine ⟨h0, T, h4, h5, h7, by omega, by omega, ?_, h6.nodup, fun m hm => ⟨x_shp hX (hl h0) hb'.1.2 h6 hm, h6.low m hm⟩, xinv_small h6 h7, ?_, ?_⟩
  · exact (List.getElem?_eq_some_iff.1 h6.first).1
  · intro i hi e he
    have hi2 : i < T.marks.length := by omega
    obtain ⟨k, hk1, hk2⟩ := (h6.edges i (T.nexts.getD i []) (T.marks.getD i []) (by rw [List.getD_eq_getElem?_getD, List.getElem?_eq_getElem hi]; rfl) (by rw [List.getD_eq_getElem?_getD, List.getElem?_eq_getElem hi2]; rfl)).2 e he
    exact ⟨k, hk1, (List.getElem?_eq_some_iff.1 hk2).1⟩
  · intro k h0 hk
    obtain ⟨n, l', e, h8, h9, h10, h11⟩ := xinv_led h6 h0 hk
    exact ⟨n, e, h8, by rw [List.getD_eq_getElem?_getD, h9]; exact h10, h11⟩

/-- Which numbers have been met, when n lists and j edges of the next one have been gone through. -/
def mt (nexts : List (List (Int × Int))) (n j i : Nat) : Prop := i = 0 ∨ (∃ a e, a < n ∧ e ∈ nexts.getD a [] ∧ e.2 = (i : Int) ∧ (a : Int) < e.2) ∨ (∃ e, e ∈ (nexts.getD n []).take j ∧ e.2 = (i : Int) ∧ (n : Int) < e.2)

theorem getD2_mem {C : List (Int × Int)} {j : Nat} (h : j < C.length) : C.getD j (0, 0) ∈ C := by
  rw [List.getD_eq_getElem?_getD, List.getElem?_eq_getElem h]
  exact List.getElem_mem h

theorem gr_take {w : World} {a : Option Addr} {n k : Nat} {L : Nat → Nat} {Y : Nat → Nat → Int} (h : Gr w a n L Y) (hk : k ≤ n) : Gr w a k L Y := by
  obtain ⟨b, o, h1, h2⟩ := h
  exact ⟨b, o, fun h => h1 (by omega), fun r hr => h2 r (by omega)⟩

theorem marks_ne {F : Nat} {marks : List (List Int)} (hn : marks.Nodup) (hs : ∀ m, m ∈ marks → Shp F m) {i n : Nat} (hi : i < n) (hl : n < marks.length) : same F F (fnl (marks.getD i [])) (fnl (marks.getD n [])) = false := by
  have hi2 : i < marks.length := by omega
  have e1 : marks.getD i [] = marks[i] := by simp [hi2]
  have e2 : marks.getD n [] = marks[n] := by simp [hl]
  unfold same
  rw [decide_eq_false_iff_not]
  rintro ⟨_, h⟩
  have h3 : marks.getD i [] = marks.getD n [] := shp_ext (hs _ (by rw [e1]; exact List.getElem_mem hi2)) (hs _ (by rw [e2]; exact List.getElem_mem hl)) h
  rw [e1, e2] at h3
  exact List.pairwise_iff_getElem.1 (List.nodup_iff_pairwise_ne.1 hn) i n hi2 hl hi h3

/-- The list of those that have been met. -/
structure Ct (W wr : World) (fb ml : Nat) (nexts : List (List (Int × Int))) (n j : Nat) : Prop where
  below : Below W.heap.size W wr
  big : W.heap.size ≤ fb
  row : ∃ Y : Nat → Bool, wr.rowIs fb 4 ml (fun i => .bool (Y i)) ∧ ∀ i, i < ml → mt nexts n j i → Y i = true

theorem ct_start (W : World) (fb ml : Nat) (hfb : W.heap.size = fb) (nexts : List (List (Int × Int))) : Ct W (W.alloc (.cells ((madeCells #[.bool false] ml).setIfInBounds 0 (.bool true)) 4)) fb ml nexts 0 0 := by
  subst hfb
  obtain ⟨c, h1, h2, h3⟩ := World.rowIs_made W (.bool false) ml 4
  have hc : c = madeCells #[.bool false] ml := by
    have := Go.Deep.blk_alloc_new W (.cells (madeCells #[.bool false] ml) 4)
    rw [this] at h1
    simp only [Option.some.injEq, Obj.cells.injEq, and_true] at h1
    exact h1.symm
  rw [hc] at h2 h3
  refine ⟨box_below _ _, Nat.le_refl _, fun i => decide (i = 0), ⟨_, Go.Deep.blk_alloc_new _ _, by simp [h2], fun i hi => ?_⟩, fun i _ h => ?_⟩
  · rw [Array.getElem?_setIfInBounds]
    by_cases e : 0 = i
    · subst e
      simp [h2, hi]
    · rw [if_neg e, h3 i hi]
      simp [Ne.symm e]
  · rcases h with h | ⟨a, e, h, _⟩ | ⟨e, h, _⟩
    · simp [h]
    · omega
    · simp at h

theorem take_mem {C : List (Int × Int)} {j : Nat} (hj : j < C.length) {e : Int × Int} (h : e ∈ C.take (j + 1)) : e ∈ C.take j ∨ e = C.getD j (0, 0) := by
  rw [List.take_add_one] at h
  rcases List.mem_append.1 h with h | h
  · exact Or.inl h
  · right
    simp [hj] at h
    simp [hj, h]

theorem Ct.miss {W wr : World} {fb ml : Nat} {nexts : List (List (Int × Int))} {n j : Nat} (h : Ct W wr fb ml nexts n j) (hj : j < (nexts.getD n []).length) (o : Obj) (hlt : ¬ (n : Int) < ((nexts.getD n []).getD j (0, 0)).2) : Ct W (wr.alloc o) fb ml nexts n (j + 1) := by
  obtain ⟨Y, h1, h2⟩ := h.row
  refine ⟨h.below.alloc h.below.size _, h.big, Y, h1.alloc o, fun i hi hm => h2 i hi ?_⟩
  rcases hm with hm | hm | ⟨e, hm, he, hlt2⟩
  · exact Or.inl hm
  · exact Or.inr (Or.inl hm)
  · rcases take_mem hj hm with hm | rfl
    · exact Or.inr (Or.inr ⟨e, hm, he, hlt2⟩)
    · exact absurd hlt2 hlt

theorem Ct.hit {W wr : World} {fb ml : Nat} {nexts : List (List (Int × Int))} {n j k : Nat} (h : Ct W wr fb ml nexts n j) (hj : j < (nexts.getD n []).length) (o : Obj) (hk : ((nexts.getD n []).getD j (0, 0)).2 = (k : Int)) : Ct W ((wr.setCell ⟨fb, k, none⟩ (.bool true)).alloc o) fb ml nexts n (j + 1) := by
  obtain ⟨Y, h1, h2⟩ := h.row
  refine ⟨(h.below.setCell h.big _).alloc (by have := h.below.size; simp [World.setCell]; omega) _, h.big, fun i => if i = k then true else Y i, ?_, fun i hi hm => ?_⟩
  · refine ((h1.set k (.bool true)).alloc o).congr (fun i _ => ?_)
    by_cases e : i = k
    · simp [e]
    · simp [e]
  · by_cases e : i = k
    · simp [e]
    · simp only [if_neg e]
      refine h2 i hi ?_
      rcases hm with hm | hm | ⟨e', hm, he, hlt2⟩
      · exact Or.inl hm
      · exact Or.inr (Or.inl hm)
      · rcases take_mem hj hm with hm | rfl
        · exact Or.inr (Or.inr ⟨e', hm, he, hlt2⟩)
        · rw [hk] at he
          omega

theorem Ct.next {W wr : World} {fb ml : Nat} {nexts : List (List (Int × Int))} {n j : Nat} (h : Ct W wr fb ml nexts n j) (hj : j = (nexts.getD n []).length) : Ct W wr fb ml nexts (n + 1) 0 := by
  obtain ⟨Y, h1, h2⟩ := h.row
  refine ⟨h.below, h.big, Y, h1, fun i hi hm => h2 i hi ?_⟩
  rcases hm with hm | ⟨a, e, ha, hm, he, hlt⟩ | ⟨e, hm, _⟩
  · exact Or.inl hm
  · by_cases e2 : a = n
    · subst e2
      refine Or.inr (Or.inr ⟨e, ?_, he, hlt⟩)
      rw [hj, List.take_length]
      exact hm
    · exact Or.inr (Or.inl ⟨a, e, by omega, hm, he, hlt⟩)
  · simp at hm

theorem Ct.alloc {W wr : World} {fb ml : Nat} {nexts : List (List (Int × Int))} {n j : Nat} (h : Ct W wr fb ml nexts n j) (o : Obj) (q : Nat) : Ct W ((wr.alloc o).drewN q) fb ml nexts n j := by
  obtain ⟨Y, h1, h2⟩ := h.row
  refine ⟨below_drewn (h.below.alloc h.below.size _) q, h.big, Y, ?_, h2⟩
  exact (h1.alloc o).of_block rfl

/-- In the end all have been met. -/
theorem ct_all {ml : Nat} {nexts : List (List (Int × Int))} (h : ∀ k, 0 < k → k < ml → ∃ n e, n < k ∧ e ∈ nexts.getD n [] ∧ e.2 = (k : Int)) (hl : ml = nexts.length) (i : Nat) (hi : i < ml) : mt nexts ml 0 i := by
  by_cases e : i = 0
  · exact Or.inl e
  · obtain ⟨n, x, h1, h2, h3⟩ := h i (by omega) hi
    exact Or.inr (Or.inl ⟨n, x, by omega, h2, h3, by omega⟩)

theorem mks_cap {w : World} {base F : Nat} {ma : Option Addr} {n mc : Nat} {marks : List (List Int)} (h : Mks w base (.slice ma n mc) F marks) : n ≤ mc := by
  obtain ⟨G, ⟨Vs, h1, _⟩, _⟩ := h
  rcases h1.2 with ⟨e, h0⟩ | ⟨g, cap, cur, e, _, _, hc, _⟩
  · simp only [Value.slice.injEq] at e
    omega
  · simp only [Value.slice.injEq] at e
    omega

end Go.Proofs.Ytpgodjinbabniab
