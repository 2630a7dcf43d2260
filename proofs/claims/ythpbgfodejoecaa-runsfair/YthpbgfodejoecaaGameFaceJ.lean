/- Begin, Enabled, Fire: of a board, of a process. Rest, sumOf, walked. An exploration of markings. -/
import Derived.Test.YthpbgfodejoecaaGameLay
import Derived.Test.YthpbgfodejoecaaExpl
namespace Go.Proofs.Ythpbgfodejoecaa
open Go.RowKit

theorem spE_zero {e0 : Int} {n : Nat} (h : spE e0 n = 0) : e0 = 0 ∧ n ≤ 60 := by
  unfold spE at h
  by_cases h1 : e0 = 0
  · rw [if_pos h1] at h
    by_cases h2 : n ≤ 60
    · exact ⟨h1, h2⟩
    · rw [if_neg h2] at h; cases h
  · rw [if_neg h1] at h
    exact absurd h h1

/-- An error and no list. -/
def Err (E : Int) (e : Ending) : Prop := e = .returned (.tuple #[.slice none 0 0, .int .i64 E])

/-- The error, or what is answered without one. -/
def Ans (E : Int) (P : Ending → World → Prop) (e : Ending) (w : World) : Prop := E ≠ 0 ∧ Err E e ∨ E = 0 ∧ P e w

set_option maxHeartbeats 2000000 in
theorem enabledB_own {na fa sa ia oa : Option Addr} {N nc F fc sc ic oc : Nat} {M : Nat → ByteArray} {K A B : Nat → Int} {l : List St3} {w : World} (h : Brd w na N nc fa F sa ia oa M K A B l) {ma : Option Addr} {mc : Nat} {m : Nat → Int} (hm : Row w ma F m) (h9 : ∀ i, i < F → 0 ≤ m i ∧ m i ≤ 9)
    (X : Nat → Int) (hX : ∀ i, i < l.length → (X i = 1 ↔ enb K A B F m (l.getD i (0, 0, 0)))) :
    Calls Try.prog 44 #[.agg #[.slice na N nc, .slice fa F fc, .slice sa l.length sc, .slice ia N ic, .slice oa N oc], .slice ma F mc] w fun e w' => Below w.heap.size w w' ∧ ∃ a c, e = .returned (.tuple #[.slice a (tally X 1 l.length) c, .int .i64 0]) ∧ w'.ownsRow w.heap.size 3 1 (.slice a (tally X 1 l.length) c) (tally X 1 l.length) (vals (fl X 1 l.length)) := by
  have HM : Hid (Row w ma F m) := hm
  have HX : Hid (∀ i, i < l.length → (X i = 1 ↔ enb K A B F m (l.getD i (0, 0, 0)))) := hX
  obtain ⟨i0, hi, hz0, hz1, hz2⟩ := info_parts Try.info3
  have HI : Hid (Try.prog.info? 3 = some i0 ∧ i0.zero = some (.int .i64 0) ∧ i0.size = 1 ∧ i0.bytes = 8) := ⟨hi, hz0, hz1, hz2⟩
  have hfew := h.few
  have hF30 : F ≤ 30 := (chk_zero h.chk).1.2
  have HLis : Hid (∀ i, i < l.length → l.getD i (0, 0, 0) ∈ stAll K A B F N) := fun i hi => by rw [← h.lis]; exact getD3_mem hi
  obtain ⟨W, eW⟩ : ∃ x, x = w.alloc (.cells #[.slice na N nc, .slice fa F fc, .slice sa l.length sc, .slice ia N ic, .slice oa N oc] 94) := ⟨_, rfl⟩
  have HW : Hid (Below w.heap.size w W ∧ W.heap.size = w.heap.size + 1) := by subst eW; exact ⟨box_below _ _, by simp⟩
  have HEW : Hid (w.alloc (.cells #[.slice na N nc, .slice fa F fc, .slice sa l.length sc, .slice ia N ic, .slice oa N oc] 94) = W) := eW.symm
  have HBx : Hid (∀ u, Below W.heap.size W u → u.cell? ⟨w.heap.size, 0, none⟩ = some (.slice na N nc) ∧ u.cell? ⟨w.heap.size, 1, none⟩ = some (.slice fa F fc) ∧ u.cell? ⟨w.heap.size, 2, none⟩ = some (.slice sa l.length sc) ∧ u.cell? ⟨w.heap.size, 3, none⟩ = some (.slice ia N ic) ∧ u.cell? ⟨w.heap.size, 4, none⟩ = some (.slice oa N oc)) := fun u hu => by
    subst eW
    exact ⟨new_alloc hu rfl, new_alloc hu rfl, new_alloc hu rfl, new_alloc hu rfl, new_alloc hu rfl⟩
  have HOk : Hid (mkOk F F m = true) := mkOk_yes h9
  have C0 : Hid (Calls Try.prog 74 #[.agg #[.slice na N nc, .slice fa F fc, .slice sa l.length sc, .slice ia N ic, .slice oa N oc], .slice ma F mc] W fun e w' => e = .returned (.bool (mkOk F F m)) ∧ Below W.heap.size W w') := isMarking_any _ _ _ _ _ N nc F fc _ sc N ic N oc _ F mc m W (by omega) (hm.below HW.out.1)
  have HBrd0 : Hid (Brd W na N nc fa F sa ia oa M K A B l) := h.below HW.out.1
  clear eW h hm h9 hX hi hz0 hz1 hz2
  go_enter Try.func44, Try.ntmps44
  go_wp2_with fail
  rw [HEW.out]
  refine C0.out.mono ?_
  rintro e W2 ⟨he, hb0⟩
  rw [HOk.out] at he
  subst he
  have HB0 : Hid (Below W.heap.size W W2) := hb0
  have HBw2 : Hid (Below w.heap.size w W2) := HW.out.1.trans (hb0.mono HW.out.1.size)
  have hsz2 : w.heap.size < W2.heap.size := by have := hb0.size; have := HW.out.2; omega
  have HBrd : Hid (Brd W2 na N nc fa F sa ia oa M K A B l) := HBrd0.out.below hb0
  obtain ⟨a0, a1, a2, a3, a4⟩ := HBx.out W2 hb0
  clear hb0 C0 HBrd0
  go_wp2
  clear a0 a1 a2 a3 a4
  go_loopw [6, 16] (fun v i wr => ∃ (k : Nat) (va : Option Addr) (vc : Nat), k ≤ l.length ∧ i = .int .i64 k ∧ v = .slice va (tally X 1 k) vc ∧ Hid (Below W2.heap.size W2 wr ∧ wr.ownsRow W2.heap.size 3 1 (.slice va (tally X 1 k) vc) (tally X 1 k) (vals (fl X 1 k)))) (fun _ i _ => l.length - (intOf i).toNat)
  case atStart => exact ⟨0, none, 0, Nat.zero_le _, rfl, rfl, hid ⟨Below.refl _ _, World.ownsRow_nil _ _ _ _⟩⟩
  case round =>
    obtain ⟨k, va, vc, hk, rfl, rfl, HS⟩ := hrel
    have HBw : Hid (Below w.heap.size w wr) := HBw2.out.trans (HS.out.1.mono HBw2.out.size)
    by_cases hlt : k < l.length
    · obtain ⟨sb, so, hsa, hsc⟩ := HBrd.out.sts
      obtain rfl := hsa (by omega)
      obtain ⟨hc0, hc1, hc2⟩ := Sts.at hsc HS.out.1 hlt
      have hmem := HLis.out k hlt
      obtain ⟨j, hj, ht1, ht2, ht3, ht4⟩ := step_facts hmem
      have HXk1 := HX.out k hlt
      obtain ⟨t, ht⟩ : ∃ t, t = l.getD k (0, 0, 0) := ⟨_, rfl⟩
      rw [← ht] at ht1 ht2 ht3 ht4 hc0 hc1 hc2 HXk1
      obtain ⟨t1, x, o⟩ := t
      simp only at ht1 ht2 ht3 ht4 hc0 hc1 hc2
      subst ht1
      have hxn : x < (F : Int) := by
        have h0 := chk_some HBrd.out.chk
        rcases ht2 with h2 | ⟨q, h2, h5, _⟩ <;> omega
      have HXk2 : Hid (X k = 1 ↔ enb K A B F m ((j : Int), x, o)) := HXk1
      have hsl : sb < wr.heap.size := World.block_lt_of_cell? _ _ hc0
      obtain ⟨a0, a1, a2, a3, a4⟩ := HBx.out wr (HB0.out.trans (HS.out.1.mono HB0.out.size))
      have hs1 : w.heap.size < wr.heap.size := by have := HS.out.1.size; omega
      obtain ⟨U, eU⟩ : ∃ u, u = wr.alloc (.cells #[.int .i64 j, .int .i64 x, .int .i64 o] 66) := ⟨_, rfl⟩
      have HU : Hid (Below wr.heap.size wr U) := by subst eU; exact box_below _ _
      have HEU : Hid (wr.alloc (.cells #[.int .i64 j, .int .i64 x, .int .i64 o] 66) = U) := eU.symm
      have HB2 : Hid (Below W2.heap.size W2 U) := HS.out.1.trans (HU.out.mono HS.out.1.size)
      have C3 : Hid (Calls Try.prog 75 #[.agg #[.slice na N nc, .slice fa F fc, .slice (some ⟨sb, so, none⟩) l.length sc, .slice ia N ic, .slice oa N oc], .slice ma F mc, .agg #[.int .i64 j, .int .i64 x, .int .i64 o]] U fun e w' => Told (enb K A B F m ((j : Int), x, o)) e ∧ Below U.heap.size U w') := isEnabled_any (HBrd.out.below HB2.out) (HM.out.below (HBw.out.trans (HU.out.mono HBw.out.size))) hj hxn
      clear ht2 ht3 ht4 ht HXk1 hmem hsc hsa eU
      have htl := tally_le X 1 k
      go_wp2_with fail
      rw [HEU.out]
      refine C3.out.mono ?_
      rintro e w3 ⟨⟨z, rfl, hz⟩, hb3⟩
      have HB3 : Hid (Below W2.heap.size W2 w3) := HB2.out.trans (hb3.mono HB2.out.size)
      have HO3 : Hid (w3.ownsRow W2.heap.size 3 1 (.slice va (tally X 1 k) vc) (tally X 1 k) (vals (fl X 1 k))) := below_ownsRow (below_ownsRow HS.out.2 HU.out) hb3
      have HSz3 : Hid (W2.heap.size ≤ w3.heap.size) := HB3.out.size
      have HZ : Hid (z = true ↔ X k = 1) := hz.trans HXk2.out.symm
      clear hz hb3 C3 hc0 hc1 hc2 a0 a1 a2 a3 a4
      cases hzz : z
      · have HXk : Hid (X k ≠ 1) := fun hh => by have := HZ.out.2 hh; rw [hzz] at this; cases this
        clear hzz HZ
        go_wp2
        go_roundw
        case rel => exact ⟨k + 1, va, vc, by omega, by go_num, by rw [tally_miss HXk.out], hid ⟨HB3.out, by have := HO3.out; rw [tally_miss HXk.out, fl_miss HXk.out]; exact this⟩⟩
        case measure => simp [intOf]; omega
      · have HXk : Hid (X k = 1) := HZ.out.1 hzz
        clear hzz HZ
        go_wp2_with (at_builtin; refine wpList_append_own_at _ rfl _ _ 26 rfl W2.heap.size 3 i0 (.int .i64 0) 1 8 Try.underlying26 HI.out.1 HI.out.2.1 HI.out.2.2.1 HI.out.2.2.2 rfl (by decide) _ _ _ rfl (HO3.out.alloc _) ⟨w3.heap.size, 0, none⟩ 1 1 [.int .i64 k] rfl rfl (cell_one_new _ _ _) (ints_oneCell .i64 [(k : Int)]) (by unfold maxLen; omega) (by omega) (by have := HSz3.out; simp; omega) ?_; intro v' w4 hown hgrow _ _; obtain ⟨⟨a4, c4, rfl⟩, H4⟩ := fl_step HB3.out HO3.out HXk.out hown hgrow; clear hown hgrow)
        go_roundw
        case rel => exact ⟨k + 1, a4, c4, by omega, by go_num, by rw [tally_hit HXk.out], hid ⟨H4.out.1, by have := H4.out.2; rw [tally_hit HXk.out] at this ⊢; exact this⟩⟩
        case measure => simp [intOf]; omega
    · obtain rfl : l.length = k := by omega
      go_wp2
      go_ret2
      exact ⟨HBw.out, va, vc, rfl, owns_base HS.out.2 HBw2.out.size⟩

end Go.Proofs.Ythpbgfodejoecaa

namespace Go.Proofs.Ythpbgfodejoecaa
open Go.RowKit

/-- Markings along steps. -/
structure Pth (K A B : Nat → Int) (F : Nat) (l : List St3) (n : Nat) (Ms : Nat → Nat → Int) (S : Nat → Nat) : Prop where
  zero : Ms 0 = bgn K A
  ok : ∀ i, i ≤ n → ∀ j, j < F → 0 ≤ Ms i j ∧ Ms i j ≤ 9
  step : ∀ i, i < n → S i < l.length ∧ enb K A B F (Ms i) (l.getD (S i) (0, 0, 0)) ∧ Ms (i + 1) = frs K A B (l.getD (S i) (0, 0, 0)) (Ms i)

theorem bgn_ok (K A : Nat → Int) (j : Nat) : 0 ≤ bgn K A j ∧ bgn K A j ≤ 9 := by unfold bgn; split <;> omega

/-- n markings in memory, in a list of the call's own. -/
structure Mrs (w : World) (base : Nat) (v : Value) (F n : Nat) (Ms : Nat → Nat → Int) (G : Nat → Nat) : Prop where
  own : ∃ Vs, w.ownsRow base 26 1 v n Vs ∧ ∀ i, i < n → ∃ c, Vs[i]? = some (.slice (some ⟨G i, 0, none⟩) F c)
  rows : ∀ i, i < n → Mk w (G i) F (Ms i)

theorem mk_tag {w : World} {g n : Nat} {Z : Nat → Int} (h : Mk w g n Z) : ∃ c, w.heap[g]? = some (.cells c 3 (0, 0)) := by
  obtain ⟨cap, f, _, ⟨c, h2, _⟩, _⟩ := h
  exact ⟨c, h2⟩

theorem own_tag {w : World} {base n : Nat} {t : TypeId} {v : Value} {xs : List Value} (h : w.ownsRow base t 1 v n xs) {b : Nat} (hb : v.ownBlock = some b) : ∃ c, w.heap[b]? = some (.cells c t (0, 0)) := by
  rcases h.2 with ⟨rfl, _⟩ | ⟨g, cap, cur, rfl, _, hg, _⟩
  · cases hb
  · cases hb
    exact ⟨cur, hg⟩

theorem tags_ne {w : World} {a b : Nat} {c d : Array Value} (h1 : w.heap[a]? = some (.cells c 3 (0, 0))) (h2 : w.heap[b]? = some (.cells d 26 (0, 0))) : a ≠ b := by
  intro e
  subst e
  rw [h1] at h2
  simp at h2

/-- 'marks = append(marks, m)'. -/
theorem Mrs.app {w w1 : World} {base : Nat} {v v' : Value} {F n g c : Nat} {Ms : Nat → Nat → Int} {G : Nat → Nat} {Z : Nat → Int} {Vs : List Value} {o : Obj} (h : Mrs w base v F n Ms G) (hV : w.ownsRow base 26 1 v n Vs ∧ ∀ i, i < n → ∃ c, Vs[i]? = some (.slice (some ⟨G i, 0, none⟩) F c)) (hm : Mk w g F Z)
    (hown : w1.ownsRow base 26 1 v' (n + 1) (Vs ++ [.slice (some ⟨g, 0, none⟩) F c])) (hgrow : (w.alloc o).grownBy w1 v.ownBlock) :
    (∃ a c, v' = .slice a (n + 1) c) ∧ Hid (Mrs w1 base v' F (n + 1) (fun i => if i = n then Z else Ms i) (fun i => if i = n then g else G i)) := by
  have hg : w.grownBy w1 v.ownBlock := (World.grownBy_alloc _ _ _).trans hgrow
  have keep : ∀ {b Y}, Mk w b F Y → Mk w1 b F Y := fun {b Y} hb => hb.of_block (hg.block b hb.lt (fun e => by
    obtain ⟨d, hd⟩ := own_tag hV.1 e.symm
    obtain ⟨d2, hd2⟩ := mk_tag hb
    exact tags_ne hd2 hd rfl))
  refine ⟨?_, hid ⟨⟨_, hown, fun i hi => ?_⟩, fun i hi => ?_⟩⟩
  · rcases hown.2 with ⟨_, h0⟩ | ⟨g, cap, cur, rfl, _⟩
    · omega
    · exact ⟨_, _, rfl⟩
  · have hl : Vs.length = n := by have := hV.1.1; omega
    by_cases e : i = n
    · subst e
      exact ⟨c, by rw [List.getElem?_append_right (by omega), hl]; simp⟩
    · obtain ⟨c', hc'⟩ := hV.2 i (by omega)
      exact ⟨c', by rw [List.getElem?_append_left (by omega), hc', if_neg e]⟩
  · by_cases e : i = n
    · simp only [if_pos e]
      exact keep hm
    · simp only [if_neg e]
      exact keep (h.rows i (by omega))

theorem lst_congr {k : Nat} {Y Z : Nat → Int} (h : ∀ i, i < k → Y i = Z i) : lst k Y = lst k Z := by
  unfold lst
  exact List.map_congr_left (fun i hi => h i (List.mem_range.1 hi))

end Go.Proofs.Ythpbgfodejoecaa

namespace Go.Proofs.Ythpbgfodejoecaa
open Go.RowKit

/-- A marking's list, as a function. -/
def fnl (m : List Int) (i : Nat) : Int := m.getD i 0

theorem fnl_lst {F : Nat} {f : Nat → Int} {i : Nat} (h : i < F) : fnl (lst F f) i = f i := lst_getD F f i h

theorem cm_congr {A B : Nat → Int} {F : Nat} {m m' : Nat → Int} {n : Int} {j : Nat} (h : ∀ i, i < F → m i = m' i) : Cm A B F m n j ↔ Cm A B F m' n j := by
  have e : (fun x => x < F ∧ 0 < m x) = (fun x => x < F ∧ 0 < m' x) := by
    funext x
    apply propext
    constructor
    · rintro ⟨a, b⟩; exact ⟨a, by rw [← h x a]; exact b⟩
    · rintro ⟨a, b⟩; exact ⟨a, by rw [h x a]; exact b⟩
  unfold Cm
  rw [e]

theorem enb_up {K A B : Nat → Int} {F : Nat} {m m' : Nat → Int} {t : St3} (h : ∀ i, i < F → m i = m' i) (hx : t.2.1 < F) (he : enb K A B F m t) : enb K A B F m' t := by
  rcases he with ⟨h1, h2⟩ | ⟨h1, h2, h3⟩ | ⟨h1, h2, ⟨j, hj, hB, hp⟩, h4⟩
  · exact Or.inl ⟨h1, by rw [← h _ (by omega)]; exact h2⟩
  · exact Or.inr (Or.inl ⟨h1, h2, fun j hj hB => by rw [← h j hj]; exact h3 j hj hB⟩)
  · exact Or.inr (Or.inr ⟨h1, h2, ⟨j, hj, hB, by rw [← h j hj]; exact hp⟩, fun ⟨j, hj, hB, h0, hc⟩ => h4 ⟨j, hj, hB, by rw [h j hj]; exact h0, (cm_congr h).2 hc⟩⟩)

theorem enb_congr {K A B : Nat → Int} {F : Nat} {m m' : Nat → Int} {t : St3} (h : ∀ i, i < F → m i = m' i) (hx : t.2.1 < F) : enb K A B F m t ↔ enb K A B F m' t :=
  ⟨enb_up h hx, enb_up (fun i hi => (h i hi).symm) hx⟩

theorem frs_congr {K A B : Nat → Int} {t : St3} {m m' : Nat → Int} {j : Nat} (h : m j = m' j) : frs K A B t m j = frs K A B t m' j := by
  unfold frs gvn tkn
  simp only [h]

/-- The marking behind step s. -/
def nxl (K A B : Nat → Int) (F : Nat) (l : List St3) (s : Int) (m : List Int) : List Int := lst F (frs K A B (l.getD s.toNat (0, 0, 0)) (fnl m))

/-- The steps that are enabled. -/
def cnl (X : List Int → Nat → Int) (n : Nat) (m : List Int) : List Int := fl (X m) 1 n

def XOk (K A B : Nat → Int) (F : Nat) (l : List St3) (X : List Int → Nat → Int) : Prop := ∀ m i, X m i = 1 ↔ enb K A B F (fnl m) (l.getD i (0, 0, 0))

theorem fl_mem {X : Nat → Int} {x : Int} {j : Nat} (h : X j = x) : ∀ {k}, j < k → (j : Int) ∈ fl X x k
  | 0, hj => by omega
  | k + 1, hj => by
    by_cases e : j = k
    · subst e
      rw [fl_hit h]
      simp
    · have := fl_mem h (k := k) (by omega)
      by_cases hk : X k = x
      · rw [fl_hit hk]
        exact List.mem_append.2 (Or.inl this)
      · rw [fl_miss hk]
        exact this

theorem mem_cnl {K A B : Nat → Int} {F : Nat} {l : List St3} {X : List Int → Nat → Int} (hX : XOk K A B F l X) {m : List Int} {s : Int} : s ∈ cnl X l.length m ↔ ∃ j : Nat, s = j ∧ j < l.length ∧ enb K A B F (fnl m) (l.getD j (0, 0, 0)) := by
  constructor
  · intro h
    obtain ⟨j, h1, h2, h3⟩ := mem_fl h
    exact ⟨j, h1, h2, (hX m j).1 h3⟩
  · rintro ⟨j, rfl, h2, h3⟩
    exact fl_mem ((hX m j).2 h3) h2

theorem ovr_lst {tk : Int} {F : Nat} {f : Nat → Int} : ovr tk (lst F f) = true ↔ ∃ j, j < F ∧ tk < f j := by simp [ovr, lst]

theorem ovr_no {tk : Int} {F : Nat} {f : Nat → Int} (h : ovr tk (lst F f) = false) (j : Nat) (hj : j < F) : f j ≤ tk := by
  apply Int.not_lt.1
  intro hh
  have := ovr_lst.2 ⟨j, hj, hh⟩
  rw [h] at this
  cases this

/-- A way that is gone, as a path. -/
theorem goes_pth {K A B : Nat → Int} {F : Nat} {l : List St3} {X : List Int → Nat → Int} (hX : XOk K A B F l X) (hl : ∀ j, j < l.length → (l.getD j (0, 0, 0)).2.1 < F) {tk : Int} (htk : tk ≤ 9) {P : List Int → Prop} {w m : List Int}
    (h : Goes (nxl K A B F l) (cnl X l.length) (lst F (bgn K A)) (fun x => P x ∧ ovr tk x = false) w m) :
    ∃ Ms, Pth K A B F l w.length Ms (fun i => (w.getD i 0).toNat) ∧ m = lst F (Ms w.length) ∧ (∀ i, i < w.length → 0 ≤ w.getD i 0) ∧ ∀ i, i ≤ w.length → P (lst F (Ms i)) ∧ ovr tk (lst F (Ms i)) = false := by
  obtain ⟨Ls, h0, h1, h2, h3⟩ := h
  have hlst : ∀ i, i ≤ w.length → ∃ Z, Ls i = lst F Z := fun i hi => by
    cases i with
    | zero => exact ⟨_, h0⟩
    | succ i => exact ⟨_, (h3 i (by omega)).2⟩
  have hag : ∀ i, i ≤ w.length → Ls i = lst F (fnl (Ls i)) := fun i hi => by
    obtain ⟨Z, hZ⟩ := hlst i hi
    rw [hZ]
    exact lst_congr (fun j hj => (fnl_lst hj).symm)
  have hst : ∀ i, i < w.length → ∃ j : Nat, w.getD i 0 = j ∧ j < l.length ∧ enb K A B F (fnl (Ls i)) (l.getD j (0, 0, 0)) ∧ Ls (i + 1) = lst F (frs K A B (l.getD j (0, 0, 0)) (fnl (Ls i))) := fun i hi => by
    obtain ⟨j, e1, e2, e3⟩ := (mem_cnl hX).1 (h3 i hi).1
    refine ⟨j, e1, e2, e3, ?_⟩
    rw [(h3 i hi).2, e1]
    unfold nxl
    rw [Int.toNat_natCast]
  let Ms : Nat → Nat → Int := fun i => Nat.rec (bgn K A) (fun i m => frs K A B (l.getD (w.getD i 0).toNat (0, 0, 0)) m) i
  have hMs : ∀ i, i ≤ w.length → ∀ j, j < F → Ms i j = fnl (Ls i) j := by
    intro i
    induction i with
    | zero =>
      intro _ j hj
      show bgn K A j = _
      rw [h0, fnl_lst hj]
    | succ i ih =>
      intro hi j hj
      obtain ⟨n, e1, _, _, e4⟩ := hst i (by omega)
      rw [e4, fnl_lst hj]
      show frs K A B (l.getD (w.getD i 0).toNat (0, 0, 0)) (Ms i) j = _
      rw [e1, Int.toNat_natCast]
      exact frs_congr (ih (by omega) j hj)
  have hLs : ∀ i, i ≤ w.length → Ls i = lst F (Ms i) := fun i hi => by
    rw [hag i hi]
    exact lst_congr (fun j hj => (hMs i hi j hj).symm)
  have hpos : ∀ i, i ≤ w.length → ∀ j, j < F → 0 ≤ Ms i j := by
    intro i
    induction i with
    | zero => exact fun _ j _ => (bgn_ok K A j).1
    | succ i ih =>
      intro hi j hj
      obtain ⟨n, e1, e2, e3, _⟩ := hst i (by omega)
      show 0 ≤ frs K A B (l.getD (w.getD i 0).toNat (0, 0, 0)) (Ms i) j
      rw [e1, Int.toNat_natCast]
      refine frs_bound ((enb_congr (fun k hk => hMs i (by omega) k hk) (hl n e2)).2 e3) (fun k hk => ⟨ih (by omega) k hk, ?_⟩) j hj
      have := (h2 i (by omega)).2
      rw [hLs i (by omega)] at this
      exact Int.le_trans (ovr_no this k hk) htk
  refine ⟨Ms, ⟨rfl, fun i hi j hj => ⟨hpos i hi j hj, ?_⟩, fun i hi => ?_⟩, by rw [← h1]; exact hLs _ (Nat.le_refl _), fun i hi => ?_, fun i hi => by rw [← hLs i hi]; exact h2 i hi⟩
  · have := (h2 i hi).2
    rw [hLs i hi] at this
    exact Int.le_trans (ovr_no this j hj) htk
  · obtain ⟨n, e1, e2, e3, _⟩ := hst i hi
    show (w.getD i 0).toNat < l.length ∧ enb K A B F (Ms i) (l.getD (w.getD i 0).toNat (0, 0, 0)) ∧ Ms (i + 1) = frs K A B (l.getD (w.getD i 0).toNat (0, 0, 0)) (Ms i)
    refine ⟨by rw [e1, Int.toNat_natCast]; exact e2, ?_, rfl⟩
    rw [e1, Int.toNat_natCast]
    exact (enb_congr (fun k hk => hMs i (by omega) k hk) (hl n e2)).2 e3
  · obtain ⟨n, e1, _⟩ := hst i hi
    rw [e1]
    omega

/-- Every marking of a space is one that can be come to. -/
theorem xinv_goes {tk : Int} {q : Nat} {nx : Int → List Int → List Int} {cn : List Int → List Int} {m0 : List Int} {S : Xp} {done : List Int} (h : XInv tk q nx cn m0 S done) {m : List Int} (hm : m ∈ S.marks) : ∃ w, Goes nx cn m0 (fun x => x ∈ S.marks) w m := by
  obtain ⟨k, hk, hkm⟩ := List.getElem_of_mem hm
  have hkw : k < S.ways.length := by rw [h.wlen]; exact hk
  exact ⟨_, (h.paths k _ m (List.getElem?_eq_getElem hkw) (by rw [List.getElem?_eq_getElem hk, hkm])).1⟩

theorem xinv_led {tk : Int} {q : Nat} {nx : Int → List Int → List Int} {cn : List Int → List Int} {m0 : List Int} {S : Xp} (h : XInv tk q nx cn m0 S []) {k : Nat} (h0 : 0 < k) (hk : k < S.marks.length) :
    ∃ (n : Nat) (l : List (Int × Int)) (e : Int × Int), n < k ∧ S.nexts[n]? = some l ∧ e ∈ l ∧ e.2 = k := by
  rcases h.led k h0 hk with h1 | ⟨_, e, h1, _⟩
  · exact h1
  · have := h.curs
    rw [List.map_eq_nil_iff] at this
    rw [this] at h1
    cases h1

end Go.Proofs.Ythpbgfodejoecaa
