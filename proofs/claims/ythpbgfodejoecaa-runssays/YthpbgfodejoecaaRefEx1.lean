/- The document's Enabled, with its list's room; how Explored begins. -/
import Derived.Test.YthpbgfodejoecaaRefEx0
namespace Go.Proofs.Ythpbgfodejoecaa
open Go.RowKit Go.Maps

set_option maxHeartbeats 2000000 in
theorem enabledRef_own {na fa : Option Addr} {N nc F fc : Nat} {M : Nat → ByteArray} {K A B : Nat → Int} {w : World} (hp : Prc w na N nc fa F M K A B) (he : ChkIs N F M K A B 0) {la : Option Addr} {lc : Nat} (hl : (stAll K A B F N).length ≤ 60) (hst : Sts w la (stAll K A B F N).length (fun i => (stAll K A B F N).getD i (0, 0, 0))) {ma : Option Addr} {mc : Nat} {m : Nat → Int} (hm : Row w ma F m)
    (X : Nat → Int) (hX : ∀ i, i < (stAll K A B F N).length → (X i = 1 ↔ enb K A B F m ((stAll K A B F N).getD i (0, 0, 0)))) :
    Calls Try.prog 30 #[.agg #[.slice na N nc, .slice fa F fc], .slice la (stAll K A B F N).length lc, .slice ma F mc] w fun e w' => Below w.heap.size w w' ∧ ∃ a c, e = .returned (.slice a (tally X 1 (stAll K A B F N).length) c) ∧ w'.ownsRow w.heap.size 3 1 (.slice a (tally X 1 (stAll K A B F N).length) c) (tally X 1 (stAll K A B F N).length) (vals (fl X 1 (stAll K A B F N).length)) := by
  have HM : Hid (Row w ma F m) := hm
  have HX : Hid (∀ i, i < (stAll K A B F N).length → (X i = 1 ↔ enb K A B F m ((stAll K A B F N).getD i (0, 0, 0)))) := hX
  have HSt : Hid (Sts w la (stAll K A B F N).length (fun i => (stAll K A B F N).getD i (0, 0, 0))) := hst
  have HMem : Hid (∀ i, i < (stAll K A B F N).length → (stAll K A B F N).getD i (0, 0, 0) ∈ stAll K A B F N) := fun i hi => getD3_mem hi
  have hF30 : F ≤ 30 := (chk_zero he).1.2
  have hF0 : 0 < F := chk_some he
  obtain ⟨i0, hi, hz0, hz1, hz2⟩ := info_parts Try.info3
  have HI : Hid (Try.prog.info? 3 = some i0 ∧ i0.zero = some (.int .i64 0) ∧ i0.size = 1 ∧ i0.bytes = 8) := ⟨hi, hz0, hz1, hz2⟩
  obtain ⟨W, eW⟩ : ∃ x, x = w.alloc (.cells #[.slice na N nc, .slice fa F fc] 25) := ⟨_, rfl⟩
  have HW : Hid (Below w.heap.size w W ∧ W.heap.size = w.heap.size + 1) := by subst eW; exact ⟨box_below _ _, by simp⟩
  have HBx : Hid (∀ w1, Below W.heap.size W w1 → w1.cell? ⟨w.heap.size, 0, none⟩ = some (.slice na N nc) ∧ w1.cell? ⟨w.heap.size, 1, none⟩ = some (.slice fa F fc)) := fun w1 h => by
    subst eW
    exact ⟨new_alloc h rfl, new_alloc h rfl⟩
  have HEW : Hid (w.alloc (.cells #[.slice na N nc, .slice fa F fc] 25) = W) := eW.symm
  have HPW : Hid (Prc W na N nc fa F M K A B) := hp.below HW.out.1
  clear eW hp he hm hX hst hi hz0 hz1 hz2
  generalize hla : stAll K A B F N = ls at *
  have HLa : Hid (stAll K A B F N = ls) := hla
  clear hla
  go_enter Try.func30, Try.ntmps30
  go_wp2
  rw [HEW.out]
  go_loopw [7, 8] (fun v i wr => ∃ (k : Nat) (va : Option Addr) (vc : Nat), k ≤ ls.length ∧ i = .int .i64 k ∧ v = .slice va (tally X 1 k) vc ∧ Hid (Below W.heap.size W wr ∧ wr.ownsRow W.heap.size 3 1 (.slice va (tally X 1 k) vc) (tally X 1 k) (vals (fl X 1 k)))) (fun _ i _ => ls.length - (intOf i).toNat)
  case atStart => exact ⟨0, none, 0, Nat.zero_le _, rfl, rfl, hid ⟨Below.refl _ _, World.ownsRow_nil _ _ _ _⟩⟩
  case round =>
    obtain ⟨k, va, vc, hk, rfl, rfl, HS⟩ := hrel
    have HBw : Hid (Below w.heap.size w wr) := HW.out.1.trans (HS.out.1.mono HW.out.1.size)
    by_cases hlt : k < ls.length
    · obtain ⟨sb, so, hsa, hsc⟩ := HSt.out
      obtain rfl := hsa (by omega)
      obtain ⟨hc0, hc1, hc2⟩ := Sts.at hsc HBw.out hlt
      have hmem := HMem.out k hlt
      rw [← HLa.out] at hmem
      obtain ⟨j, hj, ht1, ht2, ht3, ht4⟩ := step_facts hmem
      rw [HLa.out] at ht1 ht2 ht3 ht4
      have HXk1 := HX.out k hlt
      obtain ⟨t, ht⟩ : ∃ t, t = ls.getD k (0, 0, 0) := ⟨_, rfl⟩
      rw [← ht] at ht1 ht2 ht3 ht4 hc0 hc1 hc2 HXk1
      obtain ⟨t1, x, o⟩ := t
      simp only at ht1 ht2 ht3 ht4 hc0 hc1 hc2
      subst ht1
      have hxn : x < (F : Int) := by rcases ht2 with h2 | ⟨q, h2, h5, _⟩ <;> omega
      obtain ⟨a0, a1⟩ := HBx.out wr HS.out.1
      obtain ⟨z, hz⟩ : ∃ z : Bool, z = true ↔ X k = 1 := ⟨decide (X k = 1), by simp⟩
      have HZ : Hid (z = true ↔ X k = 1) := hz
      have C3 : Hid (∀ u, Below wr.heap.size wr u → Calls Try.prog 56 #[.agg #[.slice na N nc, .slice fa F fc], .slice ma F mc, .agg #[.int .i64 j, .int .i64 x, .int .i64 o]] u fun e w' => e = .returned (.bool z) ∧ Below u.heap.size u w') := fun u hu => by
        refine (may_any ((HPW.out.below HS.out.1).below hu) hF30 ((HM.out.below HBw.out).below hu) hj hxn).mono fun e w' ⟨⟨y, h1, h2⟩, h3⟩ => ⟨?_, h3⟩
        have : y = z := by
          rw [Bool.eq_iff_iff]
          exact (h2.trans HXk1.symm).trans hz.symm
        rw [h1, this]
      have hkl : (k : Int) < ls.length := by omega
      have htl := tally_le X 1 k
      clear ht2 ht3 ht4 ht HXk1 hmem hsc hsa hz
      go_wp2
      go_region_held3 (fun u => u.cell? ⟨w.heap.size, 0, none⟩ = some (.slice na N nc) ∧ u.cell? ⟨w.heap.size, 1, none⟩ = some (.slice fa F fc) ∧ u.cell? ⟨sb, so + k * 3, none⟩ = some (.int .i64 j) ∧ u.cell? ⟨sb, so + k * 3 + 1, none⟩ = some (.int .i64 x) ∧ u.cell? ⟨sb, so + k * 3 + 2, none⟩ = some (.int .i64 o))
        (first | (exact ⟨by assumption, by assumption, by assumption, by assumption, by assumption⟩) | go_keep)
        (first | (go_at_call 56; refine (C3.out _ (below_drew_iff.2 (Below.refl _ _))).mono ?_; rintro e w5 ⟨rfl, hb5⟩; have hb5' : Below wr.heap.size wr w5 := (below_drew_iff.2 (Below.refl _ _)).trans hb5; obtain ⟨x0, x1⟩ := HBx.out w5 (HS.out.1.trans (hb5'.mono HS.out.1.size)); have x3 := (hb5'.cell (p := ⟨sb, so + k * 3, none⟩) (World.block_lt_of_cell? _ _ hc0)).trans hc0; have x4 := (hb5'.cell (p := ⟨sb, so + k * 3 + 1, none⟩) (World.block_lt_of_cell? _ _ hc1)).trans hc1; have x5 := (hb5'.cell (p := ⟨sb, so + k * 3 + 2, none⟩) (World.block_lt_of_cell? _ _ hc2)).trans hc2; dsimp only))
      have HB3 : Hid (Below W.heap.size W w5) := HS.out.1.trans (hb5'.mono HS.out.1.size)
      have HO3 : Hid (w5.ownsRow W.heap.size 3 1 (.slice va (tally X 1 k) vc) (tally X 1 k) (vals (fl X 1 k))) := below_ownsRow HS.out.2 hb5'
      have HSz3 : Hid (W.heap.size ≤ w5.heap.size) := HB3.out.size
      clear hb5 hb5' C3 hc0 hc1 hc2 a0 a1 x0 x1 x3 x4 x5
      cases hzz : z
      · have HXk : Hid (X k ≠ 1) := fun hh => by have := HZ.out.2 hh; rw [hzz] at this; cases this
        clear hzz HZ
        go_wp2
        go_roundw
        case rel => exact ⟨k + 1, va, vc, by omega, by go_num, by rw [tally_miss HXk.out], hid ⟨HB3.out, by have := HO3.out; rw [tally_miss HXk.out, fl_miss HXk.out]; exact this⟩⟩
        case measure => simp [intOf]; omega
      · have HXk : Hid (X k = 1) := HZ.out.1 hzz
        clear hzz HZ
        go_wp2_with (at_builtin; refine wpList_append_own_at _ rfl _ _ 26 rfl W.heap.size 3 i0 (.int .i64 0) 1 8 Try.underlying26 HI.out.1 HI.out.2.1 HI.out.2.2.1 HI.out.2.2.2 rfl (by decide) _ _ _ rfl (HO3.out.alloc _) ⟨w5.heap.size, 0, none⟩ 1 1 [.int .i64 k] rfl rfl (cell_one_new _ _ _) (ints_oneCell .i64 [(k : Int)]) (by unfold maxLen; omega) (by omega) (by have := HSz3.out; simp; omega) ?_; intro v' w6 hown hgrow _ _; obtain ⟨⟨a4, c4, rfl⟩, H4⟩ := fl_step HB3.out HO3.out HXk.out hown hgrow; clear hown hgrow)
        go_roundw
        case rel => exact ⟨k + 1, a4, c4, by omega, by go_num, by rw [tally_hit HXk.out], hid ⟨H4.out.1, by have := H4.out.2; rw [tally_hit HXk.out] at this ⊢; exact this⟩⟩
        case measure => simp [intOf]; omega
    · obtain rfl : ls.length = k := by omega
      go_wp2
      go_ret
      exact ⟨HBw.out, va, vc, rfl, owns_base HS.out.2 HW.out.1.size⟩


theorem mks_one {w : World} {base F g c : Nat} {Z : Nat → Int} (hb : base ≤ w.heap.size) (h : Mk w g F Z) : Mks (w.alloc (.cells #[.slice (some ⟨g, 0, none⟩) F c] 26)) base (.slice (some ⟨w.heap.size, 0, none⟩) 1 1) F [lst F Z] := by
  obtain ⟨h1, h2⟩ := mrs_start (c := c) hb h
  refine ⟨fun _ => g, h1, fun i hi => (h2 i hi).congr (fun j hj => ?_)⟩
  obtain rfl : i = 0 := by simp at hi; omega
  exact (fnl_lst hj).symm

theorem wys_one {w : World} {base : Nat} (hb : base ≤ w.heap.size) : Wys (w.alloc (.cells #[.slice none 0 0] 26)) base (.slice (some ⟨w.heap.size, 0, none⟩) 1 1) [[]] := by
  refine ⟨[.slice none 0 0], ⟨rfl, Or.inr ⟨w.heap.size, 1, #[.slice none 0 0], rfl, hb, Go.Deep.blk_alloc_new _ _, Nat.le_refl _, by unfold maxLen; omega, rfl, rfl⟩⟩, fun i hi => ?_⟩
  obtain rfl : i = 0 := by simp at hi; omega
  exact ⟨_, rfl, World.ownsRow_nil _ _ _ _, fun _ => rfl⟩

/-- The first marking. -/
theorem rmm_start {w : World} {base F g : Nat} {Z : Nat → Int} (hb : base ≤ w.heap.size) (h : Mk w g F Z) (h9 : ∀ i, i < F → 0 ≤ Z i ∧ Z i ≤ 9) :
    Rmm ((w.alloc (.cells #[.slice (some ⟨g, 0, none⟩) F F] 26)).alloc (.cells #[.slice none 0 0] 26)) base F [lst F Z] [[]] [] (.slice (some ⟨w.heap.size, 0, none⟩) 1 1) (.slice (some ⟨w.heap.size + 1, 0, none⟩) 1 1) (.slice none 0 0) := by
  have e : (w.alloc (.cells #[.slice (some ⟨g, 0, none⟩) F F] 26)).heap.size = w.heap.size + 1 := by simp
  refine ⟨mks_kp (L := [some 26, some 3]) (mks_one hb h) (kp_alloc _ _) (by decide) (by decide), ?_, ⟨[], World.ownsRow_nil _ _ _ _, fun i hi => by simp at hi⟩, fun b h1 h2 => ?_, fun m hm => ?_⟩
  · rw [← e]
    exact wys_one (by rw [e]; omega)
  · simp only [Value.ownBlock, Option.some.injEq] at h1 h2
    omega
  · obtain rfl := List.mem_singleton.1 hm
    exact shp_lst h9

/-- 's.Next = append(s.Next, next)'. -/
theorem Ri.fin {W w0 w1 wr w6 : World} {r : Nat} {tk : Int} {q F : Nat} {nx : Int → List Int → List Int} {cn : List Int → List Int} {m0 : List Int} {R : Sum (Int × List Int) Xp} {T S : Xp} {k kk : Nat} {mv wv mv0 wv0 nv ev v6 : Value} {Vs : List Value} {o : Obj}
    (h0 : Rx W w0 r tk q F nx cn m0 R T k mv0 wv0 nv) (h : Ri W w1 wr r tk q F nx cn m0 T S kk mv wv nv ev) (hkk : kk = (cn T.here).length) (hq : q ≤ 200) (hlt : T.nexts.length < T.marks.length) (hr : r < W.heap.size) (hW : W.heap.size ≤ w1.heap.size)
    (hV : wr.ownsRow W.heap.size 31 1 nv k Vs ∧ ∀ i, i < k → ∃ v, Vs[i]? = some v ∧ wr.ownsRow W.heap.size 44 2 v (T.nexts.getD i []).length (pvals (T.nexts.getD i [])))
    (hown : w6.ownsRow W.heap.size 31 1 v6 (k + 1) (Vs ++ [ev])) (hgrow : (wr.alloc o).grownBy w6 nv.ownBlock) :
    (∃ a c, v6 = .slice a (k + 1) c) ∧ w6.frozen? ⟨r, 1, none⟩ = false ∧ w6.cell? ⟨r, 1, none⟩ = some nv ∧ Hid (Rx W (w6.setCell ⟨r, 1, none⟩ v6) r tk q F nx cn m0 R S.close (k + 1) mv wv v6) := by
  have hWr : W.heap.size ≤ wr.heap.size := Nat.le_trans hW h.size
  have hbW : Below W.heap.size wr w6 := below_grown hV.1 hgrow hWr
  have kp : Kp [some 26, some 3, some 44] wr w6 := kp_grown hV.1 hgrow (by decide)
  have hb6 := h.blr.next hr hbW
  have kp7 : Kp [some 26, some 3, some 31, some 44] w6 (w6.setCell ⟨r, 1, none⟩ v6) := kp_set hb6.two (by decide) v6
  have kp8 : Kp [some 26, some 3, some 44] wr (w6.setCell ⟨r, 1, none⟩ v6) := kp.trans (kp7.sub (by decide))
  have hcl := ri_len h (by omega)
  have hin : xinner tk q nx (cn T.here) T = .inr S := by
    rw [← h.rest, hkk, List.drop_length]
    rfl
  have hI : XInv tk q nx cn m0 S (cn S.here) := by
    have := h.inv
    rw [hkk, List.take_length] at this
    rw [h.her]
    exact this
  obtain ⟨f, hf, hR⟩ := h0.rest
  have h1 := h0.len
  have h2 := h0.inv.few
  refine ⟨?_, (two_cells hb6.two).2.2, (two_cells hb6.two).1.2, hb6.set v6, by simp [World.setCell]; exact Nat.le_trans hWr hbW.size, ?_, ?_, xclose_inv hI h.lt, rfl, ?_⟩
  · rcases hown.2 with ⟨_, h0⟩ | ⟨g, cap, cur, rfl, _⟩
    · omega
    · exact ⟨_, _, rfl⟩
  · cases f with
    | zero => omega
    | succ f =>
      refine ⟨f, by omega, ?_⟩
      unfold xouter at hR
      rw [if_pos hlt, hin] at hR
      exact hR
  · show (S.nexts ++ [S.cur]).length = k + 1
    rw [h.nex]
    simp [h1]
  · obtain ⟨Us, hU, hU2⟩ := h.mem.wys
    refine ⟨mks_kp h.mem.mks kp8 (by decide) (by decide), ⟨Us, row_kp hU kp8 (by decide), fun i hi => ?_⟩, ⟨Vs ++ [ev], ?_, fun i hi => ?_⟩, h.mem.apart, h.mem.shp⟩
    · obtain ⟨v, h3, h4, h5⟩ := hU2 i hi
      exact ⟨v, h3, row_kp h4 kp8 (by decide), h5⟩
    · show (w6.setCell ⟨r, 1, none⟩ v6).ownsRow W.heap.size 31 1 v6 (S.nexts ++ [S.cur]).length (Vs ++ [ev])
      have hl : (S.nexts ++ [S.cur]).length = k + 1 := by rw [h.nex]; simp [h1]
      rw [hl]
      exact row_kp hown kp7 (by decide)
    · have hi : i < (S.nexts ++ [S.cur]).length := hi
      show ∃ v, (Vs ++ [ev])[i]? = some v ∧ (w6.setCell ⟨r, 1, none⟩ v6).ownsRow W.heap.size 44 2 v ((S.nexts ++ [S.cur]).getD i []).length (pvals ((S.nexts ++ [S.cur]).getD i []))
      have hl : (S.nexts ++ [S.cur]).length = k + 1 := by rw [h.nex]; simp [h1]
      rw [hl] at hi
      have hVl : Vs.length = k := by have := hV.1.1; omega
      by_cases e : i = k
      · subst e
        refine ⟨ev, by rw [List.getElem?_append_right (by omega), hVl]; simp, ?_⟩
        have e2 : (S.nexts ++ [S.cur]).getD i [] = S.cur := by rw [h.nex, ← h1]; simp
        rw [e2, hcl]
        exact row_kp (owns_base h.edg hW) kp8 (by decide)
      · obtain ⟨v, h3, h4⟩ := hV.2 i (by omega)
        refine ⟨v, by rw [List.getElem?_append_left (by omega), h3], ?_⟩
        have e2 : (S.nexts ++ [S.cur]).getD i [] = T.nexts.getD i [] := by rw [h.nex]; simp [List.getElem?_append_left (show i < T.nexts.length by omega)]
        rw [e2]
        exact row_kp h4 kp8 (by decide)

/-- The way is told. -/
theorem blr_ret {w W u : World} {r lo n c : Nat} {nv : Value} {a : Option Addr} {y : List Int} (hw : Below w.heap.size w W) (hrw : w.heap.size ≤ r) (h : Blr W u r nv) (hn : n = y.length) (hy : u.ownsRow lo 3 1 (.slice a n c) n (vals y)) :
    Below w.heap.size w ((u.setCell ⟨r, 0, none⟩ (.slice none 0 0)).setCell ⟨r, 1, none⟩ (.slice none 0 0)) ∧ Row ((u.setCell ⟨r, 0, none⟩ (.slice none 0 0)).setCell ⟨r, 1, none⟩ (.slice none 0 0)) a n (fun i => y.getD i 0) := by
  have h1 : Below w.heap.size w u := hw.trans (h.below.mono hrw)
  exact ⟨(h1.setCell hrw _).setCell hrw _, owns_row' hn (row_kp hy (kp_two (L := [some 3]) h.two (by decide)) (by decide))⟩

/-! ### One edge -/
theorem put_over {tk : Int} {q : Nat} {nx : Int → List Int → List Int} {S : Xp} {s : Int} {m' : List Int} (hn : nx s S.here = m') (ho : ovr tk m' = true) : xput tk q nx S s = .inl (7, S.way s) := by
  unfold xput
  rw [hn, if_pos ho]

theorem put_found {tk : Int} {q : Nat} {nx : Int → List Int → List Int} {S : Xp} {s : Int} {m' : List Int} {j : Nat} (hn : nx s S.here = m') (ho : ovr tk m' = false) (hd : S.marks.Nodup) (hj : j < S.marks.length) (he : S.marks.getD j [] = m') : xput tk q nx S s = .inr { S with cur := S.cur ++ [(s, (j : Int))] } := by
  have he' : S.marks[j] = m' := by rw [← he, List.getD_eq_getElem?_getD, List.getElem?_eq_getElem hj]; rfl
  have hi : S.marks.idxOf m' = j := by rw [← he']; exact hd.idxOf_getElem _ hj
  unfold xput
  rw [hn, if_neg (by rw [ho]; decide), if_pos (by rw [← he']; exact List.getElem_mem hj), hi]

theorem not_mem_of {l : List (List Int)} {m' : List Int} (h : ∀ x, x < l.length → l.getD x [] ≠ m') : m' ∉ l := fun hm => by
  obtain ⟨i, hi, e⟩ := List.getElem_of_mem hm
  refine h i hi ?_
  rw [List.getD_eq_getElem?_getD, List.getElem?_eq_getElem hi]
  exact e

theorem put_full {tk : Int} {q : Nat} {nx : Int → List Int → List Int} {S : Xp} {s : Int} {m' : List Int} (hn : nx s S.here = m') (ho : ovr tk m' = false) (h : ∀ x, x < S.marks.length → S.marks.getD x [] ≠ m') (hq : S.marks.length = q) : xput tk q nx S s = .inl (8, S.way s) := by
  unfold xput
  rw [hn, if_neg (by rw [ho]; decide), if_neg (not_mem_of h), if_pos hq]

theorem put_new {tk : Int} {q : Nat} {nx : Int → List Int → List Int} {S : Xp} {s : Int} {m' : List Int} (hn : nx s S.here = m') (ho : ovr tk m' = false) (h : ∀ x, x < S.marks.length → S.marks.getD x [] ≠ m') (hq : S.marks.length ≠ q) :
    xput tk q nx S s = .inr { S with marks := S.marks ++ [m'], ways := S.ways ++ [S.way s], cur := S.cur ++ [(s, ((S.marks.length : Nat) : Int))] } := by
  unfold xput
  rw [hn, if_neg (by rw [ho]; decide), if_neg (not_mem_of h), if_neg hq]

/-- Are two markings the same? -/
theorem equal_marks {a a' : Option Addr} {F c c' : Nat} {m : List Int} {Z : Nat → Int} {w : World} (hF : F ≤ 30) (hs : Shp F m) (h : Row w a F (fnl m)) (h' : Row w a' F Z) (z : Bool) (hz : z = true ↔ m = lst F Z) :
    Calls Try.prog 12 #[.slice a F c, .slice a' F c'] w fun e w' => e = .returned (.bool z) ∧ ∃ q, w' = w.drewN q := by
  refine (equal_any a a' F c F c' (fnl m) Z w (by omega) h h').mono fun e w' hh => ⟨?_, hh.2⟩
  rw [hh.1]
  have : same F F (fnl m) Z = z := by
    rw [Bool.eq_iff_iff, hz]
    unfold same
    rw [decide_eq_true_eq]
    constructor
    · intro h1
      rw [hs.1]
      exact lst_congr h1.2
    · intro h1
      refine ⟨rfl, fun i hi => ?_⟩
      rw [h1, fnl_lst hi]
  rw [this]

end Go.Proofs.Ythpbgfodejoecaa
