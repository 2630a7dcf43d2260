/- Begin, Enabled, Fire: of a board, of a process. Rest, sumOf, walked. -/
import Derived.Test.YthpbgfodejoecaaGameLay
namespace Go.Proofs.Ythpbgfodejoecaa
open Go.RowKit

theorem spE_zero {e0 : Int} {n : Nat} (h : spE e0 n = 0) : e0 = 0 ∧ n ≤ 60 := by
  unfold spE at h
  by_cases h1 : e0 = 0
  · rw [if_pos h1] at h
    by_cases h2 : n ≤ 60
    · exact ⟨h1, h2⟩
    · rw [if_neg h2] at h; cases h
  · rw [if_neg h1] at h
    exact absurd h h1

/-- An error and no list. -/
def Err (E : Int) (e : Ending) : Prop := e = .returned (.tuple #[.slice none 0 0, .int .i64 E])

/-- The error, or what is answered without one. -/
def Ans (E : Int) (P : Ending → World → Prop) (e : Ending) (w : World) : Prop := E ≠ 0 ∧ Err E e ∨ E = 0 ∧ P e w

set_option maxHeartbeats 2000000 in
theorem enabledB_own {na fa sa ia oa : Option Addr} {N nc F fc sc ic oc : Nat} {M : Nat → ByteArray} {K A B : Nat → Int} {l : List St3} {w : World} (h : Brd w na N nc fa F sa ia oa M K A B l) {ma : Option Addr} {mc : Nat} {m : Nat → Int} (hm : Row w ma F m) (h9 : ∀ i, i < F → 0 ≤ m i ∧ m i ≤ 9)
    (X : Nat → Int) (hX : ∀ i, i < l.length → (X i = 1 ↔ enb K A B F m (l.getD i (0, 0, 0)))) :
    Calls Try.prog 44 #[.agg #[.slice na N nc, .slice fa F fc, .slice sa l.length sc, .slice ia N ic, .slice oa N oc], .slice ma F mc] w fun e w' => Below w.heap.size w w' ∧ ∃ a c, e = .returned (.tuple #[.slice a (tally X 1 l.length) c, .int .i64 0]) ∧ w'.ownsRow w.heap.size 3 1 (.slice a (tally X 1 l.length) c) (tally X 1 l.length) (vals (fl X 1 l.length)) := by
  have HM : Hid (Row w ma F m) := hm
  have HX : Hid (∀ i, i < l.length → (X i = 1 ↔ enb K A B F m (l.getD i (0, 0, 0)))) := hX
  obtain ⟨i0, hi, hz0, hz1, hz2⟩ := info_parts Try.info3
  have HI : Hid (Try.prog.info? 3 = some i0 ∧ i0.zero = some (.int .i64 0) ∧ i0.size = 1 ∧ i0.bytes = 8) := ⟨hi, hz0, hz1, hz2⟩
  have hfew := h.few
  have hF30 : F ≤ 30 := (chk_zero h.chk).1.2
  have HLis : Hid (∀ i, i < l.length → l.getD i (0, 0, 0) ∈ stAll K A B F N) := fun i hi => by rw [← h.lis]; exact getD3_mem hi
  obtain ⟨W, eW⟩ : ∃ x, x = w.alloc (.cells #[.slice na N nc, .slice fa F fc, .slice sa l.length sc, .slice ia N ic, .slice oa N oc] 94) := ⟨_, rfl⟩
  have HW : Hid (Below w.heap.size w W ∧ W.heap.size = w.heap.size + 1) := by subst eW; exact ⟨box_below _ _, by simp⟩
  have HEW : Hid (w.alloc (.cells #[.slice na N nc, .slice fa F fc, .slice sa l.length sc, .slice ia N ic, .slice oa N oc] 94) = W) := eW.symm
  have HBx : Hid (∀ u, Below W.heap.size W u → u.cell? ⟨w.heap.size, 0, none⟩ = some (.slice na N nc) ∧ u.cell? ⟨w.heap.size, 1, none⟩ = some (.slice fa F fc) ∧ u.cell? ⟨w.heap.size, 2, none⟩ = some (.slice sa l.length sc) ∧ u.cell? ⟨w.heap.size, 3, none⟩ = some (.slice ia N ic) ∧ u.cell? ⟨w.heap.size, 4, none⟩ = some (.slice oa N oc)) := fun u hu => by
    subst eW
    exact ⟨new_alloc hu rfl, new_alloc hu rfl, new_alloc hu rfl, new_alloc hu rfl, new_alloc hu rfl⟩
  have HOk : Hid (mkOk F F m = true) := mkOk_yes h9
  have C0 : Hid (Calls Try.prog 74 #[.agg #[.slice na N nc, .slice fa F fc, .slice sa l.length sc, .slice ia N ic, .slice oa N oc], .slice ma F mc] W fun e w' => e = .returned (.bool (mkOk F F m)) ∧ Below W.heap.size W w') := isMarking_any _ _ _ _ _ N nc F fc _ sc N ic N oc _ F mc m W (by omega) (hm.below HW.out.1)
  have HBrd0 : Hid (Brd W na N nc fa F sa ia oa M K A B l) := h.below HW.out.1
  clear eW h hm h9 hX hi hz0 hz1 hz2
  go_enter Try.func44, Try.ntmps44
  go_wp2_with fail
  rw [HEW.out]
  refine C0.out.mono ?_
  rintro e W2 ⟨he, hb0⟩
  rw [HOk.out] at he
  subst he
  have HB0 : Hid (Below W.heap.size W W2) := hb0
  have HBw2 : Hid (Below w.heap.size w W2) := HW.out.1.trans (hb0.mono HW.out.1.size)
  have hsz2 : w.heap.size < W2.heap.size := by have := hb0.size; have := HW.out.2; omega
  have HBrd : Hid (Brd W2 na N nc fa F sa ia oa M K A B l) := HBrd0.out.below hb0
  obtain ⟨a0, a1, a2, a3, a4⟩ := HBx.out W2 hb0
  clear hb0 C0 HBrd0
  go_wp2
  clear a0 a1 a2 a3 a4
  go_loopw [6, 16] (fun v i wr => ∃ (k : Nat) (va : Option Addr) (vc : Nat), k ≤ l.length ∧ i = .int .i64 k ∧ v = .slice va (tally X 1 k) vc ∧ Hid (Below W2.heap.size W2 wr ∧ wr.ownsRow W2.heap.size 3 1 (.slice va (tally X 1 k) vc) (tally X 1 k) (vals (fl X 1 k)))) (fun _ i _ => l.length - (intOf i).toNat)
  case atStart => exact ⟨0, none, 0, Nat.zero_le _, rfl, rfl, hid ⟨Below.refl _ _, World.ownsRow_nil _ _ _ _⟩⟩
  case round =>
    obtain ⟨k, va, vc, hk, rfl, rfl, HS⟩ := hrel
    have HBw : Hid (Below w.heap.size w wr) := HBw2.out.trans (HS.out.1.mono HBw2.out.size)
    by_cases hlt : k < l.length
    · obtain ⟨sb, so, hsa, hsc⟩ := HBrd.out.sts
      obtain rfl := hsa (by omega)
      obtain ⟨hc0, hc1, hc2⟩ := Sts.at hsc HS.out.1 hlt
      have hmem := HLis.out k hlt
      obtain ⟨j, hj, ht1, ht2, ht3, ht4⟩ := step_facts hmem
      have HXk1 := HX.out k hlt
      obtain ⟨t, ht⟩ : ∃ t, t = l.getD k (0, 0, 0) := ⟨_, rfl⟩
      rw [← ht] at ht1 ht2 ht3 ht4 hc0 hc1 hc2 HXk1
      obtain ⟨t1, x, o⟩ := t
      simp only at ht1 ht2 ht3 ht4 hc0 hc1 hc2
      subst ht1
      have hxn : x < (F : Int) := by
        have h0 := chk_some HBrd.out.chk
        rcases ht2 with h2 | ⟨q, h2, h5, _⟩ <;> omega
      have HXk2 : Hid (X k = 1 ↔ enb K A B F m ((j : Int), x, o)) := HXk1
      have hsl : sb < wr.heap.size := World.block_lt_of_cell? _ _ hc0
      obtain ⟨a0, a1, a2, a3, a4⟩ := HBx.out wr (HB0.out.trans (HS.out.1.mono HB0.out.size))
      have hs1 : w.heap.size < wr.heap.size := by have := HS.out.1.size; omega
      obtain ⟨U, eU⟩ : ∃ u, u = wr.alloc (.cells #[.int .i64 j, .int .i64 x, .int .i64 o] 66) := ⟨_, rfl⟩
      have HU : Hid (Below wr.heap.size wr U) := by subst eU; exact box_below _ _
      have HEU : Hid (wr.alloc (.cells #[.int .i64 j, .int .i64 x, .int .i64 o] 66) = U) := eU.symm
      have HB2 : Hid (Below W2.heap.size W2 U) := HS.out.1.trans (HU.out.mono HS.out.1.size)
      have C3 : Hid (Calls Try.prog 75 #[.agg #[.slice na N nc, .slice fa F fc, .slice (some ⟨sb, so, none⟩) l.length sc, .slice ia N ic, .slice oa N oc], .slice ma F mc, .agg #[.int .i64 j, .int .i64 x, .int .i64 o]] U fun e w' => Told (enb K A B F m ((j : Int), x, o)) e ∧ Below U.heap.size U w') := isEnabled_any (HBrd.out.below HB2.out) (HM.out.below (HBw.out.trans (HU.out.mono HBw.out.size))) hj hxn
      clear ht2 ht3 ht4 ht HXk1 hmem hsc hsa eU
      have htl := tally_le X 1 k
      go_wp2_with fail
      rw [HEU.out]
      refine C3.out.mono ?_
      rintro e w3 ⟨⟨z, rfl, hz⟩, hb3⟩
      have HB3 : Hid (Below W2.heap.size W2 w3) := HB2.out.trans (hb3.mono HB2.out.size)
      have HO3 : Hid (w3.ownsRow W2.heap.size 3 1 (.slice va (tally X 1 k) vc) (tally X 1 k) (vals (fl X 1 k))) := below_ownsRow (below_ownsRow HS.out.2 HU.out) hb3
      have HSz3 : Hid (W2.heap.size ≤ w3.heap.size) := HB3.out.size
      have HZ : Hid (z = true ↔ X k = 1) := hz.trans HXk2.out.symm
      clear hz hb3 C3 hc0 hc1 hc2 a0 a1 a2 a3 a4
      cases hzz : z
      · have HXk : Hid (X k ≠ 1) := fun hh => by have := HZ.out.2 hh; rw [hzz] at this; cases this
        clear hzz HZ
        go_wp2
        go_roundw
        case rel => exact ⟨k + 1, va, vc, by omega, by go_num, by rw [tally_miss HXk.out], hid ⟨HB3.out, by have := HO3.out; rw [tally_miss HXk.out, fl_miss HXk.out]; exact this⟩⟩
        case measure => simp [intOf]; omega
      · have HXk : Hid (X k = 1) := HZ.out.1 hzz
        clear hzz HZ
        go_wp2_with (at_builtin; refine wpList_append_own_at _ rfl _ _ 26 rfl W2.heap.size 3 i0 (.int .i64 0) 1 8 Try.underlying26 HI.out.1 HI.out.2.1 HI.out.2.2.1 HI.out.2.2.2 rfl (by decide) _ _ _ rfl (HO3.out.alloc _) ⟨w3.heap.size, 0, none⟩ 1 1 [.int .i64 k] rfl rfl (cell_one_new _ _ _) (ints_oneCell .i64 [(k : Int)]) (by unfold maxLen; omega) (by omega) (by have := HSz3.out; simp; omega) ?_; intro v' w4 hown hgrow _ _; obtain ⟨⟨a4, c4, rfl⟩, H4⟩ := fl_step HB3.out HO3.out HXk.out hown hgrow; clear hown hgrow)
        go_roundw
        case rel => exact ⟨k + 1, a4, c4, by omega, by go_num, by rw [tally_hit HXk.out], hid ⟨H4.out.1, by have := H4.out.2; rw [tally_hit HXk.out] at this ⊢; exact this⟩⟩
        case measure => simp [intOf]; omega
    · obtain rfl : l.length = k := by omega
      go_wp2
      go_ret2
      exact ⟨HBw.out, va, vc, rfl, owns_base HS.out.2 HBw2.out.size⟩

end Go.Proofs.Ythpbgfodejoecaa

namespace Go.Proofs.Ythpbgfodejoecaa
open Go.RowKit

/-- Markings along steps. -/
structure Pth (K A B : Nat → Int) (F : Nat) (l : List St3) (n : Nat) (Ms : Nat → Nat → Int) (S : Nat → Nat) : Prop where
  zero : Ms 0 = bgn K A
  ok : ∀ i, i ≤ n → ∀ j, j < F → 0 ≤ Ms i j ∧ Ms i j ≤ 9
  step : ∀ i, i < n → S i < l.length ∧ enb K A B F (Ms i) (l.getD (S i) (0, 0, 0)) ∧ Ms (i + 1) = frs K A B (l.getD (S i) (0, 0, 0)) (Ms i)

theorem bgn_ok (K A : Nat → Int) (j : Nat) : 0 ≤ bgn K A j ∧ bgn K A j ≤ 9 := by unfold bgn; split <;> omega

theorem Pth.snoc {K A B : Nat → Int} {F : Nat} {l : List St3} {n : Nat} {Ms : Nat → Nat → Int} {S : Nat → Nat} (h : Pth K A B F l n Ms S) {s : Nat} (h1 : s < l.length) (h2 : enb K A B F (Ms n) (l.getD s (0, 0, 0))) (h3 : ∀ j, j < F → frs K A B (l.getD s (0, 0, 0)) (Ms n) j ≤ 9) :
    Pth K A B F l (n + 1) (fun i => if i = n + 1 then frs K A B (l.getD s (0, 0, 0)) (Ms n) else Ms i) (fun i => if i = n then s else S i) := by
  refine ⟨by simp [h.zero], fun i hi j hj => ?_, fun i hi => ?_⟩
  · show 0 ≤ (if i = n + 1 then _ else Ms i) j ∧ (if i = n + 1 then _ else Ms i) j ≤ 9
    by_cases e : i = n + 1
    · rw [if_pos e]
      exact ⟨frs_bound h2 (h.ok n (Nat.le_refl _)) j hj, h3 j hj⟩
    · rw [if_neg e]
      exact h.ok i (by omega) j hj
  · by_cases e : i = n
    · subst e
      simp only [if_true, if_neg (show ¬ i = i + 1 by omega)]
      exact ⟨h1, h2, trivial⟩
    · simp only [if_neg e, if_neg (show ¬ i = n + 1 by omega), if_neg (show ¬ i + 1 = n + 1 by omega)]
      exact h.step i (by omega)

/-- n markings in memory, in a list of the call's own. -/
structure Mrs (w : World) (base : Nat) (v : Value) (F n : Nat) (Ms : Nat → Nat → Int) (G : Nat → Nat) : Prop where
  own : ∃ Vs, w.ownsRow base 26 1 v n Vs ∧ ∀ i, i < n → ∃ c, Vs[i]? = some (.slice (some ⟨G i, 0, none⟩) F c)
  rows : ∀ i, i < n → Mk w (G i) F (Ms i)

theorem mk_tag {w : World} {g n : Nat} {Z : Nat → Int} (h : Mk w g n Z) : ∃ c, w.heap[g]? = some (.cells c 3 (0, 0)) := by
  obtain ⟨cap, f, _, ⟨c, h2, _⟩, _⟩ := h
  exact ⟨c, h2⟩

theorem own_tag {w : World} {base n : Nat} {t : TypeId} {v : Value} {xs : List Value} (h : w.ownsRow base t 1 v n xs) {b : Nat} (hb : v.ownBlock = some b) : ∃ c, w.heap[b]? = some (.cells c t (0, 0)) := by
  rcases h.2 with ⟨rfl, _⟩ | ⟨g, cap, cur, rfl, _, hg, _⟩
  · cases hb
  · cases hb
    exact ⟨cur, hg⟩

theorem tags_ne {w : World} {a b : Nat} {c d : Array Value} (h1 : w.heap[a]? = some (.cells c 3 (0, 0))) (h2 : w.heap[b]? = some (.cells d 26 (0, 0))) : a ≠ b := by
  intro e
  subst e
  rw [h1] at h2
  simp at h2

theorem Mrs.below {w w' : World} {base : Nat} {v : Value} {F n : Nat} {Ms : Nat → Nat → Int} {G : Nat → Nat} (h : Mrs w base v F n Ms G) (hb : Below w.heap.size w w') : Mrs w' base v F n Ms G := by
  obtain ⟨⟨Vs, h1, h2⟩, h3⟩ := h
  exact ⟨⟨Vs, below_ownsRow h1 hb, h2⟩, fun i hi => (h3 i hi).below hb⟩

theorem mrs_start {w : World} {base g F c : Nat} {Z : Nat → Int} (hb : base ≤ w.heap.size) (h : Mk w g F Z) : Mrs (w.alloc (.cells #[.slice (some ⟨g, 0, none⟩) F c] 26)) base (.slice (some ⟨w.heap.size, 0, none⟩) 1 1) F 1 (fun _ => Z) (fun _ => g) := by
  refine ⟨⟨[.slice (some ⟨g, 0, none⟩) F c], ⟨rfl, Or.inr ⟨w.heap.size, 1, #[.slice (some ⟨g, 0, none⟩) F c], rfl, hb, Go.Deep.blk_alloc_new _ _, Nat.le_refl _, by unfold maxLen; omega, rfl, rfl⟩⟩, fun i hi => ?_⟩, fun i _ => h.alloc _⟩
  obtain rfl : i = 0 := by omega
  exact ⟨c, rfl⟩

/-- 'marks = append(marks, m)'. -/
theorem Mrs.app {w w1 : World} {base : Nat} {v v' : Value} {F n g c : Nat} {Ms : Nat → Nat → Int} {G : Nat → Nat} {Z : Nat → Int} {Vs : List Value} {o : Obj} (h : Mrs w base v F n Ms G) (hV : w.ownsRow base 26 1 v n Vs ∧ ∀ i, i < n → ∃ c, Vs[i]? = some (.slice (some ⟨G i, 0, none⟩) F c)) (hm : Mk w g F Z)
    (hown : w1.ownsRow base 26 1 v' (n + 1) (Vs ++ [.slice (some ⟨g, 0, none⟩) F c])) (hgrow : (w.alloc o).grownBy w1 v.ownBlock) :
    (∃ a c, v' = .slice a (n + 1) c) ∧ Hid (Mrs w1 base v' F (n + 1) (fun i => if i = n then Z else Ms i) (fun i => if i = n then g else G i)) := by
  have hg : w.grownBy w1 v.ownBlock := (World.grownBy_alloc _ _ _).trans hgrow
  have keep : ∀ {b Y}, Mk w b F Y → Mk w1 b F Y := fun {b Y} hb => hb.of_block (hg.block b hb.lt (fun e => by
    obtain ⟨d, hd⟩ := own_tag hV.1 e.symm
    obtain ⟨d2, hd2⟩ := mk_tag hb
    exact tags_ne hd2 hd rfl))
  refine ⟨?_, hid ⟨⟨_, hown, fun i hi => ?_⟩, fun i hi => ?_⟩⟩
  · rcases hown.2 with ⟨_, h0⟩ | ⟨g, cap, cur, rfl, _⟩
    · omega
    · exact ⟨_, _, rfl⟩
  · have hl : Vs.length = n := by have := hV.1.1; omega
    by_cases e : i = n
    · subst e
      exact ⟨c, by rw [List.getElem?_append_right (by omega), hl]; simp⟩
    · obtain ⟨c', hc'⟩ := hV.2 i (by omega)
      exact ⟨c', by rw [List.getElem?_append_left (by omega), hc', if_neg e]⟩
  · by_cases e : i = n
    · simp only [if_pos e]
      exact keep hm
    · simp only [if_neg e]
      exact keep (h.rows i (by omega))

theorem Mrs.gr {w : World} {base : Nat} {a : Option Addr} {c F n : Nat} {Ms : Nat → Nat → Int} {G : Nat → Nat} (h : Mrs w base (.slice a n c) F n Ms G) : Gr w a n (fun _ => F) Ms := by
  obtain ⟨⟨Vs, h1, h2⟩, h3⟩ := h
  rcases h1.2 with ⟨hv, h0⟩ | ⟨g, cap, cur, hv, _, hg, hle, _, hs, ht⟩
  · subst h0
    exact ⟨0, 0, fun hh => by omega, fun i hi => by omega⟩
  · simp only [Value.slice.injEq] at hv
    obtain ⟨rfl, _, rfl⟩ := hv
    refine ⟨g, 0, fun _ => rfl, fun i hi => ?_⟩
    obtain ⟨c', hc'⟩ := h2 i hi
    refine ⟨_, c', ?_, (h3 i hi).row⟩
    have h4 : (cur.toList.take (n * 1))[i]? = some (.slice (some ⟨G i, 0, none⟩) F c') := by rw [ht]; exact hc'
    rw [List.getElem?_take, if_pos (by omega), Array.getElem?_toList] at h4
    rw [Nat.zero_add]
    exact cell_of_cells hg h4

theorem Ans.ok {E : Int} {P : Ending → World → Prop} {e : Ending} {w : World} (h : Ans E P e w) (hE : E = 0) : P e w := by
  rcases h with h | h
  · exact absurd hE h.1
  · exact h.2

/-- What walked has made till then. -/
structure Wkd (W wr : World) (K A B : Nat → Int) (F : Nat) (l : List St3) (k : Nat) (v u : Value) (Ms : Nat → Nat → Int) (S : Nat → Nat) (G : Nat → Nat) : Prop where
  below : Below W.heap.size W wr
  mrs : Mrs wr W.heap.size v F (k + 1) Ms G
  stp : wr.ownsRow W.heap.size 3 1 u k (vals (lst k (fun i => (S i : Int))))
  sep : ∀ b, u.ownBlock = some b → ∀ i, i < k + 1 → G i ≠ b
  pth : Pth K A B F l k Ms S

theorem lst_snoc (k : Nat) (Z : Nat → Int) : lst (k + 1) Z = lst k Z ++ [Z k] := by simp [lst, List.range_succ]

theorem lst_congr {k : Nat} {Y Z : Nat → Int} (h : ∀ i, i < k → Y i = Z i) : lst k Y = lst k Z := by
  unfold lst
  exact List.map_congr_left (fun i hi => h i (List.mem_range.1 hi))

/-- 'l = append(l, k)', behind 'marks = append(marks, m)'. -/
theorem Wkd.app {W wr w2 w3 : World} {K A B : Nat → Int} {F : Nat} {l : List St3} {k : Nat} {v u v' u' : Value} {Ms : Nat → Nat → Int} {S : Nat → Nat} {G : Nat → Nat} {s g : Nat} {o : Obj} (h : Wkd W wr K A B F l k v u Ms S G)
    (h1 : s < l.length) (h2 : enb K A B F (Ms k) (l.getD s (0, 0, 0))) (h3 : ∀ j, j < F → frs K A B (l.getD s (0, 0, 0)) (Ms k) j ≤ 9) (hbg : wr.heap.size ≤ g)
    (hm : Mrs w2 W.heap.size v' F (k + 1 + 1) (fun i => if i = k + 1 then frs K A B (l.getD s (0, 0, 0)) (Ms k) else Ms i) (fun i => if i = k + 1 then g else G i)) (hb2 : Below W.heap.size W w2) (hu2 : w2.ownsRow W.heap.size 3 1 u k (vals (lst k (fun i => (S i : Int)))))
    (hown : w3.ownsRow W.heap.size 3 1 u' (k + 1) (vals (lst k (fun i => (S i : Int))) ++ [.int .i64 (s : Int)])) (hgrow : (w2.alloc o).grownBy w3 u.ownBlock) (hloc : u'.ownBlock = u.ownBlock ∨ u'.ownBlock = some (w2.alloc o).heap.size) :
    (∃ a c, u' = .slice a (k + 1) c) ∧ Hid (Wkd W w3 K A B F l (k + 1) v' u' (fun i => if i = k + 1 then frs K A B (l.getD s (0, 0, 0)) (Ms k) else Ms i) (fun i => if i = k then s else S i) (fun i => if i = k + 1 then g else G i)) := by
  have hg : w2.grownBy w3 u.ownBlock := (World.grownBy_alloc _ _ _).trans hgrow
  have hold : ∀ b, u.ownBlock = some b → b < wr.heap.size := fun b hb => (h.stp.lt b hb).2
  have hsep : ∀ b, u.ownBlock = some b → ∀ i, i < k + 1 + 1 → (if i = k + 1 then g else G i) ≠ b := fun b hb i hi => by
    by_cases e : i = k + 1
    · rw [if_pos e]
      have := hold b hb
      omega
    · rw [if_neg e]
      exact h.sep b hb i (by omega)
  obtain ⟨⟨Vs, hV1, hV2⟩, hrows⟩ := hm
  refine ⟨?_, hid ⟨hb2.grown hg hb2.size (fun b hb => (h.stp.lt b hb).1), ⟨⟨Vs, ?_, hV2⟩, fun i hi => ?_⟩, ?_, ?_, h.pth.snoc h1 h2 h3⟩⟩
  · rcases hown.2 with ⟨_, h0⟩ | ⟨g, cap, cur, rfl, _⟩
    · omega
    · exact ⟨_, _, rfl⟩
  · refine hV1.kept hg ?_
    cases hv : v'.ownBlock with
    | none => exact Or.inl rfl
    | some b =>
      refine Or.inr (fun e => ?_)
      obtain ⟨d, hd⟩ := own_tag hV1 hv
      obtain ⟨d2, hd2⟩ := own_tag hu2 e.symm
      exact tags_ne hd2 hd rfl
  · exact (hrows i hi).of_block (hg.block _ (hrows i hi).lt (fun e => hsep _ e.symm i hi rfl))
  · have e : lst (k + 1) (fun i => ((if i = k then s else S i : Nat) : Int)) = lst k (fun i => (S i : Int)) ++ [(s : Int)] := by
      rw [lst_snoc, lst_congr (k := k) (Z := fun i => (S i : Int)) (fun i hi => by rw [if_neg (by omega)])]
      simp
    rw [e, ← vals_snoc]
    exact hown
  · intro b hb i hi
    rcases hloc with hl | hl
    · exact hsep b (by rw [← hl]; exact hb) i hi
    · rw [hl] at hb
      simp only [Option.some.injEq] at hb
      have h4 := (hrows i hi).lt
      have : (w2.alloc o).heap.size = w2.heap.size + 1 := by simp
      omega

end Go.Proofs.Ythpbgfodejoecaa
