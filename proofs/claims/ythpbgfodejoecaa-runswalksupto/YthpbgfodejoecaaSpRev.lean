/- Reverse, wayTo. -/
import Derived.RegionTactic
import Derived.ChangeAlike
import Derived.Test.YthpbgfodejoecaaSpSpread
namespace Go.Proofs.Ythpbgfodejoecaa
open Go.RowKit Go.Maps

/-- What has been turned round so far. -/
def rv (Z : Nat → Int) (n k i : Nat) : Int := if i < k ∨ n < i + k + 1 then Z (n - 1 - i) else Z i

theorem rv_step {Z : Nat → Int} {n k j : Nat} (h : k < j) (hj : k + j + 1 = n) (i : Nat) (hi : i < n) : upd (upd (rv Z n k) k (Z j)) j (Z k) i = rv Z n (k + 1) i := by
  unfold upd rv
  by_cases e1 : i = j
  · subst e1
    rw [if_pos rfl, if_pos (by omega)]
    congr 1
    omega
  · rw [if_neg e1]
    by_cases e2 : i = k
    · subst e2
      rw [if_pos rfl, if_pos (by omega)]
      congr 1
      omega
    · rw [if_neg e2]
      by_cases e3 : i < k ∨ n < i + k + 1
      · rw [if_pos e3, if_pos (by omega)]
      · rw [if_neg e3, if_neg (by omega)]

/-- A row of cap cells, of which the first n are known. -/
def MkC (w : World) (g cap n : Nat) (Z : Nat → Int) : Prop := ∃ f, n ≤ cap ∧ w.rowIs g 3 cap f ∧ ∀ i, i < n → f i = .int .i64 (Z i)

theorem MkC.cell {w : World} {g cap n : Nat} {Z : Nat → Int} (h : MkC w g cap n Z) {i : Nat} (hi : i < n) : w.cell? ⟨g, i, none⟩ = some (.int .i64 (Z i)) := by
  obtain ⟨f, h1, h2, h3⟩ := h
  rw [h2.cell (by omega), h3 i hi]

theorem MkC.frozen {w : World} {g cap n : Nat} {Z : Nat → Int} (h : MkC w g cap n Z) (i : Nat) : w.frozen? ⟨g, i, none⟩ = false := by
  obtain ⟨f, _, h2, _⟩ := h
  exact h2.frozen i

theorem MkC.set {w : World} {g cap n : Nat} {Z : Nat → Int} (h : MkC w g cap n Z) (i : Nat) (x : Int) : MkC (w.setCell ⟨g, i, none⟩ (.int .i64 x)) g cap n (upd Z i x) := by
  obtain ⟨f, h1, h2, h3⟩ := h
  refine ⟨_, h1, h2.set i _, fun j hj => ?_⟩
  unfold upd
  by_cases e : j = i
  · simp [e]
  · simp [e, h3 j hj]

theorem MkC.congr {w : World} {g cap n : Nat} {Y Z : Nat → Int} (h : MkC w g cap n Y) (e : ∀ i, i < n → Y i = Z i) : MkC w g cap n Z := by
  obtain ⟨f, h1, h2, h3⟩ := h
  exact ⟨f, h1, h2, fun i hi => by rw [h3 i hi, e i hi]⟩

structure Rvd (w wr : World) (g cap n : Nat) (Z : Nat → Int) (k : Nat) : Prop where
  grown : w.grownBy wr (some g)
  row : MkC wr g cap n (rv Z n k)

theorem Rvd.next {w wr : World} {g cap n : Nat} {Z : Nat → Int} {k j : Nat} (h : Rvd w wr g cap n Z k) (hkj : k < j) (hj : k + j + 1 = n) : Rvd w ((wr.setCell ⟨g, k, none⟩ (.int .i64 (Z j))).setCell ⟨g, j, none⟩ (.int .i64 (Z k))).drew g cap n Z (k + 1) := by
  refine ⟨⟨h.grown.os, h.grown.tape, h.grown.output, ?_, fun i hi hne => ?_⟩, ?_⟩
  · have := h.grown.size
    simpa [World.setCell, World.drew] using this
  · have hig : i ≠ g := fun e => hne (by rw [e])
    show ((wr.setCell ⟨g, k, none⟩ (.int .i64 (Z j))).setCell ⟨g, j, none⟩ (.int .i64 (Z k))).heap[i]? = w.heap[i]?
    rw [Below.heap_setCell _ _ _ _ hig, Below.heap_setCell _ _ _ _ hig]
    exact h.grown.block i hi hne
  · exact ((h.row.set k (Z j)).set j (Z k)).congr (fun i hi => rv_step hkj hj i hi)

set_option maxHeartbeats 2000000 in
theorem reverse_any {w : World} {g cap n c : Nat} {Z : Nat → Int} (hn : n ≤ 1000) (h : MkC w g cap n Z) :
    Calls Try.prog 99 #[.slice (some ⟨g, 0, none⟩) n c] w fun e w' => e = .returned (.tuple #[]) ∧ w.grownBy w' (some g) ∧ MkC w' g cap n (fun i => Z (n - 1 - i)) := by
  have HS : Hid (Rvd w w g cap n Z 0) := ⟨⟨rfl, rfl, rfl, Nat.le_refl _, fun _ _ _ => rfl⟩, h.congr (fun i hi => by unfold rv; rw [if_neg (by omega)])⟩
  clear h
  have hn1 : IntKind.i64.wrap ((n : Int) - 1) = (n : Int) - 1 := by rw [IntKind.wrap_i64]; omega
  go_enter Try.func99, Try.ntmps99
  go_wp2
  go_loopw [2, 3] (fun iv jv wr => ∃ k : Nat, k ≤ n ∧ iv = .int .i64 k ∧ jv = .int .i64 ((n : Int) - 1 - k) ∧ Hid (Rvd w wr g cap n Z k)) (fun iv _ _ => n - (intOf iv).toNat)
  case atStart => exact ⟨0, Nat.zero_le _, rfl, by simp, HS.out⟩
  case round =>
    obtain ⟨k, hk, rfl, rfl, HT⟩ := hrel
    clear HS
    by_cases hlt : (k : Int) < (n : Int) - 1 - k
    · obtain ⟨j, hj⟩ : ∃ j : Nat, (n : Int) - 1 - k = j := ⟨((n : Int) - 1 - k).toNat, by omega⟩
      rw [hj]
      have hkj : k < j := by omega
      have hkj' : (k : Int) < (j : Int) := by omega
      have hkn : (k : Int) < (n : Int) := by omega
      have hjn : (j : Int) < (n : Int) := by omega
      have hne : ¬ k = j := by omega
      have hne2 : ¬ j = k := by omega
      have hck : wr.cell? ⟨g, k, none⟩ = some (.int .i64 (Z k)) := by
        have := HT.out.row.cell (i := k) (by omega)
        unfold rv at this
        rwa [if_neg (by omega)] at this
      have hcj : wr.cell? ⟨g, j, none⟩ = some (.int .i64 (Z j)) := by
        have := HT.out.row.cell (i := j) (by omega)
        unfold rv at this
        rwa [if_neg (by omega)] at this
      have hfk := HT.out.row.frozen k
      have hfj := HT.out.row.frozen j
      have HN : Hid (Rvd w ((wr.setCell ⟨g, k, none⟩ (.int .i64 (Z j))).setCell ⟨g, j, none⟩ (.int .i64 (Z k))).drew g cap n Z (k + 1)) := HT.out.next hkj (by omega)
      have hj1 : IntKind.i64.wrap ((j : Int) - 1) = (j : Int) - 1 := by rw [IntKind.wrap_i64]; omega
      clear HT
      go_wp2
      go_region
      go_wp2
      go_roundw
      case rel => exact ⟨k + 1, by omega, by go_num, by congr 1; omega, HN.out⟩
      case measure => simp [intOf]; omega
    · have HF : Hid (w.grownBy wr (some g) ∧ MkC wr g cap n (fun i => Z (n - 1 - i))) := ⟨HT.out.grown, HT.out.row.congr (fun i hi => by
        unfold rv
        by_cases e : i < k ∨ n < i + k + 1
        · rw [if_pos e]
        · rw [if_neg e]
          congr 1
          omega)⟩
      clear HT
      go_wp2
      go_end0
      exact ⟨rfl, HF.out⟩

set_option maxHeartbeats 1000000 in
theorem reverse_nil (w : World) : Calls Try.prog 99 #[.slice none 0 0] w fun e w' => e = .returned (.tuple #[]) ∧ w' = w := by
  go_enter Try.func99, Try.ntmps99
  go_wp2
  refine wp_loop_rounds 1 ?_
  rw [rounds_succ]
  go_wp2
  go_end0
  exact ⟨rfl, rfl⟩

theorem rev_lst {l : List Int} : vals (lst l.length (fun i => l.getD (l.length - 1 - i) 0)) = vals l.reverse := by
  congr 1
  apply List.ext_getElem?
  intro i
  unfold lst
  by_cases hi : i < l.length
  · have h2 : l.length - 1 - i < l.length := by omega
    simp [hi, h2]
  · rw [List.getElem?_eq_none (by simp; omega), List.getElem?_eq_none (by simp; omega)]

theorem mkc_owns {w : World} {base n : Nat} {a : Option Addr} {c : Nat} {l : List Int} (hn : n = l.length) (h : w.ownsRow base 3 1 (.slice a n c) n (vals l)) : (a = none ∧ n = 0 ∧ c = 0) ∨ ∃ g, a = some ⟨g, 0, none⟩ ∧ base ≤ g ∧ c ≤ maxLen ∧ MkC w g c n (fun i => l.getD i 0) := by
  subst hn
  rcases h.2 with ⟨e, h1⟩ | ⟨g, cap, cur, e, hb, hg, hle, hmx, hs, ht⟩
  · simp only [Value.slice.injEq] at e
    exact Or.inl e
  · simp only [Value.slice.injEq] at e
    obtain ⟨rfl, _, rfl⟩ := e
    refine Or.inr ⟨g, rfl, hb, hmx, fun i => cur[i]?.getD (.int .i64 0), hle, ⟨cur, hg, by omega, fun i hi => ?_⟩, fun i hi => ?_⟩
    · have hi' : i < cur.size := by omega
      simp [hi']
    · have h1 : (cur.toList.take (l.length * 1))[i]? = some (.int .i64 (l.getD i 0)) := by rw [ht]; simp [vals, hi]
      rw [List.getElem?_take, if_pos (by omega), Array.getElem?_toList] at h1
      show cur[i]?.getD (.int .i64 0) = _
      rw [h1]
      rfl

theorem owns_mkc {w : World} {base n g c : Nat} {Z : Nat → Int} (hb : base ≤ g) (hc : c ≤ maxLen) (h : MkC w g c n Z) : w.ownsRow base 3 1 (.slice (some ⟨g, 0, none⟩) n c) n (vals (lst n Z)) := by
  obtain ⟨f, h1, ⟨cur, h2, h3, h4⟩, h5⟩ := h
  refine ⟨by simp [vals, lst], Or.inr ⟨g, c, cur, rfl, hb, h2, h1, hc, by omega, ?_⟩⟩
  apply List.ext_getElem?
  intro i
  rw [List.getElem?_take]
  by_cases hi : i < n
  · rw [if_pos (by omega), Array.getElem?_toList, h4 i (by omega), h5 i hi]
    simp [vals, lst, hi]
  · rw [if_neg (by omega), List.getElem?_eq_none (by simp [vals, lst]; omega)]

theorem rev_row {u : World} {b n : Nat} {a : Option Addr} {c : Nat} {l : List Int} (hn : n = l.length) (h1000 : n ≤ 1000) (h : u.ownsRow b 3 1 (.slice a n c) n (vals l)) :
    Calls Try.prog 99 #[.slice a n c] u fun e w' => e = .returned (.tuple #[]) ∧ u.grownBy w' (Value.slice a n c).ownBlock ∧ w'.ownsRow b 3 1 (.slice a n c) n (vals l.reverse) := by
  rcases mkc_owns hn h with ⟨rfl, rfl, rfl⟩ | ⟨g, rfl, hb, hc, hm⟩
  · have e : l = [] := List.length_eq_zero_iff.1 hn.symm
    subst e
    exact (reverse_nil u).mono fun e w' ⟨h1, h2⟩ => by subst h2; exact ⟨h1, ⟨rfl, rfl, rfl, Nat.le_refl _, fun _ _ _ => rfl⟩, h⟩
  · refine (reverse_any (c := c) h1000 hm).mono fun e w' ⟨h1, h2, h3⟩ => ⟨h1, h2, ?_⟩
    have := owns_mkc hb hc h3
    rw [hn] at this ⊢
    rw [rev_lst] at this
    exact this

/-- How far wayTo has come. -/
structure Wyd (w wr : World) (ways : List (List Int)) (k0 k : Nat) (acc : List Int) (v : Value) : Prop where
  below : Below w.heap.size w wr
  own : wr.ownsRow w.heap.size 3 1 v acc.length (vals acc)
  le : acc.length + k ≤ k0
  way : ways.getD k0 [] = ways.getD k [] ++ acc.reverse

set_option maxHeartbeats 2000000 in
theorem wayTo_any {w : World} {base r mb : Nat} {b0 b1 b2 b3 b4 : Value} {tk st : Int} {F : Nat} {marks : List (List Int)} {nexts : List (List (Int × Int))} {C : List (Int × Int)} {mv nv cv : Value} {D : DataW Unit} {ways : List (List Int)}
    (h : Xr w base r mb b0 b1 b2 b3 b4 tk st F marks nexts C mv nv cv D) (hc : Cam C ways) {k0 : Nat} (hk0 : k0 < ways.length) (h200 : ways.length ≤ 200) :
    Calls Try.prog 71 #[.pointer (some ⟨r, 0, none⟩), .int .i64 (k0 : Nat)] w fun e w' => Below w.heap.size w w' ∧ ∃ a c, e = .returned (.slice a (ways.getD k0 []).length c) ∧ w'.ownsRow w.heap.size 3 1 (.slice a (ways.getD k0 []).length c) (ways.getD k0 []).length (vals (ways.getD k0 [])) := by
  have HX : Hid (Xr w base r mb b0 b1 b2 b3 b4 tk st F marks nexts C mv nv cv D) := h
  have HC : Hid (Cam C ways) := hc
  obtain ⟨i0, hi, hz0, hz1, hz2⟩ := info_parts Try.info3
  have HI : Hid (Try.prog.info? 3 = some i0 ∧ i0.zero = some (.int .i64 0) ∧ i0.size = 1 ∧ i0.bytes = 8) := ⟨hi, hz0, hz1, hz2⟩
  clear hi hz0 hz1 hz2
  obtain ⟨cn, hcn⟩ : ∃ cn, cn = C.length := ⟨_, rfl⟩
  obtain ⟨ca, cc, hcv, _, cb, co, hca, hcc⟩ := owns_prs h.cam rfl
  rw [← hcn] at hcv
  subst hcv
  have hCl := hc.1
  obtain rfl := hca (by omega)
  have HCc : Hid (∀ i, i < C.length → w.cell? ⟨cb, co + i * 2, none⟩ = some (.int .i64 (C.getD i (0, 0)).1) ∧ w.cell? ⟨cb, co + i * 2 + 1, none⟩ = some (.int .i64 (C.getD i (0, 0)).2)) := hcc
  have HS : Hid (Wyd w w ways k0 k0 [] (.slice none 0 0)) := ⟨Below.refl _ _, World.ownsRow_nil _ _ _ _, by simp, by simp⟩
  have HLen : Hid (cn = C.length ∧ C.length = ways.length) := ⟨hcn, hCl⟩
  clear h hc hcc hcn hCl
  go_enter Try.func71, Try.ntmps71
  go_wp2
  go_loopw [5, 6] (fun v i wr => ∃ (k : Nat) (acc : List Int) (va : Option Addr) (vc n : Nat), k ≤ k0 ∧ n = acc.length ∧ i = .int .i64 k ∧ v = .slice va n vc ∧ Hid (Wyd w wr ways k0 k acc (.slice va n vc))) (fun _ i _ => (intOf i).toNat)
  case atStart => exact ⟨k0, [], none, 0, 0, Nat.le_refl _, rfl, rfl, rfl, HS.out⟩
  case round =>
    obtain ⟨k, acc, va, vc, n, hk, hn, rfl, rfl, HT⟩ := hrel
    clear HS
    obtain ⟨_, _, _, _, _, _, p10⟩ := srch_cells (HX.out.below HT.out.below).blk
    have hrl := srch_lt (HX.out.below HT.out.below).blk
    have hle := HT.out.le
    obtain ⟨e1, e2⟩ := HCc.out k (by have := HLen.out; omega)
    have hc1 := (HT.out.below.cell (p := ⟨cb, co + k * 2, none⟩) (World.block_lt_of_cell? _ _ e1)).trans e1
    have hc2 := (HT.out.below.cell (p := ⟨cb, co + k * 2 + 1, none⟩) (World.block_lt_of_cell? _ _ e2)).trans e2
    have hkc : (k : Int) < (cn : Int) := by have := HLen.out; omega
    have hn200 : n ≤ 200 := by omega
    have HO : Hid (wr.ownsRow w.heap.size 3 1 (.slice va n vc) n (vals acc)) := by have := HT.out.own; rw [← hn] at this; exact this
    have HSz : Hid (w.heap.size ≤ wr.heap.size) := HT.out.below.size
    have HAn : Hid (n = acc.length) := hn
    clear e1 e2 hn
    rcases HC.out.2 k (by omega) with ⟨hk00, h1, h2⟩ | ⟨j, h1, h2, h3⟩
    · rw [h1] at hc1
      have HW : Hid (ways.getD k0 [] = acc.reverse) := by have := HT.out.way; rw [h2] at this; exact this
      clear h1 h2 hc2 hk00 hle
      have HB : Hid (Below w.heap.size w wr) := HT.out.below
      have C1 : Hid (Calls Try.prog 99 #[.slice va n vc] wr fun e w' => e = .returned (.tuple #[]) ∧ wr.grownBy w' (Value.slice va n vc).ownBlock ∧ w'.ownsRow w.heap.size 3 1 (.slice va n vc) n (vals acc.reverse)) := rev_row HAn.out (by have := HAn.out; omega) HO.out
      clear HT
      go_wp2_with fail
      refine C1.out.mono ?_
      rintro e w3 ⟨rfl, hg3, ho3⟩
      have HF : Hid (Below w.heap.size w w3 ∧ w3.ownsRow w.heap.size 3 1 (.slice va n vc) n (vals acc.reverse)) := ⟨HB.out.grown hg3 HB.out.size (fun b e => (HO.out.lt b e).1), ho3⟩
      clear hg3 ho3 C1
      go_wp2
      go_ret
      have e : (ways.getD k0 []).length = n := by rw [HW.out, List.length_reverse, HAn.out]
      rw [e, HW.out]
      exact ⟨HF.out.1, va, vc, rfl, HF.out.2⟩
    · rw [h2] at hc1
      have hj0 : ((j : Int) != -1) = true := by rw [bne_iff_ne]; omega
      have HN : Hid (∀ (v' : Value) (w1 : World) (o : Obj), w1.ownsRow w.heap.size 3 1 v' (n + 1) (vals acc ++ [.int .i64 (C.getD k (0, 0)).2]) → (wr.alloc o).grownBy w1 (Value.slice va n vc).ownBlock → (∃ a c, v' = .slice a (n + 1) c) ∧ Hid (Wyd w w1 ways k0 j (acc ++ [(C.getD k (0, 0)).2]) v')) := fun v' w1 o hown hgrow => by
        obtain ⟨h4, h5⟩ := list_step HT.out.below HO.out hown hgrow
        refine ⟨h4, h5.out.1, ?_, ?_, ?_⟩
        · have := h5.out.2
          rw [HAn.out] at this
          simpa using this
        · simp
          omega
        · rw [HT.out.way, h3]
          simp
      have HJ : Hid ((C.getD k (0, 0)).1 = (j : Int)) := h2
      generalize hst : (C.getD k (0, 0)).2 = sp at *
      clear h2 h3 HT hst hle
      go_upto_region 4 with (at_builtin; refine wpList_append_own_at _ rfl _ _ 26 rfl w.heap.size 3 i0 (.int .i64 0) 1 8 Try.underlying26 HI.out.1 HI.out.2.1 HI.out.2.2.1 HI.out.2.2.2 rfl (by decide) _ _ _ rfl (HO.out.alloc _) ⟨wr.heap.size, 0, none⟩ 1 1 [.int .i64 sp] rfl rfl (cell_one_new _ _ _) (ints_oneCell .i64 [sp]) (by unfold maxLen; omega) (by omega) (by have := HSz.out; simp; omega) ?_; intro v' w4 hown hgrow _ _; obtain ⟨⟨a4, c4, rfl⟩, H4⟩ := HN.out _ _ _ hown hgrow; clear hown hgrow)
      clear p10 hc1 hc2 hrl
      obtain ⟨_, _, _, _, _, _, p10⟩ := srch_cells (HX.out.below H4.out.below).blk
      have hrl := srch_lt (HX.out.below H4.out.below).blk
      obtain ⟨e1, _⟩ := HCc.out k (by have := HLen.out; omega)
      have hc1 := (H4.out.below.cell (p := ⟨cb, co + k * 2, none⟩) (World.block_lt_of_cell? _ _ e1)).trans e1
      rw [HJ.out] at hc1
      clear e1
      go_wp2
      go_roundw
      case rel => exact ⟨j, _, a4, c4, n + 1, by omega, by rw [List.length_append, HAn.out]; rfl, rfl, rfl, H4.out⟩
      case measure => simp [intOf]; omega

end Go.Proofs.Ythpbgfodejoecaa
