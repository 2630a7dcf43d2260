/- take, give, slices.Max: what is done to a marking of the call's own. -/
import Derived.Laws.BitsLemmas
import Derived.Test.YthpbgfodejoecaaGame
namespace Go.Proofs.Ythpbgfodejoecaa
open Go.RowKit

/-- Block g begins with the n numbers Z, and may be written. -/
def Mk (w : World) (g n : Nat) (Z : Nat → Int) : Prop := ∃ cap f, n ≤ cap ∧ w.rowIs g 3 cap f ∧ ∀ i, i < n → f i = .int .i64 (Z i)

theorem Mk.cell {w : World} {g n : Nat} {Z : Nat → Int} (h : Mk w g n Z) {i : Nat} (hi : i < n) : w.cell? ⟨g, i, none⟩ = some (.int .i64 (Z i)) := by
  obtain ⟨cap, f, h1, h2, h3⟩ := h
  rw [h2.cell (by omega), h3 i hi]

theorem Mk.frozen {w : World} {g n : Nat} {Z : Nat → Int} (h : Mk w g n Z) (i : Nat) : w.frozen? ⟨g, i, none⟩ = false := by
  obtain ⟨cap, f, h1, h2, h3⟩ := h
  exact h2.frozen i

theorem Mk.lt {w : World} {g n : Nat} {Z : Nat → Int} (h : Mk w g n Z) : g < w.heap.size := by
  obtain ⟨cap, f, h1, h2, h3⟩ := h
  exact h2.lt

theorem Mk.set {w : World} {g n : Nat} {Z : Nat → Int} (h : Mk w g n Z) (i : Nat) (x : Int) : Mk (w.setCell ⟨g, i, none⟩ (.int .i64 x)) g n (upd Z i x) := by
  obtain ⟨cap, f, h1, h2, h3⟩ := h
  refine ⟨cap, _, h1, h2.set i _, fun j hj => ?_⟩
  show (if j = i then _ else f j) = .int .i64 (if j = i then x else Z j)
  by_cases e : j = i
  · rw [if_pos e, if_pos e]
  · rw [if_neg e, if_neg e, h3 j hj]

theorem Mk.alloc {w : World} {g n : Nat} {Z : Nat → Int} (h : Mk w g n Z) (o : Obj) : Mk (w.alloc o) g n Z := by
  obtain ⟨cap, f, h1, h2, h3⟩ := h
  exact ⟨cap, f, h1, h2.alloc o, h3⟩

theorem Mk.congr {w : World} {g n : Nat} {Y Z : Nat → Int} (h : Mk w g n Y) (e : ∀ i, i < n → Y i = Z i) : Mk w g n Z := by
  obtain ⟨cap, f, h1, h2, h3⟩ := h
  exact ⟨cap, f, h1, h2, fun i hi => by rw [h3 i hi, e i hi]⟩

theorem Mk.row {w : World} {g n : Nat} {Z : Nat → Int} (h : Mk w g n Z) : Row w (some ⟨g, 0, none⟩) n Z :=
  ⟨g, 0, fun _ => rfl, fun i hi => by rw [Nat.zero_add]; exact h.cell hi⟩

theorem Mk.of_block {w w' : World} {g n : Nat} {Z : Nat → Int} (h : Mk w g n Z) (e : w'.heap[g]? = w.heap[g]?) : Mk w' g n Z := by
  obtain ⟨cap, f, h1, h2, h3⟩ := h
  exact ⟨cap, f, h1, h2.of_block e, h3⟩

theorem Mk.below {w w' : World} {g n : Nat} {Z : Nat → Int} (h : Mk w g n Z) (hb : Below w.heap.size w w') : Mk w' g n Z := h.of_block (hb.block g h.lt)

theorem mk_made (w : World) (n : Nat) : Mk (w.alloc (.cells (madeCells #[.int .i64 0] n) 3)) w.heap.size n (fun _ => 0) :=
  ⟨n, _, Nat.le_refl _, World.rowIs_made w (.int .i64 0) n 3, fun _ _ => rfl⟩

/-- What slices.Clone hands back, of a list that is not empty. -/
theorem mk_owns {w : World} {base n : Nat} {v : Value} {Z : Nat → Int} (h : w.ownsRow base 3 1 v n (vals (lst n Z))) (hn : 0 < n) : ∃ g c, v = .slice (some ⟨g, 0, none⟩) n c ∧ base ≤ g ∧ Mk w g n Z := by
  rcases h.2 with ⟨_, h0⟩ | ⟨g, cap, cur, rfl, hb, hg, hle, _, hs, ht⟩
  · omega
  · refine ⟨g, cap, rfl, hb, cap, fun i => cur[i]?.getD (.int .i64 0), hle, ⟨cur, hg, by omega, fun i hi => ?_⟩, fun i hi => ?_⟩
    · have hi' : i < cur.size := by omega
      simp [hi']
    · have h1 : (cur.toList.take (n * 1))[i]? = some (.int .i64 (Z i)) := by rw [ht]; simp [vals, lst, hi]
      rw [List.getElem?_take, if_pos (by omega), Array.getElem?_toList] at h1
      show cur[i]?.getD (.int .i64 0) = _
      rw [h1]
      rfl

theorem grown_set {w wr : World} {g : Nat} (h : w.grownBy wr (some g)) (i : Nat) (v : Value) : w.grownBy (wr.setCell ⟨g, i, none⟩ v) (some g) :=
  ⟨h.os, h.tape, h.output, by have := h.size; simp [World.setCell]; omega, fun k hk hne => by
    rw [Below.heap_setCell _ _ _ _ (fun e => hne (by rw [e]))]
    exact h.block k hk hne⟩

theorem grown_refl (w : World) (r : Option Nat) : w.grownBy w r := ⟨rfl, rfl, rfl, Nat.le_refl _, fun _ _ _ => rfl⟩

theorem grown_alloc {w wr : World} {r : Option Nat} (h : w.grownBy wr r) (o : Obj) : w.grownBy (wr.alloc o) r := h.trans (World.grownBy_alloc _ _ _)

/-- The place of a flow among those of its node. -/
theorem fl_place {X : Nat → Int} {x : Int} : ∀ {n q}, q < tally X x n → ∃ j : Nat, (fl X x n).getD q 0 = j ∧ j < n ∧ X j = x ∧ tally X x j = q
  | 0, q, h => absurd h (Nat.not_lt_zero _)
  | n + 1, q, h => by
    by_cases e : X n = x
    · rw [tally_hit e] at h
      rw [fl_hit e]
      by_cases hq : q < tally X x n
      · obtain ⟨j, h1, h2, h3, h4⟩ := fl_place hq
        refine ⟨j, ?_, by omega, h3, h4⟩
        rw [List.getD_eq_getElem?_getD, List.getElem?_append_left (by rw [fl_len]; exact hq), ← List.getD_eq_getElem?_getD]
        exact h1
      · have hq' : q = tally X x n := by omega
        refine ⟨n, ?_, by omega, e, hq'.symm⟩
        rw [List.getD_eq_getElem?_getD, List.getElem?_append_right (by rw [fl_len]; omega), fl_len, hq']
        simp
    · rw [tally_miss e] at h
      rw [fl_miss e]
      obtain ⟨j, h1, h2, h3, h4⟩ := fl_place h
      exact ⟨j, h1, by omega, h3, h4⟩

theorem tally_le_le {X : Nat → Int} {x : Int} : ∀ {i n}, i ≤ n → tally X x i ≤ tally X x n
  | i, 0, h => by
    obtain rfl : i = 0 := by omega
    exact Nat.le_refl _
  | i, n + 1, h => by
    by_cases e : i = n + 1
    · subst e; exact Nat.le_refl _
    · exact Nat.le_trans (tally_le_le (n := n) (by omega)) (tally_mono X x n)

theorem place_lt {X : Nat → Int} {x : Int} {i n : Nat} (hi : i < n) (h : X i = x) : tally X x i < tally X x n := by
  have h1 := tally_le_le (X := X) (x := x) (i := i + 1) (n := n) (by omega)
  rw [tally_hit h] at h1
  omega

theorem place_uniq {X : Nat → Int} {x : Int} {i j : Nat} (h1 : X i = x) (h2 : X j = x) (h : tally X x i = tally X x j) : i = j := by
  rcases Nat.lt_trichotomy i j with c | c | c
  · have := place_lt c h1; omega
  · exact c
  · have := place_lt c h2; omega

/-- What is left when an enabled step of the node has taken from its first k flows in. -/
def tkk (B : Nat → Int) (n : Int) (Z : Nat → Int) (k : Nat) (i : Nat) : Int := if B i = n ∧ tally B n i < k ∧ 0 < Z i then Z i - 1 else Z i

theorem tkk_zero (B : Nat → Int) (n : Int) (Z : Nat → Int) (i : Nat) : tkk B n Z 0 i = Z i := by unfold tkk; rw [if_neg (by omega)]

theorem tkk_at {B : Nat → Int} {n : Int} {Z : Nat → Int} {k j : Nat} (h2 : tally B n j = k) : tkk B n Z k j = Z j := by unfold tkk; rw [if_neg (by omega)]

theorem tkk_hit {B : Nat → Int} {n : Int} {Z : Nat → Int} {k j : Nat} (h1 : B j = n) (h2 : tally B n j = k) (h3 : 0 < Z j) (i : Nat) : upd (tkk B n Z k) j (Z j - 1) i = tkk B n Z (k + 1) i := by
  unfold upd
  by_cases e : i = j
  · subst e
    rw [if_pos rfl]
    unfold tkk
    rw [if_pos ⟨h1, by omega, h3⟩]
  · rw [if_neg e]
    unfold tkk
    by_cases c : B i = n ∧ tally B n i < k ∧ 0 < Z i
    · rw [if_pos c, if_pos ⟨c.1, by omega, c.2.2⟩]
    · rw [if_neg c, if_neg]
      intro c2
      refine c ⟨c2.1, ?_, c2.2.2⟩
      have : tally B n i ≠ k := fun ee => e (place_uniq c2.1 h1 (by omega))
      omega

theorem tkk_miss {B : Nat → Int} {n : Int} {Z : Nat → Int} {k j : Nat} (h1 : B j = n) (h2 : tally B n j = k) (h3 : ¬ 0 < Z j) (i : Nat) : tkk B n Z k i = tkk B n Z (k + 1) i := by
  unfold tkk
  by_cases c : B i = n ∧ tally B n i < k ∧ 0 < Z i
  · rw [if_pos c, if_pos ⟨c.1, by omega, c.2.2⟩]
  · rw [if_neg c, if_neg]
    intro c2
    refine c ⟨c2.1, ?_, c2.2.2⟩
    have : tally B n i ≠ k := fun ee => by
      have := place_uniq c2.1 h1 (by omega)
      subst this
      exact h3 c2.2.2
    omega

/-- What a step leaves of a marking. -/
def tkn (B : Nat → Int) (t : St3) (Z : Nat → Int) (i : Nat) : Int := if (0 ≤ t.2.1 ∧ (i : Int) = t.2.1) ∨ (t.2.1 < 0 ∧ B i = t.1 ∧ 0 < Z i) then Z i - 1 else Z i

theorem tkn_one {B : Nat → Int} {n o : Int} {x : Nat} {Z : Nat → Int} (i : Nat) : upd Z x (Z x - 1) i = tkn B (n, (x : Int), o) Z i := by
  unfold upd tkn
  by_cases e : i = x
  · subst e
    rw [if_pos rfl, if_pos (Or.inl ⟨by show (0 : Int) ≤ (i : Int); omega, rfl⟩)]
  · rw [if_neg e, if_neg]
    rintro (⟨_, h⟩ | ⟨h, _⟩)
    · exact e (by have h' : (i : Int) = (x : Int) := h; omega)
    · exact absurd h (by show ¬ (x : Int) < 0; omega)

theorem tkn_all {B : Nat → Int} {n x o : Int} {Z : Nat → Int} {F i : Nat} (hx : x < 0) (hi : i < F) : tkk B n Z (tally B n F) i = tkn B (n, x, o) Z i := by
  unfold tkk tkn
  by_cases c : B i = n ∧ 0 < Z i
  · rw [if_pos ⟨c.1, place_lt hi c.1, c.2⟩, if_pos (Or.inr ⟨hx, c.1, c.2⟩)]
  · rw [if_neg (fun h => c ⟨h.1, h.2.2⟩), if_neg]
    rintro (⟨h, _⟩ | ⟨_, h⟩)
    · exact absurd h (by show ¬ (0 : Int) ≤ x; omega)
    · exact c h

theorem Gr.at {w wr : World} {ga : Option Addr} {G : Nat} {L : Nat → Nat} {Z : Nat → Nat → Int} (h : Gr w ga G L Z) (hb : Below w.heap.size w wr) {r : Nat} (hr : r < G) :
    ∃ gb go, ga = some ⟨gb, go, none⟩ ∧ gb < w.heap.size ∧ ∃ a c, wr.cell? ⟨gb, go + r, none⟩ = some (.slice a (L r) c) ∧ Row wr a (L r) (Z r) ∧ Row w a (L r) (Z r) := by
  obtain ⟨gb, go, h1, h2⟩ := h
  obtain ⟨a, c, h3, h4⟩ := h2 r hr
  have hlt := World.block_lt_of_cell? _ _ h3
  exact ⟨gb, go, h1 (by omega), hlt, a, c, by rw [hb.cell (p := ⟨gb, go + r, none⟩) hlt]; exact h3, h4.below hb, h4⟩

set_option maxHeartbeats 1000000 in
theorem take_any {na fa sa ia oa : Option Addr} {N nc F fc sc ic oc : Nat} {M : Nat → ByteArray} {K A B : Nat → Int} {l : List St3} {w0 w : World} (h : Brd w0 na N nc fa F sa ia oa M K A B l) (hb : Below w0.heap.size w0 w) {g mc : Nat} {Z : Nat → Int} (hg : w0.heap.size ≤ g) (hM : Mk w g F Z)
    (hZ : ∀ i, i < F → 0 ≤ Z i ∧ Z i ≤ 9) {n : Nat} (hn : n < N) {x o : Int} (hx : x < F) (Sn : Nat) :
    Calls Try.prog 101 #[.agg #[.slice na N nc, .slice fa F fc, .slice sa Sn sc, .slice ia N ic, .slice oa N oc], .slice (some ⟨g, 0, none⟩) F mc, .agg #[.int .i64 n, .int .i64 x, .int .i64 o]] w fun e w' => e = .returned (.tuple #[]) ∧ w.grownBy w' (some g) ∧ Mk w' g F (tkn B (n, x, o) Z) := by
  have hgl := hM.lt
  have HM : Hid (Mk w g F Z) := hM
  have HZ : Hid (∀ i, i < F → 0 ≤ Z i ∧ Z i ≤ 9) := hZ
  have hF30 : F ≤ 30 := (chk_zero h.chk).1.2
  by_cases h0 : 0 ≤ x
  · obtain ⟨y, rfl⟩ : ∃ y : Nat, x = y := ⟨x.toNat, by omega⟩
    have hy : y < F := by omega
    have hc := hM.cell hy
    have hf := hM.frozen y
    have hz := hZ y hy
    have HR : Hid (∀ i, upd Z y (Z y - 1) i = tkn B (n, (y : Int), o) Z i) := tkn_one
    clear hM hZ h hb
    generalize Z y = z at *
    go_enter Try.func101, Try.ntmps101
    go_wp2
    (try simp only [Exit.inBlock, Exit.then])
    refine bodyPost_ret (results_none rfl _ _ _) rfl ?_
    exact ⟨rfl, grown_alloc (grown_alloc (grown_set (grown_refl _ _) _ _) _) _, (((HM.out.set y (z - 1)).alloc _).alloc _).congr (fun i _ => HR.out i)⟩
  · have HB : Hid (Below w0.heap.size w0 w) := hb
    have HI : Hid (Gr w0 ia N (fun j => tally B j F) (fun j i => (fl B j F).getD i 0)) := h.ins
    have HR : Hid (∀ i, i < F → tkk B n Z (tally B n F) i = tkn B (n, x, o) Z i) := fun i hi => tkn_all (by omega) hi
    obtain ⟨gb, go, rfl, hgb, ra, rc, hr1, hr2, hr3⟩ := HI.out.at hb hn
    have hgbw : gb < w.heap.size := by have := hb.size; omega
    have HRw : Hid (Row w0 ra (tally B n F) (fun i => (fl B n F).getD i 0)) := hr3
    have htl := tally_le B n F
    clear hr2 hr3 hM hZ h hb
    obtain ⟨W, eW⟩ : ∃ u, u = (w.alloc (.cells #[.slice na N nc, .slice fa F fc, .slice sa Sn sc, .slice (some ⟨gb, go, none⟩) N ic, .slice oa N oc] 94)).alloc (.cells #[.int .i64 n, .int .i64 x, .int .i64 o] 66) := ⟨_, rfl⟩
    have HWg : Hid (w.grownBy W (some g)) := by subst eW; exact grown_alloc (grown_alloc (grown_refl _ _) _) _
    have HWm : Hid (Mk W g F Z) := by subst eW; exact (HM.out.alloc _).alloc _
    have HEW : Hid ((w.alloc (.cells #[.slice na N nc, .slice fa F fc, .slice sa Sn sc, .slice (some ⟨gb, go, none⟩) N ic, .slice oa N oc] 94)).alloc (.cells #[.int .i64 n, .int .i64 x, .int .i64 o] 66) = W) := eW.symm
    clear eW
    go_enter Try.func101, Try.ntmps101
    go_wp2
    rw [HEW.out]
    go_loopw [25] (fun i wr => ∃ k : Nat, k ≤ tally B n F ∧ i = .int .i64 k ∧ Hid (w.grownBy wr (some g) ∧ Mk wr g F (tkk B n Z k))) (fun i _ => tally B n F - (intOf i).toNat)
    case atStart => exact ⟨0, Nat.zero_le _, rfl, hid ⟨HWg.out, HWm.out.congr (fun i _ => (tkk_zero B n Z i).symm)⟩⟩
    case round =>
      obtain ⟨k, hk, rfl, HT⟩ := hrel
      by_cases hlt : k < tally B n F
      · have HBr : Hid (Below w0.heap.size w0 wr) := HB.out.grown HT.out.1 HB.out.size (fun q e => by cases e; exact hg)
        obtain ⟨j, hj1, hj2, hj3, hj4⟩ := fl_place hlt
        obtain ⟨b, o', ha, hc⟩ := HRw.out
        obtain rfl := ha (by omega)
        have hck := row_at hc HBr.out hlt
        have hck' : wr.cell? ⟨b, o' + k, none⟩ = some (.int .i64 (j : Nat)) := by rw [hck]; exact congrArg (fun q => some (Value.int .i64 q)) hj1
        have hmj : wr.cell? ⟨g, j, none⟩ = some (.int .i64 (tkk B n Z k j)) := HT.out.2.cell hj2
        rw [tkk_at hj4] at hmj
        have hmf := HT.out.2.frozen j
        have hzj := HZ.out j hj2
        have hjF : (j : Int) < F := by omega
        by_cases hz : 0 < Z j
        · have HT2 : Hid (w.grownBy (wr.setCell ⟨g, j, none⟩ (.int .i64 (Z j - 1))) (some g) ∧ Mk (wr.setCell ⟨g, j, none⟩ (.int .i64 (Z j - 1))) g F (tkk B n Z (k + 1))) := ⟨grown_set HT.out.1 _ _, (HT.out.2.set j _).congr (fun i _ => tkk_hit hj3 hj4 hz i)⟩
          clear hck hc ha hj1 hj3 hj4 HT
          generalize Z j = z at *
          go_wp2
          go_roundw
          case rel => exact ⟨k + 1, by omega, by go_num, HT2.out⟩
          case measure => simp [intOf]; omega
        · have HT2 : Hid (Mk wr g F (tkk B n Z (k + 1))) := HT.out.2.congr (fun i _ => tkk_miss hj3 hj4 hz i)
          clear hck hc ha hj1 hj3 hj4
          generalize Z j = z at *
          go_wp2
          go_roundw
          case rel => exact ⟨k + 1, by omega, by go_num, hid ⟨HT.out.1, HT2.out⟩⟩
          case measure => simp [intOf]; omega
      · obtain rfl : tally B n F = k := by omega
        go_wp2
        go_end0
        exact ⟨rfl, HT.out.1, HT.out.2.congr HR.out⟩

/-- Has the number that bit? -/
def bit (o : Int) (k : Nat) : Bool := decide (o / 2 ^ k % 2 = 1)

theorem and_one {x : Int} (h0 : 0 ≤ x) (h1 : x ≤ 1073741824) : bits .and .i64 x 1 = x % 2 := by
  have h := bits_mask .i64 31 (by decide) (fun n h2 h3 => by rw [IntKind.wrap_i64]; omega) 1 (by decide) x h0 (by omega)
  simpa using h

/-- What is there when the step has put on its node's first k flows out. -/
def gvk (A : Nat → Int) (n o : Int) (Z : Nat → Int) (k : Nat) (i : Nat) : Int := if A i = n ∧ tally A n i < k ∧ bit o (tally A n i) = true then Z i + 1 else Z i

theorem gvk_zero (A : Nat → Int) (n o : Int) (Z : Nat → Int) (i : Nat) : gvk A n o Z 0 i = Z i := by unfold gvk; rw [if_neg (by omega)]

theorem gvk_at {A : Nat → Int} {n o : Int} {Z : Nat → Int} {k j : Nat} (h2 : tally A n j = k) : gvk A n o Z k j = Z j := by unfold gvk; rw [if_neg (by omega)]

theorem gvk_hit {A : Nat → Int} {n o : Int} {Z : Nat → Int} {k j : Nat} (h1 : A j = n) (h2 : tally A n j = k) (h3 : bit o k = true) (i : Nat) : upd (gvk A n o Z k) j (Z j + 1) i = gvk A n o Z (k + 1) i := by
  unfold upd
  by_cases e : i = j
  · subst e
    rw [if_pos rfl]
    unfold gvk
    rw [if_pos ⟨h1, by omega, by rw [h2]; exact h3⟩]
  · rw [if_neg e]
    unfold gvk
    by_cases c : A i = n ∧ tally A n i < k ∧ bit o (tally A n i) = true
    · rw [if_pos c, if_pos ⟨c.1, by omega, c.2.2⟩]
    · rw [if_neg c, if_neg]
      intro c2
      refine c ⟨c2.1, ?_, c2.2.2⟩
      have : tally A n i ≠ k := fun ee => e (place_uniq c2.1 h1 (by omega))
      omega

theorem gvk_miss {A : Nat → Int} {n o : Int} {Z : Nat → Int} {k : Nat} (h3 : bit o k = false) (i : Nat) : gvk A n o Z k i = gvk A n o Z (k + 1) i := by
  unfold gvk
  by_cases c : A i = n ∧ tally A n i < k ∧ bit o (tally A n i) = true
  · rw [if_pos c, if_pos ⟨c.1, by omega, c.2.2⟩]
  · rw [if_neg c, if_neg]
    intro c2
    refine c ⟨c2.1, ?_, c2.2.2⟩
    have : tally A n i ≠ k := fun ee => by rw [ee, h3] at c2; exact absurd c2.2.2 (by decide)
    omega

/-- What a step puts on a marking. -/
def gvn (A : Nat → Int) (t : St3) (Z : Nat → Int) (i : Nat) : Int := if A i = t.1 ∧ bit t.2.2 (tally A t.1 i) = true then Z i + 1 else Z i

theorem gvn_all {A : Nat → Int} {n x o : Int} {Z : Nat → Int} {F i : Nat} (hi : i < F) : gvk A n o Z (tally A n F) i = gvn A (n, x, o) Z i := by
  unfold gvk gvn
  by_cases c : A i = n ∧ bit o (tally A n i) = true
  · rw [if_pos ⟨c.1, place_lt hi c.1, c.2⟩, if_pos c]
  · rw [if_neg (fun h => c ⟨h.1, h.2.2⟩), if_neg c]

set_option maxHeartbeats 1000000 in
theorem give_any {na fa sa ia oa : Option Addr} {N nc F fc sc ic oc : Nat} {M : Nat → ByteArray} {K A B : Nat → Int} {l : List St3} {w0 w : World} (h : Brd w0 na N nc fa F sa ia oa M K A B l) (hb : Below w0.heap.size w0 w) {g mc : Nat} {Z : Nat → Int} (hg : w0.heap.size ≤ g) (hM : Mk w g F Z)
    (hZ : ∀ i, i < F → 0 ≤ Z i ∧ Z i ≤ 9) {n : Nat} (hn : n < N) {x o : Int} (ho0 : 0 ≤ o) (ho1 : o < 1073741824) (Sn : Nat) :
    Calls Try.prog 102 #[.agg #[.slice na N nc, .slice fa F fc, .slice sa Sn sc, .slice ia N ic, .slice oa N oc], .slice (some ⟨g, 0, none⟩) F mc, .agg #[.int .i64 n, .int .i64 x, .int .i64 o]] w fun e w' => e = .returned (.tuple #[]) ∧ w.grownBy w' (some g) ∧ Mk w' g F (gvn A (n, x, o) Z) := by
  have hgl := hM.lt
  have HM : Hid (Mk w g F Z) := hM
  have HZ : Hid (∀ i, i < F → 0 ≤ Z i ∧ Z i ≤ 9) := hZ
  have hF30 : F ≤ 30 := (chk_zero h.chk).1.2
  have HB : Hid (Below w0.heap.size w0 w) := hb
  have HI : Hid (Gr w0 oa N (fun j => tally A j F) (fun j i => (fl A j F).getD i 0)) := h.outs
  have HR : Hid (∀ i, i < F → gvk A n o Z (tally A n F) i = gvn A (n, x, o) Z i) := fun i hi => gvn_all hi
  obtain ⟨gb, go, rfl, hgb, ra, rc, hr1, hr2, hr3⟩ := HI.out.at hb hn
  have hgbw : gb < w.heap.size := by have := hb.size; omega
  have HRw : Hid (Row w0 ra (tally A n F) (fun i => (fl A n F).getD i 0)) := hr3
  have htl := tally_le A n F
  clear hr2 hr3 hM hZ h hb
  obtain ⟨W, eW⟩ : ∃ u, u = (w.alloc (.cells #[.slice na N nc, .slice fa F fc, .slice sa Sn sc, .slice ia N ic, .slice (some ⟨gb, go, none⟩) N oc] 94)).alloc (.cells #[.int .i64 n, .int .i64 x, .int .i64 o] 66) := ⟨_, rfl⟩
  have HWg : Hid (w.grownBy W (some g)) := by subst eW; exact grown_alloc (grown_alloc (grown_refl _ _) _) _
  have HWm : Hid (Mk W g F Z) := by subst eW; exact (HM.out.alloc _).alloc _
  have HWs : Hid (W.heap.size = w.heap.size + 1 + 1 ∧ W.cell? ⟨w.heap.size + 1, 2, none⟩ = some (.int .i64 o)) := by
    subst eW
    refine ⟨by simp, ?_⟩
    have e : (w.alloc (.cells #[.slice na N nc, .slice fa F fc, .slice sa Sn sc, .slice ia N ic, .slice (some ⟨gb, go, none⟩) N oc] 94)).heap.size = w.heap.size + 1 := by simp
    rw [← e]
    exact cell_of_alloc rfl
  have HEW : Hid ((w.alloc (.cells #[.slice na N nc, .slice fa F fc, .slice sa Sn sc, .slice ia N ic, .slice (some ⟨gb, go, none⟩) N oc] 94)).alloc (.cells #[.int .i64 n, .int .i64 x, .int .i64 o] 66) = W) := eW.symm
  clear eW
  go_enter Try.func102, Try.ntmps102
  go_wp2
  rw [HEW.out]
  go_loopw [15] (fun i wr => ∃ k : Nat, k ≤ tally A n F ∧ i = .int .i64 k ∧ Hid (w.grownBy wr (some g) ∧ Mk wr g F (gvk A n o Z k) ∧ W.grownBy wr (some g))) (fun i _ => tally A n F - (intOf i).toNat)
  case atStart => exact ⟨0, Nat.zero_le _, rfl, hid ⟨HWg.out, HWm.out.congr (fun i _ => (gvk_zero A n o Z i).symm), grown_refl _ _⟩⟩
  case round =>
    obtain ⟨k, hk, rfl, HT⟩ := hrel
    by_cases hlt : k < tally A n F
    · have HBr : Hid (Below w0.heap.size w0 wr) := HB.out.grown HT.out.1 HB.out.size (fun q e => by cases e; exact hg)
      obtain ⟨j, hj1, hj2, hj3, hj4⟩ := fl_place hlt
      obtain ⟨b, o', ha, hc⟩ := HRw.out
      obtain rfl := ha (by omega)
      have hck := row_at hc HBr.out hlt
      have hck' : wr.cell? ⟨b, o' + k, none⟩ = some (.int .i64 (j : Nat)) := by rw [hck]; exact congrArg (fun q => some (Value.int .i64 q)) hj1
      have hmj : wr.cell? ⟨g, j, none⟩ = some (.int .i64 (gvk A n o Z k j)) := HT.out.2.1.cell hj2
      rw [gvk_at hj4] at hmj
      have hmf := HT.out.2.1.frozen j
      have hso : wr.cell? ⟨w.heap.size + 1, 2, none⟩ = some (.int .i64 o) := HT.out.2.2.cell HWs.out.2 (fun e => by have := Option.some.inj e; simp at this; omega)
      have hzj := HZ.out j hj2
      have hjF : (j : Int) < F := by omega
      have hp := two_pos k
      have hq1 : 0 ≤ o / 2 ^ k := Int.ediv_nonneg ho0 (by omega)
      have hq2 : o / 2 ^ k ≤ 1073741824 := by have := Int.ediv_le_self (2 ^ k) ho0; omega
      have hand := and_one hq1 hq2
      have HQ : Hid (bit o k = decide (o / 2 ^ k % 2 = 1)) := rfl
      by_cases hz : o / 2 ^ k % 2 = 1
      · have hz' : (o / 2 ^ k % 2 == 1) = true := beq_iff_eq.2 hz
        have HT2 : Hid (w.grownBy (wr.setCell ⟨g, j, none⟩ (.int .i64 (Z j + 1))) (some g) ∧ Mk (wr.setCell ⟨g, j, none⟩ (.int .i64 (Z j + 1))) g F (gvk A n o Z (k + 1)) ∧ W.grownBy (wr.setCell ⟨g, j, none⟩ (.int .i64 (Z j + 1))) (some g)) := ⟨grown_set HT.out.1 _ _, (HT.out.2.1.set j _).congr (fun i _ => gvk_hit hj3 hj4 (by rw [HQ.out]; exact decide_eq_true hz) i), grown_set HT.out.2.2 _ _⟩
        clear hck hc ha hj1 hj3 hj4 HT hz hp hq1 hq2
        generalize Z j = z at *
        go_wp2
        go_roundw
        case rel => exact ⟨k + 1, by omega, by go_num, HT2.out⟩
        case measure => simp [intOf]; omega
      · have hz' : (o / 2 ^ k % 2 == 1) = false := beq_eq_false_iff_ne.2 hz
        have HT2 : Hid (Mk wr g F (gvk A n o Z (k + 1))) := HT.out.2.1.congr (fun i _ => gvk_miss (by rw [HQ.out]; exact decide_eq_false hz) i)
        clear hck hc ha hj1 hj3 hj4 hz hp hq1 hq2
        generalize Z j = z at *
        go_wp2
        go_roundw
        case rel => exact ⟨k + 1, by omega, by go_num, hid ⟨HT.out.1, HT2.out, HT.out.2.2⟩⟩
        case measure => simp [intOf]; omega
    · obtain rfl : tally A n F = k := by omega
      go_wp2
      go_end0
      exact ⟨rfl, HT.out.1, HT.out.2.1.congr HR.out⟩

set_option maxRecDepth 20000 in
set_option maxHeartbeats 1000000 in
theorem max_any (a : Option Addr) (n c : Nat) (Z : Nat → Int) (w : World) (hn : n ≤ 1000) (h0 : 0 < n) (h : Row w a n Z) (x : Int) :
    Calls Try.prog 103 #[.slice a n c] w fun e w' => (∃ y : Int, e = .returned (.int .i64 y) ∧ (x < y ↔ ∃ i, i < n ∧ x < Z i)) ∧ w' = w := by
  obtain ⟨b, o, ha, hc⟩ := h
  obtain rfl := ha h0
  have hc0 := hc 0 h0
  have HC : Hid (∀ i, i < n → w.cell? ⟨b, o + i, none⟩ = some (.int .i64 (Z i))) := hc
  have hn1 : ¬ (n : Int) < 1 := by omega
  have hn0 : (0 : Int) < n := by omega
  rw [Nat.add_zero] at hc0
  clear hc ha
  go_enter Try.func103, Try.ntmps103
  go_wp2
  go_loop [3, 4] (fun y i => ∃ (k : Nat) (q : Int), 1 ≤ k ∧ k ≤ n ∧ i = .int .i64 k ∧ y = .int .i64 q ∧ Hid (x < q ↔ ∃ i, i < k ∧ x < Z i)) (fun _ i => n - (intOf i).toNat)
  case atStart =>
    refine ⟨1, _, Nat.le_refl _, h0, rfl, rfl, hid ⟨fun hh => ⟨0, by omega, hh⟩, fun ⟨i, hi, hh⟩ => ?_⟩⟩
    obtain rfl : i = 0 := by omega
    exact hh
  case round =>
    obtain ⟨k, q, hk1, hk, rfl, rfl, HQ⟩ := hrel
    by_cases hlt : k < n
    · have hck := HC.out k hlt
      go_wp2
      go_round
      case rel =>
        refine ⟨k + 1, _, by omega, by omega, by go_num, rfl, hid ?_⟩
        have := HQ.out
        constructor
        · intro hh
          by_cases hm : x < q
          · obtain ⟨i, h1, h2⟩ := this.1 hm
            exact ⟨i, by omega, h2⟩
          · exact ⟨k, by omega, by omega⟩
        · rintro ⟨i, h1, h2⟩
          by_cases e : i = k
          · subst e; omega
          · have := this.2 ⟨i, by omega, h2⟩; omega
      case measure => simp [intOf]; omega
    · obtain rfl : n = k := by omega
      go_wp2
      go_ret
      exact ⟨⟨q, rfl, HQ.out⟩, rfl⟩

end Go.Proofs.Ythpbgfodejoecaa
