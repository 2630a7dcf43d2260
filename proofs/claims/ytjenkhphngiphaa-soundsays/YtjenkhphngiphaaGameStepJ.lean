/- take, give, slices.Max: what is done to a marking of the call's own. mayCome. isEnabled. -/
import Derived.Test.YtjenkhphngiphaaStepsJ
import Derived.Laws.BitsLemmas
namespace Go.Proofs.Ytjenkhphngiphaa
open Go.RowKit

/-- Block g begins with the n numbers Z, and may be written. -/
def Mk (w : World) (g n : Nat) (Z : Nat → Int) : Prop := ∃ cap f, n ≤ cap ∧ w.rowIs g 3 cap f ∧ ∀ i, i < n → f i = .int .i64 (Z i)

theorem Mk.cell {w : World} {g n : Nat} {Z : Nat → Int} (h : Mk w g n Z) {i : Nat} (hi : i < n) : w.cell? ⟨g, i, none⟩ = some (.int .i64 (Z i)) := by
  obtain ⟨cap, f, h1, h2, h3⟩ := h
  rw [h2.cell (by omega), h3 i hi]

theorem Mk.frozen {w : World} {g n : Nat} {Z : Nat → Int} (h : Mk w g n Z) (i : Nat) : w.frozen? ⟨g, i, none⟩ = false := by
  obtain ⟨cap, f, h1, h2, h3⟩ := h
  exact h2.frozen i

theorem Mk.lt {w : World} {g n : Nat} {Z : Nat → Int} (h : Mk w g n Z) : g < w.heap.size := by
  obtain ⟨cap, f, h1, h2, h3⟩ := h
  exact h2.lt

theorem Mk.set {w : World} {g n : Nat} {Z : Nat → Int} (h : Mk w g n Z) (i : Nat) (x : Int) : Mk (w.setCell ⟨g, i, none⟩ (.int .i64 x)) g n (upd Z i x) := by
  obtain ⟨cap, f, h1, h2, h3⟩ := h
  refine ⟨cap, _, h1, h2.set i _, fun j hj => ?_⟩
  show (if j = i then _ else f j) = .int .i64 (if j = i then x else Z j)
  by_cases e : j = i
  · rw [if_pos e, if_pos e]
  · rw [if_neg e, if_neg e, h3 j hj]

theorem Mk.alloc {w : World} {g n : Nat} {Z : Nat → Int} (h : Mk w g n Z) (o : Obj) : Mk (w.alloc o) g n Z := by
  obtain ⟨cap, f, h1, h2, h3⟩ := h
  exact ⟨cap, f, h1, h2.alloc o, h3⟩

theorem Mk.congr {w : World} {g n : Nat} {Y Z : Nat → Int} (h : Mk w g n Y) (e : ∀ i, i < n → Y i = Z i) : Mk w g n Z := by
  obtain ⟨cap, f, h1, h2, h3⟩ := h
  exact ⟨cap, f, h1, h2, fun i hi => by rw [h3 i hi, e i hi]⟩

theorem Mk.row {w : World} {g n : Nat} {Z : Nat → Int} (h : Mk w g n Z) : Row w (some ⟨g, 0, none⟩) n Z :=
  ⟨g, 0, fun _ => rfl, fun i hi => by rw [Nat.zero_add]; exact h.cell hi⟩

theorem Mk.of_block {w w' : World} {g n : Nat} {Z : Nat → Int} (h : Mk w g n Z) (e : w'.heap[g]? = w.heap[g]?) : Mk w' g n Z := by
  obtain ⟨cap, f, h1, h2, h3⟩ := h
  exact ⟨cap, f, h1, h2.of_block e, h3⟩

theorem Mk.below {w w' : World} {g n : Nat} {Z : Nat → Int} (h : Mk w g n Z) (hb : Below w.heap.size w w') : Mk w' g n Z := h.of_block (hb.block g h.lt)

theorem mk_made (w : World) (n : Nat) : Mk (w.alloc (.cells (madeCells #[.int .i64 0] n) 3)) w.heap.size n (fun _ => 0) :=
  ⟨n, _, Nat.le_refl _, World.rowIs_made w (.int .i64 0) n 3, fun _ _ => rfl⟩

/-- What slices.Clone hands back, of a list that is not empty. -/
theorem mk_owns {w : World} {base n : Nat} {v : Value} {Z : Nat → Int} (h : w.ownsRow base 3 1 v n (vals (lst n Z))) (hn : 0 < n) : ∃ g c, v = .slice (some ⟨g, 0, none⟩) n c ∧ base ≤ g ∧ Mk w g n Z := by
  rcases h.2 with ⟨_, h0⟩ | ⟨g, cap, cur, rfl, hb, hg, hle, _, hs, ht⟩
  · omega
  · refine ⟨g, cap, rfl, hb, cap, fun i => cur[i]?.getD (.int .i64 0), hle, ⟨cur, hg, by omega, fun i hi => ?_⟩, fun i hi => ?_⟩
    · have hi' : i < cur.size := by omega
      simp [hi']
    · have h1 : (cur.toList.take (n * 1))[i]? = some (.int .i64 (Z i)) := by rw [ht]; simp [vals, lst, hi]
      rw [List.getElem?_take, if_pos (by omega), Array.getElem?_toList] at h1
      show cur[i]?.getD (.int .i64 0) = _
      rw [h1]
      rfl

theorem grown_set {w wr : World} {g : Nat} (h : w.grownBy wr (some g)) (i : Nat) (v : Value) : w.grownBy (wr.setCell ⟨g, i, none⟩ v) (some g) :=
  ⟨h.os, h.tape, h.output, by have := h.size; simp [World.setCell]; omega, fun k hk hne => by
    rw [Below.heap_setCell _ _ _ _ (fun e => hne (by rw [e]))]
    exact h.block k hk hne⟩

theorem grown_refl (w : World) (r : Option Nat) : w.grownBy w r := ⟨rfl, rfl, rfl, Nat.le_refl _, fun _ _ _ => rfl⟩

theorem grown_alloc {w wr : World} {r : Option Nat} (h : w.grownBy wr r) (o : Obj) : w.grownBy (wr.alloc o) r := h.trans (World.grownBy_alloc _ _ _)

/-- The place of a flow among those of its node. -/
theorem fl_place {X : Nat → Int} {x : Int} : ∀ {n q}, q < tally X x n → ∃ j : Nat, (fl X x n).getD q 0 = j ∧ j < n ∧ X j = x ∧ tally X x j = q
  | 0, q, h => absurd h (Nat.not_lt_zero _)
  | n + 1, q, h => by
    by_cases e : X n = x
    · rw [tally_hit e] at h
      rw [fl_hit e]
      by_cases hq : q < tally X x n
      · obtain ⟨j, h1, h2, h3, h4⟩ := fl_place hq
        refine ⟨j, ?_, by omega, h3, h4⟩
        rw [List.getD_eq_getElem?_getD, List.getElem?_append_left (by rw [fl_len]; exact hq), ← List.getD_eq_getElem?_getD]
        exact h1
      · have hq' : q = tally X x n := by omega
        refine ⟨n, ?_, by omega, e, hq'.symm⟩
        rw [List.getD_eq_getElem?_getD, List.getElem?_append_right (by rw [fl_len]; omega), fl_len, hq']
        simp
    · rw [tally_miss e] at h
      rw [fl_miss e]
      obtain ⟨j, h1, h2, h3, h4⟩ := fl_place h
      exact ⟨j, h1, by omega, h3, h4⟩

theorem tally_le_le {X : Nat → Int} {x : Int} : ∀ {i n}, i ≤ n → tally X x i ≤ tally X x n
  | i, 0, h => by
    obtain rfl : i = 0 := by omega
    exact Nat.le_refl _
  | i, n + 1, h => by
    by_cases e : i = n + 1
    · subst e; exact Nat.le_refl _
    · exact Nat.le_trans (tally_le_le (n := n) (by omega)) (tally_mono X x n)

theorem place_lt {X : Nat → Int} {x : Int} {i n : Nat} (hi : i < n) (h : X i = x) : tally X x i < tally X x n := by
  have h1 := tally_le_le (X := X) (x := x) (i := i + 1) (n := n) (by omega)
  rw [tally_hit h] at h1
  omega

theorem place_uniq {X : Nat → Int} {x : Int} {i j : Nat} (h1 : X i = x) (h2 : X j = x) (h : tally X x i = tally X x j) : i = j := by
  rcases Nat.lt_trichotomy i j with c | c | c
  · have := place_lt c h1; omega
  · exact c
  · have := place_lt c h2; omega

/-- What is left when an enabled step of the node has taken from its first k flows in. -/
def tkk (B : Nat → Int) (n : Int) (Z : Nat → Int) (k : Nat) (i : Nat) : Int := if B i = n ∧ tally B n i < k ∧ 0 < Z i then Z i - 1 else Z i

theorem tkk_zero (B : Nat → Int) (n : Int) (Z : Nat → Int) (i : Nat) : tkk B n Z 0 i = Z i := by unfold tkk; rw [if_neg (by omega)]

theorem tkk_at {B : Nat → Int} {n : Int} {Z : Nat → Int} {k j : Nat} (h2 : tally B n j = k) : tkk B n Z k j = Z j := by unfold tkk; rw [if_neg (by omega)]

theorem tkk_hit {B : Nat → Int} {n : Int} {Z : Nat → Int} {k j : Nat} (h1 : B j = n) (h2 : tally B n j = k) (h3 : 0 < Z j) (i : Nat) : upd (tkk B n Z k) j (Z j - 1) i = tkk B n Z (k + 1) i := by
  unfold upd
  by_cases e : i = j
  · subst e
    rw [if_pos rfl]
    unfold tkk
    rw [if_pos ⟨h1, by omega, h3⟩]
  · rw [if_neg e]
    unfold tkk
    by_cases c : B i = n ∧ tally B n i < k ∧ 0 < Z i
    · rw [if_pos c, if_pos ⟨c.1, by omega, c.2.2⟩]
    · rw [if_neg c, if_neg]
      intro c2
      refine c ⟨c2.1, ?_, c2.2.2⟩
      have : tally B n i ≠ k := fun ee => e (place_uniq c2.1 h1 (by omega))
      omega

theorem tkk_miss {B : Nat → Int} {n : Int} {Z : Nat → Int} {k j : Nat} (h1 : B j = n) (h2 : tally B n j = k) (h3 : ¬ 0 < Z j) (i : Nat) : tkk B n Z k i = tkk B n Z (k + 1) i := by
  unfold tkk
  by_cases c : B i = n ∧ tally B n i < k ∧ 0 < Z i
  · rw [if_pos c, if_pos ⟨c.1, by omega, c.2.2⟩]
  · rw [if_neg c, if_neg]
    intro c2
    refine c ⟨c2.1, ?_, c2.2.2⟩
    have : tally B n i ≠ k := fun ee => by
      have := place_uniq c2.1 h1 (by omega)
      subst this
      exact h3 c2.2.2
    omega

/-- What a step leaves of a marking. -/
def tkn (B : Nat → Int) (t : St3) (Z : Nat → Int) (i : Nat) : Int := if (0 ≤ t.2.1 ∧ (i : Int) = t.2.1) ∨ (t.2.1 < 0 ∧ B i = t.1 ∧ 0 < Z i) then Z i - 1 else Z i

theorem tkn_one {B : Nat → Int} {n o : Int} {x : Nat} {Z : Nat → Int} (i : Nat) : upd Z x (Z x - 1) i = tkn B (n, (x : Int), o) Z i := by
  unfold upd tkn
  by_cases e : i = x
  · subst e
    rw [if_pos rfl, if_pos (Or.inl ⟨by show (0 : Int) ≤ (i : Int); omega, rfl⟩)]
  · rw [if_neg e, if_neg]
    rintro (⟨_, h⟩ | ⟨h, _⟩)
    · exact e (by have h' : (i : Int) = (x : Int) := h; omega)
    · exact absurd h (by show ¬ (x : Int) < 0; omega)

theorem tkn_all {B : Nat → Int} {n x o : Int} {Z : Nat → Int} {F i : Nat} (hx : x < 0) (hi : i < F) : tkk B n Z (tally B n F) i = tkn B (n, x, o) Z i := by
  unfold tkk tkn
  by_cases c : B i = n ∧ 0 < Z i
  · rw [if_pos ⟨c.1, place_lt hi c.1, c.2⟩, if_pos (Or.inr ⟨hx, c.1, c.2⟩)]
  · rw [if_neg (fun h => c ⟨h.1, h.2.2⟩), if_neg]
    rintro (⟨h, _⟩ | ⟨_, h⟩)
    · exact absurd h (by show ¬ (0 : Int) ≤ x; omega)
    · exact c h

theorem Gr.at {w wr : World} {ga : Option Addr} {G : Nat} {L : Nat → Nat} {Z : Nat → Nat → Int} (h : Gr w ga G L Z) (hb : Below w.heap.size w wr) {r : Nat} (hr : r < G) :
    ∃ gb go, ga = some ⟨gb, go, none⟩ ∧ gb < w.heap.size ∧ ∃ a c, wr.cell? ⟨gb, go + r, none⟩ = some (.slice a (L r) c) ∧ Row wr a (L r) (Z r) ∧ Row w a (L r) (Z r) := by
  obtain ⟨gb, go, h1, h2⟩ := h
  obtain ⟨a, c, h3, h4⟩ := h2 r hr
  have hlt := World.block_lt_of_cell? _ _ h3
  exact ⟨gb, go, h1 (by omega), hlt, a, c, by rw [hb.cell (p := ⟨gb, go + r, none⟩) hlt]; exact h3, h4.below hb, h4⟩

set_option maxHeartbeats 1000000 in
theorem take_any {na fa sa ia oa : Option Addr} {N nc F fc sc ic oc : Nat} {M : Nat → ByteArray} {K A B : Nat → Int} {l : List St3} {w0 w : World} (h : Brd w0 na N nc fa F sa ia oa M K A B l) (hb : Below w0.heap.size w0 w) {g mc : Nat} {Z : Nat → Int} (hg : w0.heap.size ≤ g) (hM : Mk w g F Z)
    (hZ : ∀ i, i < F → 0 ≤ Z i ∧ Z i ≤ 9) {n : Nat} (hn : n < N) {x o : Int} (hx : x < F) (Sn : Nat) :
    Calls Try.prog 64 #[.agg #[.slice na N nc, .slice fa F fc, .slice sa Sn sc, .slice ia N ic, .slice oa N oc], .slice (some ⟨g, 0, none⟩) F mc, .agg #[.int .i64 n, .int .i64 x, .int .i64 o]] w fun e w' => e = .returned (.tuple #[]) ∧ w.grownBy w' (some g) ∧ Mk w' g F (tkn B (n, x, o) Z) := by
  have hgl := hM.lt
  have HM : Hid (Mk w g F Z) := hM
  have HZ : Hid (∀ i, i < F → 0 ≤ Z i ∧ Z i ≤ 9) := hZ
  have hF30 : F ≤ 30 := (chk_zero h.chk).1.2
  by_cases h0 : 0 ≤ x
  · obtain ⟨y, rfl⟩ : ∃ y : Nat, x = y := ⟨x.toNat, by omega⟩
    have hy : y < F := by omega
    have hc := hM.cell hy
    have hf := hM.frozen y
    have hz := hZ y hy
    have HR : Hid (∀ i, upd Z y (Z y - 1) i = tkn B (n, (y : Int), o) Z i) := tkn_one
    clear hM hZ h hb
    generalize Z y = z at *
    go_enter Try.func64, Try.ntmps64
    go_wp2
    (try simp only [Exit.inBlock, Exit.then])
    refine bodyPost_ret (results_none rfl _ _ _) rfl ?_
    exact ⟨rfl, grown_alloc (grown_alloc (grown_set (grown_refl _ _) _ _) _) _, (((HM.out.set y (z - 1)).alloc _).alloc _).congr (fun i _ => HR.out i)⟩
  · have HB : Hid (Below w0.heap.size w0 w) := hb
    have HI : Hid (Gr w0 ia N (fun j => tally B j F) (fun j i => (fl B j F).getD i 0)) := h.ins
    have HR : Hid (∀ i, i < F → tkk B n Z (tally B n F) i = tkn B (n, x, o) Z i) := fun i hi => tkn_all (by omega) hi
    obtain ⟨gb, go, rfl, hgb, ra, rc, hr1, hr2, hr3⟩ := HI.out.at hb hn
    have hgbw : gb < w.heap.size := by have := hb.size; omega
    have HRw : Hid (Row w0 ra (tally B n F) (fun i => (fl B n F).getD i 0)) := hr3
    have htl := tally_le B n F
    clear hr2 hr3 hM hZ h hb
    obtain ⟨W, eW⟩ : ∃ u, u = (w.alloc (.cells #[.slice na N nc, .slice fa F fc, .slice sa Sn sc, .slice (some ⟨gb, go, none⟩) N ic, .slice oa N oc] 85)).alloc (.cells #[.int .i64 n, .int .i64 x, .int .i64 o] 75) := ⟨_, rfl⟩
    have HWg : Hid (w.grownBy W (some g)) := by subst eW; exact grown_alloc (grown_alloc (grown_refl _ _) _) _
    have HWm : Hid (Mk W g F Z) := by subst eW; exact (HM.out.alloc _).alloc _
    have HEW : Hid ((w.alloc (.cells #[.slice na N nc, .slice fa F fc, .slice sa Sn sc, .slice (some ⟨gb, go, none⟩) N ic, .slice oa N oc] 85)).alloc (.cells #[.int .i64 n, .int .i64 x, .int .i64 o] 75) = W) := eW.symm
    clear eW
    go_enter Try.func64, Try.ntmps64
    go_wp2
    rw [HEW.out]
    go_loopw [25] (fun i wr => ∃ k : Nat, k ≤ tally B n F ∧ i = .int .i64 k ∧ Hid (w.grownBy wr (some g) ∧ Mk wr g F (tkk B n Z k))) (fun i _ => tally B n F - (intOf i).toNat)
    case atStart => exact ⟨0, Nat.zero_le _, rfl, hid ⟨HWg.out, HWm.out.congr (fun i _ => (tkk_zero B n Z i).symm)⟩⟩
    case round =>
      obtain ⟨k, hk, rfl, HT⟩ := hrel
      by_cases hlt : k < tally B n F
      · have HBr : Hid (Below w0.heap.size w0 wr) := HB.out.grown HT.out.1 HB.out.size (fun q e => by cases e; exact hg)
        obtain ⟨j, hj1, hj2, hj3, hj4⟩ := fl_place hlt
        obtain ⟨b, o', ha, hc⟩ := HRw.out
        obtain rfl := ha (by omega)
        have hck := row_at hc HBr.out hlt
        have hck' : wr.cell? ⟨b, o' + k, none⟩ = some (.int .i64 (j : Nat)) := by rw [hck]; exact congrArg (fun q => some (Value.int .i64 q)) hj1
        have hmj : wr.cell? ⟨g, j, none⟩ = some (.int .i64 (tkk B n Z k j)) := HT.out.2.cell hj2
        rw [tkk_at hj4] at hmj
        have hmf := HT.out.2.frozen j
        have hzj := HZ.out j hj2
        have hjF : (j : Int) < F := by omega
        by_cases hz : 0 < Z j
        · have HT2 : Hid (w.grownBy (wr.setCell ⟨g, j, none⟩ (.int .i64 (Z j - 1))) (some g) ∧ Mk (wr.setCell ⟨g, j, none⟩ (.int .i64 (Z j - 1))) g F (tkk B n Z (k + 1))) := ⟨grown_set HT.out.1 _ _, (HT.out.2.set j _).congr (fun i _ => tkk_hit hj3 hj4 hz i)⟩
          clear hck hc ha hj1 hj3 hj4 HT
          generalize Z j = z at *
          go_wp2
          go_roundw
          case rel => exact ⟨k + 1, by omega, by go_num, HT2.out⟩
          case measure => simp [intOf]; omega
        · have HT2 : Hid (Mk wr g F (tkk B n Z (k + 1))) := HT.out.2.congr (fun i _ => tkk_miss hj3 hj4 hz i)
          clear hck hc ha hj1 hj3 hj4
          generalize Z j = z at *
          go_wp2
          go_roundw
          case rel => exact ⟨k + 1, by omega, by go_num, hid ⟨HT.out.1, HT2.out⟩⟩
          case measure => simp [intOf]; omega
      · obtain rfl : tally B n F = k := by omega
        go_wp2
        go_end0
        exact ⟨rfl, HT.out.1, HT.out.2.congr HR.out⟩

/-- Has the number that bit? -/
def bit (o : Int) (k : Nat) : Bool := decide (o / 2 ^ k % 2 = 1)

theorem and_one {x : Int} (h0 : 0 ≤ x) (h1 : x ≤ 1073741824) : bits .and .i64 x 1 = x % 2 := by
  have h := bits_mask .i64 31 (by decide) (fun n h2 h3 => by rw [IntKind.wrap_i64]; omega) 1 (by decide) x h0 (by omega)
  simpa using h

/-- What is there when the step has put on its node's first k flows out. -/
def gvk (A : Nat → Int) (n o : Int) (Z : Nat → Int) (k : Nat) (i : Nat) : Int := if A i = n ∧ tally A n i < k ∧ bit o (tally A n i) = true then Z i + 1 else Z i

theorem gvk_zero (A : Nat → Int) (n o : Int) (Z : Nat → Int) (i : Nat) : gvk A n o Z 0 i = Z i := by unfold gvk; rw [if_neg (by omega)]

theorem gvk_at {A : Nat → Int} {n o : Int} {Z : Nat → Int} {k j : Nat} (h2 : tally A n j = k) : gvk A n o Z k j = Z j := by unfold gvk; rw [if_neg (by omega)]

theorem gvk_hit {A : Nat → Int} {n o : Int} {Z : Nat → Int} {k j : Nat} (h1 : A j = n) (h2 : tally A n j = k) (h3 : bit o k = true) (i : Nat) : upd (gvk A n o Z k) j (Z j + 1) i = gvk A n o Z (k + 1) i := by
  unfold upd
  by_cases e : i = j
  · subst e
    rw [if_pos rfl]
    unfold gvk
    rw [if_pos ⟨h1, by omega, by rw [h2]; exact h3⟩]
  · rw [if_neg e]
    unfold gvk
    by_cases c : A i = n ∧ tally A n i < k ∧ bit o (tally A n i) = true
    · rw [if_pos c, if_pos ⟨c.1, by omega, c.2.2⟩]
    · rw [if_neg c, if_neg]
      intro c2
      refine c ⟨c2.1, ?_, c2.2.2⟩
      have : tally A n i ≠ k := fun ee => e (place_uniq c2.1 h1 (by omega))
      omega

theorem gvk_miss {A : Nat → Int} {n o : Int} {Z : Nat → Int} {k : Nat} (h3 : bit o k = false) (i : Nat) : gvk A n o Z k i = gvk A n o Z (k + 1) i := by
  unfold gvk
  by_cases c : A i = n ∧ tally A n i < k ∧ bit o (tally A n i) = true
  · rw [if_pos c, if_pos ⟨c.1, by omega, c.2.2⟩]
  · rw [if_neg c, if_neg]
    intro c2
    refine c ⟨c2.1, ?_, c2.2.2⟩
    have : tally A n i ≠ k := fun ee => by rw [ee, h3] at c2; exact absurd c2.2.2 (by decide)
    omega

/-- What a step puts on a marking. -/
def gvn (A : Nat → Int) (t : St3) (Z : Nat → Int) (i : Nat) : Int := if A i = t.1 ∧ bit t.2.2 (tally A t.1 i) = true then Z i + 1 else Z i

theorem gvn_all {A : Nat → Int} {n x o : Int} {Z : Nat → Int} {F i : Nat} (hi : i < F) : gvk A n o Z (tally A n F) i = gvn A (n, x, o) Z i := by
  unfold gvk gvn
  by_cases c : A i = n ∧ bit o (tally A n i) = true
  · rw [if_pos ⟨c.1, place_lt hi c.1, c.2⟩, if_pos c]
  · rw [if_neg (fun h => c ⟨h.1, h.2.2⟩), if_neg c]

set_option maxHeartbeats 1000000 in
theorem give_any {na fa sa ia oa : Option Addr} {N nc F fc sc ic oc : Nat} {M : Nat → ByteArray} {K A B : Nat → Int} {l : List St3} {w0 w : World} (h : Brd w0 na N nc fa F sa ia oa M K A B l) (hb : Below w0.heap.size w0 w) {g mc : Nat} {Z : Nat → Int} (hg : w0.heap.size ≤ g) (hM : Mk w g F Z)
    (hZ : ∀ i, i < F → 0 ≤ Z i ∧ Z i ≤ 9) {n : Nat} (hn : n < N) {x o : Int} (ho0 : 0 ≤ o) (ho1 : o < 1073741824) (Sn : Nat) :
    Calls Try.prog 65 #[.agg #[.slice na N nc, .slice fa F fc, .slice sa Sn sc, .slice ia N ic, .slice oa N oc], .slice (some ⟨g, 0, none⟩) F mc, .agg #[.int .i64 n, .int .i64 x, .int .i64 o]] w fun e w' => e = .returned (.tuple #[]) ∧ w.grownBy w' (some g) ∧ Mk w' g F (gvn A (n, x, o) Z) := by
  have hgl := hM.lt
  have HM : Hid (Mk w g F Z) := hM
  have HZ : Hid (∀ i, i < F → 0 ≤ Z i ∧ Z i ≤ 9) := hZ
  have hF30 : F ≤ 30 := (chk_zero h.chk).1.2
  have HB : Hid (Below w0.heap.size w0 w) := hb
  have HI : Hid (Gr w0 oa N (fun j => tally A j F) (fun j i => (fl A j F).getD i 0)) := h.outs
  have HR : Hid (∀ i, i < F → gvk A n o Z (tally A n F) i = gvn A (n, x, o) Z i) := fun i hi => gvn_all hi
  obtain ⟨gb, go, rfl, hgb, ra, rc, hr1, hr2, hr3⟩ := HI.out.at hb hn
  have hgbw : gb < w.heap.size := by have := hb.size; omega
  have HRw : Hid (Row w0 ra (tally A n F) (fun i => (fl A n F).getD i 0)) := hr3
  have htl := tally_le A n F
  clear hr2 hr3 hM hZ h hb
  obtain ⟨W, eW⟩ : ∃ u, u = (w.alloc (.cells #[.slice na N nc, .slice fa F fc, .slice sa Sn sc, .slice ia N ic, .slice (some ⟨gb, go, none⟩) N oc] 85)).alloc (.cells #[.int .i64 n, .int .i64 x, .int .i64 o] 75) := ⟨_, rfl⟩
  have HWg : Hid (w.grownBy W (some g)) := by subst eW; exact grown_alloc (grown_alloc (grown_refl _ _) _) _
  have HWm : Hid (Mk W g F Z) := by subst eW; exact (HM.out.alloc _).alloc _
  have HWs : Hid (W.heap.size = w.heap.size + 1 + 1 ∧ W.cell? ⟨w.heap.size + 1, 2, none⟩ = some (.int .i64 o)) := by
    subst eW
    refine ⟨by simp, ?_⟩
    have e : (w.alloc (.cells #[.slice na N nc, .slice fa F fc, .slice sa Sn sc, .slice ia N ic, .slice (some ⟨gb, go, none⟩) N oc] 85)).heap.size = w.heap.size + 1 := by simp
    rw [← e]
    exact cell_of_alloc rfl
  have HEW : Hid ((w.alloc (.cells #[.slice na N nc, .slice fa F fc, .slice sa Sn sc, .slice ia N ic, .slice (some ⟨gb, go, none⟩) N oc] 85)).alloc (.cells #[.int .i64 n, .int .i64 x, .int .i64 o] 75) = W) := eW.symm
  clear eW
  go_enter Try.func65, Try.ntmps65
  go_wp2
  rw [HEW.out]
  go_loopw [15] (fun i wr => ∃ k : Nat, k ≤ tally A n F ∧ i = .int .i64 k ∧ Hid (w.grownBy wr (some g) ∧ Mk wr g F (gvk A n o Z k) ∧ W.grownBy wr (some g))) (fun i _ => tally A n F - (intOf i).toNat)
  case atStart => exact ⟨0, Nat.zero_le _, rfl, hid ⟨HWg.out, HWm.out.congr (fun i _ => (gvk_zero A n o Z i).symm), grown_refl _ _⟩⟩
  case round =>
    obtain ⟨k, hk, rfl, HT⟩ := hrel
    by_cases hlt : k < tally A n F
    · have HBr : Hid (Below w0.heap.size w0 wr) := HB.out.grown HT.out.1 HB.out.size (fun q e => by cases e; exact hg)
      obtain ⟨j, hj1, hj2, hj3, hj4⟩ := fl_place hlt
      obtain ⟨b, o', ha, hc⟩ := HRw.out
      obtain rfl := ha (by omega)
      have hck := row_at hc HBr.out hlt
      have hck' : wr.cell? ⟨b, o' + k, none⟩ = some (.int .i64 (j : Nat)) := by rw [hck]; exact congrArg (fun q => some (Value.int .i64 q)) hj1
      have hmj : wr.cell? ⟨g, j, none⟩ = some (.int .i64 (gvk A n o Z k j)) := HT.out.2.1.cell hj2
      rw [gvk_at hj4] at hmj
      have hmf := HT.out.2.1.frozen j
      have hso : wr.cell? ⟨w.heap.size + 1, 2, none⟩ = some (.int .i64 o) := HT.out.2.2.cell HWs.out.2 (fun e => by have := Option.some.inj e; simp at this; omega)
      have hzj := HZ.out j hj2
      have hjF : (j : Int) < F := by omega
      have hp := two_pos k
      have hq1 : 0 ≤ o / 2 ^ k := Int.ediv_nonneg ho0 (by omega)
      have hq2 : o / 2 ^ k ≤ 1073741824 := by have := Int.ediv_le_self (2 ^ k) ho0; omega
      have hand := and_one hq1 hq2
      have HQ : Hid (bit o k = decide (o / 2 ^ k % 2 = 1)) := rfl
      by_cases hz : o / 2 ^ k % 2 = 1
      · have hz' : (o / 2 ^ k % 2 == 1) = true := beq_iff_eq.2 hz
        have HT2 : Hid (w.grownBy (wr.setCell ⟨g, j, none⟩ (.int .i64 (Z j + 1))) (some g) ∧ Mk (wr.setCell ⟨g, j, none⟩ (.int .i64 (Z j + 1))) g F (gvk A n o Z (k + 1)) ∧ W.grownBy (wr.setCell ⟨g, j, none⟩ (.int .i64 (Z j + 1))) (some g)) := ⟨grown_set HT.out.1 _ _, (HT.out.2.1.set j _).congr (fun i _ => gvk_hit hj3 hj4 (by rw [HQ.out]; exact decide_eq_true hz) i), grown_set HT.out.2.2 _ _⟩
        clear hck hc ha hj1 hj3 hj4 HT hz hp hq1 hq2
        generalize Z j = z at *
        go_wp2
        go_roundw
        case rel => exact ⟨k + 1, by omega, by go_num, HT2.out⟩
        case measure => simp [intOf]; omega
      · have hz' : (o / 2 ^ k % 2 == 1) = false := beq_eq_false_iff_ne.2 hz
        have HT2 : Hid (Mk wr g F (gvk A n o Z (k + 1))) := HT.out.2.1.congr (fun i _ => gvk_miss (by rw [HQ.out]; exact decide_eq_false hz) i)
        clear hck hc ha hj1 hj3 hj4 hz hp hq1 hq2
        generalize Z j = z at *
        go_wp2
        go_roundw
        case rel => exact ⟨k + 1, by omega, by go_num, hid ⟨HT.out.1, HT2.out, HT.out.2.2⟩⟩
        case measure => simp [intOf]; omega
    · obtain rfl : tally A n F = k := by omega
      go_wp2
      go_end0
      exact ⟨rfl, HT.out.1, HT.out.2.1.congr HR.out⟩

set_option maxRecDepth 20000 in
set_option maxHeartbeats 1000000 in
theorem max_any (a : Option Addr) (n c : Nat) (Z : Nat → Int) (w : World) (hn : n ≤ 1000) (h0 : 0 < n) (h : Row w a n Z) (x : Int) :
    Calls Try.prog 66 #[.slice a n c] w fun e w' => (∃ y : Int, e = .returned (.int .i64 y) ∧ (x < y ↔ ∃ i, i < n ∧ x < Z i)) ∧ w' = w := by
  obtain ⟨b, o, ha, hc⟩ := h
  obtain rfl := ha h0
  have hc0 := hc 0 h0
  have HC : Hid (∀ i, i < n → w.cell? ⟨b, o + i, none⟩ = some (.int .i64 (Z i))) := hc
  have hn1 : ¬ (n : Int) < 1 := by omega
  have hn0 : (0 : Int) < n := by omega
  rw [Nat.add_zero] at hc0
  clear hc ha
  go_enter Try.func66, Try.ntmps66
  go_wp2
  go_loop [3, 4] (fun y i => ∃ (k : Nat) (q : Int), 1 ≤ k ∧ k ≤ n ∧ i = .int .i64 k ∧ y = .int .i64 q ∧ Hid (x < q ↔ ∃ i, i < k ∧ x < Z i)) (fun _ i => n - (intOf i).toNat)
  case atStart =>
    refine ⟨1, _, Nat.le_refl _, h0, rfl, rfl, hid ⟨fun hh => ⟨0, by omega, hh⟩, fun ⟨i, hi, hh⟩ => ?_⟩⟩
    obtain rfl : i = 0 := by omega
    exact hh
  case round =>
    obtain ⟨k, q, hk1, hk, rfl, rfl, HQ⟩ := hrel
    by_cases hlt : k < n
    · have hck := HC.out k hlt
      go_wp2
      go_round
      case rel =>
        refine ⟨k + 1, _, by omega, by omega, by go_num, rfl, hid ?_⟩
        have := HQ.out
        constructor
        · intro hh
          by_cases hm : x < q
          · obtain ⟨i, h1, h2⟩ := this.1 hm
            exact ⟨i, by omega, h2⟩
          · exact ⟨k, by omega, by omega⟩
        · rintro ⟨i, h1, h2⟩
          by_cases e : i = k
          · subst e; omega
          · have := this.2 ⟨i, by omega, h2⟩; omega
      case measure => simp [intOf]; omega
    · obtain rfl : n = k := by omega
      go_wp2
      go_ret
      exact ⟨⟨q, rfl, HQ.out⟩, rfl⟩

end Go.Proofs.Ytjenkhphngiphaa

namespace Go.Proofs.Ytjenkhphngiphaa
open Go.RowKit

/-- 1 where there is a token. -/
def pos (m : Nat → Int) (i : Nat) : Int := if 0 < m i then 1 else 0

theorem pos_yes {m : Nat → Int} {i : Nat} (h : 0 < m i) : pos m i = 1 := by unfold pos; rw [if_pos h]
theorem pos_no {m : Nat → Int} {i : Nat} (h : ¬ 0 < m i) : pos m i ≠ 1 := by unfold pos; rw [if_neg h]; decide
theorem pos_iff {m : Nat → Int} {i : Nat} : pos m i = 1 ↔ 0 < m i := by
  by_cases h : 0 < m i
  · exact iff_of_true (pos_yes h) h
  · exact iff_of_false (pos_no h) h

/-- The answer tells whether P holds. -/
def Told (P : Prop) (e : Ending) : Prop := ∃ x : Bool, e = .returned (.bool x) ∧ (x = true ↔ P)

/-- Can a token come to flow j, without going through node n? -/
def Cm (A B : Nat → Int) (F : Nat) (m : Nat → Int) (n : Int) (j : Nat) : Prop := ∃ k, Wk (fun x => x < F ∧ 0 < m x) (fun a b => a < F ∧ b < F ∧ B a ≠ n ∧ A b = B a) k j

theorem has_fl {X : Nat → Int} {x : Int} {F : Nat} {s : Int} : has (tally X x F) (fun i => (fl X x F).getD i 0) s = true ↔ ∃ j : Nat, s = j ∧ j < F ∧ X j = x := by
  rw [has_iff]
  constructor
  · rintro ⟨i, hi, e⟩
    obtain ⟨j, h1, h2, h3, _⟩ := fl_place hi
    exact ⟨j, by rw [← e]; exact h1, h2, h3⟩
  · rintro ⟨j, rfl, h2, h3⟩
    refine ⟨tally X x j, place_lt h2 h3, ?_⟩
    obtain ⟨i, h4, h5, h6, h7⟩ := fl_place (place_lt h2 h3)
    rw [h4, place_uniq h6 h3 h7]

/-- What mayCome has laid: next till flow k, from till flow q. -/
structure Mc (w wr : World) (c : Array Value) (F : Nat) (B m : Nat → Int) (n : Int) (V : Nat → Value) (k q : Nat) (v : Value) : Prop where
  below : Below (w.heap.size + 1) (w.alloc (.cells c 85)) wr
  nx : wr.rowIs (w.heap.size + 1) 26 F (fun i => if i < k ∧ B i ≠ n then V i else .slice none 0 0)
  frm : wr.ownsRow (w.heap.size + 1 + 1) 3 1 v (tally (pos m) 1 q) (vals (fl (pos m) 1 q))

theorem mc_start (w : World) (c : Array Value) (F : Nat) (B m : Nat → Int) (n : Int) (V : Nat → Value) : Mc w ((w.alloc (.cells c 85)).alloc (.cells (madeCells #[.slice none 0 0] F) 26)) c F B m n V 0 0 (.slice none 0 0) := by
  refine ⟨(Below.refl _ _).alloc (by simp) _, ?_, World.ownsRow_nil _ _ _ _⟩
  have := World.rowIs_made (w.alloc (.cells c 85)) (.slice none 0 0) F 26
  have e : (w.alloc (.cells c 85)).heap.size = w.heap.size + 1 := by simp
  rw [e] at this
  exact this.congr (fun i _ => by simp)

theorem Mc.alloc {w wr : World} {c : Array Value} {F : Nat} {B m : Nat → Int} {n : Int} {V : Nat → Value} {k q : Nat} {v : Value} (h : Mc w wr c F B m n V k q v) (o : Obj) : Mc w (wr.alloc o) c F B m n V k q v :=
  ⟨h.below.alloc (by have := h.nx.lt; omega) o, h.nx.alloc o, h.frm.alloc o⟩

theorem mc_nx {B : Nat → Int} {n : Int} {V : Nat → Value} {k : Nat} (hk : B k ≠ n) (i : Nat) : (if i = k then V k else if i < k ∧ B i ≠ n then V i else .slice none 0 0) = (if i < k + 1 ∧ B i ≠ n then V i else .slice none 0 0) := by
  by_cases e : i = k
  · subst e
    rw [if_pos rfl, if_pos ⟨by omega, hk⟩]
  · rw [if_neg e]
    by_cases c : i < k ∧ B i ≠ n
    · rw [if_pos c, if_pos ⟨by omega, c.2⟩]
    · rw [if_neg c, if_neg (fun h => c ⟨by omega, h.2⟩)]

theorem Mc.set {w wr : World} {c : Array Value} {F : Nat} {B m : Nat → Int} {n : Int} {V : Nat → Value} {k q : Nat} {v : Value} (h : Mc w wr c F B m n V k q v) (hk : B k ≠ n) : Mc w (wr.setCell ⟨w.heap.size + 1, k, none⟩ (V k)) c F B m n V (k + 1) q v :=
  ⟨h.below.setCell (by show w.heap.size + 1 ≤ w.heap.size + 1; omega) _, (h.nx.set k _).congr (fun i _ => mc_nx hk i), ownsRow_setCell_below h.frm (by show w.heap.size + 1 < _; omega) _⟩

theorem Mc.pass {w wr : World} {c : Array Value} {F : Nat} {B m : Nat → Int} {n : Int} {V : Nat → Value} {k q : Nat} {v : Value} (h : Mc w wr c F B m n V k q v) (hk : B k = n) : Mc w wr c F B m n V (k + 1) q v :=
  ⟨h.below, h.nx.congr (fun i _ => by
    by_cases c : i < k ∧ B i ≠ n
    · rw [if_pos c, if_pos ⟨by omega, c.2⟩]
    · rw [if_neg c, if_neg]
      intro h2
      refine c ⟨?_, h2.2⟩
      have : i ≠ k := fun e => h2.2 (by rw [e]; exact hk)
      omega), h.frm⟩

theorem Mc.skip {w wr : World} {c : Array Value} {F : Nat} {B m : Nat → Int} {n : Int} {V : Nat → Value} {k q : Nat} {v : Value} (h : Mc w wr c F B m n V k q v) (hp : ¬ 0 < m q) : Mc w wr c F B m n V k (q + 1) v :=
  ⟨h.below, h.nx, by rw [tally_miss (pos_no hp), fl_miss (pos_no hp)]; exact h.frm⟩

theorem mc_app {w wr w1 : World} {c : Array Value} {F : Nat} {B m : Nat → Int} {n : Int} {V : Nat → Value} {k q : Nat} {v v' : Value} {a b : Value} {o : Obj} (h : Mc w wr c F B m n V k q v) (hp : 0 < m q)
    (hown : w1.ownsRow (w.heap.size + 1 + 1) 3 1 v' (tally (pos m) 1 q + 1) (vals (fl (pos m) 1 q) ++ [.int .i64 q])) (hgrow : ((wr.alloc (.cells #[a, b] 83)).alloc o).grownBy w1 v.ownBlock) :
    (∃ a c, v' = .slice a (tally (pos m) 1 q + 1) c) ∧ w1.cell? ⟨wr.heap.size, 1, none⟩ = some b ∧ Hid (Mc w w1 c F B m n V k (q + 1) v') := by
  have hlt := h.nx.lt
  have hrow : ∀ b, v.ownBlock = some b → w.heap.size + 1 + 1 ≤ b ∧ b < wr.heap.size := h.frm.lt
  have hg : wr.grownBy w1 v.ownBlock := ((World.grownBy_alloc _ _ _).trans (World.grownBy_alloc _ _ _)).trans hgrow
  refine ⟨?_, ?_, hid ⟨?_, ?_, ?_⟩⟩
  · rcases hown.2 with ⟨_, h0⟩ | ⟨g, cap, cur, rfl, _⟩
    · omega
    · exact ⟨_, _, rfl⟩
  · refine hgrow.cell (a := ⟨wr.heap.size, 1, none⟩) ?_ (fun e => ?_)
    · exact keep_alloc (Below.refl _ _) (cell_of_alloc rfl)
    · have := (hrow _ e.symm).2
      exact absurd this (Nat.lt_irrefl _)
  · exact h.below.grown hg (by omega) (fun b hb => by have := (hrow b hb).1; omega)
  · exact h.nx.of_block (hg.block _ hlt (fun e => by have := (hrow _ e.symm).1; omega))
  · rw [tally_hit (pos_yes hp), fl_hit (pos_yes hp), ← vals_snoc]
    exact hown

/-- Rows of a list of lists, by functions. -/
theorem gr_rows {w : World} {ga : Option Addr} {G : Nat} {L : Nat → Nat} {Z : Nat → Nat → Int} (h : Gr w ga G L Z) :
    ∃ (gb go : Nat) (af : Nat → Option Addr) (cf : Nat → Nat), (0 < G → ga = some ⟨gb, go, none⟩) ∧ ∀ r, r < G → w.cell? ⟨gb, go + r, none⟩ = some (.slice (af r) (L r) (cf r)) ∧ Row w (af r) (L r) (Z r) := by
  obtain ⟨gb, go, h1, h2⟩ := h
  have h3 : ∀ r, ∃ p : Option Addr × Nat, r < G → w.cell? ⟨gb, go + r, none⟩ = some (.slice p.1 (L r) p.2) ∧ Row w p.1 (L r) (Z r) := by
    intro r
    by_cases hr : r < G
    · obtain ⟨a, c, h4, h5⟩ := h2 r hr
      exact ⟨(a, c), fun _ => ⟨h4, h5⟩⟩
    · exact ⟨(none, 0), fun hh => absurd hh hr⟩
  obtain ⟨f, hf⟩ := Classical.skolem.1 h3
  exact ⟨gb, go, fun r => (f r).1, fun r => (f r).2, h1, hf⟩

def nxL (A B : Nat → Int) (F : Nat) (n : Int) (i : Nat) : Nat := if B i ≠ n then tally A (B i) F else 0
def nxZ (A B : Nat → Int) (F : Nat) (i q : Nat) : Int := (fl A (B i) F).getD q 0

theorem Mc.gr {w wr : World} {c : Array Value} {F N : Nat} {A B m : Nat → Int} {n : Int} {v : Value} {af : Nat → Option Addr} {cf : Nat → Nat} (h : Mc w wr c F B m n (fun i => .slice (af (B i).toNat) (tally A (B i) F) (cf (B i).toNat)) F F v) (hE : ∀ i, i < F → (0 ≤ A i ∧ A i < N) ∧ (0 ≤ B i ∧ B i < N))
    (hR : ∀ r, r < N → Row w (af r) (tally A r F) (fun i => (fl A r F).getD i 0)) : Gr wr (some ⟨w.heap.size + 1, 0, none⟩) F (nxL A B F n) (nxZ A B F) := by
  have hB : Below w.heap.size w wr := (box_below _ _).trans (h.below.mono (by omega))
  refine ⟨w.heap.size + 1, 0, fun _ => rfl, fun r hr => ?_⟩
  rw [Nat.zero_add, h.nx.cell hr]
  unfold nxL
  by_cases e : B r ≠ n
  · rw [if_pos ⟨hr, e⟩, if_pos e]
    have h1 := (hE r hr).2
    have h2 := (hR (B r).toNat (by omega)).below hB
    rw [Int.toNat_of_nonneg h1.1] at h2
    exact ⟨_, _, rfl, h2⟩
  · rw [if_neg (fun hh => e hh.2), if_neg e]
    exact ⟨_, _, rfl, row_zero _ _ _⟩

theorem nx_err {F : Nat} {A B m : Nat → Int} {n : Int} (hF : F ≤ 30) : errF F (nxL A B F n) (nxZ A B F) (tally (pos m) 1 F) (fun i => (fl (pos m) 1 F).getD i 0) = 0 := by
  have hg : errG F (nxL A B F n) (nxZ A B F) = 0 := by
    refine errG_ok (by omega) (okG_yes (fun j hj => allIn_yes (fun i hi => ?_)))
    unfold nxL at hi
    by_cases e : B j ≠ n
    · rw [if_pos e] at hi
      obtain ⟨q, h1, h2, _⟩ := fl_place hi
      unfold nxZ
      rw [h1]
      omega
    · rw [if_neg e] at hi
      omega
  unfold errF
  rw [if_pos hg, if_pos (allIn_yes (fun i hi => ?_))]
  obtain ⟨q, h1, h2, _⟩ := fl_place hi
  rw [h1]
  omega

theorem nx_comes {F : Nat} {A B m : Nat → Int} {n : Int} {x : Nat} : Comes F (nxL A B F n) (nxZ A B F) (tally (pos m) 1 F) (fun i => (fl (pos m) 1 F).getD i 0) x ↔ Cm A B F m n x := by
  have eP : Src (tally (pos m) 1 F) (fun i => (fl (pos m) 1 F).getD i 0) = fun s => s < F ∧ 0 < m s := by
    funext s
    refine propext ⟨fun h => ?_, fun h => ?_⟩
    · obtain ⟨j, h1, h2, h3⟩ := has_fl.1 h
      obtain rfl : s = j := by omega
      exact ⟨h2, pos_iff.1 h3⟩
    · exact has_fl.2 ⟨s, rfl, h.1, pos_iff.2 h.2⟩
  have eE : Ed F (nxL A B F n) (nxZ A B F) = fun (a b : Nat) => a < F ∧ b < F ∧ B a ≠ n ∧ A b = B a := by
    funext a b
    refine propext ⟨fun h => ?_, fun h => ?_⟩
    · obtain ⟨h1, h2⟩ := h
      unfold nxL at h2
      by_cases e : B a ≠ n
      · rw [if_pos e] at h2
        obtain ⟨j, h3, h4, h5⟩ := has_fl.1 h2
        obtain rfl : b = j := by omega
        exact ⟨h1, h4, e, h5⟩
      · rw [if_neg e, has_zero] at h2
        cases h2
    · refine ⟨h.1, ?_⟩
      unfold nxL
      rw [if_pos h.2.2.1]
      exact has_fl.2 ⟨b, rfl, h.2.1, h.2.2.2⟩
  unfold Comes Cm
  rw [eP, eE]

set_option maxHeartbeats 2000000 in
theorem mayCome_any {na fa sa ia oa : Option Addr} {N nc F fc sc ic oc Sn : Nat} {M : Nat → ByteArray} {K A B : Nat → Int} {l : List St3} {w : World} (h : Brd w na N nc fa F sa ia oa M K A B l) {ma : Option Addr} {mc : Nat} {m : Nat → Int} (hm : Row w ma F m) {n : Nat} (hn : n < N) :
    Calls Try.prog 94 #[.agg #[.slice na N nc, .slice fa F fc, .slice sa Sn sc, .slice ia N ic, .slice oa N oc], .slice ma F mc, .int .i64 n] w fun e w' => Told (∃ j, j < F ∧ B j = n ∧ m j = 0 ∧ Cm A B F m n j) e ∧ Below w.heap.size w w' := by
  have HF : Hid (Fls w fa F A B) := h.prc.fls
  have hz := chk_zero h.chk
  have HE : Hid (∀ i, i < F → (0 ≤ A i ∧ A i < N) ∧ (0 ≤ B i ∧ B i < N)) := endsOk_all hz.2.2.1
  have hF30 : F ≤ 30 := hz.1.2
  have hN20 : N ≤ 20 := hz.1.1
  have HIn : Hid (Gr w ia N (fun j => tally B j F) (fun j i => (fl B j F).getD i 0)) := h.ins
  obtain ⟨gb, go, af, cf, hga, hrows⟩ := gr_rows h.outs
  obtain rfl := hga (by omega)
  have HO : Hid (∀ r, r < N → w.cell? ⟨gb, go + r, none⟩ = some (.slice (af r) (tally A r F) (cf r)) ∧ Row w (af r) (tally A r F) (fun i => (fl A r F).getD i 0)) := hrows
  obtain ⟨mb, mo, hma, hmc⟩ := hm
  have HM : Hid (∀ i, i < F → w.cell? ⟨mb, mo + i, none⟩ = some (.int .i64 (m i))) := hmc
  clear hz h hrows hmc hga
  have hmk := run_make_row' (P := Try.prog) 32 26 (.slice none 0 0) 24 Try.underlying32 Try.info26 rfl .i64 .i64 F (by omega) (by omega)
  obtain ⟨i0, hi, hz0, hz1, hz2⟩ := info_parts Try.info3
  have HI : Hid (Try.prog.info? 3 = some i0 ∧ i0.zero = some (.int .i64 0) ∧ i0.size = 1 ∧ i0.bytes = 8) := ⟨hi, hz0, hz1, hz2⟩
  clear hi hz0 hz1 hz2
  have HS : Hid (Mc w ((w.alloc (.cells #[.slice na N nc, .slice fa F fc, .slice sa Sn sc, .slice ia N ic, .slice (some ⟨gb, go, none⟩) N oc] 85)).alloc (.cells (madeCells #[.slice none 0 0] F) 26)) #[.slice na N nc, .slice fa F fc, .slice sa Sn sc, .slice ia N ic, .slice (some ⟨gb, go, none⟩) N oc] F B m n (fun i => .slice (af (B i).toNat) (tally A (B i) F) (cf (B i).toNat)) 0 0 (.slice none 0 0)) := mc_start _ _ _ _ _ _ _
  go_enter Try.func94, Try.ntmps94
  go_wp2
  clear hmk
  go_loopw [7, 22] (fun v i wr => ∃ (k : Nat) (va : Option Addr) (vc : Nat), k ≤ F ∧ i = .int .i64 k ∧ v = .slice va (tally (pos m) 1 k) vc ∧ Hid (Mc w wr #[.slice na N nc, .slice fa F fc, .slice sa Sn sc, .slice ia N ic, .slice (some ⟨gb, go, none⟩) N oc] F B m n (fun i => .slice (af (B i).toNat) (tally A (B i) F) (cf (B i).toNat)) k k (.slice va (tally (pos m) 1 k) vc))) (fun _ i _ => F - (intOf i).toNat)
  case atStart => exact ⟨0, none, 0, Nat.zero_le _, rfl, rfl, HS.out⟩
  case round =>
    obtain ⟨k, va, vc, hk, rfl, rfl, HT⟩ := hrel
    clear HS
    have HB : Hid (Below w.heap.size w wr) := (box_below _ _).trans (HT.out.below.mono (by omega))
    have hs1 : w.heap.size + 1 < wr.heap.size := HT.out.nx.lt
    have hs0 : w.heap.size < wr.heap.size := by omega
    have hp4 : wr.cell? ⟨w.heap.size, 4, none⟩ = some (.slice (some ⟨gb, go, none⟩) N oc) := box_keep HT.out.below rfl
    by_cases hlt : k < F
    · obtain ⟨b, o, ha, hc⟩ := HF.out
      obtain rfl := ha (by omega)
      obtain rfl := hma (by omega)
      obtain ⟨h1, h2⟩ := Fls.at hc HB.out hlt
      have hE := HE.out k hlt
      obtain ⟨x, hx⟩ : ∃ x : Nat, B k = x := ⟨(B k).toNat, by omega⟩
      have hxN : x < N := by omega
      have hxN' : (x : Int) < N := by omega
      have HX : Hid (B k = x) := hx
      rw [hx] at h2
      have hmk' := row_at HM.out HB.out hlt
      have hml : mb < wr.heap.size := World.block_lt_of_cell? _ _ hmk'
      have hoc : wr.cell? ⟨gb, go + x, none⟩ = some (.slice (af x) (tally A x F) (cf x)) := by
        have := (HO.out x hxN).1
        rw [HB.out.cell (p := ⟨gb, go + x, none⟩) (World.block_lt_of_cell? _ _ this)]; exact this
      have hgl : gb < wr.heap.size := World.block_lt_of_cell? _ _ hoc
      have HVx : Hid (Value.slice (af (B k).toNat) (tally A (B k) F) (cf (B k).toNat) = .slice (af x) (tally A x F) (cf x)) := by show Value.slice _ _ _ = _; rw [hx]; simp
      have hn1 : wr.cell? ⟨w.heap.size + 1, k, none⟩ = some (.slice none 0 0) := by
        have := HT.out.nx.cell hlt
        rw [if_neg (by omega)] at this
        exact this
      have hn2 := HT.out.nx.frozen k
      have htl := tally_le (pos m) 1 k
      clear hc ha hE hx
      by_cases hp : 0 < m k
      · have HPk : Hid (0 < m k) := hp
        by_cases hB : x = n
        · have hB' : ((x : Int) != n) = false := by subst hB; simp
          have HBn : Hid (x = n) := hB
          clear hB
          go_wp2_with (at_builtin; refine wpList_append_own_at _ rfl _ _ 26 rfl (w.heap.size + 1 + 1) 3 i0 (.int .i64 0) 1 8 Try.underlying26 HI.out.1 HI.out.2.1 HI.out.2.2.1 HI.out.2.2.2 rfl (by decide) _ _ _ rfl ((HT.out.frm.alloc _).alloc _) ⟨wr.heap.size + 1, 0, none⟩ 1 1 [.int .i64 k] rfl rfl (cell_one_new' _ _ _ _ (by simp)) (ints_oneCell .i64 [(k : Int)]) (by unfold maxLen; omega) (by omega) (by simp; omega) ?_; intro v' w1 hown' hgrow hnil hloc; obtain ⟨⟨a4, c4, rfl⟩, g1, H4⟩ := mc_app HT.out HPk.out hown' hgrow; clear hown' hgrow hnil hloc)
          go_roundw
          case rel => exact ⟨k + 1, a4, c4, by omega, by go_num, by rw [tally_hit (pos_yes HPk.out)], by have := H4.out.pass (by rw [HX.out, HBn.out]); rw [tally_hit (pos_yes HPk.out)]; exact this⟩
          case measure => simp [intOf]; omega
        · have hB' : ((x : Int) != n) = true := by rw [bne_iff_ne]; omega
          have HBn : Hid (x ≠ n) := hB
          clear hB
          go_wp2_with (at_builtin; refine wpList_append_own_at _ rfl _ _ 26 rfl (w.heap.size + 1 + 1) 3 i0 (.int .i64 0) 1 8 Try.underlying26 HI.out.1 HI.out.2.1 HI.out.2.2.1 HI.out.2.2.2 rfl (by decide) _ _ _ rfl ((HT.out.frm.alloc _).alloc _) ⟨wr.heap.size + 1, 0, none⟩ 1 1 [.int .i64 k] rfl rfl (cell_one_new' _ _ _ _ (by simp)) (ints_oneCell .i64 [(k : Int)]) (by unfold maxLen; omega) (by omega) (by simp; omega) ?_; intro v' w1 hown' hgrow hnil hloc; obtain ⟨⟨a4, c4, rfl⟩, g1, H4⟩ := mc_app HT.out HPk.out hown' hgrow; clear hown' hgrow hnil hloc; have g2 : w1.cell? ⟨w.heap.size, 4, none⟩ = some (.slice (some ⟨gb, go, none⟩) N oc) := box_keep H4.out.below rfl; have g3 : w1.cell? ⟨gb, go + x, none⟩ = some (.slice (af x) (tally A x F) (cf x)) := (((box_below _ _).trans (H4.out.below.mono (by omega))).cell (p := ⟨gb, go + x, none⟩) (World.block_lt_of_cell? _ _ (HO.out x hxN).1)).trans (HO.out x hxN).1; have g4 : w1.cell? ⟨w.heap.size + 1, k, none⟩ = some (.slice none 0 0) := (H4.out.nx.cell hlt).trans (by rw [if_neg (by omega)]); have g5 := H4.out.nx.frozen k)
          go_roundw
          case rel => exact ⟨k + 1, a4, c4, by omega, by go_num, by rw [tally_hit (pos_yes HPk.out)], by have := H4.out.set (by rw [HX.out]; have := HBn.out; omega); rw [HVx.out] at this; rw [tally_hit (pos_yes HPk.out)]; exact this⟩
          case measure => simp [intOf]; omega
      · have HPk : Hid (¬ 0 < m k) := hp
        have HTl : Hid (tally (pos m) 1 (k + 1) = tally (pos m) 1 k) := tally_miss (pos_no hp)
        by_cases hB : x = n
        · have hB' : ((x : Int) != n) = false := by subst hB; simp
          have HBn : Hid (x = n) := hB
          clear hB
          go_wp2
          go_roundw
          case rel => exact ⟨k + 1, va, vc, by omega, by go_num, by rw [HTl.out], by rw [HTl.out]; exact ((HT.out.skip HPk.out).pass (by rw [HX.out, HBn.out])).alloc _⟩
          case measure => simp [intOf]; omega
        · have hB' : ((x : Int) != n) = true := by rw [bne_iff_ne]; omega
          have HBn : Hid (x ≠ n) := hB
          clear hB
          go_wp2
          go_roundw
          case rel => exact ⟨k + 1, va, vc, by omega, by go_num, by rw [HTl.out], by have := ((HT.out.skip HPk.out).set (by rw [HX.out]; have := HBn.out; omega)); rw [HVx.out] at this; rw [HTl.out]; exact this.alloc _⟩
          case measure => simp [intOf]; omega
    · obtain rfl : F = k := by omega
      have C : Hid (Calls Try.prog 19 #[.slice (some ⟨w.heap.size + 1, 0, none⟩) F F, .slice va (tally (pos m) 1 F) vc] wr fun e w' => ∃ (b : Nat) (R : Nat → Bool), e = .returned (.tuple #[.slice (some ⟨b, 0, none⟩) F F, .int .i64 0]) ∧ Below wr.heap.size wr w' ∧ wr.heap.size ≤ b ∧ w'.rowIs b 4 F (fun i => .bool (R i)) ∧
          ∀ x, x < F → (R x = true ↔ Comes F (nxL A B F n) (nxZ A B F) (tally (pos m) 1 F) (fun i => (fl (pos m) 1 F).getD i 0) x)) :=
        reach_ok _ F F _ _ _ _ vc _ _ (fun r _ => by unfold nxL; have := tally_le A (B r) F; split <;> omega) (by have := tally_le (pos m) 1 F; omega) (HT.out.gr HE.out (fun r hr => (HO.out r hr).2)) (fl_row HT.out.frm) (nx_err hF30)
      go_wp2_with fail
      refine C.out.mono ?_
      rintro e w3 ⟨rb, R, rfl, hb3, hrb, hrow, hcom⟩
      have HB3 : Hid (Below w.heap.size w w3) := HB.out.trans (hb3.mono HB.out.size)
      have hp3 : w3.cell? ⟨w.heap.size, 3, none⟩ = some (.slice ia N ic) := by
        rw [hb3.cell (p := ⟨w.heap.size, 3, none⟩) hs0]; exact box_keep HT.out.below rfl
      have HRw : Hid (w3.rowIs rb 4 F (fun i => .bool (R i))) := hrow
      have HRc : Hid (∀ x, x < F → (R x = true ↔ Cm A B F m n x)) := fun x hx => (hcom x hx).trans nx_comes
      obtain ⟨ib, io, rfl, _, ra, rc, hr1, hr2, _⟩ := HIn.out.at HB3.out hn
      have HIr : Hid (Row w3 ra (tally B n F) (fun i => (fl B n F).getD i 0)) := hr2
      have htl := tally_le B n F
      clear hb3 hrow hcom hr2 C HT HB hp4 hs1 hs0
      go_wp2
      go_loop [62] (fun i => ∃ k : Nat, k ≤ tally B n F ∧ i = .int .i64 k ∧ Hid (∀ j, j < F → B j = n → tally B n j < k → ¬ (m j = 0 ∧ Cm A B F m n j))) (fun i => tally B n F - (intOf i).toNat)
      case atStart => exact ⟨0, Nat.zero_le _, rfl, hid (fun j _ _ hj => absurd hj (Nat.not_lt_zero _))⟩
      case round =>
        obtain ⟨k, hk, rfl, HJ⟩ := hrel
        by_cases hlt : k < tally B n F
        · obtain ⟨j, hj1, hj2, hj3, hj4⟩ := fl_place hlt
          obtain ⟨b, o, ha, hc⟩ := HIr.out
          obtain rfl := ha (by omega)
          have hck := hc k hlt
          have hck' : w3.cell? ⟨b, o + k, none⟩ = some (.int .i64 (j : Nat)) := by rw [hck]; exact congrArg (fun q => some (Value.int .i64 q)) hj1
          obtain rfl := hma (by omega)
          have hmj := row_at HM.out HB3.out hj2
          have hrj := HRw.out.cell hj2
          have hjF : (j : Int) < F := by omega
          have HR1 := HRc.out j hj2
          have HJ1 : Hid (R j = true ↔ Cm A B F m n j) := HR1
          have HJj : Hid (j < F ∧ B j = n ∧ tally B n j = k) := ⟨hj2, hj3, hj4⟩
          clear hck hc ha hj1 hj3 hj4 HR1
          by_cases hz : m j = 0
          · have hz' : (m j == 0) = true := beq_iff_eq.2 hz
            have HZ : Hid (m j = 0) := hz
            clear hz
            cases hR : R j
            · have HRn : Hid (¬ Cm A B F m n j) := fun hh => by have := HJ1.out.2 hh; rw [hR] at this; cases this
              rw [hR] at hrj
              clear hR
              go_wp2
              go_round
              case rel =>
                refine ⟨k + 1, by omega, by go_num, hid (fun i h1 h2 h3 => ?_)⟩
                by_cases e : tally B n i < k
                · exact HJ.out i h1 h2 e
                · obtain rfl : i = j := place_uniq h2 HJj.out.2.1 (by have := HJj.out.2.2; omega)
                  exact fun hh => HRn.out hh.2
              case measure => simp [intOf]; omega
            · have HRn : Hid (Cm A B F m n j) := HJ1.out.1 hR
              rw [hR] at hrj
              clear hR
              go_wp2
              go_ret
              exact ⟨⟨true, rfl, iff_of_true rfl ⟨j, HJj.out.1, HJj.out.2.1, HZ.out, HRn.out⟩⟩, HB3.out⟩
          · have hz' : (m j == 0) = false := beq_eq_false_iff_ne.2 hz
            have HZ : Hid (m j ≠ 0) := hz
            clear hz
            go_wp2
            go_round
            case rel =>
              refine ⟨k + 1, by omega, by go_num, hid (fun i h1 h2 h3 => ?_)⟩
              by_cases e : tally B n i < k
              · exact HJ.out i h1 h2 e
              · obtain rfl : i = j := place_uniq h2 HJj.out.2.1 (by have := HJj.out.2.2; omega)
                exact fun hh => HZ.out hh.1
            case measure => simp [intOf]; omega
        · obtain rfl : tally B n F = k := by omega
          go_wp2
          go_ret
          refine ⟨⟨false, rfl, iff_of_false (by decide) ?_⟩, HB3.out⟩
          rintro ⟨j, h1, h2, h3, h4⟩
          exact HJ.out j h1 h2 (place_lt h1 h2) ⟨h3, h4⟩

end Go.Proofs.Ytjenkhphngiphaa

namespace Go.Proofs.Ytjenkhphngiphaa
open Go.RowKit

/-- Is the step enabled? -/
def enb (K A B : Nat → Int) (F : Nat) (m : Nat → Int) (t : St3) : Prop :=
  (0 ≤ t.2.1 ∧ 0 < m t.2.1.toNat) ∨ (t.2.1 < 0 ∧ K t.1.toNat = 6 ∧ ∀ j, j < F → B j = t.1 → 0 < m j) ∨
    (t.2.1 < 0 ∧ K t.1.toNat ≠ 6 ∧ (∃ j, j < F ∧ B j = t.1 ∧ 0 < m j) ∧ ¬ ∃ j, j < F ∧ B j = t.1 ∧ m j = 0 ∧ Cm A B F m t.1 j)

theorem enb_one {K A B : Nat → Int} {F : Nat} {m : Nat → Int} {n : Nat} {y : Nat} {o : Int} : enb K A B F m ((n : Int), (y : Int), o) ↔ 0 < m y := by
  unfold enb
  constructor
  · rintro (h | h | h)
    · simpa using h.2
    · exact absurd h.1 (by show ¬ (y : Int) < 0; omega)
    · exact absurd h.1 (by show ¬ (y : Int) < 0; omega)
  · intro h
    exact Or.inl ⟨by show (0 : Int) ≤ (y : Int); omega, by simpa using h⟩

theorem enb_and {K A B : Nat → Int} {F : Nat} {m : Nat → Int} {n : Nat} {x o : Int} (hx : x < 0) (hK : K n = 6) : enb K A B F m ((n : Int), x, o) ↔ ∀ j, j < F → B j = n → 0 < m j := by
  unfold enb
  constructor
  · rintro (h | h | h)
    · exact absurd h.1 (by show ¬ 0 ≤ x; omega)
    · exact h.2.2
    · exact absurd hK (by simpa using h.2.1)
  · intro h
    exact Or.inr (Or.inl ⟨hx, by simpa using hK, h⟩)

theorem enb_or {K A B : Nat → Int} {F : Nat} {m : Nat → Int} {n : Nat} {x o : Int} (hx : x < 0) (hK : K n ≠ 6) : enb K A B F m ((n : Int), x, o) ↔ (∃ j, j < F ∧ B j = n ∧ 0 < m j) ∧ ¬ ∃ j, j < F ∧ B j = n ∧ m j = 0 ∧ Cm A B F m n j := by
  unfold enb
  constructor
  · rintro (h | h | h)
    · exact absurd h.1 (by show ¬ 0 ≤ x; omega)
    · exact absurd (by simpa using h.2.1) hK
    · exact h.2.2
  · intro h
    exact Or.inr (Or.inr ⟨hx, by simpa using hK, h⟩)

/-- c of the first k flows into n have a token. -/
structure Cnt (B m : Nat → Int) (F : Nat) (n : Int) (k c : Nat) : Prop where
  le : c ≤ k
  some : 0 < c ↔ ∃ j, j < F ∧ B j = n ∧ tally B n j < k ∧ 0 < m j
  all : c = k ↔ ∀ j, j < F → B j = n → tally B n j < k → 0 < m j

theorem cnt_zero (B m : Nat → Int) (F : Nat) (n : Int) : Cnt B m F n 0 0 :=
  ⟨Nat.le_refl _, iff_of_false (by omega) (by rintro ⟨j, _, _, h, _⟩; omega), iff_of_true rfl (fun j _ _ h => by omega)⟩

theorem Cnt.hit {B m : Nat → Int} {F : Nat} {n : Int} {k c j : Nat} (h : Cnt B m F n k c) (h1 : j < F) (h2 : B j = n) (h3 : tally B n j = k) (h4 : 0 < m j) : Cnt B m F n (k + 1) (c + 1) := by
  refine ⟨by have := h.le; omega, iff_of_true (by omega) ⟨j, h1, h2, by omega, h4⟩, ?_⟩
  constructor
  · intro hc i hi1 hi2 hi3
    by_cases e : tally B n i < k
    · exact h.all.1 (by omega) i hi1 hi2 e
    · obtain rfl : i = j := place_uniq hi2 h2 (by omega)
      exact h4
  · intro hc
    have := h.all.2 (fun i hi1 hi2 hi3 => hc i hi1 hi2 (by omega))
    omega

theorem Cnt.miss {B m : Nat → Int} {F : Nat} {n : Int} {k c j : Nat} (h : Cnt B m F n k c) (h1 : j < F) (h2 : B j = n) (h3 : tally B n j = k) (h4 : ¬ 0 < m j) : Cnt B m F n (k + 1) c := by
  have hle := h.le
  refine ⟨by omega, ?_, iff_of_false (by omega) (fun hh => h4 (hh j h1 h2 (by omega)))⟩
  rw [h.some]
  constructor
  · rintro ⟨i, hi1, hi2, hi3, hi4⟩
    exact ⟨i, hi1, hi2, by omega, hi4⟩
  · rintro ⟨i, hi1, hi2, hi3, hi4⟩
    refine ⟨i, hi1, hi2, ?_, hi4⟩
    have : tally B n i ≠ k := fun e => by
      obtain rfl : i = j := place_uniq hi2 h2 (by omega)
      exact h4 hi4
    omega

theorem Cnt.full {B m : Nat → Int} {F : Nat} {n : Int} {c : Nat} (h : Cnt B m F n (tally B n F) c) : (0 < c ↔ ∃ j, j < F ∧ B j = n ∧ 0 < m j) ∧ (c = tally B n F ↔ ∀ j, j < F → B j = n → 0 < m j) := by
  constructor
  · rw [h.some]
    exact ⟨fun ⟨j, h1, h2, _, h4⟩ => ⟨j, h1, h2, h4⟩, fun ⟨j, h1, h2, h4⟩ => ⟨j, h1, h2, place_lt h1 h2, h4⟩⟩
  · rw [h.all]
    exact ⟨fun hh j h1 h2 => hh j h1 h2 (place_lt h1 h2), fun hh j h1 h2 _ => hh j h1 h2⟩

theorem told {P : Prop} {e : Ending} {x : Bool} (h1 : e = .returned (.bool x)) (h2 : x = true ↔ P) : Told P e := ⟨x, h1, h2⟩

set_option maxHeartbeats 2000000 in
theorem isEnabled_any {na fa sa ia oa : Option Addr} {N nc F fc sc ic oc Sn : Nat} {M : Nat → ByteArray} {K A B : Nat → Int} {l : List St3} {w : World} (h : Brd w na N nc fa F sa ia oa M K A B l) {ma : Option Addr} {mc : Nat} {m : Nat → Int} (hm : Row w ma F m) {n : Nat} (hn : n < N) {x o : Int} (hx : x < F) :
    Calls Try.prog 62 #[.agg #[.slice na N nc, .slice fa F fc, .slice sa Sn sc, .slice ia N ic, .slice oa N oc], .slice ma F mc, .agg #[.int .i64 n, .int .i64 x, .int .i64 o]] w fun e w' => Told (enb K A B F m ((n : Int), x, o)) e ∧ Below w.heap.size w w' := by
  have HH : Hid (Brd w na N nc fa F sa ia oa M K A B l) := h
  have HMr : Hid (Row w ma F m) := hm
  have hF30 : F ≤ 30 := (chk_zero h.chk).1.2
  obtain ⟨mb, mo, hma, hmc⟩ := hm
  by_cases h0 : 0 ≤ x
  · obtain ⟨y, rfl⟩ : ∃ y : Nat, x = y := ⟨x.toNat, by omega⟩
    have hy : y < F := by omega
    obtain rfl := hma (by omega)
    have hc := hmc y hy
    have hbl : mb < w.heap.size := World.block_lt_of_cell? _ _ hc
    have HR : Hid (enb K A B F m ((n : Int), (y : Int), o) ↔ 0 < m y) := enb_one
    clear hmc h hma
    go_enter Try.func62, Try.ntmps62
    go_wp2
    go_ret
    exact ⟨told rfl (by rw [HR.out]; simp), (box_below _ _).trans ((box_below _ _).mono (by simp))⟩
  · have hx0 : x < 0 := by omega
    obtain ⟨gb, go, rfl, hgb, ra, rc, hr1, hr2, _⟩ := h.ins.at (Below.refl _ _) hn
    have HRw : Hid (Row w ra (tally B n F) (fun i => (fl B n F).getD i 0)) := hr2
    have htl := tally_le B n F
    obtain ⟨nb, no, hna, hnc⟩ := h.prc.nds
    obtain rfl := hna (by omega)
    have hk := (hnc n hn).2
    have hnbl : nb < w.heap.size := World.block_lt_of_cell? _ _ hk
    have HM : Hid (∀ i, i < F → w.cell? ⟨mb, mo + i, none⟩ = some (.int .i64 (m i))) := hmc
    have HE1 : Hid (K n = 6 → (enb K A B F m ((n : Int), x, o) ↔ ∀ j, j < F → B j = n → 0 < m j)) := fun hK => enb_and hx0 hK
    have HE2 : Hid (K n ≠ 6 → (enb K A B F m ((n : Int), x, o) ↔ (∃ j, j < F ∧ B j = n ∧ 0 < m j) ∧ ¬ ∃ j, j < F ∧ B j = n ∧ m j = 0 ∧ Cm A B F m n j)) := fun hK => enb_or hx0 hK
    clear hmc h hr2 hnc hna
    go_enter Try.func62, Try.ntmps62
    go_wp2
    go_loop [7, 26] (fun s i => ∃ k c : Nat, k ≤ tally B n F ∧ i = .int .i64 k ∧ s = .int .i64 c ∧ Hid (Cnt B m F n k c)) (fun _ i => tally B n F - (intOf i).toNat)
    case atStart => exact ⟨0, 0, Nat.zero_le _, rfl, rfl, cnt_zero _ _ _ _⟩
    case round =>
      obtain ⟨k, c, hk2, rfl, rfl, HC⟩ := hrel
      have hcl := HC.out.le
      by_cases hlt : k < tally B n F
      · obtain ⟨j, hj1, hj2, hj3, hj4⟩ := fl_place hlt
        obtain ⟨b, o', ha, hc⟩ := HRw.out
        obtain rfl := ha (by omega)
        have hck := hc k hlt
        have hck' : w.cell? ⟨b, o' + k, none⟩ = some (.int .i64 (j : Nat)) := by rw [hck]; exact congrArg (fun q => some (Value.int .i64 q)) hj1
        have hbl : b < w.heap.size := World.block_lt_of_cell? _ _ hck'
        obtain rfl := hma (by omega)
        have hmj := HM.out j hj2
        have hmbl : mb < w.heap.size := World.block_lt_of_cell? _ _ hmj
        have hjF : (j : Int) < F := by omega
        have HJ : Hid (j < F ∧ B j = n ∧ tally B n j = k) := ⟨hj2, hj3, hj4⟩
        clear hck hc ha hj1 hj3 hj4
        by_cases hz : 0 < m j
        · have HC2 : Hid (Cnt B m F n (k + 1) (c + 1)) := HC.out.hit HJ.out.1 HJ.out.2.1 HJ.out.2.2 hz
          go_wp2
          go_round
          case rel => exact ⟨k + 1, c + 1, by omega, by go_num, by go_num, HC2.out⟩
          case measure => simp [intOf]; omega
        · have HC2 : Hid (Cnt B m F n (k + 1) c) := HC.out.miss HJ.out.1 HJ.out.2.1 HJ.out.2.2 hz
          go_wp2
          go_round
          case rel => exact ⟨k + 1, c, by omega, by go_num, rfl, HC2.out⟩
          case measure => simp [intOf]; omega
      · obtain rfl : tally B n F = k := by omega
        have HC3 : Hid ((0 < c ↔ ∃ j, j < F ∧ B j = n ∧ 0 < m j) ∧ (c = tally B n F ↔ ∀ j, j < F → B j = n → 0 < m j)) := HC.out.full
        by_cases hK : K n = 6
        · have hK' : (K n == 6) = true := beq_iff_eq.2 hK
          have HE3 : Hid (enb K A B F m ((n : Int), x, o) ↔ ∀ j, j < F → B j = n → 0 < m j) := HE1.out hK
          clear hK
          by_cases hcc : c = tally B n F
          · have hc' : ((c : Int) == (tally B n F : Nat)) = true := beq_iff_eq.2 (by omega)
            have HCC : Hid (c = tally B n F) := hcc
            clear hcc
            go_wp2
            go_ret
            exact ⟨told rfl (iff_of_true rfl (HE3.out.2 (HC3.out.2.1 HCC.out))), (box_below _ _).trans ((box_below _ _).mono (by simp))⟩
          · have hc' : ((c : Int) == (tally B n F : Nat)) = false := beq_eq_false_iff_ne.2 (by omega)
            have HCC : Hid (c ≠ tally B n F) := hcc
            clear hcc
            go_wp2
            go_ret
            exact ⟨told rfl (iff_of_false (by decide) (fun hh => HCC.out (HC3.out.2.2 (HE3.out.1 hh)))), (box_below _ _).trans ((box_below _ _).mono (by simp))⟩
        · have hK' : (K n == 6) = false := beq_eq_false_iff_ne.2 hK
          have HE3 := HE2.out hK
          have HE4 : Hid (enb K A B F m ((n : Int), x, o) ↔ (∃ j, j < F ∧ B j = n ∧ 0 < m j) ∧ ¬ ∃ j, j < F ∧ B j = n ∧ m j = 0 ∧ Cm A B F m n j) := HE3
          clear hK HE3
          by_cases hcc : 0 < c
          · have HCC : Hid (0 < c) := hcc
            have hci : (0 : Int) < (c : Int) := by omega
            obtain ⟨W, eW⟩ : ∃ u, u = (w.alloc (.cells #[.slice (some ⟨nb, no, none⟩) N nc, .slice fa F fc, .slice sa Sn sc, .slice (some ⟨gb, go, none⟩) N ic, .slice oa N oc] 85)).alloc (.cells #[.int .i64 n, .int .i64 x, .int .i64 o] 75) := ⟨_, rfl⟩
            have HW : Hid (Below w.heap.size w W) := by subst eW; exact (box_below _ _).trans ((box_below _ _).mono (by simp))
            have C : Hid (Calls Try.prog 94 #[.agg #[.slice (some ⟨nb, no, none⟩) N nc, .slice fa F fc, .slice sa Sn sc, .slice (some ⟨gb, go, none⟩) N ic, .slice oa N oc], .slice ma F mc, .int .i64 n] W fun e w' => Told (∃ j, j < F ∧ B j = n ∧ m j = 0 ∧ Cm A B F m n j) e ∧ Below W.heap.size W w') := mayCome_any (HH.out.below HW.out) (HMr.out.below HW.out) hn
            rw [eW] at C
            have HEW : Hid (W = (w.alloc (.cells #[.slice (some ⟨nb, no, none⟩) N nc, .slice fa F fc, .slice sa Sn sc, .slice (some ⟨gb, go, none⟩) N ic, .slice oa N oc] 85)).alloc (.cells #[.int .i64 n, .int .i64 x, .int .i64 o] 75)) := eW
            clear eW
            go_wp2_with fail
            refine C.out.mono ?_
            rw [← HEW.out]
            rintro e w' ⟨⟨z, rfl, hz⟩, hb⟩
            have HB : Hid (Below w.heap.size w w') := HW.out.trans (hb.mono HW.out.size)
            have HZ : Hid (z = true ↔ ∃ j, j < F ∧ B j = n ∧ m j = 0 ∧ Cm A B F m n j) := hz
            clear hz hb C
            cases hzz : z
            · have HZ2 : Hid (¬ ∃ j, j < F ∧ B j = n ∧ m j = 0 ∧ Cm A B F m n j) := fun hh => by have := HZ.out.2 hh; rw [hzz] at this; cases this
              clear hzz HZ
              go_wp2
              go_ret
              exact ⟨told rfl (iff_of_true rfl (HE4.out.2 ⟨HC3.out.1.1 HCC.out, HZ2.out⟩)), HB.out⟩
            · have HZ2 : Hid (∃ j, j < F ∧ B j = n ∧ m j = 0 ∧ Cm A B F m n j) := HZ.out.1 hzz
              clear hzz HZ
              go_wp2
              go_ret
              exact ⟨told rfl (iff_of_false (by decide) (fun hh => (HE4.out.1 hh).2 HZ2.out)), HB.out⟩
          · have HCC : Hid (¬ 0 < c) := hcc
            obtain rfl : c = 0 := by omega
            go_wp2
            go_ret
            exact ⟨told rfl (iff_of_false (by decide) (fun hh => HCC.out (HC3.out.1.2 (HE4.out.1 hh).1))), (box_below _ _).trans ((box_below _ _).mono (by simp))⟩

end Go.Proofs.Ytjenkhphngiphaa
