/- The law SccJoined, by the contracts of what it calls. -/
import Derived.Test.YtjfanphbjngfeaaMore
namespace Go.Proofs.Ytjfanphbjngfeaa
open Go.RowKit

set_option maxHeartbeats 400000 in
theorem small_any (ga : Option Addr) (G gc : Nat) (w : World) : Calls Try.prog 23 #[.slice ga G gc] w fun e w' => e = .returned (.bool (decide (G ≤ 120))) ∧ w' = w := by
  by_cases h : G ≤ 120
  · have hz : (G : Int) ≤ 120 := by omega
    go_enter Try.func23, Try.ntmps23
    go_wp2
    go_ret
    exact ⟨ret_bool (by simp [h]), rfl⟩
  · have hz : ¬ (G : Int) ≤ 120 := by omega
    go_enter Try.func23, Try.ntmps23
    go_wp2
    go_ret
    exact ⟨ret_bool (by simp), rfl⟩

theorem one_get (v : Value) (i : Nat) (hi : i < 1) : (#[v] : Array Value)[i]? = some v := by
  have : i = 0 := by omega
  subst this
  rfl

/-- The graph that the law begins with: one may go from 0 to 1. -/
def litL (r : Nat) : Nat := if r = 0 then 1 else 0

theorem lit_gr (w : World) : Gr (((((w.alloc (.cells #[.int .i64 1] 3)).alloc (.cells #[] 3)).alloc (.cells #[] 3)).alloc (.cells #[.slice (some ⟨w.heap.size, 0, none⟩) 1 1, .slice (some ⟨w.heap.size + 1, 0, none⟩) 0 0, .slice (some ⟨w.heap.size + 1 + 1, 0, none⟩) 0 0] 30)).alloc (.cells #[.int .i64 0] 3))
    (some ⟨w.heap.size + 1 + 1 + 1, 0, none⟩) 3 litL (fun _ _ => 1) := by
  have h1 := rowIs_lit w #[.int .i64 1] 3 w.heap.size 1 (fun _ => .int .i64 1) rfl rfl (one_get _)
  have h4 := rowIs_lit (((w.alloc (.cells #[.int .i64 1] 3)).alloc (.cells #[] 3)).alloc (.cells #[] 3))
    #[.slice (some ⟨w.heap.size, 0, none⟩) 1 1, .slice (some ⟨w.heap.size + 1, 0, none⟩) 0 0, .slice (some ⟨w.heap.size + 1 + 1, 0, none⟩) 0 0] 30 (w.heap.size + 1 + 1 + 1) 3
    (fun i => .slice (some ⟨w.heap.size + i, 0, none⟩) (litL i) (litL i)) (by simp) rfl (fun i hi => by
      match i, hi with
      | 0, _ => rfl
      | 1, _ => rfl
      | 2, _ => rfl)
  refine ⟨w.heap.size + 1 + 1 + 1, 0, fun _ => rfl, fun r hr => ⟨some ⟨w.heap.size + r, 0, none⟩, litL r, by rw [Nat.zero_add]; exact (h4.alloc _).cell hr, ?_⟩⟩
  by_cases e : r = 0
  · subst e
    exact row_of_rowIs ((((h1.alloc _).alloc _).alloc _).alloc _)
  · have : litL r = 0 := by simp [litL, e]
    rw [this]
    exact row_zero _ _ _

theorem lit_row (w : World) (x : Int) (b : Nat) (hb : b = w.heap.size) : Row (w.alloc (.cells #[.int .i64 x] 3)) (some ⟨b, 0, none⟩) 1 (fun _ => x) :=
  row_of_rowIs (rowIs_lit w #[.int .i64 x] 3 b 1 (fun _ => .int .i64 x) hb rfl (one_get _))

theorem lit_err : errF 3 litL (fun _ _ => 1) 1 (fun _ => 0) = 0 := by decide

theorem lit_walks : ∀ k x, Wk (Src 1 (fun _ => 0)) (Ed 3 litL (fun _ _ => 1)) k x → x = 0 ∨ x = 1
  | 0, x, h => by
    obtain ⟨i, _, e⟩ := has_iff.1 h
    have e' : (0 : Int) = x := e
    exact Or.inl (by omega)
  | k + 1, x, ⟨y, _, hy⟩ => by
    obtain ⟨i, _, e⟩ := has_iff.1 hy.2
    have e' : (1 : Int) = x := e
    exact Or.inr (by omega)

theorem lit_comes (x : Nat) (hx : x < 3) : Comes 3 litL (fun _ _ => 1) 1 (fun _ => 0) x ↔ x < 2 := by
  constructor
  · rintro ⟨k, hk⟩
    have := lit_walks k x hk
    omega
  · intro h
    match x, h with
    | 0, _ => exact ⟨0, has_iff.2 ⟨0, by omega, rfl⟩⟩
    | 1, _ => exact ⟨1, 0, has_iff.2 ⟨0, by omega, rfl⟩, by omega, has_iff.2 ⟨0, by simp [litL], rfl⟩⟩


theorem tri_get (i : Nat) (hi : i < 3) : (#[.bool true, .bool true, .bool false] : Array Value)[i]? = some (.bool (decide (i < 2))) := by
  match i, hi with
  | 0, _ => rfl
  | 1, _ => rfl
  | 2, _ => rfl

theorem below_lit (w : World) : Below w.heap.size w (((((w.alloc (.cells #[.int .i64 1] 3)).alloc (.cells #[] 3)).alloc (.cells #[] 3)).alloc (.cells #[.slice (some ⟨w.heap.size, 0, none⟩) 1 1, .slice (some ⟨w.heap.size + 1, 0, none⟩) 0 0, .slice (some ⟨w.heap.size + 1 + 1, 0, none⟩) 0 0] 30)).alloc (.cells #[.int .i64 0] 3)) :=
  (((((Below.refl _ _).alloc (Nat.le_refl _) _).alloc (by simp) _).alloc (by simp; omega) _).alloc (by simp; omega) _).alloc (by simp; omega) _

theorem below_drewN' {B : Nat} {w w' : World} (h : Below B w w') (q : Nat) : Below B w (w'.drewN q) := h.trans ⟨rfl, rfl, rfl, Nat.le_refl _, fun _ _ => rfl⟩

theorem wk_or {P P1 P2 : Nat → Prop} {E : Nat → Nat → Prop} (h : ∀ x, P x ↔ P1 x ∨ P2 x) : ∀ k x, Wk P E k x ↔ Wk P1 E k x ∨ Wk P2 E k x
  | 0, x => h x
  | k + 1, x => by
    constructor
    · rintro ⟨y, hy, he⟩
      rcases (wk_or h k y).1 hy with h1 | h1
      · exact Or.inl ⟨y, h1, he⟩
      · exact Or.inr ⟨y, h1, he⟩
    · rintro (⟨y, hy, he⟩ | ⟨y, hy, he⟩)
      · exact ⟨y, (wk_or h k y).2 (Or.inl hy), he⟩
      · exact ⟨y, (wk_or h k y).2 (Or.inr hy), he⟩

/-- The two lists one behind the other. -/
def both (n : Nat) (Y : Nat → Int) (m : Nat) (X : Nat → Int) (i : Nat) : Int := (lst n Y ++ lst m X).getD i 0

theorem both_left {n : Nat} {Y : Nat → Int} {m : Nat} {X : Nat → Int} {i : Nat} (h : i < n) : both n Y m X i = Y i := by
  unfold both
  rw [List.getD_eq_getElem?_getD, List.getElem?_append_left (by rw [lst_len]; exact h), ← List.getD_eq_getElem?_getD]
  exact lst_getD n Y i h

theorem both_right {n : Nat} {Y : Nat → Int} {m : Nat} {X : Nat → Int} {i : Nat} (h : i < m) : both n Y m X (n + i) = X i := by
  unfold both
  rw [List.getD_eq_getElem?_getD, List.getElem?_append_right (by rw [lst_len]; omega), ← List.getD_eq_getElem?_getD, lst_len, Nat.add_sub_cancel_left]
  exact lst_getD m X i h

theorem both_src (n : Nat) (Y : Nat → Int) (m : Nat) (X : Nat → Int) (x : Nat) : Src (n + m) (both n Y m X) x ↔ Src n Y x ∨ Src m X x := by
  unfold Src
  rw [has_iff, has_iff, has_iff]
  constructor
  · rintro ⟨i, hi, e⟩
    by_cases h : i < n
    · exact Or.inl ⟨i, h, by rw [both_left h] at e; exact e⟩
    · obtain ⟨j, rfl⟩ : ∃ j, i = n + j := ⟨i - n, by omega⟩
      exact Or.inr ⟨j, by omega, by rw [both_right (by omega)] at e; exact e⟩
  · rintro (⟨i, hi, e⟩ | ⟨i, hi, e⟩)
    · exact ⟨i, by omega, by rw [both_left hi]; exact e⟩
    · exact ⟨n + i, by omega, by rw [both_right hi]; exact e⟩

theorem both_err {G : Nat} {L : Nat → Nat} {Z : Nat → Nat → Int} {n : Nat} {Y : Nat → Int} {m : Nat} {X : Nat → Int} (h1 : errF G L Z n Y = 0) (h2 : errF G L Z m X = 0) : errF G L Z (n + m) (both n Y m X) = 0 := by
  obtain ⟨hg, h1⟩ := errF_zero h1
  obtain ⟨_, h2⟩ := errF_zero h2
  unfold errF
  rw [if_pos hg, if_pos (allIn_yes (fun i hi => ?_))]
  by_cases h : i < n
  · rw [both_left h]; exact h1 i h
  · obtain ⟨j, rfl⟩ : ∃ j, i = n + j := ⟨i - n, by omega⟩
    rw [both_right (by omega)]; exact h2 j (by omega)

theorem comes_or (G : Nat) (L : Nat → Nat) (Z : Nat → Nat → Int) (n : Nat) (Y : Nat → Int) (m : Nat) (X : Nat → Int) (x : Nat) : Comes G L Z (n + m) (both n Y m X) x ↔ Comes G L Z n Y x ∨ Comes G L Z m X x := by
  have h := fun k => wk_or (E := Ed G L Z) (both_src n Y m X) k x
  constructor
  · rintro ⟨k, hk⟩
    rcases (h k).1 hk with h1 | h1
    · exact Or.inl ⟨k, h1⟩
    · exact Or.inr ⟨k, h1⟩
  · rintro (⟨k, hk⟩ | ⟨k, hk⟩)
    · exact ⟨k, (h k).2 (Or.inl hk)⟩
    · exact ⟨k, (h k).2 (Or.inr hk)⟩

theorem comes_on {G : Nat} {L : Nat → Nat} {Z : Nat → Nat → Int} {n : Nat} {Y : Nat → Int} {x y : Nat} (h : Comes G L Z n Y x) (e : Ed G L Z x y) : Comes G L Z n Y y := by
  obtain ⟨k, hk⟩ := h
  exact ⟨k + 1, x, hk, e⟩

theorem cells_below {w w' : World} {b G : Nat} {f : Nat → Value} (h : ∀ k, k < G → w.cell? ⟨b, k, none⟩ = some (f k)) (hb : Below w.heap.size w w') : ∀ k, k < G → w'.cell? ⟨b, k, none⟩ = some (f k) := fun k hk => by
  rw [hb.cell (p := ⟨b, k, none⟩) (World.block_lt_of_cell? _ _ (h k hk))]
  exact h k hk

theorem joined_row {w : World} {base : Nat} {v : Value} {n : Nat} {Y : Nat → Int} {m : Nat} {X : Nat → Int} (h : w.ownsRow base 3 1 v (n + m) (vals (lst n Y ++ lst m X))) : ∃ a c, v = .slice a (n + m) c ∧ Row w a (n + m) (both n Y m X) := by
  have hl : (lst n Y ++ lst m X).length = n + m := by simp [lst_len]
  have := owns_row (l := lst n Y ++ lst m X) (by rw [hl]; exact h)
  rw [hl] at this
  exact this

/-- What the append leaves: all that was there stays. -/
theorem joined_post {w w5 w6 w7 : World} {v6 : Value} {n : Nat} {l : List Value} (hb : Below w.heap.size w w5) (hb6 : Below w5.heap.size w5 w6) (ho : w6.ownsRow w5.heap.size 3 1 v6 n l) (hg : w6.grownBy w7 v6.ownBlock) : Below w5.heap.size w5 w7 ∧ Below w.heap.size w w7 := by
  have h1 : Below w5.heap.size w5 w7 := hb6.grown hg hb6.size (fun k hk => (ho.lt k hk).1)
  exact ⟨h1, hb.trans (h1.mono hb.size)⟩

theorem reach_bad' (ga : Option Addr) (G gc : Nat) (L : Nat → Nat) (Z : Nat → Nat → Int) (a : Option Addr) (n c : Nat) (Y : Nat → Int) (w : World) (hL : ∀ r, r < G → L r ≤ 140737488355328) (hn : n ≤ 140737488355328) (h : Gr w ga G L Z) (hrow : Row w a n Y)
    (E : Int) (hE : errF G L Z n Y = E) (h0 : E ≠ 0) :
    Calls Try.prog 15 #[.slice ga G gc, .slice a n c] w fun e w' => e = .returned (.tuple #[.slice none 0 0, .int .i64 E]) ∧ w' = w := by
  subst hE
  exact reach_bad ga G gc L Z a n c Y w hL hn h hrow h0

set_option maxHeartbeats 1000000 in
theorem sccJoined_walk (ga : Option Addr) (G gc : Nat) (L : Nat → Nat) (Z : Nat → Nat → Int) (a : Option Addr) (n c : Nat) (Y : Nat → Int) (b : Option Addr) (m d : Nat) (X : Nat → Int) (w : World)
    (hL : ∀ r, r < G → L r ≤ 140737488355328) (hnm : n + m ≤ 2097152) (h : Gr w ga G L Z) (ha : Row w a n Y) (han : a = none → n = 0 ∧ c = 0) (hb : Row w b m X) (hbn : b = none → m = 0 ∧ d = 0) :
    Calls Try.prog 8 #[.slice ga G gc, .slice a n c, .slice b m d] w fun e w' => e = .returned (.bool true) ∧ Below w.heap.size w w' := by
  have HL : Hid (∀ r, r < G → L r ≤ 140737488355328) := hL
  have HG : Hid (Gr w ga G L Z) := h
  have HA : Hid (Row w a n Y ∧ (a = none → n = 0 ∧ c = 0)) := ⟨ha, han⟩
  have HB : Hid (Row w b m X ∧ (b = none → m = 0 ∧ d = 0)) := ⟨hb, hbn⟩
  clear hL h ha han hb hbn
  go_enter Try.func8, Try.ntmps8
  go_wp2_with fail
  refine (reach_ok (some ⟨w.heap.size + 1 + 1 + 1, 0, none⟩) 3 3 litL (fun _ _ => 1) (some ⟨w.heap.size + 1 + 1 + 1 + 1, 0, none⟩) 1 1 (fun _ => 0) _ (fun r hr => by unfold litL; split <;> omega) (by omega) (lit_gr w) (lit_row _ 0 _ (by simp)) lit_err).mono ?_
  rintro e w1 ⟨b1, R1, rfl, hbel1, hb1, hrow1, hR1⟩
  have HW1 : Hid (Below w.heap.size w w1) := (below_lit w).trans (hbel1.mono (by simp; omega))
  have HR1 : Hid (Rowb w1 (some ⟨b1, 0, none⟩) 3 (fun i => decide (i < 2))) := by
    refine rowb_of_rowIs (hrow1.congr (fun i hi => ?_))
    have := (hR1 i hi).trans (lit_comes i hi)
    congr 1
    rw [Bool.eq_iff_iff, this]
    simp
  clear hbel1 hb1 hrow1 hR1
  go_wp2_with fail
  have HR2 : Hid (Rowb (w1.alloc (.cells #[.bool true, .bool true, .bool false] 4)) (some ⟨w1.heap.size, 0, none⟩) 3 (fun i => decide (i < 2))) := rowb_of_rowIs (rowIs_lit w1 _ 4 _ 3 _ rfl rfl tri_get)
  have C19 := equalB_any (some ⟨b1, 0, none⟩) (some ⟨w1.heap.size, 0, none⟩) 3 3 3 3 _ _ _ (by omega) (HR1.out.below ((Below.refl _ _).alloc (Nat.le_refl _) _)) HR2.out
  rw [sameB_yes rfl (fun _ _ => rfl)] at C19
  refine C19.mono ?_
  rintro e w3 ⟨rfl, q, hw3⟩
  have HW3 : Hid (Below w.heap.size w w3) := by rw [hw3]; exact below_drewN' (HW1.out.alloc HW1.out.size _) q
  clear hw3 C19 HR1 HR2 HW1
  by_cases hE : errF G L Z n Y = 0
  · have HE : Hid (errF G L Z n Y = 0) := hE
    clear hE
    go_wp2_with fail
    refine (reach_ok ga G gc L Z a n c Y _ HL.out (by omega) (HG.out.below HW3.out) (HA.out.1.below HW3.out) HE.out).mono ?_
    rintro e w4 ⟨b4, R4, rfl, hbel4, hb4, hrow4, hR4⟩
    have HW4 : Hid (Below w.heap.size w w4) := HW3.out.trans (hbel4.mono HW3.out.size)
    have HX4 : Hid (∀ k, k < G → w4.cell? ⟨b4, k, none⟩ = some (.bool (R4 k))) := fun k hk => hrow4.cell hk
    have HR4 : Hid (∀ x, x < G → (R4 x = true ↔ Comes G L Z n Y x)) := hR4
    clear hbel4 hb4 hrow4 hR4 HW3
    by_cases hF : errF G L Z m X = 0
    · have HF : Hid (errF G L Z m X = 0) := hF
      clear hF
      go_wp2_with fail
      refine (reach_ok ga G gc L Z b m d X _ HL.out (by omega) (HG.out.below HW4.out) (HB.out.1.below HW4.out) HF.out).mono ?_
      rintro e w5 ⟨b5, R5, rfl, hbel5, hb5, hrow5, hR5⟩
      have HW5 : Hid (Below w.heap.size w w5) := HW4.out.trans (hbel5.mono HW4.out.size)
      have HX4' : Hid (∀ k, k < G → w5.cell? ⟨b4, k, none⟩ = some (.bool (R4 k))) := cells_below HX4.out hbel5
      have HX5 : Hid (∀ k, k < G → w5.cell? ⟨b5, k, none⟩ = some (.bool (R5 k))) := fun k hk => hrow5.cell hk
      have HR5 : Hid (∀ x, x < G → (R5 x = true ↔ Comes G L Z m X x)) := hR5
      clear hbel5 hb5 hrow5 hR5 HW4 HX4
      by_cases hS : G ≤ 120
      · go_wp2_with fail
        have C23 := small_any ga G gc w5
        rw [decide_eq_true hS] at C23
        refine C23.mono ?_
        rintro e w5' ⟨rfl, rfl⟩
        clear C23
        go_wp2_with fail
        refine (clone_any a n c Y _ (by omega) (HA.out.1.below HW5.out) HA.out.2).mono ?_
        rintro e w6 ⟨v6, rfl, hown6, hbel6⟩
        have HW6 : Hid (Below w.heap.size w w6) := HW5.out.trans (hbel6.mono HW5.out.size)
        have HX4'' : Hid (∀ k, k < G → w6.cell? ⟨b4, k, none⟩ = some (.bool (R4 k))) := cells_below HX4'.out hbel6
        have HX5' : Hid (∀ k, k < G → w6.cell? ⟨b5, k, none⟩ = some (.bool (R5 k))) := cells_below HX5.out hbel6
        have HO6 : Hid (w6.ownsRow w5'.heap.size 3 1 v6 n (vals (lst n Y))) := hown6
        have HS6 : Hid (w5'.heap.size ≤ w6.heap.size) := hbel6.size
        have HB5 : Hid (Below w5'.heap.size w5' w6) := hbel6
        obtain ⟨i0, hi, hz0, hz1, hz2⟩ := info_parts Try.info3
        have HI : Hid (Try.prog.info? 3 = some i0 ∧ i0.zero = some (.int .i64 0) ∧ i0.size = 1 ∧ i0.bytes = 8) := ⟨hi, hz0, hz1, hz2⟩
        clear hown6 hbel6 hi hz0 hz1 hz2
        go_wp2_with (at_builtin; refine wpList_append_list _ rfl _ _ 30 rfl w5'.heap.size i0 Try.underlying30 HI.out.1 HI.out.2.1 HI.out.2.2.1 HI.out.2.2.2 _ n (lst n Y) rfl HO6.out b m d X rfl (HB.out.1.below HW6.out) HB.out.2 (by omega) HS6.out ?_; intro v7 w7 hown7 hgrow7; obtain ⟨a7, c7, rfl, hrow7⟩ := joined_row hown7; have H7 : Hid (Row w7 a7 (n + m) (both n Y m X) ∧ Below w5'.heap.size w5' w7 ∧ Below w.heap.size w w7) := ⟨hrow7, joined_post HW5.out HB5.out HO6.out hgrow7⟩; clear hown7 hgrow7 hrow7)
        refine (reach_ok ga G gc L Z a7 (n + m) c7 (both n Y m X) _ HL.out (by omega) (HG.out.below H7.out.2.2) H7.out.1 (both_err HE.out HF.out)).mono ?_
        rintro e w8 ⟨b8, R8, rfl, hbel8, hb8, hrow8, hR8⟩
        have HW8 : Hid (Below w.heap.size w w8) := H7.out.2.2.trans (hbel8.mono H7.out.2.2.size)
        have hbel58 := H7.out.2.1.trans (hbel8.mono H7.out.2.1.size)
        have HX : Hid ((∀ k, k < G → w8.cell? ⟨b4, k, none⟩ = some (.bool (R4 k))) ∧ (∀ k, k < G → w8.cell? ⟨b5, k, none⟩ = some (.bool (R5 k))) ∧ (∀ k, k < G → w8.cell? ⟨b8, k, none⟩ = some (.bool (R8 k)))) :=
          ⟨cells_below HX4'.out hbel58, cells_below HX5.out hbel58, fun k hk => hrow8.cell hk⟩
        have HR : Hid ((∀ x, x < G → R8 x = (R4 x || R5 x)) ∧ ∀ x y, x < G → y < G → Ed G L Z x y → R4 x = true → R4 y = true) := by
          refine ⟨fun x hx => ?_, fun x y hx hy he h4 => (HR4.out y hy).2 (comes_on ((HR4.out x hx).1 h4) he)⟩
          rw [Bool.eq_iff_iff, hR8 x hx, comes_or, Bool.or_eq_true, HR4.out x hx, HR5.out x hx]
        clear hbel8 hb8 hrow8 hR8 hbel58 HX4' HX4'' HX5 HX5' HR4 HR5 H7 HW6 HO6 HS6 HB5 HI HW5
        have hG : G ≤ 20000 := by omega
        go_wp2
        go_loopw [87] (fun i wr => ∃ k : Nat, k ≤ G ∧ i = .int .i64 k ∧ ∃ q, wr = w8.drewN q) (fun i _ => G - (intOf i).toNat)
        case atStart => exact ⟨0, Nat.zero_le _, rfl, 0, rfl⟩
        case round =>
          obtain ⟨k, hk, rfl, q, rfl⟩ := hrel
          by_cases hlt : k < G
          · have hkz : (k : Int) < G := by omega
            obtain ⟨gb, go, hga, hgc⟩ := HG.out
            obtain rfl := hga (by omega)
            obtain ⟨a9, c9, hg0, hr0⟩ := hgc k hlt
            have hgk : w8.cell? ⟨gb, go + k, none⟩ = some (.slice a9 (L k) c9) := by
              rw [HW8.out.cell (p := ⟨gb, go + k, none⟩) (World.block_lt_of_cell? _ _ hg0)]; exact hg0
            have HR9 : Hid (Row w8 a9 (L k) (Z k)) := hr0.below HW8.out
            have hLk := HL.out k hlt
            have HZ : Hid (∀ i, i < L k → 0 ≤ Z k i ∧ Z k i < G) := (errG_zero (errF_zero HE.out).1).2 k hlt
            clear hg0 hr0 hgc hga
            have hx4 := HX.out.1 k hlt
            have hx5 := HX.out.2.1 k hlt
            have hx8 := HX.out.2.2 k hlt
            rw [HR.out.1 k hlt] at hx8
            have HCL : Hid (∀ t, t < G → Ed G L Z k t → R4 k = true → R4 t = true) := fun t ht => HR.out.2 k t hlt ht
            cases h4 : R4 k
            · rw [h4] at hx4 hx8
              cases h5 : R5 k
              all_goals
                rw [h5] at hx5 hx8
                clear h4 h5 HCL
                simp only [Bool.or_false, Bool.or_true] at hx8
                go_wp2
                go_quiet (fail)
                go_wp2
                go_loop [110] (fun i => ∃ j : Nat, j ≤ L k ∧ i = .int .i64 j) (fun i => L k - (intOf i).toNat)
                case atStart => exact ⟨0, Nat.zero_le _, rfl⟩
                case round =>
                  obtain ⟨j, hj, rfl⟩ := hrel
                  by_cases hjl : j < L k
                  · obtain ⟨rb, ro, hra, hrc⟩ := HR9.out
                    obtain rfl := hra (by omega)
                    have hcj := hrc j hjl
                    clear hrc hra
                    go_wp2
                    go_round
                    case rel => exact ⟨j + 1, by omega, by go_num⟩
                    case measure => simp [intOf]; omega
                  · go_wp2
                    go_roundw
                    case rel => exact ⟨k + 1, by omega, by go_num, _, rfl⟩
                    case measure => simp [intOf]; omega
            · rw [h4] at hx4 hx8
              have HCL' : Hid (∀ t, t < G → Ed G L Z k t → R4 t = true) := fun t ht he => HCL.out t ht he h4
              clear h4 HCL
              simp only [Bool.true_or] at hx8
              go_wp2
              go_quiet (fail)
              go_wp2
              go_loop [110] (fun i => ∃ j : Nat, j ≤ L k ∧ i = .int .i64 j) (fun i => L k - (intOf i).toNat)
              case atStart => exact ⟨0, Nat.zero_le _, rfl⟩
              case round =>
                obtain ⟨j, hj, rfl⟩ := hrel
                by_cases hjl : j < L k
                · obtain ⟨rb, ro, hra, hrc⟩ := HR9.out
                  obtain rfl := hra (by omega)
                  obtain ⟨t, ht⟩ : ∃ t : Nat, Z k j = t := ⟨(Z k j).toNat, by have := HZ.out j hjl; omega⟩
                  have htG : t < G := by have := HZ.out j hjl; omega
                  have htz : (t : Int) < G := by omega
                  have hcj := hrc j hjl
                  rw [ht] at hcj
                  have hct := HX.out.1 t htG
                  rw [HCL'.out t htG ⟨hlt, has_iff.2 ⟨j, hjl, ht⟩⟩] at hct
                  clear hrc hra ht
                  go_wp2
                  go_round
                  case rel => exact ⟨j + 1, by omega, by go_num⟩
                  case measure => simp [intOf]; omega
                · go_wp2
                  go_roundw
                  case rel => exact ⟨k + 1, by omega, by go_num, _, rfl⟩
                  case measure => simp [intOf]; omega
          · go_wp2
            go_ret
            exact ⟨rfl, below_drewN' HW8.out q⟩
      · go_wp2_with fail
        have C23 := small_any ga G gc w5
        rw [decide_eq_false hS] at C23
        refine C23.mono ?_
        rintro e w5' ⟨rfl, rfl⟩
        go_wp2
        go_ret
        exact ⟨rfl, HW5.out⟩
    · obtain ⟨E, hE⟩ : ∃ E, errF G L Z m X = E := ⟨_, rfl⟩
      have hE0 : E ≠ 0 := by rw [← hE]; exact hF
      have hz1 : (E != 0) = true := by rw [bne_iff_ne]; exact hE0
      have hz2 : (E == 0) = false := beq_eq_false_iff_ne.2 hE0
      have H5 : Hid (errF G L Z m X = E ∧ E ≠ 0) := ⟨hE, hE0⟩
      clear hE hF hE0
      go_wp2_with fail
      refine (reach_bad' ga G gc L Z b m d X _ HL.out (by omega) (HG.out.below HW4.out) (HB.out.1.below HW4.out) E H5.out.1 H5.out.2).mono ?_
      rintro e w5 ⟨rfl, rfl⟩
      go_wp2
      go_ret
      exact ⟨rfl, HW4.out⟩
  · obtain ⟨E, hEE⟩ : ∃ E, errF G L Z n Y = E := ⟨_, rfl⟩
    have hE0 : E ≠ 0 := by rw [← hEE]; exact hE
    have hz1 : (E != 0) = true := by rw [bne_iff_ne]; exact hE0
    have hz2 : (E == 0) = false := beq_eq_false_iff_ne.2 hE0
    have H4 : Hid (errF G L Z n Y = E ∧ E ≠ 0) := ⟨hEE, hE0⟩
    clear hEE hE hE0
    go_wp2_with fail
    refine (reach_bad' ga G gc L Z a n c Y _ HL.out (by omega) (HG.out.below HW3.out) (HA.out.1.below HW3.out) E H4.out.1 H4.out.2).mono ?_
    rintro e w4 ⟨rfl, rfl⟩
    by_cases hF : errF G L Z m X = 0
    · have HF : Hid (errF G L Z m X = 0) := hF
      clear hF
      go_wp2_with fail
      refine (reach_ok ga G gc L Z b m d X _ HL.out (by omega) (HG.out.below HW3.out) (HB.out.1.below HW3.out) HF.out).mono ?_
      rintro e w5 ⟨b5, R5, rfl, hbel5, hb5, hrow5, hR5⟩
      have HW5 : Hid (Below w.heap.size w w5) := HW3.out.trans (hbel5.mono HW3.out.size)
      clear hbel5 hb5 hrow5 hR5
      go_wp2
      go_ret
      exact ⟨rfl, HW5.out⟩
    · obtain ⟨E2, hE⟩ : ∃ E, errF G L Z m X = E := ⟨_, rfl⟩
      have hE0 : E2 ≠ 0 := by rw [← hE]; exact hF
      have hz3 : (E2 != 0) = true := by rw [bne_iff_ne]; exact hE0
      have hz4 : (E2 == 0) = false := beq_eq_false_iff_ne.2 hE0
      have H5 : Hid (errF G L Z m X = E2 ∧ E2 ≠ 0) := ⟨hE, hE0⟩
      clear hE hF hE0
      go_wp2_with fail
      refine (reach_bad' ga G gc L Z b m d X _ HL.out (by omega) (HG.out.below HW3.out) (HB.out.1.below HW3.out) E2 H5.out.1 H5.out.2).mono ?_
      rintro e w5 ⟨rfl, rfl⟩
      go_wp2
      go_ret
      exact ⟨rfl, HW3.out⟩

end Go.Proofs.Ytjfanphbjngfeaa
