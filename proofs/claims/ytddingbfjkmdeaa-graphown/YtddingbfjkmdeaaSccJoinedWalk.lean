/- The law SccJoined, by the contracts of what it calls. -/
import Derived.Test.YtddingbfjkmdeaaMore
namespace Go.Proofs.Ytddingbfjkmdeaa
open Go.RowKit

theorem one_get (v : Value) (i : Nat) (hi : i < 1) : (#[v] : Array Value)[i]? = some v := by
  have : i = 0 := by omega
  subst this
  rfl

/-- The graph that the law begins with: one may go from 0 to 1. -/
def litL (r : Nat) : Nat := if r = 0 then 1 else 0

theorem lit_gr (w : World) : Gr (((((w.alloc (.cells #[.int .i64 1] 3)).alloc (.cells #[] 3)).alloc (.cells #[] 3)).alloc (.cells #[.slice (some ⟨w.heap.size, 0, none⟩) 1 1, .slice (some ⟨w.heap.size + 1, 0, none⟩) 0 0, .slice (some ⟨w.heap.size + 1 + 1, 0, none⟩) 0 0] 28)).alloc (.cells #[.int .i64 0] 3))
    (some ⟨w.heap.size + 1 + 1 + 1, 0, none⟩) 3 litL (fun _ _ => 1) := by
  have h1 := rowIs_lit w #[.int .i64 1] 3 w.heap.size 1 (fun _ => .int .i64 1) rfl rfl (one_get _)
  have h4 := rowIs_lit (((w.alloc (.cells #[.int .i64 1] 3)).alloc (.cells #[] 3)).alloc (.cells #[] 3))
    #[.slice (some ⟨w.heap.size, 0, none⟩) 1 1, .slice (some ⟨w.heap.size + 1, 0, none⟩) 0 0, .slice (some ⟨w.heap.size + 1 + 1, 0, none⟩) 0 0] 28 (w.heap.size + 1 + 1 + 1) 3
    (fun i => .slice (some ⟨w.heap.size + i, 0, none⟩) (litL i) (litL i)) (by simp) rfl (fun i hi => by
      match i, hi with
      | 0, _ => rfl
      | 1, _ => rfl
      | 2, _ => rfl)
  refine ⟨w.heap.size + 1 + 1 + 1, 0, fun _ => rfl, fun r hr => ⟨some ⟨w.heap.size + r, 0, none⟩, litL r, by rw [Nat.zero_add]; exact (h4.alloc _).cell hr, ?_⟩⟩
  by_cases e : r = 0
  · subst e
    exact row_of_rowIs ((((h1.alloc _).alloc _).alloc _).alloc _)
  · have : litL r = 0 := by simp [litL, e]
    rw [this]
    exact row_zero _ _ _

theorem lit_row (w : World) (x : Int) (b : Nat) (hb : b = w.heap.size) : Row (w.alloc (.cells #[.int .i64 x] 3)) (some ⟨b, 0, none⟩) 1 (fun _ => x) :=
  row_of_rowIs (rowIs_lit w #[.int .i64 x] 3 b 1 (fun _ => .int .i64 x) hb rfl (one_get _))

theorem lit_err : errF 3 litL (fun _ _ => 1) 1 (fun _ => 0) = 0 := by decide

theorem lit_walks : ∀ k x, Wk (Src 1 (fun _ => 0)) (Ed 3 litL (fun _ _ => 1)) k x → x = 0 ∨ x = 1
  | 0, x, h => by
    obtain ⟨i, _, e⟩ := has_iff.1 h
    have e' : (0 : Int) = x := e
    exact Or.inl (by omega)
  | k + 1, x, ⟨y, _, hy⟩ => by
    obtain ⟨i, _, e⟩ := has_iff.1 hy.2
    have e' : (1 : Int) = x := e
    exact Or.inr (by omega)

theorem lit_comes (x : Nat) (hx : x < 3) : Comes 3 litL (fun _ _ => 1) 1 (fun _ => 0) x ↔ x < 2 := by
  constructor
  · rintro ⟨k, hk⟩
    have := lit_walks k x hk
    omega
  · intro h
    match x, h with
    | 0, _ => exact ⟨0, has_iff.2 ⟨0, by omega, rfl⟩⟩
    | 1, _ => exact ⟨1, 0, has_iff.2 ⟨0, by omega, rfl⟩, by omega, has_iff.2 ⟨0, by simp [litL], rfl⟩⟩


theorem tri_get (i : Nat) (hi : i < 3) : (#[.bool true, .bool true, .bool false] : Array Value)[i]? = some (.bool (decide (i < 2))) := by
  match i, hi with
  | 0, _ => rfl
  | 1, _ => rfl
  | 2, _ => rfl

theorem below_lit (w : World) : Below w.heap.size w (((((w.alloc (.cells #[.int .i64 1] 3)).alloc (.cells #[] 3)).alloc (.cells #[] 3)).alloc (.cells #[.slice (some ⟨w.heap.size, 0, none⟩) 1 1, .slice (some ⟨w.heap.size + 1, 0, none⟩) 0 0, .slice (some ⟨w.heap.size + 1 + 1, 0, none⟩) 0 0] 28)).alloc (.cells #[.int .i64 0] 3)) :=
  (((((Below.refl _ _).alloc (Nat.le_refl _) _).alloc (by simp) _).alloc (by simp; omega) _).alloc (by simp; omega) _).alloc (by simp; omega) _

theorem below_drewN' {B : Nat} {w w' : World} (h : Below B w w') (q : Nat) : Below B w (w'.drewN q) := h.trans ⟨rfl, rfl, rfl, Nat.le_refl _, fun _ _ => rfl⟩

theorem wk_or {P P1 P2 : Nat → Prop} {E : Nat → Nat → Prop} (h : ∀ x, P x ↔ P1 x ∨ P2 x) : ∀ k x, Wk P E k x ↔ Wk P1 E k x ∨ Wk P2 E k x
  | 0, x => h x
  | k + 1, x => by
    constructor
    · rintro ⟨y, hy, he⟩
      rcases (wk_or h k y).1 hy with h1 | h1
      · exact Or.inl ⟨y, h1, he⟩
      · exact Or.inr ⟨y, h1, he⟩
    · rintro (⟨y, hy, he⟩ | ⟨y, hy, he⟩)
      · exact ⟨y, (wk_or h k y).2 (Or.inl hy), he⟩
      · exact ⟨y, (wk_or h k y).2 (Or.inr hy), he⟩

/-- The two lists one behind the other. -/
def both (n : Nat) (Y : Nat → Int) (m : Nat) (X : Nat → Int) (i : Nat) : Int := (lst n Y ++ lst m X).getD i 0

theorem both_left {n : Nat} {Y : Nat → Int} {m : Nat} {X : Nat → Int} {i : Nat} (h : i < n) : both n Y m X i = Y i := by
  unfold both
  rw [List.getD_eq_getElem?_getD, List.getElem?_append_left (by rw [lst_len]; exact h), ← List.getD_eq_getElem?_getD]
  exact lst_getD n Y i h

theorem both_right {n : Nat} {Y : Nat → Int} {m : Nat} {X : Nat → Int} {i : Nat} (h : i < m) : both n Y m X (n + i) = X i := by
  unfold both
  rw [List.getD_eq_getElem?_getD, List.getElem?_append_right (by rw [lst_len]; omega), ← List.getD_eq_getElem?_getD, lst_len, Nat.add_sub_cancel_left]
  exact lst_getD m X i h

theorem both_src (n : Nat) (Y : Nat → Int) (m : Nat) (X : Nat → Int) (x : Nat) : Src (n + m) (both n Y m X) x ↔ Src n Y x ∨ Src m X x := by
  unfold Src
  rw [has_iff, has_iff, has_iff]
  constructor
  · rintro ⟨i, hi, e⟩
    by_cases h : i < n
    · exact Or.inl ⟨i, h, by rw [both_left h] at e; exact e⟩
    · obtain ⟨j, rfl⟩ : ∃ j, i = n + j := ⟨i - n, by omega⟩
      exact Or.inr ⟨j, by omega, by rw [both_right (by omega)] at e; exact e⟩
  · rintro (⟨i, hi, e⟩ | ⟨i, hi, e⟩)
    · exact ⟨i, by omega, by rw [both_left hi]; exact e⟩
    · exact ⟨n + i, by omega, by rw [both_right hi]; exact e⟩

theorem both_err {G : Nat} {L : Nat → Nat} {Z : Nat → Nat → Int} {n : Nat} {Y : Nat → Int} {m : Nat} {X : Nat → Int} (h1 : errF G L Z n Y = 0) (h2 : errF G L Z m X = 0) : errF G L Z (n + m) (both n Y m X) = 0 := by
  obtain ⟨hg, h1⟩ := errF_zero h1
  obtain ⟨_, h2⟩ := errF_zero h2
  unfold errF
  rw [if_pos hg, if_pos (allIn_yes (fun i hi => ?_))]
  by_cases h : i < n
  · rw [both_left h]; exact h1 i h
  · obtain ⟨j, rfl⟩ : ∃ j, i = n + j := ⟨i - n, by omega⟩
    rw [both_right (by omega)]; exact h2 j (by omega)

theorem comes_or (G : Nat) (L : Nat → Nat) (Z : Nat → Nat → Int) (n : Nat) (Y : Nat → Int) (m : Nat) (X : Nat → Int) (x : Nat) : Comes G L Z (n + m) (both n Y m X) x ↔ Comes G L Z n Y x ∨ Comes G L Z m X x := by
  have h := fun k => wk_or (E := Ed G L Z) (both_src n Y m X) k x
  constructor
  · rintro ⟨k, hk⟩
    rcases (h k).1 hk with h1 | h1
    · exact Or.inl ⟨k, h1⟩
    · exact Or.inr ⟨k, h1⟩
  · rintro (⟨k, hk⟩ | ⟨k, hk⟩)
    · exact ⟨k, (h k).2 (Or.inl hk)⟩
    · exact ⟨k, (h k).2 (Or.inr hk)⟩

theorem comes_on {G : Nat} {L : Nat → Nat} {Z : Nat → Nat → Int} {n : Nat} {Y : Nat → Int} {x y : Nat} (h : Comes G L Z n Y x) (e : Ed G L Z x y) : Comes G L Z n Y y := by
  obtain ⟨k, hk⟩ := h
  exact ⟨k + 1, x, hk, e⟩

theorem cells_below {w w' : World} {b G : Nat} {f : Nat → Value} (h : ∀ k, k < G → w.cell? ⟨b, k, none⟩ = some (f k)) (hb : Below w.heap.size w w') : ∀ k, k < G → w'.cell? ⟨b, k, none⟩ = some (f k) := fun k hk => by
  rw [hb.cell (p := ⟨b, k, none⟩) (World.block_lt_of_cell? _ _ (h k hk))]
  exact h k hk

theorem joined_row {w : World} {base : Nat} {v : Value} {n : Nat} {Y : Nat → Int} {m : Nat} {X : Nat → Int} (h : w.ownsRow base 3 1 v (n + m) (vals (lst n Y ++ lst m X))) : ∃ a c, v = .slice a (n + m) c ∧ Row w a (n + m) (both n Y m X) := by
  have hl : (lst n Y ++ lst m X).length = n + m := by simp [lst_len]
  have := owns_row (l := lst n Y ++ lst m X) (by rw [hl]; exact h)
  rw [hl] at this
  exact this

/-- What the append leaves: all that was there stays. -/
theorem joined_post {w w5 w6 w7 : World} {v6 : Value} {n : Nat} {l : List Value} (hb : Below w.heap.size w w5) (hb6 : Below w5.heap.size w5 w6) (ho : w6.ownsRow w5.heap.size 3 1 v6 n l) (hg : w6.grownBy w7 v6.ownBlock) : Below w5.heap.size w5 w7 ∧ Below w.heap.size w w7 := by
  have h1 : Below w5.heap.size w5 w7 := hb6.grown hg hb6.size (fun k hk => (ho.lt k hk).1)
  exact ⟨h1, hb.trans (h1.mono hb.size)⟩

theorem reach_bad' (ga : Option Addr) (G gc : Nat) (L : Nat → Nat) (Z : Nat → Nat → Int) (a : Option Addr) (n c : Nat) (Y : Nat → Int) (w : World) (hL : ∀ r, r < G → L r ≤ 140737488355328) (hn : n ≤ 140737488355328) (h : Gr w ga G L Z) (hrow : Row w a n Y)
    (E : Int) (hE : errF G L Z n Y = E) (h0 : E ≠ 0) :
    Calls Try.prog 19 #[.slice ga G gc, .slice a n c] w fun e w' => e = .returned (.tuple #[.slice none 0 0, .int .i64 E]) ∧ w' = w := by
  subst hE
  exact reach_bad ga G gc L Z a n c Y w hL hn h hrow h0

end Go.Proofs.Ytddingbfjkmdeaa
