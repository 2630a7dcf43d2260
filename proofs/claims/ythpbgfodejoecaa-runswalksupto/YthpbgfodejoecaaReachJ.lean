/- checkFrom and Reach, by their contracts. Small things: literals in memory, slices.Equal at bools, slices.Clone, an append of nothing. -/
import Derived.Test.YthpbgfodejoecaaDist2
namespace Go.Proofs.Ythpbgfodejoecaa
open Go.RowKit

theorem Try.info4 : (Try.prog.info? 4).map (fun i => (i.zero, i.size, i.bytes)) = some (some (.bool false), 1, 1) := by kernel_rfl

def errF (G : Nat) (L : Nat → Nat) (Z : Nat → Nat → Int) (n : Nat) (Y : Nat → Int) : Int := if errG G L Z = 0 then (if allIn n Y G = true then 0 else 1) else errG G L Z

theorem errF_zero {G : Nat} {L : Nat → Nat} {Z : Nat → Nat → Int} {n : Nat} {Y : Nat → Int} (h : errF G L Z n Y = 0) : errG G L Z = 0 ∧ ∀ i, i < n → 0 ≤ Y i ∧ Y i < G := by
  unfold errF at h
  by_cases h1 : errG G L Z = 0
  · rw [if_pos h1] at h
    by_cases h2 : allIn n Y G = true
    · exact ⟨h1, allIn_all h2⟩
    · rw [if_neg h2] at h; cases h
  · rw [if_neg h1] at h
    exact absurd h h1

set_option maxHeartbeats 400000 in
theorem checkFrom_any (ga : Option Addr) (G gc : Nat) (L : Nat → Nat) (Z : Nat → Nat → Int) (a : Option Addr) (n c : Nat) (Y : Nat → Int) (w : World) (hL : ∀ r, r < G → L r ≤ 140737488355328) (hn : n ≤ 140737488355328) (h : Gr w ga G L Z) (hrow : Row w a n Y) :
    Calls Try.prog 64 #[.slice ga G gc, .slice a n c] w fun e w' => e = .returned (.int .i64 (errF G L Z n Y)) ∧ w' = w := by
  have C11 : Hid (Calls Try.prog 62 #[.slice ga G gc] w fun e w' => e = .returned (.int .i64 (errG G L Z)) ∧ w' = w) := check_any ga G gc L Z w hL h
  have C28 : Hid (Calls Try.prog 93 #[.slice ga G gc, .slice a n c] w fun e w' => e = .returned (.bool (allIn n Y G)) ∧ w' = w) := areNodes_any ga G gc a n c Y w hn hrow
  have HF : Hid (errF G L Z n Y = if errG G L Z = 0 then (if allIn n Y G = true then 0 else 1) else errG G L Z) := rfl
  generalize errF G L Z n Y = F at *
  generalize errG G L Z = E at *
  clear h hrow hL
  by_cases h0 : E = 0
  · subst h0
    cases hb : allIn n Y G
    · rw [hb] at C28
      have HF' : Hid (F = 1) := by have := HF.out; rw [hb] at this; exact this
      clear HF hb
      go_enter Try.func64, Try.ntmps64
      go_wp2_with fail
      refine C11.out.mono ?_
      rintro e w' ⟨rfl, rfl⟩
      go_wp2_with fail
      refine C28.out.mono ?_
      rintro e w' ⟨rfl, rfl⟩
      go_wp2
      go_ret
      exact ⟨ret_int HF'.out.symm, rfl⟩
    · rw [hb] at C28
      have HF' : Hid (F = 0) := by have := HF.out; rw [hb] at this; exact this
      clear HF hb
      go_enter Try.func64, Try.ntmps64
      go_wp2_with fail
      refine C11.out.mono ?_
      rintro e w' ⟨rfl, rfl⟩
      go_wp2_with fail
      refine C28.out.mono ?_
      rintro e w' ⟨rfl, rfl⟩
      go_wp2
      go_ret
      exact ⟨ret_int HF'.out.symm, rfl⟩
  · have HF' : Hid (F = E) := by have := HF.out; rw [if_neg h0] at this; exact this
    have hz : (E != 0) = true := by rw [bne_iff_ne]; exact h0
    clear HF h0
    go_enter Try.func64, Try.ntmps64
    go_wp2_with fail
    refine C11.out.mono ?_
    rintro e w' ⟨rfl, rfl⟩
    go_wp2
    go_ret
    exact ⟨ret_int HF'.out.symm, rfl⟩

/-- One comes to x. -/
def Comes (G : Nat) (L : Nat → Nat) (Z : Nat → Nat → Int) (n : Nat) (Y : Nat → Int) (x : Nat) : Prop := ∃ k, Wk (Src n Y) (Ed G L Z) k x

theorem Dist.comes {G : Nat} {L : Nat → Nat} {Z : Nat → Nat → Int} {n : Nat} {Y : Nat → Int} {F : Nat → Int} {O : List Int} (h : Dist G (Src n Y) (Ed G L Z) F O) {x : Nat} (hx : x < G) : (F x != -1) = true ↔ Comes G L Z n Y x := by
  rw [bne_iff_ne]
  exact ⟨fun hh => ⟨_, h.snd x hx hh⟩, fun ⟨k, hk⟩ => (h.all k x hx hk).1⟩

set_option maxHeartbeats 1000000 in
theorem reach_ok (ga : Option Addr) (G gc : Nat) (L : Nat → Nat) (Z : Nat → Nat → Int) (a : Option Addr) (n c : Nat) (Y : Nat → Int) (w : World) (hL : ∀ r, r < G → L r ≤ 140737488355328) (hn : n ≤ 140737488355328) (h : Gr w ga G L Z) (hrow : Row w a n Y)
    (h0 : errF G L Z n Y = 0) :
    Calls Try.prog 39 #[.slice ga G gc, .slice a n c] w fun e w' => ∃ (b : Nat) (R : Nat → Bool), e = .returned (.tuple #[.slice (some ⟨b, 0, none⟩) G G, .int .i64 0]) ∧ Below w.heap.size w w' ∧ w.heap.size ≤ b ∧ w'.rowIs b 4 G (fun i => .bool (R i)) ∧
      ∀ x, x < G → (R x = true ↔ Comes G L Z n Y x) := by
  have C33 : Hid (Calls Try.prog 64 #[.slice ga G gc, .slice a n c] w fun e w' => e = .returned (.int .i64 0) ∧ w' = w) := by
    have := checkFrom_any ga G gc L Z a n c Y w hL hn h hrow
    rwa [h0] at this
  obtain ⟨hg, hin⟩ := errF_zero h0
  have hG := (errG_zero hg).1
  have C34 : Hid (Calls Try.prog 65 #[.slice ga G gc, .slice a n c] w fun e w' => ∃ F O v, e = .returned (.tuple #[.slice (some ⟨w.heap.size + 1 + 1, 0, none⟩) G G, v]) ∧ Dist G (Src n Y) (Ed G L Z) F O ∧ Bf w w' G F O v) := dist_any ga G gc L Z a n c Y w hL hn h hg hrow hin
  clear h hrow hL hg hin h0
  have hmk := run_make_row' (P := Try.prog) 48 4 (.bool false) 1 Try.underlying48 Try.info4 rfl .i64 .i64 G (by omega) (by omega)
  go_enter Try.func39, Try.ntmps39
  go_wp2_with fail
  refine C33.out.mono ?_
  rintro e w' ⟨rfl, rfl⟩
  go_wp2_with fail
  refine C34.out.mono ?_
  rintro e w1 ⟨F, O, v, rfl, hD, hB⟩
  have HD : Hid (Dist G (Src n Y) (Ed G L Z) F O) := hD
  have HB : Hid (Bf w' w1 G F O v) := hB
  clear hD hB C33 C34
  go_wp2
  clear hmk
  go_loopw [29] (fun i wr => ∃ k : Nat, k ≤ G ∧ i = .int .i64 k ∧ Below w1.heap.size w1 wr ∧ wr.rowIs w1.heap.size 4 G (fun x => .bool (if x < k then F x != -1 else false))) (fun i _ => G - (intOf i).toNat)
  case atStart => exact ⟨0, Nat.zero_le _, rfl, (Below.refl _ _).alloc (Nat.le_refl _) _, World.rowIs_made w1 (.bool false) G 4⟩
  case round =>
    obtain ⟨k, hk, rfl, hbel, hrw⟩ := hrel
    have HW : Hid (Below w1.heap.size w1 wr ∧ wr.rowIs w1.heap.size 4 G (fun x => .bool (if x < k then F x != -1 else false))) := ⟨hbel, hrw⟩
    clear hbel hrw
    by_cases hlt : k < G
    · have hf : wr.cell? ⟨w'.heap.size + 1 + 1, k, none⟩ = some (.int .i64 (F k)) := by
        rw [HW.out.1.cell (p := ⟨w'.heap.size + 1 + 1, k, none⟩) HB.out.far.lt]; exact HB.out.far.cell hlt
      have hc := HW.out.2.cell hlt
      have hz := HW.out.2.frozen k
      go_wp2
      go_roundw
      case rel =>
        refine ⟨k + 1, by omega, by go_num, HW.out.1.setCell (Nat.le_refl _) _, (HW.out.2.set k _).congr (fun i hi => ?_)⟩
        by_cases e : i = k
        · subst e; simp
        · rw [if_neg e]
          by_cases e2 : i < k
          · rw [if_pos e2, if_pos (by omega)]
          · rw [if_neg e2, if_neg (by omega)]
      case measure => simp [intOf]; omega
    · go_wp2
      go_ret2
      have hs := HB.out.below.size
      exact ⟨w1.heap.size, fun x => F x != -1, rfl, HB.out.below.trans (HW.out.1.mono hs), hs, HW.out.2.congr (fun i hi => by rw [if_pos (by omega)]), fun x hx => HD.out.comes hx⟩

end Go.Proofs.Ythpbgfodejoecaa

namespace Go.Proofs.Ythpbgfodejoecaa
open Go.RowKit

theorem row_zero (w : World) (a : Option Addr) (Z : Nat → Int) : Row w a 0 Z := ⟨0, 0, fun h => absurd h (Nat.lt_irrefl _), fun _ hi => absurd hi (Nat.not_lt_zero _)⟩

theorem Row.congr {w : World} {a : Option Addr} {n : Nat} {Y Z : Nat → Int} (h : Row w a n Y) (e : ∀ i, i < n → Y i = Z i) : Row w a n Z := by
  obtain ⟨b, o, ha, hc⟩ := h
  exact ⟨b, o, ha, fun i hi => by rw [← e i hi]; exact hc i hi⟩

theorem rowIs_lit (w : World) (c : Array Value) (t : TypeId) (b n : Nat) (f : Nat → Value) (hb : b = w.heap.size) (hn : c.size = n) (hf : ∀ i, i < n → c[i]? = some (f i)) : (w.alloc (.cells c t)).rowIs b t n f := by
  subst hb
  subst hn
  exact World.rowIs_alloc w c t f hf

/-- In w the slice at a, of n cells, holds the bools B. -/
def Rowb (w : World) (a : Option Addr) (n : Nat) (B : Nat → Bool) : Prop :=
  ∃ b o, (0 < n → a = some ⟨b, o, none⟩) ∧ ∀ i, i < n → w.cell? ⟨b, o + i, none⟩ = some (.bool (B i))

theorem rowb_of_rowIs {w : World} {b n : Nat} {B : Nat → Bool} (h : w.rowIs b 4 n (fun i => .bool (B i))) : Rowb w (some ⟨b, 0, none⟩) n B :=
  ⟨b, 0, fun _ => rfl, fun _ hi => by rw [Nat.zero_add]; exact h.cell hi⟩

/-- The numbers as a list. -/
def lst (n : Nat) (Z : Nat → Int) : List Int := (List.range n).map Z
theorem lst_len (n : Nat) (Z : Nat → Int) : (lst n Z).length = n := by simp [lst]
theorem lst_getD (n : Nat) (Z : Nat → Int) (i : Nat) (h : i < n) : (lst n Z).getD i 0 = Z i := by simp [lst, h]
theorem vals_len (l : List Int) : (vals l).length = l.length := by simp [vals]

theorem news_of_row {w : World} {x : Addr} {n : Nat} {Z : Nat → Int} (h : Row w (some x) n Z) : ∀ j u, (vals (lst n Z))[j]? = some u → w.cell? (x.add j) = some u := by
  intro j u hu
  obtain ⟨b, o, ha, hc⟩ := h
  have hj : j < n := by
    have := (List.getElem?_eq_some_iff.1 hu).1
    rwa [vals_len, lst_len] at this
  have hx := ha (by omega)
  simp only [Option.some.injEq] at hx
  subst hx
  have e : (vals (lst n Z))[j]? = some (.int .i64 (Z j)) := by simp [vals, lst, hj]
  rw [e] at hu
  cases hu
  have hadd : (⟨b, o, none⟩ : Addr).add j = ⟨b, o + j, none⟩ := by unfold Addr.add; split <;> simp_all
  rw [hadd]
  exact hc j hj

theorem vals_one (l : List Int) : ∀ u ∈ vals l, u.oneCell' = true := by
  intro u hu
  obtain ⟨x, _, rfl⟩ := List.mem_map.1 hu
  rfl

theorem clone_post {w w1 : World} {v' : Value} {n : Nat} {l : List Value} (hown : w1.ownsRow w.heap.size 3 1 v' (0 + n) ([] ++ l)) (hgrow : (w.alloc (.cells #[] 3)).grownBy w1 (Value.ownBlock (.slice (some ⟨w.heap.size, 0, none⟩) 0 0))) :
    Hid (w1.ownsRow w.heap.size 3 1 v' n l ∧ Below w.heap.size w w1) := by
  refine ⟨by rwa [Nat.zero_add, List.nil_append] at hown, ((Below.refl _ _).alloc (Nat.le_refl _) _).grown hgrow (by simp) (fun k hk => ?_)⟩
  simp only [Value.ownBlock, Option.some.injEq] at hk
  omega

end Go.Proofs.Ythpbgfodejoecaa
