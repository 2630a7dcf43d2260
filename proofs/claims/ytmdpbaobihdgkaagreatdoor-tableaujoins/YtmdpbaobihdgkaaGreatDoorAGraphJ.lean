/-   -/
import Derived.Test.YtmdpbaobihdgkaaGreatDoorRows
import Derived.WalkKit
import Derived.WalkSpells
import Derived.WalkLawsBesides
import Derived.Deep.QuietTactic
import Derived.BigQuiet
import Derived.Below
import Derived.Deep.Heap
import Derived.Test.YtmdpbaobihdgkaaGreatDoorRwsJ
import Derived.Test.YtmdpbaobihdgkaaGreatDoorBaseJ
import Derived.Test.YtmdpbaobihdgkaaGreatDoorPshJ
import Derived.Test.YtmdpbaobihdgkaaGreatDoorTeaJ
import Derived.Test.YtmdpbaobihdgkaaGreatDoorWk
import Derived.Test.YtmdpbaobihdgkaaGreatDoorMkfJ
import Derived.Test.YtmdpbaobihdgkaaGreatDoorTcsJ
import Derived.Deep.OwnRows
import Derived.Maps.AppendAt
/- Graphs in memory; Graph, Check, Goes, EqualFunc, lists, each by its contract. -/
/- A family of rows that the call itself makes: a block of slices, each with a row of its own; what one append to one of them does. And the lists of the graph turned round. -/
namespace Go.Proofs.YtmdpbaobihdgkaaGreatDoor
open Go.RowKit

/-- In w the slice at ga, of G cells, holds G rows: row r the numbers Z r, L r of them. -/
def Gr (w : World) (ga : Option Addr) (G : Nat) (L : Nat → Nat) (Z : Nat → Nat → Int) : Prop :=
  ∃ gb go, (0 < G → ga = some ⟨gb, go, none⟩) ∧ ∀ r, r < G → ∃ a c, w.cell? ⟨gb, go + r, none⟩ = some (.slice a (L r) c) ∧ Row w a (L r) (Z r)

theorem Row.below {w w' : World} {a : Option Addr} {n : Nat} {Z : Nat → Int} (h : Row w a n Z) (hb : Below w.heap.size w w') : Row w' a n Z := by
  obtain ⟨b, o, ha, hc⟩ := h
  refine ⟨b, o, ha, fun i hi => ?_⟩
  rw [hb.cell (p := ⟨b, o + i, none⟩) (World.block_lt_of_cell? _ _ (hc i hi))]
  exact hc i hi

theorem Gr.below {w w' : World} {ga : Option Addr} {G : Nat} {L : Nat → Nat} {Z : Nat → Nat → Int} (h : Gr w ga G L Z) (hb : Below w.heap.size w w') : Gr w' ga G L Z := by
  obtain ⟨b, o, ha, hc⟩ := h
  refine ⟨b, o, ha, fun r hr => ?_⟩
  obtain ⟨a, c, h1, h2⟩ := hc r hr
  refine ⟨a, c, ?_, h2.below hb⟩
  rw [hb.cell (p := ⟨b, o + r, none⟩) (World.block_lt_of_cell? _ _ h1)]
  exact h1

def okG (G : Nat) (L : Nat → Nat) (Z : Nat → Nat → Int) : Bool := decide (∀ r, r < G → allIn (L r) (Z r) G = true)

theorem okG_no {G : Nat} {L : Nat → Nat} {Z : Nat → Nat → Int} (k : Nat) (hk : k < G) (h : allIn (L k) (Z k) G = false) : okG G L Z = false := by
  unfold okG
  rw [decide_eq_false_iff_not]
  intro hall
  have := hall k hk
  rw [h] at this
  cases this

theorem okG_yes {G : Nat} {L : Nat → Nat} {Z : Nat → Nat → Int} (h : ∀ r, r < G → allIn (L r) (Z r) G = true) : okG G L Z = true := by
  unfold okG
  rw [decide_eq_true_eq]
  exact h

theorem okG_all {G : Nat} {L : Nat → Nat} {Z : Nat → Nat → Int} (h : okG G L Z = true) : ∀ r, r < G → ∀ i, i < L r → 0 ≤ Z r i ∧ Z r i < G := by
  unfold okG at h
  rw [decide_eq_true_eq] at h
  exact fun r hr => allIn_all (h r hr)

def errG (G : Nat) (L : Nat → Nat) (Z : Nat → Nat → Int) : Int := if 20000 < G then 2 else if okG G L Z = true then 0 else 1

theorem errG_large {G : Nat} {L : Nat → Nat} {Z : Nat → Nat → Int} (h : 20000 < G) : errG G L Z = 2 := by unfold errG; rw [if_pos h]
theorem errG_bad {G : Nat} {L : Nat → Nat} {Z : Nat → Nat → Int} (h : ¬ 20000 < G) (h2 : okG G L Z = false) : errG G L Z = 1 := by unfold errG; rw [if_neg h, h2]; rfl
theorem errG_ok {G : Nat} {L : Nat → Nat} {Z : Nat → Nat → Int} (h : ¬ 20000 < G) (h2 : okG G L Z = true) : errG G L Z = 0 := by unfold errG; rw [if_neg h, h2]; rfl

set_option maxHeartbeats 400000 in
theorem a_check_any (ga : Option Addr) (G gc : Nat) (L : Nat → Nat) (Z : Nat → Nat → Int) (w : World) (hL : ∀ r, r < G → L r ≤ 140737488355328) (h : Gr w ga G L Z) :
    Calls Tryz.prog 68 #[.slice ga G gc] w fun e w' => e = .returned (.int .i64 (errG G L Z)) ∧ w' = w := by
  by_cases hlarge : 20000 < G
  · have hz : (20000 : Int) < G := by omega
    go_enter Tryz.func68, Tryz.ntmps68
    go_wp2
    go_ret
    exact ⟨ret_int (errG_large hlarge).symm, rfl⟩
  have hz : ¬ (20000 : Int) < G := by omega
  have HL : Hid (∀ r, r < G → L r ≤ 140737488355328) := hL
  obtain ⟨b, o, ha, hc⟩ := h
  have HC : Hid (∀ r, r < G → ∃ a c, w.cell? ⟨b, o + r, none⟩ = some (.slice a (L r) c) ∧ Row w a (L r) (Z r)) := hc
  clear hc hL
  go_enter Tryz.func68, Tryz.ntmps68
  go_wp2
  go_loop [10] (fun i => ∃ k : Nat, k ≤ G ∧ i = .int .i64 k ∧ Hid (∀ j, j < k → allIn (L j) (Z j) G = true)) (fun i => G - (intOf i).toNat)
  case atStart => exact ⟨0, Nat.zero_le _, rfl, hid (fun j hj => absurd hj (Nat.not_lt_zero _))⟩
  case round =>
    obtain ⟨k, hk, rfl, H⟩ := hrel
    by_cases hlt : k < G
    · obtain rfl := ha (by omega)
      obtain ⟨a, c, hck, hrow⟩ := HC.out k hlt
      have HR : Hid (Row w a (L k) (Z k)) := hrow
      clear hrow
      go_wp2_with fail
      refine (areNodes_any _ G gc a (L k) c (Z k) _ (HL.out k hlt) HR.out).mono ?_
      rintro e w' ⟨rfl, rfl⟩
      cases hb : allIn (L k) (Z k) G
      · have HB : Hid (allIn (L k) (Z k) G = false) := hb
        clear hb
        go_wp2
        go_ret
        exact ⟨ret_int (errG_bad hlarge (okG_no k hlt HB.out)).symm, rfl⟩
      · have HB : Hid (allIn (L k) (Z k) G = true) := hb
        clear hb
        go_wp2
        go_round
        case rel => exact ⟨k + 1, by omega, by go_num, hid (snoc_all H.out HB.out)⟩
        case measure => simp [intOf]; omega
    · go_wp2
      go_ret
      exact ⟨ret_int (errG_ok hlarge (okG_yes (fun i hi => H.out i (by omega)))).symm, rfl⟩

end Go.Proofs.YtmdpbaobihdgkaaGreatDoor

namespace Go.Proofs.YtmdpbaobihdgkaaGreatDoor
open Go.RowKit

theorem Tryz.info3 : (Tryz.prog.info? 3).map (fun i => (i.zero, i.size, i.bytes)) = some (some (.int .i64 0), 1, 8) := by kernel_rfl
theorem Tryz.info29 : (Tryz.prog.info? 29).map (fun i => (i.zero, i.size, i.bytes)) = some (some (.slice none 0 0), 1, 24) := by kernel_rfl

def vals (l : List Int) : List Value := l.map (Value.int .i64)
theorem vals_snoc (l : List Int) (x : Int) : vals l ++ [.int .i64 x] = vals (l ++ [x]) := by simp [vals]

/-- What a slice value that owns numbers looks like, and what it holds. -/
theorem owns_row {w : World} {base : Nat} {v : Value} {l : List Int} (h : w.ownsRow base 3 1 v l.length (vals l)) :
    ∃ a c, v = .slice a l.length c ∧ Row w a l.length (fun i => l.getD i 0) := by
  rcases h.2 with ⟨rfl, h0⟩ | ⟨g, cap, cur, rfl, hb, hg, _⟩
  · exact ⟨none, 0, by rw [h0], 0, 0, fun hh => by omega, fun i hi => by omega⟩
  · refine ⟨some ⟨g, 0, none⟩, cap, rfl, g, 0, fun _ => rfl, fun i hi => ?_⟩
    have := h.cells (g := g) rfl i (.int .i64 (l.getD i 0)) (by simp [vals, hi])
    have hadd : (⟨g, 0, none⟩ : Addr).add i = ⟨g, 0 + i, none⟩ := by unfold Addr.add; split <;> simp_all
    rw [hadd] at this
    exact this

/-- The rows T, G of them, under the block that was new when the call began. -/
structure Fam (w wr : World) (G : Nat) (T : Nat → List Int) (V : Nat → Value) : Prop where
  below : Below w.heap.size w wr
  top : wr.rowIs w.heap.size 29 G V
  own : ∀ j, j < G → wr.ownsRow (w.heap.size + 1) 3 1 (V j) (T j).length (vals (T j))
  apart : ∀ i j, i < G → j < G → i ≠ j → ∀ b, (V i).ownBlock = some b → (V j).ownBlock ≠ some b

theorem Fam.size {w wr : World} {G : Nat} {T : Nat → List Int} {V : Nat → Value} (h : Fam w wr G T V) : w.heap.size + 1 ≤ wr.heap.size := h.top.lt

theorem fam_start (w : World) (G : Nat) (T : Nat → List Int) (hT : ∀ j, j < G → T j = []) : Fam w (w.alloc (.cells (madeCells #[.slice none 0 0] G) 29)) G T (fun _ => .slice none 0 0) :=
  ⟨(Below.refl _ _).alloc (Nat.le_refl _) _, World.rowIs_made w _ G 29, fun j hj => by rw [hT j hj]; exact World.ownsRow_nil _ _ _ _, fun i j _ _ _ b hb => by simp [Value.ownBlock] at hb⟩

theorem Fam.congr {w wr : World} {G : Nat} {T U : Nat → List Int} {V : Nat → Value} (h : Fam w wr G T V) (e : ∀ j, j < G → T j = U j) : Fam w wr G U V :=
  ⟨h.below, h.top, fun j hj => by rw [← e j hj]; exact h.own j hj, h.apart⟩

theorem Fam.gr {w wr : World} {G : Nat} {T : Nat → List Int} {V : Nat → Value} (h : Fam w wr G T V) : Gr wr (some ⟨w.heap.size, 0, none⟩) G (fun j => (T j).length) (fun j i => (T j).getD i 0) := by
  refine ⟨w.heap.size, 0, fun _ => rfl, fun r hr => ?_⟩
  obtain ⟨a, c, hv, hrow⟩ := owns_row (h.own r hr)
  exact ⟨a, c, by rw [Nat.zero_add, h.top.cell hr, hv], hrow⟩

/-- 'out[j] = append(out[j], x)'. -/
theorem Fam.step {w wr w1 : World} {G : Nat} {T : Nat → List Int} {V : Nat → Value} {j : Nat} {x : Int} {v' : Value} {o : Obj} (h : Fam w wr G T V) (hj : j < G)
    (hown : w1.ownsRow (w.heap.size + 1) 3 1 v' ((T j).length + 1) (vals (T j) ++ [.int .i64 x])) (hgrow : (wr.alloc o).grownBy w1 (V j).ownBlock)
    (hloc : v'.ownBlock = (V j).ownBlock ∨ v'.ownBlock = some (wr.alloc o).heap.size) :
    w1.cell? ⟨w.heap.size, j, none⟩ = some (V j) ∧ w1.frozen? ⟨w.heap.size, j, none⟩ = false ∧
    Fam w (w1.setCell ⟨w.heap.size, j, none⟩ v') G (fun i => if i = j then T j ++ [x] else T i) (fun i => if i = j then v' else V i) := by
  have hsz := h.size
  have hVlt : ∀ k, (V j).ownBlock = some k → w.heap.size + 1 ≤ k ∧ k < wr.heap.size := (h.own j hj).lt
  have hg : wr.grownBy w1 (V j).ownBlock := (World.grownBy_alloc _ _ _).trans hgrow
  have htop : w1.rowIs w.heap.size 29 G V := h.top.of_block (hg.block _ h.top.lt (fun e => by have := hVlt _ e.symm; omega))
  refine ⟨htop.cell hj, htop.frozen j, ?_⟩
  refine ⟨?_, htop.set j v', fun i hi => ?_, fun i k hi hk hne b hb => ?_⟩
  · exact (h.below.grown hg (by omega) (fun k hk => by have := hVlt k hk; omega)).setCell (Nat.le_refl _) _
  · by_cases e : i = j
    · subst e
      simp only [if_true]
      have : (T i ++ [x]).length = (T i).length + 1 := by simp
      rw [this, ← vals_snoc]
      exact ownsRow_setCell_below hown (by show w.heap.size < _; omega) _
    · simp only [if_neg e]
      have h1 : w1.ownsRow (w.heap.size + 1) 3 1 (V i) (T i).length (vals (T i)) := (h.own i hi).kept hg (by
        cases hv : (V i).ownBlock with
        | none => exact Or.inl rfl
        | some b => exact Or.inr (fun ee => h.apart i j hi hj e b hv ee.symm))
      exact ownsRow_setCell_below h1 (by show w.heap.size < _; omega) _
  · have old : ∀ i, i < G → ∀ b, (V i).ownBlock = some b → b < wr.heap.size := fun i hi b hb => ((h.own i hi).lt b hb).2
    have hnew : (wr.alloc o).heap.size = wr.heap.size + 1 := by simp
    by_cases ei : i = j
    · have ek : k ≠ j := fun e => hne (ei.trans e.symm)
      simp only [if_pos ei, if_neg ek] at hb ⊢
      intro hb2
      rcases hloc with hl | hl
      · exact h.apart k j hk hj ek b hb2 (by rw [← hl]; exact hb)
      · rw [hl] at hb
        have := old k hk b hb2
        simp only [Option.some.injEq] at hb
        omega
    · simp only [if_neg ei] at hb ⊢
      by_cases ek : k = j
      · simp only [if_pos ek]
        intro hb2
        rcases hloc with hl | hl
        · exact h.apart i j hi hj ei b hb (by rw [← hl]; exact hb2)
        · rw [hl] at hb2
          have := old i hi b hb
          simp only [Option.some.injEq] at hb2
          omega
      · simp only [if_neg ek]
        exact h.apart i k hi hk hne b hb

theorem Fam.step' {w wr w1 : World} {G : Nat} {T : Nat → List Int} {V : Nat → Value} {j n : Nat} {x : Int} {v v' : Value} {o : Obj} (h : Fam w wr G T V) (hj : j < G) (hn : (T j).length = n) (hv : V j = v)
    (hown : w1.ownsRow (w.heap.size + 1) 3 1 v' (n + 1) (vals (T j) ++ [.int .i64 x])) (hgrow : (wr.alloc o).grownBy w1 v.ownBlock)
    (hloc : v'.ownBlock = v.ownBlock ∨ v'.ownBlock = some (wr.alloc o).heap.size) :
    (∃ a c, v' = .slice a (n + 1) c) ∧ w1.cell? ⟨w.heap.size, j, none⟩ = some v ∧ w1.frozen? ⟨w.heap.size, j, none⟩ = false ∧
    Hid (Fam w (w1.setCell ⟨w.heap.size, j, none⟩ v') G (fun i => if i = j then T j ++ [x] else T i) (fun i => if i = j then v' else V i)) := by
  subst hn
  subst hv
  refine ⟨?_, h.step hj hown hgrow hloc⟩
  rcases hown.2 with ⟨_, h0⟩ | ⟨g, cap, cur, rfl, _⟩
  · omega
  · exact ⟨_, _, rfl⟩

/-- The nodes below r from which one may go to j. -/
def tl (L : Nat → Nat) (Z : Nat → Nat → Int) (r j : Nat) : List Int := ((List.range r).filter (fun q => has (L q) (Z q) j)).map (fun q : Nat => (q : Int))

theorem tl_succ (L : Nat → Nat) (Z : Nat → Nat → Int) (r j : Nat) : tl L Z (r + 1) j = tl L Z r j ++ if has (L r) (Z r) j = true then [(r : Int)] else [] := by
  unfold tl
  rw [List.range_succ, List.filter_append, List.map_append]
  by_cases h : has (L r) (Z r) j = true <;> simp [h]

theorem tl_le (L : Nat → Nat) (Z : Nat → Nat → Int) (r j : Nat) : (tl L Z r j).length ≤ r := by
  unfold tl
  rw [List.length_map]
  exact Nat.le_trans (List.length_filter_le _ _) (by simp)

theorem tl_lt (L : Nat → Nat) (Z : Nat → Nat → Int) (r j : Nat) : ∀ x ∈ tl L Z r j, x < r := by
  intro x hx
  unfold tl at hx
  obtain ⟨q, hq, rfl⟩ := List.mem_map.1 hx
  have := List.mem_range.1 (List.mem_filter.1 hq).1
  omega

/-- .. and r, if one may go to j by the first i of its list. -/
def tli (L : Nat → Nat) (Z : Nat → Nat → Int) (r i j : Nat) : List Int := tl L Z r j ++ if has i (Z r) j = true then [(r : Int)] else []

theorem has_zero (Z : Nat → Int) (x : Int) : has 0 Z x = false := has_no (fun i hi => by omega)

theorem tli_zero (L : Nat → Nat) (Z : Nat → Nat → Int) (r j : Nat) : tli L Z r 0 j = tl L Z r j := by
  unfold tli
  rw [has_zero]
  simp

theorem tli_full (L : Nat → Nat) (Z : Nat → Nat → Int) (r j : Nat) : tli L Z r (L r) j = tl L Z (r + 1) j := by rw [tl_succ]; rfl

theorem tli_le (L : Nat → Nat) (Z : Nat → Nat → Int) (r i j : Nat) : (tli L Z r i j).length ≤ r + 1 := by
  unfold tli
  have := tl_le L Z r j
  by_cases h : has i (Z r) j = true <;> simp [h] <;> omega

theorem has_succ (i : Nat) (Z : Nat → Int) (x : Int) : has (i + 1) Z x = (has i Z x || decide (Z i = x)) := by
  rw [Bool.eq_iff_iff]
  unfold has
  simp only [decide_eq_true_eq, Bool.or_eq_true]
  constructor
  · rintro ⟨k, hk, e⟩
    by_cases hki : k = i
    · subst hki; exact Or.inr e
    · exact Or.inl ⟨k, by omega, e⟩
  · rintro (⟨k, hk, e⟩ | e)
    · exact ⟨k, by omega, e⟩
    · exact ⟨i, by omega, e⟩

/-- The row's last number is r just if r is there already. -/
theorem tli_last (L : Nat → Nat) (Z : Nat → Nat → Int) (r i j : Nat) :
    decide (0 < (tli L Z r i j).length ∧ (tli L Z r i j).getD ((tli L Z r i j).length - 1) 0 = (r : Int)) = has i (Z r) j := by
  by_cases h : has i (Z r) j = true
  · rw [h, decide_eq_true_eq]
    unfold tli
    rw [if_pos h]
    refine ⟨by simp, ?_⟩
    simp
  · have h' : has i (Z r) j = false := by simpa using h
    rw [h', decide_eq_false_iff_not]
    unfold tli
    rw [if_neg h, List.append_nil]
    rintro ⟨h0, h1⟩
    have hm : (tl L Z r j).getD ((tl L Z r j).length - 1) 0 ∈ tl L Z r j := by
      rw [List.getD_eq_getElem?_getD, List.getElem?_eq_getElem (by omega)]
      exact List.getElem_mem _
    have := tl_lt L Z r j _ hm
    omega

theorem tli_hit (L : Nat → Nat) (Z : Nat → Nat → Int) (r i t : Nat) (hz : Z r i = t) (h : has i (Z r) t = true) (j : Nat) : tli L Z r i j = tli L Z r (i + 1) j := by
  unfold tli
  rw [has_succ]
  by_cases e : t = j
  · subst e; simp [h]
  · have : decide (Z r i = (j : Int)) = false := by rw [decide_eq_false_iff_not]; omega
    rw [this, Bool.or_false]

theorem tli_new (L : Nat → Nat) (Z : Nat → Nat → Int) (r i t : Nat) (hz : Z r i = t) (h : has i (Z r) t = false) (j : Nat) :
    (if j = t then tli L Z r i t ++ [(r : Int)] else tli L Z r i j) = tli L Z r (i + 1) j := by
  unfold tli
  rw [has_succ]
  by_cases e : j = t
  · subst e; simp [h, hz]
  · have : decide (Z r i = (j : Int)) = false := by rw [decide_eq_false_iff_not]; omega
    rw [this, Bool.or_false, if_neg e]

end Go.Proofs.YtmdpbaobihdgkaaGreatDoor
