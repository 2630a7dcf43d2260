/-   Asking from behind, twice: what comes of it. -/
import Derived.Deep.OwnRows
import Derived.Maps.AppendAt
import Derived.Test.YtmdpbaobihdgkaaGreatDoorRows
import Derived.WalkKit
import Derived.WalkSpells
import Derived.WalkLawsBesides
import Derived.Deep.QuietTactic
import Derived.BigQuiet
import Derived.Below
import Derived.Deep.Heap
import Derived.Test.YtmdpbaobihdgkaaGreatDoorApp
import Derived.Test.YtmdpbaobihdgkaaGreatDoorBaseJ
import Derived.Test.YtmdpbaobihdgkaaGreatDoorWfmJ
import Derived.Test.YtmdpbaobihdgkaaGreatDoorTeaJ
import Derived.Test.YtmdpbaobihdgkaaGreatDoorRwsJ
import Derived.Test.YtmdpbaobihdgkaaGreatDoorWk
import Derived.Test.YtmdpbaobihdgkaaGreatDoorMkfJ
import Derived.Test.YtmdpbaobihdgkaaGreatDoorTcsJ
/- A family of rows that the call itself makes: a block of slices, each with a row of its own; what one append to one of them does. And the lists of the graph turned round. -/
/- tableau: where. -/
namespace Go.Proofs.YtmdpbaobihdgkaaGreatDoor
open Go.RowKit

theorem Tryz.info3 : (Tryz.prog.info? 3).map (fun i => (i.zero, i.size, i.bytes)) = some (some (.int .i64 0), 1, 8) := by kernel_rfl
theorem Tryz.info29 : (Tryz.prog.info? 29).map (fun i => (i.zero, i.size, i.bytes)) = some (some (.slice none 0 0), 1, 24) := by kernel_rfl

def vals (l : List Int) : List Value := l.map (Value.int .i64)
theorem vals_snoc (l : List Int) (x : Int) : vals l ++ [.int .i64 x] = vals (l ++ [x]) := by simp [vals]

/-- What a slice value that owns numbers looks like, and what it holds. -/
theorem owns_row {w : World} {base : Nat} {v : Value} {l : List Int} (h : w.ownsRow base 3 1 v l.length (vals l)) :
    ∃ a c, v = .slice a l.length c ∧ Row w a l.length (fun i => l.getD i 0) := by
  rcases h.2 with ⟨rfl, h0⟩ | ⟨g, cap, cur, rfl, hb, hg, _⟩
  · exact ⟨none, 0, by rw [h0], 0, 0, fun hh => by omega, fun i hi => by omega⟩
  · refine ⟨some ⟨g, 0, none⟩, cap, rfl, g, 0, fun _ => rfl, fun i hi => ?_⟩
    have := h.cells (g := g) rfl i (.int .i64 (l.getD i 0)) (by simp [vals, hi])
    have hadd : (⟨g, 0, none⟩ : Addr).add i = ⟨g, 0 + i, none⟩ := by unfold Addr.add; split <;> simp_all
    rw [hadd] at this
    exact this

/-- The rows T, G of them, under the block that was new when the call began. -/
structure Fam (w wr : World) (G : Nat) (T : Nat → List Int) (V : Nat → Value) : Prop where
  below : Below w.heap.size w wr
  top : wr.rowIs w.heap.size 29 G V
  own : ∀ j, j < G → wr.ownsRow (w.heap.size + 1) 3 1 (V j) (T j).length (vals (T j))
  apart : ∀ i j, i < G → j < G → i ≠ j → ∀ b, (V i).ownBlock = some b → (V j).ownBlock ≠ some b

theorem Fam.size {w wr : World} {G : Nat} {T : Nat → List Int} {V : Nat → Value} (h : Fam w wr G T V) : w.heap.size + 1 ≤ wr.heap.size := h.top.lt

theorem fam_start (w : World) (G : Nat) (T : Nat → List Int) (hT : ∀ j, j < G → T j = []) : Fam w (w.alloc (.cells (madeCells #[.slice none 0 0] G) 29)) G T (fun _ => .slice none 0 0) :=
  ⟨(Below.refl _ _).alloc (Nat.le_refl _) _, World.rowIs_made w _ G 29, fun j hj => by rw [hT j hj]; exact World.ownsRow_nil _ _ _ _, fun i j _ _ _ b hb => by simp [Value.ownBlock] at hb⟩

theorem Fam.congr {w wr : World} {G : Nat} {T U : Nat → List Int} {V : Nat → Value} (h : Fam w wr G T V) (e : ∀ j, j < G → T j = U j) : Fam w wr G U V :=
  ⟨h.below, h.top, fun j hj => by rw [← e j hj]; exact h.own j hj, h.apart⟩

theorem Fam.gr {w wr : World} {G : Nat} {T : Nat → List Int} {V : Nat → Value} (h : Fam w wr G T V) : Gr wr (some ⟨w.heap.size, 0, none⟩) G (fun j => (T j).length) (fun j i => (T j).getD i 0) := by
  refine ⟨w.heap.size, 0, fun _ => rfl, fun r hr => ?_⟩
  obtain ⟨a, c, hv, hrow⟩ := owns_row (h.own r hr)
  exact ⟨a, c, by rw [Nat.zero_add, h.top.cell hr, hv], hrow⟩

/-- 'out[j] = append(out[j], x)'. -/
theorem Fam.step {w wr w1 : World} {G : Nat} {T : Nat → List Int} {V : Nat → Value} {j : Nat} {x : Int} {v' : Value} {o : Obj} (h : Fam w wr G T V) (hj : j < G)
    (hown : w1.ownsRow (w.heap.size + 1) 3 1 v' ((T j).length + 1) (vals (T j) ++ [.int .i64 x])) (hgrow : (wr.alloc o).grownBy w1 (V j).ownBlock)
    (hloc : v'.ownBlock = (V j).ownBlock ∨ v'.ownBlock = some (wr.alloc o).heap.size) :
    w1.cell? ⟨w.heap.size, j, none⟩ = some (V j) ∧ w1.frozen? ⟨w.heap.size, j, none⟩ = false ∧
    Fam w (w1.setCell ⟨w.heap.size, j, none⟩ v') G (fun i => if i = j then T j ++ [x] else T i) (fun i => if i = j then v' else V i) := by
  have hsz := h.size
  have hVlt : ∀ k, (V j).ownBlock = some k → w.heap.size + 1 ≤ k ∧ k < wr.heap.size := (h.own j hj).lt
  have hg : wr.grownBy w1 (V j).ownBlock := (World.grownBy_alloc _ _ _).trans hgrow
  have htop : w1.rowIs w.heap.size 29 G V := h.top.of_block (hg.block _ h.top.lt (fun e => by have := hVlt _ e.symm; omega))
  refine ⟨htop.cell hj, htop.frozen j, ?_⟩
  refine ⟨?_, htop.set j v', fun i hi => ?_, fun i k hi hk hne b hb => ?_⟩
  · exact (h.below.grown hg (by omega) (fun k hk => by have := hVlt k hk; omega)).setCell (Nat.le_refl _) _
  · by_cases e : i = j
    · subst e
      simp only [if_true]
      have : (T i ++ [x]).length = (T i).length + 1 := by simp
      rw [this, ← vals_snoc]
      exact ownsRow_setCell_below hown (by show w.heap.size < _; omega) _
    · simp only [if_neg e]
      have h1 : w1.ownsRow (w.heap.size + 1) 3 1 (V i) (T i).length (vals (T i)) := (h.own i hi).kept hg (by
        cases hv : (V i).ownBlock with
        | none => exact Or.inl rfl
        | some b => exact Or.inr (fun ee => h.apart i j hi hj e b hv ee.symm))
      exact ownsRow_setCell_below h1 (by show w.heap.size < _; omega) _
  · have old : ∀ i, i < G → ∀ b, (V i).ownBlock = some b → b < wr.heap.size := fun i hi b hb => ((h.own i hi).lt b hb).2
    have hnew : (wr.alloc o).heap.size = wr.heap.size + 1 := by simp
    by_cases ei : i = j
    · have ek : k ≠ j := fun e => hne (ei.trans e.symm)
      simp only [if_pos ei, if_neg ek] at hb ⊢
      intro hb2
      rcases hloc with hl | hl
      · exact h.apart k j hk hj ek b hb2 (by rw [← hl]; exact hb)
      · rw [hl] at hb
        have := old k hk b hb2
        simp only [Option.some.injEq] at hb
        omega
    · simp only [if_neg ei] at hb ⊢
      by_cases ek : k = j
      · simp only [if_pos ek]
        intro hb2
        rcases hloc with hl | hl
        · exact h.apart i j hi hj ei b hb (by rw [← hl]; exact hb2)
        · rw [hl] at hb2
          have := old i hi b hb
          simp only [Option.some.injEq] at hb2
          omega
      · simp only [if_neg ek]
        exact h.apart i k hi hk hne b hb

theorem Fam.step' {w wr w1 : World} {G : Nat} {T : Nat → List Int} {V : Nat → Value} {j n : Nat} {x : Int} {v v' : Value} {o : Obj} (h : Fam w wr G T V) (hj : j < G) (hn : (T j).length = n) (hv : V j = v)
    (hown : w1.ownsRow (w.heap.size + 1) 3 1 v' (n + 1) (vals (T j) ++ [.int .i64 x])) (hgrow : (wr.alloc o).grownBy w1 v.ownBlock)
    (hloc : v'.ownBlock = v.ownBlock ∨ v'.ownBlock = some (wr.alloc o).heap.size) :
    (∃ a c, v' = .slice a (n + 1) c) ∧ w1.cell? ⟨w.heap.size, j, none⟩ = some v ∧ w1.frozen? ⟨w.heap.size, j, none⟩ = false ∧
    Hid (Fam w (w1.setCell ⟨w.heap.size, j, none⟩ v') G (fun i => if i = j then T j ++ [x] else T i) (fun i => if i = j then v' else V i)) := by
  subst hn
  subst hv
  refine ⟨?_, h.step hj hown hgrow hloc⟩
  rcases hown.2 with ⟨_, h0⟩ | ⟨g, cap, cur, rfl, _⟩
  · omega
  · exact ⟨_, _, rfl⟩

/-- The nodes below r from which one may go to j. -/
def tl (L : Nat → Nat) (Z : Nat → Nat → Int) (r j : Nat) : List Int := ((List.range r).filter (fun q => has (L q) (Z q) j)).map (fun q : Nat => (q : Int))

theorem tl_succ (L : Nat → Nat) (Z : Nat → Nat → Int) (r j : Nat) : tl L Z (r + 1) j = tl L Z r j ++ if has (L r) (Z r) j = true then [(r : Int)] else [] := by
  unfold tl
  rw [List.range_succ, List.filter_append, List.map_append]
  by_cases h : has (L r) (Z r) j = true <;> simp [h]

theorem tl_le (L : Nat → Nat) (Z : Nat → Nat → Int) (r j : Nat) : (tl L Z r j).length ≤ r := by
  unfold tl
  rw [List.length_map]
  exact Nat.le_trans (List.length_filter_le _ _) (by simp)

theorem tl_lt (L : Nat → Nat) (Z : Nat → Nat → Int) (r j : Nat) : ∀ x ∈ tl L Z r j, x < r := by
  intro x hx
  unfold tl at hx
  obtain ⟨q, hq, rfl⟩ := List.mem_map.1 hx
  have := List.mem_range.1 (List.mem_filter.1 hq).1
  omega

/-- .. and r, if one may go to j by the first i of its list. -/
def tli (L : Nat → Nat) (Z : Nat → Nat → Int) (r i j : Nat) : List Int := tl L Z r j ++ if has i (Z r) j = true then [(r : Int)] else []

theorem has_zero (Z : Nat → Int) (x : Int) : has 0 Z x = false := has_no (fun i hi => by omega)

theorem tli_zero (L : Nat → Nat) (Z : Nat → Nat → Int) (r j : Nat) : tli L Z r 0 j = tl L Z r j := by
  unfold tli
  rw [has_zero]
  simp

theorem tli_full (L : Nat → Nat) (Z : Nat → Nat → Int) (r j : Nat) : tli L Z r (L r) j = tl L Z (r + 1) j := by rw [tl_succ]; rfl

theorem tli_le (L : Nat → Nat) (Z : Nat → Nat → Int) (r i j : Nat) : (tli L Z r i j).length ≤ r + 1 := by
  unfold tli
  have := tl_le L Z r j
  by_cases h : has i (Z r) j = true <;> simp [h] <;> omega

theorem has_succ (i : Nat) (Z : Nat → Int) (x : Int) : has (i + 1) Z x = (has i Z x || decide (Z i = x)) := by
  rw [Bool.eq_iff_iff]
  unfold has
  simp only [decide_eq_true_eq, Bool.or_eq_true]
  constructor
  · rintro ⟨k, hk, e⟩
    by_cases hki : k = i
    · subst hki; exact Or.inr e
    · exact Or.inl ⟨k, by omega, e⟩
  · rintro (⟨k, hk, e⟩ | e)
    · exact ⟨k, by omega, e⟩
    · exact ⟨i, by omega, e⟩

/-- The row's last number is r just if r is there already. -/
theorem tli_last (L : Nat → Nat) (Z : Nat → Nat → Int) (r i j : Nat) :
    decide (0 < (tli L Z r i j).length ∧ (tli L Z r i j).getD ((tli L Z r i j).length - 1) 0 = (r : Int)) = has i (Z r) j := by
  by_cases h : has i (Z r) j = true
  · rw [h, decide_eq_true_eq]
    unfold tli
    rw [if_pos h]
    refine ⟨by simp, ?_⟩
    simp
  · have h' : has i (Z r) j = false := by simpa using h
    rw [h', decide_eq_false_iff_not]
    unfold tli
    rw [if_neg h, List.append_nil]
    rintro ⟨h0, h1⟩
    have hm : (tl L Z r j).getD ((tl L Z r j).length - 1) 0 ∈ tl L Z r j := by
      rw [List.getD_eq_getElem?_getD, List.getElem?_eq_getElem (by omega)]
      exact List.getElem_mem _
    have := tl_lt L Z r j _ hm
    omega

theorem tli_hit (L : Nat → Nat) (Z : Nat → Nat → Int) (r i t : Nat) (hz : Z r i = t) (h : has i (Z r) t = true) (j : Nat) : tli L Z r i j = tli L Z r (i + 1) j := by
  unfold tli
  rw [has_succ]
  by_cases e : t = j
  · subst e; simp [h]
  · have : decide (Z r i = (j : Int)) = false := by rw [decide_eq_false_iff_not]; omega
    rw [this, Bool.or_false]

theorem tli_new (L : Nat → Nat) (Z : Nat → Nat → Int) (r i t : Nat) (hz : Z r i = t) (h : has i (Z r) t = false) (j : Nat) :
    (if j = t then tli L Z r i t ++ [(r : Int)] else tli L Z r i j) = tli L Z r (i + 1) j := by
  unfold tli
  rw [has_succ]
  by_cases e : j = t
  · subst e; simp [h, hz]
  · have : decide (Z r i = (j : Int)) = false := by rw [decide_eq_false_iff_not]; omega
    rw [this, Bool.or_false, if_neg e]

end Go.Proofs.YtmdpbaobihdgkaaGreatDoor

namespace Go.Proofs.YtmdpbaobihdgkaaGreatDoor
open Go.RowKit

/-- The states of which something is so, rising. -/
def trs (F : Nat → Bool) : Nat → List Int
  | 0 => []
  | n + 1 => if F n then trs F n ++ [(n : Int)] else trs F n

theorem trs_len (F : Nat → Bool) : ∀ n, (trs F n).length ≤ n
  | 0 => Nat.le_refl _
  | n + 1 => by
    have := trs_len F n
    rw [trs]
    split
    · simp; omega
    · omega

theorem trs_mem (F : Nat → Bool) (x : Int) : ∀ n, x ∈ trs F n ↔ ∃ s : Nat, s < n ∧ x = (s : Int) ∧ F s = true
  | 0 => by simp [trs]
  | n + 1 => by
    rw [trs]
    by_cases h : F n = true
    · rw [if_pos h, List.mem_append, trs_mem F x n, List.mem_singleton]
      constructor
      · rintro (⟨s, h1, h2, h3⟩ | rfl)
        · exact ⟨s, by omega, h2, h3⟩
        · exact ⟨n, by omega, rfl, h⟩
      · rintro ⟨s, h1, h2, h3⟩
        by_cases e : s = n
        · subst e; exact Or.inr h2
        · exact Or.inl ⟨s, by omega, h2, h3⟩
    · rw [if_neg h, trs_mem F x n]
      constructor
      · rintro ⟨s, h1, h2, h3⟩; exact ⟨s, by omega, h2, h3⟩
      · rintro ⟨s, h1, h2, h3⟩
        by_cases e : s = n
        · subst e; exact absurd h3 h
        · exact ⟨s, by omega, h2, h3⟩

theorem info3_parts : ∃ i, Tryz.prog.info? 3 = some i ∧ i.zero = some (.int .i64 0) ∧ i.size = 1 ∧ i.bytes = 8 := by
  have h := Tryz.info3
  cases e : Tryz.prog.info? 3 with
  | none => rw [e] at h; cases h
  | some i =>
    rw [e] at h
    simp only [Option.map_some, Option.some.injEq, Prod.mk.injEq] at h
    exact ⟨i, rfl, h.1, h.2.1, h.2.2⟩

set_option maxHeartbeats 2000000 in
theorem where17 {w : World} {a : Option Addr} {n c : Nat} {F : Nat → Bool} (hF : RowB w a n F) (hn : n ≤ 1024) :
    Calls Tryz.prog 17 #[.slice a n c] w fun e w' => ∃ v, e = .returned v ∧ Hid (w'.ownsRow w.heap.size 3 1 v (trs F n).length (vals (trs F n)) ∧ Below w.heap.size w w') := by
  obtain ⟨i0, hi, hz0, hz1, hz2⟩ := info3_parts
  have HI : Hid (Tryz.prog.info? 3 = some i0 ∧ i0.zero = some (.int .i64 0) ∧ i0.size = 1 ∧ i0.bytes = 8) := ⟨hi, hz0, hz1, hz2⟩
  have HF := hid hF
  clear hi hz0 hz1 hz2 hF
  go_enter Tryz.func17, Tryz.ntmps17
  go_wp2
  go_loopw [8, 3] (fun i v wr => ∃ k : Nat, k ≤ n ∧ i = .int .i64 k ∧ Hid (wr.ownsRow w.heap.size 3 1 v (trs F k).length (vals (trs F k)) ∧ Below w.heap.size w wr)) (fun i _ _ => n - (intOf i).toNat)
  case atStart => exact ⟨0, Nat.zero_le _, rfl, hid ⟨⟨by simp [trs, vals], Or.inl ⟨rfl, rfl⟩⟩, Below.refl _ _⟩⟩
  case round =>
    obtain ⟨k, hk, rfl, HK⟩ := hrel
    by_cases hlt : k < n
    · obtain ⟨b, o, h1, h2⟩ := HF.out
      obtain rfl := h1 (by omega)
      have f1 := below_cell HK.out.2 (Nat.le_refl _) (h2 k hlt)
      have hkz : (k : Int) < n := by omega
      have hls := trs_len F k
      clear h1 h2
      by_cases hf : F k = true
      · have HE : Hid (trs F (k + 1) = trs F k ++ [(k : Int)]) := by rw [trs, if_pos hf]; exact hid rfl
        rw [hf] at f1
        go_wp2_with (at_builtin; refine wpList_append_own_at _ rfl _ _ 29 rfl w.heap.size 3 i0 _ 1 8 Tryz.underlying29 HI.out.1 HI.out.2.1 HI.out.2.2.1 HI.out.2.2.2 rfl (by decide) _ _ _ rfl (owns3_below HK.out.1 (box_below _ _)) ⟨wr.heap.size, 0, none⟩ 1 1 [.int .i64 (k : Nat)] rfl rfl (cell_one_new _ _ _) (by intro u hu; simp at hu; subst hu; rfl) (by unfold maxLen; omega) (by omega) (by have := HK.out.2.size; simp; omega) ?_; intro v' w9 hown hgrow hnil hat; have HX := hid (And.intro hown (((HK.out.2.alloc HK.out.2.size _).grown hgrow (by have := HK.out.2.size; simp; omega) (fun q hq => (HK.out.1.lt q hq).1)))); clear hown hgrow hat hnil)
        go_roundw
        case rel => exact ⟨k + 1, by omega, by go_num, hid ⟨by rw [HE.out]; have := HX.out.1; simp only [List.length_append, List.length_cons, List.length_nil, vals, List.map_append, List.map_cons, List.map_nil] at this ⊢; exact this, HX.out.2⟩⟩
        case measure => simp [intOf]; omega
      · have HE : Hid (trs F (k + 1) = trs F k) := by rw [trs, if_neg hf]; exact hid rfl
        rw [Bool.not_eq_true] at hf
        rw [hf] at f1
        go_wp2
        go_roundw
        case rel => exact ⟨k + 1, by omega, by go_num, hid (by rw [HE.out]; exact HK.out)⟩
        case measure => simp [intOf]; omega
    · obtain rfl : k = n := by omega
      go_wp2
      go_ret
      exact ⟨_, rfl, HK⟩
end Go.Proofs.YtmdpbaobihdgkaaGreatDoor

namespace Go.Proofs.YtmdpbaobihdgkaaGreatDoor
open Go.RowKit

def bkF (g : Nat → Bool → Bool) (l : Bool) : Nat → Nat → Bool
  | _, 0 => l
  | p, d + 1 => g p (bkF g l (p + 1) d)

/-- What is answered at p, if behind the last of n places stands l. -/
def bk (g : Nat → Bool → Bool) (n : Nat) (l : Bool) (p : Nat) : Bool := bkF g l p (n - p)

theorem bk_end (g : Nat → Bool → Bool) (n : Nat) (l : Bool) : bk g n l n = l := by unfold bk; rw [Nat.sub_self]; rfl
theorem bk_step (g : Nat → Bool → Bool) {n : Nat} (l : Bool) {p : Nat} (h : p < n) : bk g n l p = g p (bk g n l (p + 1)) := by
  unfold bk
  rw [show n - p = (n - (p + 1)) + 1 by omega]
  rfl

def gU (F G : Nat → Bool) (p : Nat) (v : Bool) : Bool := G p || (F p && v)
def gR (F G : Nat → Bool) (p : Nat) (v : Bool) : Bool := G p && (F p || v)

theorem bkF_unt (F G : Nat → Bool) : ∀ d p, bkF (gU F G) false p d = unt F G d p
  | 0, _ => rfl
  | d + 1, p => by
    show gU F G p (bkF (gU F G) false (p + 1) d) = _
    rw [bkF_unt F G d (p + 1)]
    rfl

theorem bkF_step {g : Nat → Bool → Bool} {U : Nat → Bool} (h : ∀ p, U p = g p (U (p + 1))) : ∀ d p, bkF g (U (p + d)) p d = U p
  | 0, _ => rfl
  | d + 1, p => by
    show g p (bkF g (U (p + (d + 1))) (p + 1) d) = _
    rw [show p + (d + 1) = p + 1 + d by omega, bkF_step h d (p + 1), ← h p]

theorem unt_loop {s m : Nat} (hm : 0 < m) {f g : Nat → Bool} (hg : Per s m g) {i : Nat} (hi : s ≤ i) : unt f g (s + m) i = unt f g m i := by
  rw [Bool.eq_iff_iff, unt_all hm hg, unt_iff]
  constructor
  · rintro ⟨j, h1, h2, h3⟩
    induction j using Nat.strongRecOn with
    | ind j ih =>
      by_cases h : j < i + m
      · exact ⟨j, h1, h, h2, h3⟩
      · have e := hg (j - m) (by omega)
        rw [show j - m + m = j by omega] at e
        exact ih (j - m) (by omega) (by omega) (by rw [← e]; exact h2) (fun k a b => h3 k a (by omega))
  · rintro ⟨j, h1, _, h3, h4⟩
    exact ⟨j, h1, h3, h4⟩

theorem bk_until {s m : Nat} (hm : 0 < m) {F G : Nat → Bool} (hF : Per s m F) (hG : Per s m G) {p : Nat} (hp : p < s + m) : bk (gU F G) (s + m) (bk (gU F G) (s + m) false s) p = unt F G (s + m) p := by
  have e1 : bk (gU F G) (s + m) false s = unt F G (s + m) s := by
    rw [unt_loop hm hG (Nat.le_refl _)]
    unfold bk
    rw [show s + m - s = m by omega, bkF_unt]
  have e2 : unt F G (s + m) (s + m) = unt F G (s + m) s := unt_per hm hF hG s (Nat.le_refl _)
  rw [e1, ← e2]
  have := bkF_step (g := gU F G) (U := unt F G (s + m)) (fun p => unt_step hm hG p) (s + m - p) p
  rw [show p + (s + m - p) = s + m by omega] at this
  exact this

theorem gR_not (F G : Nat → Bool) (p : Nat) (v : Bool) : gR F G p v = !gU (fun k => !F k) (fun k => !G k) p (!v) := by
  show (G p && (F p || v)) = !((!G p) || ((!F p) && !v))
  cases G p <;> cases F p <;> cases v <;> rfl

theorem bkF_not (F G : Nat → Bool) (l : Bool) : ∀ d p, bkF (gR F G) l p d = !bkF (gU (fun k => !F k) (fun k => !G k)) (!l) p d
  | 0, _ => by show l = !!l; rw [Bool.not_not]
  | d + 1, p => by
    show gR F G p (bkF (gR F G) l (p + 1) d) = !gU (fun k => !F k) (fun k => !G k) p (bkF (gU (fun k => !F k) (fun k => !G k)) (!l) (p + 1) d)
    rw [bkF_not F G l d (p + 1), gR_not, Bool.not_not]

theorem bk_release {s m : Nat} (hm : 0 < m) {F G : Nat → Bool} (hF : Per s m F) (hG : Per s m G) {p : Nat} (hp : p < s + m) : bk (gR F G) (s + m) (bk (gR F G) (s + m) true s) p = rls F G (s + m) p := by
  have h := bk_until hm (per_not hF) (per_not hG) hp
  unfold rls
  rw [← h]
  unfold bk
  rw [bkF_not, bkF_not, Bool.not_not]
  rfl

/-- The next place of a word that goes round. -/
theorem hb_next {s m : Nat} {f : Nat → Bool} (hf : Per s m f) {p : Nat} (hp : p < s + m) : f (if p + 1 < s + m then p + 1 else s) = f (p + 1) := by
  by_cases h : p + 1 < s + m
  · rw [if_pos h]
  · rw [if_neg h, show p + 1 = s + m by omega]
    exact (hf s (Nat.le_refl _)).symm

end Go.Proofs.YtmdpbaobihdgkaaGreatDoor
