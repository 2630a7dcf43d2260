/-   Asking from behind, twice: what comes of it. fromBehind, over the closures of until and release; until and release themselves; all.   -/
import Derived.Test.YtmdpbaobihdgkaaGreatDoorTcsJ
import Derived.Deep.CutRange
/- A family of rows that the call itself makes: a block of slices, each with a row of its own; what one append to one of them does. And the lists of the graph turned round. -/
/- tableau: where. -/
/- tableau: a list of lists of bools that grows by append (the variable kids of truths). -/
/- tableau: truths. -/
namespace Go.Proofs.YtmdpbaobihdgkaaGreatDoor
open Go.RowKit
theorem Tryz.info3 : (Tryz.prog.info? 3).map (fun i => (i.zero, i.size, i.bytes)) = some (some (.int .i64 0), 1, 8) := by kernel_rfl
theorem Tryz.info29 : (Tryz.prog.info? 29).map (fun i => (i.zero, i.size, i.bytes)) = some (some (.slice none 0 0), 1, 24) := by kernel_rfl
def vals (l : List Int) : List Value := l.map (Value.int .i64)
theorem vals_snoc (l : List Int) (x : Int) : vals l ++ [.int .i64 x] = vals (l ++ [x]) := by simp [vals]
theorem owns_row {w : World} {base : Nat} {v : Value} {l : List Int} (h : w.ownsRow base 3 1 v l.length (vals l)) :
  ∃ a c, v = .slice a l.length c ∧ Row w a l.length (fun i => l.getD i 0) := by
 rcases h.2 with ⟨rfl, h0⟩ | ⟨g, cap, cur, rfl, hb, hg, _⟩
 ·exact ⟨none, 0, by rw [h0], 0, 0, fun hh => by omega, fun i hi => by omega⟩
 ·refine ⟨some ⟨g, 0, none⟩, cap, rfl, g, 0, fun _ => rfl, fun i hi => ?_⟩
  have := h.cells (g := g) rfl i (.int .i64 (l.getD i 0)) (by simp [vals, hi])
  have hadd : (⟨g, 0, none⟩ : Addr).add i = ⟨g, 0 + i, none⟩ := by unfold Addr.add; split <;> simp_all
  rw [hadd] at this
  exact this
structure Fam (w wr : World) (G : Nat) (T : Nat → List Int) (V : Nat → Value) : Prop where
 below : Below w.heap.size w wr
 top : wr.rowIs w.heap.size 29 G V
 own : ∀ j, j < G → wr.ownsRow (w.heap.size + 1) 3 1 (V j) (T j).length (vals (T j))
 apart : ∀ i j, i < G → j < G → i ≠ j → ∀ b, (V i).ownBlock = some b → (V j).ownBlock ≠ some b
theorem Fam.size {w wr : World} {G : Nat} {T : Nat → List Int} {V : Nat → Value} (h : Fam w wr G T V) : w.heap.size + 1 ≤ wr.heap.size := h.top.lt
theorem fam_start (w : World) (G : Nat) (T : Nat → List Int) (hT : ∀ j, j < G → T j = []) : Fam w (w.alloc (.cells (madeCells #[.slice none 0 0] G) 29)) G T (fun _ => .slice none 0 0) :=
 ⟨(Below.refl _ _).alloc jq0 _, World.rowIs_made w _ G 29, fun j hj => by rw [hT j hj]; exact World.ownsRow_nil _ _ _ _, fun i j _ _ _ b hb => by simp [Value.ownBlock] at hb⟩
theorem Fam.congr {w wr : World} {G : Nat} {T U : Nat → List Int} {V : Nat → Value} (h : Fam w wr G T V) (e : ∀ j, j < G → T j = U j) : Fam w wr G U V :=
 ⟨h.below, h.top, fun j hj => by rw [← e j hj]; exact h.own j hj, h.apart⟩
theorem Fam.gr {w wr : World} {G : Nat} {T : Nat → List Int} {V : Nat → Value} (h : Fam w wr G T V) : Gr wr (some ⟨w.heap.size, 0, none⟩) G (fun j => (T j).length) (fun j i => (T j).getD i 0) := by
 refine ⟨w.heap.size, 0, fun _ => rfl, fun r hr => ?_⟩
 obtain ⟨a, c, hv, hrow⟩ := owns_row (h.own r hr)
 exact ⟨a, c, by rw [Nat.zero_add, h.top.cell hr, hv], hrow⟩
theorem Fam.step {w wr w1 : World} {G : Nat} {T : Nat → List Int} {V : Nat → Value} {j : Nat} {x : Int} {v' : Value} {o : Obj} (h : Fam w wr G T V) (hj : j < G)
  (hown : w1.ownsRow (w.heap.size + 1) 3 1 v' ((T j).length + 1) (vals (T j) ++ [.int .i64 x])) (hgrow : (wr.alloc o).grownBy w1 (V j).ownBlock)
  (hloc : v'.ownBlock = (V j).ownBlock ∨ v'.ownBlock = some (wr.alloc o).heap.size) :
  w1.cell? ⟨w.heap.size, j, none⟩ = some (V j) ∧ w1.frozen? ⟨w.heap.size, j, none⟩ = false ∧
  Fam w (w1.setCell ⟨w.heap.size, j, none⟩ v') G (fun i => if i = j then T j ++ [x] else T i) (fun i => if i = j then v' else V i) := by
 have hsz := h.size
 have hVlt : ∀ k, (V j).ownBlock = some k → w.heap.size + 1 ≤ k ∧ k < wr.heap.size := (h.own j hj).lt
 have hg : wr.grownBy w1 (V j).ownBlock := (World.grownBy_alloc _ _ _).trans hgrow
 have htop : w1.rowIs w.heap.size 29 G V := h.top.of_block (hg.block _ h.top.lt (fun e => by have := hVlt _ e.symm; omega))
 refine ⟨htop.cell hj, htop.frozen j, ?_⟩
 refine ⟨?_, htop.set j v', fun i hi => ?_, fun i k hi hk hne b hb => ?_⟩
 ·exact (h.below.grown hg (by omega) (fun k hk => by have := hVlt k hk; omega)).setCell jq0 _
 ·by_cases e : i = j
  ·subst e
   simp only [if_true]
   have : (T i ++ [x]).length = (T i).length + 1 := by simp
   rw [this, ← vals_snoc]
   exact ownsRow_setCell_below hown (by show w.heap.size < _; omega) _
  ·simp only [if_neg e]
   have h1 : w1.ownsRow (w.heap.size + 1) 3 1 (V i) (T i).length (vals (T i)) := (h.own i hi).kept hg (by
    cases hv : (V i).ownBlock with
    | none => exact Or.inl rfl
    | some b => exact Or.inr (fun ee => h.apart i j hi hj e b hv ee.symm))
   exact ownsRow_setCell_below h1 (by show w.heap.size < _; omega) _
 ·have old : ∀ i, i < G → ∀ b, (V i).ownBlock = some b → b < wr.heap.size := fun i hi b hb => ((h.own i hi).lt b hb).2
  have hnew : (wr.alloc o).heap.size = wr.heap.size + 1 := by simp
  by_cases ei : i = j
  ·have ek : k ≠ j := fun e => hne (ei.trans e.symm)
   simp only [if_pos ei, if_neg ek] at hb ⊢
   intro hb2
   rcases hloc with hl | hl
   ·exact h.apart k j hk hj ek b hb2 (by rw [← hl]; exact hb)
   ·rw [hl] at hb
    have := old k hk b hb2
    simp only [Option.some.injEq] at hb
    omega
  ·simp only [if_neg ei] at hb ⊢
   by_cases ek : k = j
   ·simp only [if_pos ek]
    intro hb2
    rcases hloc with hl | hl
    ·exact h.apart i j hi hj ei b hb (by rw [← hl]; exact hb2)
    ·rw [hl] at hb2
     have := old i hi b hb
     simp only [Option.some.injEq] at hb2
     omega
   ·simp only [if_neg ek]
    exact h.apart i k hi hk hne b hb
theorem Fam.step' {w wr w1 : World} {G : Nat} {T : Nat → List Int} {V : Nat → Value} {j n : Nat} {x : Int} {v v' : Value} {o : Obj} (h : Fam w wr G T V) (hj : j < G) (hn : (T j).length = n) (hv : V j = v)
  (hown : w1.ownsRow (w.heap.size + 1) 3 1 v' (n + 1) (vals (T j) ++ [.int .i64 x])) (hgrow : (wr.alloc o).grownBy w1 v.ownBlock)
  (hloc : v'.ownBlock = v.ownBlock ∨ v'.ownBlock = some (wr.alloc o).heap.size) :
  (∃ a c, v' = .slice a (n + 1) c) ∧ w1.cell? ⟨w.heap.size, j, none⟩ = some v ∧ w1.frozen? ⟨w.heap.size, j, none⟩ = false ∧
  Hid (Fam w (w1.setCell ⟨w.heap.size, j, none⟩ v') G (fun i => if i = j then T j ++ [x] else T i) (fun i => if i = j then v' else V i)) := by
 subst hn
 subst hv
 refine ⟨?_, h.step hj hown hgrow hloc⟩
 rcases hown.2 with ⟨_, h0⟩ | ⟨g, cap, cur, rfl, _⟩
 ·omega
 ·exact ⟨_, _, rfl⟩
def tl (L : Nat → Nat) (Z : Nat → Nat → Int) (r j : Nat) : List Int := ((List.range r).filter (fun q => has (L q) (Z q) j)).map (fun q : Nat => (q : Int))
theorem tl_succ (L : Nat → Nat) (Z : Nat → Nat → Int) (r j : Nat) : tl L Z (r + 1) j = tl L Z r j ++ if has (L r) (Z r) j = true then [(r : Int)] else [] := by
 unfold tl
 rw [List.range_succ, List.filter_append, List.map_append]
 by_cases h : has (L r) (Z r) j = true <;> simp [h]
theorem tl_le (L : Nat → Nat) (Z : Nat → Nat → Int) (r j : Nat) : (tl L Z r j).length ≤ r := by
 unfold tl
 rw [List.length_map]
 exact Nat.le_trans (List.length_filter_le _ _) (by simp)
theorem tl_lt (L : Nat → Nat) (Z : Nat → Nat → Int) (r j : Nat) : ∀ x ∈ tl L Z r j, x < r := by
 intro x hx
 unfold tl at hx
 obtain ⟨q, hq, rfl⟩ := List.mem_map.1 hx
 have := List.mem_range.1 (List.mem_filter.1 hq).1
 omega
def tli (L : Nat → Nat) (Z : Nat → Nat → Int) (r i j : Nat) : List Int := tl L Z r j ++ if has i (Z r) j = true then [(r : Int)] else []
theorem has_zero (Z : Nat → Int) (x : Int) : has 0 Z x = false := has_no (fun i hi => by omega)
theorem tli_zero (L : Nat → Nat) (Z : Nat → Nat → Int) (r j : Nat) : tli L Z r 0 j = tl L Z r j := by
 unfold tli
 rw [has_zero]
 simp
theorem tli_full (L : Nat → Nat) (Z : Nat → Nat → Int) (r j : Nat) : tli L Z r (L r) j = tl L Z (r + 1) j := by rw [tl_succ]; rfl
theorem tli_le (L : Nat → Nat) (Z : Nat → Nat → Int) (r i j : Nat) : (tli L Z r i j).length ≤ r + 1 := by
 unfold tli
 have := tl_le L Z r j
 by_cases h : has i (Z r) j = true <;> simp [h] <;> omega
theorem has_succ (i : Nat) (Z : Nat → Int) (x : Int) : has (i + 1) Z x = (has i Z x || decide (Z i = x)) := by
 rw [Bool.eq_iff_iff]
 unfold has
 simp only [decide_eq_true_eq, Bool.or_eq_true]
 constructor
 ·rintro ⟨k, hk, e⟩
  by_cases hki : k = i
  ·subst hki; exact Or.inr e
  ·exact Or.inl ⟨k, by omega, e⟩
 ·rintro (⟨k, hk, e⟩ | e)
  ·exact ⟨k, by omega, e⟩
  ·exact ⟨i, by omega, e⟩
theorem tli_last (L : Nat → Nat) (Z : Nat → Nat → Int) (r i j : Nat) :
  decide (0 < (tli L Z r i j).length ∧ (tli L Z r i j).getD ((tli L Z r i j).length - 1) 0 = (r : Int)) = has i (Z r) j := by
 by_cases h : has i (Z r) j = true
 ·rw [h, decide_eq_true_eq]
  unfold tli
  rw [if_pos h]
  refine ⟨by simp, ?_⟩
  simp
 ·have h' : has i (Z r) j = false := by simpa using h
  rw [h', decide_eq_false_iff_not]
  unfold tli
  rw [if_neg h, List.append_nil]
  rintro ⟨h0, h1⟩
  have hm : (tl L Z r j).getD ((tl L Z r j).length - 1) 0 ∈ tl L Z r j := by
   rw [List.getD_eq_getElem?_getD, List.getElem?_eq_getElem (by omega)]
   exact List.getElem_mem _
  have := tl_lt L Z r j _ hm
  omega
theorem tli_hit (L : Nat → Nat) (Z : Nat → Nat → Int) (r i t : Nat) (hz : Z r i = t) (h : has i (Z r) t = true) (j : Nat) : tli L Z r i j = tli L Z r (i + 1) j := by
 unfold tli
 rw [has_succ]
 by_cases e : t = j
 ·subst e; simp [h]
 ·have : decide (Z r i = (j : Int)) = false := by rw [decide_eq_false_iff_not]; omega
  rw [this, Bool.or_false]
theorem tli_new (L : Nat → Nat) (Z : Nat → Nat → Int) (r i t : Nat) (hz : Z r i = t) (h : has i (Z r) t = false) (j : Nat) :
  (if j = t then tli L Z r i t ++ [(r : Int)] else tli L Z r i j) = tli L Z r (i + 1) j := by
 unfold tli
 rw [has_succ]
 by_cases e : j = t
 ·subst e; simp [h, hz]
 ·have : decide (Z r i = (j : Int)) = false := by rw [decide_eq_false_iff_not]; omega
  rw [this, Bool.or_false, if_neg e]
end Go.Proofs.YtmdpbaobihdgkaaGreatDoor
namespace Go.Proofs.YtmdpbaobihdgkaaGreatDoor
open Go.RowKit
def trs (F : Nat → Bool) : Nat → List Int
 | 0 => []
 | n + 1 => if F n then trs F n ++ [(n : Int)] else trs F n
theorem trs_len (F : Nat → Bool) : ∀ n, (trs F n).length ≤ n
 | 0 => Nat.le_refl _
 | n + 1 => by
  have := trs_len F n
  rw [trs]
  split
  ·simp; omega
  ·omega
theorem trs_mem (F : Nat → Bool) (x : Int) : ∀ n, x ∈ trs F n ↔ ∃ s : Nat, s < n ∧ x = (s : Int) ∧ F s = true
 | 0 => by simp [trs]
 | n + 1 => by
  rw [trs]
  by_cases h : F n = true
  ·rw [if_pos h, List.mem_append, trs_mem F x n, List.mem_singleton]
   constructor
   ·rintro (⟨s, h1, h2, h3⟩ | rfl)
    ·exact ⟨s, by omega, h2, h3⟩
    ·exact ⟨n, by omega, rfl, h⟩
   ·rintro ⟨s, h1, h2, h3⟩
    by_cases e : s = n
    ·subst e; exact Or.inr h2
    ·exact Or.inl ⟨s, by omega, h2, h3⟩
  ·rw [if_neg h, trs_mem F x n]
   constructor
   ·rintro ⟨s, h1, h2, h3⟩; exact ⟨s, by omega, h2, h3⟩
   ·rintro ⟨s, h1, h2, h3⟩
    by_cases e : s = n
    ·subst e; exact absurd h3 h
    ·exact ⟨s, by omega, h2, h3⟩
theorem info3_parts : ∃ i, Tryz.prog.info? 3 = some i ∧ i.zero = some (.int .i64 0) ∧ i.size = 1 ∧ i.bytes = 8 := by
 have h := Tryz.info3
 cases e : Tryz.prog.info? 3 with
 | none => rw [e] at h; cases h
 | some i =>
  rw [e] at h
  simp only [Option.map_some, Option.some.injEq, Prod.mk.injEq] at h
  exact ⟨i, rfl, h.1, h.2.1, h.2.2⟩
set_option maxHeartbeats 2000000 in
theorem where17 {w : World} {a : Option Addr} {n c : Nat} {F : Nat → Bool} (hF : RowB w a n F) (hn : n ≤ 1024) :
  Calls Tryz.prog 17 #[.slice a n c] w fun e w' => ∃ v, e = .returned v ∧ Hid (w'.ownsRow w.heap.size 3 1 v (trs F n).length (vals (trs F n)) ∧ Below w.heap.size w w') := by
 obtain ⟨i0, hi, hz0, hz1, hz2⟩ := info3_parts
 have HI : Hid (Tryz.prog.info? 3 = some i0 ∧ i0.zero = some (.int .i64 0) ∧ i0.size = 1 ∧ i0.bytes = 8) := ⟨hi, hz0, hz1, hz2⟩
 have HF := hid hF
 clear hi hz0 hz1 hz2 hF
 go_enter Tryz.func17, Tryz.ntmps17
 go_wp2
 go_loopw [8, 3] (fun i v wr => ∃ k : Nat, k ≤ n ∧ i = .int .i64 k ∧ Hid (wr.ownsRow w.heap.size 3 1 v (trs F k).length (vals (trs F k)) ∧ Below w.heap.size w wr)) (fun i _ _ => n - (intOf i).toNat)
 case atStart => exact ⟨0, Nat.zero_le _, rfl, hid ⟨⟨by simp [trs, vals], Or.inl ⟨rfl, rfl⟩⟩, Below.refl _ _⟩⟩
 case round =>
  obtain ⟨k, hk, rfl, HK⟩ := hrel
  by_cases hlt : k < n
  ·obtain ⟨b, o, h1, h2⟩ := HF.out
   obtain rfl := h1 (by omega)
   have f1 := below_cell HK.out.2 jq0 (h2 k hlt)
   have hkz : (k : Int) < n := by omega
   have hls := trs_len F k
   clear h1 h2
   by_cases hf : F k = true
   ·have HE : Hid (trs F (k + 1) = trs F k ++ [(k : Int)]) := by rw [trs, if_pos hf]; exact hid rfl
    rw [hf] at f1
    go_wp2_with (at_builtin; refine wpList_append_own_at _ rfl _ _ 29 rfl w.heap.size 3 i0 _ 1 8 Tryz.underlying29 HI.out.1 HI.out.2.1 HI.out.2.2.1 HI.out.2.2.2 rfl (by decide) _ _ _ rfl (owns3_below HK.out.1 (box_below _ _)) ⟨wr.heap.size, 0, none⟩ 1 1 [.int .i64 (k : Nat)] rfl rfl (cell_one_new _ _ _) (by intro u hu; simp at hu; subst hu; rfl) (by unfold maxLen; omega) (by omega) (by have := HK.out.2.size; simp; omega) ?_; intro v' w9 hown hgrow hnil hat; have HX := hid (And.intro hown (((HK.out.2.alloc HK.out.2.size _).grown hgrow (by have := HK.out.2.size; simp; omega) (fun q hq => (HK.out.1.lt q hq).1)))); clear hown hgrow hat hnil)
    go_roundw
    case rel => exact ⟨k + 1, by omega, by go_num, hid ⟨by rw [HE.out]; have := HX.out.1; simp only [List.length_append, List.length_cons, List.length_nil, vals, List.map_append, List.map_cons, List.map_nil] at this ⊢; exact this, HX.out.2⟩⟩
    case measure => simp [intOf]; omega
   ·have HE : Hid (trs F (k + 1) = trs F k) := by rw [trs, if_neg hf]; exact hid rfl
    rw [Bool.not_eq_true] at hf
    rw [hf] at f1
    go_wp2
    go_roundw
    case rel => exact ⟨k + 1, by omega, by go_num, hid (by rw [HE.out]; exact HK.out)⟩
    case measure => simp [intOf]; omega
  ·obtain rfl : k = n := by omega
   go_wp2
   go_ret
   exact ⟨_, rfl, HK⟩
end Go.Proofs.YtmdpbaobihdgkaaGreatDoor
namespace Go.Proofs.YtmdpbaobihdgkaaGreatDoor
open Go.RowKit
def bkF (g : Nat → Bool → Bool) (l : Bool) : Nat → Nat → Bool
 | _, 0 => l
 | p, d + 1 => g p (bkF g l (p + 1) d)
def bk (g : Nat → Bool → Bool) (n : Nat) (l : Bool) (p : Nat) : Bool := bkF g l p (n - p)
end Go.Proofs.YtmdpbaobihdgkaaGreatDoor
namespace Go.Proofs.YtmdpbaobihdgkaaGreatDoor
open Go.RowKit
def lat (g : Nat → Bool → Bool) (n again : Nat) (l : Bool) : Nat → Bool
 | 0 => l
 | r + 1 => bk g n (lat g n again l r) again
def lst (g : Nat → Bool → Bool) (n again : Nat) (l : Bool) : Nat → Nat → Bool
 | 0, _ => false
 | r + 1, p => bk g n (lat g n again l r) p
theorem rowIs_below {w w' : World} {b n : Nat} {t : TypeId} {f : Nat → Value} (h : w.rowIs b t n f) (hb : Below w.heap.size w w') : w'.rowIs b t n f := h.of_block (hb.block _ h.lt)
theorem below_alloc3 (w : World) (o1 o2 o3 : Obj) : Below w.heap.size w (((w.alloc o1).alloc o2).alloc o3) := ((box_below w o1).alloc (by simp) _).alloc (by simp; omega) _
theorem below_alloc2 (w : World) (o1 o2 : Obj) : Below w.heap.size w ((w.alloc o1).alloc o2) := (box_below w o1).alloc (by simp) _
theorem three_boxes (w : World) (c1 c2 c3 : Array Value) (t1 t2 t3 : TypeId) :
  (((w.alloc (.cells c1 t1)).alloc (.cells c2 t2)).alloc (.cells c3 t3)).heap[w.heap.size]? = some (.cells c1 t1) ∧ (((w.alloc (.cells c1 t1)).alloc (.cells c2 t2)).alloc (.cells c3 t3)).heap[w.heap.size + 1]? = some (.cells c2 t2) ∧ (((w.alloc (.cells c1 t1)).alloc (.cells c2 t2)).alloc (.cells c3 t3)).heap[w.heap.size + 1 + 1]? = some (.cells c3 t3) := by
 have e1 : (w.alloc (.cells c1 t1)).heap.size = w.heap.size + 1 := by simp
 have e2 : ((w.alloc (.cells c1 t1)).alloc (.cells c2 t2)).heap.size = w.heap.size + 1 + 1 := by simp
 refine ⟨?_, ?_, ?_⟩
 ·rw [Go.Deep.blk_alloc_lt _ _ _ (by omega), Go.Deep.blk_alloc_lt _ _ _ (by omega)]
  exact Go.Deep.blk_alloc_new _ _
 ·rw [Go.Deep.blk_alloc_lt _ _ _ (by omega), ← e1]
  exact Go.Deep.blk_alloc_new _ _
 ·rw [← e2]
  exact Go.Deep.blk_alloc_new _ _
end Go.Proofs.YtmdpbaobihdgkaaGreatDoor
namespace Go.Proofs.YtmdpbaobihdgkaaGreatDoor
open Go.RowKit
def vls (V : Nat → Nat) (n : Nat) : Nat → List Value
 | 0 => []
 | j + 1 => vls V n j ++ [.slice (some ⟨V j, 0, none⟩) n n]
theorem vls_len (V : Nat → Nat) (n : Nat) : ∀ j, (vls V n j).length = j
 | 0 => rfl
 | j + 1 => by rw [vls, List.length_append, vls_len V n j]; rfl
theorem vls_at (V : Nat → Nat) (n : Nat) (i : Nat) : ∀ j, i < j → (vls V n j)[i]? = some (.slice (some ⟨V i, 0, none⟩) n n)
 | 0, h => absurd h (Nat.not_lt_zero i)
 | j + 1, h => by
  rw [vls]
  by_cases e : i = j
  ·subst e
   rw [List.getElem?_append_right (by rw [vls_len]; exact Nat.le_refl _), vls_len, Nat.sub_self]; rfl
  ·rw [List.getElem?_append_left (by rw [vls_len]; omega)]
   exact vls_at V n i j (by omega)
theorem vls_congr {V V' : Nat → Nat} {n : Nat} : ∀ j, (∀ i, i < j → V i = V' i) → vls V n j = vls V' n j
 | 0, _ => rfl
 | j + 1, h => by rw [vls, vls, vls_congr j (fun i hi => h i (by omega)), h j (by omega)]
structure Kt (w : World) (base j n : Nat) (K : Nat → Nat → Bool) (v : Value) : Prop where
 list : ∃ V : Nat → Nat, w.ownsRow base 44 1 v j (vls V n j) ∧ ∀ i, i < j → w.rowIs (V i) 4 n (fun p => .bool (K i p))
theorem Kt.start (w : World) (base n : Nat) (K : Nat → Nat → Bool) : Kt w base 0 n K (.slice none 0 0) :=
 ⟨fun _ => 0, ⟨by simp [vls], Or.inl ⟨rfl, rfl⟩⟩, fun i hi => absurd hi (Nat.not_lt_zero i)⟩
theorem owns_belowT {w w' : World} {base n s : Nat} {e : TypeId} {v : Value} {xs : List Value} (h : w.ownsRow base e s v n xs) (hb : Below w.heap.size w w') : w'.ownsRow base e s v n xs := owns3_below h hb
theorem Kt.below {w w' : World} {base j n : Nat} {K : Nat → Nat → Bool} {v : Value} (h : Kt w base j n K v) (hb : Below w.heap.size w w') : Kt w' base j n K v := by
 obtain ⟨V, h1, h2⟩ := h.list
 exact ⟨V, owns_belowT h1 hb, fun i hi => rowIs_below (h2 i hi) hb⟩
theorem Kt.own {w : World} {base j n : Nat} {K : Nat → Nat → Bool} {v : Value} (h : Kt w base j n K v) : ∀ g, v.ownBlock = some g → base ≤ g ∧ g < w.heap.size := by
 obtain ⟨V, h1, _⟩ := h.list
 exact h1.lt
theorem owns_row44 {w : World} {base j b n : Nat} {v : Value} {xs : List Value} {f : Nat → Value} (h : w.ownsRow base 44 1 v j xs) (hr : w.rowIs b 4 n f) : v.ownBlock ≠ some b := by
 rcases h.2 with ⟨rfl, _⟩ | ⟨g, cap, cur, rfl, _, hg, _⟩
 ·simp [Value.ownBlock]
 ·intro e
  simp [Value.ownBlock] at e
  subst e
  obtain ⟨c, e, _⟩ := hr
  rw [hg] at e
  injection e with e
  injection e with _ e
  exact absurd e (by decide)
theorem Kt.step {U w2 : World} {base j n b : Nat} {K : Nat → Nat → Bool} {v v' : Value} {V : Nat → Nat} (h1 : U.ownsRow base 44 1 v j (vls V n j)) (hV : ∀ i, i < j → U.rowIs (V i) 4 n (fun p => .bool (K i p)))
  (hb : U.rowIs b 4 n (fun p => .bool (K j p))) (hg : U.grownBy w2 v.ownBlock) (ho : w2.ownsRow base 44 1 v' (j + 1) (vls V n j ++ [.slice (some ⟨b, 0, none⟩) n n])) : Kt w2 base (j + 1) n K v' := by
 have keep : ∀ {c : Nat} {f : Nat → Value}, U.rowIs c 4 n f → w2.rowIs c 4 n f := fun hr => hr.of_block (hg.block _ hr.lt (fun e => owns_row44 h1 hr e.symm))
 refine ⟨fun i => if i = j then b else V i, ?_, fun i hi => ?_⟩
 ·rw [vls, if_pos rfl, vls_congr (V' := V) j (fun i hi => if_neg (by omega))]
  exact ho
 ·by_cases e : i = j
  ·subst e
   simp only [if_true]
   exact keep hb
  ·simp only [if_neg e]
   exact keep (hV i (by omega))
theorem Kt.set {w : World} {base j n gb : Nat} {K : Nat → Nat → Bool} {v x : Value} (h : Kt w base j n K v) (hgb : gb < base) (hc : w.heap[gb]? = some (.cells #[x] 100 (0, 0))) (y : Value) : Kt (w.setCell ⟨gb, 0, none⟩ y) base j n K v := by
 obtain ⟨V, h1, h2⟩ := h.list
 have hb : ∀ k, k ≠ gb → (w.setCell ⟨gb, 0, none⟩ y).heap[k]? = w.heap[k]? := fun k hk => Go.Deep.blk_setCell_other _ _ _ _ hk
 refine ⟨V, ⟨h1.1, ?_⟩, fun i hi => (h2 i hi).of_block (hb _ (fun e => ?_))⟩
 ·rcases h1.2 with h0 | ⟨g, cap, cur, e1, e2, e3, e4⟩
  ·exact Or.inl h0
  ·exact Or.inr ⟨g, cap, cur, e1, e2, (hb g (by omega)).trans e3, e4⟩
 ·obtain ⟨c, e2, _⟩ := h2 i hi
  rw [e, hc] at e2
  injection e2 with e2
  injection e2 with _ e2
  exact absurd e2 (by decide)
theorem Kt.kb {w : World} {base j n : Nat} {K : Nat → Nat → Bool} {v : Value} (h : Kt w base j n K v) : ∃ a c, v = .slice a j c ∧ Kb w a j n K := by
 obtain ⟨V, h1, h2⟩ := h.list
 rcases h1.2 with ⟨rfl, rfl⟩ | ⟨g, cap, cur, rfl, hg, hb, _⟩
 ·exact ⟨none, 0, rfl, 0, 0, fun hh => absurd hh (Nat.lt_irrefl 0), fun i hi => absurd hi (Nat.not_lt_zero i)⟩
 ·refine ⟨some ⟨g, 0, none⟩, cap, rfl, g, 0, fun _ => rfl, fun i hi => ⟨some ⟨V i, 0, none⟩, n, ?_, rowIs_rowB (h2 i hi)⟩⟩
  have c1 := h1.cells (g := g) rfl _ _ (vls_at V n i j hi)
  rw [addr_none] at c1
  exact c1
end Go.Proofs.YtmdpbaobihdgkaaGreatDoor
namespace Go.Proofs.YtmdpbaobihdgkaaGreatDoor
open Go.RowKit
theorem Tryz.info44' : (Tryz.prog.info? 44).map (fun i => (i.zero, i.size, i.bytes)) = some (some (.slice none 0 0), 1, 24) := by kernel_rfl
def pl (E : List Fml) (t : Fml) : Nat := (plc t (lf E) E.length).toNat
def trF (E : List Fml) (t : Fml) (r : Nat → Nat → Bool) (s : Nat) : Bool :=
 if t.kind = 3 ∨ t.kind = 7 then bt s (pl E t) else if t.kind = 4 then !r 0 s else if t.kind = 5 then r 0 s && r 1 s else if t.kind = 6 then r 0 s || r 1 s
 else if t.kind = 8 then r 1 s || (r 0 s && bt s (pl E t)) else if t.kind = 9 then r 1 s && (r 0 s || bt s (pl E t)) else t.kind == 1
def trv (E : List Fml) (t : Fml) : Nat → Bool := t.red (fun _ => false) (trF E)
theorem trv_eq (E : List Fml) (t : Fml) (s : Nat) : trv E t s = trF E t (t.reds (fun _ => false) (trF E)) s := congrFun (Fml.red_eq _ _ t) s
theorem trv_kid {E : List Fml} {t : Fml} {i : Nat} (h : i < t.cnt) : t.reds (fun _ => false) (trF E) i = trv E (t.kid i) := Fml.reds_at h
def InE (E : List Fml) (t : Fml) : Prop := ∀ x ∈ pts t, (x.kind = 3 ∨ x.kind = 7 ∨ x.kind = 8 ∨ x.kind = 9) → x ∈ E
theorem InE.kid {E : List Fml} {t : Fml} (h : InE E t) {i : Nat} (hi : i < t.cnt) : InE E (t.kid i) := fun x hx hk =>
 h x (by rw [pts_eq]; exact List.mem_cons_of_mem _ ((catF_mem _).2 ⟨i, hi, hx⟩)) hk
theorem pl_at {E : List Fml} {t : Fml} (h : t ∈ E) : plc t (lf E) E.length = ((pl E t : Nat) : Int) ∧ pl E t < E.length := by
 unfold pl
 rcases plc_lt (t := t) (r := lf E) E.length with q | ⟨k, hk, e, _⟩
 ·exact absurd h (plc_mem.1 q)
 ·rw [e]; simp; omega
def Tt (w0 : World) (E : List Fml) (ea : Option Addr) (ec : Nat) (t : Fml) : Prop := ∀ (a : Option Addr) (cap : Nat) (w : World), Ch w0 w E ea ec → Kds w0 t a →
 Calls Tryz.prog 18 #[.agg #[.slice ea E.length ec], .agg #[.int .i64 t.kind, .int .i64 t.num, .slice a t.cnt cap]] w fun e w' => NewB w (2 ^ E.length) (trv E t) e w'
set_option maxHeartbeats 4000000 in
theorem truths_early {w0 : World} {E : List Fml} {ea : Option Addr} {ec : Nat} {t : Fml} (hw : Wf t) (hE : t ∈ E) (hk : t.kind = 3 ∨ t.kind = 7) : Tt w0 E ea ec t := by
 intro a cap w hC hK
 obtain ⟨hp, hpl⟩ := pl_at hE
 obtain ⟨w1, hw1⟩ : ∃ y, y = (w.alloc (.cells #[.slice ea E.length ec] 53)).alloc (.cells #[.int .i64 t.kind, .int .i64 t.num, .slice a t.cnt cap] 24) := ⟨_, rfl⟩
 have hB1 : Below w.heap.size w w1 := by rw [hw1]; exact (box_below _ _).alloc (by simp) _
 have C := hid (chosen50 (tc := cap) (hC.below hB1) hK (wf_big hw) hp hpl)
 have HB := hid hB1
 have HW := hid hw1
 have HT : Hid (∀ s, trv E t s = bt s (pl E t)) := hid (fun s => by rw [trv_eq, trF, if_pos hk])
 generalize hN : E.length = N at *
 generalize hpE : pl E t = p at *
 generalize hkk : t.kind = k at *
 clear hK hw1 hB1 hp hC hw hE hpl
 rcases hk with rfl | rfl
 all_goals
  go_enter Tryz.func18, Tryz.ntmps18
  go_wp2_with fail
  rw [← HW.out]
  refine C.out.mono ?_
  rintro e z2 ⟨g, rfl, g1, g2, g3⟩
  have HG : Hid (w.heap.size ≤ g ∧ z2.rowIs g 4 (2 ^ N) (fun i => .bool (trv E t i)) ∧ Below w.heap.size w z2) := hid ⟨Nat.le_trans HB.out.size g1, g2.congr (fun i _ => by rw [HT.out i]), HB.out.trans (g3.mono HB.out.size)⟩
  clear g1 g2 g3 C
  go_wp2
  go_ret
  exact ⟨g, rfl, HG.out.1, HG.out.2.1, HG.out.2.2⟩
end Go.Proofs.YtmdpbaobihdgkaaGreatDoor
