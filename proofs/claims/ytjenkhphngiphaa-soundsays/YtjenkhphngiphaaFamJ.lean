/- A family of rows that the call itself makes: a block of slices, each with a row of its own; what one append to one of them does. And the lists of the graph turned round. Breadth first, as plain mathematics: what 'meet' and 'distances' do to far and order. Turn and Turned, each by its contract: both make the graph turned round, in new memory. The closure in distances, and distances itself, by their contracts. -/
import Derived.Test.YtjenkhphngiphaaGraph
import Derived.Deep.OwnRows
import Derived.Maps.AppendAt
namespace Go.Proofs.Ytjenkhphngiphaa
open Go.RowKit

theorem Try.info3 : (Try.prog.info? 3).map (fun i => (i.zero, i.size, i.bytes)) = some (some (.int .i64 0), 1, 8) := by kernel_rfl
theorem Try.info26 : (Try.prog.info? 26).map (fun i => (i.zero, i.size, i.bytes)) = some (some (.slice none 0 0), 1, 24) := by kernel_rfl

def vals (l : List Int) : List Value := l.map (Value.int .i64)
theorem vals_snoc (l : List Int) (x : Int) : vals l ++ [.int .i64 x] = vals (l ++ [x]) := by simp [vals]

/-- What a slice value that owns numbers looks like, and what it holds. -/
theorem owns_row {w : World} {base : Nat} {v : Value} {l : List Int} (h : w.ownsRow base 3 1 v l.length (vals l)) :
    ∃ a c, v = .slice a l.length c ∧ Row w a l.length (fun i => l.getD i 0) := by
  rcases h.2 with ⟨rfl, h0⟩ | ⟨g, cap, cur, rfl, hb, hg, _⟩
  · exact ⟨none, 0, by rw [h0], 0, 0, fun hh => by omega, fun i hi => by omega⟩
  · refine ⟨some ⟨g, 0, none⟩, cap, rfl, g, 0, fun _ => rfl, fun i hi => ?_⟩
    have := h.cells (g := g) rfl i (.int .i64 (l.getD i 0)) (by simp [vals, hi])
    have hadd : (⟨g, 0, none⟩ : Addr).add i = ⟨g, 0 + i, none⟩ := by unfold Addr.add; split <;> simp_all
    rw [hadd] at this
    exact this

/-- The rows T, G of them, under the block that was new when the call began. -/
structure Fam (w wr : World) (G : Nat) (T : Nat → List Int) (V : Nat → Value) : Prop where
  below : Below w.heap.size w wr
  top : wr.rowIs w.heap.size 26 G V
  own : ∀ j, j < G → wr.ownsRow (w.heap.size + 1) 3 1 (V j) (T j).length (vals (T j))
  apart : ∀ i j, i < G → j < G → i ≠ j → ∀ b, (V i).ownBlock = some b → (V j).ownBlock ≠ some b

theorem Fam.size {w wr : World} {G : Nat} {T : Nat → List Int} {V : Nat → Value} (h : Fam w wr G T V) : w.heap.size + 1 ≤ wr.heap.size := h.top.lt

theorem fam_start (w : World) (G : Nat) (T : Nat → List Int) (hT : ∀ j, j < G → T j = []) : Fam w (w.alloc (.cells (madeCells #[.slice none 0 0] G) 26)) G T (fun _ => .slice none 0 0) :=
  ⟨(Below.refl _ _).alloc (Nat.le_refl _) _, World.rowIs_made w _ G 26, fun j hj => by rw [hT j hj]; exact World.ownsRow_nil _ _ _ _, fun i j _ _ _ b hb => by simp [Value.ownBlock] at hb⟩

theorem Fam.congr {w wr : World} {G : Nat} {T U : Nat → List Int} {V : Nat → Value} (h : Fam w wr G T V) (e : ∀ j, j < G → T j = U j) : Fam w wr G U V :=
  ⟨h.below, h.top, fun j hj => by rw [← e j hj]; exact h.own j hj, h.apart⟩

theorem Fam.gr {w wr : World} {G : Nat} {T : Nat → List Int} {V : Nat → Value} (h : Fam w wr G T V) : Gr wr (some ⟨w.heap.size, 0, none⟩) G (fun j => (T j).length) (fun j i => (T j).getD i 0) := by
  refine ⟨w.heap.size, 0, fun _ => rfl, fun r hr => ?_⟩
  obtain ⟨a, c, hv, hrow⟩ := owns_row (h.own r hr)
  exact ⟨a, c, by rw [Nat.zero_add, h.top.cell hr, hv], hrow⟩

/-- 'out[j] = append(out[j], x)'. -/
theorem Fam.step {w wr w1 : World} {G : Nat} {T : Nat → List Int} {V : Nat → Value} {j : Nat} {x : Int} {v' : Value} {o : Obj} (h : Fam w wr G T V) (hj : j < G)
    (hown : w1.ownsRow (w.heap.size + 1) 3 1 v' ((T j).length + 1) (vals (T j) ++ [.int .i64 x])) (hgrow : (wr.alloc o).grownBy w1 (V j).ownBlock)
    (hloc : v'.ownBlock = (V j).ownBlock ∨ v'.ownBlock = some (wr.alloc o).heap.size) :
    w1.cell? ⟨w.heap.size, j, none⟩ = some (V j) ∧ w1.frozen? ⟨w.heap.size, j, none⟩ = false ∧
    Fam w (w1.setCell ⟨w.heap.size, j, none⟩ v') G (fun i => if i = j then T j ++ [x] else T i) (fun i => if i = j then v' else V i) := by
  have hsz := h.size
  have hVlt : ∀ k, (V j).ownBlock = some k → w.heap.size + 1 ≤ k ∧ k < wr.heap.size := (h.own j hj).lt
  have hg : wr.grownBy w1 (V j).ownBlock := (World.grownBy_alloc _ _ _).trans hgrow
  have htop : w1.rowIs w.heap.size 26 G V := h.top.of_block (hg.block _ h.top.lt (fun e => by have := hVlt _ e.symm; omega))
  refine ⟨htop.cell hj, htop.frozen j, ?_⟩
  refine ⟨?_, htop.set j v', fun i hi => ?_, fun i k hi hk hne b hb => ?_⟩
  · exact (h.below.grown hg (by omega) (fun k hk => by have := hVlt k hk; omega)).setCell (Nat.le_refl _) _
  · by_cases e : i = j
    · subst e
      simp only [if_true]
      have : (T i ++ [x]).length = (T i).length + 1 := by simp
      rw [this, ← vals_snoc]
      exact ownsRow_setCell_below hown (by show w.heap.size < _; omega) _
    · simp only [if_neg e]
      have h1 : w1.ownsRow (w.heap.size + 1) 3 1 (V i) (T i).length (vals (T i)) := (h.own i hi).kept hg (by
        cases hv : (V i).ownBlock with
        | none => exact Or.inl rfl
        | some b => exact Or.inr (fun ee => h.apart i j hi hj e b hv ee.symm))
      exact ownsRow_setCell_below h1 (by show w.heap.size < _; omega) _
  · have old : ∀ i, i < G → ∀ b, (V i).ownBlock = some b → b < wr.heap.size := fun i hi b hb => ((h.own i hi).lt b hb).2
    have hnew : (wr.alloc o).heap.size = wr.heap.size + 1 := by simp
    by_cases ei : i = j
    · have ek : k ≠ j := fun e => hne (ei.trans e.symm)
      simp only [if_pos ei, if_neg ek] at hb ⊢
      intro hb2
      rcases hloc with hl | hl
      · exact h.apart k j hk hj ek b hb2 (by rw [← hl]; exact hb)
      · rw [hl] at hb
        have := old k hk b hb2
        simp only [Option.some.injEq] at hb
        omega
    · simp only [if_neg ei] at hb ⊢
      by_cases ek : k = j
      · simp only [if_pos ek]
        intro hb2
        rcases hloc with hl | hl
        · exact h.apart i j hi hj ei b hb (by rw [← hl]; exact hb2)
        · rw [hl] at hb2
          have := old i hi b hb
          simp only [Option.some.injEq] at hb2
          omega
      · simp only [if_neg ek]
        exact h.apart i k hi hk hne b hb

theorem Fam.step' {w wr w1 : World} {G : Nat} {T : Nat → List Int} {V : Nat → Value} {j n : Nat} {x : Int} {v v' : Value} {o : Obj} (h : Fam w wr G T V) (hj : j < G) (hn : (T j).length = n) (hv : V j = v)
    (hown : w1.ownsRow (w.heap.size + 1) 3 1 v' (n + 1) (vals (T j) ++ [.int .i64 x])) (hgrow : (wr.alloc o).grownBy w1 v.ownBlock)
    (hloc : v'.ownBlock = v.ownBlock ∨ v'.ownBlock = some (wr.alloc o).heap.size) :
    (∃ a c, v' = .slice a (n + 1) c) ∧ w1.cell? ⟨w.heap.size, j, none⟩ = some v ∧ w1.frozen? ⟨w.heap.size, j, none⟩ = false ∧
    Hid (Fam w (w1.setCell ⟨w.heap.size, j, none⟩ v') G (fun i => if i = j then T j ++ [x] else T i) (fun i => if i = j then v' else V i)) := by
  subst hn
  subst hv
  refine ⟨?_, h.step hj hown hgrow hloc⟩
  rcases hown.2 with ⟨_, h0⟩ | ⟨g, cap, cur, rfl, _⟩
  · omega
  · exact ⟨_, _, rfl⟩

/-- The nodes below r from which one may go to j. -/
def tl (L : Nat → Nat) (Z : Nat → Nat → Int) (r j : Nat) : List Int := ((List.range r).filter (fun q => has (L q) (Z q) j)).map (fun q : Nat => (q : Int))

theorem tl_zero (L : Nat → Nat) (Z : Nat → Nat → Int) (j : Nat) : tl L Z 0 j = [] := rfl

theorem tl_succ (L : Nat → Nat) (Z : Nat → Nat → Int) (r j : Nat) : tl L Z (r + 1) j = tl L Z r j ++ if has (L r) (Z r) j = true then [(r : Int)] else [] := by
  unfold tl
  rw [List.range_succ, List.filter_append, List.map_append]
  by_cases h : has (L r) (Z r) j = true <;> simp [h]

theorem tl_le (L : Nat → Nat) (Z : Nat → Nat → Int) (r j : Nat) : (tl L Z r j).length ≤ r := by
  unfold tl
  rw [List.length_map]
  exact Nat.le_trans (List.length_filter_le _ _) (by simp)

theorem tl_lt (L : Nat → Nat) (Z : Nat → Nat → Int) (r j : Nat) : ∀ x ∈ tl L Z r j, x < r := by
  intro x hx
  unfold tl at hx
  obtain ⟨q, hq, rfl⟩ := List.mem_map.1 hx
  have := List.mem_range.1 (List.mem_filter.1 hq).1
  omega

/-- .. and r, if one may go to j by the first i of its list. -/
def tli (L : Nat → Nat) (Z : Nat → Nat → Int) (r i j : Nat) : List Int := tl L Z r j ++ if has i (Z r) j = true then [(r : Int)] else []

theorem has_zero (Z : Nat → Int) (x : Int) : has 0 Z x = false := has_no (fun i hi => by omega)

theorem tli_zero (L : Nat → Nat) (Z : Nat → Nat → Int) (r j : Nat) : tli L Z r 0 j = tl L Z r j := by
  unfold tli
  rw [has_zero]
  simp

theorem tli_full (L : Nat → Nat) (Z : Nat → Nat → Int) (r j : Nat) : tli L Z r (L r) j = tl L Z (r + 1) j := by rw [tl_succ]; rfl

theorem tli_le (L : Nat → Nat) (Z : Nat → Nat → Int) (r i j : Nat) : (tli L Z r i j).length ≤ r + 1 := by
  unfold tli
  have := tl_le L Z r j
  by_cases h : has i (Z r) j = true <;> simp [h] <;> omega

theorem has_succ (i : Nat) (Z : Nat → Int) (x : Int) : has (i + 1) Z x = (has i Z x || decide (Z i = x)) := by
  rw [Bool.eq_iff_iff]
  unfold has
  simp only [decide_eq_true_eq, Bool.or_eq_true]
  constructor
  · rintro ⟨k, hk, e⟩
    by_cases hki : k = i
    · subst hki; exact Or.inr e
    · exact Or.inl ⟨k, by omega, e⟩
  · rintro (⟨k, hk, e⟩ | e)
    · exact ⟨k, by omega, e⟩
    · exact ⟨i, by omega, e⟩

/-- The row's last number is r just if r is there already. -/
theorem tli_last (L : Nat → Nat) (Z : Nat → Nat → Int) (r i j : Nat) :
    decide (0 < (tli L Z r i j).length ∧ (tli L Z r i j).getD ((tli L Z r i j).length - 1) 0 = (r : Int)) = has i (Z r) j := by
  by_cases h : has i (Z r) j = true
  · rw [h, decide_eq_true_eq]
    unfold tli
    rw [if_pos h]
    refine ⟨by simp, ?_⟩
    simp
  · have h' : has i (Z r) j = false := by simpa using h
    rw [h', decide_eq_false_iff_not]
    unfold tli
    rw [if_neg h, List.append_nil]
    rintro ⟨h0, h1⟩
    have hm : (tl L Z r j).getD ((tl L Z r j).length - 1) 0 ∈ tl L Z r j := by
      rw [List.getD_eq_getElem?_getD, List.getElem?_eq_getElem (by omega)]
      exact List.getElem_mem _
    have := tl_lt L Z r j _ hm
    omega

theorem tli_hit (L : Nat → Nat) (Z : Nat → Nat → Int) (r i t : Nat) (hz : Z r i = t) (h : has i (Z r) t = true) (j : Nat) : tli L Z r i j = tli L Z r (i + 1) j := by
  unfold tli
  rw [has_succ]
  by_cases e : t = j
  · subst e; simp [h]
  · have : decide (Z r i = (j : Int)) = false := by rw [decide_eq_false_iff_not]; omega
    rw [this, Bool.or_false]

theorem tli_new (L : Nat → Nat) (Z : Nat → Nat → Int) (r i t : Nat) (hz : Z r i = t) (h : has i (Z r) t = false) (j : Nat) :
    (if j = t then tli L Z r i t ++ [(r : Int)] else tli L Z r i j) = tli L Z r (i + 1) j := by
  unfold tli
  rw [has_succ]
  by_cases e : j = t
  · subst e; simp [h, hz]
  · have : decide (Z r i = (j : Int)) = false := by rw [decide_eq_false_iff_not]; omega
    rw [this, Bool.or_false, if_neg e]

end Go.Proofs.Ytjenkhphngiphaa

namespace Go.Proofs.Ytjenkhphngiphaa

def upd (F : Nat → Int) (x : Nat) (d : Int) : Nat → Int := fun i => if i = x then d else F i

theorem upd_at (F : Nat → Int) (x : Nat) (d : Int) : upd F x d x = d := by simp [upd]
theorem upd_ne (F : Nat → Int) (x i : Nat) (d : Int) (h : i ≠ x) : upd F x d i = F i := by simp [upd, h]

/-- How many of the first G are not met yet. -/
def cnt (F : Nat → Int) : Nat → Nat
  | 0 => 0
  | n + 1 => cnt F n + if F n = -1 then 1 else 0

theorem cnt_upd_past (F : Nat → Int) (x : Nat) (d : Int) : ∀ n, n ≤ x → cnt (upd F x d) n = cnt F n
  | 0, _ => rfl
  | n + 1, h => by
    simp only [cnt]
    rw [cnt_upd_past F x d n (by omega), upd_ne F x n d (by omega)]

theorem cnt_upd (F : Nat → Int) (x : Nat) (d : Int) (hx : F x = -1) (hd : d ≠ -1) : ∀ n, x < n → cnt (upd F x d) n + 1 = cnt F n
  | n + 1, h => by
    simp only [cnt]
    by_cases e : n = x
    · subst e
      rw [cnt_upd_past F n d n (Nat.le_refl _), upd_at, if_neg hd, if_pos hx]
    · have := cnt_upd F x d hx hd n (by omega)
      rw [upd_ne F x n d e]
      omega

def mstep (d : Int) (x : Nat) (s : (Nat → Int) × List Int) : (Nat → Int) × List Int := if s.1 x = -1 then (upd s.1 x d, s.2 ++ [(x : Int)]) else s

def meetTo (d : Int) (Z : Nat → Int) : Nat → (Nat → Int) × List Int → (Nat → Int) × List Int
  | 0, s => s
  | k + 1, s => mstep d (Z k).toNat (meetTo d Z k s)

theorem meet_hit {d : Int} {Z : Nat → Int} {k t : Nat} {s : (Nat → Int) × List Int} {F : Nat → Int} {O : List Int} (h : (F, O) = meetTo d Z k s) (hz : Z k = t) (hF : F t = -1) : (upd F t d, O ++ [(t : Int)]) = meetTo d Z (k + 1) s := by
  show _ = mstep d (Z k).toNat (meetTo d Z k s)
  rw [← h, hz, Int.toNat_natCast]
  simp [mstep, hF]

theorem meet_miss {d : Int} {Z : Nat → Int} {k t : Nat} {s : (Nat → Int) × List Int} {F : Nat → Int} {O : List Int} (h : (F, O) = meetTo d Z k s) (hz : Z k = t) (hF : F t ≠ -1) : (F, O) = meetTo d Z (k + 1) s := by
  show _ = mstep d (Z k).toNat (meetTo d Z k s)
  rw [← h, hz, Int.toNat_natCast]
  simp [mstep, hF]

/-- One comes to x by k goings from a node of P. -/
def Wk (P : Nat → Prop) (E : Nat → Nat → Prop) : Nat → Nat → Prop
  | 0, x => P x
  | k + 1, x => ∃ y, Wk P E k y ∧ E y x

structure Inv (G : Nat) (P : Nat → Prop) (E : Nat → Nat → Prop) (d : Int) (F : Nat → Int) (O : List Int) : Prop where
  cntE : O.length + cnt F G = G
  inO : ∀ y ∈ O, ∃ x : Nat, x < G ∧ y = (x : Int)
  memF : ∀ x, x < G → ((x : Int) ∈ O ↔ F x ≠ -1)
  rng : ∀ x, x < G → F x ≠ -1 → 0 ≤ F x ∧ F x ≤ d
  srt : O.Pairwise (fun a b => F a.toNat ≤ F b.toNat)
  snd : ∀ x, x < G → F x ≠ -1 → Wk P E (F x).toNat x
  lvl : ∀ j, j < O.length → F (O.getD j 0).toNat ≤ j

theorem Inv.len {G : Nat} {P : Nat → Prop} {E : Nat → Nat → Prop} {d : Int} {F : Nat → Int} {O : List Int} (h : Inv G P E d F O) : O.length ≤ G := by have := h.cntE; omega

theorem Inv.mono {G : Nat} {P : Nat → Prop} {E : Nat → Nat → Prop} {d d' : Int} {F : Nat → Int} {O : List Int} (h : Inv G P E d F O) (hd : d ≤ d') : Inv G P E d' F O :=
  ⟨h.cntE, h.inO, h.memF, fun x hx hF => by have := h.rng x hx hF; omega, h.srt, h.snd, h.lvl⟩

theorem getD_mem {O : List Int} {i : Nat} (h : i < O.length) : O.getD i 0 ∈ O := by
  rw [List.getD_eq_getElem?_getD, List.getElem?_eq_getElem h]
  exact List.getElem_mem _

theorem getD_append_left {O r : List Int} {i : Nat} (h : i < O.length) : (O ++ r).getD i 0 = O.getD i 0 := by
  simp [List.getD_eq_getElem?_getD, List.getElem?_append_left h]

theorem Inv.add {G : Nat} {P : Nat → Prop} {E : Nat → Nat → Prop} {d : Int} {F : Nat → Int} {O : List Int} (h : Inv G P E d F O) {x : Nat} (hx : x < G) (hd : 0 ≤ d) (hdl : d ≤ O.length) (hF : F x = -1) (hw : Wk P E d.toNat x) : Inv G P E d (upd F x d) (O ++ [(x : Int)]) := by
  have hO : (x : Int) ∉ O := fun hh => (h.memF x hx).1 hh hF
  have old : ∀ y ∈ O, upd F x d y.toNat = F y.toNat := fun y hy => by
    obtain ⟨z, _, rfl⟩ := h.inO y hy
    exact upd_ne _ _ _ _ (fun e => hO (by simp at e; rw [← e]; exact hy))
  refine ⟨?_, ?_, ?_, ?_, ?_, ?_, ?_⟩
  · have h1 := h.cntE
    have h2 := cnt_upd F x d hF (by omega) G hx
    simp
    omega
  · intro y hy
    rcases List.mem_append.1 hy with hy | hy
    · exact h.inO y hy
    · exact ⟨x, hx, by simpa using hy⟩
  · intro y hy
    by_cases e : y = x
    · subst e
      rw [upd_at]
      exact ⟨fun _ => by omega, fun _ => by simp⟩
    · rw [upd_ne _ _ _ _ e, ← h.memF y hy]
      simp
      omega
  · intro y hy
    by_cases e : y = x
    · subst e
      rw [upd_at]
      exact fun _ => ⟨hd, Int.le_refl _⟩
    · rw [upd_ne _ _ _ _ e]
      exact h.rng y hy
  · rw [List.pairwise_append]
    refine ⟨?_, by simp, ?_⟩
    · exact List.Pairwise.imp_of_mem (fun {a b} ha hb hab => by rw [old a ha, old b hb]; exact hab) h.srt
    · intro a ha b hb
      have hb' : b = (x : Int) := by simpa using hb
      subst hb'
      rw [old a ha, Int.toNat_natCast, upd_at]
      obtain ⟨z, hz, rfl⟩ := h.inO a ha
      rw [Int.toNat_natCast]
      exact (h.rng z hz ((h.memF z hz).1 ha)).2
  · intro y hy
    by_cases e : y = x
    · subst e
      rw [upd_at]
      exact fun _ => hw
    · rw [upd_ne _ _ _ _ e]
      exact h.snd y hy
  · intro j hj
    by_cases e : j < O.length
    · rw [getD_append_left e, old _ (getD_mem e)]
      exact h.lvl j e
    · have ej : j = O.length := by simp at hj; omega
      subst ej
      have : (O ++ [(x : Int)]).getD O.length 0 = x := by simp
      rw [this, Int.toNat_natCast, upd_at]
      exact hdl

/-- What is met stays as it is; order is only added to. -/
structure Ext (G : Nat) (F F' : Nat → Int) (O O' : List Int) : Prop where
  keep : ∀ x, F x ≠ -1 → F' x = F x
  ord : ∃ r, O' = O ++ r

theorem Ext.refl (G : Nat) (F : Nat → Int) (O : List Int) : Ext G F F O O := ⟨fun _ _ => rfl, [], by simp⟩

theorem Ext.add {G : Nat} {F F' : Nat → Int} {O O' : List Int} (h : Ext G F F' O O') {x : Nat} {d : Int} (hF : F' x = -1) : Ext G F (upd F' x d) O (O' ++ [(x : Int)]) := by
  refine ⟨fun y hy => ?_, ?_⟩
  · have := h.keep y hy
    rw [upd_ne _ _ _ _ (fun e => by subst e; rw [hF] at this; exact hy this.symm)]
    exact this
  · obtain ⟨r, rfl⟩ := h.ord
    exact ⟨r ++ [(x : Int)], by simp⟩

/-- All that meetTo does, of a list of nodes to which one comes by d goings. -/
theorem meetTo_all {G : Nat} {P : Nat → Prop} {E : Nat → Nat → Prop} {d : Int} {F0 : Nat → Int} {O0 : List Int} (h : Inv G P E d F0 O0) (hd : 0 ≤ d) (hdl : d ≤ O0.length) (Z : Nat → Int) :
    ∀ k, (∀ i, i < k → 0 ≤ Z i ∧ Z i < G ∧ Wk P E d.toNat (Z i).toNat) → ∀ F O, (F, O) = meetTo d Z k (F0, O0) → Inv G P E d F O ∧ Ext G F0 F O0 O ∧ ∀ i, i < k → F (Z i).toNat ≠ -1
  | 0, _, F, O, e => by
    simp only [meetTo, Prod.mk.injEq] at e
    obtain ⟨rfl, rfl⟩ := e
    exact ⟨h, Ext.refl _ _ _, fun i hi => by omega⟩
  | k + 1, hz, F, O, e => by
    obtain ⟨I, X, M⟩ := meetTo_all h hd hdl Z k (fun i hi => hz i (by omega)) (meetTo d Z k (F0, O0)).1 (meetTo d Z k (F0, O0)).2 rfl
    obtain ⟨z0, z1, zw⟩ := hz k (by omega)
    have e' : (F, O) = mstep d (Z k).toNat (meetTo d Z k (F0, O0)) := e
    by_cases hF : (meetTo d Z k (F0, O0)).1 (Z k).toNat = -1
    · rw [mstep, if_pos hF] at e'
      simp only [Prod.mk.injEq] at e'
      obtain ⟨rfl, rfl⟩ := e'
      refine ⟨I.add (by omega) hd (by obtain ⟨r, hr⟩ := X.ord; rw [hr]; simp; omega) hF zw, X.add hF, fun i hi => ?_⟩
      by_cases ei : (Z i).toNat = (Z k).toNat
      · rw [ei, upd_at]; omega
      · rw [upd_ne _ _ _ _ ei]
        by_cases hik : i = k
        · subst hik; exact absurd rfl ei
        · exact M i (by omega)
    · rw [mstep, if_neg hF] at e'
      rw [← e'] at I X M hF
      refine ⟨I, X, fun i hi => ?_⟩
      by_cases hik : i = k
      · subst hik; exact hF
      · exact M i (by omega)

/-- What holds at the head of the loop over order, at its i-th node. -/
structure Head (G : Nat) (P : Nat → Prop) (E : Nat → Nat → Prop) (i : Nat) (F : Nat → Int) (O : List Int) : Prop where
  inv : ∃ D : Int, Inv G P E D F O ∧ 0 ≤ D ∧ D ≤ i ∧ (i < O.length → D ≤ F (O.getD i 0).toNat + 1)
  le : i ≤ O.length
  src : ∀ x, P x → x < G → F x = 0
  shut : ∀ j, j < i → ∀ y, E (O.getD j 0).toNat y → y < G → F y ≠ -1 ∧ F y ≤ F (O.getD j 0).toNat + 1

/-- At the node x, at index i. -/
theorem Head.node {G : Nat} {P : Nat → Prop} {E : Nat → Nat → Prop} {i : Nat} {F : Nat → Int} {O : List Int} (h : Head G P E i F O) (hi : i < O.length) :
    ∃ x : Nat, x < G ∧ O.getD i 0 = (x : Int) ∧ 0 ≤ F x ∧ F x ≤ i ∧ Inv G P E (F x + 1) F O ∧ Wk P E (F x).toNat x := by
  obtain ⟨D, hI, h0, hD, hDi⟩ := h.inv
  obtain ⟨x, hx, e⟩ := hI.inO _ (getD_mem hi)
  have hm : (x : Int) ∈ O := by rw [← e]; exact getD_mem hi
  have hF := (hI.memF x hx).1 hm
  have hr := hI.rng x hx hF
  have hDi := hDi hi
  rw [e, Int.toNat_natCast] at hDi
  exact ⟨x, hx, e, hr.1, by omega, hI.mono hDi, hI.snd x hx hF⟩

theorem Head.next {G : Nat} {P : Nat → Prop} {E : Nat → Nat → Prop} {i : Nat} {F F' : Nat → Int} {O O' : List Int} {x n : Nat} {Z : Nat → Int} (h : Head G P E i F O) (hi : i < O.length) (hx : x < G) (e : O.getD i 0 = (x : Int))
    (hZ : ∀ k, k < n → 0 ≤ Z k ∧ Z k < G ∧ E x (Z k).toNat) (hE : ∀ y, E x y → y < G → ∃ k, k < n ∧ (Z k).toNat = y) (hs : (F', O') = meetTo (F x + 1) Z n (F, O)) : Head G P E (i + 1) F' O' := by
  obtain ⟨x', hx', e', h0, hle, hI, hw⟩ := h.node hi
  have hxx : x' = x := by rw [e'] at e; omega
  subst hxx
  have hwk : ∀ k, k < n → 0 ≤ Z k ∧ Z k < G ∧ Wk P E (F x' + 1).toNat (Z k).toNat := fun k hk => by
    obtain ⟨z0, z1, z2⟩ := hZ k hk
    refine ⟨z0, z1, ?_⟩
    have : (F x' + 1).toNat = (F x').toNat + 1 := by omega
    rw [this]
    exact ⟨x', hw, z2⟩
  obtain ⟨I, X, M⟩ := meetTo_all hI (by omega) (by omega) Z n hwk F' O' hs
  obtain ⟨r, hr⟩ := X.ord
  have hlen : O.length ≤ O'.length := by rw [hr]; simp
  have hget : ∀ j, j < O.length → O'.getD j 0 = O.getD j 0 := fun j hj => by rw [hr]; exact getD_append_left hj
  have hmet : ∀ j, j < O.length → F' (O.getD j 0).toNat = F (O.getD j 0).toNat := fun j hj => by
    obtain ⟨z, hz, ez⟩ := hI.inO _ (getD_mem hj)
    rw [ez, Int.toNat_natCast]
    refine X.keep z ((hI.memF z hz).1 ?_)
    rw [← ez]
    exact getD_mem hj
  have hFx : F' x' = F x' := X.keep x' (by omega)
  refine ⟨⟨F x' + 1, I, by omega, by omega, fun hlt => ?_⟩, by omega, fun y hy hyG => ?_, fun j hj y hy hyG => ?_⟩
  · have hp := List.pairwise_iff_getElem.1 I.srt i (i + 1) (by omega) hlt (by omega)
    have e1 : O'[i] = O'.getD i 0 := by rw [List.getD_eq_getElem?_getD, List.getElem?_eq_getElem (by omega)]; rfl
    have e2 : O'[i + 1] = O'.getD (i + 1) 0 := by rw [List.getD_eq_getElem?_getD, List.getElem?_eq_getElem hlt]; rfl
    rw [e1, e2, hget i hi, e', Int.toNat_natCast, hFx] at hp
    omega
  · rw [X.keep y (by rw [h.src y hy hyG]; omega)]
    exact h.src y hy hyG
  · by_cases ej : j = i
    · subst ej
      rw [hget j hi, e', Int.toNat_natCast] at hy ⊢
      obtain ⟨k, hk, rfl⟩ := hE y hy hyG
      have hne := M k hk
      exact ⟨hne, by rw [hFx]; exact (I.rng _ hyG hne).2⟩
    · have hjl : j < O.length := by omega
      rw [hget j hjl] at hy ⊢
      obtain ⟨h1, h2⟩ := h.shut j (by omega) y hy hyG
      rw [X.keep y h1, hmet j hjl]
      exact ⟨h1, h2⟩

/-- What distances answers. -/
structure Dist (G : Nat) (P : Nat → Prop) (E : Nat → Nat → Prop) (F : Nat → Int) (O : List Int) : Prop where
  len : O.length ≤ G
  inO : ∀ y ∈ O, ∃ x : Nat, x < G ∧ y = (x : Int)
  memF : ∀ x, x < G → ((x : Int) ∈ O ↔ F x ≠ -1)
  rng : ∀ x, x < G → F x ≠ -1 → 0 ≤ F x ∧ F x < G
  srt : O.Pairwise (fun a b => F a.toNat ≤ F b.toNat)
  snd : ∀ x, x < G → F x ≠ -1 → Wk P E (F x).toNat x
  all : ∀ k x, x < G → Wk P E k x → F x ≠ -1 ∧ F x ≤ k

theorem Head.all {G : Nat} {P : Nat → Prop} {E : Nat → Nat → Prop} {i : Nat} {F : Nat → Int} {O : List Int} (h : Head G P E i F O) (hi : ¬ i < O.length) (hE : ∀ x y, E x y → x < G) :
    ∀ k x, x < G → Wk P E k x → F x ≠ -1 ∧ F x ≤ k
  | 0, x, hx, hw => by rw [h.src x hw hx]; omega
  | k + 1, x, hx, hw => by
    obtain ⟨y, hwy, hyx⟩ := hw
    have hy := hE y x hyx
    obtain ⟨h1, h2⟩ := Head.all h hi hE k y hy hwy
    obtain ⟨D, hI, _⟩ := h.inv
    obtain ⟨j, hj, ej⟩ := List.getElem_of_mem ((hI.memF y hy).2 h1)
    have ej' : O.getD j 0 = (y : Int) := by rw [List.getD_eq_getElem?_getD, List.getElem?_eq_getElem hj, ej]; rfl
    have := h.shut j (by omega) x (by rw [ej', Int.toNat_natCast]; exact hyx) hx
    rw [ej', Int.toNat_natCast] at this
    exact ⟨this.1, by omega⟩

theorem Head.dist {G : Nat} {P : Nat → Prop} {E : Nat → Nat → Prop} {i : Nat} {F : Nat → Int} {O : List Int} (h : Head G P E i F O) (hi : ¬ i < O.length) (hE : ∀ x y, E x y → x < G) : Dist G P E F O := by
  obtain ⟨D, hI, h0, hD, _⟩ := h.inv
  have hl := hI.len
  have hle := h.le
  exact ⟨hl, hI.inO, hI.memF, fun x hx hF => ⟨(hI.rng x hx hF).1, by
    obtain ⟨j, hj, ej⟩ := List.getElem_of_mem ((hI.memF x hx).2 hF)
    have ej' : O.getD j 0 = (x : Int) := by rw [List.getD_eq_getElem?_getD, List.getElem?_eq_getElem hj, ej]; rfl
    have := hI.lvl j hj
    rw [ej', Int.toNat_natCast] at this
    omega⟩, hI.srt, hI.snd, h.all hi hE⟩

theorem Head.len {G : Nat} {P : Nat → Prop} {E : Nat → Nat → Prop} {i : Nat} {F : Nat → Int} {O : List Int} (h : Head G P E i F O) : O.length ≤ G := by
  obtain ⟨D, hI, _⟩ := h.inv
  exact hI.len

theorem inv_start (G : Nat) (P : Nat → Prop) (E : Nat → Nat → Prop) : Inv G P E 0 (fun _ => -1) [] := by
  have h0 : ∀ m, cnt (fun _ => -1) m = m := by
    intro m
    induction m with
    | zero => rfl
    | succ m ih => simp [cnt, ih]
  exact ⟨by simp [h0], by simp, fun x _ => by simp, fun x _ hh => absurd rfl hh, List.Pairwise.nil, fun x _ hh => absurd rfl hh, fun j hj => by cases hj⟩

theorem Head.start {G : Nat} {P : Nat → Prop} {E : Nat → Nat → Prop} {F : Nat → Int} {O : List Int} {n : Nat} {Z : Nat → Int} (hZ : ∀ k, k < n → 0 ≤ Z k ∧ Z k < G ∧ P (Z k).toNat) (hP : ∀ x, P x → x < G → ∃ k, k < n ∧ (Z k).toNat = x)
    (hs : (F, O) = meetTo 0 Z n (fun _ => -1, [])) : Head G P E 0 F O := by
  have I0 : Inv G P E 0 (fun _ => -1) [] := inv_start G P E
  obtain ⟨I, X, M⟩ := meetTo_all I0 (Int.le_refl _) (Int.le_refl _) Z n (fun k hk => ⟨(hZ k hk).1, (hZ k hk).2.1, (hZ k hk).2.2⟩) F O hs
  refine ⟨⟨0, I, Int.le_refl _, Int.le_refl _, fun hi => ?_⟩, Nat.zero_le _, fun x hx hxG => ?_, fun j hj => by omega⟩
  · obtain ⟨x, hx, e⟩ := I.inO _ (getD_mem hi)
    rw [e, Int.toNat_natCast]
    have := I.rng x hx ((I.memF x hx).1 (by rw [← e]; exact getD_mem hi))
    omega
  · obtain ⟨k, hk, rfl⟩ := hP x hx hxG
    have := I.rng _ hxG (M k hk)
    omega

end Go.Proofs.Ytjenkhphngiphaa

namespace Go.Proofs.Ytjenkhphngiphaa
open Go.RowKit

theorem check_ok (ga : Option Addr) (G gc : Nat) (L : Nat → Nat) (Z : Nat → Nat → Int) (w : World) (hL : ∀ r, r < G → L r ≤ 140737488355328) (h : Gr w ga G L Z) (h0 : errG G L Z = 0) :
    Calls Try.prog 67 #[.slice ga G gc] w fun e w' => e = .returned (.int .i64 0) ∧ w' = w := by
  have := check_any ga G gc L Z w hL h
  rwa [h0] at this

theorem errG_zero {G : Nat} {L : Nat → Nat} {Z : Nat → Nat → Int} (h : errG G L Z = 0) : G ≤ 20000 ∧ ∀ r, r < G → ∀ i, i < L r → 0 ≤ Z r i ∧ Z r i < G := by
  unfold errG at h
  by_cases h1 : 20000 < G
  · rw [if_pos h1] at h; cases h
  · rw [if_neg h1] at h
    by_cases h2 : okG G L Z = true
    · exact ⟨by omega, okG_all h2⟩
    · rw [if_neg h2] at h; cases h

/-- The rows while Turned makes them: those ahead of bb whole, row bb as far as a. -/
def tm (L : Nat → Nat) (Z : Nat → Nat → Int) (G bb a j : Nat) : List Int := if j < bb then tl L Z G j else if j = bb then tl L Z a j else []

theorem tm_start (L : Nat → Nat) (Z : Nat → Nat → Int) (G j : Nat) : tm L Z G 0 0 j = [] := by
  unfold tm
  rw [if_neg (Nat.not_lt_zero _)]
  by_cases h : j = 0
  · rw [if_pos h]; rfl
  · rw [if_neg h]

theorem tm_end (L : Nat → Nat) (Z : Nat → Nat → Int) (G j : Nat) (h : j < G) : tm L Z G G 0 j = tl L Z G j := by unfold tm; rw [if_pos h]

theorem tm_next (L : Nat → Nat) (Z : Nat → Nat → Int) (G bb j : Nat) : tm L Z G bb G j = tm L Z G (bb + 1) 0 j := by
  unfold tm
  by_cases h : j < bb
  · rw [if_pos h, if_pos (by omega)]
  · rw [if_neg h]
    by_cases e : j = bb
    · rw [if_pos e, if_pos (by omega)]
    · rw [if_neg e, if_neg (by omega)]
      by_cases e2 : j = bb + 1
      · rw [if_pos e2]; rfl
      · rw [if_neg e2]

theorem tm_at (L : Nat → Nat) (Z : Nat → Nat → Int) (G bb a : Nat) : tm L Z G bb a bb = tl L Z a bb := by unfold tm; rw [if_neg (Nat.lt_irrefl _), if_pos rfl]

theorem tm_skip (L : Nat → Nat) (Z : Nat → Nat → Int) (G bb a : Nat) (h : has (L a) (Z a) bb = false) (j : Nat) : tm L Z G bb a j = tm L Z G bb (a + 1) j := by
  unfold tm
  by_cases e : j = bb
  · subst e; simp [tl_succ, h]
  · simp [e]

theorem tm_new (L : Nat → Nat) (Z : Nat → Nat → Int) (G bb a : Nat) (h : has (L a) (Z a) bb = true) (j : Nat) :
    (if j = bb then tm L Z G bb a bb ++ [(a : Int)] else tm L Z G bb a j) = tm L Z G bb (a + 1) j := by
  unfold tm
  by_cases e : j = bb
  · subst e; simp [tl_succ, h]
  · simp [e]

end Go.Proofs.Ytjenkhphngiphaa

namespace Go.Proofs.Ytjenkhphngiphaa
open Go.RowKit

/-- The memory of distances: far's variable, order's variable, far's row, and order's own row. -/
structure Bf (w wr : World) (G : Nat) (F : Nat → Int) (O : List Int) (v : Value) : Prop where
  below : Below w.heap.size w wr
  farv : wr.rowIs w.heap.size 26 1 (fun _ => .slice (some ⟨w.heap.size + 1 + 1, 0, none⟩) G G)
  ordv : wr.rowIs (w.heap.size + 1) 26 1 (fun _ => v)
  far : wr.rowIs (w.heap.size + 1 + 1) 3 G (fun i => .int .i64 (F i))
  own : wr.ownsRow (w.heap.size + 1 + 1 + 1) 3 1 v O.length (vals O)

theorem Bf.setFar {w wr : World} {G : Nat} {F : Nat → Int} {O : List Int} {v : Value} (h : Bf w wr G F O v) (x : Nat) (d : Int) : Bf w (wr.setCell ⟨w.heap.size + 1 + 1, x, none⟩ (.int .i64 d)) G (upd F x d) O v := by
  refine ⟨h.below.setCell (by show w.heap.size ≤ w.heap.size + 1 + 1; omega) _, h.farv.setOther (by show w.heap.size ≠ w.heap.size + 1 + 1; omega) _, h.ordv.setOther (by show w.heap.size + 1 ≠ w.heap.size + 1 + 1; omega) _,
    (h.far.set x _).congr (fun i _ => ?_), ownsRow_setCell_below h.own (by show w.heap.size + 1 + 1 < w.heap.size + 1 + 1 + 1; omega) _⟩
  by_cases e : i = x <;> simp [upd, e]

/-- 'order = append(order, node)'. -/
theorem Bf.app {w wr w1 : World} {G : Nat} {F : Nat → Int} {O : List Int} {v v' : Value} {o : Obj} {x : Int} {n : Nat} (h : Bf w wr G F O v) (hn : O.length = n)
    (hown : w1.ownsRow (w.heap.size + 1 + 1 + 1) 3 1 v' (n + 1) (vals O ++ [.int .i64 x])) (hgrow : (wr.alloc o).grownBy w1 v.ownBlock) :
    (∃ a c, v' = .slice a (n + 1) c) ∧ w1.cell? ⟨w.heap.size + 1, 0, none⟩ = some v ∧ w1.frozen? ⟨w.heap.size + 1, 0, none⟩ = false ∧ Hid (Bf w (w1.setCell ⟨w.heap.size + 1, 0, none⟩ v') G F (O ++ [x]) v') := by
  subst hn
  have hVlt : ∀ k, v.ownBlock = some k → w.heap.size + 1 + 1 + 1 ≤ k ∧ k < wr.heap.size := h.own.lt
  have hg : wr.grownBy w1 v.ownBlock := (World.grownBy_alloc _ _ _).trans hgrow
  have hlt := h.far.lt
  have keep : ∀ b, b < w.heap.size + 1 + 1 + 1 → w1.heap[b]? = wr.heap[b]? := fun b hb => hg.block b (by omega) (fun e => by have := hVlt _ e.symm; omega)
  have o1 := h.ordv.of_block (keep _ (by omega))
  refine ⟨?_, o1.cell (by omega), o1.frozen 0, ?_⟩
  · rcases hown.2 with ⟨_, h0⟩ | ⟨g, cap, cur, rfl, _⟩
    · omega
    · exact ⟨_, _, rfl⟩
  · refine ⟨(h.below.grown hg (by omega) (fun k hk => by have := hVlt k hk; omega)).setCell (by show w.heap.size ≤ w.heap.size + 1; omega) _, (h.farv.of_block (keep _ (by omega))).setOther (by show w.heap.size ≠ w.heap.size + 1; omega) _,
      (o1.set 0 v').congr (fun i hi => ?_), (h.far.of_block (keep _ (by omega))).setOther (by show w.heap.size + 1 + 1 ≠ w.heap.size + 1; omega) _, ?_⟩
    · have : i = 0 := by omega
      simp [this]
    · have e : (O ++ [x]).length = O.length + 1 := by simp
      rw [e, ← vals_snoc]
      exact ownsRow_setCell_below hown (by show w.heap.size + 1 < w.heap.size + 1 + 1 + 1; omega) _

theorem cell_one_new' (w : World) (x : Value) (t : TypeId) (b : Nat) (hb : b = w.heap.size) : ∀ j u, [x][j]? = some u → (w.alloc (.cells #[x] t)).cell? ((⟨b, 0, none⟩ : Addr).add j) = some u := by
  subst hb
  exact cell_one_new w x t

set_option maxHeartbeats 1000000 in
theorem meet_any (w wr0 : World) (G : Nat) (F0 : Nat → Int) (O0 : List Int) (v0 : Value) (a : Option Addr) (n c : Nat) (Z : Nat → Int) (d : Int) (hG : G ≤ 20000) (hn : n ≤ 140737488355328) (hrow : Row w a n Z)
    (hin : ∀ i, i < n → 0 ≤ Z i ∧ Z i < G) (hlen : ∀ k, k ≤ n → ∀ F O, (F, O) = meetTo d Z k (F0, O0) → O.length ≤ G) (hB : Bf w wr0 G F0 O0 v0) :
    Calls Try.prog 69 #[.slice a n c, .int .i64 d, .pointer (some ⟨w.heap.size, 0, none⟩), .pointer (some ⟨w.heap.size + 1, 0, none⟩)] wr0 fun e w' => e = .returned (.tuple #[]) ∧ ∃ F O v, (F, O) = meetTo d Z n (F0, O0) ∧ Bf w w' G F O v := by
  obtain ⟨b, o, ha, hc⟩ := hrow
  have HC : Hid (∀ i, i < n → w.cell? ⟨b, o + i, none⟩ = some (.int .i64 (Z i))) := hc
  have HN : Hid (∀ i, i < n → 0 ≤ Z i ∧ Z i < G) := hin
  have HLN : Hid (∀ k, k ≤ n → ∀ F O, (F, O) = meetTo d Z k (F0, O0) → O.length ≤ G) := hlen
  have HB0 : Hid (Bf w wr0 G F0 O0 v0) := hB
  clear hc hin hlen hB
  obtain ⟨i0, hi, hz0, hz1, hz2⟩ := info_parts Try.info3
  have HI : Hid (Try.prog.info? 3 = some i0 ∧ i0.zero = some (.int .i64 0) ∧ i0.size = 1 ∧ i0.bytes = 8) := ⟨hi, hz0, hz1, hz2⟩
  clear hi hz0 hz1 hz2
  go_enter Try.func69, Try.ntmps69
  go_wp2
  go_loopw [10] (fun i wr => ∃ k : Nat, k ≤ n ∧ i = .int .i64 k ∧ Hid (∃ F O v, (F, O) = meetTo d Z k (F0, O0) ∧ Bf w wr G F O v)) (fun i _ => n - (intOf i).toNat)
  case atStart => exact ⟨0, Nat.zero_le _, rfl, hid ⟨F0, O0, v0, rfl, HB0.out⟩⟩
  case round =>
    obtain ⟨k, hk, rfl, hX⟩ := hrel
    obtain ⟨F, O, v, hs, hB⟩ := hX.out
    have HS : Hid ((F, O) = meetTo d Z k (F0, O0)) := hs
    have HB : Hid (Bf w wr G F O v) := hB
    clear hX hs hB HB0
    by_cases hlt : k < n
    · obtain rfl := ha (by omega)
      obtain ⟨t, ht⟩ : ∃ t : Nat, Z k = t := ⟨(Z k).toNat, by have := HN.out k hlt; omega⟩
      have htG : t < G := by have := HN.out k hlt; omega
      have htz : (t : Int) < G := by omega
      have hcell : wr.cell? ⟨b, o + k, none⟩ = some (.int .i64 t) := by
        rw [HB.out.below.cell (p := ⟨b, o + k, none⟩) (World.block_lt_of_cell? _ _ (HC.out k hlt)), HC.out k hlt, ht]
      have HT : Hid (Z k = t) := ht
      clear ht
      have hfv := HB.out.farv.cell (i := 0) (by omega)
      have hov := HB.out.ordv.cell (i := 0) (by omega)
      have hft := HB.out.far.cell htG
      have hff := HB.out.far.frozen t
      have hsize := HB.out.far.lt
      by_cases h1 : F t = -1
      · have hb : (F t == -1) = true := beq_iff_eq.2 h1
        have H1 : Hid (F t = -1) := h1
        have hB2 := HB.out.setFar t d
        have HB2 : Hid (Bf w (wr.setCell ⟨w.heap.size + 1 + 1, t, none⟩ (.int .i64 d)) G (upd F t d) O v) := hB2
        have hov2 := hB2.ordv.cell (i := 0) (by omega)
        have hol := HLN.out k hk F O HS.out
        obtain ⟨a2, c2, hv, _⟩ := owns_row hB2.own
        have hown := hB2.own
        rw [hv] at hown hov2
        have HV : Hid (v = .slice a2 O.length c2) := hv
        have HO : Hid ((wr.setCell ⟨w.heap.size + 1 + 1, t, none⟩ (.int .i64 d)).ownsRow (w.heap.size + 1 + 1 + 1) 3 1 (.slice a2 O.length c2) O.length (vals O)) := hown
        clear h1 hB2 hv hown hov
        generalize hnn : O.length = m at *
        have HM : Hid (O.length = m) := hnn
        clear hnn
        go_wp2_with (at_builtin; refine wpList_append_own_at _ rfl _ _ 26 rfl (w.heap.size + 1 + 1 + 1) 3 i0 (.int .i64 0) 1 8 Try.underlying26 HI.out.1 HI.out.2.1 HI.out.2.2.1 HI.out.2.2.2 rfl (by decide) _ _ _ rfl (HO.out.alloc _) ⟨wr.heap.size, 0, none⟩ 1 1 [.int .i64 t] rfl rfl (cell_one_new' _ _ _ _ (by simp)) (ints_oneCell .i64 [(t : Int)]) (by unfold maxLen; omega) (by omega) (by simp; omega) ?_; intro v' w2 hown' hgrow hnil hloc; obtain ⟨⟨a3, c3, rfl⟩, g1, g2, G3⟩ := Bf.app HB2.out HM.out hown' (by rw [HV.out]; exact hgrow); rw [HV.out] at g1; clear hown' hgrow hnil hloc)
        go_roundw
        case rel => exact ⟨k + 1, by omega, by go_num, hid ⟨_, _, _, meet_hit HS.out HT.out H1.out, G3.out⟩⟩
        case measure => simp [intOf]; omega
      · have hb : (F t == -1) = false := beq_eq_false_iff_ne.2 h1
        have H1 : Hid (F t ≠ -1) := h1
        clear h1
        go_wp2
        go_roundw
        case rel => exact ⟨k + 1, by omega, by go_num, hid ⟨F, O, v, meet_miss HS.out HT.out H1.out, HB.out⟩⟩
        case measure => simp [intOf]; omega
    · go_wp2
      obtain rfl : k = n := by omega
      go_end0
      exact ⟨rfl, F, O, v, HS.out, HB.out⟩

end Go.Proofs.Ytjenkhphngiphaa
