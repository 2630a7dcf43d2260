/- Small words that all texts of this seat use.  Formulas as trees; a formula in memory; what Check tells. fits, checkFrom, Check; the document's LtlKids. -/
import Derived.Test.YtmdpbaobihdgkaaGreatDoorRows
import Derived.WalkKit
import Derived.WalkSpells
import Derived.WalkLawsBesides
import Derived.Deep.QuietTactic
import Derived.BigQuiet
import Derived.Below
import Derived.Deep.Heap
import Derived.Shelf.SlSortCmp.NoneTotal
import Derived.Test.YtmdpbaobihdgkaaGreatDoorProg
/- slices.SortFunc at formulas, as the library lays it at this program. -/
namespace Go.Proofs.YtmdpbaobihdgkaaGreatDoor
open Go.RowKit
theorem jq0 {n : Nat} : n ≤ n := Nat.le_refl n
theorem jq1 {α : Type} (l : List α) (i : Nat) (a : α) : l.toArray.setIfInBounds i a = (l.set i a).toArray := List.setIfInBounds_toArray l i a
theorem jq2 {α : Type} {x : α} {xs : List α} {a : α} : (x :: xs).set 0 a = a :: xs := List.set_cons_zero
theorem jq3 {α : Type} {x : α} {xs : List α} {n : Nat} {a : α} : (x :: xs).set (n + 1) a = x :: xs.set n a := List.set_cons_succ
theorem jq4 {α : Type} {xs : Array α} {i : Nat} {b : α} : xs[i]? = some b ↔ ∃ h : i < xs.size, xs[i] = b := Array.getElem?_eq_some_iff
theorem hid {p : Prop} (h : p) : Hid p := h
theorem snoc_all {k : Nat} {p : Nat → Prop} (h : ∀ j, j < k → p j) (hk : p k) : ∀ j, j < k + 1 → p j := by
 intro j hj
 by_cases e : j = k
 ·subst e; exact hk
 ·exact h j (by omega)
theorem ret_bool {a b : Bool} (h : a = b) : Ending.returned (.bool a) = .returned (.bool b) := by rw [h]
theorem ret_int {k : IntKind} {a b : Int} (h : a = b) : Ending.returned (.int k a) = .returned (.int k b) := by rw [h]
theorem box_below (w : World) (o : Obj) : Below w.heap.size w (w.alloc o) := (Below.refl _ _).alloc jq0 _
theorem cell_of_cells {w : World} {g i : Nat} {cur : Array Value} {t : TypeId} {z : Nat × Nat} {x : Value} (hg : w.heap[g]? = some (.cells cur t z)) (hx : cur[i]? = some x) : w.cell? ⟨g, i, none⟩ = some x := by
 simp [World.cell?, hg, hx]
theorem below_cell {B : Nat} {w w' : World} {p : Addr} {v : Value} (hb : Below B w w') (hB : w.heap.size ≤ B) (h : w.cell? p = some v) : w'.cell? p = some v := by
 rw [hb.cell (Nat.lt_of_lt_of_le (World.block_lt_of_cell? _ _ h) hB)]
 exact h
theorem below_cell' {B : Nat} {w w' : World} {p : Addr} {v : Value} (hb : Below B w w') (hB : p.block < B) (h : w.cell? p = some v) : w'.cell? p = some v := by
 rw [hb.cell hB]
 exact h
theorem cell_of_alloc {w : World} {c : Array Value} {t : TypeId} {i : Nat} {v : Value} (h : c[i]? = some v) : (w.alloc (.cells c t)).cell? ⟨w.heap.size, i, none⟩ = some v := by
 have hg : (w.alloc (.cells c t)).heap[w.heap.size]? = some (.cells c t) := Go.Deep.blk_alloc_new _ _
 exact cell_of_cells hg h
theorem below_drewN {B : Nat} {a w : World} (h : Below B a w) (n : Nat) : Below B a (w.drewN n) := ⟨h.os, h.tape, h.output, h.size, h.block⟩
structure But (b : Nat) (w w' : World) : Prop where
 os : w'.os = w.os
 tape : w'.tape = w.tape
 output : w'.output = w.output
 size : w.heap.size ≤ w'.heap.size
 block : ∀ k, k < w.heap.size → k ≠ b → w'.heap[k]? = w.heap[k]?
theorem But.refl (b : Nat) (w : World) : But b w w := ⟨rfl, rfl, rfl, Nat.le_refl _, fun _ _ _ => rfl⟩
theorem But.trans {b : Nat} {u v w : World} (h : But b u v) (k : But b v w) : But b u w :=
 ⟨k.os.trans h.os, k.tape.trans h.tape, k.output.trans h.output, Nat.le_trans h.size k.size, fun i h1 h2 => (k.block i (Nat.lt_of_lt_of_le h1 h.size) h2).trans (h.block i h1 h2)⟩
theorem But.alloc {b : Nat} {u w : World} (h : But b u w) (o : Obj) : But b u (w.alloc o) :=
 h.trans ⟨rfl, rfl, rfl, by simp, fun k hk _ => Go.Deep.blk_alloc_lt _ _ _ hk⟩
theorem But.setCell {b : Nat} {u w : World} (h : But b u w) (i : Nat) (v : Value) : But b u (w.setCell ⟨b, i, none⟩ v) :=
 h.trans ⟨rfl, rfl, rfl, by simp [World.setCell], fun k _ hk => Go.Deep.blk_setCell_other _ _ _ _ hk⟩
theorem But.of_below {b : Nat} {w w' : World} (h : Below w.heap.size w w') : But b w w' := ⟨h.os, h.tape, h.output, h.size, fun k hk _ => h.block k hk⟩
theorem But.below {b B : Nat} {w w' : World} (h : But b w w') (h1 : B ≤ b) (h2 : B ≤ w.heap.size) : Below B w w' := ⟨h.os, h.tape, h.output, h.size, fun k hk => h.block k (by omega) (by omega)⟩
theorem But.cell {b : Nat} {w w' : World} (h : But b w w') {p : Addr} {v : Value} (hp : p.block ≠ b) (hv : w.cell? p = some v) : w'.cell? p = some v := by
 rw [World.cell?_of_block (w := w) (h.block p.block (World.block_lt_of_cell? _ _ hv) hp)]
 exact hv
end Go.Proofs.YtmdpbaobihdgkaaGreatDoor
namespace Go.Proofs
open Go.Shelf
def Tryz.sortF_ren : Go.Shelf.Ren := ⟨fun | 6 => 46 | 15 => 88 | 14 => 87 | 28 => 122 | 29 => 123 | 20 => 114 | 21 => 115 | 22 => 116 | 23 => 117 | 24 => 118 | 25 => 119 | 26 => 120 | 27 => 121 | 46 => 143 | 47 => 144 | 48 => 145 | 49 => 146 | 50 => 147 | 57 => 151 | n => n, fun | 22 => 22 | 24 => 24 | 25 => 98 | 3 => 3 | 39 => 138 | 0 => 0 | 53 => 170 | 55 => 48 | 4 => 4 | 46 => 164 | 45 => 163 | 50 => 157 | 5 => 5 | 9 => 9 | 66 => 181 | 70 => 142 | 76 => 189 | 77 => 190 | n => n, fun | n => n⟩
theorem Tryz.sortF : Go.Proofs.SlLaysF0.n6 Tryz.prog Tryz.sortF_ren := {
 mixed := by kernel_rfl
 f6 := ⟨Tryz.f46.name, by decide, Tryz.func46.trans (congrArg some (by kernel_rfl))⟩
 f14 := ⟨Tryz.f87.name, by decide, Tryz.func87.trans (congrArg some (by kernel_rfl))⟩
 f15 := Tryz.func88.trans (congrArg some (by kernel_rfl))
 f20 := ⟨Tryz.f114.name, by decide, Tryz.func114.trans (congrArg some (by kernel_rfl))⟩
 f21 := ⟨Tryz.f115.name, by decide, Tryz.func115.trans (congrArg some (by kernel_rfl))⟩
 f22 := ⟨Tryz.f116.name, by decide, Tryz.func116.trans (congrArg some (by kernel_rfl))⟩
 f23 := ⟨Tryz.f117.name, by decide, Tryz.func117.trans (congrArg some (by kernel_rfl))⟩
 f24 := ⟨Tryz.f118.name, by decide, Tryz.func118.trans (congrArg some (by kernel_rfl))⟩
 f25 := ⟨Tryz.f119.name, by decide, Tryz.func119.trans (congrArg some (by kernel_rfl))⟩
 f26 := ⟨Tryz.f120.name, by decide, Tryz.func120.trans (congrArg some (by kernel_rfl))⟩
 f27 := ⟨Tryz.f121.name, by decide, Tryz.func121.trans (congrArg some (by kernel_rfl))⟩
 f28 := Tryz.func122.trans (congrArg some (by kernel_rfl))
 f29 := Tryz.func123.trans (congrArg some (by kernel_rfl))
 f46 := ⟨Tryz.f143.name, by decide, Tryz.func143.trans (congrArg some (by kernel_rfl))⟩
 f47 := Tryz.func144.trans (congrArg some (by kernel_rfl))
 f48 := Tryz.func145.trans (congrArg some (by kernel_rfl))
 f49 := ⟨Tryz.f146.name, by decide, Tryz.func146.trans (congrArg some (by kernel_rfl))⟩
 f50 := ⟨Tryz.f147.name, by decide, Tryz.func147.trans (congrArg some (by kernel_rfl))⟩
 f57 := ⟨Tryz.f151.name, by decide, Tryz.func151.trans (congrArg some (by kernel_rfl))⟩
 t0 := Tryz.underlying0
 a0 := Tryz.isAgg0
 z0 := Tryz.sizeOf0
 v0 := Tryz.zeroValue0
 t3 := Tryz.underlying3
 a3 := Tryz.isAgg3
 z3 := Tryz.sizeOf3
 v3 := Tryz.zeroValue3
 t4 := Tryz.underlying4
 a4 := Tryz.isAgg4
 z4 := Tryz.sizeOf4
 v4 := Tryz.zeroValue4
 t5 := Tryz.underlying5
 a5 := Tryz.isAgg5
 z5 := Tryz.sizeOf5
 v5 := Tryz.zeroValue5
 t9 := Tryz.underlying9
 a9 := Tryz.isAgg9
 z9 := Tryz.sizeOf9
 v9 := Tryz.zeroValue9
 t22 := Tryz.underlying22
 a22 := Tryz.isAgg22
 z22 := Tryz.sizeOf22
 v22 := Tryz.zeroValue22
 t25 := Tryz.underlying98
 a25 := Tryz.isAgg98
 z25 := Tryz.sizeOf98
 v25 := Tryz.zeroValue98
 t39 := Tryz.underlying138
 a39 := Tryz.isAgg138
 z39 := Tryz.sizeOf138
 v39 := Tryz.zeroValue138
 t45 := Tryz.underlying163
 a45 := Tryz.isAgg163
 z45 := Tryz.sizeOf163
 v45 := Tryz.zeroValue163
 t46 := Tryz.underlying164
 a46 := Tryz.isAgg164
 z46 := Tryz.sizeOf164
 v46 := Tryz.zeroValue164
 t50 := Tryz.underlying157
 a50 := Tryz.isAgg157
 z50 := Tryz.sizeOf157
 v50 := Tryz.zeroValue157
 t53 := Tryz.underlying170
 a53 := Tryz.isAgg170
 z53 := Tryz.sizeOf170
 v53 := Tryz.zeroValue170
 t55 := Tryz.underlying48
 a55 := Tryz.isAgg48
 z55 := Tryz.sizeOf48
 v55 := Tryz.zeroValue48
 t66 := Tryz.underlying181
 a66 := Tryz.isAgg181
 z66 := Tryz.sizeOf181
 v66 := Tryz.zeroValue181
 t70 := Tryz.underlying142
 a70 := Tryz.isAgg142
 z70 := Tryz.sizeOf142
 v70 := Tryz.zeroValue142
 t76 := Tryz.underlying189
 a76 := Tryz.isAgg189
 z76 := Tryz.sizeOf189
 v76 := Tryz.zeroValue189
 t77 := Tryz.underlying190
 a77 := Tryz.isAgg190
 z77 := Tryz.sizeOf190
 v77 := Tryz.zeroValue190 }
end Go.Proofs
namespace Go.Proofs.YtmdpbaobihdgkaaGreatDoor
open Go.RowKit
structure Fml where
 kind : Int
 num : Int
 cnt : Nat
 kids : Fin cnt → Fml
def Fml.leaf : Fml := ⟨0, 0, 0, fun i => i.elim0⟩
def Fml.kid (t : Fml) (i : Nat) : Fml := if h : i < t.cnt then t.kids ⟨i, h⟩ else Fml.leaf
theorem Fml.ind {P : Fml → Prop} (h : ∀ t : Fml, (∀ i, i < t.cnt → P (t.kid i)) → P t) : ∀ t, P t := by
 intro t
 induction t with
 | mk k n c kids ih =>
  refine h _ (fun i hi => ?_)
  have e : (Fml.mk k n c kids).kid i = kids ⟨i, hi⟩ := dif_pos hi
  rw [e]
  exact ih ⟨i, hi⟩
def Fml.red {α : Type} (z : α) (f : Fml → (Nat → α) → α) : Fml → α
 | ⟨k, n, c, kids⟩ => f ⟨k, n, c, kids⟩ (fun i => if h : i < c then Fml.red z f (kids ⟨i, h⟩) else z)
def Fml.reds {α : Type} (z : α) (f : Fml → (Nat → α) → α) (t : Fml) (i : Nat) : α := if i < t.cnt then (t.kid i).red z f else z
theorem Fml.red_eq {α : Type} (z : α) (f : Fml → (Nat → α) → α) (t : Fml) : t.red z f = f t (t.reds z f) := by
 cases t with
 | mk k n c kids =>
  show f _ _ = f _ _
  congr 1
  funext i
  unfold Fml.reds
  by_cases h : i < c
  ·have e : (Fml.mk k n c kids).kid i = kids ⟨i, h⟩ := dif_pos h
   rw [dif_pos h, if_pos (show i < (Fml.mk k n c kids).cnt from h), e]
  ·rw [dif_neg h, if_neg (show ¬ i < (Fml.mk k n c kids).cnt from h)]
theorem Fml.reds_at {α : Type} {z : α} {f : Fml → (Nat → α) → α} {t : Fml} {i : Nat} (h : i < t.cnt) : t.reds z f i = (t.kid i).red z f := if_pos h
def Kds (w : World) (t : Fml) : Option Addr → Prop := t.red (fun _ => True) fun t r a => ∃ b o, (0 < t.cnt → a = some ⟨b, o, none⟩) ∧ ∀ i, i < t.cnt → ∃ ai ci,
   w.cell? ⟨b, o + i * 3, none⟩ = some (.int .i64 (t.kid i).kind) ∧ w.cell? ⟨b, o + i * 3 + 1, none⟩ = some (.int .i64 (t.kid i).num) ∧
   w.cell? ⟨b, o + i * 3 + 2, none⟩ = some (.slice ai (t.kid i).cnt ci) ∧ (t.kid i).cnt ≤ 9223372036854775807 ∧ r i ai
theorem Kds.out {w : World} {t : Fml} {a : Option Addr} (h : Kds w t a) : ∃ b o, (0 < t.cnt → a = some ⟨b, o, none⟩) ∧ ∀ i, i < t.cnt → ∃ ai ci,
   w.cell? ⟨b, o + i * 3, none⟩ = some (.int .i64 (t.kid i).kind) ∧ w.cell? ⟨b, o + i * 3 + 1, none⟩ = some (.int .i64 (t.kid i).num) ∧
   w.cell? ⟨b, o + i * 3 + 2, none⟩ = some (.slice ai (t.kid i).cnt ci) ∧ (t.kid i).cnt ≤ 9223372036854775807 ∧ Kds w (t.kid i) ai := by
 unfold Kds at h
 rw [Fml.red_eq] at h
 obtain ⟨b, o, h1, h2⟩ := h
 refine ⟨b, o, h1, fun i hi => ?_⟩
 obtain ⟨ai, ci, e1, e2, e3, e4, e5⟩ := h2 i hi
 rw [Fml.reds_at hi] at e5
 exact ⟨ai, ci, e1, e2, e3, e4, e5⟩
theorem Kds.mk {w : World} {t : Fml} {a : Option Addr} (h : ∃ b o, (0 < t.cnt → a = some ⟨b, o, none⟩) ∧ ∀ i, i < t.cnt → ∃ ai ci,
   w.cell? ⟨b, o + i * 3, none⟩ = some (.int .i64 (t.kid i).kind) ∧ w.cell? ⟨b, o + i * 3 + 1, none⟩ = some (.int .i64 (t.kid i).num) ∧
   w.cell? ⟨b, o + i * 3 + 2, none⟩ = some (.slice ai (t.kid i).cnt ci) ∧ (t.kid i).cnt ≤ 9223372036854775807 ∧ Kds w (t.kid i) ai) : Kds w t a := by
 unfold Kds
 rw [Fml.red_eq]
 obtain ⟨b, o, h1, h2⟩ := h
 refine ⟨b, o, h1, fun i hi => ?_⟩
 obtain ⟨ai, ci, e1, e2, e3, e4, e5⟩ := h2 i hi
 rw [Fml.reds_at hi]
 exact ⟨ai, ci, e1, e2, e3, e4, e5⟩
theorem Kds.keep {w w' : World} (hk : ∀ p v, w.cell? p = some v → w'.cell? p = some v) : ∀ (t : Fml) (a : Option Addr), Kds w t a → Kds w' t a := by
 intro t
 induction t using Fml.ind with
 | h t ih =>
  intro a h
  obtain ⟨b, o, h1, h2⟩ := h.out
  refine Kds.mk ⟨b, o, h1, fun i hi => ?_⟩
  obtain ⟨ai, ci, e1, e2, e3, e4, e5⟩ := h2 i hi
  exact ⟨ai, ci, hk _ _ e1, hk _ _ e2, hk _ _ e3, e4, ih i hi ai e5⟩
theorem Kds.below {w w' : World} {t : Fml} {a : Option Addr} (h : Kds w t a) (hb : Below w.heap.size w w') : Kds w' t a :=
 Kds.keep (fun _ _ hv => below_cell hb jq0 hv) t a h
def ar (k : Int) : Int :=
 if k = 1 ∨ k = 2 ∨ k = 3 then 0 else if k = 4 ∨ k = 7 ∨ k = 10 ∨ k = 11 then 1 else if k = 5 ∨ k = 6 ∨ k = 8 ∨ k = 9 then 2 else -1
def fit (t : Fml) : Bool := decide ((t.cnt : Int) = ar t.kind) && (if t.kind = 3 then decide (0 ≤ t.num ∧ t.num ≤ 63) else decide (t.num = 0))
theorem fit_kind {t : Fml} (h : fit t = true) : 1 ≤ t.kind ∧ t.kind ≤ 11 ∧ (t.cnt : Int) = ar t.kind := by
 unfold fit at h
 rw [Bool.and_eq_true, decide_eq_true_eq] at h
 have h1 := h.1
 unfold ar at h1
 have : 1 ≤ t.kind ∧ t.kind ≤ 11 := by
  split at h1
  ·omega
  ·split at h1
   ·omega
   ·split at h1 <;> omega
 exact ⟨this.1, this.2, h.1⟩
def chkAll (f : Nat → Nat → Int × Nat) (m : Nat) : Nat → Int × Nat
 | 0 => (0, m)
 | i + 1 => if (chkAll f m i).1 = 0 then f i (chkAll f m i).2 else chkAll f m i
theorem chkAll_congr {f g : Nat → Nat → Int × Nat} {m : Nat} : ∀ n, (∀ i, i < n → ∀ x, f i x = g i x) → chkAll f m n = chkAll g m n
 | 0, _ => rfl
 | n + 1, h => by
  have e := chkAll_congr (f := f) (g := g) (m := m) n (fun i hi => h i (by omega))
  simp only [chkAll, e, h n (by omega)]
def chkF (t : Fml) (r : Nat → Nat → Nat → Int × Nat) (d m : Nat) : Int × Nat := if 60 < m + 1 then (2, m + 1) else if 20 < d then (5, m + 1) else if fit t = false then (1, m + 1)
   else chkAll (fun i x => r i (d + 1) x) (m + 1) t.cnt
def chk (t : Fml) : Nat → Nat → Int × Nat := t.red (fun _ m => (0, m)) chkF
theorem chk_eq (t : Fml) (d m : Nat) : chk t d m = if 60 < m + 1 then (2, m + 1) else if 20 < d then (5, m + 1) else if fit t = false then (1, m + 1)
   else chkAll (fun i x => chk (t.kid i) (d + 1) x) (m + 1) t.cnt := by
 have e : chk t d m = chkF t (t.reds (fun _ m => (0, m)) chkF) d m := congrFun (congrFun (Fml.red_eq _ _ t) d) m
 rw [e, chkF, chkAll_congr (f := fun i x => t.reds (fun _ m => (0, m)) chkF i (d + 1) x) (g := fun i x => chk (t.kid i) (d + 1) x) t.cnt (fun i hi x => congrFun (congrFun (Fml.reds_at hi) (d + 1)) x)]
theorem chkAll_stay {f : Nat → Nat → Int × Nat} {m k : Nat} (h : (chkAll f m k).1 ≠ 0) : ∀ n, k ≤ n → chkAll f m n = chkAll f m k
 | 0, hn => by
  obtain rfl : k = 0 := by omega
  rfl
 | n + 1, hn => by
  by_cases e : k = n + 1
  ·subst e; rfl
  ·have := chkAll_stay h n (by omega)
   simp only [chkAll, this, if_neg h]
theorem chkAll_ok {f : Nat → Nat → Int × Nat} {m n : Nat} (h : (chkAll f m n).1 = 0) {k : Nat} (hk : k ≤ n) : (chkAll f m k).1 = 0 := by
 by_cases e : (chkAll f m k).1 = 0
 ·exact e
 ·rw [chkAll_stay e n hk] at h
  exact h
theorem chkAll_small {f : Nat → Nat → Int × Nat} {m : Nat} (hm : m ≤ 60) : ∀ n, (∀ i, i < n → ∀ x, x ≤ 60 → (f i x).2 ≤ 61 ∧ ((f i x).1 = 0 → (f i x).2 ≤ 60)) → (chkAll f m n).2 ≤ 61 ∧ ((chkAll f m n).1 = 0 → (chkAll f m n).2 ≤ 60)
 | 0, _ => ⟨Nat.le_succ_of_le hm, fun _ => hm⟩
 | n + 1, hf => by
  have h := chkAll_small hm n (fun i hi => hf i (by omega))
  simp only [chkAll]
  by_cases e : (chkAll f m n).1 = 0
  ·rw [if_pos e]
   exact hf n (by omega) _ (h.2 e)
  ·rw [if_neg e]
   exact h
theorem chk_small : ∀ (t : Fml) (d m : Nat), m ≤ 60 → (chk t d m).2 ≤ 61 ∧ ((chk t d m).1 = 0 → (chk t d m).2 ≤ 60) := by
 intro t
 induction t using Fml.ind with
 | h t ih =>
  intro d m hm
  rw [chk_eq]
  by_cases h1 : 60 < m + 1
  ·rw [if_pos h1]
   exact ⟨by show m + 1 ≤ 61; omega, fun h => by cases h⟩
  rw [if_neg h1]
  by_cases h2 : 20 < d
  ·rw [if_pos h2]
   exact ⟨by show m + 1 ≤ 61; omega, fun h => by cases h⟩
  rw [if_neg h2]
  by_cases h3 : fit t = false
  ·rw [if_pos h3]
   exact ⟨by show m + 1 ≤ 61; omega, fun h => by cases h⟩
  rw [if_neg h3]
  exact chkAll_small (by omega) t.cnt (fun i hi x hx => ih i hi (d + 1) x hx)
def kcAt (w : World) : Prop := ∀ k : Nat, 1 ≤ k → k ≤ 11 → w.cell? ⟨1, k, none⟩ = some (.int .i64 (ar k))
theorem kcAt.below {B : Nat} {w w' : World} (h : kcAt w) (hb : Below B w w') (hB : 1 < B) : kcAt w' := fun k h1 h2 => below_cell' hb hB (h k h1 h2)
theorem kcAt.pos {w : World} (h : kcAt w) : 1 < w.heap.size := World.block_lt_of_cell? _ _ (h 1 (by omega) (by omega))
end Go.Proofs.YtmdpbaobihdgkaaGreatDoor
namespace Go.Proofs.YtmdpbaobihdgkaaGreatDoor
open Go.RowKit
theorem fit_no_cnt {t : Fml} (h : ¬ ((t.cnt : Int) = ar t.kind)) : fit t = false := by simp [fit, h]
theorem fit_atom {t : Fml} (h : (t.cnt : Int) = ar t.kind) (h3 : t.kind = 3) : fit t = decide (0 ≤ t.num ∧ t.num ≤ 63) := by simp [fit, h, h3]
theorem fit_other {t : Fml} (h : (t.cnt : Int) = ar t.kind) (h3 : t.kind ≠ 3) : fit t = decide (t.num = 0) := by simp [fit, h, h3]
theorem ar_out {k : Int} (h : k < 1 ∨ 11 < k) : ar k = -1 := by
 unfold ar
 rw [if_neg (by omega), if_neg (by omega), if_neg (by omega)]
set_option maxHeartbeats 1000000 in
theorem fits_any (t : Fml) (a : Option Addr) (cap : Nat) (w : World) (hk : kcAt w) :
  Calls Tryz.prog 124 #[.agg #[.int .i64 t.kind, .int .i64 t.num, .slice a t.cnt cap]] w fun e w' => e = .returned (.bool (fit t)) ∧ Below w.heap.size w w' := by
 have X1 : Hid (∀ x : Int, x = t.kind → ∀ y : Int, y = t.num → ∀ z : Nat, z = t.cnt → (¬ ((z : Int) = ar x) → fit t = false) ∧ ((z : Int) = ar x → x = 3 → fit t = decide (0 ≤ y ∧ y ≤ 63)) ∧ ((z : Int) = ar x → x ≠ 3 → fit t = decide (y = 0))) := by
  rintro x rfl y rfl z rfl
  exact ⟨fit_no_cnt, fit_atom, fit_other⟩
 obtain ⟨k, hk1⟩ : ∃ x, x = t.kind := ⟨_, rfl⟩
 obtain ⟨n, hn1⟩ : ∃ x, x = t.num := ⟨_, rfl⟩
 obtain ⟨c, hc1⟩ : ∃ x, x = t.cnt := ⟨_, rfl⟩
 have X : Hid ((¬ ((c : Int) = ar k) → fit t = false) ∧ ((c : Int) = ar k → k = 3 → fit t = decide (0 ≤ n ∧ n ≤ 63)) ∧ ((c : Int) = ar k → k ≠ 3 → fit t = decide (n = 0))) := X1.out k hk1 n hn1 c hc1
 rw [← hk1, ← hn1, ← hc1]
 clear hk1 hn1 hc1 X1
 have HK : Hid (kcAt w) := hk
 clear hk
 by_cases h1 : k < 1
 ·have E : Hid (fit t = false) := X.out.1 (by show ¬ ((c : Int) = ar k); rw [ar_out (Or.inl h1)]; omega)
  have d1 : decide (k < 1) = true := decide_eq_true h1
  go_enter Tryz.func124, Tryz.ntmps124
  go_wp2
  go_quiet (fail)
  go_wp2
  go_ret
  exact ⟨ret_bool E.out.symm, below_drewN (box_below _ _) _⟩
 by_cases h2 : 11 < k
 ·have E : Hid (fit t = false) := X.out.1 (by show ¬ ((c : Int) = ar k); rw [ar_out (Or.inr h2)]; omega)
  have d1 : decide (k < 1) = false := decide_eq_false h1
  have d2 : decide (11 < k) = true := decide_eq_true h2
  go_enter Tryz.func124, Tryz.ntmps124
  go_wp2
  go_quiet (fail)
  go_wp2
  go_ret
  exact ⟨ret_bool E.out.symm, below_drewN (box_below _ _) _⟩
 obtain ⟨q, rfl⟩ : ∃ q : Nat, k = q := ⟨k.toNat, by omega⟩
 have hq1 : 1 ≤ q := by omega
 have hq2 : q ≤ 11 := by omega
 have hc := HK.out q hq1 hq2
 have hb : 1 < w.heap.size := World.block_lt_of_cell? _ _ hc
 obtain ⟨r, hr⟩ : ∃ r, r = ar q := ⟨_, rfl⟩
 rw [← hr] at hc
 have HR : Hid (r = ar q) := hr
 clear hr
 have hq12 : (q : Int) < 12 := by omega
 have hq0 : (0 : Int) ≤ q := by omega
 have d1 : decide ((q : Int) < 1) = false := decide_eq_false h1
 have d2 : decide ((11 : Int) < q) = false := decide_eq_false h2
 by_cases h3 : (c : Int) = r
 ·have h3b : ((c : Int) == r) = true := beq_iff_eq.2 h3
  have HC : Hid ((c : Int) = ar q) := h3.trans HR.out
  clear h3
  by_cases h4 : (q : Int) = 3
  ·have h4b : ((q : Int) == 3) = true := beq_iff_eq.2 h4
   have E : Hid (fit t = decide (0 ≤ n ∧ n ≤ 63)) := X.out.2.1 HC.out h4
   clear h4
   by_cases h5 : 0 ≤ n
   ·by_cases h6 : n ≤ 63
    ·have E2 : Hid (fit t = true) := by rw [hid E.out]; exact hid (decide_eq_true ⟨h5, h6⟩)
     clear E
     go_enter Tryz.func124, Tryz.ntmps124
     go_wp2
     go_quiet (fail)
     go_wp2
     go_ret
     exact ⟨ret_bool E2.out.symm, below_drewN (box_below _ _) _⟩
    ·have E2 : Hid (fit t = false) := by rw [hid E.out]; exact hid (decide_eq_false (fun hh => h6 hh.2))
     clear E
     go_enter Tryz.func124, Tryz.ntmps124
     go_wp2
     go_quiet (fail)
     go_wp2
     go_ret
     exact ⟨ret_bool ((decide_eq_false (by omega)).trans E2.out.symm), below_drewN (box_below _ _) _⟩
   ·have E2 : Hid (fit t = false) := by rw [hid E.out]; exact hid (decide_eq_false (fun hh => h5 hh.1))
    clear E
    go_enter Tryz.func124, Tryz.ntmps124
    go_wp2
    go_quiet (fail)
    go_wp2
    go_ret
    exact ⟨ret_bool E2.out.symm, below_drewN (box_below _ _) _⟩
  ·have h4b : ((q : Int) == 3) = false := beq_eq_false_iff_ne.2 h4
   have E : Hid (fit t = decide (n = 0)) := X.out.2.2 HC.out h4
   clear h4
   by_cases h5 : n = 0
   ·have E2 : Hid (fit t = true) := by rw [hid E.out]; exact hid (decide_eq_true h5)
    have h5b : (n == 0) = true := beq_iff_eq.2 h5
    clear E h5
    go_enter Tryz.func124, Tryz.ntmps124
    go_wp2
    go_quiet (fail)
    go_wp2
    go_ret
    exact ⟨ret_bool E2.out.symm, below_drewN (box_below _ _) _⟩
   ·have E2 : Hid (fit t = false) := by rw [hid E.out]; exact hid (decide_eq_false h5)
    have h5b : (n == 0) = false := beq_eq_false_iff_ne.2 h5
    clear E h5
    go_enter Tryz.func124, Tryz.ntmps124
    go_wp2
    go_quiet (fail)
    go_wp2
    go_ret
    exact ⟨ret_bool E2.out.symm, below_drewN (box_below _ _) _⟩
 ·have h3b : ((c : Int) == r) = false := beq_eq_false_iff_ne.2 h3
  have E : Hid (fit t = false) := X.out.1 (fun hh => h3 (hh.trans HR.out.symm))
  clear h3
  go_enter Tryz.func124, Tryz.ntmps124
  go_wp2
  go_quiet (fail)
  go_wp2
  go_ret
  exact ⟨ret_bool E.out.symm, below_drewN (box_below _ _) _⟩
end Go.Proofs.YtmdpbaobihdgkaaGreatDoor
