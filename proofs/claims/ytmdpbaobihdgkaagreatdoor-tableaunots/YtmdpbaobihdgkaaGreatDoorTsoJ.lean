/-  Words that go round: their letters, their least form, when two are alike. Rows of letters and of bools in memory; a word; what Check says of one. Check of a word, the program's and the document's; the letter at a place, likewise. The leaves: At, next, the closures. Lists of letters: append, Grow, Concat, Clone.  -/
import Derived.Test.YtmdpbaobihdgkaaGreatDoorTclJ
import Derived.Laws.AppendOwnNone
import Derived.Lib.AppendZeros
import Derived.Laws.BitsLemmas
/- tableau: the atoms, sorted by their numbers (slices.SortFunc). -/
/- tableau: two lists of parts, one behind the other (slices.Concat). -/
namespace Go.Proofs.YtmdpbaobihdgkaaGreatDoor
open Go.RowKit Go.Shelf Go.Lib Go.Sort
set_option maxHeartbeats 1000000 in
theorem nan89 (x : Int) (w : World) : Calls Tryz.prog 89 #[.int .i64 x] w fun e w' => e = .returned (.bool false) ∧ w' = w := by
 go_enter Tryz.func89, Tryz.ntmps89
 go_wp2
 go_ret
 exact ⟨by simp, rfl⟩
set_option maxHeartbeats 1000000 in
theorem cmp48 (x y : Int) (w : World) : Calls Tryz.prog 48 #[.int .i64 x, .int .i64 y] w fun e w' => e = .returned (.int .i64 (Lib.compareInt x y)) ∧ w' = w := by
 have C := fun z w => nan89 z w
 by_cases h1 : x < y
 ·have HR : Hid (Lib.compareInt x y = -1) := by unfold Lib.compareInt; rw [if_pos h1]; exact hid rfl
  rw [HR.out]
  go_enter Tryz.func48, Tryz.ntmps48
  go_wp2_with (go_at_call 89; refine (C _ _).mono ?_; rintro e w' ⟨rfl, rfl⟩)
  go_ret
  exact ⟨rfl, rfl⟩
 ·by_cases h2 : y < x
  ·have HR : Hid (Lib.compareInt x y = 1) := by unfold Lib.compareInt; rw [if_neg h1, if_pos h2]; exact hid rfl
   rw [HR.out]
   go_enter Tryz.func48, Tryz.ntmps48
   go_wp2_with (go_at_call 89; refine (C _ _).mono ?_; rintro e w' ⟨rfl, rfl⟩)
   go_ret
   exact ⟨rfl, rfl⟩
  ·have HR : Hid (Lib.compareInt x y = 0) := by unfold Lib.compareInt; rw [if_neg h1, if_neg h2]; exact hid rfl
   rw [HR.out]
   go_enter Tryz.func48, Tryz.ntmps48
   go_wp2_with (go_at_call 89; refine (C _ _).mono ?_; rintro e w' ⟨rfl, rfl⟩)
   go_ret
   exact ⟨rfl, rfl⟩
set_option maxHeartbeats 1000000 in
theorem cl47 (k1 n1 k2 n2 : Int) (a1 a2 : Option Addr) (c1 d1 c2 d2 : Nat) (W : World) :
  Calls Tryz.prog 47 #[.agg #[.int .i64 k1, .int .i64 n1, .slice a1 c1 d1], .agg #[.int .i64 k2, .int .i64 n2, .slice a2 c2 d2]] W fun e w' => e = .returned (.int .i64 (Lib.compareInt n1 n2)) ∧ ∃ q os', w' = grow (W.drewN q) os' := by
 have hcon := fun W' => cmp48 n1 n2 W'
 generalize Lib.compareInt n1 n2 = r at hcon ⊢
 go_enter Tryz.func47, Tryz.ntmps47
 go_wp2_with (go_at_call 48; refine (hcon _).mono ?_; rintro e w' ⟨rfl, rfl⟩)
 go_ret
 exact ⟨rfl, 0, _, by rw [alloc_eq_grow, alloc_eq_grow, grow_grow]; rfl⟩
theorem srtK_gb {α : Type} [Inhabited α] {enc : α → List Value} {k : Nat} {w : World} {g off n : Nat} {os : Array Obj} (d : Array α) : w.grownBy (sortWorldK enc k w g off n d os) (some g) := by
 refine ⟨rfl, rfl, rfl, by simp [sortWorldK, putRowK, putRow, mapBlock, Sort.ahead, grow], fun j hj hne => ?_⟩
 unfold sortWorldK
 rw [Go.Sort.heap_grow_old _ _ (by simpa [putRowK, putRow, mapBlock, Sort.ahead] using hj)]
 have : g ≠ j := fun e => hne (by rw [e])
 simp [putRowK, putRow, mapBlock, Sort.ahead, Array.getElem?_modify, this]
def srtN (l : List Fml) : List Fml := l.mergeSort (fun x y => !decide (y.num < x.num))
def Ro (w0 w : World) (a : Option Addr) (l : List Fml) : Prop := ∃ b o, (0 < l.length → a = some ⟨b, o, none⟩) ∧ ∀ i, i < l.length → ∃ ai ci,
 w.cell? ⟨b, o + i * 3, none⟩ = some (.int .i64 (lf l i).kind) ∧ w.cell? ⟨b, o + i * 3 + 1, none⟩ = some (.int .i64 (lf l i).num) ∧ w.cell? ⟨b, o + i * 3 + 2, none⟩ = some (.slice ai (lf l i).cnt ci) ∧ (lf l i).cnt ≤ 9223372036854775807 ∧ Kds w0 (lf l i) ai
theorem ltNum (f : Nat → Int) {m : Nat} (x y : Fin (m + 1)) : ltOf (fun x y : Fin (m + 1) => Lib.compareInt (f x.1) (f y.1)) x y = decide (f x.1 < f y.1) := by
 unfold ltOf Lib.compareInt
 by_cases h1 : f x.1 < f y.1
 ·simp [h1]
 ·by_cases h2 : f y.1 < f x.1 <;> simp [h1, h2]
theorem swoNum (f : Nat → Int) {m : Nat} : SWO (ltOf (fun x y : Fin (m + 1) => Lib.compareInt (f x.1) (f y.1))) where
 irrefl x := by rw [ltNum]; simp
 trans x y z h1 h2 := by rw [ltNum] at *; simp at *; omega
 ntrans x y z h1 h2 := by rw [ltNum] at *; simp at *; omega
theorem lf_map {m : Nat} (l : List Fml) (h : l.length = m + 1) : (List.finRange (m + 1)).map (fun p => lf l p.1) = l := by
 refine List.ext_getElem (by simp [h]) (fun i h1 h2 => ?_)
 simp [lf, List.getD_eq_getElem?_getD, List.getElem?_eq_getElem h2]
def en3 (r : Nat → Fml) (A : Nat → Option Addr) (C : Nat → Nat) (i : Nat) : List Value := [.int .i64 (r i).kind, .int .i64 (r i).num, .slice (A i) (r i).cnt (C i)]
set_option maxHeartbeats 1000000 in
theorem sort46 {w0 w : World} {base : Nat} {l : List Fml} {v : Value} (h : El w0 w base l.length (lf l) v) (hw : Below w0.heap.size w0 w) (hl : l.length ≤ 999) (hn : (l.map Fml.num).Nodup) :
  Calls Tryz.prog 46 #[v, .func (.func 47) #[] #[]] w fun e w' => e = .returned (.tuple #[]) ∧ Hid (w.grownBy w' v.ownBlock ∧ ∃ a c, v = .slice a l.length c ∧ Ro w0 w' a (srtN l)) := by
 obtain ⟨A, C, h1, h2⟩ := h.list
 by_cases h0 : l.length = 0
 ·have hl0 : l = [] := List.length_eq_zero_iff.1 h0
  subst hl0
  obtain ⟨a, c, rfl⟩ := h.is
  have hS := AnyF.slices_SortFunc_none (P := Tryz.prog) (ρ := Tryz.sortF_ren) Tryz.sortF a c (.func (.func 47) #[] #[]) w
  change Calls Tryz.prog 46 _ _ _ at hS
  refine hS.mono ?_
  rintro e w' ⟨rfl, rfl⟩
  exact ⟨rfl, hid ⟨⟨rfl, rfl, rfl, Nat.le_refl _, fun _ _ _ => rfl⟩, a, c, rfl, 0, 0, fun hh => absurd hh (by simp [srtN]), fun i hi => absurd hi (by simp [srtN])⟩⟩
 ·obtain ⟨m, hm⟩ : ∃ m, l.length = m + 1 := ⟨l.length - 1, by omega⟩
  rcases h1.2 with ⟨rfl, e⟩ | ⟨g, cap, cur, rfl, hg, hb, _⟩
  ·exact absurd e h0
  ·have hbg : g < w.heap.size := (jq4.1 hb).1
   obtain ⟨enc, henc⟩ : ∃ enc : Fin (m + 1) → List Value, enc = fun p => en3 (lf l) A C p.1 := ⟨_, rfl⟩
   obtain ⟨d, hd⟩ : ∃ d : Array (Fin (m + 1)), d = (List.finRange (m + 1)).toArray := ⟨_, rfl⟩
   have hds : d.size = m + 1 := by rw [hd]; simp
   have hdi : ∀ i (hi : i < m + 1), d[i]! = ⟨i, hi⟩ := fun i hi => by rw [hd]; simp [hi]
   have hk3 : ∀ x, (enc x).length = 3 := fun x => by rw [henc]; rfl
   have hH : HoldsK enc 3 w g 0 d := fun t ht => by
    rw [size_flatK, hds] at ht
    have hq : t / 3 < m + 1 := by omega
    rw [get_flatK _ _ _ _ (by rw [hds]; exact ht), hdi _ hq]
    refine ⟨?_, by unfold World.frozen?; rw [hb]; simp⟩
    obtain ⟨e1, e2, e3⟩ := kvs_at (lf l) A C (t / 3) l.length (by omega)
    have c1 := h1.cells (g := g) rfl _ _ e1
    have c2 := h1.cells (g := g) rfl _ _ e2
    have c3 := h1.cells (g := g) rfl _ _ e3
    rw [addr_none] at c1 c2 c3
    have hr : t % 3 = 0 ∨ t % 3 = 1 ∨ t % 3 = 2 := by omega
    rcases hr with q | q | q
    ·rw [q, show (0 + t : Nat) = 0 + t / 3 * 3 by omega, c1, henc]; rfl
    ·rw [q, show (0 + t : Nat) = 0 + (t / 3 * 3 + 1) by omega, c2, henc]; rfl
    ·rw [q, show (0 + t : Nat) = 0 + (t / 3 * 3 + 2) by omega, c3, henc]; rfl
   have eg : ∀ args w, (callFunc 47 args).run Tryz.prog w = .ok (.enter 47 args) w := enters_of Tryz.func47 (by kernel_rfl) rfl
   have hnum : ∀ i j, i < m + 1 → j < m + 1 → (lf l i).num = (lf l j).num → i = j := fun i j hi hj e => by
    have hi' : i < l.length := by omega
    have hj' : j < l.length := by omega
    have q := List.pairwise_iff_getElem.1 hn
    have x : ∀ k (hk : k < l.length), (l.map Fml.num)[k]'(by simpa using hk) = (lf l k).num := fun k hk => by simp [lf, List.getD_eq_getElem?_getD, List.getElem?_eq_getElem hk]
    rcases Nat.lt_trichotomy i j with c | c | c
    ·exact absurd ((x i hi').trans (e.trans (x j hj').symm)) (q i j _ _ c)
    ·exact c
    ·exact absurd ((x j hj').trans (e.symm.trans (x i hi').symm)) (q j i _ _ c)
   have hS := AnyQ.slices_SortFunc_total Tryz.sortF 3 Tryz.isAgg24 Tryz.sizeOf24 enc hk3 (fun x v hv => by rw [henc] at hv; simp [en3] at hv; rcases hv with rfl | rfl | rfl <;> rfl)
    (fun x y => Lib.compareInt (lf l x.1).num (lf l y.1).num) (swoNum (fun i => (lf l i).num)) 47 #[] g 0 cap d w eg (fun q os dk _ x y => by rw [henc]; exact cl47 _ _ _ _ _ _ _ _ _ _ _) hH hbg (by omega)
    (fun x y a1 a2 => Fin.ext (hnum x.1 y.1 x.2 y.2 (by rw [ltNum (fun i => (lf l i).num)] at a1 a2; simp at a1 a2; omega)))
   change Calls Tryz.prog 46 _ _ _ at hS
   rw [show d.size = l.length from by omega] at hS
   refine hS.mono ?_
   rintro e w' ⟨rfl, n, os, rfl⟩
   refine ⟨rfl, hid ⟨srtK_gb _, _, _, rfl, g, 0, fun _ => rfl, ?_⟩⟩
   obtain ⟨M, hM⟩ : ∃ M, M = (d.toList.mergeSort fun x y => !(ltOf (fun x y : Fin (m + 1) => Lib.compareInt (lf l x.1).num (lf l y.1).num)) y x) := ⟨_, rfl⟩
   rw [← hM]
   have hMs : M.length = m + 1 := by rw [hM, hd]; simp
   have hMl : M.map (fun p => lf l p.1) = srtN l := by
    rw [hM, hd]
    have e : ∀ L : List Fml, L = (List.finRange (m + 1)).map (fun p => lf l p.1) → ((List.finRange (m + 1)).mergeSort fun x y => !(ltOf (fun x y : Fin (m + 1) => Lib.compareInt (lf l x.1).num (lf l y.1).num)) y x).map (fun p => lf l p.1) = srtN L := fun L hL => by
     rw [hL, srtN, List.map_mergeSort]
     intro a _ b _
     rw [ltNum (fun i => (lf l i).num)]
    exact e l (lf_map l hm).symm
   have hH' := holdsK_sortWorldK enc 3 w g 0 n d M.toArray os hbg hH (by simp [hMs, hds])
   intro i hi
   have hi' : i < m + 1 := by rw [← hMl, List.length_map, hMs] at hi; exact hi
   have hMi : i < M.length := by omega
   have e0 : lf (srtN l) i = lf l (M[i]).1 := by
    rw [← hMl]
    simp [lf, List.getD_eq_getElem?_getD, List.getElem?_eq_getElem hMi]
   have e1 : (M.toArray)[i]! = M[i] := by simp [hMi]
   have c1 := (hH'.cell (i := i) (c := 0) (by simpa using hMi) (by omega)).1
   have c2 := (hH'.cell (i := i) (c := 1) (by simpa using hMi) (by omega)).1
   have c3 := (hH'.cell (i := i) (c := 2) (by simpa using hMi) (by omega)).1
   rw [e1, congrFun henc M[i]] at c1 c2 c3
   have hx := h2 (M[i]).1 (by have := (M[i]).2; omega)
   rw [e0]
   exact ⟨A (M[i]).1, C (M[i]).1, c1, c2, c3, hx.2, hx.1⟩
end Go.Proofs.YtmdpbaobihdgkaaGreatDoor
namespace Go.Proofs.YtmdpbaobihdgkaaGreatDoor
open Go.RowKit
def ltr (s m : Nat) (S L : Nat → Int) (i : Nat) : Int := if i < s then S i else L ((i - s) % m)
end Go.Proofs.YtmdpbaobihdgkaaGreatDoor
namespace Go.Proofs.YtmdpbaobihdgkaaGreatDoor
open Go.RowKit
def RowU (w : World) (a : Option Addr) (n : Nat) (Z : Nat → Int) : Prop :=
 ∃ b o, (0 < n → a = some ⟨b, o, none⟩) ∧ ∀ i, i < n → w.cell? ⟨b, o + i, none⟩ = some (.int .u64 (Z i))
def RowB (w : World) (a : Option Addr) (n : Nat) (F : Nat → Bool) : Prop :=
 ∃ b o, (0 < n → a = some ⟨b, o, none⟩) ∧ ∀ i, i < n → w.cell? ⟨b, o + i, none⟩ = some (.bool (F i))
theorem RowU.below {w w' : World} {a : Option Addr} {n : Nat} {Z : Nat → Int} (h : RowU w a n Z) (hb : Below w.heap.size w w') : RowU w' a n Z := by
 obtain ⟨b, o, h1, h2⟩ := h
 exact ⟨b, o, h1, fun i hi => below_cell hb jq0 (h2 i hi)⟩
theorem RowB.below {w w' : World} {a : Option Addr} {n : Nat} {F : Nat → Bool} (h : RowB w a n F) (hb : Below w.heap.size w w') : RowB w' a n F := by
 obtain ⟨b, o, h1, h2⟩ := h
 exact ⟨b, o, h1, fun i hi => below_cell hb jq0 (h2 i hi)⟩
structure Wd (w : World) (sa : Option Addr) (s : Nat) (la : Option Addr) (m : Nat) (S L : Nat → Int) : Prop where
 stem : RowU w sa s S
 loop : RowU w la m L
 s47 : s ≤ 140737488355328
 m47 : m ≤ 140737488355328
 su : ∀ i, i < s → 0 ≤ S i ∧ S i < 18446744073709551616
 lu : ∀ i, i < m → 0 ≤ L i ∧ L i < 18446744073709551616
theorem Wd.below {w w' : World} {sa : Option Addr} {s : Nat} {la : Option Addr} {m : Nat} {S L : Nat → Int} (h : Wd w sa s la m S L) (hb : Below w.heap.size w w') : Wd w' sa s la m S L :=
 ⟨h.stem.below hb, h.loop.below hb, h.s47, h.m47, h.su, h.lu⟩
def wchk (s m : Nat) : Int := if 60 < s + m then 2 else if m = 0 then 1 else 0
theorem wchk_ok {s m : Nat} (h : wchk s m = 0) : s + m ≤ 60 ∧ 0 < m := by
 unfold wchk at h
 split at h
 ·cases h
 ·split at h
  ·cases h
  ·omega
def atm (s m : Nat) (S L : Nat → Int) (i : Nat) (n : Int) : Bool := decide (ltr s m S L i / 2 ^ n.toNat % 2 = 1)
end Go.Proofs.YtmdpbaobihdgkaaGreatDoor
namespace Go.Proofs.YtmdpbaobihdgkaaGreatDoor
open Go.RowKit
set_option maxHeartbeats 400000 in
theorem wcheck_any (sa : Option Addr) (s sc : Nat) (la : Option Addr) (m lc : Nat) (w : World) (hs : s ≤ 140737488355328) (hm : m ≤ 140737488355328) :
  Calls Tryz.prog 11 #[.agg #[.slice sa s sc, .slice la m lc]] w fun e w' => e = .returned (.int .i64 (wchk s m)) ∧ Below w.heap.size w w' := by
 by_cases h1 : 60 < s + m
 ·have E : Hid (wchk s m = 2) := if_pos h1
  have d1 : decide ((60 : Int) < (s : Int) + m) = true := decide_eq_true (by omega)
  go_enter Tryz.func11, Tryz.ntmps11
  go_wp2
  go_ret
  exact ⟨ret_int E.out.symm, box_below _ _⟩
 by_cases h2 : m = 0
 ·have E : Hid (wchk s m = 1) := (if_neg h1).trans (if_pos h2)
  subst h2
  go_enter Tryz.func11, Tryz.ntmps11
  go_wp2
  go_ret
  exact ⟨ret_int E.out.symm, box_below _ _⟩
 ·have E : Hid (wchk s m = 0) := (if_neg h1).trans (if_neg h2)
  have h2b : ((m : Int) == 0) = false := beq_eq_false_iff_ne.2 (by omega)
  go_enter Tryz.func11, Tryz.ntmps11
  go_wp2
  go_ret
  exact ⟨ret_int E.out.symm, box_below _ _⟩
end Go.Proofs.YtmdpbaobihdgkaaGreatDoor
namespace Go.Proofs.YtmdpbaobihdgkaaGreatDoor
open Go.RowKit
def nx (n again p : Nat) : Nat := if p + 1 < n then p + 1 else again
structure Kb (w : World) (a : Option Addr) (c n : Nat) (K : Nat → Nat → Bool) : Prop where
 row : ∃ b o, (0 < c → a = some ⟨b, o, none⟩) ∧ ∀ i, i < c → ∃ ai ci, w.cell? ⟨b, o + i, none⟩ = some (.slice ai n ci) ∧ RowB w ai n (K i)
theorem Kb.below {w w' : World} {a : Option Addr} {c n : Nat} {K : Nat → Nat → Bool} (h : Kb w a c n K) (hb : Below w.heap.size w w') : Kb w' a c n K := by
 obtain ⟨b, o, h1, h2⟩ := h.row
 refine ⟨b, o, h1, fun i hi => ?_⟩
 obtain ⟨ai, ci, g1, g2⟩ := h2 i hi
 exact ⟨ai, ci, below_cell hb jq0 g1, g2.below hb⟩
theorem Kb.at {w : World} {a : Option Addr} {c n : Nat} {K : Nat → Nat → Bool} (h : Kb w a c n K) (hc : 0 < c) : ∃ b o, a = some ⟨b, o, none⟩ ∧ ∀ i, i < c → ∃ ci ai, w.cell? ⟨b, o + i, none⟩ = some (.slice ai n ci) ∧ ∀ p, p < n → ∃ bi oi, ai = some ⟨bi, oi, none⟩ ∧ w.cell? ⟨bi, oi + p, none⟩ = some (.bool (K i p)) := by
 obtain ⟨b, o, h1, h2⟩ := h.row
 refine ⟨b, o, h1 hc, fun i hi => ?_⟩
 obtain ⟨ai, ci, g1, bi, oi, g2, g3⟩ := h2 i hi
 exact ⟨ci, ai, g1, fun p hp => ⟨bi, oi, g2 (by omega), g3 p hp⟩⟩
end Go.Proofs.YtmdpbaobihdgkaaGreatDoor
namespace Go.Proofs.YtmdpbaobihdgkaaGreatDoor
open Go.RowKit
theorem Tryz.info48 : (Tryz.prog.info? 48).map (fun i => (i.zero, i.size, i.bytes)) = some (some (.int .u64 0), 1, 8) := by kernel_rfl
theorem run_append_none {P : Program} (w : World) (t ty e : TypeId) (i : TypeInfo) (ht : P.underlying t = some (.slice e)) (hi : P.info? e = some i) (a : Option Addr) (n cap : Nat) (h : n ≤ cap) :
  (Builtin.append_ #[t, t] ty #[.slice a n cap, .slice none 0 0]).run P w = .ok (.slice a n cap) w := by
 cases a with
 | none => simp [Builtin.append_, run_underlying ht, sizeOf, typeInfo, hi, Builtin.lenOf, Builtin.firstCells, h]
 | some x => simp [Builtin.append_, run_underlying ht, sizeOf, typeInfo, hi, Builtin.lenOf, Builtin.firstCells, h, storeCells]
end Go.Proofs.YtmdpbaobihdgkaaGreatDoor
namespace Go.Proofs.YtmdpbaobihdgkaaGreatDoor
open Go.RowKit
theorem Ro.fn {w0 w : World} {a : Option Addr} {l : List Fml} (h : Ro w0 w a l) : ∃ b o, (0 < l.length → a = some ⟨b, o, none⟩) ∧ ∃ (A : Nat → Option Addr) (C : Nat → Nat), ∀ i, i < l.length →
  w.cell? ⟨b, o + i * 3, none⟩ = some (.int .i64 (lf l i).kind) ∧ w.cell? ⟨b, o + i * 3 + 1, none⟩ = some (.int .i64 (lf l i).num) ∧ w.cell? ⟨b, o + i * 3 + 2, none⟩ = some (.slice (A i) (lf l i).cnt (C i)) ∧ (lf l i).cnt ≤ 9223372036854775807 ∧ Kds w0 (lf l i) (A i) := by
 obtain ⟨b, o, h1, h2⟩ := h
 have h3 : ∀ i, ∃ p : Option Addr × Nat, i < l.length → w.cell? ⟨b, o + i * 3, none⟩ = some (.int .i64 (lf l i).kind) ∧ w.cell? ⟨b, o + i * 3 + 1, none⟩ = some (.int .i64 (lf l i).num) ∧ w.cell? ⟨b, o + i * 3 + 2, none⟩ = some (.slice p.1 (lf l i).cnt p.2) ∧ (lf l i).cnt ≤ 9223372036854775807 ∧ Kds w0 (lf l i) p.1 := fun i => by
  by_cases hi : i < l.length
  ·obtain ⟨ai, ci, q⟩ := h2 i hi
   exact ⟨(ai, ci), fun _ => q⟩
  ·exact ⟨(none, 0), fun q => absurd q hi⟩
 obtain ⟨f, hf⟩ := Classical.axiomOfChoice h3
 exact ⟨b, o, h1, fun i => (f i).1, fun i => (f i).2, hf⟩
theorem Ro.below {w0 w w' : World} {a : Option Addr} {l : List Fml} (h : Ro w0 w a l) (hb : Below w.heap.size w w') : Ro w0 w' a l := by
 obtain ⟨b, o, h1, h2⟩ := h
 refine ⟨b, o, h1, fun i hi => ?_⟩
 obtain ⟨ai, ci, e1, e2, e3, e4⟩ := h2 i hi
 exact ⟨ai, ci, below_cell hb jq0 e1, below_cell hb jq0 e2, below_cell hb jq0 e3, e4⟩
theorem kvs_one {r : Nat → Fml} {A : Nat → Option Addr} {C : Nat → Nat} : ∀ n, ∀ u ∈ kvs r A C n, u.oneCell' = true
 | 0, u, h => by cases h
 | n + 1, u, h => by
  rw [kvs, List.mem_append] at h
  rcases h with h | h
  ·exact kvs_one n u h
  ·simp at h
   rcases h with rfl | rfl | rfl <;> rfl
def catG {α : Type} (n : Nat) (f g : Nat → α) (i : Nat) : α := if i < n then f i else g (i - n)
theorem kvs_cat {r r2 : Nat → Fml} {A A2 : Nat → Option Addr} {C C2 : Nat → Nat} {n : Nat} : ∀ m, kvs (catG n r r2) (catG n A A2) (catG n C C2) (n + m) = kvs r A C n ++ kvs r2 A2 C2 m
 | 0 => by
  rw [Nat.add_zero, kvs, List.append_nil]
  have : ∀ j, j ≤ n → kvs (catG n r r2) (catG n A A2) (catG n C C2) j = kvs r A C j := by
   intro j
   induction j with
   | zero => intro _; rfl
   | succ j ih =>
    intro hj
    have hlt : j < n := by omega
    simp only [kvs, ih (by omega), catG, if_pos hlt]
  exact this n jq0
 | m + 1 => by
  rw [← Nat.add_assoc, kvs, kvs_cat m, kvs, List.append_assoc]
  have h1 : ¬ n + m < n := by omega
  simp only [catG, if_neg h1, Nat.add_sub_cancel_left]
theorem lf_cat (l1 l2 : List Fml) (i : Nat) (_h : i < l1.length + l2.length) : lf (l1 ++ l2) i = catG l1.length (lf l1) (lf l2) i := by
 unfold lf catG
 simp only [List.getD_eq_getElem?_getD]
 by_cases e : i < l1.length
 ·rw [if_pos e, List.getElem?_append_left e]
 ·rw [if_neg e, List.getElem?_append_right (by omega)]
theorem El.cat {w0 w' : World} {base : Nat} {l1 l2 : List Fml} {A A2 : Nat → Option Addr} {C C2 : Nat → Nat} {v : Value}
  (h1 : ∀ i, i < l1.length → Kds w0 (lf l1 i) (A i) ∧ (lf l1 i).cnt ≤ 9223372036854775807) (h2 : ∀ i, i < l2.length → Kds w0 (lf l2 i) (A2 i) ∧ (lf l2 i).cnt ≤ 9223372036854775807)
  (ho : w'.ownsRow base 24 3 v (l1.length + l2.length) (kvs (lf l1) A C l1.length ++ kvs (lf l2) A2 C2 l2.length)) : El w0 w' base (l1 ++ l2).length (lf (l1 ++ l2)) v := by
 rw [List.length_append]
 have h : El w0 w' base (l1.length + l2.length) (catG l1.length (lf l1) (lf l2)) v := by
  refine ⟨catG l1.length A A2, catG l1.length C C2, by rw [kvs_cat]; exact ho, fun i hi => ?_⟩
  by_cases e : i < l1.length
  ·simp only [catG, if_pos e]; exact h1 i e
  ·simp only [catG, if_neg e]; exact h2 _ (by omega)
 exact h.congr (fun i hi => (lf_cat l1 l2 i hi).symm)
theorem wpList_append_listF {w0 : World} (w : World) {ops : Array Oper} {rest : List Oper} {o : Oper} {a : Act} {Q : Exit → Act → World → Prop} (hgd : o.guard = none) (s x : Operand)
  (ho : o.op = .call { callee := .builtin .append, args := #[s, x], argTypes := #[22, 22] })
  (base : Nat) (i : TypeInfo) (hi : Tryz.prog.info? 24 = some i) (hz : i.zero = some (.agg #[.int .i64 0, .int .i64 0, .slice none 0 0])) (hsize : i.size = 3) (hby : i.bytes = 40)
  (v : Value) (l l2 : List Fml) (hs : a.eval s = v) (hown : El w0 w base l.length (lf l) v)
  (b : Option Addr) (d : Nat) (hx : a.eval x = .slice b l2.length d) (hrow : Ro w0 w b l2) (hnil : b = none → d = 0) (hsum : l.length + l2.length ≤ 4000) (hbase : base ≤ w.heap.size)
  (h : ∀ v' w', El w0 w' base (l ++ l2).length (lf (l ++ l2)) v' → w.grownBy w' v.ownBlock → wpList Tryz.prog ops Q rest (a.put o.dst v') w') :
  wpList Tryz.prog ops Q (o :: rest) a w := by
 obtain ⟨A, C, hw1, hw2⟩ := hown.list
 obtain ⟨bb, oo, h1, A2, C2, h2⟩ := hrow.fn
 cases b with
 | some ad =>
  have hnews : ∀ j u, (kvs (lf l2) A2 C2 l2.length)[j]? = some u → w.cell? (ad.add j) = some u := fun j u hj => by
   have hlt : j < l2.length * 3 := by
    have := (List.getElem?_eq_some_iff.1 hj).1
    rwa [kvs_len] at this
   have hq : j / 3 < l2.length := by omega
   have had := h1 (by omega)
   obtain rfl := Option.some.inj had
   obtain ⟨e1, e2, e3⟩ := kvs_at (lf l2) A2 C2 (j / 3) l2.length hq
   obtain ⟨c1, c2, c3, _, _⟩ := h2 _ hq
   rw [addr_none]
   have hr : j = j / 3 * 3 ∨ j = j / 3 * 3 + 1 ∨ j = j / 3 * 3 + 2 := by omega
   rcases hr with q | q | q
   ·rw [q, e1] at hj
    rw [← Option.some.inj hj, show oo + j = oo + j / 3 * 3 by omega]; exact c1
   ·rw [q, e2] at hj
    rw [← Option.some.inj hj, show oo + j = oo + j / 3 * 3 + 1 by omega]; exact c2
   ·rw [q, e3] at hj
    rw [← Option.some.inj hj, show oo + j = oo + j / 3 * 3 + 2 by omega]; exact c3
  refine wpList_append_own w hgd s x 22 ho base 24 i _ 3 40 Tryz.underlying22 hi hz hsize hby rfl (by decide) v l.length _ hs hw1 ad l2.length d (kvs (lf l2) A2 C2 l2.length) hx (kvs_len _ _ _ _) hnews (kvs_one _) (by unfold maxLen; omega) (by omega) hbase ?_
  intro v' w' g1 g2 _
  exact h v' w' (El.cat hw2 (fun i hi => ⟨(h2 i hi).2.2.2.2, (h2 i hi).2.2.2.1⟩) g1) g2
 | none =>
  have hl0 : l2 = [] := by
   by_cases e : 0 < l2.length
   ·cases h1 e
   ·exact List.length_eq_zero_iff.1 (by omega)
  subst hl0
  obtain rfl := hnil rfl
  have h1 := h v w (by rw [List.append_nil]; exact hown) ⟨rfl, rfl, rfl, Nat.le_refl _, fun _ _ _ => rfl⟩
  refine wpList_plain hgd fun K hK => ?_
  have hr : (Builtin.append_ #[22, 22] o.type #[v, .slice none 0 0]).run Tryz.prog w = .ok v w := by
   rcases hw1.2 with ⟨rfl, _⟩ | ⟨g, cap, cur, rfl, _, _, hle, _⟩
   ·exact run_append_none w 22 _ 24 i Tryz.underlying22 hi none 0 0 jq0
   ·exact run_append_none w 22 _ 24 i Tryz.underlying22 hi (some ⟨g, 0, none⟩) _ cap hle
  unfold Oper.wp execOp
  simp only [ho, resolve, invoke, builtin, Sem.run_bind, Sem.run_pure, Result.andThen_ok, List.map_toArray, List.map_cons, List.map_nil, hs, hx, List.length_nil, hr]
  exact hK _ _ h1
set_option maxHeartbeats 1000000 in
theorem grow90 (n : Nat) (w : World) (h0 : 0 < n) (hn : n ≤ 4000) :
  Calls Tryz.prog 90 #[.slice none 0 0, .int .i64 n] w fun e w' => ∃ v, e = .returned v ∧ w'.ownsRow w.heap.size 24 3 v 0 [] ∧ Below w.heap.size w w' := by
 obtain ⟨i0, hi, hz0, hz1, hz2⟩ := info_parts Tryz.info24
 have hr := fun ty => Go.Lib.run_append_nil_zeros (P := Tryz.prog) w 22 3 ty 24 i0 _ .i64 .i64 Tryz.underlying22 Tryz.underlying3 hi hz0 n h0 (by omega) (by omega) (by rw [hz2]; omega)
 have HR := hid hr
 obtain ⟨g, hg⟩ : ∃ g, g = grownCap w n 0 24 := ⟨_, rfl⟩
 have hg1 : n ≤ g := by rw [hg]; exact grownCap_ge _ _ _ _
 have hg2 : g ≤ maxLen := by rw [hg]; exact grownCap_le_maxLen _ _ _ _ (by unfold maxLen; omega)
 rw [← hg] at HR
 have hcs : (Value.agg #[.int .i64 0, .int .i64 0, .slice none 0 0]).cells.size = 3 := rfl
 have HO : Hid ((w.drew.alloc (.cells (Builtin.zeroCells (Value.agg #[.int .i64 0, .int .i64 0, .slice none 0 0]).cells n ++ Builtin.zeroCells (Value.agg #[.int .i64 0, .int .i64 0, .slice none 0 0]).cells (g - n)) 24)).ownsRow w.heap.size 24 3 (.slice (some ⟨w.heap.size, 0, none⟩) 0 g) 0 []) :=
  World.ownsRow_made w.drew _ g jq0 hg2 (by simp [Builtin.zeroCells, Value.cells]; omega)
 have HB : Hid (Below w.heap.size w (w.drew.alloc (.cells (Builtin.zeroCells (Value.agg #[.int .i64 0, .int .i64 0, .slice none 0 0]).cells n ++ Builtin.zeroCells (Value.agg #[.int .i64 0, .int .i64 0, .slice none 0 0]).cells (g - n)) 24))) := hid ((below_drewN (Below.refl _ w) 1).alloc jq0 _)
 clear hi hz0 hz1 hz2 hr hg hg2
 go_enter Tryz.func90, Tryz.ntmps90
 go_wp2_with (at_builtin; refine Go.Lib.wpList_append_run _ rfl _ _ _ _ rfl _ _ rfl rfl _ _ (HR.out _) ?_)
 go_ret
 exact ⟨_, rfl, HO.out, HB.out⟩
set_option maxHeartbeats 1000000 in
theorem grow90_none (w : World) : Calls Tryz.prog 90 #[.slice none 0 0, .int .i64 0] w fun e w' => e = .returned (.slice none 0 0) ∧ w' = w := by
 go_enter Tryz.func90, Tryz.ntmps90
 go_wp2
 go_ret
 exact ⟨rfl, rfl⟩
end Go.Proofs.YtmdpbaobihdgkaaGreatDoor
