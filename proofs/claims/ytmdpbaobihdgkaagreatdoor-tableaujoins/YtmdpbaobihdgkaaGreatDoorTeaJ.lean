/-   Words that go round: their letters, their least form, when two are alike. -/
import Derived.Test.YtmdpbaobihdgkaaGreatDoorTcl
import Derived.Shelf.SlSortCmp.NoneTotal
import Derived.Test.YtmdpbaobihdgkaaGreatDoorBaseJ
import Derived.Test.YtmdpbaobihdgkaaGreatDoorMkfJ
/- tableau: eachPart: a formula and its parts, each ahead of its Kids. -/
/- tableau: the atoms, sorted by their numbers (slices.SortFunc). -/
namespace Go.Proofs.YtmdpbaobihdgkaaGreatDoor
open Go.RowKit

/-- Some lists, one behind the other. -/
def catF (r : Nat → List Fml) : Nat → List Fml
  | 0 => []
  | n + 1 => catF r n ++ r n

theorem catF_congr {r q : Nat → List Fml} : ∀ n, (∀ i, i < n → r i = q i) → catF r n = catF q n
  | 0, _ => rfl
  | n + 1, h => by rw [catF, catF, catF_congr n (fun i hi => h i (by omega)), h n (by omega)]

def ptsF (t : Fml) (r : Nat → List Fml) : List Fml := t :: catF r t.cnt

/-- A formula and its parts, each ahead of its Kids. -/
def pts (t : Fml) : List Fml := t.red [] ptsF

theorem pts_eq (t : Fml) : pts t = t :: catF (fun i => pts (t.kid i)) t.cnt := by
  have e : pts t = ptsF t (t.reds [] ptsF) := Fml.red_eq _ _ t
  rw [e, ptsF]
  exact congrArg (List.cons t) (catF_congr t.cnt (fun i hi => Fml.reds_at hi))

theorem catF_le {r : Nat → List Fml} : ∀ n k, k ≤ n → (catF r k).length ≤ (catF r n).length
  | 0, k, h => by obtain rfl : k = 0 := by omega
                  exact Nat.le_refl _
  | n + 1, k, h => by
    by_cases e : k = n + 1
    · subst e; exact Nat.le_refl _
    · rw [catF, List.length_append]
      have := catF_le (r := r) n k (by omega)
      omega

theorem fold_len (l : List Fml) : ∀ s, (l.foldl stE s).1.length + (l.foldl stE s).2.length ≤ s.1.length + s.2.length + l.length := by
  induction l with
  | nil => intro s; exact Nat.le_refl _
  | cons x l ih =>
    intro s
    rw [List.foldl_cons, List.length_cons]
    have h1 := ih (stE s x)
    have h2 := stE_len s x
    omega

/-- What eachPart does with a formula. -/
def Ep (w0 : World) (va : Nat) (t : Fml) : Prop := ∀ (s : List Fml × List Fml) (v1 v2 : Value) (ta : Option Addr) (tc : Nat) (w : World), Ev w0 w va s v1 v2 → s.1.length + s.2.length + (pts t).length ≤ 999 → Kds w0 t ta → t.cnt ≤ 9223372036854775807 →
  Calls Tryz.prog 43 #[.agg #[.int .i64 t.kind, .int .i64 t.num, .slice ta t.cnt tc], .func (.func 44) #[] #[.pointer (some ⟨va, 0, none⟩), .pointer (some ⟨va + 1, 0, none⟩)]] w fun e w' => e = .returned (.tuple #[]) ∧ ∃ u1 u2, Ev w0 w' va ((pts t).foldl stE s) u1 u2

set_option maxHeartbeats 2000000 in
theorem eachPart_any (w0 : World) (va : Nat) : ∀ t, Ep w0 va t := by
  intro t
  induction t using Fml.ind with
  | h t ih =>
  intro s v1 v2 ta tc w hE hL hT htc
  obtain ⟨b, o, ha, hk⟩ := hT.out
  obtain ⟨w1, hw1⟩ : ∃ y, y = w.alloc (.cells #[.int .i64 t.kind, .int .i64 t.num, .slice ta t.cnt tc] 24) := ⟨_, rfl⟩
  have hB1 : Below w.heap.size w w1 := by rw [hw1]; exact box_below _ _
  have x1 : Tri w1 w.heap.size (.int .i64 t.kind) (.int .i64 t.num) (.slice ta t.cnt tc) := by rw [hw1]; exact tri_new _ _ _ _
  have C := hid (cl44_any (cc := tc) (hE.below hB1) (by omega) hT htc)
  have hvw := (Array.getElem?_eq_some_iff.1 hE.co).1
  have o1 := hE.la.own
  have o2 := hE.lo.own
  have HX : Hid (∀ z, Evk w1 z va v1 v2 → Tri z w.heap.size (.int .i64 t.kind) (.int .i64 t.num) (.slice ta t.cnt tc)) := fun z hz =>
    (hz.2 w.heap.size x1.lt (by omega) (by omega) (fun e => by have := (o1 _ e).2; omega) (fun e => by have := (o2 _ e).2; omega)).trans x1
  have HA := hid ha
  have HK := hid hk
  have hpl : (pts t).length = 1 + (catF (fun i => pts (t.kid i)) t.cnt).length := by rw [pts_eq, List.length_cons]; omega
  have HIH : Hid (∀ k, k < t.cnt → ∀ (w : World) (v1 v2 : Value) (ai : Option Addr) (ci : Nat), Ev w0 w va ((t :: catF (fun i => pts (t.kid i)) k).foldl stE s) v1 v2 → Kds w0 (t.kid k) ai → (t.kid k).cnt ≤ 9223372036854775807 →
      Calls Tryz.prog 43 #[.agg #[.int .i64 (t.kid k).kind, .int .i64 (t.kid k).num, .slice ai (t.kid k).cnt ci], .func (.func 44) #[] #[.pointer (some ⟨va, 0, none⟩), .pointer (some ⟨va + 1, 0, none⟩)]] w fun e w' => e = .returned (.tuple #[]) ∧ ∃ u1 u2, Ev w0 w' va ((t :: catF (fun i => pts (t.kid i)) (k + 1)).foldl stE s) u1 u2) := fun k hk w v1 v2 ai ci h1 h2 h3 => by
    have e : ((t :: catF (fun i => pts (t.kid i)) (k + 1)).foldl stE s) = (pts (t.kid k)).foldl stE ((t :: catF (fun i => pts (t.kid i)) k).foldl stE s) := by
      rw [catF, ← List.cons_append, List.foldl_append]
    rw [e]
    refine ih k hk _ v1 v2 ai ci w h1 ?_ h2 h3
    have l1 := fold_len (t :: catF (fun i => pts (t.kid i)) k) s
    have l2 := catF_le (r := fun i => pts (t.kid i)) t.cnt (k + 1) (by omega)
    rw [catF, List.length_append] at l2
    rw [List.length_cons] at l1
    omega
  have HP : Hid (pts t = t :: catF (fun i => pts (t.kid i)) t.cnt) := pts_eq t
  have HW := hid hw1
  have HTC := hid htc
  clear hE hT htc ha hk hw1 x1 ih hB1 hL hpl o1 o2 hvw
  go_enter Tryz.func43, Tryz.ntmps43
  go_wp2_with fail
  rw [← HW.out]
  refine C.out.mono ?_
  rintro e z ⟨rfl, u1, u2, hz1, hz2⟩
  obtain ⟨⟨d0, d1, d2⟩, -⟩ := tri_cells (HX.out z hz2)
  have HZ : Hid (Ev w0 z va ((t :: catF (fun i => pts (t.kid i)) 0).foldl stE s) u1 u2) := hz1
  clear hz1 hz2 C HX
  have htz : (t.cnt : Int) ≤ 9223372036854775807 := by have := HTC.out; omega
  go_wp2
  go_loopw [12] (fun i wr => ∃ k : Nat, k ≤ t.cnt ∧ i = .int .i64 k ∧ ∃ u1 u2, Hid (Ev w0 wr va ((t :: catF (fun i => pts (t.kid i)) k).foldl stE s) u1 u2)) (fun i _ => t.cnt - (intOf i).toNat)
  case atStart => exact ⟨0, Nat.zero_le _, rfl, _, _, HZ⟩
  case round =>
    obtain ⟨k, hkc, rfl, y1, y2, HY⟩ := hrel
    by_cases hlt : k < t.cnt
    · obtain rfl := HA.out (by omega)
      obtain ⟨ai, ci, e1, e2, e3, e4, e5⟩ := HK.out k hlt
      have f1 := below_cell HY.out.bel (Nat.le_refl _) e1
      have f2 := below_cell HY.out.bel (Nat.le_refl _) e2
      have f3 := below_cell HY.out.bel (Nat.le_refl _) e3
      have hkz : (k : Int) < t.cnt := by omega
      have C := hid (HIH.out k hlt (wr.alloc (.cells #[.int .i64 (t.kid k).kind, .int .i64 (t.kid k).num, .slice ai (t.kid k).cnt ci] 24)) y1 y2 ai ci (HY.out.below (box_below _ _)) e5 e4)
      obtain ⟨kk, hkk⟩ : ∃ x, x = t.kid k := ⟨_, rfl⟩
      rw [← hkk] at f1 f2 f3 C
      clear hkk e1 e2 e3 e4 e5 d0 d1 d2
      go_wp2_with fail
      refine C.out.mono ?_
      rintro e z ⟨rfl, q1, q2, hq⟩
      have HQ := hid hq
      clear hq C
      go_wp2
      go_roundw
      case rel => exact ⟨k + 1, by omega, by go_num, q1, q2, HQ⟩
      case measure => simp [intOf]; omega
    · obtain rfl : k = t.cnt := by omega
      go_wp2
      go_end0
      exact ⟨rfl, y1, y2, by rw [HP.out]; exact HY.out⟩
end Go.Proofs.YtmdpbaobihdgkaaGreatDoor

namespace Go.Proofs.YtmdpbaobihdgkaaGreatDoor
open Go.RowKit Go.Shelf Go.Lib Go.Sort

set_option maxHeartbeats 1000000 in
theorem nan89 (x : Int) (w : World) : Calls Tryz.prog 89 #[.int .i64 x] w fun e w' => e = .returned (.bool false) ∧ w' = w := by
  go_enter Tryz.func89, Tryz.ntmps89
  go_wp2
  go_ret
  exact ⟨by simp, rfl⟩

set_option maxHeartbeats 1000000 in
theorem cmp48 (x y : Int) (w : World) : Calls Tryz.prog 48 #[.int .i64 x, .int .i64 y] w fun e w' => e = .returned (.int .i64 (Lib.compareInt x y)) ∧ w' = w := by
  have C := fun z w => nan89 z w
  by_cases h1 : x < y
  · have HR : Hid (Lib.compareInt x y = -1) := by unfold Lib.compareInt; rw [if_pos h1]; exact hid rfl
    rw [HR.out]
    go_enter Tryz.func48, Tryz.ntmps48
    go_wp2_with (go_at_call 89; refine (C _ _).mono ?_; rintro e w' ⟨rfl, rfl⟩)
    go_ret
    exact ⟨rfl, rfl⟩
  · by_cases h2 : y < x
    · have HR : Hid (Lib.compareInt x y = 1) := by unfold Lib.compareInt; rw [if_neg h1, if_pos h2]; exact hid rfl
      rw [HR.out]
      go_enter Tryz.func48, Tryz.ntmps48
      go_wp2_with (go_at_call 89; refine (C _ _).mono ?_; rintro e w' ⟨rfl, rfl⟩)
      go_ret
      exact ⟨rfl, rfl⟩
    · have HR : Hid (Lib.compareInt x y = 0) := by unfold Lib.compareInt; rw [if_neg h1, if_neg h2]; exact hid rfl
      rw [HR.out]
      go_enter Tryz.func48, Tryz.ntmps48
      go_wp2_with (go_at_call 89; refine (C _ _).mono ?_; rintro e w' ⟨rfl, rfl⟩)
      go_ret
      exact ⟨rfl, rfl⟩

set_option maxHeartbeats 1000000 in
theorem cl47 (k1 n1 k2 n2 : Int) (a1 a2 : Option Addr) (c1 d1 c2 d2 : Nat) (W : World) :
    Calls Tryz.prog 47 #[.agg #[.int .i64 k1, .int .i64 n1, .slice a1 c1 d1], .agg #[.int .i64 k2, .int .i64 n2, .slice a2 c2 d2]] W fun e w' => e = .returned (.int .i64 (Lib.compareInt n1 n2)) ∧ ∃ q os', w' = grow (W.drewN q) os' := by
  have hcon := fun W' => cmp48 n1 n2 W'
  generalize Lib.compareInt n1 n2 = r at hcon ⊢
  go_enter Tryz.func47, Tryz.ntmps47
  go_wp2_with (go_at_call 48; refine (hcon _).mono ?_; rintro e w' ⟨rfl, rfl⟩)
  go_ret
  exact ⟨rfl, 0, _, by rw [alloc_eq_grow, alloc_eq_grow, grow_grow]; rfl⟩

theorem srtK_gb {α : Type} [Inhabited α] {enc : α → List Value} {k : Nat} {w : World} {g off n : Nat} {os : Array Obj} (d : Array α) : w.grownBy (sortWorldK enc k w g off n d os) (some g) := by
  refine ⟨rfl, rfl, rfl, by simp [sortWorldK, putRowK, putRow, mapBlock, Sort.ahead, grow], fun j hj hne => ?_⟩
  unfold sortWorldK
  rw [Go.Sort.heap_grow_old _ _ (by simpa [putRowK, putRow, mapBlock, Sort.ahead] using hj)]
  have : g ≠ j := fun e => hne (by rw [e])
  simp [putRowK, putRow, mapBlock, Sort.ahead, Array.getElem?_modify, this]

/-- Formulas, rising by N. -/
def srtN (l : List Fml) : List Fml := l.mergeSort (fun x y => !decide (y.num < x.num))

/-- A list of parts of formulas that lie in the old memory w0, to be read. -/
def Ro (w0 w : World) (a : Option Addr) (l : List Fml) : Prop := ∃ b o, (0 < l.length → a = some ⟨b, o, none⟩) ∧ ∀ i, i < l.length → ∃ ai ci,
  w.cell? ⟨b, o + i * 3, none⟩ = some (.int .i64 (lf l i).kind) ∧ w.cell? ⟨b, o + i * 3 + 1, none⟩ = some (.int .i64 (lf l i).num) ∧ w.cell? ⟨b, o + i * 3 + 2, none⟩ = some (.slice ai (lf l i).cnt ci) ∧ (lf l i).cnt ≤ 9223372036854775807 ∧ Kds w0 (lf l i) ai

theorem ltNum (f : Nat → Int) {m : Nat} (x y : Fin (m + 1)) : ltOf (fun x y : Fin (m + 1) => Lib.compareInt (f x.1) (f y.1)) x y = decide (f x.1 < f y.1) := by
  unfold ltOf Lib.compareInt
  by_cases h1 : f x.1 < f y.1
  · simp [h1]
  · by_cases h2 : f y.1 < f x.1 <;> simp [h1, h2]

theorem swoNum (f : Nat → Int) {m : Nat} : SWO (ltOf (fun x y : Fin (m + 1) => Lib.compareInt (f x.1) (f y.1))) where
  irrefl x := by rw [ltNum]; simp
  trans x y z h1 h2 := by rw [ltNum] at *; simp at *; omega
  ntrans x y z h1 h2 := by rw [ltNum] at *; simp at *; omega

theorem lf_map {m : Nat} (l : List Fml) (h : l.length = m + 1) : (List.finRange (m + 1)).map (fun p => lf l p.1) = l := by
  refine List.ext_getElem (by simp [h]) (fun i h1 h2 => ?_)
  simp [lf, List.getD_eq_getElem?_getD, List.getElem?_eq_getElem h2]

/-- A formula's three cells. -/
def en3 (r : Nat → Fml) (A : Nat → Option Addr) (C : Nat → Nat) (i : Nat) : List Value := [.int .i64 (r i).kind, .int .i64 (r i).num, .slice (A i) (r i).cnt (C i)]

set_option maxHeartbeats 1000000 in
theorem sort46 {w0 w : World} {base : Nat} {l : List Fml} {v : Value} (h : El w0 w base l.length (lf l) v) (hw : Below w0.heap.size w0 w) (hl : l.length ≤ 999) (hn : (l.map Fml.num).Nodup) :
    Calls Tryz.prog 46 #[v, .func (.func 47) #[] #[]] w fun e w' => e = .returned (.tuple #[]) ∧ Hid (w.grownBy w' v.ownBlock ∧ ∃ a c, v = .slice a l.length c ∧ Ro w0 w' a (srtN l)) := by
  obtain ⟨A, C, h1, h2⟩ := h.list
  by_cases h0 : l.length = 0
  · have hl0 : l = [] := List.length_eq_zero_iff.1 h0
    subst hl0
    obtain ⟨a, c, rfl⟩ := h.is
    have hS := AnyF.slices_SortFunc_none (P := Tryz.prog) (ρ := Tryz.sortF_ren) Tryz.sortF a c (.func (.func 47) #[] #[]) w
    change Calls Tryz.prog 46 _ _ _ at hS
    refine hS.mono ?_
    rintro e w' ⟨rfl, rfl⟩
    exact ⟨rfl, hid ⟨⟨rfl, rfl, rfl, Nat.le_refl _, fun _ _ _ => rfl⟩, a, c, rfl, 0, 0, fun hh => absurd hh (by simp [srtN]), fun i hi => absurd hi (by simp [srtN])⟩⟩
  · obtain ⟨m, hm⟩ : ∃ m, l.length = m + 1 := ⟨l.length - 1, by omega⟩
    rcases h1.2 with ⟨rfl, e⟩ | ⟨g, cap, cur, rfl, hg, hb, _⟩
    · exact absurd e h0
    · have hbg : g < w.heap.size := (Array.getElem?_eq_some_iff.1 hb).1
      obtain ⟨enc, henc⟩ : ∃ enc : Fin (m + 1) → List Value, enc = fun p => en3 (lf l) A C p.1 := ⟨_, rfl⟩
      obtain ⟨d, hd⟩ : ∃ d : Array (Fin (m + 1)), d = (List.finRange (m + 1)).toArray := ⟨_, rfl⟩
      have hds : d.size = m + 1 := by rw [hd]; simp
      have hdi : ∀ i (hi : i < m + 1), d[i]! = ⟨i, hi⟩ := fun i hi => by rw [hd]; simp [hi]
      have hk3 : ∀ x, (enc x).length = 3 := fun x => by rw [henc]; rfl
      have hH : HoldsK enc 3 w g 0 d := fun t ht => by
        rw [size_flatK, hds] at ht
        have hq : t / 3 < m + 1 := by omega
        rw [get_flatK _ _ _ _ (by rw [hds]; exact ht), hdi _ hq]
        refine ⟨?_, by unfold World.frozen?; rw [hb]; simp⟩
        obtain ⟨e1, e2, e3⟩ := kvs_at (lf l) A C (t / 3) l.length (by omega)
        have c1 := h1.cells (g := g) rfl _ _ e1
        have c2 := h1.cells (g := g) rfl _ _ e2
        have c3 := h1.cells (g := g) rfl _ _ e3
        rw [addr_none] at c1 c2 c3
        have hr : t % 3 = 0 ∨ t % 3 = 1 ∨ t % 3 = 2 := by omega
        rcases hr with q | q | q
        · rw [q, show (0 + t : Nat) = 0 + t / 3 * 3 by omega, c1, henc]; rfl
        · rw [q, show (0 + t : Nat) = 0 + (t / 3 * 3 + 1) by omega, c2, henc]; rfl
        · rw [q, show (0 + t : Nat) = 0 + (t / 3 * 3 + 2) by omega, c3, henc]; rfl
      have eg : ∀ args w, (callFunc 47 args).run Tryz.prog w = .ok (.enter 47 args) w := enters_of Tryz.func47 (by kernel_rfl) rfl
      have hnum : ∀ i j, i < m + 1 → j < m + 1 → (lf l i).num = (lf l j).num → i = j := fun i j hi hj e => by
        have hi' : i < l.length := by omega
        have hj' : j < l.length := by omega
        have q := List.pairwise_iff_getElem.1 hn
        have x : ∀ k (hk : k < l.length), (l.map Fml.num)[k]'(by simpa using hk) = (lf l k).num := fun k hk => by simp [lf, List.getD_eq_getElem?_getD, List.getElem?_eq_getElem hk]
        rcases Nat.lt_trichotomy i j with c | c | c
        · exact absurd ((x i hi').trans (e.trans (x j hj').symm)) (q i j _ _ c)
        · exact c
        · exact absurd ((x j hj').trans (e.symm.trans (x i hi').symm)) (q j i _ _ c)
      have hS := AnyQ.slices_SortFunc_total Tryz.sortF 3 Tryz.isAgg24 Tryz.sizeOf24 enc hk3 (fun x v hv => by rw [henc] at hv; simp [en3] at hv; rcases hv with rfl | rfl | rfl <;> rfl)
        (fun x y => Lib.compareInt (lf l x.1).num (lf l y.1).num) (swoNum (fun i => (lf l i).num)) 47 #[] g 0 cap d w eg (fun q os dk _ x y => by rw [henc]; exact cl47 _ _ _ _ _ _ _ _ _ _ _) hH hbg (by omega)
        (fun x y a1 a2 => Fin.ext (hnum x.1 y.1 x.2 y.2 (by rw [ltNum (fun i => (lf l i).num)] at a1 a2; simp at a1 a2; omega)))
      change Calls Tryz.prog 46 _ _ _ at hS
      rw [show d.size = l.length from by omega] at hS
      refine hS.mono ?_
      rintro e w' ⟨rfl, n, os, rfl⟩
      refine ⟨rfl, hid ⟨srtK_gb _, _, _, rfl, g, 0, fun _ => rfl, ?_⟩⟩
      obtain ⟨M, hM⟩ : ∃ M, M = (d.toList.mergeSort fun x y => !(ltOf (fun x y : Fin (m + 1) => Lib.compareInt (lf l x.1).num (lf l y.1).num)) y x) := ⟨_, rfl⟩
      rw [← hM]
      have hMs : M.length = m + 1 := by rw [hM, hd]; simp
      have hMl : M.map (fun p => lf l p.1) = srtN l := by
        rw [hM, hd]
        have e : ∀ L : List Fml, L = (List.finRange (m + 1)).map (fun p => lf l p.1) → ((List.finRange (m + 1)).mergeSort fun x y => !(ltOf (fun x y : Fin (m + 1) => Lib.compareInt (lf l x.1).num (lf l y.1).num)) y x).map (fun p => lf l p.1) = srtN L := fun L hL => by
          rw [hL, srtN, List.map_mergeSort]
          intro a _ b _
          rw [ltNum (fun i => (lf l i).num)]
        exact e l (lf_map l hm).symm
      have hH' := holdsK_sortWorldK enc 3 w g 0 n d M.toArray os hbg hH (by simp [hMs, hds])
      intro i hi
      have hi' : i < m + 1 := by rw [← hMl, List.length_map, hMs] at hi; exact hi
      have hMi : i < M.length := by omega
      have e0 : lf (srtN l) i = lf l (M[i]).1 := by
        rw [← hMl]
        simp [lf, List.getD_eq_getElem?_getD, List.getElem?_eq_getElem hMi]
      have e1 : (M.toArray)[i]! = M[i] := by simp [hMi]
      have c1 := (hH'.cell (i := i) (c := 0) (by simpa using hMi) (by omega)).1
      have c2 := (hH'.cell (i := i) (c := 1) (by simpa using hMi) (by omega)).1
      have c3 := (hH'.cell (i := i) (c := 2) (by simpa using hMi) (by omega)).1
      rw [e1, congrFun henc M[i]] at c1 c2 c3
      have hx := h2 (M[i]).1 (by have := (M[i]).2; omega)
      rw [e0]
      exact ⟨A (M[i]).1, C (M[i]).1, c1, c2, c3, hx.2, hx.1⟩
end Go.Proofs.YtmdpbaobihdgkaaGreatDoor

namespace Go.Proofs.YtmdpbaobihdgkaaGreatDoor
open Go.RowKit

/-- The letter at a place of a word: s letters S, then m letters L again and again. -/
def ltr (s m : Nat) (S L : Nat → Int) (i : Nat) : Int := if i < s then S i else L ((i - s) % m)

end Go.Proofs.YtmdpbaobihdgkaaGreatDoor
