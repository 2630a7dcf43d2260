/-     each, over each of the closures that it is handed. -/
import Derived.Test.YtmdpbaobihdgkaaGreatDoorTsoJ
/- tableau: slices.Concat of two lists of parts. -/
/- tableau: elementsOf. -/
/- tableau: elementsOf, in memory. -/
/- tableau: choices: how many, chosen. -/
namespace Go.Proofs.YtmdpbaobihdgkaaGreatDoor
open Go.RowKit
def lenK (s m : Nat) : Nat → Nat
 | 0 => 0
 | 1 => s
 | _ => s + m
def lstK (l1 l2 : List Fml) : Nat → List Fml
 | 0 => []
 | 1 => l1
 | _ => l1 ++ l2
theorem grow90_any (n : Nat) (w : World) (hn : n ≤ 4000) :
  Calls Tryz.prog 90 #[.slice none 0 0, .int .i64 n] w fun e w' => ∃ sa sc, e = .returned (.slice sa 0 sc) ∧ w'.ownsRow w.heap.size 24 3 (.slice sa 0 sc) 0 [] ∧ Below w.heap.size w w' := by
 by_cases h0 : 0 < n
 ·refine (grow90 n w h0 hn).mono ?_
  rintro e w' ⟨v, rfl, h1, h2⟩
  rcases h1.2 with ⟨rfl, _⟩ | ⟨g, cap, cur, rfl, q⟩
  ·exact ⟨_, _, rfl, h1, h2⟩
  ·exact ⟨_, _, rfl, h1, h2⟩
 ·obtain rfl : n = 0 := by omega
  refine (grow90_none w).mono ?_
  rintro e w' ⟨rfl, rfl⟩
  exact ⟨_, _, rfl, ⟨by simp, Or.inl ⟨rfl, rfl⟩⟩, Below.refl _ _⟩
theorem grown_belowE {w0 w0' w w1 : World} {n : Nat} {r : Nat → Fml} {v : Value} (hb : Below w0.heap.size w0 w) (ho : El w0' w w0.heap.size n r v) (hg : w.grownBy w1 v.ownBlock) : Below w0.heap.size w0 w1 :=
 hb.grown hg hb.size (fun k hk => (ho.own k hk).1)
set_option maxHeartbeats 2000000 in
theorem concat49 {w0 w : World} {gb : Nat} {sa : Option Addr} {sc : Nat} {la : Option Addr} {lc : Nat} {l1 l2 : List Fml} (h0 : w.cell? ⟨gb, 0, none⟩ = some (.slice sa l1.length sc)) (h1 : w.cell? ⟨gb, 1, none⟩ = some (.slice la l2.length lc))
  (hS : Ro w0 w sa l1) (hL : Ro w0 w la l2) (hsn : sa = none → sc = 0) (hln : la = none → lc = 0) (hn : l1.length + l2.length ≤ 1000) :
  Calls Tryz.prog 49 #[.slice (some ⟨gb, 0, none⟩) 2 2] w fun e w' => ∃ a c, e = .returned (.slice a (l1 ++ l2).length c) ∧ Hid (El w0 w' w.heap.size (l1 ++ l2).length (lf (l1 ++ l2)) (.slice a (l1 ++ l2).length c) ∧ Below w.heap.size w w') := by
 obtain ⟨i0, hi, hz0, hz1, hz2⟩ := info_parts Tryz.info24
 have HI : Hid (Tryz.prog.info? 24 = some i0 ∧ i0.zero = some (.agg #[.int .i64 0, .int .i64 0, .slice none 0 0]) ∧ i0.size = 3 ∧ i0.bytes = 40) := ⟨hi, hz0, hz1, hz2⟩
 have HS : Hid (Ro w0 w sa l1 ∧ (sa = none → sc = 0)) := ⟨hS, hsn⟩
 have HL : Hid (Ro w0 w la l2 ∧ (la = none → lc = 0)) := ⟨hL, hln⟩
 obtain ⟨s, hs⟩ : ∃ s, s = l1.length := ⟨_, rfl⟩
 obtain ⟨m, hm⟩ : ∃ m, m = l2.length := ⟨_, rfl⟩
 have C := hid (grow90_any (s + m) w (by omega))
 have e2 : ((s + m : Nat) : Int) = (s : Int) + m := by omega
 rw [← hs] at h0
 rw [← hm] at h1
 have hn' : s + m ≤ 1000 := by omega
 have H0 := hid h0
 have H1 := hid h1
 have HSM := hid (And.intro hs hm)
 rw [e2] at C
 clear hi hz0 hz1 hz2 hS hL hsn hln e2 h0 h1 hs hm hn
 go_enter Tryz.func49, Tryz.ntmps49
 go_wp2
 go_loop [11, 3] (fun i z => ∃ k : Nat, k ≤ 2 ∧ i = .int .i64 k ∧ z = .int .i64 (lenK s m k)) (fun i _ => 2 - (intOf i).toNat)
 case atStart => exact ⟨0, by omega, rfl, rfl⟩
 case round =>
  obtain ⟨k, hk, rfl, rfl⟩ := hrel
  have hk3 : k = 0 ∨ k = 1 ∨ k = 2 := by omega
  rcases hk3 with rfl | rfl | rfl
  ·have h0 := H0.out
   have e1 : (lenK s m 0 : Int) = 0 := rfl
   rw [e1]
   go_wp2
   go_round
   case rel => exact ⟨1, by omega, by go_num, by simp [lenK]⟩
   case measure => simp [intOf]
  ·have h1 := H1.out
   have e1 : (lenK s m 1 : Int) = s := rfl
   rw [e1]
   go_wp2
   go_round
   case rel => exact ⟨2, by omega, by go_num, by simp [lenK]⟩
   case measure => simp [intOf]
  ·have e1 : (lenK s m 2 : Int) = (s : Int) + m := by simp [lenK]
   rw [e1]
   go_wp2_with fail
   refine C.out.mono ?_
   rintro e w1 ⟨xa, xc, rfl, hv, hb⟩
   have HV : Hid (El w0 w1 w.heap.size (lstK l1 l2 0).length (lf (lstK l1 l2 0)) (.slice xa 0 xc) ∧ Below w.heap.size w w1) := ⟨⟨fun _ => none, fun _ => 0, by simpa [lstK, kvs] using hv, fun i hi => absurd hi (by simp [lstK])⟩, hb⟩
   clear C hv hb hk
   go_wp2
   go_loopw [27, 6] (fun i v wr => ∃ k : Nat, k ≤ 2 ∧ i = .int .i64 k ∧ Hid (El w0 wr w.heap.size (lstK l1 l2 k).length (lf (lstK l1 l2 k)) v ∧ Below w.heap.size w wr)) (fun i _ _ => 2 - (intOf i).toNat)
   case atStart => exact ⟨0, by omega, rfl, HV⟩
   case round =>
    obtain ⟨k, hk, rfl, HK⟩ := hrel
    have hk3 : k = 0 ∨ k = 1 ∨ k = 2 := by omega
    rcases hk3 with rfl | rfl | rfl
    ·have f0 := below_cell HK.out.2 jq0 H0.out
     go_wp2_with (at_builtin; refine wpList_append_listF (w0 := w0) _ rfl _ _ rfl w.heap.size i0 HI.out.1 HI.out.2.1 HI.out.2.2.1 HI.out.2.2.2 _ (lstK l1 l2 0) l1 rfl HK.out.1 sa sc (by rw [← HSM.out.1]; rfl) (HS.out.1.below HK.out.2) HS.out.2 (by have := HSM.out; simp only [lstK, List.length_nil]; omega) HK.out.2.size ?_; intro v' w2 hown hgrow; have HX := hid (And.intro hown (grown_belowE HK.out.2 HK.out.1 hgrow)); clear hown hgrow)
     go_roundw
     case rel => exact ⟨1, by omega, by go_num, hid ⟨by have := HX.out.1; simp only [lstK, List.nil_append] at this ⊢; exact this, HX.out.2⟩⟩
     case measure => simp [intOf]
    ·have f0 := below_cell HK.out.2 jq0 H1.out
     go_wp2_with (at_builtin; refine wpList_append_listF (w0 := w0) _ rfl _ _ rfl w.heap.size i0 HI.out.1 HI.out.2.1 HI.out.2.2.1 HI.out.2.2.2 _ (lstK l1 l2 1) l2 rfl HK.out.1 la lc (by rw [← HSM.out.2]; rfl) (HL.out.1.below HK.out.2) HL.out.2 (by have := HSM.out; simp only [lstK]; omega) HK.out.2.size ?_; intro v' w2 hown hgrow; have HX := hid (And.intro hown (grown_belowE HK.out.2 HK.out.1 hgrow)); clear hown hgrow)
     go_roundw
     case rel => exact ⟨2, by omega, by go_num, hid ⟨by have := HX.out.1; simp only [lstK] at this ⊢; exact this, HX.out.2⟩⟩
     case measure => simp [intOf]
    ·obtain ⟨ya, yc, hy⟩ := HK.out.1.is
     subst hy
     go_wp2
     go_ret
     exact ⟨ya, yc, rfl, HK⟩
end Go.Proofs.YtmdpbaobihdgkaaGreatDoor
namespace Go.Proofs.YtmdpbaobihdgkaaGreatDoor
open Go.RowKit
theorem El.ro {w0 w : World} {base : Nat} {l : List Fml} {v : Value} (h : El w0 w base l.length (lf l) v) : ∃ a c, v = .slice a l.length c ∧ (a = none → c = 0) ∧ Ro w0 w a l := by
 obtain ⟨A, C, h1, h2⟩ := h.list
 rcases h1.2 with ⟨rfl, e⟩ | ⟨g, cap, cur, rfl, hg, hb, _⟩
 ·rw [e]
  exact ⟨none, 0, rfl, fun _ => rfl, 0, 0, fun hh => by omega, fun i hi => by omega⟩
 ·refine ⟨some ⟨g, 0, none⟩, cap, rfl, (fun q => by cases q), g, 0, fun _ => rfl, fun i hi => ?_⟩
  obtain ⟨e1, e2, e3⟩ := kvs_at (lf l) A C i l.length hi
  have c1 := h1.cells (g := g) rfl _ _ e1
  have c2 := h1.cells (g := g) rfl _ _ e2
  have c3 := h1.cells (g := g) rfl _ _ e3
  rw [addr_none] at c1 c2 c3
  exact ⟨A i, C i, c1, by rw [Nat.add_assoc]; exact c2, by rw [Nat.add_assoc]; exact c3, (h2 i hi).2, (h2 i hi).1⟩
theorem El.base {w0 w : World} {base base' n : Nat} {r : Nat → Fml} {v : Value} (h : El w0 w base n r v) (hb : base' ≤ base) : El w0 w base' n r v := by
 obtain ⟨A, C, h1, h2⟩ := h.list
 refine ⟨A, C, ⟨h1.1, ?_⟩, h2⟩
 rcases h1.2 with h0 | ⟨g, cap, cur, e1, e2, e3⟩
 ·exact Or.inl h0
 ·exact Or.inr ⟨g, cap, cur, e1, Nat.le_trans hb e2, e3⟩
theorem mem_lf {l : List Fml} {i : Nat} (h : i < l.length) : lf l i ∈ l := by
 unfold lf
 rw [List.getD_eq_getElem?_getD, List.getElem?_eq_getElem h]
 exact List.getElem_mem h
theorem lf_mem {l : List Fml} {x : Fml} (h : x ∈ l) : ∃ i, i < l.length ∧ lf l i = x := by
 obtain ⟨i, hi, e⟩ := List.getElem_of_mem h
 refine ⟨i, hi, ?_⟩
 unfold lf
 rw [List.getD_eq_getElem?_getD, List.getElem?_eq_getElem hi]
 exact e
theorem plc_mem {l : List Fml} {t : Fml} : plc t (lf l) l.length = -1 ↔ t ∉ l := by
 constructor
 ·intro h hm
  obtain ⟨i, hi, e⟩ := lf_mem hm
  exact plc_none _ h i hi e
 ·intro h
  rcases plc_lt (t := t) (r := lf l) l.length with q | ⟨k, hk, _, e⟩
  ·exact q
  ·exact absurd (by rw [← e]; exact mem_lf hk) h
theorem addF_mem (l : List Fml) (t x : Fml) : x ∈ addF l t ↔ x ∈ l ∨ x = t := by
 unfold addF
 by_cases h : plc t (lf l) l.length = -1
 ·rw [if_pos h]; simp
 ·rw [if_neg h]
  have : t ∈ l := Classical.byContradiction (fun q => h (plc_mem.2 q))
  exact ⟨Or.inl, fun q => by rcases q with q | rfl; exact q; exact this⟩
theorem addF_nodup {l : List Fml} (t : Fml) (h : l.Nodup) : (addF l t).Nodup := by
 unfold addF
 by_cases e : plc t (lf l) l.length = -1
 ·rw [if_pos e]
  rw [List.nodup_append]
  exact ⟨h, by simp, fun a ha b hb => by simp at hb; subst hb; intro q; subst q; exact plc_mem.1 e ha⟩
 ·rw [if_neg e]; exact h
structure Eq2 (P : Fml → Prop) (s : List Fml × List Fml) : Prop where
 n1 : s.1.Nodup
 n2 : s.2.Nodup
 m1 : ∀ x, x ∈ s.1 ↔ P x ∧ x.kind = 3
 m2 : ∀ x, x ∈ s.2 ↔ P x ∧ (x.kind = 7 ∨ x.kind = 8 ∨ x.kind = 9)
theorem eq2_step {P : Fml → Prop} {s : List Fml × List Fml} (h : Eq2 P s) (t : Fml) : Eq2 (fun x => P x ∨ x = t) (stE s t) := by
 unfold stE
 by_cases h3 : t.kind = 3
 ·rw [if_pos h3]
  refine ⟨addF_nodup t h.n1, h.n2, fun x => ?_, fun x => ?_⟩
  ·rw [addF_mem, h.m1]
   constructor
   ·rintro (⟨a, b⟩ | rfl)
    ·exact ⟨Or.inl a, b⟩
    ·exact ⟨Or.inr rfl, h3⟩
   ·rintro ⟨a | rfl, b⟩
    ·exact Or.inl ⟨a, b⟩
    ·exact Or.inr rfl
  ·show x ∈ s.2 ↔ _
   rw [h.m2]
   constructor
   ·rintro ⟨a, b⟩; exact ⟨Or.inl a, b⟩
   ·rintro ⟨a | rfl, b⟩
    ·exact ⟨a, b⟩
    ·exact absurd h3 (by omega)
 rw [if_neg h3]
 by_cases h7 : t.kind = 7 ∨ t.kind = 8 ∨ t.kind = 9
 ·rw [if_pos h7]
  refine ⟨h.n1, addF_nodup t h.n2, fun x => ?_, fun x => ?_⟩
  ·show x ∈ s.1 ↔ _
   rw [h.m1]
   constructor
   ·rintro ⟨a, b⟩; exact ⟨Or.inl a, b⟩
   ·rintro ⟨a | rfl, b⟩
    ·exact ⟨a, b⟩
    ·exact absurd b h3
  ·show x ∈ addF s.2 t ↔ _
   rw [addF_mem, h.m2]
   constructor
   ·rintro (⟨a, b⟩ | rfl)
    ·exact ⟨Or.inl a, b⟩
    ·exact ⟨Or.inr rfl, h7⟩
   ·rintro ⟨a | rfl, b⟩
    ·exact Or.inl ⟨a, b⟩
    ·exact Or.inr rfl
 ·rw [if_neg h7]
  refine ⟨h.n1, h.n2, fun x => ?_, fun x => ?_⟩
  ·rw [h.m1]
   constructor
   ·rintro ⟨a, b⟩; exact ⟨Or.inl a, b⟩
   ·rintro ⟨a | rfl, b⟩
    ·exact ⟨a, b⟩
    ·exact absurd b h3
  ·rw [h.m2]
   constructor
   ·rintro ⟨a, b⟩; exact ⟨Or.inl a, b⟩
   ·rintro ⟨a | rfl, b⟩
    ·exact ⟨a, b⟩
    ·exact absurd b h7
theorem eq2_fold : ∀ (l : List Fml) {P : Fml → Prop} {s : List Fml × List Fml}, Eq2 P s → Eq2 (fun x => P x ∨ x ∈ l) (l.foldl stE s)
 | [], _, _, h => by
  refine ⟨h.n1, h.n2, fun x => ?_, fun x => ?_⟩
  ·rw [List.foldl_nil, h.m1]; simp
  ·rw [List.foldl_nil, h.m2]; simp
 | t :: l, P, s, h => by
  have h2 := eq2_fold l (eq2_step h t)
  rw [List.foldl_cons]
  refine ⟨h2.n1, h2.n2, fun x => ?_, fun x => ?_⟩
  ·rw [h2.m1, List.mem_cons, or_assoc]
  ·rw [h2.m2, List.mem_cons, or_assoc]
def el2 (t : Fml) : List Fml × List Fml := (pts t).foldl stE ([], [])
theorem el2_is (t : Fml) : Eq2 (fun x => x ∈ pts t) (el2 t) := by
 have h := eq2_fold (pts t) (P := fun _ => False) (s := ([], [])) ⟨List.nodup_nil, List.nodup_nil, fun x => by simp, fun x => by simp⟩
 refine ⟨h.n1, h.n2, fun x => ?_, fun x => ?_⟩
 ·show x ∈ ((pts t).foldl stE ([], [])).1 ↔ _; rw [h.m1]; simp
 ·show x ∈ ((pts t).foldl stE ([], [])).2 ↔ _; rw [h.m2]; simp
def els (t : Fml) : List Fml := srtN (el2 t).1 ++ (el2 t).2
theorem catF_mem {r : Nat → List Fml} {x : Fml} : ∀ n, x ∈ catF r n ↔ ∃ i, i < n ∧ x ∈ r i
 | 0 => by simp [catF]
 | n + 1 => by
  rw [catF, List.mem_append, catF_mem n]
  constructor
  ·rintro (⟨i, hi, h⟩ | h)
   ·exact ⟨i, by omega, h⟩
   ·exact ⟨n, by omega, h⟩
  ·rintro ⟨i, hi, h⟩
   by_cases e : i = n
   ·subst e; exact Or.inr h
   ·exact Or.inl ⟨i, by omega, h⟩
theorem pts_all {P : Fml → Prop} (hP : ∀ t, P t → ∀ i, i < t.cnt → P (t.kid i)) : ∀ t, P t → ∀ x ∈ pts t, P x := by
 intro t
 induction t using Fml.ind with
 | h t ih =>
  intro ht x hx
  rw [pts_eq, List.mem_cons, catF_mem] at hx
  rcases hx with rfl | ⟨i, hi, hx⟩
  ·exact ht
  ·exact ih i hi (hP t ht i hi) x hx
theorem atom_inj {x y : Fml} (hx : x.cnt = 0) (hy : y.cnt = 0) (hk : x.kind = y.kind) (hn : x.num = y.num) : x = y := by
 obtain ⟨k, n, c, kids⟩ := x
 obtain ⟨k2, n2, c2, kids2⟩ := y
 simp only at hx hy hk hn
 subst hx hy hk hn
 congr 1
 funext i
 exact i.elim0
theorem wf_atom {t : Fml} (h : Wf t) (h3 : t.kind = 3) : t.cnt = 0 := by
 have := (fit_kind h.out.1).2.2
 rw [h3] at this
 simp [ar] at this
 exact this
theorem el2_nums {t : Fml} (h : Wf t) : ((el2 t).1.map Fml.num).Nodup := by
 have hE := el2_is t
 have hw : ∀ x ∈ pts t, Wf x := pts_all (fun _ ht i hi => ht.out.2 i hi) t h
 rw [List.Nodup, List.pairwise_map]
 refine List.Pairwise.imp_of_mem ?_ hE.n1
 intro x y hx hy hne e
 obtain ⟨x1, x3⟩ := (hE.m1 x).1 hx
 obtain ⟨y1, y3⟩ := (hE.m1 y).1 hy
 exact hne (atom_inj (wf_atom (hw x x1) x3) (wf_atom (hw y y1) y3) (x3.trans y3.symm) e)
end Go.Proofs.YtmdpbaobihdgkaaGreatDoor
namespace Go.Proofs.YtmdpbaobihdgkaaGreatDoor
open Go.RowKit
theorem el2_len (t : Fml) : (el2 t).1.length + (el2 t).2.length ≤ (pts t).length := by
 have := fold_len (pts t) ([], [])
 simpa [el2] using this
theorem srtN_len (l : List Fml) : (srtN l).length = l.length := by simp [srtN]
set_option maxHeartbeats 2000000 in
theorem elements16 {w : World} {t : Fml} {a : Option Addr} {c : Nat} (hT : Kds w t a) (hwf : Wf t) (hlen : (pts t).length ≤ 999) :
  Calls Tryz.prog 16 #[.agg #[.int .i64 t.kind, .int .i64 t.num, .slice a t.cnt c]] w fun e w' => ∃ ea ec, e = .returned (.slice ea (els t).length ec) ∧ Hid (El w w' w.heap.size (els t).length (lf (els t)) (.slice ea (els t).length ec) ∧ Below w.heap.size w w') := by
 have htc := wf_big hwf
 obtain ⟨w1, hw1⟩ : ∃ y, y = w.alloc (.cells #[.int .i64 t.kind, .int .i64 t.num, .slice a t.cnt c] 24) := ⟨_, rfl⟩
 have s1 : w1.heap.size = w.heap.size + 1 := by rw [hw1]; simp
 obtain ⟨w2, hw2⟩ : ∃ y, y = w1.alloc (.cells #[.slice none 0 0] 22) := ⟨_, rfl⟩
 have s2 : w2.heap.size = w.heap.size + 1 + 1 := by rw [hw2, ← s1]; simp
 obtain ⟨w3, hw3⟩ : ∃ y, y = w2.alloc (.cells #[.slice none 0 0] 22) := ⟨_, rfl⟩
 have s3 : w3.heap.size = w.heap.size + 1 + 1 + 1 := by rw [hw3, ← s2]; simp
 have b1 : Below w.heap.size w w1 := by rw [hw1]; exact box_below _ _
 have b2 : Below w.heap.size w w2 := by rw [hw2]; exact b1.alloc (by omega) _
 have b3 : Below w.heap.size w w3 := by rw [hw3]; exact b2.alloc (by omega) _
 have xa : w3.heap[w.heap.size + 1]? = some (.cells #[.slice none 0 0] 22 (0, 0)) := by rw [hw3]; exact alloc_old _ (by rw [hw2]; exact alloc_last _ s1)
 have xo : w3.heap[w.heap.size + 1 + 1]? = some (.cells #[.slice none 0 0] 22 (0, 0)) := by rw [hw3]; exact alloc_last _ s2
 have hE : Ev w w3 (w.heap.size + 1) ([], []) (.slice none 0 0) (.slice none 0 0) := ⟨b3, by omega, xa, xo, El.start w w3 _ _, El.start w w3 _ _, fun g hg => by simp [Value.ownBlock] at hg⟩
 have C := hid (eachPart_any w (w.heap.size + 1) t ([], []) _ _ a c w3 hE (by simpa using hlen) hT htc)
 have HN := hid (el2_nums hwf)
 have HL : Hid ((el2 t).1.length + (el2 t).2.length ≤ 999) := hid (Nat.le_trans (el2_len t) hlen)
 have HU : Hid (w3 = (((w.alloc (.cells #[.int .i64 t.kind, .int .i64 t.num, .slice a t.cnt c] 24)).alloc (.cells #[.slice none 0 0] 22)).alloc (.cells #[.slice none 0 0] 22))) := hid (by rw [hw3, hw2, hw1])
 clear hw1 s1 hw2 s2 hw3 s3 b1 b2 b3 xa xo hE hT hwf hlen htc
 go_enter Tryz.func16, Tryz.ntmps16
 go_wp2_with fail
 rw [← HU.out]
 refine C.out.mono ?_
 rintro e z ⟨rfl, v1, v2, hz⟩
 have hz : Ev w z (w.heap.size + 1) (el2 t) v1 v2 := hz
 obtain ⟨a1, c1, e1, n1, r1⟩ := hz.la.ro
 obtain ⟨a2, c2, e2, n2, r2⟩ := hz.lo.ro
 have CS := hid (sort46 hz.la hz.bel (by have := HL.out; omega) HN.out)
 subst e1 e2
 have HZ := hid hz
 have p1 : z.cell? ⟨w.heap.size + 1, 0, none⟩ = some (.slice a1 (el2 t).1.length c1) := cell_of_cells hz.ca rfl
 have hvs := (jq4.1 hz.co).1
 clear hz C r1 r2
 generalize hn1 : (el2 t).1.length = m1 at *
 generalize hn2 : (el2 t).2.length = m2 at *
 have HM := hid (And.intro hn1 hn2)
 clear hn1 hn2
 go_wp2_with fail
 refine CS.out.mono ?_
 rintro e z2 ⟨rfl, hg⟩
 obtain ⟨hg, a1', c1', e1, hr⟩ := hg.out
 have hza := HZ.out.ca
 have hzo := HZ.out.co
 have o1 := HZ.out.la.own
 have o2 := HZ.out.lo.own
 have hk : ∀ k, k < z.heap.size → (Value.slice a1 m1 c1).ownBlock ≠ some k → z2.heap[k]? = z.heap[k]? := fun k hk hn => hg.block k hk (fun e => hn e.symm)
 have q1 : z2.cell? ⟨w.heap.size + 1, 0, none⟩ = some (.slice a1 m1 c1) := cell_of_cells ((hk _ (by omega) (fun e => by have := (o1 _ e).1; omega)).trans hza) rfl
 have q2 : z2.cell? ⟨w.heap.size + 1 + 1, 0, none⟩ = some (.slice a2 m2 c2) := cell_of_cells ((hk _ hvs (fun e => by have := (o1 _ e).1; omega)).trans hzo) rfl
 have hL2 : El w z2 (w.heap.size + 1 + 2) (el2 t).2.length (lf (el2 t).2) (.slice a2 m2 c2) := HZ.out.lo.stay (fun g hg2 => hk g (o2 g hg2).2 (fun e => HZ.out.ne g e hg2))
 have hb2 : Below w.heap.size w z2 := HZ.out.bel.grown hg HZ.out.bel.size (fun k hk => by have := (o1 k hk).1; omega)
 obtain ⟨a2', c2', e2, _, hr2⟩ := hL2.ro
 have f1 : a1' = a1 := by cases e1; rfl
 have f2 : a2' = a2 := by cases e2; rfl
 subst f1 f2
 obtain ⟨z3, hz3⟩ : ∃ y, y = z2.alloc (.cells #[.slice a1' m1 c1, .slice a2' m2 c2] 22) := ⟨_, rfl⟩
 have hb3 : Below z2.heap.size z2 z3 := by rw [hz3]; exact box_below _ _
 have C2 := hid (concat49 (w0 := w) (w := z3) (gb := z2.heap.size) (sa := a1') (sc := c1) (la := a2') (lc := c2) (l1 := srtN (el2 t).1) (l2 := (el2 t).2) (by rw [srtN_len, HM.out.1, hz3]; exact cell_of_alloc rfl) (by rw [HM.out.2, hz3]; exact cell_of_alloc rfl) (hr.below hb3) (hr2.below hb3) n1 n2 (by rw [srtN_len, HM.out.1, HM.out.2]; have := HL.out; omega))
 have HB : Hid (Below w.heap.size w z3) := hid (hb2.trans (hb3.mono hb2.size))
 have HW := hid hz3
 clear hg hr hza hzo o1 o2 hk hL2 hb2 e1 e2 hr2 hb3 hz3 CS p1 n1 n2 hz hvs
 go_wp2_with fail
 rw [← HW.out]
 refine C2.out.mono ?_
 rintro e z4 ⟨ea, ec, rfl, h4⟩
 have H4 : Hid (El w z4 w.heap.size (els t).length (lf (els t)) (.slice ea (els t).length ec) ∧ Below w.heap.size w z4) := hid ⟨h4.out.1.base HB.out.size, HB.out.trans (h4.out.2.mono HB.out.size)⟩
 have hl : (srtN (el2 t).1 ++ (el2 t).2).length = (els t).length := rfl
 rw [hl]
 clear h4 C2
 go_wp2
 go_ret
 exact ⟨ea, ec, rfl, H4⟩
end Go.Proofs.YtmdpbaobihdgkaaGreatDoor
namespace Go.Proofs.YtmdpbaobihdgkaaGreatDoor
open Go.RowKit
structure Ch (w0 w : World) (E : List Fml) (a : Option Addr) (c : Nat) : Prop where
 le : E.length ≤ 10
 bel : Below w0.heap.size w0 w
 ro : Ro w0 w a E
theorem Ch.below {w0 w w' : World} {E : List Fml} {a : Option Addr} {c : Nat} (h : Ch w0 w E a c) (hb : Below w.heap.size w w') : Ch w0 w' E a c :=
 ⟨h.le, h.bel.trans (hb.mono h.bel.size), h.ro.below hb⟩
set_option maxHeartbeats 1000000 in
theorem count58 (n : Nat) (a : Option Addr) (c : Nat) (w : World) (h : n ≤ 10) : Calls Tryz.prog 58 #[.agg #[.slice a n c]] w fun e w' => e = .returned (.int .i64 ((2 ^ n : Nat) : Int)) ∧ Below w.heap.size w w' := by
 have hn : n = 0 ∨ n = 1 ∨ n = 2 ∨ n = 3 ∨ n = 4 ∨ n = 5 ∨ n = 6 ∨ n = 7 ∨ n = 8 ∨ n = 9 ∨ n = 10 := by omega
 rcases hn with rfl | rfl | rfl | rfl | rfl | rfl | rfl | rfl | rfl | rfl | rfl <;>
 ·go_enter Tryz.func58, Tryz.ntmps58
  go_wp2
  go_ret
  exact ⟨ret_int (by decide), box_below _ _⟩
end Go.Proofs.YtmdpbaobihdgkaaGreatDoor
namespace Go.Proofs.YtmdpbaobihdgkaaGreatDoor
open Go.RowKit
theorem Tryz.info4 : (Tryz.prog.info? 4).map (fun i => (i.zero, i.size, i.bytes)) = some (some (.bool false), 1, 1) := by kernel_rfl
def NewB (w0 : World) (n : Nat) (F : Nat → Bool) (e : Ending) (w : World) : Prop :=
 ∃ b, e = .returned (.slice (some ⟨b, 0, none⟩) n n) ∧ w0.heap.size ≤ b ∧ w.rowIs b 4 n (fun i => .bool (F i)) ∧ Below w0.heap.size w0 w
theorem rowIs_rowB {w : World} {b n : Nat} {F : Nat → Bool} (h : w.rowIs b 4 n (fun i => .bool (F i))) : RowB w (some ⟨b, 0, none⟩) n F :=
 ⟨b, 0, fun _ => rfl, fun i hi => by rw [Nat.zero_add]; exact h.cell hi⟩
end Go.Proofs.YtmdpbaobihdgkaaGreatDoor
