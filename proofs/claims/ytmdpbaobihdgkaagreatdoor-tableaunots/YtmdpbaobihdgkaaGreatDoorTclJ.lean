/-   -/
import Derived.Test.YtmdpbaobihdgkaaGreatDoorTplJ
/- tableau: the atoms and the others of a formula, each once: what the closure of elementsOf does with one part. -/
/- tableau: eachPart: a formula and its parts, each ahead of its Kids. -/
namespace Go.Proofs.YtmdpbaobihdgkaaGreatDoor
open Go.RowKit
def lf (l : List Fml) (i : Nat) : Fml := l.getD i Fml.leaf
def addF (l : List Fml) (t : Fml) : List Fml := if plc t (lf l) l.length = -1 then l ++ [t] else l
theorem lf_new (l : List Fml) (t : Fml) (i : Nat) (h : i < l.length + 1) : lf (l ++ [t]) i = adR l.length (lf l) t i := by
 unfold lf adR
 by_cases e : i = l.length
 ·subst e; simp
 ·rw [if_neg e]
  simp only [List.getD_eq_getElem?_getD]
  rw [List.getElem?_append_left (by omega)]
theorem kvs_congr2 {r r' : Nat → Fml} {A : Nat → Option Addr} {C : Nat → Nat} : ∀ j, (∀ i, i < j → r i = r' i) → kvs r A C j = kvs r' A C j
 | 0, _ => rfl
 | j + 1, h => by rw [kvs, kvs, kvs_congr2 j (fun i hi => h i (by omega)), h j (by omega)]
theorem El.congr {w0 w : World} {base n : Nat} {r r' : Nat → Fml} {v : Value} (h : El w0 w base n r v) (e : ∀ i, i < n → r i = r' i) : El w0 w base n r' v := by
 obtain ⟨A, C, h1, h2⟩ := h.list
 exact ⟨A, C, by rw [← kvs_congr2 n e]; exact h1, fun i hi => by rw [← e i hi]; exact h2 i hi⟩
theorem addF_len (l : List Fml) (t : Fml) : (addF l t).length ≤ l.length + 1 := by
 unfold addF
 split <;> simp
def stE (s : List Fml × List Fml) (t : Fml) : List Fml × List Fml :=
 if t.kind = 3 then (addF s.1 t, s.2) else if t.kind = 7 ∨ t.kind = 8 ∨ t.kind = 9 then (s.1, addF s.2 t) else s
theorem stE_len (s : List Fml × List Fml) (t : Fml) : (stE s t).1.length + (stE s t).2.length ≤ s.1.length + s.2.length + 1 := by
 have h1 := addF_len s.1 t
 have h2 := addF_len s.2 t
 unfold stE
 split
 ·show (addF s.1 t).length + s.2.length ≤ _; omega
 ·split
  ·show s.1.length + (addF s.2 t).length ≤ _; omega
  ·omega
structure Ev (w0 w : World) (va : Nat) (s : List Fml × List Fml) (v1 v2 : Value) : Prop where
 bel : Below w0.heap.size w0 w
 le : w0.heap.size ≤ va
 ca : w.heap[va]? = some (.cells #[v1] 22 (0, 0))
 co : w.heap[va + 1]? = some (.cells #[v2] 22 (0, 0))
 la : El w0 w (va + 2) s.1.length (lf s.1) v1
 lo : El w0 w (va + 2) s.2.length (lf s.2) v2
 ne : ∀ g, v1.ownBlock = some g → v2.ownBlock ≠ some g
def Evk (w w' : World) (va : Nat) (v1 v2 : Value) : Prop := w.heap.size ≤ w'.heap.size ∧ ∀ k, k < w.heap.size → k ≠ va → k ≠ va + 1 → v1.ownBlock ≠ some k → v2.ownBlock ≠ some k → w'.heap[k]? = w.heap[k]?
theorem Ev.below {w0 w w' : World} {va : Nat} {s : List Fml × List Fml} {v1 v2 : Value} (h : Ev w0 w va s v1 v2) (hb : Below w.heap.size w w') : Ev w0 w' va s v1 v2 := by
 have b := h.bel.size
 have ha := (jq4.1 h.ca).1
 have ho := (jq4.1 h.co).1
 exact ⟨h.bel.trans (hb.mono b), h.le, (hb.block _ ha).trans h.ca, (hb.block _ ho).trans h.co, h.la.below hb, h.lo.below hb, h.ne⟩
theorem setCell_one {z : World} {b : Nat} {v : Value} (h : z.heap[b]? = some (.cells #[v] 22 (0, 0))) (x : Value) : (z.setCell ⟨b, 0, none⟩ x).heap[b]? = some (.cells #[x] 22 (0, 0)) := by
 unfold World.setCell
 simp only [Array.getElem?_modify, if_true, h, Option.map_some]
 rfl
theorem Ev.atom {w0 w z : World} {va : Nat} {s : List Fml × List Fml} {v1 v2 v' : Value} {t : Fml} (h : Ev w0 w va s v1 v2) (hw : Wp w0 w (va + 2) s.1.length (lf s.1) v1 t z v') :
  Ev w0 (z.setCell ⟨va, 0, none⟩ v') va (addF s.1 t, s.2) v' v2 ∧ Evk w (z.setCell ⟨va, 0, none⟩ v') va v1 v2 := by
 obtain ⟨g1, g2, g3⟩ := hw
 have hva := (jq4.1 h.ca).1
 have hvo := (jq4.1 h.co).1
 have o1 := h.la.own
 have o2 := h.lo.own
 have hle := h.le
 have hz : ∀ k, k < w.heap.size → v1.ownBlock ≠ some k → z.heap[k]? = w.heap[k]? := fun k hk hn => g1.block k hk (fun e => hn e.symm)
 have hs : ∀ k, k ≠ va → (z.setCell ⟨va, 0, none⟩ v').heap[k]? = z.heap[k]? := fun k hk => Go.Deep.blk_setCell_other _ _ _ _ hk
 have hsz : (z.setCell ⟨va, 0, none⟩ v').heap.size = z.heap.size := by simp [World.setCell]
 have za : z.heap[va]? = some (.cells #[v1] 22 (0, 0)) := (hz va hva (fun e => by have := (o1 _ e).1; omega)).trans h.ca
 have zo : z.heap[va + 1]? = some (.cells #[v2] 22 (0, 0)) := (hz (va + 1) hvo (fun e => by have := (o1 _ e).1; omega)).trans h.co
 have hB : Below w0.heap.size w0 z := by
  have b := h.bel
  exact ⟨g1.os.trans b.os, g1.tape.trans b.tape, g1.output.trans b.output, Nat.le_trans b.size g1.size, fun k hk => (hz k (by have := b.size; omega) (fun e => by have := (o1 _ e).1; omega)).trans (b.block k hk)⟩
 have L2 : El w0 z (va + 2) s.2.length (lf s.2) v2 := h.lo.stay (fun g hg => hz g (o2 g hg).2 (fun e => h.ne g e hg))
 have L1 : El w0 z (va + 2) (addF s.1 t).length (lf (addF s.1 t)) v' := by
  unfold addF
  by_cases e : plc t (lf s.1) s.1.length = -1
  ·rw [if_pos e] at g3 ⊢
   rw [List.length_append]
   exact g3.congr (fun i hi => (lf_new s.1 t i hi).symm)
  ·rw [if_neg e] at g3 ⊢
   exact g3
 have p1 := L1.own
 have p2 := L2.own
 refine ⟨⟨hB.setCell hle _, hle, setCell_one za v', (hs _ (by omega)).trans zo, L1.stay (fun g hg => hs g (by have := (p1 g hg).1; omega)), L2.stay (fun g hg => hs g (by have := (p2 g hg).1; omega)), fun g hg hg2 => ?_⟩, by rw [hsz]; exact g1.size, fun k hk h1 _ h3 _ => (hs k h1).trans (hz k hk h3)⟩
 rcases g2 with e | ⟨g', e, hg'⟩
 ·exact h.ne g (e.symm.trans hg) hg2
 ·have := (o2 g hg2).2
  rw [e] at hg
  have := Option.some.inj hg
  omega
theorem Ev.other {w0 w z : World} {va : Nat} {s : List Fml × List Fml} {v1 v2 v' : Value} {t : Fml} (h : Ev w0 w va s v1 v2) (hw : Wp w0 w (va + 2) s.2.length (lf s.2) v2 t z v') :
  Ev w0 (z.setCell ⟨va + 1, 0, none⟩ v') va (s.1, addF s.2 t) v1 v' ∧ Evk w (z.setCell ⟨va + 1, 0, none⟩ v') va v1 v2 := by
 obtain ⟨g1, g2, g3⟩ := hw
 have hva := (jq4.1 h.ca).1
 have hvo := (jq4.1 h.co).1
 have o1 := h.la.own
 have o2 := h.lo.own
 have hle := h.le
 have hz : ∀ k, k < w.heap.size → v2.ownBlock ≠ some k → z.heap[k]? = w.heap[k]? := fun k hk hn => g1.block k hk (fun e => hn e.symm)
 have hs : ∀ k, k ≠ va + 1 → (z.setCell ⟨va + 1, 0, none⟩ v').heap[k]? = z.heap[k]? := fun k hk => Go.Deep.blk_setCell_other _ _ _ _ hk
 have hsz : (z.setCell ⟨va + 1, 0, none⟩ v').heap.size = z.heap.size := by simp [World.setCell]
 have za : z.heap[va]? = some (.cells #[v1] 22 (0, 0)) := (hz va hva (fun e => by have := (o2 _ e).1; omega)).trans h.ca
 have zo : z.heap[va + 1]? = some (.cells #[v2] 22 (0, 0)) := (hz (va + 1) hvo (fun e => by have := (o2 _ e).1; omega)).trans h.co
 have hB : Below w0.heap.size w0 z := by
  have b := h.bel
  exact ⟨g1.os.trans b.os, g1.tape.trans b.tape, g1.output.trans b.output, Nat.le_trans b.size g1.size, fun k hk => (hz k (by have := b.size; omega) (fun e => by have := (o2 _ e).1; omega)).trans (b.block k hk)⟩
 have L1 : El w0 z (va + 2) s.1.length (lf s.1) v1 := h.la.stay (fun g hg => hz g (o1 g hg).2 (fun e => h.ne g hg e))
 have L2 : El w0 z (va + 2) (addF s.2 t).length (lf (addF s.2 t)) v' := by
  unfold addF
  by_cases e : plc t (lf s.2) s.2.length = -1
  ·rw [if_pos e] at g3 ⊢
   rw [List.length_append]
   exact g3.congr (fun i hi => (lf_new s.2 t i hi).symm)
  ·rw [if_neg e] at g3 ⊢
   exact g3
 have p1 := L1.own
 have p2 := L2.own
 refine ⟨⟨hB.setCell (show w0.heap.size ≤ va + 1 by omega) _, hle, (hs _ (by omega)).trans za, setCell_one zo v', L1.stay (fun g hg => hs g (by have := (p1 g hg).1; omega)), L2.stay (fun g hg => hs g (by have := (p2 g hg).1; omega)), fun g hg hg2 => ?_⟩, by rw [hsz]; exact g1.size, fun k hk _ h2 _ h4 => (hs k h2).trans (hz k hk h4)⟩
 rcases g2 with e | ⟨g', e, hg'⟩
 ·exact h.ne g hg (e.symm.trans hg2)
 ·have := (o1 g hg).2
  rw [e] at hg2
  have := Option.some.inj hg2
  omega
set_option maxHeartbeats 2000000 in
theorem cl44_atom {k x : Int} {ta : Option Addr} {c cc va vo : Nat} {v1 : Value} {w : World} {R : World → Value → Prop} (hk : k = 3) (hv : (w.alloc (.cells #[.int .i64 k, .int .i64 x, .slice ta c cc] 24)).cell? ⟨va, 0, none⟩ = some v1)
  (hR : ∀ z v', R z v' → ∃ u, z.heap[va]? = some (.cells #[u] 22 (0, 0)))
  (C : Calls Tryz.prog 45 #[v1, .agg #[.int .i64 k, .int .i64 x, .slice ta c cc]] (w.alloc (.cells #[.int .i64 k, .int .i64 x, .slice ta c cc] 24)) fun e z => ∃ sa sn sc, e = .returned (.slice sa sn sc) ∧ Hid (R z (.slice sa sn sc))) :
  Calls Tryz.prog 44 #[.agg #[.int .i64 k, .int .i64 x, .slice ta c cc], .pointer (some ⟨va, 0, none⟩), .pointer (some ⟨vo, 0, none⟩)] w fun e w' => e = .returned (.tuple #[]) ∧ ∃ z v', R z v' ∧ w' = z.setCell ⟨va, 0, none⟩ v' := by
 subst hk
 have HC := hid C
 have HR := hid hR
 clear C hR
 go_enter Tryz.func44, Tryz.ntmps44
 go_wp2_with fail
 refine HC.out.mono ?_
 rintro e z ⟨sa, sn, sc, rfl, hz⟩
 obtain ⟨u, hu⟩ := HR.out z _ hz.out
 have d0 : z.cell? ⟨va, 0, none⟩ = some u := cell_of_cells hu rfl
 have d1 : z.frozen? ⟨va, 0, none⟩ = false := by simp [World.frozen?, hu]
 clear hu
 go_wp2
 go_end0
 exact ⟨rfl, z, _, hz.out, rfl⟩
set_option maxHeartbeats 2000000 in
theorem cl44_o7 {k x : Int} {ta : Option Addr} {c cc va vo : Nat} {v1 : Value} {w : World} {R : World → Value → Prop} (hk : k = 7) (hv : (w.alloc (.cells #[.int .i64 k, .int .i64 x, .slice ta c cc] 24)).cell? ⟨vo, 0, none⟩ = some v1)
  (hR : ∀ z v', R z v' → ∃ u, z.heap[vo]? = some (.cells #[u] 22 (0, 0)))
  (C : Calls Tryz.prog 45 #[v1, .agg #[.int .i64 k, .int .i64 x, .slice ta c cc]] (w.alloc (.cells #[.int .i64 k, .int .i64 x, .slice ta c cc] 24)) fun e z => ∃ sa sn sc, e = .returned (.slice sa sn sc) ∧ Hid (R z (.slice sa sn sc))) :
  Calls Tryz.prog 44 #[.agg #[.int .i64 k, .int .i64 x, .slice ta c cc], .pointer (some ⟨va, 0, none⟩), .pointer (some ⟨vo, 0, none⟩)] w fun e w' => e = .returned (.tuple #[]) ∧ ∃ z v', R z v' ∧ w' = z.setCell ⟨vo, 0, none⟩ v' := by
 subst hk
 have HC := hid C
 have HR := hid hR
 clear C hR
 go_enter Tryz.func44, Tryz.ntmps44
 go_wp2_with fail
 refine HC.out.mono ?_
 rintro e z ⟨sa, sn, sc, rfl, hz⟩
 obtain ⟨u, hu⟩ := HR.out z _ hz.out
 have d0 : z.cell? ⟨vo, 0, none⟩ = some u := cell_of_cells hu rfl
 have d1 : z.frozen? ⟨vo, 0, none⟩ = false := by simp [World.frozen?, hu]
 clear hu
 go_wp2
 go_end0
 exact ⟨rfl, z, _, hz.out, rfl⟩
set_option maxHeartbeats 2000000 in
theorem cl44_o8 {k x : Int} {ta : Option Addr} {c cc va vo : Nat} {v1 : Value} {w : World} {R : World → Value → Prop} (hk : k = 8) (hv : (w.alloc (.cells #[.int .i64 k, .int .i64 x, .slice ta c cc] 24)).cell? ⟨vo, 0, none⟩ = some v1)
  (hR : ∀ z v', R z v' → ∃ u, z.heap[vo]? = some (.cells #[u] 22 (0, 0)))
  (C : Calls Tryz.prog 45 #[v1, .agg #[.int .i64 k, .int .i64 x, .slice ta c cc]] (w.alloc (.cells #[.int .i64 k, .int .i64 x, .slice ta c cc] 24)) fun e z => ∃ sa sn sc, e = .returned (.slice sa sn sc) ∧ Hid (R z (.slice sa sn sc))) :
  Calls Tryz.prog 44 #[.agg #[.int .i64 k, .int .i64 x, .slice ta c cc], .pointer (some ⟨va, 0, none⟩), .pointer (some ⟨vo, 0, none⟩)] w fun e w' => e = .returned (.tuple #[]) ∧ ∃ z v', R z v' ∧ w' = z.setCell ⟨vo, 0, none⟩ v' := by
 subst hk
 have HC := hid C
 have HR := hid hR
 clear C hR
 go_enter Tryz.func44, Tryz.ntmps44
 go_wp2_with fail
 refine HC.out.mono ?_
 rintro e z ⟨sa, sn, sc, rfl, hz⟩
 obtain ⟨u, hu⟩ := HR.out z _ hz.out
 have d0 : z.cell? ⟨vo, 0, none⟩ = some u := cell_of_cells hu rfl
 have d1 : z.frozen? ⟨vo, 0, none⟩ = false := by simp [World.frozen?, hu]
 clear hu
 go_wp2
 go_end0
 exact ⟨rfl, z, _, hz.out, rfl⟩
set_option maxHeartbeats 2000000 in
theorem cl44_o9 {k x : Int} {ta : Option Addr} {c cc va vo : Nat} {v1 : Value} {w : World} {R : World → Value → Prop} (hk : k = 9) (hv : (w.alloc (.cells #[.int .i64 k, .int .i64 x, .slice ta c cc] 24)).cell? ⟨vo, 0, none⟩ = some v1)
  (hR : ∀ z v', R z v' → ∃ u, z.heap[vo]? = some (.cells #[u] 22 (0, 0)))
  (C : Calls Tryz.prog 45 #[v1, .agg #[.int .i64 k, .int .i64 x, .slice ta c cc]] (w.alloc (.cells #[.int .i64 k, .int .i64 x, .slice ta c cc] 24)) fun e z => ∃ sa sn sc, e = .returned (.slice sa sn sc) ∧ Hid (R z (.slice sa sn sc))) :
  Calls Tryz.prog 44 #[.agg #[.int .i64 k, .int .i64 x, .slice ta c cc], .pointer (some ⟨va, 0, none⟩), .pointer (some ⟨vo, 0, none⟩)] w fun e w' => e = .returned (.tuple #[]) ∧ ∃ z v', R z v' ∧ w' = z.setCell ⟨vo, 0, none⟩ v' := by
 subst hk
 have HC := hid C
 have HR := hid hR
 clear C hR
 go_enter Tryz.func44, Tryz.ntmps44
 go_wp2_with fail
 refine HC.out.mono ?_
 rintro e z ⟨sa, sn, sc, rfl, hz⟩
 obtain ⟨u, hu⟩ := HR.out z _ hz.out
 have d0 : z.cell? ⟨vo, 0, none⟩ = some u := cell_of_cells hu rfl
 have d1 : z.frozen? ⟨vo, 0, none⟩ = false := by simp [World.frozen?, hu]
 clear hu
 go_wp2
 go_end0
 exact ⟨rfl, z, _, hz.out, rfl⟩
set_option maxHeartbeats 2000000 in
theorem cl44_none {k x : Int} {ta : Option Addr} {c cc va vo : Nat} {w : World} (h3 : k ≠ 3) (h7 : k ≠ 7) (h8 : k ≠ 8) (h9 : k ≠ 9) :
  Calls Tryz.prog 44 #[.agg #[.int .i64 k, .int .i64 x, .slice ta c cc], .pointer (some ⟨va, 0, none⟩), .pointer (some ⟨vo, 0, none⟩)] w fun e w' => e = .returned (.tuple #[]) ∧ Below w.heap.size w w' := by
 have b3 : (k == 3) = false := beq_eq_false_iff_ne.2 h3
 have b7 : (k == 7) = false := beq_eq_false_iff_ne.2 h7
 have b8 : (k == 8) = false := beq_eq_false_iff_ne.2 h8
 have b9 : (k == 9) = false := beq_eq_false_iff_ne.2 h9
 go_enter Tryz.func44, Tryz.ntmps44
 go_wp2
 go_end0
 exact ⟨rfl, box_below _ _⟩
theorem El.is {w0 w : World} {base n : Nat} {r : Nat → Fml} {v : Value} (h : El w0 w base n r v) : ∃ a c, v = .slice a n c := by
 obtain ⟨A, C, h1, h2⟩ := h.list
 rcases h1.2 with ⟨rfl, rfl⟩ | ⟨g, cap, cur, rfl, hg, hb, _⟩
 ·exact ⟨none, 0, rfl⟩
 ·exact ⟨_, _, rfl⟩
theorem Wp.is {w0 w z : World} {base n : Nat} {r : Nat → Fml} {v v' : Value} {t : Fml} (h : Wp w0 w base n r v t z v') : ∃ sa sn sc, v' = .slice sa sn sc := by
 obtain ⟨-, -, h3⟩ := h
 split at h3
 ·obtain ⟨a, c, e⟩ := h3.is; exact ⟨_, _, _, e⟩
 ·obtain ⟨a, c, e⟩ := h3.is; exact ⟨_, _, _, e⟩
theorem cl44_any {w0 w : World} {va : Nat} {s : List Fml × List Fml} {v1 v2 : Value} {t : Fml} {ta : Option Addr} {cc : Nat} (h : Ev w0 w va s v1 v2) (hn : s.1.length + s.2.length ≤ 999) (ht : Kds w0 t ta) (htc : t.cnt ≤ 9223372036854775807) :
  Calls Tryz.prog 44 #[.agg #[.int .i64 t.kind, .int .i64 t.num, .slice ta t.cnt cc], .pointer (some ⟨va, 0, none⟩), .pointer (some ⟨va + 1, 0, none⟩)] w fun e w' => e = .returned (.tuple #[]) ∧ ∃ u1 u2, Ev w0 w' va (stE s t) u1 u2 ∧ Evk w w' va v1 v2 := by
 have hB := box_below w (.cells #[.int .i64 t.kind, .int .i64 t.num, .slice ta t.cnt cc] 24)
 have h' := h.below hB
 have hs2 : va + 2 ≤ (w.alloc (.cells #[.int .i64 t.kind, .int .i64 t.num, .slice ta t.cnt cc] 24)).heap.size := by
  have := (jq4.1 h'.co).1
  omega
 have hk2 : ∀ w', Evk (w.alloc (.cells #[.int .i64 t.kind, .int .i64 t.num, .slice ta t.cnt cc] 24)) w' va v1 v2 → Evk w w' va v1 v2 := fun w' q => ⟨Nat.le_trans hB.size q.1, fun k hk a1 a2 a3 a4 => (q.2 k (Nat.lt_of_lt_of_le hk hB.size) a1 a2 a3 a4).trans (hB.block k hk)⟩
 have C1 := with45 (c := cc) h'.bel h'.la hs2 (by omega) ht htc
 have C2 := with45 (c := cc) h'.bel h'.lo hs2 (by omega) ht htc
 have D1 : (w.alloc (.cells #[.int .i64 t.kind, .int .i64 t.num, .slice ta t.cnt cc] 24)).cell? ⟨va, 0, none⟩ = some v1 := cell_of_cells h'.ca rfl
 have D2 : (w.alloc (.cells #[.int .i64 t.kind, .int .i64 t.num, .slice ta t.cnt cc] 24)).cell? ⟨va + 1, 0, none⟩ = some v2 := cell_of_cells h'.co rfl
 have R1 : ∀ z v', Wp w0 (w.alloc (.cells #[.int .i64 t.kind, .int .i64 t.num, .slice ta t.cnt cc] 24)) (va + 2) s.1.length (lf s.1) v1 t z v' → ∃ u, z.heap[va]? = some (.cells #[u] 22 (0, 0)) := fun z v' q =>
  ⟨v1, (q.1.block va (jq4.1 h'.ca).1 (fun e => by have := (h'.la.own va e.symm).1; omega)).trans h'.ca⟩
 have R2 : ∀ z v', Wp w0 (w.alloc (.cells #[.int .i64 t.kind, .int .i64 t.num, .slice ta t.cnt cc] 24)) (va + 2) s.2.length (lf s.2) v2 t z v' → ∃ u, z.heap[va + 1]? = some (.cells #[u] 22 (0, 0)) := fun z v' q =>
  ⟨v2, (q.1.block (va + 1) (jq4.1 h'.co).1 (fun e => by have := (h'.lo.own (va + 1) e.symm).1; omega)).trans h'.co⟩
 have C1' := C1.mono (fun e z (q : ∃ v', e = .returned v' ∧ Hid (Wp w0 (w.alloc (.cells #[.int .i64 t.kind, .int .i64 t.num, .slice ta t.cnt cc] 24)) (va + 2) s.1.length (lf s.1) v1 t z v')) => (by
  obtain ⟨v', e1, e2⟩ := q
  obtain ⟨sa, sn, sc, rfl⟩ := e2.out.is
  exact ⟨sa, sn, sc, e1, e2⟩ : ∃ sa sn sc, e = .returned (.slice sa sn sc) ∧ Hid (Wp w0 (w.alloc (.cells #[.int .i64 t.kind, .int .i64 t.num, .slice ta t.cnt cc] 24)) (va + 2) s.1.length (lf s.1) v1 t z (.slice sa sn sc))))
 have C2' := C2.mono (fun e z (q : ∃ v', e = .returned v' ∧ Hid (Wp w0 (w.alloc (.cells #[.int .i64 t.kind, .int .i64 t.num, .slice ta t.cnt cc] 24)) (va + 2) s.2.length (lf s.2) v2 t z v')) => (by
  obtain ⟨v', e1, e2⟩ := q
  obtain ⟨sa, sn, sc, rfl⟩ := e2.out.is
  exact ⟨sa, sn, sc, e1, e2⟩ : ∃ sa sn sc, e = .returned (.slice sa sn sc) ∧ Hid (Wp w0 (w.alloc (.cells #[.int .i64 t.kind, .int .i64 t.num, .slice ta t.cnt cc] 24)) (va + 2) s.2.length (lf s.2) v2 t z (.slice sa sn sc))))
 unfold stE
 by_cases h3 : t.kind = 3
 ·rw [if_pos h3]
  refine (cl44_atom h3 D1 R1 C1').mono ?_
  rintro e w' ⟨rfl, z, v', hz, rfl⟩
  obtain ⟨E1, E2⟩ := h'.atom hz
  exact ⟨rfl, _, _, E1, hk2 _ E2⟩
 rw [if_neg h3]
 by_cases h7 : t.kind = 7
 ·rw [if_pos (Or.inl h7)]
  refine (cl44_o7 h7 D2 R2 C2').mono ?_
  rintro e w' ⟨rfl, z, v', hz, rfl⟩
  obtain ⟨E1, E2⟩ := h'.other hz
  exact ⟨rfl, _, _, E1, hk2 _ E2⟩
 by_cases h8 : t.kind = 8
 ·rw [if_pos (Or.inr (Or.inl h8))]
  refine (cl44_o8 h8 D2 R2 C2').mono ?_
  rintro e w' ⟨rfl, z, v', hz, rfl⟩
  obtain ⟨E1, E2⟩ := h'.other hz
  exact ⟨rfl, _, _, E1, hk2 _ E2⟩
 by_cases h9 : t.kind = 9
 ·rw [if_pos (Or.inr (Or.inr h9))]
  refine (cl44_o9 h9 D2 R2 C2').mono ?_
  rintro e w' ⟨rfl, z, v', hz, rfl⟩
  obtain ⟨E1, E2⟩ := h'.other hz
  exact ⟨rfl, _, _, E1, hk2 _ E2⟩
 rw [if_neg (by rintro (q | q | q); exact h7 q; exact h8 q; exact h9 q)]
 refine (cl44_none h3 h7 h8 h9).mono ?_
 rintro e w' ⟨rfl, hb⟩
 exact ⟨rfl, _, _, h.below hb, hb.size, fun k hk _ _ _ _ => hb.block k hk⟩
end Go.Proofs.YtmdpbaobihdgkaaGreatDoor
namespace Go.Proofs.YtmdpbaobihdgkaaGreatDoor
open Go.RowKit
def catF (r : Nat → List Fml) : Nat → List Fml
 | 0 => []
 | n + 1 => catF r n ++ r n
theorem catF_congr {r q : Nat → List Fml} : ∀ n, (∀ i, i < n → r i = q i) → catF r n = catF q n
 | 0, _ => rfl
 | n + 1, h => by rw [catF, catF, catF_congr n (fun i hi => h i (by omega)), h n (by omega)]
def ptsF (t : Fml) (r : Nat → List Fml) : List Fml := t :: catF r t.cnt
def pts (t : Fml) : List Fml := t.red [] ptsF
theorem pts_eq (t : Fml) : pts t = t :: catF (fun i => pts (t.kid i)) t.cnt := by
 have e : pts t = ptsF t (t.reds [] ptsF) := Fml.red_eq _ _ t
 rw [e, ptsF]
 exact congrArg (List.cons t) (catF_congr t.cnt (fun i hi => Fml.reds_at hi))
theorem catF_le {r : Nat → List Fml} : ∀ n k, k ≤ n → (catF r k).length ≤ (catF r n).length
 | 0, k, h => by obtain rfl : k = 0 := by omega
                 exact Nat.le_refl _
 | n + 1, k, h => by
  by_cases e : k = n + 1
  ·subst e; exact Nat.le_refl _
  ·rw [catF, List.length_append]
   have := catF_le (r := r) n k (by omega)
   omega
theorem fold_len (l : List Fml) : ∀ s, (l.foldl stE s).1.length + (l.foldl stE s).2.length ≤ s.1.length + s.2.length + l.length := by
 induction l with
 | nil => intro s; exact Nat.le_refl _
 | cons x l ih =>
  intro s
  rw [List.foldl_cons, List.length_cons]
  have h1 := ih (stE s x)
  have h2 := stE_len s x
  omega
def Ep (w0 : World) (va : Nat) (t : Fml) : Prop := ∀ (s : List Fml × List Fml) (v1 v2 : Value) (ta : Option Addr) (tc : Nat) (w : World), Ev w0 w va s v1 v2 → s.1.length + s.2.length + (pts t).length ≤ 999 → Kds w0 t ta → t.cnt ≤ 9223372036854775807 →
 Calls Tryz.prog 43 #[.agg #[.int .i64 t.kind, .int .i64 t.num, .slice ta t.cnt tc], .func (.func 44) #[] #[.pointer (some ⟨va, 0, none⟩), .pointer (some ⟨va + 1, 0, none⟩)]] w fun e w' => e = .returned (.tuple #[]) ∧ ∃ u1 u2, Ev w0 w' va ((pts t).foldl stE s) u1 u2
set_option maxHeartbeats 2000000 in
theorem eachPart_any (w0 : World) (va : Nat) : ∀ t, Ep w0 va t := by
 intro t
 induction t using Fml.ind with
 | h t ih =>
 intro s v1 v2 ta tc w hE hL hT htc
 obtain ⟨b, o, ha, hk⟩ := hT.out
 obtain ⟨w1, hw1⟩ : ∃ y, y = w.alloc (.cells #[.int .i64 t.kind, .int .i64 t.num, .slice ta t.cnt tc] 24) := ⟨_, rfl⟩
 have hB1 : Below w.heap.size w w1 := by rw [hw1]; exact box_below _ _
 have x1 : Tri w1 w.heap.size (.int .i64 t.kind) (.int .i64 t.num) (.slice ta t.cnt tc) := by rw [hw1]; exact tri_new _ _ _ _
 have C := hid (cl44_any (cc := tc) (hE.below hB1) (by omega) hT htc)
 have hvw := (jq4.1 hE.co).1
 have o1 := hE.la.own
 have o2 := hE.lo.own
 have HX : Hid (∀ z, Evk w1 z va v1 v2 → Tri z w.heap.size (.int .i64 t.kind) (.int .i64 t.num) (.slice ta t.cnt tc)) := fun z hz =>
  (hz.2 w.heap.size x1.lt (by omega) (by omega) (fun e => by have := (o1 _ e).2; omega) (fun e => by have := (o2 _ e).2; omega)).trans x1
 have HA := hid ha
 have HK := hid hk
 have hpl : (pts t).length = 1 + (catF (fun i => pts (t.kid i)) t.cnt).length := by rw [pts_eq, List.length_cons]; omega
 have HIH : Hid (∀ k, k < t.cnt → ∀ (w : World) (v1 v2 : Value) (ai : Option Addr) (ci : Nat), Ev w0 w va ((t :: catF (fun i => pts (t.kid i)) k).foldl stE s) v1 v2 → Kds w0 (t.kid k) ai → (t.kid k).cnt ≤ 9223372036854775807 →
   Calls Tryz.prog 43 #[.agg #[.int .i64 (t.kid k).kind, .int .i64 (t.kid k).num, .slice ai (t.kid k).cnt ci], .func (.func 44) #[] #[.pointer (some ⟨va, 0, none⟩), .pointer (some ⟨va + 1, 0, none⟩)]] w fun e w' => e = .returned (.tuple #[]) ∧ ∃ u1 u2, Ev w0 w' va ((t :: catF (fun i => pts (t.kid i)) (k + 1)).foldl stE s) u1 u2) := fun k hk w v1 v2 ai ci h1 h2 h3 => by
  have e : ((t :: catF (fun i => pts (t.kid i)) (k + 1)).foldl stE s) = (pts (t.kid k)).foldl stE ((t :: catF (fun i => pts (t.kid i)) k).foldl stE s) := by
   rw [catF, ← List.cons_append, List.foldl_append]
  rw [e]
  refine ih k hk _ v1 v2 ai ci w h1 ?_ h2 h3
  have l1 := fold_len (t :: catF (fun i => pts (t.kid i)) k) s
  have l2 := catF_le (r := fun i => pts (t.kid i)) t.cnt (k + 1) (by omega)
  rw [catF, List.length_append] at l2
  rw [List.length_cons] at l1
  omega
 have HP : Hid (pts t = t :: catF (fun i => pts (t.kid i)) t.cnt) := pts_eq t
 have HW := hid hw1
 have HTC := hid htc
 clear hE hT htc ha hk hw1 x1 ih hB1 hL hpl o1 o2 hvw
 go_enter Tryz.func43, Tryz.ntmps43
 go_wp2_with fail
 rw [← HW.out]
 refine C.out.mono ?_
 rintro e z ⟨rfl, u1, u2, hz1, hz2⟩
 obtain ⟨⟨d0, d1, d2⟩, -⟩ := tri_cells (HX.out z hz2)
 have HZ : Hid (Ev w0 z va ((t :: catF (fun i => pts (t.kid i)) 0).foldl stE s) u1 u2) := hz1
 clear hz1 hz2 C HX
 have htz : (t.cnt : Int) ≤ 9223372036854775807 := by have := HTC.out; omega
 go_wp2
 go_loopw [12] (fun i wr => ∃ k : Nat, k ≤ t.cnt ∧ i = .int .i64 k ∧ ∃ u1 u2, Hid (Ev w0 wr va ((t :: catF (fun i => pts (t.kid i)) k).foldl stE s) u1 u2)) (fun i _ => t.cnt - (intOf i).toNat)
 case atStart => exact ⟨0, Nat.zero_le _, rfl, _, _, HZ⟩
 case round =>
  obtain ⟨k, hkc, rfl, y1, y2, HY⟩ := hrel
  by_cases hlt : k < t.cnt
  ·obtain rfl := HA.out (by omega)
   obtain ⟨ai, ci, e1, e2, e3, e4, e5⟩ := HK.out k hlt
   have f1 := below_cell HY.out.bel jq0 e1
   have f2 := below_cell HY.out.bel jq0 e2
   have f3 := below_cell HY.out.bel jq0 e3
   have hkz : (k : Int) < t.cnt := by omega
   have C := hid (HIH.out k hlt (wr.alloc (.cells #[.int .i64 (t.kid k).kind, .int .i64 (t.kid k).num, .slice ai (t.kid k).cnt ci] 24)) y1 y2 ai ci (HY.out.below (box_below _ _)) e5 e4)
   obtain ⟨kk, hkk⟩ : ∃ x, x = t.kid k := ⟨_, rfl⟩
   rw [← hkk] at f1 f2 f3 C
   clear hkk e1 e2 e3 e4 e5 d0 d1 d2
   go_wp2_with fail
   refine C.out.mono ?_
   rintro e z ⟨rfl, q1, q2, hq⟩
   have HQ := hid hq
   clear hq C
   go_wp2
   go_roundw
   case rel => exact ⟨k + 1, by omega, by go_num, q1, q2, HQ⟩
   case measure => simp [intOf]; omega
  ·obtain rfl : k = t.cnt := by omega
   go_wp2
   go_end0
   exact ⟨rfl, y1, y2, by rw [HP.out]; exact HY.out⟩
end Go.Proofs.YtmdpbaobihdgkaaGreatDoor
