/-   each, over each of the closures that it is handed. -/
import Derived.Test.YtmdpbaobihdgkaaGreatDoorTccJ
import Derived.Deep.Heap
import Derived.Deep.RegionHeld3
import Derived.Laws.BitsLemmas
import Derived.Test.YtmdpbaobihdgkaaGreatDoorRwsJ
/- tableau: elementsOf, in memory. -/
/- tableau: choices: how many, chosen. -/
namespace Go.Proofs.YtmdpbaobihdgkaaGreatDoor
open Go.RowKit

theorem el2_len (t : Fml) : (el2 t).1.length + (el2 t).2.length ≤ (pts t).length := by
  have := fold_len (pts t) ([], [])
  simpa [el2] using this

theorem srtN_len (l : List Fml) : (srtN l).length = l.length := by simp [srtN]

set_option maxHeartbeats 2000000 in
theorem elements16 {w : World} {t : Fml} {a : Option Addr} {c : Nat} (hT : Kds w t a) (hwf : Wf t) (hlen : (pts t).length ≤ 999) :
    Calls Tryz.prog 16 #[.agg #[.int .i64 t.kind, .int .i64 t.num, .slice a t.cnt c]] w fun e w' => ∃ ea ec, e = .returned (.slice ea (els t).length ec) ∧ Hid (El w w' w.heap.size (els t).length (lf (els t)) (.slice ea (els t).length ec) ∧ Below w.heap.size w w') := by
  have htc := wf_big hwf
  obtain ⟨w1, hw1⟩ : ∃ y, y = w.alloc (.cells #[.int .i64 t.kind, .int .i64 t.num, .slice a t.cnt c] 24) := ⟨_, rfl⟩
  have s1 : w1.heap.size = w.heap.size + 1 := by rw [hw1]; simp
  obtain ⟨w2, hw2⟩ : ∃ y, y = w1.alloc (.cells #[.slice none 0 0] 22) := ⟨_, rfl⟩
  have s2 : w2.heap.size = w.heap.size + 1 + 1 := by rw [hw2, ← s1]; simp
  obtain ⟨w3, hw3⟩ : ∃ y, y = w2.alloc (.cells #[.slice none 0 0] 22) := ⟨_, rfl⟩
  have s3 : w3.heap.size = w.heap.size + 1 + 1 + 1 := by rw [hw3, ← s2]; simp
  have b1 : Below w.heap.size w w1 := by rw [hw1]; exact box_below _ _
  have b2 : Below w.heap.size w w2 := by rw [hw2]; exact b1.alloc (by omega) _
  have b3 : Below w.heap.size w w3 := by rw [hw3]; exact b2.alloc (by omega) _
  have xa : w3.heap[w.heap.size + 1]? = some (.cells #[.slice none 0 0] 22 (0, 0)) := by rw [hw3]; exact alloc_old _ (by rw [hw2]; exact alloc_last _ s1)
  have xo : w3.heap[w.heap.size + 1 + 1]? = some (.cells #[.slice none 0 0] 22 (0, 0)) := by rw [hw3]; exact alloc_last _ s2
  have hE : Ev w w3 (w.heap.size + 1) ([], []) (.slice none 0 0) (.slice none 0 0) := ⟨b3, by omega, xa, xo, El.start w w3 _ _, El.start w w3 _ _, fun g hg => by simp [Value.ownBlock] at hg⟩
  have C := hid (eachPart_any w (w.heap.size + 1) t ([], []) _ _ a c w3 hE (by simpa using hlen) hT htc)
  have HN := hid (el2_nums hwf)
  have HL : Hid ((el2 t).1.length + (el2 t).2.length ≤ 999) := hid (Nat.le_trans (el2_len t) hlen)
  have HU : Hid (w3 = (((w.alloc (.cells #[.int .i64 t.kind, .int .i64 t.num, .slice a t.cnt c] 24)).alloc (.cells #[.slice none 0 0] 22)).alloc (.cells #[.slice none 0 0] 22))) := hid (by rw [hw3, hw2, hw1])
  clear hw1 s1 hw2 s2 hw3 s3 b1 b2 b3 xa xo hE hT hwf hlen htc
  go_enter Tryz.func16, Tryz.ntmps16
  go_wp2_with fail
  rw [← HU.out]
  refine C.out.mono ?_
  rintro e z ⟨rfl, v1, v2, hz⟩
  have hz : Ev w z (w.heap.size + 1) (el2 t) v1 v2 := hz
  obtain ⟨a1, c1, e1, n1, r1⟩ := hz.la.ro
  obtain ⟨a2, c2, e2, n2, r2⟩ := hz.lo.ro
  have CS := hid (sort46 hz.la hz.bel (by have := HL.out; omega) HN.out)
  subst e1 e2
  have HZ := hid hz
  have p1 : z.cell? ⟨w.heap.size + 1, 0, none⟩ = some (.slice a1 (el2 t).1.length c1) := cell_of_cells hz.ca rfl
  have hvs := (Array.getElem?_eq_some_iff.1 hz.co).1
  clear hz C r1 r2
  generalize hn1 : (el2 t).1.length = m1 at *
  generalize hn2 : (el2 t).2.length = m2 at *
  have HM := hid (And.intro hn1 hn2)
  clear hn1 hn2
  go_wp2_with fail
  refine CS.out.mono ?_
  rintro e z2 ⟨rfl, hg⟩
  obtain ⟨hg, a1', c1', e1, hr⟩ := hg.out
  have hza := HZ.out.ca
  have hzo := HZ.out.co
  have o1 := HZ.out.la.own
  have o2 := HZ.out.lo.own
  have hk : ∀ k, k < z.heap.size → (Value.slice a1 m1 c1).ownBlock ≠ some k → z2.heap[k]? = z.heap[k]? := fun k hk hn => hg.block k hk (fun e => hn e.symm)
  have q1 : z2.cell? ⟨w.heap.size + 1, 0, none⟩ = some (.slice a1 m1 c1) := cell_of_cells ((hk _ (by omega) (fun e => by have := (o1 _ e).1; omega)).trans hza) rfl
  have q2 : z2.cell? ⟨w.heap.size + 1 + 1, 0, none⟩ = some (.slice a2 m2 c2) := cell_of_cells ((hk _ hvs (fun e => by have := (o1 _ e).1; omega)).trans hzo) rfl
  have hL2 : El w z2 (w.heap.size + 1 + 2) (el2 t).2.length (lf (el2 t).2) (.slice a2 m2 c2) := HZ.out.lo.stay (fun g hg2 => hk g (o2 g hg2).2 (fun e => HZ.out.ne g e hg2))
  have hb2 : Below w.heap.size w z2 := HZ.out.bel.grown hg HZ.out.bel.size (fun k hk => by have := (o1 k hk).1; omega)
  obtain ⟨a2', c2', e2, _, hr2⟩ := hL2.ro
  have f1 : a1' = a1 := by cases e1; rfl
  have f2 : a2' = a2 := by cases e2; rfl
  subst f1 f2
  obtain ⟨z3, hz3⟩ : ∃ y, y = z2.alloc (.cells #[.slice a1' m1 c1, .slice a2' m2 c2] 22) := ⟨_, rfl⟩
  have hb3 : Below z2.heap.size z2 z3 := by rw [hz3]; exact box_below _ _
  have C2 := hid (concat49 (w0 := w) (w := z3) (gb := z2.heap.size) (sa := a1') (sc := c1) (la := a2') (lc := c2) (l1 := srtN (el2 t).1) (l2 := (el2 t).2) (by rw [srtN_len, HM.out.1, hz3]; exact cell_of_alloc rfl) (by rw [HM.out.2, hz3]; exact cell_of_alloc rfl) (hr.below hb3) (hr2.below hb3) n1 n2 (by rw [srtN_len, HM.out.1, HM.out.2]; have := HL.out; omega))
  have HB : Hid (Below w.heap.size w z3) := hid (hb2.trans (hb3.mono hb2.size))
  have HW := hid hz3
  clear hg hr hza hzo o1 o2 hk hL2 hb2 e1 e2 hr2 hb3 hz3 CS p1 n1 n2 hz hvs
  go_wp2_with fail
  rw [← HW.out]
  refine C2.out.mono ?_
  rintro e z4 ⟨ea, ec, rfl, h4⟩
  have H4 : Hid (El w z4 w.heap.size (els t).length (lf (els t)) (.slice ea (els t).length ec) ∧ Below w.heap.size w z4) := hid ⟨h4.out.1.base HB.out.size, HB.out.trans (h4.out.2.mono HB.out.size)⟩
  have hl : (srtN (el2 t).1 ++ (el2 t).2).length = (els t).length := rfl
  rw [hl]
  clear h4 C2
  go_wp2
  go_ret
  exact ⟨ea, ec, rfl, H4⟩
end Go.Proofs.YtmdpbaobihdgkaaGreatDoor

namespace Go.Proofs.YtmdpbaobihdgkaaGreatDoor
open Go.RowKit

/-- The choices of n elements, in memory: the elements lie at a. -/
structure Ch (w0 w : World) (E : List Fml) (a : Option Addr) (c : Nat) : Prop where
  le : E.length ≤ 10
  bel : Below w0.heap.size w0 w
  ro : Ro w0 w a E

theorem Ch.below {w0 w w' : World} {E : List Fml} {a : Option Addr} {c : Nat} (h : Ch w0 w E a c) (hb : Below w.heap.size w w') : Ch w0 w' E a c :=
  ⟨h.le, h.bel.trans (hb.mono h.bel.size), h.ro.below hb⟩

set_option maxHeartbeats 1000000 in
theorem count58 (n : Nat) (a : Option Addr) (c : Nat) (w : World) (h : n ≤ 10) : Calls Tryz.prog 58 #[.agg #[.slice a n c]] w fun e w' => e = .returned (.int .i64 ((2 ^ n : Nat) : Int)) ∧ Below w.heap.size w w' := by
  have hn : n = 0 ∨ n = 1 ∨ n = 2 ∨ n = 3 ∨ n = 4 ∨ n = 5 ∨ n = 6 ∨ n = 7 ∨ n = 8 ∨ n = 9 ∨ n = 10 := by omega
  rcases hn with rfl | rfl | rfl | rfl | rfl | rfl | rfl | rfl | rfl | rfl | rfl <;>
  · go_enter Tryz.func58, Tryz.ntmps58
    go_wp2
    go_ret
    exact ⟨ret_int (by decide), box_below _ _⟩
end Go.Proofs.YtmdpbaobihdgkaaGreatDoor

namespace Go.Proofs.YtmdpbaobihdgkaaGreatDoor
open Go.RowKit

theorem Tryz.info4 : (Tryz.prog.info? 4).map (fun i => (i.zero, i.size, i.bytes)) = some (some (.bool false), 1, 1) := by kernel_rfl

/-- A new list of n bools. -/
def NewB (w0 : World) (n : Nat) (F : Nat → Bool) (e : Ending) (w : World) : Prop :=
  ∃ b, e = .returned (.slice (some ⟨b, 0, none⟩) n n) ∧ w0.heap.size ≤ b ∧ w.rowIs b 4 n (fun i => .bool (F i)) ∧ Below w0.heap.size w0 w

theorem rowIs_rowB {w : World} {b n : Nat} {F : Nat → Bool} (h : w.rowIs b 4 n (fun i => .bool (F i))) : RowB w (some ⟨b, 0, none⟩) n F :=
  ⟨b, 0, fun _ => rfl, fun i hi => by rw [Nat.zero_add]; exact h.cell hi⟩

end Go.Proofs.YtmdpbaobihdgkaaGreatDoor
