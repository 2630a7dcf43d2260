/- The document's ReadProcess: what its loops keep. -/
import Derived.Test.YtnpdkpbhkjnbhaaDoorRefLines
import Derived.Test.YtnpdkpbhkjnbhaaDoorRefText
import Derived.Test.YtnpdkpbhkjnbhaaDoorParse
import Derived.Test.YtnpdkpbhkjnbhaaDoorRefProc
namespace Go.Proofs.YtnpdkpbhkjnbhaaDoor
open Go.RowKit

theorem Tryd.info62 : (Tryd.prog.info? 62).map (fun i => (i.zero, i.size, i.bytes)) = some (some (.slice none 0 0), 1, 24) := by kernel_rfl

/-- Blocks of strings stay. -/
def K9 (w w' : World) : Prop := ∀ (k : Nat) c z, w.heap[k]? = some (Obj.cells c 9 z) → w'.heap[k]? = some (Obj.cells c 9 z)

theorem K9.refl (w : World) : K9 w w := fun _ _ _ h => h
theorem K9.trans {u v w : World} (h : K9 u v) (g : K9 v w) : K9 u w := fun k c z hk => g k c z (h k c z hk)
theorem k9_below {w w' : World} (h : Below w.heap.size w w') : K9 w w' := fun k _ _ hk => (h.block k (Array.getElem?_eq_some_iff.1 hk).1).trans hk
theorem k9_set {w : World} {d i : Nat} {cs : Array Value} {t : TypeId} {z : Nat × Nat} {u : Value} (h : w.heap[d]? = some (.cells cs t z)) (ht : t ≠ 9) : K9 w (w.setCell ⟨d, i, none⟩ u) := fun k c z' hk => by
  have hne : k ≠ d := fun e => by subst e; rw [h] at hk; cases hk; exact ht rfl
  exact (Go.Deep.blk_setCell_other _ _ _ _ hne).trans hk
theorem k9_grown {w w' : World} {B e s n : Nat} {v : Value} {xs : List Value} (h : w.grownBy w' v.ownBlock) (ho : w.ownsRow B e s v n xs) (he : e ≠ 9) : K9 w w' := fun k c z hk => by
  refine (h.block k (Array.getElem?_eq_some_iff.1 hk).1 (fun e1 => ?_)).trans hk
  obtain ⟨c', hc'⟩ := ownBlock_own2 ho k e1.symm
  rw [hk] at hc'
  cases hc'
  exact he rfl

/-- Words lie in block g. -/
def Ws (w : World) (g : Nat) (l : List (List UInt8)) : Prop := ∃ cur : Array Value, w.heap[g]? = some (.cells cur 9 (0, 0)) ∧ ∀ i, i < l.length → cur[i]? = some (.string (byt (l.getD i [])))

theorem Ws.k9 {w w' : World} {g : Nat} {l : List (List UInt8)} (h : Ws w g l) (hk : K9 w w') : Ws w' g l := by
  obtain ⟨cur, h1, h2⟩ := h
  exact ⟨cur, hk g cur _ h1, h2⟩

theorem Ws.cell {w : World} {g : Nat} {l : List (List UInt8)} (h : Ws w g l) {i : Nat} (hi : i < l.length) : w.cell? ⟨g, i, none⟩ = some (.string (byt (l.getD i []))) := by
  obtain ⟨cur, h1, h2⟩ := h
  exact cell_of_cells h1 (h2 i hi)

theorem ws_of {w : World} {B g n c : Nat} {l : List (List UInt8)} (h : w.ownsRow B 9 1 (.slice (some ⟨g, 0, none⟩) n c) n (strs l)) (hn : n = l.length) : Ws w g l := by
  rcases h.2 with ⟨h1, _⟩ | ⟨g', cap, cur, h1, _, h3, _, _, _, h7⟩
  · cases h1
  · cases h1
    refine ⟨cur, h3, fun i hi => ?_⟩
    have := congrArg (fun z : List Value => z[i]?) h7
    simp only [Nat.mul_one] at this
    rw [List.getElem?_take, if_pos (by omega)] at this
    rw [Array.getElem?_toList] at this
    rw [this]
    simp [strs, hi]

/-- The named flows that have been read. -/
structure Nm (w : World) (B : Nat) (v : Value) (fs : List (ByteArray × ByteArray)) (V : Nat → Nat) (C : Nat → Nat) : Prop where
  own : w.ownsRow B 62 1 v fs.length ((List.range fs.length).map fun i => .slice (some ⟨V i, 0, none⟩) 3 (C i))
  rows : ∀ i, i < fs.length → Ws w (V i) [flowWd.data.toList, (fs.getD i (⟨#[]⟩, ⟨#[]⟩)).1.data.toList, (fs.getD i (⟨#[]⟩, ⟨#[]⟩)).2.data.toList]

/-- The process that is made: its nodes; so many flows. -/
structure Dp (w : World) (B d : Nat) (ns : List (ByteArray × Nat)) (A B' : Nat → Int) (k : Nat) (vn vf : Value) : Prop where
  base : B ≤ d
  blk : w.heap[d]? = some (.cells #[vn, vf] 25 (0, 0))
  nds : w.ownsRow B 39 2 vn ns.length (valsN ns)
  fls : w.ownsRow B 42 2 vf k (valsF A B' k)

theorem Dp.later {w u : World} {B d k : Nat} {ns : List (ByteArray × Nat)} {A B' : Nat → Int} {vn vf : Value} (h : Dp w B d ns A B' k vn vf) (hb : Below w.heap.size w u) : Dp u B d ns A B' k vn vf :=
  ⟨h.base, (hb.block d (Array.getElem?_eq_some_iff.1 h.blk).1).trans h.blk, below_ownsRow h.nds hb, below_ownsRow h.fls hb⟩

theorem Nm.later {w u : World} {B : Nat} {v : Value} {fs : List (ByteArray × ByteArray)} {V C : Nat → Nat} (h : Nm w B v fs V C) (hb : Below w.heap.size w u) : Nm u B v fs V C :=
  ⟨below_ownsRow h.own hb, fun i hi => (h.rows i hi).k9 (k9_below hb)⟩

/-- A row stays where another one, of another type, grows. -/
theorem owns_kept {w w' : World} {B e s n B1 e1 s1 n1 : Nat} {v v1 : Value} {xs ys : List Value} (h : w.ownsRow B e s v n xs) (h1 : w.ownsRow B1 e1 s1 v1 n1 ys) (he : e ≠ e1) (hg : w.grownBy w' v1.ownBlock) : w'.ownsRow B e s v n xs :=
  h.kept hg (by
    cases hv : v.ownBlock with
    | none => exact Or.inl rfl
    | some b => exact Or.inr (fun ee => by
        obtain ⟨c, hc⟩ := ownBlock_own2 h1 b ee.symm
        obtain ⟨c', hc'⟩ := ownBlock_own2 h b hv
        rw [hc] at hc'
        cases hc'
        exact he rfl))

/-- A row stays where a cell of a block of another type is written. -/
theorem owns_set {w : World} {B e s n d i : Nat} {v u : Value} {xs : List Value} {cs : Array Value} {t : TypeId} {z : Nat × Nat} (h : w.ownsRow B e s v n xs) (hd : w.heap[d]? = some (.cells cs t z)) (he : e ≠ t) : (w.setCell ⟨d, i, none⟩ u).ownsRow B e s v n xs :=
  ownsRow_setCell_other h (fun b hb => by
    intro eb
    subst eb
    obtain ⟨c, hc⟩ := ownBlock_own2 h _ hb
    rw [hd] at hc
    cases hc
    exact he rfl)

/-- A node more. -/
theorem Dp.node {w w2 : World} {B d gg cap : Nat} {ns : List (ByteArray × Nat)} {A B' : Nat → Int} {k : Nat} {vn vf v6 : Value} {fs : List (ByteArray × ByteArray)} {V C : Nat → Nat} {p : ByteArray × Nat} {o : Obj} (h : Dp w B d ns A B' k vn vf) (hm : Nm w B v6 fs V C)
    (hown : w2.ownsRow B 39 2 (.slice (some ⟨gg, 0, none⟩) (ns.length + 1) cap) (ns.length + 1) (valsN ns ++ valN p)) (hgrow : (w.alloc o).drew.grownBy w2 vn.ownBlock) (hat : vn.ownBlock = some gg ∨ gg = w.heap.size + 1) (hBw : B ≤ w.heap.size) :
    w2.cell? ⟨d, 0, none⟩ = some vn ∧ w2.frozen? ⟨d, 0, none⟩ = false ∧
      Hid (Dp (w2.setCell ⟨d, 0, none⟩ (.slice (some ⟨gg, 0, none⟩) (ns.length + 1) cap)) B d (ns ++ [p]) A B' k (.slice (some ⟨gg, 0, none⟩) (ns.length + 1) cap) vf ∧ Nm (w2.setCell ⟨d, 0, none⟩ (.slice (some ⟨gg, 0, none⟩) (ns.length + 1) cap)) B v6 fs V C ∧
        Below B w (w2.setCell ⟨d, 0, none⟩ (.slice (some ⟨gg, 0, none⟩) (ns.length + 1) cap)) ∧ K9 w (w2.setCell ⟨d, 0, none⟩ (.slice (some ⟨gg, 0, none⟩) (ns.length + 1) cap))) := by
  have hd : d < w.heap.size := (Array.getElem?_eq_some_iff.1 h.blk).1
  have hg : w.grownBy w2 vn.ownBlock := (World.grownBy_alloc w o _).trans ⟨hgrow.os, hgrow.tape, hgrow.output, hgrow.size, hgrow.block⟩
  have hdn : vn.ownBlock ≠ some d := fun e => by
    obtain ⟨c, hc⟩ := ownBlock_own2 h.nds d e
    rw [h.blk] at hc
    cases hc
  have hb2d : w2.heap[d]? = some (.cells #[vn, vf] 25 (0, 0)) := (hg.block d hd (fun e => hdn e.symm)).trans h.blk
  have hne : gg ≠ d := fun e => by
    subst e
    rcases hat with e | e
    · exact hdn e
    · omega
  have hk : K9 w w2 := k9_grown hg h.nds (by decide)
  have hk2 : K9 w2 (w2.setCell ⟨d, 0, none⟩ (.slice (some ⟨gg, 0, none⟩) (ns.length + 1) cap)) := k9_set hb2d (by decide)
  refine ⟨by simp [World.cell?, hb2d], by simp [World.frozen?, hb2d], hid ⟨⟨h.base, ?_, ?_, ?_⟩, ⟨?_, fun i hi => (hm.rows i hi).k9 (hk.trans hk2)⟩, ?_, hk.trans hk2⟩⟩
  · rw [blk_setCell_self hb2d]
    rfl
  · rw [List.length_append, valsN_snoc]
    exact ownsRow_setCell_other hown (fun b e => by simp only [Value.ownBlock, Option.some.injEq] at e; omega)
  · exact owns_set (owns_kept h.fls h.nds (by decide) hg) hb2d (by decide)
  · exact owns_set (owns_kept hm.own h.nds (by decide) hg) hb2d (by decide)
  · have h2 : Below B w w2 := (Below.refl B w).grown hg hBw (fun b e => (h.nds.lt b e).1)
    exact h2.setCell h.base _

/-- A named flow more. -/
theorem Nm.more {w w2 : World} {B d : Nat} {ns : List (ByteArray × Nat)} {A B' : Nat → Int} {k : Nat} {vn vf v6 v' : Value} {fs : List (ByteArray × ByteArray)} {V C : Nat → Nat} {p : ByteArray × ByteArray} {g c : Nat} {o : Obj} (hm : Nm w B v6 fs V C) (h : Dp w B d ns A B' k vn vf) (hg : Ws w g [flowWd.data.toList, p.1.data.toList, p.2.data.toList])
    (hown : w2.ownsRow B 62 1 v' (fs.length + 1) (((List.range fs.length).map fun i => Value.slice (some ⟨V i, 0, none⟩) 3 (C i)) ++ [.slice (some ⟨g, 0, none⟩) 3 c])) (hgrow : (w.alloc o).grownBy w2 v6.ownBlock) (hBw : B ≤ w.heap.size) :
    (∃ a e, v' = .slice a (fs.length + 1) e) ∧ Hid (Nm w2 B v' (fs ++ [p]) (fun i => if i = fs.length then g else V i) (fun i => if i = fs.length then c else C i) ∧ Dp w2 B d ns A B' k vn vf ∧ Below B w w2 ∧ K9 w w2) := by
  have hgr : w.grownBy w2 v6.ownBlock := (World.grownBy_alloc w o _).trans hgrow
  have hd : d < w.heap.size := (Array.getElem?_eq_some_iff.1 h.blk).1
  have hk : K9 w w2 := k9_grown hgr hm.own (by decide)
  have hdn : v6.ownBlock ≠ some d := fun e => by
    obtain ⟨c, hc⟩ := ownBlock_own2 hm.own d e
    rw [h.blk] at hc
    cases hc
  refine ⟨?_, hid ⟨⟨?_, fun i hi => ?_⟩, ⟨h.base, (hgr.block d hd (fun e => hdn e.symm)).trans h.blk, owns_kept h.nds hm.own (by decide) hgr, owns_kept h.fls hm.own (by decide) hgr⟩, (Below.refl B w).grown hgr hBw (fun b e => (hm.own.lt b e).1), hk⟩⟩
  · rcases hown.2 with ⟨_, h0⟩ | ⟨g, cap, cur, rfl, _⟩
    · omega
    · exact ⟨_, _, rfl⟩
  · have e : (List.range (fs ++ [p]).length).map (fun i => Value.slice (some ⟨if i = fs.length then g else V i, 0, none⟩) 3 (if i = fs.length then c else C i)) = ((List.range fs.length).map fun i => Value.slice (some ⟨V i, 0, none⟩) 3 (C i)) ++ [.slice (some ⟨g, 0, none⟩) 3 c] := by
      rw [List.length_append, List.length_singleton, List.range_succ, List.map_append]
      congr 1
      · refine List.map_congr_left (fun i hi => ?_)
        have : i ≠ fs.length := by have := List.mem_range.1 hi; omega
        rw [if_neg this, if_neg this]
      · simp
    rw [e, List.length_append]
    exact hown
  · by_cases e : i = fs.length
    · subst e
      have e2 : (fs ++ [p]).getD fs.length (⟨#[]⟩, ⟨#[]⟩) = p := by simp
      rw [e2, if_pos rfl]
      exact hg.k9 hk
    · have hi' : i < fs.length := by simp at hi; omega
      have e2 : (fs ++ [p]).getD i (⟨#[]⟩, ⟨#[]⟩) = fs.getD i (⟨#[]⟩, ⟨#[]⟩) := by simp [hi', List.getElem?_append_left]
      rw [e2, if_neg e]
      exact (hm.rows i hi').k9 hk

/-- The next line. -/
theorem line_next {s : List UInt8} {L : List (List UInt8)} {i : Nat} {x : Dft} (hi : i < L.length) (hst : st s i = some ((L.drop i).flatten, x)) {y : List UInt8} (hy : L[i] = y ++ [10]) (hn : (10 : UInt8) ∉ y) :
    st s (i + 1) = (rdL x y).map fun d => ((L.drop (i + 1)).flatten, d) := by
  have e : (L.drop i).flatten = y ++ 10 :: (L.drop (i + 1)).flatten := by
    rw [List.drop_eq_getElem_cons hi, List.flatten_cons, hy]
    simp
  rw [st, hst]
  show rd1 ((L.drop i).flatten, x) = _
  unfold rd1
  simp only [e, brk_app hn]

theorem line_last {s : List UInt8} {L : List (List UInt8)} {i : Nat} {x : Dft} (hi : i + 1 = L.length) (hst : st s i = some ((L.drop i).flatten, x)) (hn : (10 : UInt8) ∉ L[i]) : st s (i + 1) = none := by
  have e : (L.drop i).flatten = L[i] := by
    rw [List.drop_eq_getElem_cons (by omega), List.flatten_cons, List.drop_eq_nil_of_le (by omega)]
    simp
  rw [st, hst]
  show rd1 ((L.drop i).flatten, x) = _
  unfold rd1
  simp only [e, brk_none.2 hn]

theorem kOf_flow : kOf flowWd = 0 := by decide

theorem rdW_flow {x : Dft} {a : ByteArray} {r : List ByteArray} (ha : a = flowWd) (h : ¬ (∃ b c, r = [b, c] ∧ nameOk b = true ∧ nameOk c = true)) : rdW x (a :: r) = none := by
  match r with
  | [] => rfl
  | [b] => simp [rdW, ha, kOf_flow]
  | [b, c] =>
    simp only [rdW]
    rw [if_neg (fun hh => h ⟨b, c, rfl, hh.2⟩)]
  | _ :: _ :: _ :: _ => rfl

theorem rdW_kind {x : Dft} {a : ByteArray} {r : List ByteArray} (ha : a ≠ flowWd) (h : ¬ (∃ b, r = [b] ∧ nameOk b = true ∧ x.2 = [])) : rdW x (a :: r) = none := by
  match r with
  | [] => rfl
  | [b] =>
    simp only [rdW]
    rw [if_neg (fun hh => h ⟨b, rfl, hh.2.2, hh.1⟩)]
  | [b, c] => simp [rdW, ha]
  | _ :: _ :: _ :: _ => rfl

theorem rdW_none {x : Dft} {a : ByteArray} {r : List ByteArray} (ha : a ≠ flowWd) (h : kOf a = 0) : rdW x (a :: r) = none := by
  match r with
  | [] => rfl
  | [b] => simp [rdW, h]
  | [b, c] => simp [rdW, ha]
  | _ :: _ :: _ :: _ => rfl

end Go.Proofs.YtnpdkpbhkjnbhaaDoor
