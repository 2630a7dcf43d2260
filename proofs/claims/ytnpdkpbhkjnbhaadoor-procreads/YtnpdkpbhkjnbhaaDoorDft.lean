/- A draft in memory; kindOf, Clone, readNode, readFlow. -/
import Derived.Test.YtnpdkpbhkjnbhaaDoorTxt
import Derived.Test.YtnpdkpbhkjnbhaaDoorProc7
import Derived.Test.YtnpdkpbhkjnbhaaDoorShelf
import Derived.Deep.AppendLies
namespace Go.Proofs.YtnpdkpbhkjnbhaaDoor
open Go.RowKit

theorem Tryd.info39 : (Tryd.prog.info? 39).map (fun i => (i.zero, i.size, i.bytes)) = some (some (.agg #[.string ⟨#[]⟩, .int .i64 0]), 2, 24) := by kernel_rfl
theorem Tryd.info79 : (Tryd.prog.info? 79).map (fun i => (i.zero, i.size, i.bytes)) = some (some (.agg #[.string ⟨#[]⟩, .string ⟨#[]⟩]), 2, 32) := by kernel_rfl
theorem Tryd.info42 : (Tryd.prog.info? 42).map (fun i => (i.zero, i.size, i.bytes)) = some (some (.agg #[.int .i64 0, .int .i64 0]), 2, 16) := by kernel_rfl

def valN (p : ByteArray × Nat) : List Value := [.string p.1, .int .i64 p.2]
def valS (p : ByteArray × ByteArray) : List Value := [.string p.1, .string p.2]
def valsN (l : List (ByteArray × Nat)) : List Value := l.flatMap valN
def valsS (l : List (ByteArray × ByteArray)) : List Value := l.flatMap valS

/-- The draft x lies in block d, made in memory from B on. -/
structure Df (w : World) (B d : Nat) (x : Dft) (vn vf : Value) : Prop where
  base : B ≤ d
  blk : w.heap[d]? = some (.cells #[vn, vf] 57 (0, 0))
  nds : w.ownsRow B 39 2 vn x.1.length (valsN x.1)
  fls : w.ownsRow B 79 2 vf x.2.length (valsS x.2)

theorem kOf_none {a : ByteArray} (h : ∀ j, 1 ≤ j → j ≤ 7 → kw j ≠ a) : kOf a = 0 := by
  have h1 := Ne.symm (h 1 (by omega) (by omega))
  have h2 := Ne.symm (h 2 (by omega) (by omega))
  have h3 := Ne.symm (h 3 (by omega) (by omega))
  have h4 := Ne.symm (h 4 (by omega) (by omega))
  have h5 := Ne.symm (h 5 (by omega) (by omega))
  have h6 := Ne.symm (h 6 (by omega) (by omega))
  have h7 := Ne.symm (h 7 (by omega) (by omega))
  simp [kOf, h1, h2, h3, h4, h5, h6, h7]

theorem toList_inj {a b : ByteArray} : (a.toList == b.toList) = true ↔ a = b := by
  rw [beq_iff_eq, ByteArray.toList_eq, ByteArray.toList_eq]
  constructor
  · intro h
    obtain ⟨a⟩ := a
    obtain ⟨b⟩ := b
    have : a = b := Array.toList_inj.1 h
    rw [this]
  · intro h; rw [h]

theorem toList_ne {a b : ByteArray} (h : a ≠ b) : (a.toList == b.toList) = false := by
  cases e : (a.toList == b.toList)
  · rfl
  · exact absurd (toList_inj.1 e) h

set_option maxHeartbeats 1000000 in
theorem kindOf_any (a : ByteArray) (w : World) (hk : KwAt w) : Calls Tryd.prog 56 #[.string a] w fun e w' => e = .returned (.int .i64 (kOf a)) ∧ w' = w := by
  have HK : Hid (KwAt w) := hk
  clear hk
  go_enter Tryd.func56, Tryd.ntmps56
  go_wp2
  go_loop [3] (fun i => ∃ k : Nat, 1 ≤ k ∧ k ≤ 8 ∧ i = .int .i64 k ∧ Hid (∀ j, 1 ≤ j → j < k → kw j ≠ a)) (fun i => 8 - (intOf i).toNat)
  case atStart => exact ⟨1, by omega, by omega, rfl, hid (fun j _ h => by omega)⟩
  case round =>
    obtain ⟨k, hk1, hk8, rfl, HJ⟩ := hrel
    by_cases hlt : k ≤ 7
    · have hc := HK.out.cell hlt
      have hkz : (k : Int) ≤ 7 := by omega
      have hkz8 : (k : Int) < 8 := by omega
      by_cases he : kw k = a
      · have hb : ((kw k).toList == a.toList) = true := toList_inj.2 he
        have HE : Hid (kOf a = k) := by rw [← he]; exact kOf_kw hk1 hlt
        clear he
        go_wp2
        go_ret
        exact ⟨ret_int (by rw [HE.out]), rfl⟩
      · have hb : ((kw k).toList == a.toList) = false := toList_ne he
        have HE : Hid (kw k ≠ a) := he
        clear he
        go_wp2
        go_round
        case rel =>
          refine ⟨k + 1, by omega, by omega, by go_num, hid (fun j h1 h2 => ?_)⟩
          by_cases e : j = k
          · subst e; exact HE.out
          · exact HJ.out j h1 (by omega)
        case measure => simp [intOf]; omega
    · obtain rfl : k = 8 := by omega
      have HE : Hid (kOf a = 0) := kOf_none (fun j h1 h2 => HJ.out j h1 (by omega))
      go_wp2
      go_ret
      exact ⟨ret_int (by rw [HE.out]; rfl), rfl⟩

theorem clone_any (s : ByteArray) (w : World) (h : s.size ≤ 4096) : Calls Tryd.prog 57 #[.string s] w fun e w' => e = .returned (.string s) ∧ Below w.heap.size w w' := by
  have C : Hid (Calls Tryd.prog 68 #[.string s] w fun e w' => e = .returned (.string s) ∧ Below w.heap.size w w') := Tryd.stringslite_Clone s w (by omega)
  clear h
  go_enter Tryd.func57, Tryd.ntmps57
  go_wp2_with fail
  refine C.out.mono ?_
  rintro e w1 ⟨rfl, hb⟩
  have HB : Hid (Below w.heap.size w w1) := hb
  clear hb C
  go_wp2
  go_ret
  exact ⟨rfl, HB.out⟩

theorem valsN_snoc (l : List (ByteArray × Nat)) (p : ByteArray × Nat) : valsN (l ++ [p]) = valsN l ++ valN p := by simp [valsN]
theorem valsS_snoc (l : List (ByteArray × ByteArray)) (p : ByteArray × ByteArray) : valsS (l ++ [p]) = valsS l ++ valS p := by simp [valsS]

theorem ownBlock_own2 {w : World} {B n s : Nat} {e : TypeId} {v : Value} {xs : List Value} (h : w.ownsRow B e s v n xs) : ∀ g, v.ownBlock = some g → ∃ c, w.heap[g]? = some (.cells c e (0, 0)) := by
  intro g hg
  rcases h.2 with ⟨rfl, _⟩ | ⟨g', cap, cur, rfl, h2, h3, _⟩
  · cases hg
  · cases hg
    exact ⟨_, h3⟩

theorem ownsRow_setCell_other {w : World} {B n s d i : Nat} {e : TypeId} {v u : Value} {xs : List Value} (h : w.ownsRow B e s v n xs) (hne : ∀ b, v.ownBlock = some b → b ≠ d) : (w.setCell ⟨d, i, none⟩ u).ownsRow B e s v n xs := by
  refine ⟨h.1, ?_⟩
  rcases h.2 with h0 | ⟨g, cap, cur, rfl, h2, h3, h4⟩
  · exact Or.inl h0
  · exact Or.inr ⟨g, cap, cur, rfl, h2, (Go.Deep.blk_setCell_other _ _ _ _ (hne g rfl)).trans h3, h4⟩

theorem blk_setCell_self {w : World} {d i : Nat} {cs : Array Value} {t : TypeId} {z : Nat × Nat} {u : Value} (h : w.heap[d]? = some (.cells cs t z)) : (w.setCell ⟨d, i, none⟩ u).heap[d]? = some (.cells (cs.setIfInBounds i u) t z) := by
  simp only [World.setCell, Array.getElem?_modify, if_true, h]
  rfl

/-- A node more: what the append leaves, and what the store into the draft makes of it. -/
theorem Df.node {w w1 w2 : World} {B d gg cap : Nat} {x : Dft} {vn vf : Value} {p : ByteArray × Nat} {o : Obj} (h : Df w B d x vn vf) (hb1 : Below w.heap.size w w1)
    (hown : w2.ownsRow B 39 2 (.slice (some ⟨gg, 0, none⟩) (x.1.length + 1) cap) (x.1.length + 1) (valsN x.1 ++ valN p)) (hgrow : (w1.alloc o).grownBy w2 vn.ownBlock) (hat : vn.ownBlock = some gg ∨ gg = w1.heap.size + 1) (hBw : B ≤ w.heap.size) :
    w2.cell? ⟨d, 0, none⟩ = some vn ∧ w2.frozen? ⟨d, 0, none⟩ = false ∧
      Hid (Df (w2.setCell ⟨d, 0, none⟩ (.slice (some ⟨gg, 0, none⟩) (x.1.length + 1) cap)) B d (x.1 ++ [p], x.2) (.slice (some ⟨gg, 0, none⟩) (x.1.length + 1) cap) vf ∧ Below B w (w2.setCell ⟨d, 0, none⟩ (.slice (some ⟨gg, 0, none⟩) (x.1.length + 1) cap))) := by
  have hd : d < w.heap.size := (Array.getElem?_eq_some_iff.1 h.blk).1
  have hg : w1.grownBy w2 vn.ownBlock := (World.grownBy_alloc _ _ _).trans hgrow
  have hdn : vn.ownBlock ≠ some d := fun e => by
    obtain ⟨c, hc⟩ := ownBlock_own2 h.nds d e
    rw [h.blk] at hc
    cases hc
  have hb1d : w1.heap[d]? = some (.cells #[vn, vf] 57 (0, 0)) := (hb1.block d hd).trans h.blk
  have hb2d : w2.heap[d]? = some (.cells #[vn, vf] 57 (0, 0)) := (hg.block d (by have := hb1.size; omega) (fun e => hdn e.symm)).trans hb1d
  have hne : gg ≠ d := fun e => by
    subst e
    rcases hat with e | e
    · exact hdn e
    · have := hb1.size; omega
  refine ⟨by simp [World.cell?, hb2d], by simp [World.frozen?, hb2d], hid ⟨⟨h.base, ?_, ?_, ?_⟩, ?_⟩⟩
  · rw [blk_setCell_self hb2d]
    rfl
  · show World.ownsRow _ _ _ _ _ (x.1 ++ [p]).length _
    rw [List.length_append, valsN_snoc]
    exact ownsRow_setCell_other hown (fun b e => by simp only [Value.ownBlock, Option.some.injEq] at e; omega)
  · have hf1 : w1.ownsRow B 79 2 vf x.2.length (valsS x.2) := below_ownsRow h.fls hb1
    have hf2 : w2.ownsRow B 79 2 vf x.2.length (valsS x.2) := hf1.kept hg (by
      cases hv : vf.ownBlock with
      | none => exact Or.inl rfl
      | some b => exact Or.inr (fun ee => by
          obtain ⟨c, hc⟩ := ownBlock_own2 h.nds b ee.symm
          obtain ⟨c', hc'⟩ := ownBlock_own2 h.fls b hv
          rw [hc] at hc'
          cases hc'))
    exact ownsRow_setCell_other hf2 (fun b e => by
      intro eb
      subst eb
      obtain ⟨c', hc'⟩ := ownBlock_own2 h.fls _ e
      rw [h.blk] at hc'
      cases hc')
  · have h1 : Below B w w1 := hb1.mono hBw
    have h2 : Below B w w2 := h1.grown hg (by have := hb1.size; omega) (fun b e => (h.nds.lt b e).1)
    exact h2.setCell h.base _

/-- A flow more. -/
theorem Df.flow {w w2 : World} {B d : Nat} {x : Dft} {vn vf v' : Value} {p : ByteArray × ByteArray} {o : Obj} (h : Df w B d x vn vf)
    (hown : w2.ownsRow B 79 2 v' (x.2.length + 1) (valsS x.2 ++ valS p)) (hgrow : (w.alloc o).grownBy w2 vf.ownBlock) (hat : v'.ownBlock = vf.ownBlock ∨ v'.ownBlock = some (w.alloc o).heap.size) (hBw : B ≤ w.heap.size) :
    w2.cell? ⟨d, 1, none⟩ = some vf ∧ w2.frozen? ⟨d, 1, none⟩ = false ∧ (∃ a c, v' = .slice a (x.2.length + 1) c) ∧
      Hid (Df (w2.setCell ⟨d, 1, none⟩ v') B d (x.1, x.2 ++ [p]) vn v' ∧ Below B w (w2.setCell ⟨d, 1, none⟩ v')) := by
  have hd : d < w.heap.size := (Array.getElem?_eq_some_iff.1 h.blk).1
  have hg : w.grownBy w2 vf.ownBlock := (World.grownBy_alloc _ _ _).trans hgrow
  have hdn : vf.ownBlock ≠ some d := fun e => by
    obtain ⟨c, hc⟩ := ownBlock_own2 h.fls d e
    rw [h.blk] at hc
    cases hc
  have hb2d : w2.heap[d]? = some (.cells #[vn, vf] 57 (0, 0)) := (hg.block d hd (fun e => hdn e.symm)).trans h.blk
  refine ⟨by simp [World.cell?, hb2d], by simp [World.frozen?, hb2d], ?_, hid ⟨⟨h.base, ?_, ?_, ?_⟩, ?_⟩⟩
  · rcases hown.2 with ⟨_, h0⟩ | ⟨g, cap, cur, rfl, _⟩
    · omega
    · exact ⟨_, _, rfl⟩
  · rw [blk_setCell_self hb2d]
    rfl
  · have hf2 : w2.ownsRow B 39 2 vn x.1.length (valsN x.1) := h.nds.kept hg (by
      cases hv : vn.ownBlock with
      | none => exact Or.inl rfl
      | some b => exact Or.inr (fun ee => by
          obtain ⟨c, hc⟩ := ownBlock_own2 h.fls b ee.symm
          obtain ⟨c', hc'⟩ := ownBlock_own2 h.nds b hv
          rw [hc] at hc'
          cases hc'))
    exact ownsRow_setCell_other hf2 (fun b e => by
      intro eb
      subst eb
      obtain ⟨c', hc'⟩ := ownBlock_own2 h.nds _ e
      rw [h.blk] at hc'
      cases hc')
  · show World.ownsRow _ _ _ _ _ (x.2 ++ [p]).length _
    rw [List.length_append, valsS_snoc]
    refine ownsRow_setCell_other hown (fun b e => ?_)
    intro eb
    subst eb
    rcases hat with e2 | e2
    · exact hdn (by rw [← e2]; exact e)
    · rw [e2] at e
      simp at e
      omega
  · have h2 : Below B w w2 := (Below.refl _ _).grown hg (by omega) (fun b e => (h.fls.lt b e).1)
    exact h2.setCell h.base _

theorem two_cells (w : World) (a b : Value) (t : TypeId) : ∀ j u, [a, b][j]? = some u → (w.alloc (.cells #[a, b] t)).cell? ((⟨w.heap.size, 0, none⟩ : Addr).add j) = some u := by
  intro j u h
  have e : (⟨w.heap.size, 0, none⟩ : Addr).add j = ⟨w.heap.size, j, none⟩ := by unfold Addr.add; split <;> simp_all
  rw [e]
  exact cell_of_alloc (by simpa using h)

theorem valS_one (p : ByteArray × ByteArray) : ∀ u ∈ valS p, u.oneCell' = true := by
  intro u hu
  simp only [valS, List.mem_cons, List.not_mem_nil, or_false] at hu
  rcases hu with rfl | rfl <;> rfl

theorem valN_one (p : ByteArray × Nat) : ∀ u ∈ valN p, u.oneCell' = true := by
  intro u hu
  simp only [valN, List.mem_cons, List.not_mem_nil, or_false] at hu
  rcases hu with rfl | rfl <;> rfl

/-- What a line that can be read, or not, makes of the draft. -/
def DfOut (w : World) (B d : Nat) (y : Option Dft) (e : Ending) (w' : World) : Prop :=
  Below B w w' ∧ ((y = none ∧ e = .returned (.bool false)) ∨ ∃ x', y = some x' ∧ e = .returned (.bool true) ∧ ∃ vn vf, Df w' B d x' vn vf)

set_option maxRecDepth 20000 in
set_option maxHeartbeats 2000000 in
theorem readFlow_any {w : World} {B d : Nat} {x : Dft} {vn vf : Value} (a b : ByteArray) (h : Df w B d x vn vf) (hBw : B ≤ w.heap.size) (hl : x.2.length ≤ 4096) (y : Option Dft) (hy : y = if nameOk a = true ∧ nameOk b = true then some (x.1, x.2 ++ [(a, b)]) else none) :
    Calls Tryd.prog 50 #[.pointer (some ⟨d, 0, none⟩), .string a, .string b] w fun e w' => DfOut w B d y e w' := by
  have HY : Hid (y = if nameOk a = true ∧ nameOk b = true then some (x.1, x.2 ++ [(a, b)]) else none) := hy
  clear hy
  have C1 : Hid (Calls Tryd.prog 39 #[.string a] w fun e w' => e = .returned (.bool (nameOk a)) ∧ w' = w) := isName_any a w
  have C2 : Hid (Calls Tryd.prog 39 #[.string b] w fun e w' => e = .returned (.bool (nameOk b)) ∧ w' = w) := isName_any b w
  have H : Hid (Df w B d x vn vf) := h
  have hc1 : w.cell? ⟨d, 1, none⟩ = some vf := cell_of_cells h.blk rfl
  obtain ⟨i0, hi, hz0, hz1, hz2⟩ := info_parts Tryd.info79
  have HI : Hid (Tryd.prog.info? 79 = some i0 ∧ i0.zero = some (.agg #[.string ⟨#[]⟩, .string ⟨#[]⟩]) ∧ i0.size = 2 ∧ i0.bytes = 32) := ⟨hi, hz0, hz1, hz2⟩
  clear h hi hz0 hz1 hz2
  cases ha : nameOk a
  · rw [ha] at C1
    have HN : Hid (y = none) := by show _ = _; rw [HY.out, if_neg (fun hh => by rw [ha] at hh; exact Bool.false_ne_true hh.1)]
    clear ha C2
    go_enter Tryd.func50, Tryd.ntmps50
    go_wp2_with fail
    refine C1.out.mono ?_
    rintro e w1 ⟨rfl, rfl⟩
    go_wp2
    go_ret
    exact ⟨Below.refl _ _, Or.inl ⟨HN.out, rfl⟩⟩
  · rw [ha] at C1
    cases hb : nameOk b
    · rw [hb] at C2
      have HN : Hid (y = none) := by show _ = _; rw [HY.out, if_neg (fun hh => by rw [hb] at hh; exact Bool.false_ne_true hh.2)]
      clear ha hb
      go_enter Tryd.func50, Tryd.ntmps50
      go_wp2_with fail
      refine C1.out.mono ?_
      rintro e w1 ⟨rfl, rfl⟩
      go_wp2_with fail
      refine C2.out.mono ?_
      rintro e w2 ⟨rfl, rfl⟩
      go_wp2
      go_ret
      exact ⟨Below.refl _ _, Or.inl ⟨HN.out, rfl⟩⟩
    · rw [hb] at C2
      have HN : Hid (y = some (x.1, x.2 ++ [(a, b)])) := by show _ = _; rw [HY.out, if_pos ⟨ha, hb⟩]
      clear ha hb
      have HL : Hid (x.2.length ≤ 4096) := hl
      go_enter Tryd.func50, Tryd.ntmps50
      go_wp2_with fail
      refine C1.out.mono ?_
      rintro e w1 ⟨rfl, e1⟩
      subst e1
      go_wp2_with fail
      refine C2.out.mono ?_
      rintro e w2 ⟨rfl, e2⟩
      rw [e2]
      clear e2
      go_wp2_with (at_builtin; refine wpList_append_own_at _ rfl _ _ 55 rfl B 79 i0 (.agg #[.string ⟨#[]⟩, .string ⟨#[]⟩]) 2 32 Tryd.underlying55 HI.out.1 HI.out.2.1 HI.out.2.2.1 HI.out.2.2.2 rfl (by decide) _ _ _ rfl (H.out.fls.alloc _) ⟨w1.heap.size, 0, none⟩ 1 1 (valS (a, b)) rfl rfl (two_cells _ _ _ _) (valS_one _) (by have := HL.out; unfold maxLen; omega) (by have := HL.out; omega) (by simp; omega) ?_; intro v' w4 hown hgrow _ hloc; obtain ⟨d0, d1, ⟨a4, c4, rfl⟩, H4⟩ := H.out.flow hown hgrow hloc hBw; clear hown hgrow hloc)
      go_ret
      exact ⟨H4.out.2, Or.inr ⟨_, HN.out, rfl, _, _, H4.out.1⟩⟩

set_option maxRecDepth 20000 in
set_option maxHeartbeats 2000000 in
theorem readNode_any {w : World} {B d : Nat} {x : Dft} {vn vf : Value} (a b : ByteArray) (h : Df w B d x vn vf) (hBw : B ≤ w.heap.size) (hl : x.1.length ≤ 4096) (hk : KwAt w) (hb : b.size ≤ 4096) (y : Option Dft) (hy : y = if kOf a ≠ 0 ∧ nameOk b = true then some (x.1 ++ [(b, kOf a)], x.2) else none) :
    Calls Tryd.prog 49 #[.pointer (some ⟨d, 0, none⟩), .string a, .string b] w fun e w' => DfOut w B d y e w' := by
  have HY : Hid (y = if kOf a ≠ 0 ∧ nameOk b = true then some (x.1 ++ [(b, kOf a)], x.2) else none) := hy
  clear hy
  have C1 : Hid (Calls Tryd.prog 56 #[.string a] w fun e w' => e = .returned (.int .i64 (kOf a)) ∧ w' = w) := kindOf_any a w hk
  have C2 : Hid (Calls Tryd.prog 40 #[.int .i64 (kOf a)] w fun e w' => e = .returned (.bool (decide (1 ≤ (kOf a : Int) ∧ (kOf a : Int) ≤ 7))) ∧ w' = w) := isKind_any (kOf a) w
  have C3 : Hid (Calls Tryd.prog 39 #[.string b] w fun e w' => e = .returned (.bool (nameOk b)) ∧ w' = w) := isName_any b w
  have C4 : Hid (∀ u, Calls Tryd.prog 57 #[.string b] u fun e w' => e = .returned (.string b) ∧ Below u.heap.size u w') := fun u => clone_any b u hb
  have H : Hid (Df w B d x vn vf) := h
  have hc1 : w.cell? ⟨d, 0, none⟩ = some vn := cell_of_cells h.blk rfl
  obtain ⟨i0, hi, hz0, hz1, hz2⟩ := info_parts Tryd.info39
  have HI : Hid (Tryd.prog.info? 39 = some i0 ∧ i0.zero = some (.agg #[.string ⟨#[]⟩, .int .i64 0]) ∧ i0.size = 2 ∧ i0.bytes = 24) := ⟨hi, hz0, hz1, hz2⟩
  have HL : Hid (x.1.length ≤ 4096) := hl
  have hk7 := kOf_le a
  clear h hi hz0 hz1 hz2 hl hk hb
  by_cases ha : kOf a = 0
  · have HN : Hid (¬ (kOf a ≠ 0 ∧ nameOk b = true)) := fun hh => hh.1 ha
    have e0 : decide (1 ≤ (kOf a : Int) ∧ (kOf a : Int) ≤ 7) = false := by rw [ha]; decide
    rw [e0] at C2
    generalize (kOf a : Int) = κ at C1 C2
    clear C3 C4 e0 ha hk7
    go_enter Tryd.func49, Tryd.ntmps49
    go_wp2_with fail
    refine C1.out.mono ?_
    rintro e w1 ⟨rfl, e1⟩
    rw [e1]
    go_wp2_with fail
    refine C2.out.mono ?_
    rintro e w2 ⟨rfl, e2⟩
    rw [e2]
    go_wp2
    go_ret
    exact ⟨Below.refl _ _, Or.inl ⟨by rw [HY.out, if_neg HN.out], rfl⟩⟩
  · have e0 : decide (1 ≤ (kOf a : Int) ∧ (kOf a : Int) ≤ 7) = true := by rw [decide_eq_true_eq]; omega
    rw [e0] at C2
    have HA : Hid (kOf a ≠ 0) := ha
    obtain ⟨κ, hκ⟩ : ∃ κ, κ = kOf a := ⟨_, rfl⟩
    rw [← hκ] at C1 C2
    have HKa : Hid (kOf a = κ) := hκ.symm
    clear ha e0 hk7 hκ
    cases hb : nameOk b
    · rw [hb] at C3
      have HN : Hid (y = none) := by show _ = _; rw [HY.out, if_neg (fun hh => by rw [hb] at hh; exact Bool.false_ne_true hh.2)]
      clear hb C4
      go_enter Tryd.func49, Tryd.ntmps49
      go_wp2_with fail
      refine C1.out.mono ?_
      rintro e w1 ⟨rfl, e1⟩
      rw [e1]
      go_wp2_with fail
      refine C2.out.mono ?_
      rintro e w2 ⟨rfl, e2⟩
      rw [e2]
      go_wp2_with fail
      refine C3.out.mono ?_
      rintro e w3 ⟨rfl, e3⟩
      rw [e3]
      go_wp2
      go_ret
      exact ⟨Below.refl _ _, Or.inl ⟨HN.out, rfl⟩⟩
    · rw [hb] at C3
      have HN : Hid (y = some (x.1 ++ [(b, κ)], x.2)) := by
        show _ = _
        rw [HY.out, if_pos ⟨HA.out, hb⟩, HKa.out]
      clear hb
      go_enter Tryd.func49, Tryd.ntmps49
      go_wp2_with fail
      refine C1.out.mono ?_
      rintro e w1 ⟨rfl, e1⟩
      rw [e1]
      clear e1
      go_wp2_with fail
      refine C2.out.mono ?_
      rintro e w2 ⟨rfl, e2⟩
      rw [e2]
      clear e2
      go_wp2_with fail
      refine C3.out.mono ?_
      rintro e w3 ⟨rfl, e3⟩
      rw [e3]
      clear e3 C1 C2 C3
      go_wp2
      go_region_law
        (first
          | (go_simp; go_at_call 57; refine (C4.out _).mono ?_; rintro e w5 ⟨rfl, hb5⟩; have hb5' : Below w.heap.size w w5 := (below_drew_iff.2 (Below.refl _ _)).trans hb5; have hc5 : w5.cell? ⟨d, 0, none⟩ = some vn := (hb5'.cell (p := ⟨d, 0, none⟩) (World.block_lt_of_cell? _ _ hc1)).trans hc1; have hc6 : (w5.alloc (.cells #[.string b, .int .i64 κ] 39)).cell? ⟨d, 0, none⟩ = some vn := ((box_below _ _).cell (p := ⟨d, 0, none⟩) (World.block_lt_of_cell? _ _ hc5)).trans hc5; dsimp only)
          | (refine step_append_lies _ (by rfl) _ _ _ (by rfl) B 39 i0 _ 2 24 Tryd.underlying22 HI.out.1 HI.out.2.1 HI.out.2.2.1 HI.out.2.2.2 rfl (by omega) vn x.1.length (valsN x.1) (by rfl) ((below_ownsRow H.out.nds hb5').alloc _)
              ⟨w5.heap.size, 0, none⟩ 1 1 (valN (b, κ)) (by rfl) (by rfl) (two_cells _ _ _ _) (valN_one _) (by omega) (by have := HL.out; unfold maxLen; omega) (by have := HL.out; omega) (by have := hb5'.size; simp; omega) (w5.heap.size + 1) (by simp) ?_; intro gg cap w6 hown hgrow hat hlt; obtain ⟨d0, d1, H6⟩ := H.out.node hb5' hown hgrow hat hBw))
      all_goals
        clear hown hgrow hat
        go_wp2
        go_ret
        exact ⟨H6.out.2, Or.inr ⟨_, HN.out, rfl, _, _, H6.out.1⟩⟩

end Go.Proofs.YtnpdkpbhkjnbhaaDoor
