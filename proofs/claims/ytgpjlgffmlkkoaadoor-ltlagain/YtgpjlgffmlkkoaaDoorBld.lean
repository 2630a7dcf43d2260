/- A Builder that the call itself has made: copyCheck, WriteByte, WriteString. -/
import Derived.Test.YtgpjlgffmlkkoaaDoorBase
import Derived.Lib.Builder
import Derived.Lib.AppendStr
import Derived.Lib.UnsafeStr
import Derived.Laws.Externs
namespace Go.Proofs.YtgpjlgffmlkkoaaDoor
open Go.RowKit

theorem Tryd.size45 : (Tryd.prog.info? 45).map (·.size) = some 2 := by kernel_rfl
theorem Tryd.lies45 : liesAt Tryd.prog Tryd.prog.depth 45 (2 / Tryd.prog.cellsOf 45) 0 45 1 = true := by kernel_rfl
theorem Tryd.info5 : (Tryd.prog.info? 5).map (fun i => (i.zero, i.size, i.bytes)) = some (some (.int .u8 0), 1, 1) := by kernel_rfl

set_option maxRecDepth 100000 in
theorem copyCheck_old (b : Nat) (w : World) (h : w.cell? ⟨b, 0, none⟩ = some (.pointer (some ⟨b, 0, none⟩))) :
    Calls Tryd.prog 43 #[.pointer (some ⟨b, 0, none⟩)] w fun e w' => e = .returned (.tuple #[]) ∧ w' = w := by
  obtain ⟨j, hj, _⟩ := Option.map_eq_some_iff.1 Tryd.size45
  go_enter Tryd.func43, Tryd.ntmps43
  go_wp2
  rw [Lib.run_neq_ptr_same w _ Tryd.underlying42 hj]
  go_wp2
  go_end0
  exact ⟨rfl, rfl⟩

set_option maxRecDepth 100000 in
theorem copyCheck_new (b : Nat) (w : World) (h : w.cell? ⟨b, 0, none⟩ = some (.pointer none)) (hs : w.shape? b = some (45, 2)) (hf : w.frozen? ⟨b, 0, none⟩ = false) :
    Calls Tryd.prog 43 #[.pointer (some ⟨b, 0, none⟩)] w fun e w' => e = .returned (.tuple #[]) ∧ w' = w.setCell ⟨b, 0, none⟩ (.pointer (some ⟨b, 0, none⟩)) := by
  obtain ⟨j, hj, hjs⟩ := Option.map_eq_some_iff.1 Tryd.size45
  go_enter Tryd.func43, Tryd.ntmps43
  go_wp2
  rw [Lib.run_to_unsafe w ⟨b, 0, none⟩ Tryd.underlying42 Tryd.underlying96 hj (by rw [hjs]; decide) hs (Nat.zero_lt_succ 1)]
  simp only [Result.andThen]
  rw [Oper.upon_value]
  go_wp2
  rw [run_callFunc_extern Tryd.func60 (by kernel_rfl) (by kernel_rfl) (by kernel_rfl) (e := Extern.AbiNoEscape.same) (by kernel_rfl), Lib.run_noEscape]
  simp only [Result.andThen]
  rw [Oper.upon_value]
  go_wp2
  rw [Lib.run_from_unsafe w ⟨b, 0, none⟩ Tryd.underlying96 Tryd.underlying42 hj hs Tryd.lies45]
  simp only [Result.andThen]
  rw [Oper.upon_value]
  go_wp2
  go_end0
  exact ⟨rfl, rfl⟩

/-- The bytes as cells. -/
def bys (l : List UInt8) : List Value := l.map fun c => Value.int .u8 c.toNat

theorem bys_len (l : List UInt8) : (bys l).length = l.length := by simp [bys]
theorem bys_app (l m : List UInt8) : bys (l ++ m) = bys l ++ bys m := by simp [bys]

/-- The Builder in block b, made in memory from B on, holds the bytes l. -/
def Bd (w : World) (B b : Nat) (l : List UInt8) : Prop := Lib.IsBuilder 45 5 B b (bys l) w

/-- All blocks but the Builder's own and those of bytes are as they were. -/
structure Fr (b : Nat) (w w' : World) : Prop where
  size : w.heap.size ≤ w'.heap.size
  keep : ∀ (k : Nat) c t z, t ≠ 5 → k ≠ b → w.heap[k]? = some (Obj.cells c t z) → w'.heap[k]? = some (Obj.cells c t z)

theorem Fr.refl (b : Nat) (w : World) : Fr b w w := ⟨Nat.le_refl _, fun _ _ _ _ _ _ h => h⟩
theorem Fr.trans {b : Nat} {u v w : World} (h : Fr b u v) (k : Fr b v w) : Fr b u w := ⟨Nat.le_trans h.size k.size, fun i c t z h1 h2 h3 => k.keep i c t z h1 h2 (h.keep i c t z h1 h2 h3)⟩

theorem fr_set {b i : Nat} {w : World} {v : Value} : Fr b w (w.setCell ⟨b, i, none⟩ v) :=
  ⟨by simp [World.setCell], fun k c t z _ h2 h3 => (Go.Deep.blk_setCell_other _ _ _ _ h2).trans h3⟩

theorem copyCheck_any {w : World} {B b : Nat} {l : List UInt8} (h : Bd w B b l) :
    Calls Tryd.prog 43 #[.pointer (some ⟨b, 0, none⟩)] w fun e w' => e = .returned (.tuple #[]) ∧ Lib.BuilderAt 45 5 B b (.pointer (some ⟨b, 0, none⟩)) (bys l) w' ∧ Below B w w' ∧ Fr b w w' := by
  rcases h with h | h
  · refine (copyCheck_new b w h.cell0 h.shape h.frozen0).mono ?_
    rintro e w' ⟨he, rfl⟩
    exact ⟨he, h.used _, (Below.refl _ _).setCell (p := ⟨b, 0, none⟩) h.1 _, fr_set⟩
  · refine (copyCheck_old b w h.cell0).mono ?_
    rintro e w' ⟨he, rfl⟩
    exact ⟨he, h, Below.refl _ _, Fr.refl _ _⟩

/-- Behind an append to its bytes. -/
theorem bd_put {w1 w2 : World} {B b : Nat} {v v' : Value} {l m : List UInt8} {n : Nat} (hB : B ≤ b) (hBw : B ≤ w1.heap.size) (hbk : w1.heap[b]? = some (.cells #[.pointer (some ⟨b, 0, none⟩), v] 45 (0, 0))) (hown : w1.ownsRow B 5 1 v l.length (bys l)) (hne : v.ownBlock ≠ some b)
    (hg : w1.grownBy w2 v.ownBlock) (hn : n = l.length + m.length) (hown' : w2.ownsRow B 5 1 v' n (bys l ++ bys m)) :
    w2.cell? ⟨b, 0, none⟩ = some (.pointer (some ⟨b, 0, none⟩)) ∧ w2.cell? ⟨b, 1, none⟩ = some v ∧ w2.frozen? ⟨b, 1, none⟩ = false ∧ (∃ a k c, v' = .slice a k c) ∧
      Hid (Bd (w2.setCell ⟨b, 1, none⟩ v') B b (l ++ m) ∧ Below B w1 (w2.setCell ⟨b, 1, none⟩ v') ∧ Fr b w1 (w2.setCell ⟨b, 1, none⟩ v')) := by
  have hlt := (Array.getElem?_eq_some_iff.1 hbk).1
  have hb2 : w2.heap[b]? = some (.cells #[.pointer (some ⟨b, 0, none⟩), v] 45 (0, 0)) := (hg.block b hlt (fun e => hne e.symm)).trans hbk
  refine ⟨by simp [World.cell?, hb2], by simp [World.cell?, hb2], by simp [World.frozen?, hb2], ?_, hid ⟨Or.inr ?_, ?_, Fr.trans ⟨hg.size, fun k c t z h1 _ h3 => ?_⟩ fr_set⟩⟩
  · rcases hown'.2 with ⟨hv, _⟩ | ⟨g, cap, cur, hv, _⟩
    · exact ⟨_, _, _, hv⟩
    · exact ⟨_, _, _, hv⟩
  · refine Lib.BuilderAt.put hB hb2 (bs' := bys (l ++ m)) ?_ (by decide)
    rw [bys_len, List.length_append, ← hn, bys_app]
    exact hown'
  · exact ((Below.refl _ _).grown hg hBw (fun k hk => (hown.lt k hk).1)).setCell (p := ⟨b, 1, none⟩) hB _
  · rw [hg.block k (Array.getElem?_eq_some_iff.1 h3).1 (fun e => ?_)]
    · exact h3
    · rcases hown.2 with ⟨rfl, _⟩ | ⟨g, cap, cur, rfl, _, hgg, _⟩
      · cases e
      · cases e
        rw [h3] at hgg
        simp at hgg
        exact h1 hgg.2.1

theorem one_byte (c : Int) : ∀ u ∈ [Value.int .u8 c], u.oneCell' = true := by
  intro u hu
  rw [List.mem_singleton] at hu
  subst hu
  rfl

set_option maxHeartbeats 1000000 in
set_option maxRecDepth 100000 in
theorem writeByte_any {w : World} {B b : Nat} {l : List UInt8} (c : UInt8) (h : Bd w B b l) (hl : l.length + 1 ≤ 140737488355328) (hBw : B ≤ w.heap.size) :
    Calls Tryd.prog 45 #[.pointer (some ⟨b, 0, none⟩), .int .u8 c.toNat] w fun e w' => e = .returned .nilIface ∧ Bd w' B b (l ++ [c]) ∧ Below B w w' ∧ Fr b w w' := by
  have C : Hid (Calls Tryd.prog 43 #[.pointer (some ⟨b, 0, none⟩)] w fun e w' => e = .returned (.tuple #[]) ∧ Lib.BuilderAt 45 5 B b (.pointer (some ⟨b, 0, none⟩)) (bys l) w' ∧ Below B w w' ∧ Fr b w w') := copyCheck_any h
  obtain ⟨i0, hi, hz0, hz1, hz2⟩ := info_parts Tryd.info5
  have HI : Hid (Tryd.prog.info? 5 = some i0 ∧ i0.zero = some (.int .u8 0) ∧ i0.size = 1 ∧ i0.bytes = 1) := ⟨hi, hz0, hz1, hz2⟩
  clear h hi hz0 hz1 hz2
  generalize hcc : (c.toNat : Int) = cc at *
  have HCC : Hid ((c.toNat : Int) = cc) := hcc
  clear hcc
  go_enter Tryd.func45, Tryd.ntmps45
  go_wp2_with fail
  refine C.out.mono ?_
  rintro e w1 ⟨rfl, h1, hb1, hfr1⟩
  obtain ⟨hB, v, hbk, hown, hne⟩ := h1
  have HBk : Hid (w1.heap[b]? = some (.cells #[.pointer (some ⟨b, 0, none⟩), v] 45 (0, 0)) ∧ w1.ownsRow B 5 1 v l.length (bys l) ∧ v.ownBlock ≠ some b) := ⟨hbk, by rw [bys_len] at hown; exact hown, hne⟩
  have c0 : w1.cell? ⟨b, 0, none⟩ = some (.pointer (some ⟨b, 0, none⟩)) := by simp [World.cell?, hbk]
  have c1 : w1.cell? ⟨b, 1, none⟩ = some v := by simp [World.cell?, hbk]
  have HB1 : Hid (Below B w w1 ∧ Fr b w w1) := ⟨hb1, hfr1⟩
  have hs1 : B ≤ w1.heap.size := Nat.le_trans hBw hb1.size
  clear hbk hown hne hb1 hfr1 C
  go_wp2_with (at_builtin; refine wpList_append_own _ rfl _ _ 43 rfl B 5 i0 (.int .u8 0) 1 1 Tryd.underlying43 HI.out.1 HI.out.2.1 HI.out.2.2.1 HI.out.2.2.2 rfl (by decide) _ _ _ rfl (HBk.out.2.1.alloc _) ⟨w1.heap.size, 0, none⟩ 1 1 [.int .u8 cc] rfl rfl (cell_one_new _ _ _) (one_byte _) (by unfold maxLen; omega) (by omega) (by simp; omega) ?_; intro v' w2 hown' hgrow _; obtain ⟨d0, d1, f1, ⟨a3, n3, c3, rfl⟩, H3⟩ := bd_put (m := [c]) hB hs1 HBk.out.1 HBk.out.2.1 HBk.out.2.2 ((World.grownBy_alloc _ _ _).trans hgrow) rfl (by have hc := HCC.out; subst hc; exact hown'); clear hown' hgrow)
  go_ret
  exact ⟨rfl, H3.out.1, HB1.out.1.trans H3.out.2.1, HB1.out.2.trans H3.out.2.2⟩

set_option maxHeartbeats 1000000 in
set_option maxRecDepth 100000 in
theorem writeString_any {w : World} {B b : Nat} {l : List UInt8} (s : ByteArray) (h : Bd w B b l) (hl : l.length + s.size ≤ 140737488355328) (hBw : B ≤ w.heap.size) :
    Calls Tryd.prog 29 #[.pointer (some ⟨b, 0, none⟩), .string s] w fun e w' => e = .returned (.tuple #[.int .i64 s.size, .nilIface]) ∧ Bd w' B b (l ++ s.data.toList) ∧ Below B w w' ∧ Fr b w w' := by
  have C : Hid (Calls Tryd.prog 43 #[.pointer (some ⟨b, 0, none⟩)] w fun e w' => e = .returned (.tuple #[]) ∧ Lib.BuilderAt 45 5 B b (.pointer (some ⟨b, 0, none⟩)) (bys l) w' ∧ Below B w w' ∧ Fr b w w') := copyCheck_any h
  obtain ⟨i0, hi, hz0, hz1, hz2⟩ := info_parts Tryd.info5
  have HI : Hid (Tryd.prog.info? 5 = some i0 ∧ i0.zero = some (.int .u8 0) ∧ i0.size = 1 ∧ i0.bytes = 1) := ⟨hi, hz0, hz1, hz2⟩
  clear h hi hz0 hz1 hz2
  go_enter Tryd.func29, Tryd.ntmps29
  go_wp2_with fail
  refine C.out.mono ?_
  rintro e w1 ⟨rfl, h1, hb1, hfr1⟩
  obtain ⟨hB, v, hbk, hown, hne⟩ := h1
  have HBk : Hid (w1.heap[b]? = some (.cells #[.pointer (some ⟨b, 0, none⟩), v] 45 (0, 0)) ∧ w1.ownsRow B 5 1 v l.length (bys l) ∧ v.ownBlock ≠ some b) := ⟨hbk, by rw [bys_len] at hown; exact hown, hne⟩
  have c0 : w1.cell? ⟨b, 0, none⟩ = some (.pointer (some ⟨b, 0, none⟩)) := by simp [World.cell?, hbk]
  have c1 : w1.cell? ⟨b, 1, none⟩ = some v := by simp [World.cell?, hbk]
  have HB1 : Hid (Below B w w1 ∧ Fr b w w1) := ⟨hb1, hfr1⟩
  have hs1 : B ≤ w1.heap.size := Nat.le_trans hBw hb1.size
  clear hbk hown hne hb1 hfr1 C
  go_wp2_with (at_builtin; refine Lib.wpList_append_own_string _ rfl _ _ 43 9 rfl B 5 i0 Tryd.underlying43 Tryd.underlying9 HI.out.1 HI.out.2.1 HI.out.2.2.1 HI.out.2.2.2 _ _ _ rfl HBk.out.2.1 s rfl (by unfold maxLen; omega) (by omega) hs1 ?_; intro v' w2 hown' hgrow _; obtain ⟨d0, d1, f1, ⟨a3, n3, c3, rfl⟩, H3⟩ := bd_put (m := s.data.toList) hB hs1 HBk.out.1 HBk.out.2.1 HBk.out.2.2 hgrow rfl hown'; clear hown' hgrow)
  go_ret2
  exact ⟨rfl, H3.out.1, HB1.out.1.trans H3.out.2.1, HB1.out.2.trans H3.out.2.2⟩

end Go.Proofs.YtgpjlgffmlkkoaaDoor
