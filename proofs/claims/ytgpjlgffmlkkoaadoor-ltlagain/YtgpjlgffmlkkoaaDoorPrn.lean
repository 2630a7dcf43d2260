/- writeLeaf, writeKid, write. -/
import Derived.Test.YtgpjlgffmlkkoaaDoorTxt
import Derived.Test.YtgpjlgffmlkkoaaDoorChk2
namespace Go.Proofs.YtgpjlgffmlkkoaaDoor
open Go.RowKit

theorem fr_alloc (b : Nat) (w : World) (o : Obj) : Fr b w (w.alloc o) := ⟨by simp, fun k c t z _ _ h => (Go.Deep.blk_alloc_lt _ _ _ (Array.getElem?_eq_some_iff.1 h).1).trans h⟩

theorem bd_alloc {w : World} {B b : Nat} {l : List UInt8} (h : Bd w B b l) (o : Obj) : Bd (w.alloc o) B b l := by
  have one : ∀ p, Lib.BuilderAt 45 5 B b p (bys l) w → Lib.BuilderAt 45 5 B b p (bys l) (w.alloc o) := fun p ⟨h1, v, h2, h3, h4⟩ =>
    ⟨h1, v, (Go.Deep.blk_alloc_lt _ _ _ (Array.getElem?_eq_some_iff.1 h2).1).trans h2, h3.alloc o, h4⟩
  rcases h with h | h
  · exact Or.inl (one _ h)
  · exact Or.inr (one _ h)

theorem bd_start (w : World) : Bd (w.alloc (.cells #[.pointer none, .slice none 0 0] 45)) w.heap.size w.heap.size [] :=
  Or.inl ⟨Nat.le_refl _, .slice none 0 0, Go.Deep.blk_alloc_new _ _, World.ownsRow_nil _ _ _ _, by simp [Value.ownBlock]⟩

theorem bd_lt {w : World} {B b : Nat} {l : List UInt8} (h : Bd w B b l) : b < w.heap.size := by
  rcases h with h | h
  · obtain ⟨_, v, h2, _⟩ := h
    exact (Array.getElem?_eq_some_iff.1 h2).1
  · obtain ⟨_, v, h2, _⟩ := h
    exact (Array.getElem?_eq_some_iff.1 h2).1

theorem bd_ge {w : World} {B b : Nat} {l : List UInt8} (h : Bd w B b l) : B ≤ b := by
  rcases h with h | h
  · exact h.1
  · exact h.1

/-- A formula in a block of its own. -/
def Bx (w : World) (x : Nat) (t : Fml) (a : Option Addr) (cap : Nat) : Prop := w.heap[x]? = some (.cells #[.int .i64 t.kind, .int .i64 t.num, .slice a t.cnt cap] 24 (0, 0))

theorem Bx.c0 {w : World} {x cap : Nat} {t : Fml} {a : Option Addr} (h : Bx w x t a cap) : w.cell? ⟨x, 0, none⟩ = some (.int .i64 t.kind) := cell_of_cells h rfl
theorem Bx.c1 {w : World} {x cap : Nat} {t : Fml} {a : Option Addr} (h : Bx w x t a cap) : w.cell? ⟨x, 1, none⟩ = some (.int .i64 t.num) := cell_of_cells h rfl
theorem Bx.c2 {w : World} {x cap : Nat} {t : Fml} {a : Option Addr} (h : Bx w x t a cap) : w.cell? ⟨x, 2, none⟩ = some (.slice a t.cnt cap) := cell_of_cells h rfl
theorem Bx.fr {w w' : World} {x cap b : Nat} {t : Fml} {a : Option Addr} (h : Bx w x t a cap) (hf : Fr b w w') (hx : x ≠ b) : Bx w' x t a cap := hf.keep _ _ _ _ (by decide) hx h
theorem bx_new (w : World) (t : Fml) (a : Option Addr) (cap : Nat) : Bx (w.alloc (.cells #[.int .i64 t.kind, .int .i64 t.num, .slice a t.cnt cap] 24)) w.heap.size t a cap := Go.Deep.blk_alloc_new _ _

/-- What is written to the Builder, and what stays. -/
def Wr (B b : Nat) (w w' : World) (l : List UInt8) : Prop := Bd w' B b l ∧ Below B w w' ∧ Fr b w w'

theorem Wr.trans {B b : Nat} {u v w : World} {l m : List UInt8} (h : Wr B b u v l) (k : Wr B b v w m) : Wr B b u w m := ⟨k.1, h.2.1.trans k.2.1, h.2.2.trans k.2.2⟩
theorem Wr.alloc {B b : Nat} {w : World} {l : List UInt8} (h : Bd w B b l) (hB : B ≤ w.heap.size) (o : Obj) : Wr B b w (w.alloc o) l := ⟨bd_alloc h o, (Below.refl _ _).alloc hB o, fr_alloc b w o⟩
theorem Wr.size {B b : Nat} {u v : World} {l : List UInt8} (h : Wr B b u v l) : u.heap.size ≤ v.heap.size := h.2.1.size

/-- The memory that stays: the tables, the names. -/
structure Sta (w0 : World) (na : Option Addr) (N nc : Nat) (M : Nat → ByteArray) : Prop where
  kc : kcAt w0
  sg : sgAt w0
  nms : Nms w0 na N M
  n1 : N ≤ nc
  n2 : nc ≤ 9223372036854775807

theorem Sta.four {w0 : World} {na : Option Addr} {N nc : Nat} {M : Nat → ByteArray} (h : Sta w0 na N nc M) : 4 < w0.heap.size := World.block_lt_of_cell? _ _ (h.kc 1 (by omega) (by omega))

set_option maxHeartbeats 1000000 in
theorem writeLeaf_any {w0 : World} {na : Option Addr} {N nc : Nat} {M : Nat → ByteArray} (hS : Sta w0 na N nc M) (t : Fml) (a : Option Addr) (cap B b : Nat) (l : List UInt8) (w : World)
    (hB : Below w0.heap.size w0 w) (hBB : w0.heap.size ≤ B) (hbd : Bd w B b l) (hBw : B ≤ w.heap.size) (hl : l.length ≤ 1000000) (hf : fit t = true) (h0 : t.cnt = 0) :
    Calls Tryd.prog 31 #[.pointer (some ⟨b, 0, none⟩), .agg #[.int .i64 t.kind, .int .i64 t.num, .slice a t.cnt cap], .slice na N nc] w fun e w' => e = .returned (.bool (nmd N M t)) ∧ Wr B b w w' (l ++ tx N M t) := by
  obtain ⟨hk1, hk2, hk3⟩ := fit_kind hf
  obtain ⟨q, hq⟩ : ∃ q : Nat, t.kind = q := ⟨t.kind.toNat, by omega⟩
  have HT : Hid (tx N M t = if q = 3 then (wd N M t.num.toNat).data.toList else (sg q).data.toList) := hid <| by
    rw [tx_eq, h0, hq]
    have : ((q : Int) = 3) ↔ q = 3 := by omega
    simp [this]
  have HM : Hid (nmd N M t = if q = 3 then wok N M t.num.toNat else true) := hid <| by
    rw [nmd_eq, h0, hq]
    have : ((q : Int) = 3) ↔ q = 3 := by omega
    simp [this]
  have W1 : Hid (Wr B b w (w.alloc (.cells #[.int .i64 t.kind, .int .i64 t.num, .slice a t.cnt cap] 24)) l) := Wr.alloc hbd hBw _
  have hx := bx_new w t a cap
  rw [hq] at hx W1 ⊢
  clear hx
  generalize hn : t.num = n at *
  have HS := hid hS
  have HB : Hid (Below w0.heap.size w0 w ∧ w0.heap.size ≤ B ∧ B ≤ w.heap.size) := ⟨hB, hBB, hBw⟩
  by_cases h3 : q = 3
  · subst h3
    have hf2 : 0 ≤ n ∧ n ≤ 63 := by
      have := fit_atom hk3 hq
      rw [hf, hn] at this
      exact of_decide_eq_true this.symm
    obtain ⟨x, rfl⟩ : ∃ x : Nat, n = x := ⟨n.toNat, by omega⟩
    have C1 : Hid (∀ u, Below w0.heap.size w0 u → Calls Tryd.prog 46 #[.slice na N nc, .int .i64 x] u fun e w' => e = .returned (.tuple #[.string (wd N M x), .bool (wok N M x)]) ∧ w' = u) := fun u hu => word_any na N nc M x u (by omega) (by have := hS.n1; have := hS.n2; omega) hS.n1 hS.n2 (hS.nms.below hu)
    obtain ⟨w1, hw1⟩ : ∃ y, y = w.alloc (.cells #[.int .i64 3, .int .i64 x, .slice a t.cnt cap] 24) := ⟨_, rfl⟩
    have HW1 : Hid (Wr B b w w1 l) := by rw [hw1]; exact W1.out
    have HB1 : Hid (Below w0.heap.size w0 w1) := HB.out.1.trans (HW1.out.2.1.mono HB.out.2.1)
    have C2 : Hid (Calls Tryd.prog 29 #[.pointer (some ⟨b, 0, none⟩), .string (wd N M x)] w1 fun e w' => e = .returned (.tuple #[.int .i64 (wd N M x).size, .nilIface]) ∧ Bd w' B b (l ++ (wd N M x).data.toList) ∧ Below B w1 w' ∧ Fr b w1 w') :=
      writeString_any (wd N M x) HW1.out.1 (by have := wd_size N M x; omega) (Nat.le_trans HB.out.2.2 HW1.out.size)
    have HT2 : Hid (tx N M t = (wd N M x).data.toList) := by rw [hid HT.out]; exact hid rfl
    have HM2 : Hid (nmd N M t = wok N M x) := by rw [hid HM.out]; exact hid rfl
    have HE := hid hw1
    generalize wd N M x = wv at *
    generalize wok N M x = wb at *
    clear hS hB hBB hbd hBw hl hf h0 hk1 hk2 hk3 hq HT HM W1 hf2 hn hw1
    show Calls Tryd.prog 31 #[.pointer (some ⟨b, 0, none⟩), .agg #[.int .i64 3, .int .i64 x, .slice a t.cnt cap], .slice na N nc] w fun e w' => e = .returned (.bool (nmd N M t)) ∧ Wr B b w w' (l ++ tx N M t)
    go_enter Tryd.func31, Tryd.ntmps31
    go_wp2_with fail
    rw [← HE.out]
    refine (C1.out _ HB1.out).mono ?_
    rintro e w' ⟨rfl, rfl⟩
    clear C1
    go_wp2_with fail
    refine C2.out.mono ?_
    rintro e w2 ⟨rfl, hd2, hb2, hf2⟩
    have H2 : Hid (Wr B b w w2 (l ++ wv.data.toList)) := HW1.out.trans ⟨hd2, hb2, hf2⟩
    clear C2 hd2 hb2 hf2
    go_wp2
    go_ret
    rw [HT2.out, HM2.out]
    exact ⟨rfl, H2.out⟩
  · have b3 : ((q : Int) == 3) = false := beq_eq_false_iff_ne.2 (by omega)
    obtain ⟨w1, hw1⟩ : ∃ y, y = w.alloc (.cells #[.int .i64 (q : Int), .int .i64 n, .slice a t.cnt cap] 24) := ⟨_, rfl⟩
    have HW1 : Hid (Wr B b w w1 l) := by rw [hw1]; exact W1.out
    have HB1 : Hid (Below w0.heap.size w0 w1) := HB.out.1.trans (HW1.out.2.1.mono HB.out.2.1)
    have hsg : w.cell? ⟨0, q, none⟩ = some (.string (sg q)) := hS.sg.below hB (by have := hS.four; omega) q (by omega)
    have hsz : 0 < w.heap.size := World.block_lt_of_cell? _ _ hsg
    have hq12 : (q : Int) < 12 := by omega
    have C2 : Hid (Calls Tryd.prog 29 #[.pointer (some ⟨b, 0, none⟩), .string (sg q)] w1 fun e w' => e = .returned (.tuple #[.int .i64 (sg q).size, .nilIface]) ∧ Bd w' B b (l ++ (sg q).data.toList) ∧ Below B w1 w' ∧ Fr b w1 w') :=
      writeString_any (sg q) HW1.out.1 (by have := sg_size q; omega) (Nat.le_trans HB.out.2.2 HW1.out.size)
    have HT2 : Hid (tx N M t = (sg q).data.toList) := hid (HT.out.trans (if_neg h3))
    have HM2 : Hid (nmd N M t = true) := hid (HM.out.trans (if_neg h3))
    have HE := hid hw1
    generalize sg q = wv at *
    clear hS hB hBB hbd hBw hl hf h0 hk1 hk2 hk3 hq HT HM W1 hn hw1 h3
    go_enter Tryd.func31, Tryd.ntmps31
    go_wp2_with fail
    rw [← HE.out]
    refine C2.out.mono ?_
    rintro e w2 ⟨rfl, hd2, hb2, hf2⟩
    have H2 : Hid (Wr B b w w2 (l ++ wv.data.toList)) := HW1.out.trans ⟨hd2, hb2, hf2⟩
    clear C2 hd2 hb2 hf2
    go_wp2
    go_ret
    rw [HT2.out, HM2.out]
    exact ⟨rfl, H2.out⟩

end Go.Proofs.YtgpjlgffmlkkoaaDoor
