/- writeKid, write, Print. -/
import Derived.Test.YtgpjlgffmlkkoaaDoorPrn
import Derived.Test.YtgpjlgffmlkkoaaDoorShelf
namespace Go.Proofs.YtgpjlgffmlkkoaaDoor
open Go.RowKit

/-- What write does with a formula. -/
def WrtOk (w0 : World) (na : Option Addr) (N nc : Nat) (M : Nat → ByteArray) (t : Fml) : Prop := ∀ (a : Option Addr) (cap B b : Nat) (l : List UInt8) (w : World),
  Kds w0 t a → Wf t → Below w0.heap.size w0 w → w0.heap.size ≤ B → Bd w B b l → B ≤ w.heap.size → l.length + 12 * sz t ≤ 1000000 →
    Calls Tryd.prog 19 #[.pointer (some ⟨b, 0, none⟩), .agg #[.int .i64 t.kind, .int .i64 t.num, .slice a t.cnt cap], .slice na N nc] w fun e w' => e = .returned (.bool (nmd N M t)) ∧ Wr B b w w' (l ++ tx N M t)

set_option maxHeartbeats 1000000 in
theorem writeKid_any {w0 : World} {na : Option Addr} {N nc : Nat} {M : Nat → ByteArray} (hS : Sta w0 na N nc M) (t : Fml) (a : Option Addr) (cap B b i : Nat) (l : List UInt8) (w : World)
    (hK : Kds w0 t a) (hi : i < t.cnt) (IH : WrtOk w0 na N nc M (t.kid i)) (hW : Wf t) (hB : Below w0.heap.size w0 w) (hBB : w0.heap.size ≤ B) (hbd : Bd w B b l) (hBw : B ≤ w.heap.size) (hl : l.length + 12 * sz (t.kid i) + 2 ≤ 1000000) (hcn : t.cnt ≤ 9223372036854775807) :
    Calls Tryd.prog 30 #[.pointer (some ⟨b, 0, none⟩), .agg #[.int .i64 t.kind, .int .i64 t.num, .slice a t.cnt cap], .int .i64 i, .slice na N nc] w
      fun e w' => e = .returned (.bool (nmd N M (t.kid i))) ∧ Wr B b w w' (l ++ par (bare (t.kid i).kind t.kind i) (tx N M (t.kid i))) := by
  obtain ⟨kb, o, ha, hkid⟩ := hK.out
  obtain rfl := ha (by omega)
  obtain ⟨ai, ci, e1, e2, e3, e4, e5⟩ := hkid i hi
  have f1 := below_cell hB (Nat.le_refl _) e1
  have f2 := below_cell hB (Nat.le_refl _) e2
  have f3 := below_cell hB (Nat.le_refl _) e3
  have hkb : kb < w.heap.size := World.block_lt_of_cell? _ _ f1
  have hWk := hW.out.2 i hi
  obtain ⟨k1, k2, k3⟩ := fit_kind hW.out.1
  obtain ⟨j1, j2, j3⟩ := fit_kind hWk.out.1
  have HT : Hid (WrtOk w0 na N nc M (t.kid i) ∧ Kds w0 (t.kid i) ai ∧ Wf (t.kid i)) := ⟨IH, e5, hWk⟩
  generalize hu : t.kid i = u at *
  obtain ⟨p, hp⟩ : ∃ p : Nat, t.kind = p := ⟨t.kind.toNat, by omega⟩
  obtain ⟨q, hq⟩ : ∃ q : Nat, u.kind = q := ⟨u.kind.toNat, by omega⟩
  obtain ⟨w1, hw1⟩ : ∃ y, y = w.alloc (.cells #[.int .i64 t.kind, .int .i64 t.num, .slice (some ⟨kb, o, none⟩) t.cnt cap] 24) := ⟨_, rfl⟩
  obtain ⟨w2, hw2⟩ : ∃ y, y = w1.alloc (.cells #[.int .i64 u.kind, .int .i64 u.num, .slice ai u.cnt ci] 24) := ⟨_, rfl⟩
  have W1 : Wr B b w w1 l := by rw [hw1]; exact Wr.alloc hbd hBw _
  have W2 : Wr B b w w2 l := by rw [hw2]; exact W1.trans (Wr.alloc W1.1 (Nat.le_trans hBw W1.size) _)
  have hs1 : w1.heap.size = w.heap.size + 1 := by rw [hw1]; simp
  have hbx : Bx w2 (w.heap.size + 1) u ai ci := by rw [hw2, ← hs1]; exact bx_new w1 u ai ci
  have hB2 : Below w0.heap.size w0 w2 := hB.trans (W2.2.1.mono hBB)
  have CB : Hid (Calls Tryd.prog 44 #[.int .i64 q, .int .i64 p, .int .i64 i] w2 fun e w' => e = .returned (.bool (bare q p i)) ∧ w' = w2) := standsBare_any q p i w2 (by omega) (by omega) (hS.kc.below hB2 hS.four)
  have hbne : w.heap.size + 1 ≠ b := by have := bd_lt hbd; omega
  have hB2w : B ≤ w2.heap.size := Nat.le_trans hBw W2.size
  have HW2 : Hid (Wr B b w w2 l ∧ Bx w2 (w.heap.size + 1) u ai ci ∧ Below w0.heap.size w0 w2 ∧ w0.heap.size ≤ B ∧ B ≤ w2.heap.size ∧ w.heap.size + 1 ≠ b) := ⟨W2, hbx, hB2, hBB, hB2w, hbne⟩
  have HE : Hid (w2 = (w.alloc (.cells #[.int .i64 p, .int .i64 t.num, .slice (some ⟨kb, o, none⟩) t.cnt cap] 24)).alloc (.cells #[.int .i64 q, .int .i64 u.num, .slice ai u.cnt ci] 24)) := by rw [hw2, hw1, hp, hq]; exact hid rfl
  have HL : Hid (l.length + 12 * sz u + 2 ≤ 1000000) := hl
  have HQ := hid hq
  rw [hp, hq]
  rw [hq] at f1
  have hiz : (i : Int) < t.cnt := by omega
  clear hK ha hkid e1 e2 e3 e4 e5 hWk k1 k2 k3 j1 j2 j3 hp hq hw1 hw2 W1 W2 hs1 hbx hB2 hB2w hbne hl IH hW hB hBB hbd hBw hS
  cases hb : bare q p i
  · rw [hb] at CB
    have C1 : Hid (Calls Tryd.prog 45 #[.pointer (some ⟨b, 0, none⟩), .int .u8 40] w2 fun e w' => e = .returned .nilIface ∧ Bd w' B b (l ++ [40]) ∧ Below B w2 w' ∧ Fr b w2 w') := writeByte_any 40 HW2.out.1.1 (by have := HL.out; omega) HW2.out.2.2.2.2.1
    clear hb
    go_enter Tryd.func30, Tryd.ntmps30
    go_wp2_with fail
    rw [← HE.out]
    refine CB.out.mono ?_
    rintro e w' ⟨rfl, rfl⟩
    clear CB
    go_wp2_with fail
    refine C1.out.mono ?_
    rintro e w3 ⟨rfl, hd3, hb3, hf3⟩
    have H3 : Hid (Wr B b w w3 (l ++ [40])) := HW2.out.1.trans ⟨hd3, hb3, hf3⟩
    have hx3 := HW2.out.2.1.fr hf3 HW2.out.2.2.2.2.2
    have HX3 := hid hx3
    have g0 := hx3.c0
    have g1 := hx3.c1
    have g2 := hx3.c2
    have HB3 : Hid (Below w0.heap.size w0 w3 ∧ B ≤ w3.heap.size) := ⟨HW2.out.2.2.1.trans (hb3.mono HW2.out.2.2.2.1), Nat.le_trans HW2.out.2.2.2.2.1 hb3.size⟩
    have C2 : Hid (Calls Tryd.prog 19 #[.pointer (some ⟨b, 0, none⟩), .agg #[.int .i64 u.kind, .int .i64 u.num, .slice ai u.cnt ci], .slice na N nc] w3 fun e w' => e = .returned (.bool (nmd N M u)) ∧ Wr B b w3 w' ((l ++ [40]) ++ tx N M u)) :=
      HT.out.1 ai ci B b (l ++ [40]) w3 HT.out.2.1 HT.out.2.2 HB3.out.1 HW2.out.2.2.2.1 H3.out.1 HB3.out.2 (by have := HL.out; simp; omega)
    clear C1 hd3 hb3 hf3 hx3 f1 f2 f3
    go_wp2_with fail
    refine C2.out.mono ?_
    rintro e w4 ⟨rfl, hw4⟩
    have H4 : Hid (Wr B b w w4 ((l ++ [40]) ++ tx N M u)) := H3.out.trans hw4
    have C3 : Hid (Calls Tryd.prog 45 #[.pointer (some ⟨b, 0, none⟩), .int .u8 41] w4 fun e w' => e = .returned .nilIface ∧ Bd w' B b (((l ++ [40]) ++ tx N M u) ++ [41]) ∧ Below B w4 w' ∧ Fr b w4 w') := writeByte_any 41 H4.out.1 (by have := HL.out; have := tx_len N M u; simp; omega) (Nat.le_trans HB3.out.2 hw4.size)
    clear C2 hw4 g0 g1 g2
    go_wp2_with fail
    refine C3.out.mono ?_
    rintro e w5 ⟨rfl, hd5, hb5, hf5⟩
    have H5 : Hid (Wr B b w w5 (((l ++ [40]) ++ tx N M u) ++ [41])) := H4.out.trans ⟨hd5, hb5, hf5⟩
    clear C3 hd5 hb5 hf5
    go_wp2
    go_ret
    refine ⟨rfl, ?_⟩
    have := H5.out
    simpa [par] using this
  · rw [hb] at CB
    have hx2 := HW2.out.2.1
    have g0 := hx2.c0
    have g1 := hx2.c1
    have g2 := hx2.c2
    have C2 : Hid (Calls Tryd.prog 19 #[.pointer (some ⟨b, 0, none⟩), .agg #[.int .i64 u.kind, .int .i64 u.num, .slice ai u.cnt ci], .slice na N nc] w2 fun e w' => e = .returned (.bool (nmd N M u)) ∧ Wr B b w2 w' (l ++ tx N M u)) :=
      HT.out.1 ai ci B b l w2 HT.out.2.1 HT.out.2.2 HW2.out.2.2.1 HW2.out.2.2.2.1 HW2.out.1.1 HW2.out.2.2.2.2.1 (by have := HL.out; omega)
    clear hx2 hb
    go_enter Tryd.func30, Tryd.ntmps30
    go_wp2_with fail
    rw [← HE.out]
    refine CB.out.mono ?_
    rintro e w' ⟨rfl, rfl⟩
    clear CB
    go_wp2_with fail
    refine C2.out.mono ?_
    rintro e w4 ⟨rfl, hw4⟩
    have H4 : Hid (Wr B b w w4 (l ++ tx N M u)) := HW2.out.1.trans hw4
    clear C2 hw4
    go_wp2
    go_ret
    refine ⟨rfl, ?_⟩
    have := H4.out
    simpa [par] using this

end Go.Proofs.YtgpjlgffmlkkoaaDoor
