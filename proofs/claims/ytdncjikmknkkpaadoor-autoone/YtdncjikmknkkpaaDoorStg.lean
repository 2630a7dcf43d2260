/- Is a part fair? -/
import Derived.Test.YtdncjikmknkkpaaDoorStf
namespace Go.Proofs.YtdncjikmknkkpaaDoor
open Go.RowKit

/-- The states of the first k spots. -/
def stsN (l : Nat → Nat × Nat) : Nat → Nat → Nat
  | 0 => fun _ => 0
  | k + 1 => sadd (stsN l k) (l k).1
theorem mem_stsN (l : Nat → Nat × Nat) (s : Nat) : ∀ k, mem (stsN l k) s = true ↔ ∃ i, i < k ∧ (l i).1 = s
  | 0 => by simp [stsN, mem_zero]
  | k + 1 => by
    rw [stsN, mem_add, Bool.or_eq_true, mem_stsN l s k, decide_eq_true_eq]
    constructor
    · rintro (h | ⟨i, h1, h2⟩)
      · exact ⟨k, by omega, h.symm⟩
      · exact ⟨i, by omega, h2⟩
    · rintro ⟨i, h1, h2⟩
      by_cases e : i = k
      · subst e; exact Or.inl h2.symm
      · exact Or.inr ⟨i, by omega, h2⟩

/-- Is a part fair? -/
def frs (R : Rx) (n : Nat) (l : Nat → Nat × Nat) : Bool := gos R n l && !anoc R.K R.F (stsN l n)

set_option maxHeartbeats 2000000 in
theorem isFair_any (R : Rx) (a : Option Addr) (n c : Nat) (l : Nat → Nat × Nat) (w : World) (h : Rw w R) (hl : Sp w a n l) (hn : 0 < n) (hn2 : n ≤ 140737488355328) (hok : ∀ i, i < n → (l i).1 < R.G ∧ (l i).2 < R.m) :
    Calls Tryd.prog 72 #[R.val, .slice a n c] w fun e w' => e = .returned (.bool (frs R n l)) ∧ Below w.heap.size w w' := by
  have hg := h.g
  have hk80 := h.k80
  have H0 := hid h
  have HL := hid hl
  have HK := hid hok
  have C := hid (fun (z : World) (hz : Below w.heap.size w z) => goesOn_any R a n c l z (h.below hz) (hl.below hz) hn hn2 hok)
  have E : Hid (frs R n l = (gos R n l && !anoc R.K R.F (stsN l n))) := hid rfl
  clear h hl hok
  generalize hf : frs R n l = fr at *
  clear hf
  generalize hgo : gos R n l = go at *
  clear hgo
  obtain ⟨nb, G, c1, pb, c2, tb, m, c3, fb, K, c4, N, P, T, F⟩ := R
  dsimp only [Rx.val] at *
  go_enter Tryd.func72, Tryd.ntmps72
  go_wp2_with fail
  obtain ⟨W0, hW0, hb0, hs0, hR⟩ := rb_new w nb G c1 pb c2 tb m c3 fb K c4 N P T F
  rw [hW0]
  clear hW0
  obtain ⟨r0, r1, r2, r3⟩ := hR
  dsimp only at r0 r1 r2 r3
  have HB0 := hid hb0
  clear hb0
  have C1 := hid (C.out W0 HB0.out)
  go_wp2_with fail
  refine C1.out.mono ?_
  rintro e w1 ⟨rfl, hb1⟩
  have HB1 := hid (HB0.out.trans (hb1.mono HB0.out.size))
  have q3 := below_cell hb1 (Nat.le_refl _) r3
  have hs1 := hb1.size
  clear hb1 r0 r1 r2 r3
  cases go
  · go_wp2
    go_ret
    refine ⟨ret_bool ?_, HB1.out⟩
    rw [E.out]; rfl
  · go_wp2
    rw [zeroS]
    go_loopw [14] (fun i wr => ∃ k : Nat, k ≤ n ∧ i = .int .i64 k ∧ Hid (Below w1.heap.size w1 wr ∧ Bx wr w1.heap.size (stsN l k))) (fun i _ => n - (intOf i).toNat)
    case atStart => exact ⟨0, by omega, rfl, hid ⟨box_below _ _, bx_new w1 (fun _ => 0) (fun _ _ => by decide)⟩⟩
    case round =>
      obtain ⟨k, hk, rfl, H⟩ := hrel
      by_cases hlt : k < n
      · obtain ⟨b, ha, hc⟩ := (HL.out.below HB1.out).below H.out.1
        obtain rfl := ha (by omega)
        obtain ⟨y1, y2⟩ := hc k hlt
        have hko := HK.out k hlt
        have C2 := hid (fun (o1 : Obj) => addB w1.heap.size (stsN l k) (l k).1 (wr.alloc o1) (by omega) (H.out.2.below (box_below wr o1) (bx_lt H.out.2)))
        clear hc ha
        go_wp2_with fail
        refine (C2.out _).mono ?_
        rintro e w2 ⟨⟨v, rfl⟩, g1, g2, g3⟩
        have HH := hid (And.intro g1 (And.intro g2 g3))
        clear g1 g2 g3
        go_wp2
        go_roundw
        case rel =>
          refine ⟨k + 1, by omega, by go_num, hid ⟨(H.out.1.trans ((box_below wr _).mono H.out.1.size)).trans (HH.out.2.1.below (Nat.le_refl _) ?_), HH.out.1⟩⟩
          have := H.out.1.size
          simp
          omega
        case measure => simp [intOf]; omega
      · have q3' := below_cell H.out.1 (Nat.le_refl _) q3
        obtain rfl : k = n := by omega
        have C3 := hid (cfS_any fb K c4 w1.heap.size F (stsN l k) wr hk80 ((H0.out.below HB1.out).below H.out.1).fair H.out.2 ((H0.out.below HB1.out).below H.out.1).tb)
        go_wp2_with fail
        refine C3.out.mono ?_
        rintro e w2 ⟨rfl, hb2⟩
        have HB2 := hid hb2
        clear hb2
        go_wp2
        go_ret
        refine ⟨ret_bool ?_, HB1.out.trans ((H.out.1.mono (HB1.out.size)).trans (HB2.out.mono (Nat.le_trans HB1.out.size H.out.1.size)))⟩
        rw [E.out]; rfl

end Go.Proofs.YtdncjikmknkkpaaDoor
