/-   -/
import Derived.Test.YtmdpbaobihdgkaaGreatDoorAStcJ
/- Words that go round: their letters, their least form, when two are alike. -/
/- An automaton in memory; the states with which a letter goes; where one goes on. -/
namespace Go.Proofs.YtmdpbaobihdgkaaGreatDoor
open Go.RowKit
theorem ltr_stem {s m : Nat} {S L : Nat → Int} {i : Nat} (h : i < s) : ltr s m S L i = S i := if_pos h
theorem ltr_loop {s m : Nat} {S L : Nat → Int} {i : Nat} (h : i < m) : ltr s m S L (s + i) = L i := by
 unfold ltr
 rw [if_neg (by omega), show s + i - s = i by omega, Nat.mod_eq_of_lt h]
theorem ltr_far {s m : Nat} {S L : Nat → Int} {i : Nat} (h : s ≤ i) : ltr s m S L i = L ((i - s) % m) := if_neg (by omega)
end Go.Proofs.YtmdpbaobihdgkaaGreatDoor
namespace Go.Proofs.YtmdpbaobihdgkaaGreatDoor
open Go.RowKit
structure Ax where
 sa : Option Addr
 sn : Nat
 sc : Nat
 na : Option Addr
 G : Nat
 nc : Nat
 ma : Option Addr
 M : Nat
 mc : Nat
 oa : Option Addr
 O : Nat
 oc : Nat
 fa : Option Addr
 K : Nat
 fc : Nat
 S : Nat → Int
 L : Nat → Nat
 Z : Nat → Nat → Int
 Mu : Nat → Nat
 No : Nat → Nat
 FL : Nat → Nat
 FZ : Nat → Nat → Int
def Ax.val (A : Ax) : Value := .agg #[.slice A.sa A.sn A.sc, .slice A.na A.G A.nc, .slice A.ma A.M A.mc, .slice A.oa A.O A.oc, .slice A.fa A.K A.fc]
structure Aw (w : World) (A : Ax) : Prop where
 start : Row w A.sa A.sn A.S
 next : Gr w A.na A.G A.L A.Z
 must : RowU w A.ma A.M (fun i => (A.Mu i : Int))
 nots : RowU w A.oa A.O (fun i => (A.No i : Int))
 fair : Gr w A.fa A.K A.FL A.FZ
 s47 : A.sn ≤ 140737488355328
 g47 : A.G ≤ 140737488355328
 l47 : ∀ r, r < A.G → A.L r ≤ 140737488355328
 m47 : A.M ≤ 140737488355328
 o47 : A.O ≤ 140737488355328
 k47 : A.K ≤ 140737488355328
 f47 : ∀ r, r < A.K → A.FL r ≤ 140737488355328
 mu : ∀ i, i < A.M → A.Mu i < 18446744073709551616
 no : ∀ i, i < A.O → A.No i < 18446744073709551616
theorem Aw.below {w w' : World} {A : Ax} (h : Aw w A) (hb : Below w.heap.size w w') : Aw w' A :=
 ⟨h.start.below hb, h.next.below hb, h.must.below hb, h.nots.below hb, h.fair.below hb, h.s47, h.g47, h.l47, h.m47, h.o47, h.k47, h.f47, h.mu, h.no⟩
def fts (l m n : Nat) : Bool := (l &&& m == m) && (l &&& n == 0)
def fitN (Mu No : Nat → Nat) (l : Nat) : Nat → Nat → Nat
 | 0 => fun _ => 0
 | k + 1 => if fts l (Mu k) (No k) = true then sadd (fitN Mu No l k) k else fitN Mu No l k
theorem fitN_small {Mu No : Nat → Nat} {l : Nat} : ∀ {k : Nat}, k ≤ 2048 → ∀ i, i < 32 → fitN Mu No l k i < 18446744073709551616
 | 0, _ => fun _ _ => by simp [fitN]
 | k + 1, h => by
  unfold fitN
  split
  ·exact sadd_small (fitN_small (by omega)) (by omega)
  ·exact fitN_small (by omega)
theorem mem_fitN {Mu No : Nat → Nat} {l : Nat} (s : Nat) : ∀ k, mem (fitN Mu No l k) s = (decide (s < k) && fts l (Mu s) (No s))
 | 0 => by simp [fitN, mem_zero]
 | k + 1 => by
  have ih := mem_fitN (Mu := Mu) (No := No) (l := l) s k
  unfold fitN
  by_cases e : s = k
  ·subst e
   split
   ·rename_i h; rw [mem_add, h]; simp
   ·rename_i h; rw [ih]; simp at h ⊢; simp [h]
  ·have h2 : decide (s < k + 1) = decide (s < k) := by
    rw [Bool.eq_iff_iff]; simp only [decide_eq_true_eq]; omega
   split
   ·rw [mem_add, ih, h2]; simp [e]
   ·rw [ih, h2]
theorem bx_new1 (w : World) (o : Obj) : Bx ((w.alloc o).alloc (.cells (cellsS (fun _ => 0)) 69)) (w.heap.size + 1) (fun _ => 0) := by
 have := bx_new (w.alloc o) (fun _ => 0) (fun _ _ => by decide)
 rwa [World.size_alloc] at this
theorem bx_new2 (w : World) (o o' : Obj) : Bx (((w.alloc o).alloc o').alloc (.cells (cellsS (fun _ => 0)) 69)) (w.heap.size + 1 + 1) (fun _ => 0) := by
 have := bx_new1 (w.alloc o) o'
 rwa [World.size_alloc] at this
theorem cell_alloc1 {w : World} {p : Addr} {v : Value} (o : Obj) (h : w.cell? p = some v) : (w.alloc o).cell? p = some v := below_cell (box_below w o) jq0 h
set_option maxHeartbeats 2000000 in
theorem fitting_any (A : Ax) (l : Nat) (w : World) (h : Aw w A) (hl : l < 18446744073709551616) (hM : A.M ≤ 2048) (hO : A.O = A.M) :
  Calls Tryz.prog 26 #[A.val, .int .u64 l] w fun e w' => e = .returned (.agg (cellsS (fitN A.Mu A.No l A.M))) ∧ Below w.heap.size w w' := by
 obtain ⟨b, o, ha, hc⟩ := h.must
 obtain ⟨b2, o2, ha2, hc2⟩ := h.nots
 have HU := hid h.mu
 have HN := hid h.no
 clear h
 obtain ⟨sa, sn, sc, na, G, nc, ma, M, mc, oa, O, oc, fa, K, fc, S, L, Z, Mu, No, FL, FZ⟩ := A
 dsimp only [Ax.val] at *
 subst hO
 have HC := hid hc
 have HC2 := hid hc2
 clear hc hc2
 go_enter Tryz.func26, Tryz.ntmps26
 go_wp2
 rw [zeroS]
 go_loopw [11] (fun i wr => ∃ k : Nat, k ≤ O ∧ i = .int .i64 k ∧ Hid (Below w.heap.size w wr ∧ wr.cell? ⟨w.heap.size, 3, none⟩ = some (.slice oa O oc) ∧ Bx wr (w.heap.size + 1 + 1) (fitN Mu No l k) ∧ Bx wr (w.heap.size + 1) (fun _ => 0))) (fun i _ => O - (intOf i).toNat)
 case atStart =>
  refine ⟨0, by omega, rfl, hid ⟨(((Below.refl _ _).alloc jq0 _).alloc (by simp) _).alloc (by simp; omega) _, ?_, ?_, ?_⟩⟩
  ·exact cell_alloc1 _ (cell_alloc1 _ (cell_of_alloc rfl))
  ·exact bx_new2 w _ _
  ·exact (bx_new1 w _).below (box_below _ _) (by simp)
 case round =>
  obtain ⟨k, hk, rfl, H⟩ := hrel
  by_cases hlt : k < O
  ·obtain rfl := ha (by omega)
   obtain rfl := ha2 (by omega)
   have h1 : wr.cell? ⟨b, o + k, none⟩ = some (.int .u64 (Mu k : Nat)) := below_cell H.out.1 jq0 (HC.out k hlt)
   have h2 : wr.cell? ⟨b2, o2 + k, none⟩ = some (.int .u64 (No k : Nat)) := below_cell H.out.1 jq0 (HC2.out k hlt)
   have h3 := H.out.2.1
   have E1 := hid (bits_and_u64_nat l (Mu k) hl (HU.out k hlt))
   have E2 := hid (bits_and_u64_nat l (No k) hl (HN.out k hlt))
   have C := hid (addB (w.heap.size + 1 + 1) (fitN Mu No l k) k wr (by omega) H.out.2.2.1)
   by_cases g1 : l &&& Mu k = Mu k
   ·by_cases g2 : l &&& No k = 0
    ·have hf : fts l (Mu k) (No k) = true := by simp [fts, g1, g2]
     have HF := hid hf
     rw [g1] at E1
     rw [g2] at E2
     have e1 : (bits BinOp.and IntKind.u64 (l : Int) (Mu k : Int) == (Mu k : Int)) = true := by rw [E1.out]; simp
     have e2 : (bits BinOp.and IntKind.u64 (l : Int) (No k : Int) == 0) = true := by rw [E2.out]; simp
     clear g1 g2 hf
     go_wp2_with fail
     refine C.out.mono ?_
     rintro e w' ⟨⟨v, rfl⟩, h1, h2, h3⟩
     have HH := hid (And.intro h1 (And.intro h2 h3))
     clear h1 h2 h3
     go_wp2
     go_roundw
     case rel =>
      refine ⟨k + 1, by omega, by go_num, hid ⟨H.out.1.trans (HH.out.2.1.below (by omega) H.out.1.size), HH.out.2.1.cell (by simp; omega) H.out.2.1, ?_, H.out.2.2.2.but HH.out.2.1 (by omega)⟩⟩
      rw [fitN, if_pos HF.out]
      exact HH.out.1
     case measure => simp [intOf]; omega
    ·have hf : ¬ fts l (Mu k) (No k) = true := by simp [fts, g2]
     have HF := hid hf
     rw [g1] at E1
     have e1 : (bits BinOp.and IntKind.u64 (l : Int) (Mu k : Int) == (Mu k : Int)) = true := by rw [E1.out]; simp
     have e2 : (bits BinOp.and IntKind.u64 (l : Int) (No k : Int) == 0) = false := by rw [E2.out]; simp; omega
     clear g1 g2 hf
     go_wp2
     go_roundw
     case rel =>
      refine ⟨k + 1, by omega, by go_num, hid ⟨H.out.1, H.out.2.1, ?_, H.out.2.2.2⟩⟩
      rw [fitN, if_neg HF.out]
      exact H.out.2.2.1
     case measure => simp [intOf]; omega
   ·have hf : ¬ fts l (Mu k) (No k) = true := by simp [fts, g1]
    have HF := hid hf
    have e1 : (bits BinOp.and IntKind.u64 (l : Int) (Mu k : Int) == (Mu k : Int)) = false := by rw [E1.out]; simp; omega
    clear g1 hf
    go_wp2
    go_roundw
    case rel =>
     refine ⟨k + 1, by omega, by go_num, hid ⟨H.out.1, H.out.2.1, ?_, H.out.2.2.2⟩⟩
     rw [fitN, if_neg HF.out]
     exact H.out.2.2.1
    case measure => simp [intOf]; omega
  ·have HK : Hid (k = O) := hid (by omega)
   have hsz := H.out.2.2.1.small
   go_wp2_with (first | (refine wl_load rfl _ rfl (w.heap.size + 1 + 1) 0 rfl _ H.out.2.2.1.st ?_) | (refine wl_store rfl _ _ rfl (w.heap.size + 1) (fitN Mu No l k) rfl rfl _ H.out.2.2.2 hsz ?_; intro w1 hb1 hs1 hx1))
   refine bodyPost_ret (res_set rfl rfl hx1) rfl ?_
   exact ⟨by rw [HK.out], H.out.1.trans (hb1.below (by omega) H.out.1.size)⟩
structure Rx where
 nb : Nat
 G : Nat
 c1 : Nat
 pb : Nat
 c2 : Nat
 tb : Nat
 m : Nat
 c3 : Nat
 fb : Nat
 K : Nat
 c4 : Nat
 N : Nat → Nat → Nat
 P : Nat → Nat → Nat
 T : Nat → Nat → Nat
 F : Nat → Nat → Nat
def Rx.val (R : Rx) : Value := .agg #[.slice (some ⟨R.nb, 0, none⟩) R.G R.c1, .slice (some ⟨R.pb, 0, none⟩) R.G R.c2, .slice (some ⟨R.tb, 0, none⟩) R.m R.c3, .slice (some ⟨R.fb, 0, none⟩) R.K R.c4]
structure Rw (w : World) (R : Rx) : Prop where
 next : Ls w R.nb R.G R.N
 prev : Ls w R.pb R.G R.P
 fits : Ls w R.tb R.m R.T
 fair : Ls w R.fb R.K R.F
 g : R.G ≤ 2048
 m : 0 < R.m
 m60 : R.m ≤ 60
 k80 : R.K ≤ 80
 tb : Tb w
 blk : R.nb < w.heap.size ∧ R.pb < w.heap.size ∧ R.tb < w.heap.size ∧ R.fb < w.heap.size
theorem Rw.below {w w' : World} {R : Rx} (h : Rw w R) (hb : Below w.heap.size w w') : Rw w' R :=
 ⟨h.next.below' hb, h.prev.below' hb, h.fits.below' hb, h.fair.below' hb, h.g, h.m, h.m60, h.k80, fun j hj => below_cell hb jq0 (h.tb j hj), by have := h.blk; have := hb.size; omega⟩
set_option maxHeartbeats 1000000 in
theorem forward_any (R : Rx) (s p : Nat) (w : World) (h : Rw w R) (hs : s < R.G) (hp : p < R.m) :
  Calls Tryz.prog 76 #[R.val, .agg #[.int .i64 s, .int .i64 p]] w fun e w' => e = .returned (.tuple #[.pointer (some ⟨R.nb, s * 32, none⟩), .int .i64 ((p + 1) % R.m : Nat)]) ∧ Below w.heap.size w w' := by
 have hG := h.g
 have hm := h.m60
 clear h
 obtain ⟨nb, G, c1, pb, c2, tb, m, c3, fb, K, c4, N, P, T, F⟩ := R
 dsimp only [Rx.val] at *
 have hmz : ((m : Int) == 0) = false := beq_eq_false_iff_ne.2 (by omega)
 go_enter Tryz.func76, Tryz.ntmps76
 go_wp2
 go_region
 go_wp2
 go_ret2
 have e : ((p : Int) + 1) % (m : Int) = (((p + 1) % m : Nat) : Int) := by rw [Int.natCast_emod]; simp
 rw [← e]
 exact ⟨rfl, ((((Below.refl _ _).alloc jq0 _).alloc (by simp) _)).drew⟩
set_option maxHeartbeats 1000000 in
theorem backward_any (R : Rx) (s p : Nat) (w : World) (h : Rw w R) (hs : s < R.G) (hp : p < R.m) :
  Calls Tryz.prog 79 #[R.val, .agg #[.int .i64 s, .int .i64 p]] w fun e w' => e = .returned (.tuple #[.pointer (some ⟨R.pb, s * 32, none⟩), .int .i64 ((p + R.m - 1) % R.m : Nat)]) ∧ Below w.heap.size w w' := by
 have hG := h.g
 have hm := h.m60
 clear h
 obtain ⟨nb, G, c1, pb, c2, tb, m, c3, fb, K, c4, N, P, T, F⟩ := R
 dsimp only [Rx.val] at *
 have hmz : ((m : Int) == 0) = false := beq_eq_false_iff_ne.2 (by omega)
 go_enter Tryz.func79, Tryz.ntmps79
 go_wp2
 go_region
 go_wp2
 go_ret2
 have e : ((p : Int) + (m : Int) - 1) % (m : Int) = (((p + m - 1) % m : Nat) : Int) := by rw [Int.natCast_emod, show ((p + m - 1 : Nat) : Int) = (p : Int) + m - 1 by omega]
 rw [← e]
 exact ⟨rfl, ((((Below.refl _ _).alloc jq0 _).alloc (by simp) _)).drew⟩
theorem a_below_of_drewB {B : Nat} {w w' : World} (h : Below B w.drew w') : Below B w w' := ⟨h.os, h.tape, h.output, h.size, h.block⟩
structure Rb (w : World) (b : Nat) (R : Rx) : Prop where
 r0 : w.cell? ⟨b, 0, none⟩ = some (.slice (some ⟨R.nb, 0, none⟩) R.G R.c1)
 r1 : w.cell? ⟨b, 1, none⟩ = some (.slice (some ⟨R.pb, 0, none⟩) R.G R.c2)
 r2 : w.cell? ⟨b, 2, none⟩ = some (.slice (some ⟨R.tb, 0, none⟩) R.m R.c3)
 r3 : w.cell? ⟨b, 3, none⟩ = some (.slice (some ⟨R.fb, 0, none⟩) R.K R.c4)
theorem Rb.below {w w' : World} {b : Nat} {R : Rx} (h : Rb w b R) (hb : Below w.heap.size w w') : Rb w' b R :=
 ⟨below_cell hb jq0 h.r0, below_cell hb jq0 h.r1, below_cell hb jq0 h.r2, below_cell hb jq0 h.r3⟩
theorem Rb.but {w w' : World} {b c : Nat} {R : Rx} (h : Rb w b R) (hb : But c w w') (hc : b ≠ c) : Rb w' b R :=
 ⟨hb.cell hc h.r0, hb.cell hc h.r1, hb.cell hc h.r2, hb.cell hc h.r3⟩
theorem rb_new (w : World) (nb G c1 pb c2 tb m c3 fb K c4 : Nat) (N P T F : Nat → Nat → Nat) :
  ∃ W, w.alloc (.cells #[.slice (some ⟨nb, 0, none⟩) G c1, .slice (some ⟨pb, 0, none⟩) G c2, .slice (some ⟨tb, 0, none⟩) m c3, .slice (some ⟨fb, 0, none⟩) K c4] 67) = W ∧ Below w.heap.size w W ∧ W.heap.size = w.heap.size + 1 ∧ Rb W w.heap.size ⟨nb, G, c1, pb, c2, tb, m, c3, fb, K, c4, N, P, T, F⟩ :=
 ⟨_, rfl, box_below _ _, by simp, cell_of_alloc rfl, cell_of_alloc rfl, cell_of_alloc rfl, cell_of_alloc rfl⟩
def Sp (w : World) (a : Option Addr) (n : Nat) (l : Nat → Nat × Nat) : Prop :=
 ∃ b, (0 < n → a = some ⟨b, 0, none⟩) ∧ ∀ i, i < n → w.cell? ⟨b, i * 2, none⟩ = some (.int .i64 ((l i).1 : Nat)) ∧ w.cell? ⟨b, i * 2 + 1, none⟩ = some (.int .i64 ((l i).2 : Nat))
theorem Sp.below {w w' : World} {a : Option Addr} {n : Nat} {l : Nat → Nat × Nat} (h : Sp w a n l) (hb : Below w.heap.size w w') : Sp w' a n l := by
 obtain ⟨b, h1, h2⟩ := h
 exact ⟨b, h1, fun i hi => ⟨below_cell hb jq0 (h2 i hi).1, below_cell hb jq0 (h2 i hi).2⟩⟩
def gos (R : Rx) (n : Nat) (l : Nat → Nat × Nat) : Bool := decide (1 < n) || (decide (((l 0).2 + 1) % R.m = (l 0).2) && mem (R.N (l 0).1) (l 0).1)
set_option maxHeartbeats 2000000 in
theorem goesOn_any (R : Rx) (a : Option Addr) (n c : Nat) (l : Nat → Nat × Nat) (w : World) (h : Rw w R) (hl : Sp w a n l) (hn : 0 < n) (hn2 : n ≤ 140737488355328) (hok : ∀ i, i < n → (l i).1 < R.G ∧ (l i).2 < R.m) :
  Calls Tryz.prog 107 #[R.val, .slice a n c] w fun e w' => e = .returned (.bool (gos R n l)) ∧ Below w.heap.size w w' := by
 have hg := h.g
 have hm := h.m60
 obtain ⟨b, h1, h2⟩ := hl
 obtain rfl := h1 hn
 by_cases h3 : 1 < n
 ·have E : Hid (gos R n l = true) := hid (by simp [gos, h3])
  have h4 : (1 : Int) < n := by omega
  clear h h2 hok h1
  obtain ⟨nb, G, c1, pb, c2, tb, m, c3, fb, K, c4, N, P, T, F⟩ := R
  dsimp only [Rx.val] at *
  go_enter Tryz.func107, Tryz.ntmps107
  go_wp2
  go_ret
  exact ⟨ret_bool E.out.symm, box_below _ _⟩
 ·obtain rfl : n = 1 := by omega
  have h5 := h2 0 (by omega)
  have h6 := hok 0 (by omega)
  have C := hid (fun (z : World) (hz : Below w.heap.size w z) => forward_any R (l 0).1 (l 0).2 z (h.below hz) h6.1 h6.2)
  have C2 := hid (fun (z : World) (hz : Below w.heap.size w z) => has_any R.nb ((l 0).1 * 32) (R.N (l 0).1) (l 0).1 z (by omega) ((h.below hz).next _ h6.1))
  have E : Hid (gos R 1 l = (decide (((l 0).2 + 1) % R.m = (l 0).2) && mem (R.N (l 0).1) (l 0).1)) := hid (by simp [gos])
  clear h h2 hok h1 h3 hn hn2
  generalize hs : (l 0).1 = s at *
  generalize hp : (l 0).2 = p at *
  clear hs hp
  obtain ⟨h5a, h5b⟩ := h5
  obtain ⟨h6a, h6b⟩ := h6
  obtain ⟨nb, G, c1, pb, c2, tb, m, c3, fb, K, c4, N, P, T, F⟩ := R
  dsimp only [Rx.val] at *
  have HB1 : Hid (b < w.heap.size) := hid (World.block_lt_of_cell? _ _ h5a)
  by_cases hq : (p + 1) % m = p
  ·have hq2 : ((((p + 1) % m : Nat) : Int) == (p : Int)) = true := by rw [hq]; simp
   have HQ := hid hq
   generalize hr : (p + 1) % m = r at *
   clear hq hr
   go_enter Tryz.func107, Tryz.ntmps107
   go_wp2
   obtain ⟨W0, hW0, hb0, hs0, hR⟩ := rb_new w nb G c1 pb c2 tb m c3 fb K c4 N P T F
   rw [hW0]
   clear hW0
   obtain ⟨r0, r1, r2, r3⟩ := hR
   have y0 := below_cell hb0 jq0 h5a
   have y1 := below_cell hb0 jq0 h5b
   clear h5a h5b
   dsimp only at r0 r1 r2 r3
   have HB0 := hid hb0
   clear hb0
   go_region_held3 (fun z => z.cell? ⟨w.heap.size, 0, none⟩ = some (.slice (some ⟨nb, 0, none⟩) G c1) ∧ z.cell? ⟨w.heap.size, 1, none⟩ = some (.slice (some ⟨pb, 0, none⟩) G c2) ∧ z.cell? ⟨w.heap.size, 2, none⟩ = some (.slice (some ⟨tb, 0, none⟩) m c3) ∧ z.cell? ⟨w.heap.size, 3, none⟩ = some (.slice (some ⟨fb, 0, none⟩) K c4) ∧ z.cell? ⟨b, 0, none⟩ = some (.int .i64 s) ∧ z.cell? ⟨b, 1, none⟩ = some (.int .i64 p)) (first | go_keep) (first | (go_at_call 76; refine (C.out _ ?_).mono ?_; (exact HB0.out.drew); rintro e w1 ⟨rfl, hb1⟩; have hb2 := a_below_of_drewB hb1; have g0 := below_cell hb2 jq0 r0; have g1 := below_cell hb2 jq0 r1; have g2 := below_cell hb2 jq0 r2; have g3 := below_cell hb2 jq0 r3; have g4 := below_cell hb2 jq0 y0; have g5 := below_cell hb2 jq0 y1) | fail)
   have hB : Hid (Below w.heap.size w w1) := hid (HB0.out.trans (hb2.mono HB0.out.size))
   clear hb1 hb2 g0 g1 g2 g3 r0 r1 r2 r3 y0 y1
   go_wp2_with (first | (go_at_call 39; refine (C2.out _ hB.out).mono ?_; rintro e w2 ⟨rfl, rfl⟩))
   go_ret
   refine ⟨ret_bool ?_, hB.out⟩
   rw [E.out]
   simp [HQ.out]
  ·have hq2 : ((((p + 1) % m : Nat) : Int) == (p : Int)) = false := beq_eq_false_iff_ne.2 (by omega)
   have HQ := hid hq
   generalize hr : (p + 1) % m = r at *
   clear hq hr
   go_enter Tryz.func107, Tryz.ntmps107
   go_wp2
   obtain ⟨W0, hW0, hb0, hs0, hR⟩ := rb_new w nb G c1 pb c2 tb m c3 fb K c4 N P T F
   rw [hW0]
   clear hW0
   obtain ⟨r0, r1, r2, r3⟩ := hR
   have y0 := below_cell hb0 jq0 h5a
   have y1 := below_cell hb0 jq0 h5b
   clear h5a h5b
   dsimp only at r0 r1 r2 r3
   have HB0 := hid hb0
   clear hb0
   go_region_held3 (fun z => z.cell? ⟨w.heap.size, 0, none⟩ = some (.slice (some ⟨nb, 0, none⟩) G c1) ∧ z.cell? ⟨w.heap.size, 1, none⟩ = some (.slice (some ⟨pb, 0, none⟩) G c2) ∧ z.cell? ⟨w.heap.size, 2, none⟩ = some (.slice (some ⟨tb, 0, none⟩) m c3) ∧ z.cell? ⟨w.heap.size, 3, none⟩ = some (.slice (some ⟨fb, 0, none⟩) K c4) ∧ z.cell? ⟨b, 0, none⟩ = some (.int .i64 s) ∧ z.cell? ⟨b, 1, none⟩ = some (.int .i64 p)) (first | go_keep) (first | (go_at_call 76; refine (C.out _ ?_).mono ?_; (exact HB0.out.drew); rintro e w1 ⟨rfl, hb1⟩; have hb2 := a_below_of_drewB hb1; have g0 := below_cell hb2 jq0 r0; have g1 := below_cell hb2 jq0 r1; have g2 := below_cell hb2 jq0 r2; have g3 := below_cell hb2 jq0 r3; have g4 := below_cell hb2 jq0 y0; have g5 := below_cell hb2 jq0 y1) | fail)
   have hB : Hid (Below w.heap.size w w1) := hid (HB0.out.trans (hb2.mono HB0.out.size))
   clear hb1 hb2 g0 g1 g2 g3 r0 r1 r2 r3 y0 y1
   go_wp2
   go_ret
   refine ⟨ret_bool ?_, hB.out⟩
   rw [E.out]
   simp [HQ.out]
end Go.Proofs.YtmdpbaobihdgkaaGreatDoor
