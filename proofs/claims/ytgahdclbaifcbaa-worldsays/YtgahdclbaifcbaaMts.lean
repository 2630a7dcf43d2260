/- Good's last piece: does a Loop meet all fair sets? -/
import Derived.Test.YtgahdclbaifcbaaGdp
namespace Go.Proofs.Ytgahdclbaifcbaa
open Go.RowKit

theorem in58_any (x : Int) (cb bb G : Nat) (B : Nat → Bool) (w : World) (hc : w.cell? ⟨cb, 0, none⟩ = some (.slice (some ⟨bb, 0, none⟩) G G)) (hr : ∀ i, i < G → w.cell? ⟨bb, i, none⟩ = some (.bool (B i))) (h0 : 0 ≤ x) (h1 : x < G) :
    Calls Try.prog 58 #[.int .i64 x, .pointer (some ⟨cb, 0, none⟩)] w fun e w' => e = .returned (.bool (B x.toNat)) ∧ w' = w := by
  obtain ⟨n, rfl⟩ : ∃ n : Nat, x = n := ⟨x.toNat, by omega⟩
  have h2 : n < G := by omega
  have hk := hr n h2
  clear hr
  rw [Int.toNat_natCast]
  generalize B n = q at *
  go_enter Try.func58, Try.ntmps58
  go_wp2
  go_ret
  exact ⟨rfl, rfl⟩

set_option maxHeartbeats 1000000 in
theorem idx43_any (a : Option Addr) (n c : Nat) (Z : Nat → Int) (cb bb G : Nat) (B : Nat → Bool) (w : World) (hn : n ≤ 140737488355328) (h : Row w a n Z) (hin : ∀ i, i < n → 0 ≤ Z i ∧ Z i < G) (hc : w.cell? ⟨cb, 0, none⟩ = some (.slice (some ⟨bb, 0, none⟩) G G)) (hr : ∀ i, i < G → w.cell? ⟨bb, i, none⟩ = some (.bool (B i))) :
    Calls Try.prog 43 #[.slice a n c, .func (.func 58) #[] #[.pointer (some ⟨cb, 0, none⟩)]] w fun e w' => (∃ r : Int, e = .returned (.int .i64 r) ∧ ((0 ≤ r ∧ ∃ k, k < n ∧ B (Z k).toNat = true) ∨ (r = -1 ∧ ∀ k, k < n → B (Z k).toNat = false))) ∧ w' = w := by
  obtain ⟨rb, ro, ha, hcc⟩ := h
  have HC := hid hcc
  have HB := hid (fun (x : Int) (h0 : 0 ≤ x) (h1 : x < G) => in58_any x cb bb G B w hc hr h0 h1)
  have HI := hid hin
  clear hcc hr hin hc
  go_enter Try.func43, Try.ntmps43
  go_wp2
  go_loop [8] (fun i => ∃ k : Nat, k ≤ n ∧ i = .int .i64 k ∧ Hid (∀ j, j < k → B (Z j).toNat = false)) (fun i => n - (intOf i).toNat)
  case atStart => exact ⟨0, by omega, rfl, hid (fun j hj => by omega)⟩
  case round =>
    obtain ⟨k, hk, rfl, H⟩ := hrel
    by_cases hlt : k < n
    · obtain rfl := ha (by omega)
      have hck := HC.out k hlt
      have C := hid (HB.out (Z k) (HI.out k hlt).1 (HI.out k hlt).2)
      cases hw : B (Z k).toNat
      · have HW := hid hw
        rw [hw] at C
        clear hw
        go_wp2_with fail
        refine C.out.mono ?_
        rintro e w' ⟨rfl, rfl⟩
        go_wp2
        go_round
        case rel => exact ⟨k + 1, by omega, by go_num, hid (snoc_all H.out HW.out)⟩
        case measure => simp [intOf]; omega
      · have HW := hid hw
        rw [hw] at C
        clear hw
        go_wp2_with fail
        refine C.out.mono ?_
        rintro e w' ⟨rfl, rfl⟩
        go_wp2
        go_ret
        exact ⟨⟨_, rfl, Or.inl ⟨by omega, k, hlt, HW.out⟩⟩, rfl⟩
    · go_wp2
      go_ret
      exact ⟨⟨_, rfl, Or.inr ⟨rfl, fun i hi => H.out i (by omega)⟩⟩, rfl⟩

/-- Is one of a list marked? -/
def anyB (n : Nat) (Z : Nat → Int) (B : Nat → Bool) : Bool := decide (∃ k, k < n ∧ B (Z k).toNat = true)

theorem cf21_any (a : Option Addr) (n c : Nat) (Z : Nat → Int) (cb bb G : Nat) (B : Nat → Bool) (w : World) (hn : n ≤ 140737488355328) (h : Row w a n Z) (hin : ∀ i, i < n → 0 ≤ Z i ∧ Z i < G) (hc : w.cell? ⟨cb, 0, none⟩ = some (.slice (some ⟨bb, 0, none⟩) G G)) (hr : ∀ i, i < G → w.cell? ⟨bb, i, none⟩ = some (.bool (B i))) :
    Calls Try.prog 21 #[.slice a n c, .func (.func 58) #[] #[.pointer (some ⟨cb, 0, none⟩)]] w fun e w' => e = .returned (.bool (anyB n Z B)) ∧ w' = w := by
  have C := hid (idx43_any a n c Z cb bb G B w hn h hin hc hr)
  clear h hin hc hr
  go_enter Try.func21, Try.ntmps21
  go_wp2_with fail
  refine C.out.mono ?_
  rintro e w1 ⟨⟨r, rfl, hr⟩, rfl⟩
  have HR := hid hr
  clear hr
  go_wp2
  go_ret
  refine ⟨ret_bool ?_, rfl⟩
  rcases HR.out with ⟨h1, h2⟩ | ⟨rfl, h2⟩
  · unfold anyB
    rw [decide_eq_true h2, decide_eq_true h1]
  · unfold anyB
    rw [decide_eq_false (p := ∃ k, k < n ∧ B (Z k).toNat = true) (fun ⟨k, hk, e⟩ => by rw [h2 k hk] at e; cases e)]
    rfl

theorem misses_any (a : Option Addr) (n c : Nat) (Z : Nat → Int) (cb bb G : Nat) (B : Nat → Bool) (w : World) (hn : n ≤ 140737488355328) (h : Row w a n Z) (hin : ∀ i, i < n → 0 ≤ Z i ∧ Z i < G) (hc : w.cell? ⟨cb, 0, none⟩ = some (.slice (some ⟨bb, 0, none⟩) G G)) (hr : ∀ i, i < G → w.cell? ⟨bb, i, none⟩ = some (.bool (B i))) :
    Calls Try.prog 57 #[.slice a n c, .pointer (some ⟨cb, 0, none⟩)] w fun e w' => e = .returned (.bool (!anyB n Z B)) ∧ w' = w := by
  have C := hid (cf21_any a n c Z cb bb G B w hn h hin hc hr)
  have hmf : ∀ (fn : Fn) (first cap : Array Value) (w : World), (Instr.makeFunc fn first cap).run Try.prog w = .ok (.func fn first cap) w := fun _ _ _ _ => rfl
  clear h hin hc hr
  generalize anyB n Z B = q at *
  go_enter Try.func57, Try.ntmps57
  go_wp2_with fail
  refine C.out.mono ?_
  rintro e w1 ⟨rfl, rfl⟩
  go_wp2
  go_ret
  exact ⟨rfl, rfl⟩

/-- Does a Loop meet all fair sets? -/
def mtB (A : Wx) (m : Nat) (Q : Nat → Int) : Bool := decide (∀ k, k < A.K → ∃ i, i < A.FL k ∧ has m Q (A.FZ k i) = true)

set_option maxHeartbeats 1000000 in
theorem meetsAll_any (A : Wx) (a : Option Addr) (n c : Nat) (Q : Nat → Int) (w : World) (h : Ww w A) (h0 : chkW A = 0) (hn : n ≤ 140737488355328) (hr : Row w a n Q) (hin : allIn n Q A.G = true) :
    Calls Try.prog 38 #[.agg #[.slice A.sa A.sn A.sc, .slice A.na A.G A.nc, .slice A.la A.M A.lc, .slice A.fa A.K A.fc], .slice a n c] w fun e w' => e = .returned (.bool (mtB A n Q)) ∧ Below w.heap.size w w' := by
  obtain ⟨W1, hW1, hb1, hs1, hbw⟩ := boxw w A
  obtain ⟨hG, hK, -, -, -, -, hF⟩ := chkW_ok h0
  have CA := hid (among_any A a n c Q W1 hn (hr.below hb1) (by omega) hin)
  have HW := hid h
  have HB1 := hid hb1
  have HBW := hid hbw
  have HFF := hid hF
  obtain ⟨q0, q1, q2, q3⟩ := hbw
  have hmf : ∀ (fn : Fn) (first cap : Array Value) (w : World), (Instr.makeFunc fn first cap).run Try.prog w = .ok (.func fn first cap) w := fun _ _ _ _ => rfl
  have hs1' := hid hs1
  have hmt : Hid (mtB A n Q = decide (∀ k, k < A.K → ∃ i, i < A.FL k ∧ has n Q (A.FZ k i) = true)) := hid rfl
  clear h h0 hr hin hb1 hs1 hF
  go_enter Try.func38, Try.ntmps38
  go_wp2_with fail
  refine CA.out.mono ?_
  rintro e w2 ⟨bb, rfl, HX⟩
  obtain ⟨W3, hW3, hb3, hs3, y0, yf, _⟩ := box1 w2 (.slice (some ⟨bb, 0, none⟩) A.G A.G) 29
  have hb13 : Below W1.heap.size W1 W3 := HX.out.2.1.trans (hb3.mono HX.out.2.1.size)
  have HB3 : Hid (Below w.heap.size w W3) := hid (HB1.out.trans (hb13.mono HB1.out.size))
  have HR3 := hid (HX.out.1.of_block (hb3.block _ HX.out.1.lt))
  have HY := hid y0
  obtain ⟨t0, t1, t2, t3⟩ := HBW.out.below hb13
  have C33 : Hid (Calls Try.prog 33 #[.slice A.fa A.K A.fc, .func (.func 57) #[] #[.pointer (some ⟨w2.heap.size, 0, none⟩)]] W3 fun e w' => e = .returned (.bool (!mtB A n Q)) ∧ Below W3.heap.size W3 w') := hid (cfLs_any A.fa A.K A.fc A.FL A.FZ 57 #[.pointer (some ⟨w2.heap.size, 0, none⟩)] (fun r => !anyB (A.FL r) (A.FZ r) (fun i => has n Q i)) (!mtB A n Q) W3 HW.out.k47 ((HW.out.below HB3.out).fair) (Or.inr (Or.inr ⟨rfl, _, rfl⟩)) (fun r a c u hr hu hrow => (misses_any a (A.FL r) c (A.FZ r) w2.heap.size bb A.G (fun i => has n Q i) u (HW.out.f47 r hr) hrow (HFF.out r hr) (below_cell hu (Nat.le_refl _) HY.out) (fun i hi => below_cell hu (Nat.le_refl _) (HR3.out.cell hi))).mono (by rintro e w' ⟨rfl, rfl⟩; exact ⟨rfl, Below.refl _ _⟩)) (by
    rw [hmt.out]
    have hfn : ∀ r, r < A.K → ∀ i, i < A.FL r → (((A.FZ r i).toNat : Nat) : Int) = A.FZ r i := fun r hr i hi => by have := (HFF.out r hr i hi).1; omega
    constructor
    · intro hh
      have h5 : ¬ ∀ k, k < A.K → ∃ i, i < A.FL k ∧ has n Q (A.FZ k i) = true := by simpa using hh
      refine Classical.byContradiction fun hn2 => h5 fun k hk => ?_
      refine Classical.byContradiction fun hn3 => hn2 ⟨k, hk, ?_⟩
      unfold anyB
      rw [decide_eq_false (p := ∃ j, j < A.FL k ∧ has n Q ((A.FZ k j).toNat : Nat) = true) (fun ⟨j, hj, e⟩ => hn3 ⟨j, hj, by rw [hfn k hk j hj] at e; exact e⟩)]
      rfl
    · rintro ⟨k, hk, hk2⟩
      rw [decide_eq_false (p := ∀ k, k < A.K → ∃ i, i < A.FL k ∧ has n Q (A.FZ k i) = true)]
      · rfl
      · intro hall
        obtain ⟨i, hi, e⟩ := hall k hk
        have : anyB (A.FL k) (A.FZ k) (fun i => has n Q i) = true := decide_eq_true ⟨i, hi, by show has n Q ((A.FZ k i).toNat : Nat) = true; rw [hfn k hk i hi]; exact e⟩
        simp only [this] at hk2
        cases hk2))
  clear hb13 hb3 CA HX y0 yf hs3 q0 q1 q2 q3
  obtain ⟨q, hq⟩ : ∃ q, mtB A n Q = q := ⟨_, rfl⟩
  rw [hq] at C33
  have HQ := hid hq
  clear hq hmt
  go_wp2_with fail
  refine C33.out.mono ?_
  rintro e w4 ⟨rfl, hb4⟩
  have HB4 := hid (HB3.out.trans (hb4.mono HB3.out.size))
  clear hb4 t0 t1 t2 t3
  go_wp2
  go_ret
  exact ⟨ret_bool (by rw [HQ.out]), HB4.out⟩

end Go.Proofs.Ytgahdclbaifcbaa
