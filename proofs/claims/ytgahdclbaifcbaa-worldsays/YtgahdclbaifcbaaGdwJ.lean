/- Good. Good: what it answers. -/
import Derived.Test.YtgahdclbaifcbaaMts
import Derived.Test.YtgahdclbaifcbaaLsi
import Derived.Test.YtgahdclbaifcbaaChw
import Derived.Test.YtgahdclbaifcbaaDno
import Derived.Test.YtgahdclbaifcbaaHeld
namespace Go.Proofs.Ytgahdclbaifcbaa
open Go.RowKit

theorem Try.elem22 : Try.prog.underlying 22 = some (.slice (Try.prog.elem 22)) := by kernel_rfl
theorem size22 (w : World) : (Go.sizeOf (Try.prog.elem 22)).run Try.prog w = .ok 1 w := by
  rw [show Try.prog.elem 22 = 3 from by kernel_rfl]
  obtain ⟨i, hi, _, hs, _⟩ := info_parts Try.info3
  simp [Go.sizeOf, typeInfo, hi, hs]
theorem sl22 (a : Option Addr) (len cap h : Nat) (hh : h ≤ cap) (w : World) : (Instr.slice 22 (.slice a len cap) none (some (.int .i64 h)) none).run Try.prog w = .ok (.slice a h cap) w := by
  rw [run_slice_h (P := Try.prog) (w := w) 22 a len cap Try.elem22 .i64 h (by omega) (by omega), size22]
  cases a with
  | none => simp [Result.andThen, sliced]
  | some x => simp [Result.andThen, sliced, Addr.add]
theorem sl22_from (b o len cap k : Nat) (hk : k ≤ len) (hc : k < cap) (w : World) : (Instr.slice 22 (.slice (some ⟨b, o, none⟩) len cap) (some (.int .i64 k)) none none).run Try.prog w = .ok (.slice (some ⟨b, o + k, none⟩) (len - k) (cap - k)) w := by
  rw [run_slice_l (P := Try.prog) (w := w) 22 (some ⟨b, o, none⟩) len cap Try.elem22 .i64 k (by omega) (by omega), size22]
  simp [Result.andThen, sliced, addr_none]
  omega

theorem pw_in {s m : Nat} {P Q : Nat → Int} {G : Nat} (hm : 0 < m) (hP : allIn s P G = true) (hQ : allIn m Q G = true) (i : Nat) : 0 ≤ pw s m P Q i ∧ pw s m P Q i < G := by
  unfold pw
  by_cases e : i < s
  · rw [if_pos e]; exact allIn_all hP i e
  · rw [if_neg e]
    by_cases e2 : i < s + m
    · rw [if_pos e2]; exact allIn_all hQ _ (by omega)
    · rw [if_neg e2]; exact allIn_all hQ 0 hm

/-- Does a path begin where it may, and go on by Next? -/
def wyB (A : Wx) (s m : Nat) (P Q : Nat → Int) : Bool := has A.sn A.S (pw s m P Q 0) && decide (∀ i, i < s + m → has (A.L (pw s m P Q i).toNat) (A.Z (pw s m P Q i).toNat) (pw s m P Q (i + 1)) = true)

set_option maxRecDepth 100000 in
set_option maxHeartbeats 2000000 in
theorem isWay_any (A : Wx) (pa : Option Addr) (s pc : Nat) (qa : Option Addr) (m qc : Nat) (P Q : Nat → Int) (w : World) (h : Ww w A) (h0 : chkW A = 0) (hP : Row w pa s P) (hQ : Row w qa m Q) (hpn : pa = none → s = 0 ∧ pc = 0) (hqn : qa = none → m = 0 ∧ qc = 0) (hqc : m ≤ qc) (hsm : s + m ≤ 60000) (hm : 0 < m) (hPi : allIn s P A.G = true) (hQi : allIn m Q A.G = true) :
    Calls Try.prog 37 #[.agg #[.slice A.sa A.sn A.sc, .slice A.na A.G A.nc, .slice A.la A.M A.lc, .slice A.fa A.K A.fc], .agg #[.slice pa s pc, .slice qa m qc]] w fun e w' => e = .returned (.bool (wyB A s m P Q)) ∧ Below w.heap.size w w' := by
  obtain ⟨W1, hW1, hb1, hs1, hbw⟩ := boxw w A
  obtain ⟨W2, hW2, hb2, hs2, y0, y1⟩ := box2 W1 (.slice pa s pc) (.slice qa m qc) 37
  have h2 : Below w.heap.size w W2 := hb1.trans (hb2.mono hb1.size)
  have HB2 := hid h2
  have HBW := hid (hbw.below hb2)
  have HY := hid (And.intro y0 y1)
  have CC : Hid (∀ (z : World) (gb : Nat), Below w.heap.size w z → z.cell? ⟨gb, 0, none⟩ = some (.slice pa s pc) → z.cell? ⟨gb, 1, none⟩ = some (.slice qa m qc) → z.cell? ⟨gb, 2, none⟩ = some (.slice qa 1 qc) → Calls Try.prog 54 #[.slice (some ⟨gb, 0, none⟩) 3 3] z fun e w' => NewI z (s + m + 1) (pw s m P Q) e w') := hid (fun z gb hz c0 c1 c2 => concatI_any c0 c1 c2 (hP.below hz) (hQ.below hz) hpn hqn (by omega) hm)
  have CG : Hid (∀ z, Below w.heap.size w z → Calls Try.prog 55 #[.agg #[.slice A.sa A.sn A.sc, .slice A.na A.G A.nc, .slice A.la A.M A.lc, .slice A.fa A.K A.fc]] z fun e w' => ∃ (b : Nat) (rb : Nat → Nat), e = .returned (.slice (some ⟨b, 0, none⟩) A.G A.G) ∧ Hid (Below z.heap.size z w' ∧ ∀ i, i < A.G → w'.cell? ⟨b, i, none⟩ = some (.slice (some ⟨rb i, 0, none⟩) A.G A.G) ∧ ∀ x, x < A.G → w'.cell? ⟨rb i, x, none⟩ = some (.bool (has (A.L i) (A.Z i) x)))) := hid (fun z hz => goings_any A z (h.below hz) h0)
  have CI : Hid (∀ (z : World) (x : Int), Below w.heap.size w z → Calls Try.prog 42 #[.slice A.sa A.sn A.sc, .int .i64 x] z fun e w' => e = .returned (.bool (has A.sn A.S x)) ∧ w' = z) := hid (fun z x hz => conI A.sa A.sn A.sc A.S x z h.s47 ((h.below hz).start))
  have HPW := hid (fun i => pw_in (s := s) (P := P) hm hPi hQi i)
  have HWY : Hid (wyB A s m P Q = (has A.sn A.S (pw s m P Q 0) && decide (∀ i, i < s + m → has (A.L (pw s m P Q i).toNat) (A.Z (pw s m P Q i).toNat) (pw s m P Q (i + 1)) = true))) := hid rfl
  have hsl := sl22 qa m qc 1 (by omega)
  obtain ⟨q0, q1, q2, q3⟩ := HBW.out
  have hW1s : W2.heap.size = W1.heap.size + 1 := hs2
  have HS1 := hid (And.intro hs1 hs2)
  generalize wyB A s m P Q = wy at *
  generalize pw s m P Q = Y at *
  obtain ⟨sa, sn, sc, na, G, nc, la, M, lc, fa, K, fc, S, L, Z, Lb, FL, FZ⟩ := A
  dsimp only at *
  clear hP hQ hpn hqn hb1 hb2 hs2 hbw h2 h h0 hs1 hPi hQi hW1s
  have hS0 : (fun z : World => z.cell? ⟨W1.heap.size, 0, none⟩ = some (.slice pa s pc) ∧ z.cell? ⟨W1.heap.size, 1, none⟩ = some (.slice qa m qc)) W2.drew := ⟨y0, y1⟩
  have hS1 : (fun z : World => z.cell? ⟨W1.heap.size, 0, none⟩ = some (.slice pa s pc) ∧ z.cell? ⟨W1.heap.size, 1, none⟩ = some (.slice qa m qc)) (W2.drew.alloc (.cells #[.slice pa s pc, .slice qa m qc, .slice qa 1 qc] 22)) := ⟨cell_alloc1 _ y0, cell_alloc1 _ y1⟩
  go_enter Try.func37, Try.ntmps37
  go_wp2_with fail
  refine G_region (fun z : World => z.cell? ⟨W1.heap.size, 0, none⟩ = some (.slice pa s pc) ∧ z.cell? ⟨W1.heap.size, 1, none⟩ = some (.slice qa m qc)) (fun _ => false) (by kernel_rfl) hS0 (fun _ => ?_)
  refine G_take (i := 0) (oi := { dst := some 9, op := Op.fieldAddr 37 (Operand.tmp 3) 0, type := 0, pos := _, after := #[], guard := none }) (v := .pointer (some ⟨W1.heap.size, 0, none⟩)) rfl (by kernel_rfl) (by kernel_rfl) (by kernel_rfl) (by kernel_rfl) (fun _ _ _ h => h) (by rfl) (fun u hu => ?_) hS0 ?_
  · (try dsimp only at hu); go_simp
  (try simp only [Act.put, List.setIfInBounds_toArray, List.set_cons_zero, List.set_cons_succ])
  refine G_take (i := 1) (oi := { dst := some 10, op := Op.load 22 (Operand.tmp 9), type := 22, pos := _, after := #[{ on := 0, ground := Ground.data }], guard := none }) (v := .slice pa s pc) rfl (by kernel_rfl) (by kernel_rfl) (by kernel_rfl) (by kernel_rfl) (fun _ _ _ h => h) (by rfl) (fun u hu => ?_) hS0 ?_
  · (try dsimp only at hu); go_simp
  (try simp only [Act.put, List.setIfInBounds_toArray, List.set_cons_zero, List.set_cons_succ])
  refine G_take (i := 2) (oi := { dst := some 11, op := Op.fieldAddr 37 (Operand.tmp 3) 1, type := 0, pos := _, after := #[], guard := none }) (v := .pointer (some ⟨W1.heap.size, 1, none⟩)) rfl (by kernel_rfl) (by kernel_rfl) (by kernel_rfl) (by kernel_rfl) (fun _ _ _ h => h) (by rfl) (fun u hu => ?_) hS0 ?_
  · (try dsimp only at hu); go_simp
  (try simp only [Act.put, List.setIfInBounds_toArray, List.set_cons_zero, List.set_cons_succ])
  refine G_take (i := 3) (oi := { dst := some 12, op := Op.load 22 (Operand.tmp 11), type := 22, pos := _, after := #[{ on := 2, ground := Ground.data }], guard := none }) (v := .slice qa m qc) rfl (by kernel_rfl) (by kernel_rfl) (by kernel_rfl) (by kernel_rfl) (fun _ _ _ h => h) (by rfl) (fun u hu => ?_) hS0 ?_
  · (try dsimp only at hu); go_simp
  (try simp only [Act.put, List.setIfInBounds_toArray, List.set_cons_zero, List.set_cons_succ])
  refine G_take (i := 4) (oi := { dst := some 13, op := Op.fieldAddr 37 (Operand.tmp 3) 1, type := 0, pos := _, after := #[], guard := none }) (v := .pointer (some ⟨W1.heap.size, 1, none⟩)) rfl (by kernel_rfl) (by kernel_rfl) (by kernel_rfl) (by kernel_rfl) (fun _ _ _ h => h) (by rfl) (fun u hu => ?_) hS0 ?_
  · (try dsimp only at hu); go_simp
  (try simp only [Act.put, List.setIfInBounds_toArray, List.set_cons_zero, List.set_cons_succ])
  refine G_take (i := 5) (oi := { dst := some 14, op := Op.load 22 (Operand.tmp 13), type := 22, pos := _, after := #[{ on := 4, ground := Ground.data }], guard := none }) (v := .slice qa m qc) rfl (by kernel_rfl) (by kernel_rfl) (by kernel_rfl) (by kernel_rfl) (fun _ _ _ h => h) (by rfl) (fun u hu => ?_) hS0 ?_
  · (try dsimp only at hu); go_simp
  (try simp only [Act.put, List.setIfInBounds_toArray, List.set_cons_zero, List.set_cons_succ])
  refine G_take (i := 6) (oi := { dst := some 15, op := Op.slice 22 (Operand.tmp 14) none (some (Operand.const (Value.int IntKind.i64 1))) none, type := 22, pos := _, after := #[{ on := 5, ground := Ground.data }], guard := none }) (v := .slice qa 1 qc) rfl (by kernel_rfl) (by kernel_rfl) (by kernel_rfl) (by kernel_rfl) (fun _ _ _ h => h) (by rfl) (fun u hu => ?_) hS0 ?_
  · (try dsimp only at hu); (go_simp; try (intro hh; exfalso; omega))
  (try simp only [Act.put, List.setIfInBounds_toArray, List.set_cons_zero, List.set_cons_succ])
  refine G_step (i := 7) (o := { dst := some 16, op := Op.buildSlice 23 3 #[(0, Operand.tmp 10), (1, Operand.tmp 12), (2, Operand.tmp 15)], type := 23, pos := _, after := #[{ on := 1, ground := Ground.data }, { on := 3, ground := Ground.data }, { on := 6, ground := Ground.data }], guard := none }) (by kernel_rfl) rfl (fun K' hK => ?_)
  go_simp
  refine hK.out _ _ (fun _ => hS1) (fun _ => ?_)
  (try simp only [Act.put, List.setIfInBounds_toArray, List.set_cons_zero, List.set_cons_succ])
  refine G_step (i := 8) (o := { dst := some 17, op := Op.call { callee := Callee.value (Operand.func 54), args := #[Operand.tmp 16], argTypes := #[23] }, type := 22, pos := _, after := #[{ on := 7, ground := Ground.data }], guard := none }) (by kernel_rfl) rfl (fun K' hK => ?_)
  go_simp
  have hal : Below w.heap.size w (W2.drew.alloc (.cells #[.slice pa s pc, .slice qa m qc, .slice qa 1 qc] 22)) := HB2.out.trans ((((Below.refl _ _).drew).alloc (Nat.le_refl _) _).mono HB2.out.size)
  refine (CC.out _ W2.heap.size hal (cell_of_alloc rfl) (cell_of_alloc rfl) (cell_of_alloc rfl)).mono ?_
  rintro e w3 ⟨ra, rc, rfl, hrn, _, hrc, hrow, hb3⟩
  have HB3 : Hid (Below w.heap.size w w3) := hid (hal.trans (hb3.mono hal.size))
  have hb23 : Below W2.heap.size W2 w3 := ((Below.refl W2.heap.size W2).drew.alloc (Nat.le_refl _) _).trans (hb3.mono (by simp))
  have HB23 := hid hb23
  have s3 : (fun z : World => z.cell? ⟨W1.heap.size, 0, none⟩ = some (.slice pa s pc) ∧ z.cell? ⟨W1.heap.size, 1, none⟩ = some (.slice qa m qc)) w3 := ⟨below_cell hb23 (Nat.le_refl _) y0, below_cell hb23 (Nat.le_refl _) y1⟩
  obtain ⟨rb, ro, hra, hrr⟩ := hrow
  have hre := hra (by omega)
  have HRR := hid hrr
  have HRC := hid hrc
  clear hrn hb3 hb23 hal hra hrr hrc
  subst hre
  try dsimp only
  refine hK.out _ _ (fun _ => s3) (fun _ => ?_)
  (try simp only [Act.put, List.setIfInBounds_toArray, List.set_cons_zero, List.set_cons_succ])
  refine G_step (i := 9) (o := { dst := some 5, op := Op.assign (Operand.tmp 17), type := 22, pos := _, after := #[{ on := 8, ground := Ground.data }, { on := 8, ground := Ground.chain }, { on := 0, ground := Ground.phase }, { on := 1, ground := Ground.phase }, { on := 2, ground := Ground.phase }, { on := 3, ground := Ground.phase }, { on := 4, ground := Ground.phase }, { on := 5, ground := Ground.phase }, { on := 6, ground := Ground.phase }, { on := 7, ground := Ground.phase }, { on := 8, ground := Ground.phase }], guard := none }) (by kernel_rfl) rfl (fun K' hK => ?_)
  go_simp
  refine hK.out _ _ (fun _ => s3) (fun _ => ?_)
  (try simp only [Act.put, List.setIfInBounds_toArray, List.set_cons_zero, List.set_cons_succ])
  refine G_done (by kernel_rfl) ?_ _
  (try dsimp only [Exit.then])
  obtain ⟨t0, t1, t2, t3⟩ := HBW.out.below HB23.out
  dsimp only at t0 t1 t2 t3
  obtain ⟨x, hx⟩ : ∃ x : Nat, Y 0 = x := ⟨(Y 0).toNat, by have := (HPW.out 0).1; omega⟩
  have hr0 := HRR.out 0 (by omega)
  rw [Nat.add_zero, hx] at hr0
  have hS2 : (fun z : World => z.cell? ⟨w.heap.size, 0, none⟩ = some (.slice sa sn sc) ∧ z.cell? ⟨rb, ro, none⟩ = some (.int .i64 (x : Nat))) w3.drew := ⟨t0, hr0⟩
  have CI3 := hid (CI.out w3.drew (x : Nat) HB3.out.drew)
  rw [hx] at HWY
  clear s3 hS0 hS1 hsl y0 y1 q0 q1 q2 q3 hx CC
  generalize has sn S ((x : Nat) : Int) = hq at *
  cases hq
  · go_wp2_with fail
    refine G_region (fun z : World => z.cell? ⟨w.heap.size, 0, none⟩ = some (.slice sa sn sc) ∧ z.cell? ⟨rb, ro, none⟩ = some (.int .i64 (x : Nat))) (fun _ => false) (by kernel_rfl) hS2 (fun _ => ?_)
    refine G_take (i := 0) (oi := { dst := some 18, op := Op.fieldAddr 26 (Operand.tmp 2) 0, type := 0, pos := _, after := #[], guard := none }) (v := .pointer (some ⟨w.heap.size, 0, none⟩)) rfl (by kernel_rfl) (by kernel_rfl) (by kernel_rfl) (by kernel_rfl) (fun _ _ _ h => h) (by rfl) (fun u hu => ?_) hS2 ?_
    · (try dsimp only at hu); go_simp
    (try simp only [Act.put, List.setIfInBounds_toArray, List.set_cons_zero, List.set_cons_succ])
    refine G_take (i := 1) (oi := { dst := some 19, op := Op.load 22 (Operand.tmp 18), type := 22, pos := _, after := #[{ on := 0, ground := Ground.data }], guard := none }) (v := .slice sa sn sc) rfl (by kernel_rfl) (by kernel_rfl) (by kernel_rfl) (by kernel_rfl) (fun _ _ _ h => h) (by rfl) (fun u hu => ?_) hS2 ?_
    · (try dsimp only at hu); go_simp
    (try simp only [Act.put, List.setIfInBounds_toArray, List.set_cons_zero, List.set_cons_succ])
    refine G_take (i := 2) (oi := { dst := some 20, op := Op.move (Operand.tmp 5), type := 22, pos := _, after := #[], guard := none }) (v := .slice (some ⟨rb, ro, none⟩) (s + m + 1) rc) rfl (by kernel_rfl) (by kernel_rfl) (by kernel_rfl) (by kernel_rfl) (fun _ _ _ h => h) (by rfl) (fun u hu => ?_) hS2 ?_
    · (try dsimp only at hu); go_simp
    (try simp only [Act.put, List.setIfInBounds_toArray, List.set_cons_zero, List.set_cons_succ])
    refine G_take (i := 3) (oi := { dst := some 21, op := Op.indexAddr 22 (Operand.tmp 20) (Operand.const (Value.int IntKind.i64 0)), type := 0, pos := _, after := #[{ on := 2, ground := Ground.data }], guard := none }) (v := .pointer (some ⟨rb, ro, none⟩)) rfl (by kernel_rfl) (by kernel_rfl) (by kernel_rfl) (by kernel_rfl) (fun _ _ _ h => h) (by rfl) (fun u hu => ?_) hS2 ?_
    · (try dsimp only at hu); (go_simp; try (intro hh; exfalso; omega))
    (try simp only [Act.put, List.setIfInBounds_toArray, List.set_cons_zero, List.set_cons_succ])
    refine G_take (i := 4) (oi := { dst := some 22, op := Op.load 3 (Operand.tmp 21), type := 3, pos := _, after := #[{ on := 3, ground := Ground.data }], guard := none }) (v := .int .i64 (x : Nat)) rfl (by kernel_rfl) (by kernel_rfl) (by kernel_rfl) (by kernel_rfl) (fun _ _ _ h => h) (by rfl) (fun u hu => ?_) hS2 ?_
    · (try dsimp only at hu); go_simp
    (try simp only [Act.put, List.setIfInBounds_toArray, List.set_cons_zero, List.set_cons_succ])
    refine G_step (i := 5) (o := { dst := some 23, op := Op.call { callee := Callee.value (Operand.func 42), args := #[Operand.tmp 19, Operand.tmp 22], argTypes := #[22, 3] }, type := 4, pos := _, after := #[{ on := 1, ground := Ground.data }, { on := 4, ground := Ground.data }], guard := none }) (by kernel_rfl) rfl (fun K' hK => ?_)
    go_simp
    refine CI3.out.mono ?_
    rintro e z1 ⟨rfl, hq⟩
    obtain rfl := hq.symm
    dsimp only
    refine hK.out _ _ (fun _ => hS2) (fun _ => ?_)
    (try simp only [Act.put, List.setIfInBounds_toArray, List.set_cons_zero, List.set_cons_succ])
    refine G_take (i := 6) (oi := { dst := some 24, op := Op.unOp UnOp.not 4 (Operand.tmp 23), type := 4, pos := _, after := #[{ on := 5, ground := Ground.data }], guard := none }) (v := .bool true) rfl (by kernel_rfl) (by kernel_rfl) (by kernel_rfl) (by kernel_rfl) (fun _ _ _ h => h) (by rfl) (fun u hu => ?_) hS2 ?_
    · (try dsimp only at hu); go_simp
    (try simp only [Act.put, List.setIfInBounds_toArray, List.set_cons_zero, List.set_cons_succ])
    refine G_done (by kernel_rfl) ?_ _
    (try dsimp only [Exit.then])
    have HF : Hid (Below w.heap.size w w3.drew) := hid HB3.out.drew
    clear hS2 t0 t1 t2 t3 hr0
    go_wp2
    go_ret
    exact ⟨ret_bool (by rw [HWY.out]; rfl), HF.out⟩
  · go_wp2_with fail
    refine G_region (fun z : World => z.cell? ⟨w.heap.size, 0, none⟩ = some (.slice sa sn sc) ∧ z.cell? ⟨rb, ro, none⟩ = some (.int .i64 (x : Nat))) (fun _ => false) (by kernel_rfl) hS2 (fun _ => ?_)
    refine G_take (i := 0) (oi := { dst := some 18, op := Op.fieldAddr 26 (Operand.tmp 2) 0, type := 0, pos := _, after := #[], guard := none }) (v := .pointer (some ⟨w.heap.size, 0, none⟩)) rfl (by kernel_rfl) (by kernel_rfl) (by kernel_rfl) (by kernel_rfl) (fun _ _ _ h => h) (by rfl) (fun u hu => ?_) hS2 ?_
    · (try dsimp only at hu); go_simp
    (try simp only [Act.put, List.setIfInBounds_toArray, List.set_cons_zero, List.set_cons_succ])
    refine G_take (i := 1) (oi := { dst := some 19, op := Op.load 22 (Operand.tmp 18), type := 22, pos := _, after := #[{ on := 0, ground := Ground.data }], guard := none }) (v := .slice sa sn sc) rfl (by kernel_rfl) (by kernel_rfl) (by kernel_rfl) (by kernel_rfl) (fun _ _ _ h => h) (by rfl) (fun u hu => ?_) hS2 ?_
    · (try dsimp only at hu); go_simp
    (try simp only [Act.put, List.setIfInBounds_toArray, List.set_cons_zero, List.set_cons_succ])
    refine G_take (i := 2) (oi := { dst := some 20, op := Op.move (Operand.tmp 5), type := 22, pos := _, after := #[], guard := none }) (v := .slice (some ⟨rb, ro, none⟩) (s + m + 1) rc) rfl (by kernel_rfl) (by kernel_rfl) (by kernel_rfl) (by kernel_rfl) (fun _ _ _ h => h) (by rfl) (fun u hu => ?_) hS2 ?_
    · (try dsimp only at hu); go_simp
    (try simp only [Act.put, List.setIfInBounds_toArray, List.set_cons_zero, List.set_cons_succ])
    refine G_take (i := 3) (oi := { dst := some 21, op := Op.indexAddr 22 (Operand.tmp 20) (Operand.const (Value.int IntKind.i64 0)), type := 0, pos := _, after := #[{ on := 2, ground := Ground.data }], guard := none }) (v := .pointer (some ⟨rb, ro, none⟩)) rfl (by kernel_rfl) (by kernel_rfl) (by kernel_rfl) (by kernel_rfl) (fun _ _ _ h => h) (by rfl) (fun u hu => ?_) hS2 ?_
    · (try dsimp only at hu); (go_simp; try (intro hh; exfalso; omega))
    (try simp only [Act.put, List.setIfInBounds_toArray, List.set_cons_zero, List.set_cons_succ])
    refine G_take (i := 4) (oi := { dst := some 22, op := Op.load 3 (Operand.tmp 21), type := 3, pos := _, after := #[{ on := 3, ground := Ground.data }], guard := none }) (v := .int .i64 (x : Nat)) rfl (by kernel_rfl) (by kernel_rfl) (by kernel_rfl) (by kernel_rfl) (fun _ _ _ h => h) (by rfl) (fun u hu => ?_) hS2 ?_
    · (try dsimp only at hu); go_simp
    (try simp only [Act.put, List.setIfInBounds_toArray, List.set_cons_zero, List.set_cons_succ])
    refine G_step (i := 5) (o := { dst := some 23, op := Op.call { callee := Callee.value (Operand.func 42), args := #[Operand.tmp 19, Operand.tmp 22], argTypes := #[22, 3] }, type := 4, pos := _, after := #[{ on := 1, ground := Ground.data }, { on := 4, ground := Ground.data }], guard := none }) (by kernel_rfl) rfl (fun K' hK => ?_)
    go_simp
    refine CI3.out.mono ?_
    rintro e z1 ⟨rfl, hq⟩
    obtain rfl := hq.symm
    dsimp only
    refine hK.out _ _ (fun _ => hS2) (fun _ => ?_)
    (try simp only [Act.put, List.setIfInBounds_toArray, List.set_cons_zero, List.set_cons_succ])
    refine G_take (i := 6) (oi := { dst := some 24, op := Op.unOp UnOp.not 4 (Operand.tmp 23), type := 4, pos := _, after := #[{ on := 5, ground := Ground.data }], guard := none }) (v := .bool false) rfl (by kernel_rfl) (by kernel_rfl) (by kernel_rfl) (by kernel_rfl) (fun _ _ _ h => h) (by rfl) (fun u hu => ?_) hS2 ?_
    · (try dsimp only at hu); go_simp
    (try simp only [Act.put, List.setIfInBounds_toArray, List.set_cons_zero, List.set_cons_succ])
    refine G_done (by kernel_rfl) ?_ _
    (try dsimp only [Exit.then])
    have HF : Hid (Below w.heap.size w w3.drew) := hid HB3.out.drew
    obtain ⟨t0, t1, t2, t3⟩ := HBW.out.below (show Below W2.heap.size W2 w3.drew from HB23.out.drew)
    dsimp only at t0 t1 t2 t3
    have C := hid (CG.out w3.drew HF.out)
    clear hS2 hr0
    go_wp2_with fail
    refine C.out.mono ?_
    rintro e w4 ⟨gb, rr, rfl, HX⟩
    have HB4 : Hid (Below w.heap.size w w4) := hid (HF.out.trans (HX.out.1.mono HF.out.size))
    have HRR4 : Hid (∀ i, i < s + m + 1 → w4.cell? ⟨rb, ro + i, none⟩ = some (.int .i64 (Y i))) := hid (fun i hi => below_cell HX.out.1 (Nat.le_refl _) (HRR.out i hi))
    have hsf := sl22_from rb ro (s + m + 1) rc 1 (by omega) (by have := HRC.out; omega)
    rw [show s + m + 1 - 1 = s + m by omega] at hsf
    have hrc := HRC.out
    clear t0 t1 t2 t3 C CG CI CI3
    go_wp2
    clear hsf
    go_loop [30] (fun i => ∃ k : Nat, k ≤ s + m ∧ i = .int .i64 k ∧ Hid (∀ j, j < k → has (L (Y j).toNat) (Z (Y j).toNat) (Y (j + 1)) = true)) (fun i => s + m - (intOf i).toNat)
    case atStart => exact ⟨0, by omega, rfl, hid (fun j hj => by omega)⟩
    case round =>
      obtain ⟨k, hk, rfl, H⟩ := hrel
      have hsm2 : ((s + m : Nat) : Int) = (s : Nat) + (m : Nat) := by omega
      by_cases hlt : k < s + m
      · obtain ⟨x1, hx1⟩ : ∃ x : Nat, Y k = x := ⟨(Y k).toNat, by have := (HPW.out k).1; omega⟩
        obtain ⟨x2, hx2⟩ : ∃ x : Nat, Y (k + 1) = x := ⟨(Y (k + 1)).toNat, by have := (HPW.out (k + 1)).1; omega⟩
        have l1 : x1 < G := by have := (HPW.out k).2; omega
        have l2 : x2 < G := by have := (HPW.out (k + 1)).2; omega
        have z1 := HRR4.out k (by omega)
        have z2 := HRR4.out (k + 1) (by omega)
        rw [hx1] at z1
        rw [hx2, show ro + (k + 1) = ro + 1 + k by omega] at z2
        obtain ⟨z3, hz4⟩ := HX.out.2 x1 l1
        have z4 := hz4 x2 l2
        have HE1 := hid hx1
        have HE2 := hid hx2
        have HH : Hid (has (L (Y k).toNat) (Z (Y k).toNat) (Y (k + 1)) = has (L x1) (Z x1) x2) := hid (by rw [hx1, hx2]; rfl)
        have hlt2 : ((k : Nat) : Int) < (s : Nat) + (m : Nat) := by omega
        clear hx1 hx2 hz4
        generalize has (L x1) (Z x1) ((x2 : Nat) : Int) = q at *
        cases q
        · have HN : Hid (wy = false) := hid (by
            rw [HWY.out, decide_eq_false]
            · rfl
            · intro hall
              have := hall k hlt
              rw [HH.out] at this
              cases this)
          go_wp2
          go_ret
          exact ⟨ret_bool HN.out.symm, HB4.out⟩
        · go_wp2
          go_round
          case rel => exact ⟨k + 1, by omega, by go_num, hid (snoc_all H.out HH.out)⟩
          case measure => simp [intOf]; omega
      · have hlt2 : ¬ ((k : Nat) : Int) < (s : Nat) + (m : Nat) := by omega
        have HN : Hid (wy = true) := hid (by
          rw [HWY.out, decide_eq_true (fun i hi => H.out i (by omega))]
          rfl)
        go_wp2
        go_ret
        exact ⟨ret_bool HN.out.symm, HB4.out⟩
end Go.Proofs.Ytgahdclbaifcbaa

namespace Go.Proofs.Ytgahdclbaifcbaa
open Go.RowKit

/-- Is a path a fair way that goes round? -/
def gdB (A : Wx) (s m : Nat) (P Q : Nat → Int) : Bool := (decide (0 < m) && allIn s P A.G && allIn m Q A.G) && wyB A s m P Q && mtB A m Q
def gdE (A : Wx) (s m : Nat) : Int := if chkW A ≠ 0 then chkW A else if 60000 < s + m then 2 else 0

/-- A path in memory. -/
structure Pw (w : World) (pa : Option Addr) (s pc : Nat) (qa : Option Addr) (m qc : Nat) (P Q : Nat → Int) : Prop where
  stem : Row w pa s P
  loop : Row w qa m Q
  pn : pa = none → s = 0 ∧ pc = 0
  qn : qa = none → m = 0 ∧ qc = 0
  pl : s ≤ pc
  ql : m ≤ qc
  s8 : s * 8 ≤ 140737488355328
  m8 : m * 8 ≤ 140737488355328
theorem Pw.below {w w' : World} {pa : Option Addr} {s pc : Nat} {qa : Option Addr} {m qc : Nat} {P Q : Nat → Int} (h : Pw w pa s pc qa m qc P Q) (hb : Below w.heap.size w w') : Pw w' pa s pc qa m qc P Q :=
  ⟨h.stem.below hb, h.loop.below hb, h.pn, h.qn, h.pl, h.ql, h.s8, h.m8⟩

set_option maxRecDepth 100000 in
set_option maxHeartbeats 2000000 in
theorem good_any (A : Wx) (pa : Option Addr) (s pc : Nat) (qa : Option Addr) (m qc : Nat) (P Q : Nat → Int) (w : World) (h : Ww w A) (hp : Pw w pa s pc qa m qc P Q) :
    Calls Try.prog 13 #[.agg #[.slice A.sa A.sn A.sc, .slice A.na A.G A.nc, .slice A.la A.M A.lc, .slice A.fa A.K A.fc], .agg #[.slice pa s pc, .slice qa m qc]] w fun e w' => ∃ (b : Bool) (er : Int), e = .returned (.tuple #[.bool b, .int .i64 er]) ∧ Hid (er = gdE A s m ∧ (er ≠ 0 → b = false) ∧ (er = 0 → b = gdB A s m P Q) ∧ Below w.heap.size w w') := by
  obtain ⟨W1, hW1, hb1, hs1, hbw⟩ := boxw w A
  obtain ⟨W2, hW2, hb2, hs2, y0, y1⟩ := box2 W1 (.slice pa s pc) (.slice qa m qc) 37
  have h2 : Below w.heap.size w W2 := hb1.trans (hb2.mono hb1.size)
  have HB2 := hid h2
  have HBW := hid (hbw.below hb2)
  have HY := hid (And.intro y0 y1)
  have HH := hid (And.intro h hp)
  have C9 : Hid (Calls Try.prog 9 #[.agg #[.slice A.sa A.sn A.sc, .slice A.na A.G A.nc, .slice A.la A.M A.lc, .slice A.fa A.K A.fc]] W2 fun e w' => e = .returned (.int .i64 (chkW A)) ∧ Below W2.heap.size W2 w') := hid (chkW_any A W2 (h.below h2))
  have hs8 := hp.s8
  have hm8 := hp.m8
  obtain ⟨q0, q1, q2, q3⟩ := HBW.out
  obtain ⟨ck, hck⟩ : ∃ ck, chkW A = ck := ⟨_, rfl⟩
  rw [hck] at C9
  have HCK := hid hck
  have HGE : Hid (gdE A s m = if ck ≠ 0 then ck else if 60000 < s + m then 2 else 0) := hid (by unfold gdE; rw [hck])
  clear h hp hb1 hs1 hb2 hs2 hbw h2 hck
  go_enter Try.func13, Try.ntmps13
  go_wp2_with fail
  refine C9.out.mono ?_
  rintro e w3 ⟨rfl, hb3⟩
  have HB3 := hid (HB2.out.trans (hb3.mono HB2.out.size))
  have HBW3 := hid (HBW.out.below hb3)
  have z0 := below_cell hb3 (Nat.le_refl _) y0
  have z1 := below_cell hb3 (Nat.le_refl _) y1
  have HZ := hid (And.intro z0 z1)
  clear hb3 q0 q1 q2 q3 y0 y1 C9
  by_cases h0 : ck = 0
  · have g0 : (ck != 0) = false := by simp [h0]
    have HC0 := hid h0
    by_cases hl : 60000 < s + m
    · have hl2 : (60000 : Int) < (s : Nat) + (m : Nat) := by omega
      have HL := hid hl
      clear hl h0
      go_wp2
      refine bodyPost_ret (v := .tuple #[.bool false, .int .i64 2]) (by simp [results, Try.f13, go_sem]) rfl ?_
      exact ⟨_, _, rfl, hid ⟨by rw [HGE.out, if_neg (by rw [HC0.out]; simp), if_pos HL.out], fun _ => rfl, (fun e => by cases e), HB3.out⟩⟩
    · have hl2 : ¬ (60000 : Int) < (s : Nat) + (m : Nat) := by omega
      have HL := hid hl
      have HE0 : Hid ((0 : Int) = gdE A s m) := hid (by rw [HGE.out, if_neg (by rw [HC0.out]; simp), if_neg hl])
      obtain ⟨q0, q1, q2, q3⟩ := HBW3.out
      have C36 := hid (goesRound_any A pa s pc qa m qc P Q w3 (HH.out.1.below HB3.out) (by omega) (by omega) ((HH.out.2.below HB3.out).stem) ((HH.out.2.below HB3.out).loop))
      obtain ⟨g, hg⟩ : ∃ g, (decide (0 < m) && allIn s P A.G && allIn m Q A.G) = g := ⟨_, rfl⟩
      rw [hg] at C36
      have HG := hid hg
      clear hl h0 hg
      go_wp2_with fail
      refine C36.out.mono ?_
      rintro e w4 ⟨rfl, hb4⟩
      have HB4 := hid (HB3.out.trans (hb4.mono HB3.out.size))
      have HBW4 := hid (HBW3.out.below hb4)
      have x0 := below_cell hb4 (Nat.le_refl _) z0
      have x1 := below_cell hb4 (Nat.le_refl _) z1
      clear q0 q1 q2 q3 hb4 z0 z1 C36
      cases g
      · go_wp2
        refine bodyPost_ret (v := .tuple #[.bool false, .int .i64 0]) (by simp [results, Try.f13, go_sem]) rfl ?_
        exact ⟨_, _, rfl, hid ⟨HE0.out, fun e => absurd rfl e, fun _ => by unfold gdB; rw [HG.out]; rfl, HB4.out⟩⟩
      · have hgg : 0 < m ∧ allIn s P A.G = true ∧ allIn m Q A.G = true := by
          have h := HG.out
          simp only [Bool.and_eq_true, decide_eq_true_eq] at h
          exact ⟨h.1.1, h.1.2, h.2⟩
        have HGG := hid hgg
        clear hgg
        obtain ⟨q0, q1, q2, q3⟩ := HBW4.out
        have hpw := HH.out.2.below HB4.out
        have C37 := hid (isWay_any A pa s pc qa m qc P Q w4 (HH.out.1.below HB4.out) (HCK.out.trans HC0.out) hpw.stem hpw.loop hpw.pn hpw.qn hpw.ql (by have := HL.out; omega) HGG.out.1 HGG.out.2.1 HGG.out.2.2)
        obtain ⟨y, hy⟩ : ∃ y, wyB A s m P Q = y := ⟨_, rfl⟩
        rw [hy] at C37
        have HWY := hid hy
        clear hpw hy
        go_wp2_with fail
        refine C37.out.mono ?_
        rintro e w5 ⟨rfl, hb5⟩
        have HB5 := hid (HB4.out.trans (hb5.mono HB4.out.size))
        have HBW5 := hid (HBW4.out.below hb5)
        have v0 := below_cell hb5 (Nat.le_refl _) x0
        have v1 := below_cell hb5 (Nat.le_refl _) x1
        clear q0 q1 q2 q3 hb5 x0 x1 C37
        cases y
        · go_wp2
          refine bodyPost_ret (v := .tuple #[.bool false, .int .i64 0]) (by simp [results, Try.f13, go_sem]) rfl ?_
          exact ⟨_, _, rfl, hid ⟨HE0.out, fun e => absurd rfl e, fun _ => by unfold gdB; rw [HG.out, HWY.out]; rfl, HB5.out⟩⟩
        · obtain ⟨q0, q1, q2, q3⟩ := HBW5.out
          have C38 := hid (meetsAll_any A qa m qc Q w5 (HH.out.1.below HB5.out) (HCK.out.trans HC0.out) (by omega) ((HH.out.2.below HB5.out).loop) HGG.out.2.2)
          obtain ⟨t, ht⟩ : ∃ t, mtB A m Q = t := ⟨_, rfl⟩
          rw [ht] at C38
          have HT := hid ht
          clear ht
          go_wp2_with fail
          refine C38.out.mono ?_
          rintro e w6 ⟨rfl, hb6⟩
          have HB6 := hid (HB5.out.trans (hb6.mono HB5.out.size))
          clear q0 q1 q2 q3 hb6 v0 v1 C38
          go_wp2
          refine bodyPost_ret (v := .tuple #[.bool t, .int .i64 0]) (by simp [results, Try.f13, go_sem]) rfl ?_
          exact ⟨_, _, rfl, hid ⟨HE0.out, fun e => absurd rfl e, fun _ => by unfold gdB; rw [HG.out, HWY.out, HT.out]; rfl, HB6.out⟩⟩
  · have g0 : (ck != 0) = true := by simp [h0]
    have HC0 := hid h0
    clear h0
    go_wp2
    refine bodyPost_ret (v := .tuple #[.bool false, .int .i64 ck]) (by simp [results, Try.f13, go_sem]) rfl ?_
    exact ⟨_, _, rfl, hid ⟨by rw [HGE.out, if_pos HC0.out], fun _ => rfl, fun e => absurd e HC0.out, HB3.out⟩⟩

set_option maxHeartbeats 1000000 in
/-- The letters of a list's states. -/
theorem letters_any (A : Wx) (a : Option Addr) (n c : Nat) (Z : Nat → Int) (w : World) (h : Ww w A) (hM : A.M = A.G) (hn : n * 8 ≤ 140737488355328) (hr : Row w a n Z) (hin : allIn n Z A.G = true) :
    Calls Try.prog 39 #[.agg #[.slice A.sa A.sn A.sc, .slice A.na A.G A.nc, .slice A.la A.M A.lc, .slice A.fa A.K A.fc], .slice a n c] w fun e w' => ∃ b, e = .returned (.slice (some ⟨b, 0, none⟩) n n) ∧ Hid (RowU w' (some ⟨b, 0, none⟩) n (fun i => (A.Lb (Z i).toNat : Int)) ∧ Below w.heap.size w w' ∧ w.heap.size ≤ b) := by
  obtain ⟨W1, hW1, hb1, hs1, hbw⟩ := boxw w A
  have hmk := run_make_row' (P := Try.prog) 24 70 (.int .u64 0) 8 Try.underlying24 Try.info70 rfl .i64 .i64 n (by omega) (by omega)
  obtain ⟨b, o, ha, hc⟩ := hr
  obtain ⟨lb, lo, hla, hlc⟩ := (h.below hb1).label
  have HC := hid (fun i hi => below_cell hb1 (Nat.le_refl _) (hc i hi))
  have HA := hid (allIn_all hin)
  have HB1 := hid hb1
  have HLC := hid hlc
  have HLA : Hid (0 < A.M → A.la = some ⟨lb, lo, none⟩) := hid hla
  have HM := hid hM
  have HBW := hid hbw
  clear hc hin hb1 hs1 h hla hlc hM hbw
  obtain ⟨sa, sn, sc, na, G, nc, la, M, lc, fa, K, fc, S, L, Z2, Lb, FL, FZ⟩ := A
  dsimp only at *
  go_enter Try.func39, Try.ntmps39
  go_wp2
  clear hmk
  go_loopw [13] (fun i wr => ∃ k : Nat, k ≤ n ∧ i = .int .i64 k ∧ Hid (Below W1.heap.size W1 wr ∧ wr.rowIs W1.heap.size 70 n (fun x => .int .u64 (if x < k then (Lb (Z x).toNat : Int) else 0)))) (fun i _ => n - (intOf i).toNat)
  case atStart => exact ⟨0, Nat.zero_le _, rfl, hid ⟨box_below _ _, (World.rowIs_made W1 (.int .u64 0) n 70).congr (fun i _ => by rw [if_neg (Nat.not_lt_zero i)])⟩⟩
  case round =>
    obtain ⟨k, hk, rfl, H⟩ := hrel
    by_cases hlt : k < n
    · obtain rfl := ha (by omega)
      have hz := HA.out k hlt
      have hGM := HM.out
      obtain rfl := HLA.out (by omega)
      obtain ⟨t, ht⟩ : ∃ t : Nat, Z k = t := ⟨(Z k).toNat, by omega⟩
      have htM : t < M := by omega
      have hck : wr.cell? ⟨b, o + k, none⟩ = some (.int .i64 t) := by rw [← ht]; exact below_cell H.out.1 (Nat.le_refl _) (HC.out k hlt)
      have hlb := below_cell H.out.1 (Nat.le_refl _) (HLC.out t htM)
      have q2 := (HBW.out.below H.out.1).r2
      dsimp only at q2 hlb
      have hct := H.out.2.cell hlt
      have hfz := H.out.2.frozen k
      have Ht := hid ht
      clear ht hz hGM
      go_wp2
      go_roundw
      case rel =>
        refine ⟨k + 1, by omega, by go_num, hid ⟨H.out.1.setCell (by simp) _, (H.out.2.set k _).congr (fun i hi => ?_)⟩⟩
        by_cases e : i = k
        · subst e
          rw [if_pos rfl, if_pos (by omega), Ht.out]
          rfl
        · rw [if_neg e]
          by_cases e2 : i < k
          · rw [if_pos e2, if_pos (by omega)]
          · rw [if_neg e2, if_neg (by omega)]
      case measure => simp [intOf]; omega
    · go_wp2
      go_ret
      obtain rfl : k = n := by omega
      refine ⟨_, rfl, hid ⟨⟨W1.heap.size, 0, fun _ => rfl, fun i hi => ?_⟩, HB1.out.trans (H.out.1.mono HB1.out.size), HB1.out.size⟩⟩
      have := H.out.2.cell hi
      rw [if_pos hi] at this
      rw [Nat.zero_add]
      exact this

end Go.Proofs.Ytgahdclbaifcbaa
