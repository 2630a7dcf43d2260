/- The document's Both: what a pair leads to. -/
import Derived.Test.YtdncjikmknkkpaaDoorD51
import Derived.Test.YtdncjikmknkkpaaDoorDns
namespace Go.Proofs.YtdncjikmknkkpaaDoor
open Go.RowKit Go.Shelf Go.Maps

/-- What a pair leads to, as the document lists it. -/
def dBx (A B : Ax) (p : Nat × Nat) : List (Nat × Nat) := crs (okB A B) (raw (A.L p.1) (A.Z p.1)) (raw (B.L p.2) (B.Z p.2))
def dBs (A B : Ax) : List (Nat × Nat) := crs (okB A B) (raw A.sn A.S) (raw B.sn B.S)

theorem owns_at {w : World} {base : Nat} {l : List (Nat × Nat)} {xa : Option Addr} {n c : Nat} (h : w.ownsRow base 88 2 (.slice xa n c) l.length (pcells l)) : n = l.length ∧ Sp w xa l.length (nAt l) ∧ ∀ q, xa = some q → base ≤ q.block := by
  obtain ⟨a, c2, e, hs⟩ := owns_pd h
  cases e
  refine ⟨rfl, hs, fun q hq => ?_⟩
  rcases h.2 with ⟨e, _⟩ | ⟨g, cap, cur, e, hg, _⟩
  · injection e with e1 _ _
    rw [e1] at hq
    cases hq
  · injection e with e1 _ _
    rw [e1] at hq
    cases hq
    exact hg

set_option maxRecDepth 100000 in
set_option maxHeartbeats 4000000 in
theorem d53_any (A B : Ax) (Bf Ba Bb : Nat) (p : Nat × Nat) (w u : World) (hA : Aw w A) (hB : Aw w B) (hA0 : chkA A = 0) (hB0 : chkA B = 0) (hLA : ∀ r, r < A.G → A.L r ≤ 1048576) (hLB : ∀ r, r < B.G → B.L r ≤ 1048576) (hf : w.cell? ⟨Bf, 0, none⟩ = some (.func (.func 51) #[] #[.pointer (some ⟨Ba, 0, none⟩), .pointer (some ⟨Bb, 0, none⟩)])) (hboA : Bo w Ba A) (hboB : Bo w Bb B) (hb : Below w.heap.size w u) (hp : bP A B p) :
    Calls Tryd.prog 53 #[.agg #[.int .i64 ((p.1 : Nat) : Int), .int .i64 ((p.2 : Nat) : Int)], .pointer (some ⟨Bf, 0, none⟩), .pointer (some ⟨Ba, 0, none⟩), .pointer (some ⟨Bb, 0, none⟩)] u fun e u' => ∃ xa xc, e = .returned (.slice xa (dBx A B p).length xc) ∧ Hid (Below u.heap.size u u' ∧ Sp u' xa (dBx A B p).length (nAt (dBx A B p)) ∧ ∀ q, xa = some q → u.heap.size ≤ q.block) := by
  obtain ⟨px, py⟩ := p
  obtain ⟨hpx, hpy⟩ := hp
  dsimp only at hpx hpy ⊢
  obtain ⟨W0, hW0, hb0, hs0, x0, x1⟩ := box2 u (.int .i64 (px : Nat)) (.int .i64 (py : Nat)) 88
  have hbw : Below w.heap.size w W0 := hb.trans (hb0.mono hb.size)
  have hAz := hA.below hbw
  have hBz := hB.below hbw
  have hboA2 := hboA.below hbw
  have hboB2 := hboB.below hbw
  obtain ⟨_, _, _, _, _, hzA, _⟩ := chkA_ok hA0
  obtain ⟨_, _, _, _, _, hzB, _⟩ := chkA_ok hB0
  obtain ⟨nb, no, hna, hnc⟩ := hAz.next
  obtain ⟨na, nc, hck', hrow⟩ := hnc px hpx
  obtain ⟨mb, mo, hma, hmc⟩ := hBz.next
  obtain ⟨ma, mc, hck2', hrow2⟩ := hmc py hpy
  have yf := below_cell hbw (Nat.le_refl _) hf
  have ya := hboA2.r1
  have yb := hboB2.r1
  rw [hna (by omega)] at ya
  rw [hma (by omega)] at yb
  have C51 := hid (fun (z : World) (hz : Below W0.heap.size W0 z) => d51_any A B Ba Bb na ma (A.L px) nc (B.L py) mc (A.Z px) (B.Z py) z (hAz.below hz) (hBz.below hz) hA0 hB0 (hboA2.below hz) (hboB2.below hz) (hrow.below hz) (hrow2.below hz) (hzA px hpx) (hzB py hpy) (hLA px hpx) (hLB py hpy))
  have HB0 := hid hb0
  clear hA hB hA0 hB0 hLA hLB hf hboA hboB hb hb0 hbw hAz hBz hboA2 hboB2 hzA hzB hna hnc hma hmc hrow hrow2
  go_enter Tryd.func53, Tryd.ntmps53
  have hS0 : (fun z : World => z.cell? ⟨Bf, 0, none⟩ = some (.func (.func 51) #[] #[.pointer (some ⟨Ba, 0, none⟩), .pointer (some ⟨Bb, 0, none⟩)]) ∧ z.cell? ⟨Ba, 1, none⟩ = some (.slice (some ⟨nb, no, none⟩) A.G A.nc) ∧ z.cell? ⟨u.heap.size, 0, none⟩ = some (.int .i64 (px : Nat)) ∧ z.cell? ⟨nb, no + px, none⟩ = some (.slice na (A.L px) nc) ∧ z.cell? ⟨Bb, 1, none⟩ = some (.slice (some ⟨mb, mo, none⟩) B.G B.nc) ∧ z.cell? ⟨u.heap.size, 1, none⟩ = some (.int .i64 (py : Nat)) ∧ z.cell? ⟨mb, mo + py, none⟩ = some (.slice ma (B.L py) mc)) W0.drew := ⟨yf, ya, x0, hck', yb, x1, hck2'⟩
  go_wp2_with fail
  refine G_region (fun z : World => z.cell? ⟨Bf, 0, none⟩ = some (.func (.func 51) #[] #[.pointer (some ⟨Ba, 0, none⟩), .pointer (some ⟨Bb, 0, none⟩)]) ∧ z.cell? ⟨Ba, 1, none⟩ = some (.slice (some ⟨nb, no, none⟩) A.G A.nc) ∧ z.cell? ⟨u.heap.size, 0, none⟩ = some (.int .i64 (px : Nat)) ∧ z.cell? ⟨nb, no + px, none⟩ = some (.slice na (A.L px) nc) ∧ z.cell? ⟨Bb, 1, none⟩ = some (.slice (some ⟨mb, mo, none⟩) B.G B.nc) ∧ z.cell? ⟨u.heap.size, 1, none⟩ = some (.int .i64 (py : Nat)) ∧ z.cell? ⟨mb, mo + py, none⟩ = some (.slice ma (B.L py) mc)) (fun _ => false) (by kernel_rfl) hS0 (fun _ => ?_)
  refine G_take (i := 0) (oi := { dst := some 6, op := Op.load 89 (Operand.tmp 1), type := 89, pos := _, after := #[], guard := none }) (v := .func (.func 51) #[] #[.pointer (some ⟨Ba, 0, none⟩), .pointer (some ⟨Bb, 0, none⟩)]) rfl (by kernel_rfl) (by kernel_rfl) (by kernel_rfl) (by kernel_rfl) (fun _ _ _ h => h) (by rfl) (fun u hu => ?_) hS0 ?_
  · (try dsimp only at hu); go_simp
  (try simp only [Act.put, List.setIfInBounds_toArray, List.set_cons_zero, List.set_cons_succ])
  refine G_take (i := 1) (oi := { dst := some 7, op := Op.fieldAddr 26 (Operand.tmp 2) 1, type := 0, pos := _, after := #[], guard := none }) (v := .pointer (some ⟨Ba, 1, none⟩)) rfl (by kernel_rfl) (by kernel_rfl) (by kernel_rfl) (by kernel_rfl) (fun _ _ _ h => h) (by rfl) (fun u hu => ?_) hS0 ?_
  · (try dsimp only at hu); go_simp
  (try simp only [Act.put, List.setIfInBounds_toArray, List.set_cons_zero, List.set_cons_succ])
  refine G_take (i := 2) (oi := { dst := some 8, op := Op.load 23 (Operand.tmp 7), type := 23, pos := _, after := #[{ on := 1, ground := Ground.data }], guard := none }) (v := .slice (some ⟨nb, no, none⟩) A.G A.nc) rfl (by kernel_rfl) (by kernel_rfl) (by kernel_rfl) (by kernel_rfl) (fun _ _ _ h => h) (by rfl) (fun u hu => ?_) hS0 ?_
  · (try dsimp only at hu); go_simp
  (try simp only [Act.put, List.setIfInBounds_toArray, List.set_cons_zero, List.set_cons_succ])
  refine G_take (i := 3) (oi := { dst := some 9, op := Op.indexAddr 88 (Operand.tmp 4) (Operand.const (Value.int IntKind.i64 0)), type := 0, pos := _, after := #[], guard := none }) (v := .pointer (some ⟨u.heap.size, 0, none⟩)) rfl (by kernel_rfl) (by kernel_rfl) (by kernel_rfl) (by kernel_rfl) (fun _ _ _ h => h) (by rfl) (fun u hu => ?_) hS0 ?_
  · (try dsimp only at hu); go_simp
  (try simp only [Act.put, List.setIfInBounds_toArray, List.set_cons_zero, List.set_cons_succ])
  refine G_take (i := 4) (oi := { dst := some 10, op := Op.load 3 (Operand.tmp 9), type := 3, pos := _, after := #[{ on := 3, ground := Ground.data }], guard := none }) (v := .int .i64 (px : Nat)) rfl (by kernel_rfl) (by kernel_rfl) (by kernel_rfl) (by kernel_rfl) (fun _ _ _ h => h) (by rfl) (fun u hu => ?_) hS0 ?_
  · (try dsimp only at hu); go_simp
  (try simp only [Act.put, List.setIfInBounds_toArray, List.set_cons_zero, List.set_cons_succ])
  refine G_take (i := 5) (oi := { dst := some 11, op := Op.indexAddr 23 (Operand.tmp 8) (Operand.tmp 10), type := 0, pos := _, after := #[{ on := 2, ground := Ground.data }, { on := 4, ground := Ground.data }], guard := none }) (v := .pointer (some ⟨nb, no + px, none⟩)) rfl (by kernel_rfl) (by kernel_rfl) (by kernel_rfl) (by kernel_rfl) (fun _ _ _ h => h) (by rfl) (fun u hu => ?_) hS0 ?_
  · (try dsimp only at hu); go_simp
  (try simp only [Act.put, List.setIfInBounds_toArray, List.set_cons_zero, List.set_cons_succ])
  refine G_take (i := 6) (oi := { dst := some 12, op := Op.load 22 (Operand.tmp 11), type := 22, pos := _, after := #[{ on := 5, ground := Ground.data }], guard := none }) (v := .slice na (A.L px) nc) rfl (by kernel_rfl) (by kernel_rfl) (by kernel_rfl) (by kernel_rfl) (fun _ _ _ h => h) (by rfl) (fun u hu => ?_) hS0 ?_
  · (try dsimp only at hu); go_simp
  (try simp only [Act.put, List.setIfInBounds_toArray, List.set_cons_zero, List.set_cons_succ])
  refine G_take (i := 7) (oi := { dst := some 13, op := Op.fieldAddr 26 (Operand.tmp 3) 1, type := 0, pos := _, after := #[], guard := none }) (v := .pointer (some ⟨Bb, 1, none⟩)) rfl (by kernel_rfl) (by kernel_rfl) (by kernel_rfl) (by kernel_rfl) (fun _ _ _ h => h) (by rfl) (fun u hu => ?_) hS0 ?_
  · (try dsimp only at hu); go_simp
  (try simp only [Act.put, List.setIfInBounds_toArray, List.set_cons_zero, List.set_cons_succ])
  refine G_take (i := 8) (oi := { dst := some 14, op := Op.load 23 (Operand.tmp 13), type := 23, pos := _, after := #[{ on := 7, ground := Ground.data }], guard := none }) (v := .slice (some ⟨mb, mo, none⟩) B.G B.nc) rfl (by kernel_rfl) (by kernel_rfl) (by kernel_rfl) (by kernel_rfl) (fun _ _ _ h => h) (by rfl) (fun u hu => ?_) hS0 ?_
  · (try dsimp only at hu); go_simp
  (try simp only [Act.put, List.setIfInBounds_toArray, List.set_cons_zero, List.set_cons_succ])
  refine G_take (i := 9) (oi := { dst := some 15, op := Op.indexAddr 88 (Operand.tmp 4) (Operand.const (Value.int IntKind.i64 1)), type := 0, pos := _, after := #[], guard := none }) (v := .pointer (some ⟨u.heap.size, 1, none⟩)) rfl (by kernel_rfl) (by kernel_rfl) (by kernel_rfl) (by kernel_rfl) (fun _ _ _ h => h) (by rfl) (fun u hu => ?_) hS0 ?_
  · (try dsimp only at hu); go_simp
  (try simp only [Act.put, List.setIfInBounds_toArray, List.set_cons_zero, List.set_cons_succ])
  refine G_take (i := 10) (oi := { dst := some 16, op := Op.load 3 (Operand.tmp 15), type := 3, pos := _, after := #[{ on := 9, ground := Ground.data }], guard := none }) (v := .int .i64 (py : Nat)) rfl (by kernel_rfl) (by kernel_rfl) (by kernel_rfl) (by kernel_rfl) (fun _ _ _ h => h) (by rfl) (fun u hu => ?_) hS0 ?_
  · (try dsimp only at hu); go_simp
  (try simp only [Act.put, List.setIfInBounds_toArray, List.set_cons_zero, List.set_cons_succ])
  refine G_take (i := 11) (oi := { dst := some 17, op := Op.indexAddr 23 (Operand.tmp 14) (Operand.tmp 16), type := 0, pos := _, after := #[{ on := 8, ground := Ground.data }, { on := 10, ground := Ground.data }], guard := none }) (v := .pointer (some ⟨mb, mo + py, none⟩)) rfl (by kernel_rfl) (by kernel_rfl) (by kernel_rfl) (by kernel_rfl) (fun _ _ _ h => h) (by rfl) (fun u hu => ?_) hS0 ?_
  · (try dsimp only at hu); go_simp
  (try simp only [Act.put, List.setIfInBounds_toArray, List.set_cons_zero, List.set_cons_succ])
  refine G_take (i := 12) (oi := { dst := some 18, op := Op.load 22 (Operand.tmp 17), type := 22, pos := _, after := #[{ on := 11, ground := Ground.data }], guard := none }) (v := .slice ma (B.L py) mc) rfl (by kernel_rfl) (by kernel_rfl) (by kernel_rfl) (by kernel_rfl) (fun _ _ _ h => h) (by rfl) (fun u hu => ?_) hS0 ?_
  · (try dsimp only at hu); go_simp
  (try simp only [Act.put, List.setIfInBounds_toArray, List.set_cons_zero, List.set_cons_succ])
  refine G_step (i := 13) (o := { dst := some 19, op := Op.call { callee := Callee.value (Operand.tmp 6), args := #[Operand.tmp 12, Operand.tmp 18], argTypes := #[22, 22] }, type := 87, pos := _, after := #[{ on := 0, ground := Ground.data }, { on := 6, ground := Ground.data }, { on := 12, ground := Ground.data }], guard := none }) (by kernel_rfl) rfl (fun K' hK => ?_)
  go_simp
  refine (C51.out _ (Below.refl _ _).drew).mono ?_
  rintro e w5 ⟨v, rfl, HV⟩
  obtain ⟨va, vc, hv⟩ := owns_sl HV.out.2
  subst hv
  have hb5 : Below W0.heap.size W0 w5 := ((Below.refl _ _).drew).trans HV.out.1
  have s5 : (fun z : World => z.cell? ⟨Bf, 0, none⟩ = some (.func (.func 51) #[] #[.pointer (some ⟨Ba, 0, none⟩), .pointer (some ⟨Bb, 0, none⟩)]) ∧ z.cell? ⟨Ba, 1, none⟩ = some (.slice (some ⟨nb, no, none⟩) A.G A.nc) ∧ z.cell? ⟨u.heap.size, 0, none⟩ = some (.int .i64 (px : Nat)) ∧ z.cell? ⟨nb, no + px, none⟩ = some (.slice na (A.L px) nc) ∧ z.cell? ⟨Bb, 1, none⟩ = some (.slice (some ⟨mb, mo, none⟩) B.G B.nc) ∧ z.cell? ⟨u.heap.size, 1, none⟩ = some (.int .i64 (py : Nat)) ∧ z.cell? ⟨mb, mo + py, none⟩ = some (.slice ma (B.L py) mc)) w5 := ⟨below_cell hb5 (Nat.le_refl _) yf, below_cell hb5 (Nat.le_refl _) ya, below_cell hb5 (Nat.le_refl _) x0, below_cell hb5 (Nat.le_refl _) hck', below_cell hb5 (Nat.le_refl _) yb, below_cell hb5 (Nat.le_refl _) x1, below_cell hb5 (Nat.le_refl _) hck2'⟩
  clear hb5
  try dsimp only
  refine hK.out _ _ (fun _ => s5) (fun _ => ?_)
  (try simp only [Act.put, List.setIfInBounds_toArray, List.set_cons_zero, List.set_cons_succ])
  refine G_step (i := 14) (o := { dst := some 5, op := Op.assign (Operand.tmp 19), type := 87, pos := _, after := #[{ on := 13, ground := Ground.data }, { on := 13, ground := Ground.chain }, { on := 0, ground := Ground.phase }, { on := 1, ground := Ground.phase }, { on := 2, ground := Ground.phase }, { on := 3, ground := Ground.phase }, { on := 4, ground := Ground.phase }, { on := 5, ground := Ground.phase }, { on := 6, ground := Ground.phase }, { on := 7, ground := Ground.phase }, { on := 8, ground := Ground.phase }, { on := 9, ground := Ground.phase }, { on := 10, ground := Ground.phase }, { on := 11, ground := Ground.phase }, { on := 12, ground := Ground.phase }, { on := 13, ground := Ground.phase }], guard := none }) (by kernel_rfl) rfl (fun K' hK => ?_)
  go_simp
  refine hK.out _ _ (fun _ => s5) (fun _ => ?_)
  (try simp only [Act.put, List.setIfInBounds_toArray, List.set_cons_zero, List.set_cons_succ])
  refine G_done (by kernel_rfl) ?_ _
  (try dsimp only [Exit.then])
  have HFIN : Hid (∃ xa xc, Ending.returned (.slice va (crs (okB A B) (raw (A.L px) (A.Z px)) (raw (B.L py) (B.Z py))).length vc) = .returned (.slice xa (dBx A B (px, py)).length xc) ∧ Hid (Below u.heap.size u w5 ∧ Sp w5 xa (dBx A B (px, py)).length (nAt (dBx A B (px, py))) ∧ ∀ q, xa = some q → u.heap.size ≤ q.block)) := hid (by
    obtain ⟨_, h2, h3⟩ := owns_at HV.out.2
    have h0 : Below W0.heap.size W0 w5 := ((Below.refl _ _).drew).trans HV.out.1
    refine ⟨va, vc, rfl, hid ⟨HB0.out.trans (h0.mono HB0.out.size), h2, fun q hq => ?_⟩⟩
    have h4 := h3 q hq
    have h5 : u.heap.size ≤ W0.drew.heap.size := HB0.out.size
    omega)
  clear yf ya yb hck' hck2' x0 x1 s5 hS0
  go_wp2
  go_ret
  obtain ⟨xa, xc, he, hh⟩ := HFIN.out
  exact ⟨xa, ⟨xc, he⟩, hh⟩

end Go.Proofs.YtdncjikmknkkpaaDoor

