
import Derived.Test.YtmdpbaobihdgkaaGreatDoorAAcc
import Derived.Test.YtmdpbaobihdgkaaGreatDoorTcnJ
/- partners: of each state of one automaton the states of another that go with it. -/
set_option linter.unusedSimpArgs false
namespace Go.Proofs.YtmdpbaobihdgkaaGreatDoor
open Go.RowKit
def a_okB (A B : Ax) (x y : Nat) : Bool := decide (A.Mu x &&& B.No y = 0) && decide (A.No x &&& B.Mu y = 0)
def pwS (ok : Nat → Nat → Bool) (x : Nat) : Nat → Nat → Nat
 | 0 => fun _ => 0
 | n + 1 => if ok x n = true then sadd (pwS ok x n) n else pwS ok x n
theorem mem_pwS (ok : Nat → Nat → Bool) (x s : Nat) : ∀ n, mem (pwS ok x n) s = (decide (s < n) && ok x s)
 | 0 => by simp [pwS, mem]
 | n + 1 => by
  unfold pwS
  by_cases h : ok x n = true
  ·rw [if_pos h, mem_add, mem_pwS ok x s n]
   by_cases e : s = n
   ·subst e; simp [h]
   ·have : (s < n + 1) = (s < n) := by apply propext; omega
    simp [e, this]
  ·rw [if_neg h, mem_pwS ok x s n]
   by_cases e : s = n
   ·subst e; simp [h]
   ·have : (s < n + 1) = (s < n) := by apply propext; omega
    simp [this]
theorem box5p (w : World) (C : Ax) : ∃ W, w.alloc (.cells #[.slice C.sa C.sn C.sc, .slice C.na C.G C.nc, .slice C.ma C.M C.mc, .slice C.oa C.O C.oc, .slice C.fa C.K C.fc] 32) = W ∧ Below w.heap.size w W ∧ Bo W w.heap.size C :=
 ⟨_, rfl, box_below _ _, ⟨cell_of_alloc rfl, cell_of_alloc rfl, cell_of_alloc rfl, cell_of_alloc rfl, cell_of_alloc rfl⟩⟩
theorem ptn_next {A B : Ax} {W2 W3 wr : World} {k j : Nat} {c : Bool} (hc : a_okB A B k j = c) (h1 : Below W2.heap.size W2 wr) (h2 : wr.heap.size = W3.heap.size) (h3 : Ls wr W2.heap.size A.G (fun r => if r < k then pwS (a_okB A B) r B.G else if r = k then pwS (a_okB A B) k j else fun _ => 0)) (hk : k < A.G) (hj : j < B.G) (hBG : B.G ≤ 2048) {W : World}
  (ht : c = true → ∃ W0, Below wr.heap.size wr W0 ∧ W0.heap = wr.heap ∧ W = (W0.setCell ⟨W2.heap.size, k * 32 + j / 64, none⟩ (.int .u64 (sadd (pwS (a_okB A B) k j) j (j / 64) : Nat))).drew) (hf : c = false → Below wr.heap.size wr W ∧ W.heap = wr.heap) :
  Below W2.heap.size W2 W ∧ W.heap.size = W3.heap.size ∧ Ls W W2.heap.size A.G (fun r => if r < k then pwS (a_okB A B) r B.G else if r = k then pwS (a_okB A B) k (j + 1) else fun _ => 0) := by
 cases c
 ·obtain ⟨hb, hh⟩ := hf rfl
  refine ⟨h1.trans (hb.mono h1.size), by rw [hh]; exact h2, (h3.below' hb).congr (fun r _ i _ => ?_)⟩
  rw [show pwS (a_okB A B) k (j + 1) = pwS (a_okB A B) k j by rw [pwS, if_neg (by rw [hc]; simp)]]
 ·obtain ⟨W0, hb, hh, rfl⟩ := ht rfl
  have hX := (h3.below' hb)
  have hadd := (Sm.refl _).drew.ls (hX.add hk (s := j) (by omega))
  simp only [if_neg (Nat.lt_irrefl k), if_true] at hadd
  refine ⟨?_, ?_, hadd.congr (fun r _ i _ => ?_)⟩
  ·exact (((h1.trans (hb.mono h1.size)).setCell jq0 _)).drew
  ·show ((W0.setCell _ _).drew).heap.size = _
   rw [← h2, ← hh]
   simp [World.setCell]
  ·unfold at1
   by_cases e : r = k
   ·subst e
    rw [if_pos rfl, if_neg (Nat.lt_irrefl _), if_pos rfl]
    rw [show pwS (a_okB A B) r (j + 1) = sadd (pwS (a_okB A B) r j) j by rw [pwS, if_pos hc]]
   ·rw [if_neg e, if_neg e]
    dsimp only
    by_cases h : r < k
    ·rw [if_pos h, if_pos h]
    ·simp only [if_neg h, if_neg e]
set_option maxRecDepth 100000 in
set_option maxHeartbeats 8000000 in
theorem partners_any (A B : Ax) (w : World) (hA : Aw w A) (hB : Aw w B) (hA0 : chkA A = 0) (hB0 : chkA B = 0) :
  Calls Tryz.prog 31 #[A.val, B.val] w fun e w' => e = .returned (.slice (some ⟨w.heap.size + 2, 0, none⟩) A.G A.G) ∧ Hid (Ls w' (w.heap.size + 2) A.G (fun x => pwS (a_okB A B) x B.G) ∧ Below w.heap.size w w' ∧ w.heap.size + 2 < w'.heap.size) := by
 show Calls Tryz.prog 31 #[.agg #[.slice A.sa A.sn A.sc, .slice A.na A.G A.nc, .slice A.ma A.M A.mc, .slice A.oa A.O A.oc, .slice A.fa A.K A.fc], .agg #[.slice B.sa B.sn B.sc, .slice B.na B.G B.nc, .slice B.ma B.M B.mc, .slice B.oa B.O B.oc, .slice B.fa B.K B.fc]] w _
 obtain ⟨hAG, _, hAM, hAO, _⟩ := chkA_ok hA0
 obtain ⟨hBG, _, hBM, hBO, _⟩ := chkA_ok hB0
 obtain ⟨W1, hW1, hb1, hboA⟩ := box5p w A
 have hs1 : W1.heap.size = w.heap.size + 1 := by rw [← hW1]; simp
 obtain ⟨W2, hW2, hb2, hboB⟩ := box5p W1 B
 have hs2 : W2.heap.size = w.heap.size + 2 := by rw [← hW2]; simp; omega
 have hb12 : Below w.heap.size w W2 := hb1.trans (hb2.mono hb1.size)
 have hboA2 := hboA.below hb2
 obtain ⟨mb, mo, hma, hmc⟩ := (hA.below hb12).must
 obtain ⟨nb, no, hna, hnc⟩ := (hA.below hb12).nots
 obtain ⟨pb, po, hpa, hpc⟩ := (hB.below hb12).must
 obtain ⟨qb, qo, hqa, hqc⟩ := (hB.below hb12).nots
 have HC := hid (And.intro hmc (And.intro hnc (And.intro hpc hqc)))
 have HADR := hid (And.intro hma (And.intro hna (And.intro hpa hqa)))
 have HSM := hid (And.intro hA.mu (And.intro hA.no (And.intro hB.mu hB.no)))
 have HGG := hid (And.intro hAM (And.intro hAO (And.intro hBM hBO)))
 have HBO := hid (And.intro hboA2 hboB)
 have HW2 := hid hs2
 have HB12 := hid hb12
 obtain ⟨i0, hi, hz0, hz1, hz2⟩ := info_parts Tryz.infoS
 have hmk : (Instr.makeSlice 64 (.int .i64 (A.G : Int)) (.int .i64 (A.G : Int))).run Tryz.prog W2 = .ok (.slice (some ⟨W2.heap.size, 0, none⟩) A.G A.G) (W2.alloc (.cells (madeCells (cellsS (fun _ => 0)) (A.G * 32)) 69)) := by
  have := run_make (P := Tryz.prog) W2 64 69 i0 (.agg (cellsS (fun _ => 0))) Tryz.underlying64 hi hz0 .i64 .i64 A.G A.G (by omega) (by omega) (by rw [hz2]; omega) (by omega)
  rw [hz1] at this
  simpa [Value.cells] using this
 have hls0 := made_ls W2 A.G
 have hbx := box_below W2 (.cells (madeCells (cellsS (fun _ => 0)) (A.G * 32)) 69)
 have hsx : (W2.alloc (.cells (madeCells (cellsS (fun _ => 0)) (A.G * 32)) 69)).heap.size = w.heap.size + 3 := by simp; omega
 have HL0 := hid (And.intro hls0 (And.intro hbx hsx))
 obtain ⟨q0, q1, q2, q3, q4⟩ := hboA2
 obtain ⟨r0, r1, r2, r3, r4⟩ := hboB
 clear hi hz0 hz1 hz2 hmc hnc hpc hqc hma hna hpa hqa hA hB hA0 hB0 hb1 hboA hb2 hb12 hs1 hs2 hls0 hbx hsx hAM hAO hBM hBO
 go_enter Tryz.func31, Tryz.ntmps31
 go_wp2
 clear hmk q0 q1 q2 q3 q4 r0 r1 r2 r3 r4
 generalize W2.alloc (.cells (madeCells (cellsS (fun _ => 0)) (A.G * 32)) 69) = W3 at *
 go_loopw [14] (fun i wr => ∃ k : Nat, k ≤ A.G ∧ i = .int .i64 k ∧ Hid (Below W2.heap.size W2 wr ∧ wr.heap.size = W3.heap.size ∧ Ls wr W2.heap.size A.G (fun r => if r < k then pwS (a_okB A B) r B.G else fun _ => 0))) (fun i _ => A.G - (intOf i).toNat)
 case atStart => exact ⟨0, by omega, rfl, hid ⟨HL0.out.2.1, rfl, HL0.out.1.congr (fun r _ j _ => by rw [if_neg (by omega)])⟩⟩
 case round =>
  obtain ⟨k, hk, rfl, H⟩ := hrel
  have hboB := HBO.out.2.below H.out.1
  obtain ⟨r0, r1, r2, r3, r4⟩ := hboB
  by_cases hlt : k < A.G
  ·go_wp2
   clear r0 r1 r2 r3 r4
   obtain ⟨u0, hu0⟩ : ∃ u0, wr = u0 := ⟨_, rfl⟩
   subst hu0
   go_loopw [20] (fun i wr => ∃ j : Nat, j ≤ B.G ∧ i = .int .i64 j ∧ Hid (Below W2.heap.size W2 wr ∧ wr.heap.size = W3.heap.size ∧ Ls wr W2.heap.size A.G (fun r => if r < k then pwS (a_okB A B) r B.G else if r = k then pwS (a_okB A B) k j else fun _ => 0))) (fun i _ => B.G - (intOf i).toNat)
   case atStart => exact ⟨0, by omega, rfl, hid ⟨H.out.1, H.out.2.1, H.out.2.2.congr (fun r _ j _ => by
    by_cases h1 : r < k
    ·rw [if_pos h1, if_pos h1]
    ·rw [if_neg h1, if_neg h1]; split <;> rfl)⟩⟩
   case round =>
    obtain ⟨j, hj, rfl, HJ⟩ := hrel
    by_cases hjt : j < B.G
    ·have hboA := HBO.out.1.below HJ.out.1
     have hboB := HBO.out.2.below HJ.out.1
     have hkM : k < A.M := by rw [HGG.out.1]; exact hlt
     have hkO : k < A.O := by rw [HGG.out.2.1]; exact hlt
     have hjM : j < B.M := by rw [HGG.out.2.2.1]; exact hjt
     have hjO : j < B.O := by rw [HGG.out.2.2.2]; exact hjt
     have b2 := hboA.r2
     have b3 := hboA.r3
     have c2 := hboB.r2
     have c3 := hboB.r3
     rw [HADR.out.1 (by omega)] at b2
     rw [HADR.out.2.1 (by omega)] at b3
     rw [HADR.out.2.2.1 (by omega)] at c2
     rw [HADR.out.2.2.2 (by omega)] at c3
     have zm := below_cell HJ.out.1 jq0 (HC.out.1 k hkM)
     have zn := below_cell HJ.out.1 jq0 (HC.out.2.1 k hkO)
     have zp := below_cell HJ.out.1 jq0 (HC.out.2.2.1 j hjM)
     have zq := below_cell HJ.out.1 jq0 (HC.out.2.2.2 j hjO)
     (try dsimp only at zm zn zp zq)
     obtain ⟨am, ham⟩ : ∃ x, A.Mu k = x := ⟨_, rfl⟩
     obtain ⟨an, han⟩ : ∃ x, A.No k = x := ⟨_, rfl⟩
     obtain ⟨bm, hbm⟩ : ∃ x, B.Mu j = x := ⟨_, rfl⟩
     obtain ⟨bn, hbn⟩ : ∃ x, B.No j = x := ⟨_, rfl⟩
     rw [ham] at zm
     rw [han] at zn
     rw [hbm] at zp
     rw [hbn] at zq
     have E1 := hid (bits_and_u64_nat am bn (by rw [← ham]; exact HSM.out.1 k hkM) (by rw [← hbn]; exact HSM.out.2.2.2 j hjO))
     have E2 := hid (bits_and_u64_nat an bm (by rw [← han]; exact HSM.out.2.1 k hkO) (by rw [← hbm]; exact HSM.out.2.2.1 j hjM))
     have HOK : Hid (a_okB A B k j = (decide (am &&& bn = 0) && decide (an &&& bm = 0))) := hid (by unfold a_okB; rw [ham, han, hbm, hbn])
     have HNX : Hid (∀ c : Bool, a_okB A B k j = c → ∀ W, (c = true → ∃ W0, Below wr.heap.size wr W0 ∧ W0.heap = wr.heap ∧ W = (W0.setCell ⟨W2.heap.size, k * 32 + j / 64, none⟩ (.int .u64 (sadd (pwS (a_okB A B) k j) j (j / 64) : Nat))).drew) → (c = false → Below wr.heap.size wr W ∧ W.heap = wr.heap) → Below W2.heap.size W2 W ∧ W.heap.size = W3.heap.size ∧ Ls W W2.heap.size A.G (fun r => if r < k then pwS (a_okB A B) r B.G else if r = k then pwS (a_okB A B) k (j + 1) else fun _ => 0)) := hid (by
      intro c hc W ht hf
      exact ptn_next hc HJ.out.1 HJ.out.2.1 HJ.out.2.2 hlt hjt hBG ht hf)
     clear hboA hboB ham han hbm hbn
     have hS0 : (fun z : World => z.cell? ⟨w.heap.size, 2, none⟩ = some (.slice (some ⟨mb, mo, none⟩) A.M A.mc) ∧ z.cell? ⟨mb, mo + k, none⟩ = some (.int .u64 (am : Nat)) ∧ z.cell? ⟨W1.heap.size, 3, none⟩ = some (.slice (some ⟨qb, qo, none⟩) B.O B.oc) ∧ z.cell? ⟨qb, qo + j, none⟩ = some (.int .u64 (bn : Nat)) ∧ z.cell? ⟨w.heap.size, 3, none⟩ = some (.slice (some ⟨nb, no, none⟩) A.O A.oc) ∧ z.cell? ⟨nb, no + k, none⟩ = some (.int .u64 (an : Nat)) ∧ z.cell? ⟨W1.heap.size, 2, none⟩ = some (.slice (some ⟨pb, po, none⟩) B.M B.mc) ∧ z.cell? ⟨pb, po + j, none⟩ = some (.int .u64 (bm : Nat))) wr.drew := ⟨b2, zm, c3, zq, b3, zn, c2, zp⟩
     by_cases e1 : am &&& bn = 0
     ·have g1 : ((((am &&& bn : Nat) : Int)) == 0) = true := by rw [e1]; rfl
      have HE1 := hid e1
      clear e1
      by_cases e2 : an &&& bm = 0
      ·have g2 : ((((an &&& bm : Nat) : Int)) == 0) = true := by rw [e2]; rfl
       have HT : Hid (a_okB A B k j = true) := hid (by rw [HOK.out, HE1.out, e2]; rfl)
       clear e2
       go_wp2_with fail
       refine G_region (fun z : World => z.cell? ⟨w.heap.size, 2, none⟩ = some (.slice (some ⟨mb, mo, none⟩) A.M A.mc) ∧ z.cell? ⟨mb, mo + k, none⟩ = some (.int .u64 (am : Nat)) ∧ z.cell? ⟨W1.heap.size, 3, none⟩ = some (.slice (some ⟨qb, qo, none⟩) B.O B.oc) ∧ z.cell? ⟨qb, qo + j, none⟩ = some (.int .u64 (bn : Nat)) ∧ z.cell? ⟨w.heap.size, 3, none⟩ = some (.slice (some ⟨nb, no, none⟩) A.O A.oc) ∧ z.cell? ⟨nb, no + k, none⟩ = some (.int .u64 (an : Nat)) ∧ z.cell? ⟨W1.heap.size, 2, none⟩ = some (.slice (some ⟨pb, po, none⟩) B.M B.mc) ∧ z.cell? ⟨pb, po + j, none⟩ = some (.int .u64 (bm : Nat))) (fun _ => false) (by kernel_rfl) hS0 (fun _ => ?_)
       refine G_tk (i := 0) (oi := { dst := some 23, op := Op.fieldAddr 32 (Operand.tmp 2) 2, type := 0, pos := _, after := #[], guard := none }) (v := .pointer (some ⟨w.heap.size, 2, none⟩)) hS0 ?_
       (try simp only [Act.put, jq1, jq2, jq3])
       refine G_tk (i := 1) (oi := { dst := some 24, op := Op.load 25 (Operand.tmp 23), type := 25, pos := _, after := #[{ on := 0, ground := Ground.data }], guard := none }) (v := .slice (some ⟨mb, mo, none⟩) A.M A.mc) hS0 ?_
       (try simp only [Act.put, jq1, jq2, jq3])
       refine G_tk (i := 2) (oi := { dst := some 25, op := Op.move (Operand.tmp 6), type := 3, pos := _, after := #[], guard := none }) (v := .int .i64 (k : Nat)) hS0 ?_
       (try simp only [Act.put, jq1, jq2, jq3])
       refine G_tk (i := 3) (oi := { dst := some 26, op := Op.indexAddr 25 (Operand.tmp 24) (Operand.tmp 25), type := 0, pos := _, after := #[{ on := 1, ground := Ground.data }, { on := 2, ground := Ground.data }], guard := none }) (v := .pointer (some ⟨mb, mo + k, none⟩)) hS0 ?_
       (try simp only [Act.put, jq1, jq2, jq3])
       refine G_tk (i := 4) (oi := { dst := some 27, op := Op.load 48 (Operand.tmp 26), type := 48, pos := _, after := #[{ on := 3, ground := Ground.data }], guard := none }) (v := .int .u64 (am : Nat)) hS0 ?_
       (try simp only [Act.put, jq1, jq2, jq3])
       refine G_tk (i := 5) (oi := { dst := some 28, op := Op.fieldAddr 32 (Operand.tmp 3) 3, type := 0, pos := _, after := #[], guard := none }) (v := .pointer (some ⟨W1.heap.size, 3, none⟩)) hS0 ?_
       (try simp only [Act.put, jq1, jq2, jq3])
       refine G_tk (i := 6) (oi := { dst := some 29, op := Op.load 25 (Operand.tmp 28), type := 25, pos := _, after := #[{ on := 5, ground := Ground.data }], guard := none }) (v := .slice (some ⟨qb, qo, none⟩) B.O B.oc) hS0 ?_
       (try simp only [Act.put, jq1, jq2, jq3])
       refine G_tk (i := 7) (oi := { dst := some 30, op := Op.move (Operand.tmp 7), type := 3, pos := _, after := #[], guard := none }) (v := .int .i64 (j : Nat)) hS0 ?_
       (try simp only [Act.put, jq1, jq2, jq3])
       refine G_tk (i := 8) (oi := { dst := some 31, op := Op.indexAddr 25 (Operand.tmp 29) (Operand.tmp 30), type := 0, pos := _, after := #[{ on := 6, ground := Ground.data }, { on := 7, ground := Ground.data }], guard := none }) (v := .pointer (some ⟨qb, qo + j, none⟩)) hS0 ?_
       (try simp only [Act.put, jq1, jq2, jq3])
       refine G_tk (i := 9) (oi := { dst := some 32, op := Op.load 48 (Operand.tmp 31), type := 48, pos := _, after := #[{ on := 8, ground := Ground.data }], guard := none }) (v := .int .u64 (bn : Nat)) hS0 ?_
       (try simp only [Act.put, jq1, jq2, jq3])
       refine G_take (i := 10) (oi := { dst := some 33, op := Op.binOp BinOp.and 48 (Operand.tmp 27) (Operand.tmp 32) 48, type := 48, pos := _, after := #[{ on := 4, ground := Ground.data }, { on := 9, ground := Ground.data }], guard := none }) (v := .int .u64 ((am &&& bn : Nat) : Int)) rfl (by kernel_rfl) (by kernel_rfl) (by kernel_rfl) (by kernel_rfl) (fun _ _ _ h => h) (by rfl) (fun u hu => ?_) hS0 ?_
       ·(try dsimp only at hu); go_simp; rw [E1.out]
       (try simp only [Act.put, jq1, jq2, jq3])
       refine G_tk (i := 11) (oi := { dst := some 34, op := Op.binOp BinOp.eql 48 (Operand.tmp 33) (Operand.const (Value.int IntKind.u64 0)) 48, type := 4, pos := _, after := #[{ on := 10, ground := Ground.data }], guard := none }) (v := .bool true) hS0 ?_
       (try simp only [Act.put, jq1, jq2, jq3])
       refine G_tk (i := 12) (oi := { dst := some 35, op := Op.move (Operand.tmp 34), type := 4, pos := _, after := #[{ on := 11, ground := Ground.data }], guard := none }) (v := .bool true) hS0 ?_
       (try simp only [Act.put, jq1, jq2, jq3])
       refine G_tk (i := 13) (oi := { dst := some 36, op := Op.fieldAddr 32 (Operand.tmp 2) 3, type := 0, pos := _, after := #[{ on := 12, ground := Ground.guard }], guard := some (12, true) }) (v := .pointer (some ⟨w.heap.size, 3, none⟩)) hS0 ?_
       (try simp only [Act.put, jq1, jq2, jq3])
       refine G_tk (i := 14) (oi := { dst := some 37, op := Op.load 25 (Operand.tmp 36), type := 25, pos := _, after := #[{ on := 13, ground := Ground.data }, { on := 12, ground := Ground.guard }], guard := some (12, true) }) (v := .slice (some ⟨nb, no, none⟩) A.O A.oc) hS0 ?_
       (try simp only [Act.put, jq1, jq2, jq3])
       refine G_tk (i := 15) (oi := { dst := some 38, op := Op.move (Operand.tmp 6), type := 3, pos := _, after := #[{ on := 12, ground := Ground.guard }], guard := some (12, true) }) (v := .int .i64 (k : Nat)) hS0 ?_
       (try simp only [Act.put, jq1, jq2, jq3])
       refine G_tk (i := 16) (oi := { dst := some 39, op := Op.indexAddr 25 (Operand.tmp 37) (Operand.tmp 38), type := 0, pos := _, after := #[{ on := 14, ground := Ground.data }, { on := 15, ground := Ground.data }, { on := 12, ground := Ground.guard }], guard := some (12, true) }) (v := .pointer (some ⟨nb, no + k, none⟩)) hS0 ?_
       (try simp only [Act.put, jq1, jq2, jq3])
       refine G_tk (i := 17) (oi := { dst := some 40, op := Op.load 48 (Operand.tmp 39), type := 48, pos := _, after := #[{ on := 16, ground := Ground.data }, { on := 12, ground := Ground.guard }], guard := some (12, true) }) (v := .int .u64 (an : Nat)) hS0 ?_
       (try simp only [Act.put, jq1, jq2, jq3])
       refine G_tk (i := 18) (oi := { dst := some 41, op := Op.fieldAddr 32 (Operand.tmp 3) 2, type := 0, pos := _, after := #[{ on := 12, ground := Ground.guard }], guard := some (12, true) }) (v := .pointer (some ⟨W1.heap.size, 2, none⟩)) hS0 ?_
       (try simp only [Act.put, jq1, jq2, jq3])
       refine G_tk (i := 19) (oi := { dst := some 42, op := Op.load 25 (Operand.tmp 41), type := 25, pos := _, after := #[{ on := 18, ground := Ground.data }, { on := 12, ground := Ground.guard }], guard := some (12, true) }) (v := .slice (some ⟨pb, po, none⟩) B.M B.mc) hS0 ?_
       (try simp only [Act.put, jq1, jq2, jq3])
       refine G_tk (i := 20) (oi := { dst := some 43, op := Op.move (Operand.tmp 7), type := 3, pos := _, after := #[{ on := 12, ground := Ground.guard }], guard := some (12, true) }) (v := .int .i64 (j : Nat)) hS0 ?_
       (try simp only [Act.put, jq1, jq2, jq3])
       refine G_tk (i := 21) (oi := { dst := some 44, op := Op.indexAddr 25 (Operand.tmp 42) (Operand.tmp 43), type := 0, pos := _, after := #[{ on := 19, ground := Ground.data }, { on := 20, ground := Ground.data }, { on := 12, ground := Ground.guard }], guard := some (12, true) }) (v := .pointer (some ⟨pb, po + j, none⟩)) hS0 ?_
       (try simp only [Act.put, jq1, jq2, jq3])
       refine G_tk (i := 22) (oi := { dst := some 45, op := Op.load 48 (Operand.tmp 44), type := 48, pos := _, after := #[{ on := 21, ground := Ground.data }, { on := 12, ground := Ground.guard }], guard := some (12, true) }) (v := .int .u64 (bm : Nat)) hS0 ?_
       (try simp only [Act.put, jq1, jq2, jq3])
       refine G_take (i := 23) (oi := { dst := some 46, op := Op.binOp BinOp.and 48 (Operand.tmp 40) (Operand.tmp 45) 48, type := 48, pos := _, after := #[{ on := 17, ground := Ground.data }, { on := 22, ground := Ground.data }, { on := 12, ground := Ground.guard }], guard := some (12, true) }) (v := .int .u64 ((an &&& bm : Nat) : Int)) rfl (by kernel_rfl) (by kernel_rfl) (by kernel_rfl) (by kernel_rfl) (fun _ _ _ h => h) (by rfl) (fun u hu => ?_) hS0 ?_
       ·(try dsimp only at hu); go_simp; rw [E2.out]
       (try simp only [Act.put, jq1, jq2, jq3])
       refine G_tk (i := 24) (oi := { dst := some 47, op := Op.binOp BinOp.eql 48 (Operand.tmp 46) (Operand.const (Value.int IntKind.u64 0)) 48, type := 4, pos := _, after := #[{ on := 23, ground := Ground.data }, { on := 12, ground := Ground.guard }], guard := some (12, true) }) (v := .bool true) hS0 ?_
       (try simp only [Act.put, jq1, jq2, jq3])
       refine G_tk (i := 25) (oi := { dst := some 48, op := Op.pick (Operand.tmp 35) (Operand.tmp 47) (Operand.const (Value.bool false)), type := 4, pos := _, after := #[{ on := 12, ground := Ground.data }, { on := 24, ground := Ground.data }], guard := none }) (v := .bool true) hS0 ?_
       (try simp only [Act.put, jq1, jq2, jq3])
       refine G_done (by kernel_rfl) ?_ _
       (try dsimp only [Exit.then])
       have hst : St wr.drew W2.heap.size (k * 32) (pwS (a_okB A B) k j) := by
        have := (Sm.refl wr).drew.ls HJ.out.2.2 k hlt
        (try dsimp only at this)
        rw [if_neg (Nat.lt_irrefl _), if_pos rfl] at this
        exact this
       have CA := hid (add_any W2.heap.size (k * 32) (pwS (a_okB A B) k j) j wr.drew (by omega) hst)
       clear hst hS0 b2 b3 c2 c3 zm zn zp zq
       go_wp2_with fail
       refine CA.out.mono ?_
       rintro e w5 ⟨⟨v5, rfl⟩, h5⟩
       have H5 := hid h5
       clear h5 CA
       go_wp2
       go_roundw
       case rel => exact ⟨j + 1, by omega, by go_num, hid (HNX.out true HT.out _ (fun _ => ⟨wr.drew, (Below.refl _ _).drew, rfl, H5.out⟩) (fun h => by cases h))⟩
       case measure => simp [intOf]; omega
      ·have g2 : ((((an &&& bm : Nat) : Int)) == 0) = false := beq_eq_false_iff_ne.2 (by omega)
       have HT : Hid (a_okB A B k j = false) := hid (by rw [HOK.out]; simp [e2])
       clear e2
       go_wp2_with fail
       refine G_region (fun z : World => z.cell? ⟨w.heap.size, 2, none⟩ = some (.slice (some ⟨mb, mo, none⟩) A.M A.mc) ∧ z.cell? ⟨mb, mo + k, none⟩ = some (.int .u64 (am : Nat)) ∧ z.cell? ⟨W1.heap.size, 3, none⟩ = some (.slice (some ⟨qb, qo, none⟩) B.O B.oc) ∧ z.cell? ⟨qb, qo + j, none⟩ = some (.int .u64 (bn : Nat)) ∧ z.cell? ⟨w.heap.size, 3, none⟩ = some (.slice (some ⟨nb, no, none⟩) A.O A.oc) ∧ z.cell? ⟨nb, no + k, none⟩ = some (.int .u64 (an : Nat)) ∧ z.cell? ⟨W1.heap.size, 2, none⟩ = some (.slice (some ⟨pb, po, none⟩) B.M B.mc) ∧ z.cell? ⟨pb, po + j, none⟩ = some (.int .u64 (bm : Nat))) (fun _ => false) (by kernel_rfl) hS0 (fun _ => ?_)
       refine G_tk (i := 0) (oi := { dst := some 23, op := Op.fieldAddr 32 (Operand.tmp 2) 2, type := 0, pos := _, after := #[], guard := none }) (v := .pointer (some ⟨w.heap.size, 2, none⟩)) hS0 ?_
       (try simp only [Act.put, jq1, jq2, jq3])
       refine G_tk (i := 1) (oi := { dst := some 24, op := Op.load 25 (Operand.tmp 23), type := 25, pos := _, after := #[{ on := 0, ground := Ground.data }], guard := none }) (v := .slice (some ⟨mb, mo, none⟩) A.M A.mc) hS0 ?_
       (try simp only [Act.put, jq1, jq2, jq3])
       refine G_tk (i := 2) (oi := { dst := some 25, op := Op.move (Operand.tmp 6), type := 3, pos := _, after := #[], guard := none }) (v := .int .i64 (k : Nat)) hS0 ?_
       (try simp only [Act.put, jq1, jq2, jq3])
       refine G_tk (i := 3) (oi := { dst := some 26, op := Op.indexAddr 25 (Operand.tmp 24) (Operand.tmp 25), type := 0, pos := _, after := #[{ on := 1, ground := Ground.data }, { on := 2, ground := Ground.data }], guard := none }) (v := .pointer (some ⟨mb, mo + k, none⟩)) hS0 ?_
       (try simp only [Act.put, jq1, jq2, jq3])
       refine G_tk (i := 4) (oi := { dst := some 27, op := Op.load 48 (Operand.tmp 26), type := 48, pos := _, after := #[{ on := 3, ground := Ground.data }], guard := none }) (v := .int .u64 (am : Nat)) hS0 ?_
       (try simp only [Act.put, jq1, jq2, jq3])
       refine G_tk (i := 5) (oi := { dst := some 28, op := Op.fieldAddr 32 (Operand.tmp 3) 3, type := 0, pos := _, after := #[], guard := none }) (v := .pointer (some ⟨W1.heap.size, 3, none⟩)) hS0 ?_
       (try simp only [Act.put, jq1, jq2, jq3])
       refine G_tk (i := 6) (oi := { dst := some 29, op := Op.load 25 (Operand.tmp 28), type := 25, pos := _, after := #[{ on := 5, ground := Ground.data }], guard := none }) (v := .slice (some ⟨qb, qo, none⟩) B.O B.oc) hS0 ?_
       (try simp only [Act.put, jq1, jq2, jq3])
       refine G_tk (i := 7) (oi := { dst := some 30, op := Op.move (Operand.tmp 7), type := 3, pos := _, after := #[], guard := none }) (v := .int .i64 (j : Nat)) hS0 ?_
       (try simp only [Act.put, jq1, jq2, jq3])
       refine G_tk (i := 8) (oi := { dst := some 31, op := Op.indexAddr 25 (Operand.tmp 29) (Operand.tmp 30), type := 0, pos := _, after := #[{ on := 6, ground := Ground.data }, { on := 7, ground := Ground.data }], guard := none }) (v := .pointer (some ⟨qb, qo + j, none⟩)) hS0 ?_
       (try simp only [Act.put, jq1, jq2, jq3])
       refine G_tk (i := 9) (oi := { dst := some 32, op := Op.load 48 (Operand.tmp 31), type := 48, pos := _, after := #[{ on := 8, ground := Ground.data }], guard := none }) (v := .int .u64 (bn : Nat)) hS0 ?_
       (try simp only [Act.put, jq1, jq2, jq3])
       refine G_take (i := 10) (oi := { dst := some 33, op := Op.binOp BinOp.and 48 (Operand.tmp 27) (Operand.tmp 32) 48, type := 48, pos := _, after := #[{ on := 4, ground := Ground.data }, { on := 9, ground := Ground.data }], guard := none }) (v := .int .u64 ((am &&& bn : Nat) : Int)) rfl (by kernel_rfl) (by kernel_rfl) (by kernel_rfl) (by kernel_rfl) (fun _ _ _ h => h) (by rfl) (fun u hu => ?_) hS0 ?_
       ·(try dsimp only at hu); go_simp; rw [E1.out]
       (try simp only [Act.put, jq1, jq2, jq3])
       refine G_tk (i := 11) (oi := { dst := some 34, op := Op.binOp BinOp.eql 48 (Operand.tmp 33) (Operand.const (Value.int IntKind.u64 0)) 48, type := 4, pos := _, after := #[{ on := 10, ground := Ground.data }], guard := none }) (v := .bool true) hS0 ?_
       (try simp only [Act.put, jq1, jq2, jq3])
       refine G_tk (i := 12) (oi := { dst := some 35, op := Op.move (Operand.tmp 34), type := 4, pos := _, after := #[{ on := 11, ground := Ground.data }], guard := none }) (v := .bool true) hS0 ?_
       (try simp only [Act.put, jq1, jq2, jq3])
       refine G_tk (i := 13) (oi := { dst := some 36, op := Op.fieldAddr 32 (Operand.tmp 2) 3, type := 0, pos := _, after := #[{ on := 12, ground := Ground.guard }], guard := some (12, true) }) (v := .pointer (some ⟨w.heap.size, 3, none⟩)) hS0 ?_
       (try simp only [Act.put, jq1, jq2, jq3])
       refine G_tk (i := 14) (oi := { dst := some 37, op := Op.load 25 (Operand.tmp 36), type := 25, pos := _, after := #[{ on := 13, ground := Ground.data }, { on := 12, ground := Ground.guard }], guard := some (12, true) }) (v := .slice (some ⟨nb, no, none⟩) A.O A.oc) hS0 ?_
       (try simp only [Act.put, jq1, jq2, jq3])
       refine G_tk (i := 15) (oi := { dst := some 38, op := Op.move (Operand.tmp 6), type := 3, pos := _, after := #[{ on := 12, ground := Ground.guard }], guard := some (12, true) }) (v := .int .i64 (k : Nat)) hS0 ?_
       (try simp only [Act.put, jq1, jq2, jq3])
       refine G_tk (i := 16) (oi := { dst := some 39, op := Op.indexAddr 25 (Operand.tmp 37) (Operand.tmp 38), type := 0, pos := _, after := #[{ on := 14, ground := Ground.data }, { on := 15, ground := Ground.data }, { on := 12, ground := Ground.guard }], guard := some (12, true) }) (v := .pointer (some ⟨nb, no + k, none⟩)) hS0 ?_
       (try simp only [Act.put, jq1, jq2, jq3])
       refine G_tk (i := 17) (oi := { dst := some 40, op := Op.load 48 (Operand.tmp 39), type := 48, pos := _, after := #[{ on := 16, ground := Ground.data }, { on := 12, ground := Ground.guard }], guard := some (12, true) }) (v := .int .u64 (an : Nat)) hS0 ?_
       (try simp only [Act.put, jq1, jq2, jq3])
       refine G_tk (i := 18) (oi := { dst := some 41, op := Op.fieldAddr 32 (Operand.tmp 3) 2, type := 0, pos := _, after := #[{ on := 12, ground := Ground.guard }], guard := some (12, true) }) (v := .pointer (some ⟨W1.heap.size, 2, none⟩)) hS0 ?_
       (try simp only [Act.put, jq1, jq2, jq3])
       refine G_tk (i := 19) (oi := { dst := some 42, op := Op.load 25 (Operand.tmp 41), type := 25, pos := _, after := #[{ on := 18, ground := Ground.data }, { on := 12, ground := Ground.guard }], guard := some (12, true) }) (v := .slice (some ⟨pb, po, none⟩) B.M B.mc) hS0 ?_
       (try simp only [Act.put, jq1, jq2, jq3])
       refine G_tk (i := 20) (oi := { dst := some 43, op := Op.move (Operand.tmp 7), type := 3, pos := _, after := #[{ on := 12, ground := Ground.guard }], guard := some (12, true) }) (v := .int .i64 (j : Nat)) hS0 ?_
       (try simp only [Act.put, jq1, jq2, jq3])
       refine G_tk (i := 21) (oi := { dst := some 44, op := Op.indexAddr 25 (Operand.tmp 42) (Operand.tmp 43), type := 0, pos := _, after := #[{ on := 19, ground := Ground.data }, { on := 20, ground := Ground.data }, { on := 12, ground := Ground.guard }], guard := some (12, true) }) (v := .pointer (some ⟨pb, po + j, none⟩)) hS0 ?_
       (try simp only [Act.put, jq1, jq2, jq3])
       refine G_tk (i := 22) (oi := { dst := some 45, op := Op.load 48 (Operand.tmp 44), type := 48, pos := _, after := #[{ on := 21, ground := Ground.data }, { on := 12, ground := Ground.guard }], guard := some (12, true) }) (v := .int .u64 (bm : Nat)) hS0 ?_
       (try simp only [Act.put, jq1, jq2, jq3])
       refine G_take (i := 23) (oi := { dst := some 46, op := Op.binOp BinOp.and 48 (Operand.tmp 40) (Operand.tmp 45) 48, type := 48, pos := _, after := #[{ on := 17, ground := Ground.data }, { on := 22, ground := Ground.data }, { on := 12, ground := Ground.guard }], guard := some (12, true) }) (v := .int .u64 ((an &&& bm : Nat) : Int)) rfl (by kernel_rfl) (by kernel_rfl) (by kernel_rfl) (by kernel_rfl) (fun _ _ _ h => h) (by rfl) (fun u hu => ?_) hS0 ?_
       ·(try dsimp only at hu); go_simp; rw [E2.out]
       (try simp only [Act.put, jq1, jq2, jq3])
       refine G_tk (i := 24) (oi := { dst := some 47, op := Op.binOp BinOp.eql 48 (Operand.tmp 46) (Operand.const (Value.int IntKind.u64 0)) 48, type := 4, pos := _, after := #[{ on := 23, ground := Ground.data }, { on := 12, ground := Ground.guard }], guard := some (12, true) }) (v := .bool false) hS0 ?_
       (try simp only [Act.put, jq1, jq2, jq3])
       refine G_tk (i := 25) (oi := { dst := some 48, op := Op.pick (Operand.tmp 35) (Operand.tmp 47) (Operand.const (Value.bool false)), type := 4, pos := _, after := #[{ on := 12, ground := Ground.data }, { on := 24, ground := Ground.data }], guard := none }) (v := .bool false) hS0 ?_
       (try simp only [Act.put, jq1, jq2, jq3])
       refine G_done (by kernel_rfl) ?_ _
       (try dsimp only [Exit.then])
       clear hS0 b2 b3 c2 c3 zm zn zp zq
       go_wp2
       go_roundw
       case rel => exact ⟨j + 1, by omega, by go_num, hid (HNX.out false HT.out _ (fun h => by cases h) (fun _ => ⟨(Below.refl _ _).drew, rfl⟩))⟩
       case measure => simp [intOf]; omega
     ·have g1 : ((((am &&& bn : Nat) : Int)) == 0) = false := beq_eq_false_iff_ne.2 (by omega)
      have HT : Hid (a_okB A B k j = false) := hid (by rw [HOK.out]; simp [e1])
      clear e1
      go_wp2_with fail
      refine G_region (fun z : World => z.cell? ⟨w.heap.size, 2, none⟩ = some (.slice (some ⟨mb, mo, none⟩) A.M A.mc) ∧ z.cell? ⟨mb, mo + k, none⟩ = some (.int .u64 (am : Nat)) ∧ z.cell? ⟨W1.heap.size, 3, none⟩ = some (.slice (some ⟨qb, qo, none⟩) B.O B.oc) ∧ z.cell? ⟨qb, qo + j, none⟩ = some (.int .u64 (bn : Nat)) ∧ z.cell? ⟨w.heap.size, 3, none⟩ = some (.slice (some ⟨nb, no, none⟩) A.O A.oc) ∧ z.cell? ⟨nb, no + k, none⟩ = some (.int .u64 (an : Nat)) ∧ z.cell? ⟨W1.heap.size, 2, none⟩ = some (.slice (some ⟨pb, po, none⟩) B.M B.mc) ∧ z.cell? ⟨pb, po + j, none⟩ = some (.int .u64 (bm : Nat))) (fun _ => false) (by kernel_rfl) hS0 (fun _ => ?_)
      refine G_tk (i := 0) (oi := { dst := some 23, op := Op.fieldAddr 32 (Operand.tmp 2) 2, type := 0, pos := _, after := #[], guard := none }) (v := .pointer (some ⟨w.heap.size, 2, none⟩)) hS0 ?_
      (try simp only [Act.put, jq1, jq2, jq3])
      refine G_tk (i := 1) (oi := { dst := some 24, op := Op.load 25 (Operand.tmp 23), type := 25, pos := _, after := #[{ on := 0, ground := Ground.data }], guard := none }) (v := .slice (some ⟨mb, mo, none⟩) A.M A.mc) hS0 ?_
      (try simp only [Act.put, jq1, jq2, jq3])
      refine G_tk (i := 2) (oi := { dst := some 25, op := Op.move (Operand.tmp 6), type := 3, pos := _, after := #[], guard := none }) (v := .int .i64 (k : Nat)) hS0 ?_
      (try simp only [Act.put, jq1, jq2, jq3])
      refine G_tk (i := 3) (oi := { dst := some 26, op := Op.indexAddr 25 (Operand.tmp 24) (Operand.tmp 25), type := 0, pos := _, after := #[{ on := 1, ground := Ground.data }, { on := 2, ground := Ground.data }], guard := none }) (v := .pointer (some ⟨mb, mo + k, none⟩)) hS0 ?_
      (try simp only [Act.put, jq1, jq2, jq3])
      refine G_tk (i := 4) (oi := { dst := some 27, op := Op.load 48 (Operand.tmp 26), type := 48, pos := _, after := #[{ on := 3, ground := Ground.data }], guard := none }) (v := .int .u64 (am : Nat)) hS0 ?_
      (try simp only [Act.put, jq1, jq2, jq3])
      refine G_tk (i := 5) (oi := { dst := some 28, op := Op.fieldAddr 32 (Operand.tmp 3) 3, type := 0, pos := _, after := #[], guard := none }) (v := .pointer (some ⟨W1.heap.size, 3, none⟩)) hS0 ?_
      (try simp only [Act.put, jq1, jq2, jq3])
      refine G_tk (i := 6) (oi := { dst := some 29, op := Op.load 25 (Operand.tmp 28), type := 25, pos := _, after := #[{ on := 5, ground := Ground.data }], guard := none }) (v := .slice (some ⟨qb, qo, none⟩) B.O B.oc) hS0 ?_
      (try simp only [Act.put, jq1, jq2, jq3])
      refine G_tk (i := 7) (oi := { dst := some 30, op := Op.move (Operand.tmp 7), type := 3, pos := _, after := #[], guard := none }) (v := .int .i64 (j : Nat)) hS0 ?_
      (try simp only [Act.put, jq1, jq2, jq3])
      refine G_tk (i := 8) (oi := { dst := some 31, op := Op.indexAddr 25 (Operand.tmp 29) (Operand.tmp 30), type := 0, pos := _, after := #[{ on := 6, ground := Ground.data }, { on := 7, ground := Ground.data }], guard := none }) (v := .pointer (some ⟨qb, qo + j, none⟩)) hS0 ?_
      (try simp only [Act.put, jq1, jq2, jq3])
      refine G_tk (i := 9) (oi := { dst := some 32, op := Op.load 48 (Operand.tmp 31), type := 48, pos := _, after := #[{ on := 8, ground := Ground.data }], guard := none }) (v := .int .u64 (bn : Nat)) hS0 ?_
      (try simp only [Act.put, jq1, jq2, jq3])
      refine G_take (i := 10) (oi := { dst := some 33, op := Op.binOp BinOp.and 48 (Operand.tmp 27) (Operand.tmp 32) 48, type := 48, pos := _, after := #[{ on := 4, ground := Ground.data }, { on := 9, ground := Ground.data }], guard := none }) (v := .int .u64 ((am &&& bn : Nat) : Int)) rfl (by kernel_rfl) (by kernel_rfl) (by kernel_rfl) (by kernel_rfl) (fun _ _ _ h => h) (by rfl) (fun u hu => ?_) hS0 ?_
      ·(try dsimp only at hu); go_simp; rw [E1.out]
      (try simp only [Act.put, jq1, jq2, jq3])
      refine G_tk (i := 11) (oi := { dst := some 34, op := Op.binOp BinOp.eql 48 (Operand.tmp 33) (Operand.const (Value.int IntKind.u64 0)) 48, type := 4, pos := _, after := #[{ on := 10, ground := Ground.data }], guard := none }) (v := .bool false) hS0 ?_
      (try simp only [Act.put, jq1, jq2, jq3])
      refine G_tk (i := 12) (oi := { dst := some 35, op := Op.move (Operand.tmp 34), type := 4, pos := _, after := #[{ on := 11, ground := Ground.data }], guard := none }) (v := .bool false) hS0 ?_
      (try simp only [Act.put, jq1, jq2, jq3])
      refine G_skip (i := 13) (oi := { dst := some 36, op := Op.fieldAddr 32 (Operand.tmp 2) 3, type := 0, pos := _, after := #[{ on := 12, ground := Ground.guard }], guard := some (12, true) }) rfl (by kernel_rfl) (by kernel_rfl) (by kernel_rfl) (by kernel_rfl) (fun _ _ _ h => h) (by rfl) hS0 ?_
      (try simp only [Act.put, jq1, jq2, jq3])
      refine G_skip (i := 14) (oi := { dst := some 37, op := Op.load 25 (Operand.tmp 36), type := 25, pos := _, after := #[{ on := 13, ground := Ground.data }, { on := 12, ground := Ground.guard }], guard := some (12, true) }) rfl (by kernel_rfl) (by kernel_rfl) (by kernel_rfl) (by kernel_rfl) (fun _ _ _ h => h) (by rfl) hS0 ?_
      (try simp only [Act.put, jq1, jq2, jq3])
      refine G_skip (i := 15) (oi := { dst := some 38, op := Op.move (Operand.tmp 6), type := 3, pos := _, after := #[{ on := 12, ground := Ground.guard }], guard := some (12, true) }) rfl (by kernel_rfl) (by kernel_rfl) (by kernel_rfl) (by kernel_rfl) (fun _ _ _ h => h) (by rfl) hS0 ?_
      (try simp only [Act.put, jq1, jq2, jq3])
      refine G_skip (i := 16) (oi := { dst := some 39, op := Op.indexAddr 25 (Operand.tmp 37) (Operand.tmp 38), type := 0, pos := _, after := #[{ on := 14, ground := Ground.data }, { on := 15, ground := Ground.data }, { on := 12, ground := Ground.guard }], guard := some (12, true) }) rfl (by kernel_rfl) (by kernel_rfl) (by kernel_rfl) (by kernel_rfl) (fun _ _ _ h => h) (by rfl) hS0 ?_
      (try simp only [Act.put, jq1, jq2, jq3])
      refine G_skip (i := 17) (oi := { dst := some 40, op := Op.load 48 (Operand.tmp 39), type := 48, pos := _, after := #[{ on := 16, ground := Ground.data }, { on := 12, ground := Ground.guard }], guard := some (12, true) }) rfl (by kernel_rfl) (by kernel_rfl) (by kernel_rfl) (by kernel_rfl) (fun _ _ _ h => h) (by rfl) hS0 ?_
      (try simp only [Act.put, jq1, jq2, jq3])
      refine G_skip (i := 18) (oi := { dst := some 41, op := Op.fieldAddr 32 (Operand.tmp 3) 2, type := 0, pos := _, after := #[{ on := 12, ground := Ground.guard }], guard := some (12, true) }) rfl (by kernel_rfl) (by kernel_rfl) (by kernel_rfl) (by kernel_rfl) (fun _ _ _ h => h) (by rfl) hS0 ?_
      (try simp only [Act.put, jq1, jq2, jq3])
      refine G_skip (i := 19) (oi := { dst := some 42, op := Op.load 25 (Operand.tmp 41), type := 25, pos := _, after := #[{ on := 18, ground := Ground.data }, { on := 12, ground := Ground.guard }], guard := some (12, true) }) rfl (by kernel_rfl) (by kernel_rfl) (by kernel_rfl) (by kernel_rfl) (fun _ _ _ h => h) (by rfl) hS0 ?_
      (try simp only [Act.put, jq1, jq2, jq3])
      refine G_skip (i := 20) (oi := { dst := some 43, op := Op.move (Operand.tmp 7), type := 3, pos := _, after := #[{ on := 12, ground := Ground.guard }], guard := some (12, true) }) rfl (by kernel_rfl) (by kernel_rfl) (by kernel_rfl) (by kernel_rfl) (fun _ _ _ h => h) (by rfl) hS0 ?_
      (try simp only [Act.put, jq1, jq2, jq3])
      refine G_skip (i := 21) (oi := { dst := some 44, op := Op.indexAddr 25 (Operand.tmp 42) (Operand.tmp 43), type := 0, pos := _, after := #[{ on := 19, ground := Ground.data }, { on := 20, ground := Ground.data }, { on := 12, ground := Ground.guard }], guard := some (12, true) }) rfl (by kernel_rfl) (by kernel_rfl) (by kernel_rfl) (by kernel_rfl) (fun _ _ _ h => h) (by rfl) hS0 ?_
      (try simp only [Act.put, jq1, jq2, jq3])
      refine G_skip (i := 22) (oi := { dst := some 45, op := Op.load 48 (Operand.tmp 44), type := 48, pos := _, after := #[{ on := 21, ground := Ground.data }, { on := 12, ground := Ground.guard }], guard := some (12, true) }) rfl (by kernel_rfl) (by kernel_rfl) (by kernel_rfl) (by kernel_rfl) (fun _ _ _ h => h) (by rfl) hS0 ?_
      (try simp only [Act.put, jq1, jq2, jq3])
      refine G_skip (i := 23) (oi := { dst := some 46, op := Op.binOp BinOp.and 48 (Operand.tmp 40) (Operand.tmp 45) 48, type := 48, pos := _, after := #[{ on := 17, ground := Ground.data }, { on := 22, ground := Ground.data }, { on := 12, ground := Ground.guard }], guard := some (12, true) }) rfl (by kernel_rfl) (by kernel_rfl) (by kernel_rfl) (by kernel_rfl) (fun _ _ _ h => h) (by rfl) hS0 ?_
      (try simp only [Act.put, jq1, jq2, jq3])
      refine G_skip (i := 24) (oi := { dst := some 47, op := Op.binOp BinOp.eql 48 (Operand.tmp 46) (Operand.const (Value.int IntKind.u64 0)) 48, type := 4, pos := _, after := #[{ on := 23, ground := Ground.data }, { on := 12, ground := Ground.guard }], guard := some (12, true) }) rfl (by kernel_rfl) (by kernel_rfl) (by kernel_rfl) (by kernel_rfl) (fun _ _ _ h => h) (by rfl) hS0 ?_
      (try simp only [Act.put, jq1, jq2, jq3])
      refine G_tk (i := 25) (oi := { dst := some 48, op := Op.pick (Operand.tmp 35) (Operand.tmp 47) (Operand.const (Value.bool false)), type := 4, pos := _, after := #[{ on := 12, ground := Ground.data }, { on := 24, ground := Ground.data }], guard := none }) (v := .bool false) hS0 ?_
      (try simp only [Act.put, jq1, jq2, jq3])
      refine G_done (by kernel_rfl) ?_ _
      (try dsimp only [Exit.then])
      clear hS0 b2 b3 c2 c3 zm zn zp zq
      go_wp2
      go_roundw
      case rel => exact ⟨j + 1, by omega, by go_num, hid (HNX.out false HT.out _ (fun h => by cases h) (fun _ => ⟨(Below.refl _ _).drew, rfl⟩))⟩
      case measure => simp [intOf]; omega
    ·have HJE : Hid (j = B.G) := hid (by omega)
     go_wp2
     go_roundw
     case rel => exact ⟨k + 1, by omega, by go_num, hid ⟨HJ.out.1, HJ.out.2.1, HJ.out.2.2.congr (fun r _ i _ => by
      (try dsimp only)
      by_cases h1 : r < k
      ·rw [if_pos h1, if_pos (by omega)]
      ·rw [if_neg h1]
       by_cases h2 : r = k
       ·rw [if_pos h2, if_pos (by omega), h2, HJE.out]
       ·rw [if_neg h2, if_neg (by omega)])⟩⟩
     case measure => simp [intOf]; omega
  ·go_wp2
   go_ret
   rw [← HW2.out]
   refine ⟨rfl, hid ⟨H.out.2.2.congr (fun r hr j _ => by rw [if_pos (by omega)]), HB12.out.trans (H.out.1.mono HB12.out.size), ?_⟩⟩
   rw [H.out.2.1, HL0.out.2.2]
   have := HW2.out
   omega
end Go.Proofs.YtmdpbaobihdgkaaGreatDoor
