/- The document's Both: its pairs of two lists. -/
import Derived.Deep.AppendLies
import Derived.Test.YtdncjikmknkkpaaDoorBth
namespace Go.Proofs.YtdncjikmknkkpaaDoor
open Go.RowKit Go.Shelf Go.Maps

theorem Tryd.info88p : (Tryd.prog.info? 88).map (fun i => (i.zero, i.size, i.bytes)) = some (some (.agg #[.int .i64 0, .int .i64 0]), 2, 16) := by kernel_rfl
/-- A list of numbers as it stands. -/
def raw (n : Nat) (Z : Nat → Int) : List Nat := (List.range n).map fun i => (Z i).toNat
theorem raw_succ (n : Nat) (Z : Nat → Int) : raw (n + 1) Z = raw n Z ++ [(Z n).toNat] := by simp [raw, List.range_succ]
theorem raw_len (n : Nat) (Z : Nat → Int) : (raw n Z).length = n := by simp [raw]
theorem crs_append (ok : Nat → Nat → Bool) (l l' k : List Nat) : crs ok (l ++ l') k = crs ok l k ++ crs ok l' k := by simp [crs]
theorem crs_one (ok : Nat → Nat → Bool) (x y : Nat) (k : List Nat) : crs ok [x] (k ++ [y]) = crs ok [x] k ++ if ok x y = true then [(x, y)] else [] := by
  simp only [crs, List.flatMap_cons, List.flatMap_nil, List.append_nil, List.filter_append, List.map_append]
  congr 1
  by_cases h : ok x y = true
  · rw [if_pos h]; simp [h]
  · rw [if_neg h]; simp [h]
/-- What is there behind i rows and j places of the next. -/
def cur (A B : Ax) (Z : Nat → Int) (m : Nat) (Y : Nat → Int) (i j : Nat) : List (Nat × Nat) := crs (okB A B) (raw i Z) (raw m Y) ++ crs (okB A B) [(Z i).toNat] (raw j Y)
theorem cur_row (A B : Ax) (Z : Nat → Int) (m : Nat) (Y : Nat → Int) (i : Nat) : cur A B Z m Y i m = cur A B Z m Y (i + 1) 0 := by
  unfold cur
  rw [raw_succ, crs_append]
  simp [raw, crs]
theorem cur_at (A B : Ax) (Z : Nat → Int) (m : Nat) (Y : Nat → Int) (i : Nat) : cur A B Z m Y i 0 = crs (okB A B) (raw i Z) (raw m Y) := by
  unfold cur
  simp [raw, crs]
theorem cur_yes {A B : Ax} {Z : Nat → Int} {m : Nat} {Y : Nat → Int} {i j px py : Nat} (hx : (Z i).toNat = px) (hy : (Y j).toNat = py) (h : okB A B px py = true) : cur A B Z m Y i (j + 1) = cur A B Z m Y i j ++ [(px, py)] := by
  unfold cur
  rw [raw_succ, crs_one, hx, hy, if_pos h, List.append_assoc]
theorem cur_no {A B : Ax} {Z : Nat → Int} {m : Nat} {Y : Nat → Int} {i j px py : Nat} (hx : (Z i).toNat = px) (hy : (Y j).toNat = py) (h : okB A B px py = false) : cur A B Z m Y i (j + 1) = cur A B Z m Y i j := by
  unfold cur
  rw [raw_succ, crs_one, hx, hy, if_neg (by rw [h]; simp), List.append_nil]
theorem cur_len (A B : Ax) (Z : Nat → Int) (m : Nat) (Y : Nat → Int) (i j n : Nat) (hi : i < n) (hj : j ≤ m) (hn : n ≤ 1048576) (hm : m ≤ 1048576) : (cur A B Z m Y i j).length ≤ 1099511627776 := by
  have h1 := crs_len (okB A B) (raw m Y) (raw i Z)
  have h2 := crs_len (okB A B) (raw j Y) [(Z i).toNat]
  rw [raw_len, raw_len] at h1
  rw [raw_len] at h2
  simp only [List.length_cons, List.length_nil] at h2
  have h3 : i * m + m ≤ n * m := by
    have := Nat.mul_le_mul_right m (show i + 1 ≤ n from hi)
    rw [Nat.succ_mul] at this
    exact this
  have h4 : n * m ≤ 1048576 * 1048576 := Nat.mul_le_mul hn hm
  unfold cur
  rw [List.length_append]
  omega
theorem d51_below {w wr w4 : World} {v : Value} {k : Nat} {xs : List Value} {o : Obj} (hb : Below w.heap.size w wr) (ho : wr.ownsRow w.heap.size 88 2 v k xs) (hg : (wr.drew.drew.alloc o).grownBy w4 v.ownBlock) : Below w.heap.size w w4 := by
  have h1 : Below wr.heap.size wr wr.drew.drew := (Below.refl _ _).drew.drew
  have h2 := (World.grownBy_alloc wr.drew.drew o v.ownBlock).trans hg
  exact (hb.trans (h1.mono hb.size)).grown h2 hb.size (fun b h => by have := (ho.lt b h).1; omega)

set_option maxRecDepth 100000 in
set_option maxHeartbeats 8000000 in
theorem d51_any (A B : Ax) (Ba Bb : Nat) (la ka : Option Addr) (n nc m mc : Nat) (Z Y : Nat → Int) (w : World) (hA : Aw w A) (hB : Aw w B) (hA0 : chkA A = 0) (hB0 : chkA B = 0) (hboA : Bo w Ba A) (hboB : Bo w Bb B) (hl : Row w la n Z) (hk : Row w ka m Y) (hZ : ∀ i, i < n → 0 ≤ Z i ∧ Z i < A.G) (hY : ∀ i, i < m → 0 ≤ Y i ∧ Y i < B.G) (hn : n ≤ 1048576) (hm : m ≤ 1048576) :
    Calls Tryd.prog 51 #[.slice la n nc, .slice ka m mc, .pointer (some ⟨Ba, 0, none⟩), .pointer (some ⟨Bb, 0, none⟩)] w fun e w' => ∃ v, e = .returned v ∧ Hid (Below w.heap.size w w' ∧ w'.ownsRow w.heap.size 88 2 v (crs (okB A B) (raw n Z) (raw m Y)).length (pcells (crs (okB A B) (raw n Z) (raw m Y)))) := by
  obtain ⟨hGA, _, hAM, hAO, _⟩ := chkA_ok hA0
  obtain ⟨hGB, _, hBM, hBO, _⟩ := chkA_ok hB0
  obtain ⟨lb, lo, hla, hlc⟩ := hl
  obtain ⟨kb, ko, hka, hkc⟩ := hk
  obtain ⟨mb, mo, hma, hmc⟩ := hA.must
  obtain ⟨nb, no, hna, hnc⟩ := hA.nots
  obtain ⟨pb, po, hpa, hpc⟩ := hB.must
  obtain ⟨qb, qo, hqa, hqc⟩ := hB.nots
  have HC := hid (And.intro hmc (And.intro hnc (And.intro hpc hqc)))
  have HADR := hid (And.intro hma (And.intro hna (And.intro hpa hqa)))
  have HSM := hid (And.intro hA.mu (And.intro hA.no (And.intro hB.mu hB.no)))
  have HGG := hid (And.intro hAM (And.intro hAO (And.intro hBM hBO)))
  have HBOX := hid (And.intro hboA hboB)
  have HRW := hid (And.intro hla (And.intro hlc (And.intro hka hkc)))
  have HRG := hid (And.intro hZ hY)
  obtain ⟨i5, hi, hz0', hz1, hz2⟩ := info_parts Tryd.info88p
  have HU : Hid (Tryd.prog.info? 88 = some i5 ∧ i5.zero = some (.agg #[.int .i64 0, .int .i64 0]) ∧ i5.size = 2 ∧ i5.bytes = 16) := ⟨hi, hz0', hz1, hz2⟩
  clear hi hz0' hz1 hz2 hmc hnc hpc hqc hma hna hpa hqa hA hB hA0 hB0 hboA hboB hla hlc hka hkc hZ hY hAM hAO hBM hBO
  go_enter Tryd.func51, Tryd.ntmps51
  go_wp2
  go_loopw [7, 8] (fun v i wr => ∃ k : Nat, k ≤ n ∧ i = .int .i64 k ∧ Hid (Below w.heap.size w wr ∧ wr.ownsRow w.heap.size 88 2 v (cur A B Z m Y k 0).length (pcells (cur A B Z m Y k 0)))) (fun _ i _ => n - (intOf i).toNat)
  case atStart => exact ⟨0, by omega, rfl, hid ⟨by first | exact Below.refl _ _ | exact (Below.refl _ _).drew, by simp only [cur_at, raw, crs]; exact World.ownsRow_nil _ _ _ _⟩⟩
  case round =>
    obtain ⟨i, hi, rfl, H⟩ := hrel
    by_cases hlt : i < n
    · obtain rfl := HRW.out.1 (by omega)
      go_wp2
      obtain ⟨u0, hu0⟩ : ∃ u0, wr = u0 := ⟨_, rfl⟩
      subst hu0
      go_loopw [7, 9] (fun v i' wr => ∃ j : Nat, j ≤ m ∧ i' = .int .i64 j ∧ Hid (Below w.heap.size w wr ∧ wr.ownsRow w.heap.size 88 2 v (cur A B Z m Y i j).length (pcells (cur A B Z m Y i j)))) (fun _ i' _ => m - (intOf i').toNat)
      case atStart => exact ⟨0, by omega, rfl, H⟩
      case round =>
        rename_i v _
        obtain ⟨j, hj, rfl, HJ⟩ := hrel
        obtain ⟨va, vc, hv⟩ := owns_sl HJ.out.2
        subst hv
        obtain ⟨vn, hvn⟩ : ∃ vn, (cur A B Z m Y i j).length = vn := ⟨_, rfl⟩
        rw [hvn] at HJ ⊢
        have HVL := hid hvn
        have hvl : vn ≤ 1099511627776 := by rw [← hvn]; exact cur_len A B Z m Y i j n hlt hj hn hm
        clear hvn
        by_cases hjt : j < m
        · obtain rfl := HRW.out.2.2.1 (by omega)
          have hzi := HRG.out.1 i hlt
          have hyj := HRG.out.2 j hjt
          have zl := below_cell HJ.out.1 (Nat.le_refl _) (HRW.out.2.1 i hlt)
          have zk := below_cell HJ.out.1 (Nat.le_refl _) (HRW.out.2.2.2 j hjt)
          have HZL := hid (HRW.out.2.1 i hlt)
          have HZK := hid (HRW.out.2.2.2 j hjt)
          obtain ⟨px, hpx⟩ : ∃ px : Nat, Z i = px := ⟨(Z i).toNat, by omega⟩
          obtain ⟨py, hpy⟩ : ∃ py : Nat, Y j = py := ⟨(Y j).toNat, by omega⟩
          rw [hpx] at zl HZL hzi
          rw [hpy] at zk HZK hyj
          have hxG : px < A.G := by omega
          have hyG : py < B.G := by omega
          have HYES : Hid (okB A B px py = true → cur A B Z m Y i (j + 1) = cur A B Z m Y i j ++ [(px, py)]) := hid (cur_yes (by rw [hpx]; rfl) (by rw [hpy]; rfl))
          have HNO : Hid (okB A B px py = false → cur A B Z m Y i (j + 1) = cur A B Z m Y i j) := hid (cur_no (by rw [hpx]; rfl) (by rw [hpy]; rfl))
          have hboA := HBOX.out.1.below HJ.out.1
          have hboB := HBOX.out.2.below HJ.out.1
          have hxM : px < A.M := by rw [HGG.out.1]; exact hxG
          have hxO : px < A.O := by rw [HGG.out.2.1]; exact hxG
          have hyM : py < B.M := by rw [HGG.out.2.2.1]; exact hyG
          have hyO : py < B.O := by rw [HGG.out.2.2.2]; exact hyG
          have b2 := hboA.r2
          have b3 := hboA.r3
          have c2 := hboB.r2
          have c3 := hboB.r3
          rw [HADR.out.1 (by omega)] at b2
          rw [HADR.out.2.1 (by omega)] at b3
          rw [HADR.out.2.2.1 (by omega)] at c2
          rw [HADR.out.2.2.2 (by omega)] at c3
          have zm := below_cell HJ.out.1 (Nat.le_refl _) (HC.out.1 px hxM)
          have zn := below_cell HJ.out.1 (Nat.le_refl _) (HC.out.2.1 px hxO)
          have zp := below_cell HJ.out.1 (Nat.le_refl _) (HC.out.2.2.1 py hyM)
          have zq := below_cell HJ.out.1 (Nat.le_refl _) (HC.out.2.2.2 py hyO)
          (try dsimp only at zm zn zp zq)
          obtain ⟨am, ham⟩ : ∃ x, A.Mu px = x := ⟨_, rfl⟩
          obtain ⟨an, han⟩ : ∃ x, A.No px = x := ⟨_, rfl⟩
          obtain ⟨bm, hbm⟩ : ∃ x, B.Mu py = x := ⟨_, rfl⟩
          obtain ⟨bn, hbn⟩ : ∃ x, B.No py = x := ⟨_, rfl⟩
          rw [ham] at zm
          rw [han] at zn
          rw [hbm] at zp
          rw [hbn] at zq
          have E1 := hid (bits_and_u64_nat am bn (by rw [← ham]; exact HSM.out.1 px hxM) (by rw [← hbn]; exact HSM.out.2.2.2 py hyO))
          have E2 := hid (bits_and_u64_nat an bm (by rw [← han]; exact HSM.out.2.1 px hxO) (by rw [← hbm]; exact HSM.out.2.2.1 py hyM))
          have HOK : Hid (okB A B px py = (decide (am &&& bn = 0) && decide (an &&& bm = 0))) := hid (by unfold okB; rw [ham, han, hbm, hbn])
          clear hboA hboB ham han hbm hbn hpx hpy
          have hws := HJ.out.1.size
          have hS0 : (fun z : World => z.cell? ⟨Ba, 2, none⟩ = some (.slice (some ⟨mb, mo, none⟩) A.M A.mc) ∧ z.cell? ⟨mb, mo + px, none⟩ = some (.int .u64 (am : Nat)) ∧ z.cell? ⟨Bb, 3, none⟩ = some (.slice (some ⟨qb, qo, none⟩) B.O B.oc) ∧ z.cell? ⟨qb, qo + py, none⟩ = some (.int .u64 (bn : Nat)) ∧ z.cell? ⟨Ba, 3, none⟩ = some (.slice (some ⟨nb, no, none⟩) A.O A.oc) ∧ z.cell? ⟨nb, no + px, none⟩ = some (.int .u64 (an : Nat)) ∧ z.cell? ⟨Bb, 2, none⟩ = some (.slice (some ⟨pb, po, none⟩) B.M B.mc) ∧ z.cell? ⟨pb, po + py, none⟩ = some (.int .u64 (bm : Nat)) ∧ z.cell? ⟨lb, lo + i, none⟩ = some (.int .i64 (px : Nat)) ∧ z.cell? ⟨kb, ko + j, none⟩ = some (.int .i64 (py : Nat))) wr.drew := ⟨b2, zm, c3, zq, b3, zn, c2, zp, zl, zk⟩
          by_cases e1 : am &&& bn = 0
          · have g1 : ((((am &&& bn : Nat) : Int)) == 0) = true := by rw [e1]; rfl
            have HE1 := hid e1
            clear e1
            by_cases e2 : an &&& bm = 0
            · have g2 : ((((an &&& bm : Nat) : Int)) == 0) = true := by rw [e2]; rfl
              have HT : Hid (okB A B px py = true) := hid (by rw [HOK.out, HE1.out, e2]; rfl)
              clear e2
              go_wp2_with fail
              refine G_region (fun z : World => z.cell? ⟨Ba, 2, none⟩ = some (.slice (some ⟨mb, mo, none⟩) A.M A.mc) ∧ z.cell? ⟨mb, mo + px, none⟩ = some (.int .u64 (am : Nat)) ∧ z.cell? ⟨Bb, 3, none⟩ = some (.slice (some ⟨qb, qo, none⟩) B.O B.oc) ∧ z.cell? ⟨qb, qo + py, none⟩ = some (.int .u64 (bn : Nat)) ∧ z.cell? ⟨Ba, 3, none⟩ = some (.slice (some ⟨nb, no, none⟩) A.O A.oc) ∧ z.cell? ⟨nb, no + px, none⟩ = some (.int .u64 (an : Nat)) ∧ z.cell? ⟨Bb, 2, none⟩ = some (.slice (some ⟨pb, po, none⟩) B.M B.mc) ∧ z.cell? ⟨pb, po + py, none⟩ = some (.int .u64 (bm : Nat)) ∧ z.cell? ⟨lb, lo + i, none⟩ = some (.int .i64 (px : Nat)) ∧ z.cell? ⟨kb, ko + j, none⟩ = some (.int .i64 (py : Nat))) (fun _ => false) (by kernel_rfl) hS0 (fun _ => ?_)
              refine G_take (i := 0) (oi := { dst := some 22, op := Op.fieldAddr 26 (Operand.tmp 2) 2, type := 0, pos := _, after := #[], guard := none }) (v := .pointer (some ⟨Ba, 2, none⟩)) rfl (by kernel_rfl) (by kernel_rfl) (by kernel_rfl) (by kernel_rfl) (fun _ _ _ h => h) (by rfl) (fun u hu => ?_) hS0 ?_
              · (try dsimp only at hu); go_simp
              (try simp only [Act.put, List.setIfInBounds_toArray, List.set_cons_zero, List.set_cons_succ])
              refine G_take (i := 1) (oi := { dst := some 23, op := Op.load 24 (Operand.tmp 22), type := 24, pos := _, after := #[{ on := 0, ground := Ground.data }], guard := none }) (v := .slice (some ⟨mb, mo, none⟩) A.M A.mc) rfl (by kernel_rfl) (by kernel_rfl) (by kernel_rfl) (by kernel_rfl) (fun _ _ _ h => h) (by rfl) (fun u hu => ?_) hS0 ?_
              · (try dsimp only at hu); go_simp
              (try simp only [Act.put, List.setIfInBounds_toArray, List.set_cons_zero, List.set_cons_succ])
              refine G_take (i := 2) (oi := { dst := some 24, op := Op.move (Operand.tmp 0), type := 22, pos := _, after := #[], guard := none }) (v := .slice (some ⟨lb, lo, none⟩) n nc) rfl (by kernel_rfl) (by kernel_rfl) (by kernel_rfl) (by kernel_rfl) (fun _ _ _ h => h) (by rfl) (fun u hu => ?_) hS0 ?_
              · (try dsimp only at hu); go_simp
              (try simp only [Act.put, List.setIfInBounds_toArray, List.set_cons_zero, List.set_cons_succ])
              refine G_take (i := 3) (oi := { dst := some 25, op := Op.move (Operand.tmp 8), type := 3, pos := _, after := #[], guard := none }) (v := .int .i64 (i : Nat)) rfl (by kernel_rfl) (by kernel_rfl) (by kernel_rfl) (by kernel_rfl) (fun _ _ _ h => h) (by rfl) (fun u hu => ?_) hS0 ?_
              · (try dsimp only at hu); go_simp
              (try simp only [Act.put, List.setIfInBounds_toArray, List.set_cons_zero, List.set_cons_succ])
              refine G_take (i := 4) (oi := { dst := some 26, op := Op.indexAddr 22 (Operand.tmp 24) (Operand.tmp 25), type := 0, pos := _, after := #[{ on := 2, ground := Ground.data }, { on := 3, ground := Ground.data }], guard := none }) (v := .pointer (some ⟨lb, lo + i, none⟩)) rfl (by kernel_rfl) (by kernel_rfl) (by kernel_rfl) (by kernel_rfl) (fun _ _ _ h => h) (by rfl) (fun u hu => ?_) hS0 ?_
              · (try dsimp only at hu); go_simp
              (try simp only [Act.put, List.setIfInBounds_toArray, List.set_cons_zero, List.set_cons_succ])
              refine G_take (i := 5) (oi := { dst := some 27, op := Op.load 3 (Operand.tmp 26), type := 3, pos := _, after := #[{ on := 4, ground := Ground.data }], guard := none }) (v := .int .i64 (px : Nat)) rfl (by kernel_rfl) (by kernel_rfl) (by kernel_rfl) (by kernel_rfl) (fun _ _ _ h => h) (by rfl) (fun u hu => ?_) hS0 ?_
              · (try dsimp only at hu); go_simp
              (try simp only [Act.put, List.setIfInBounds_toArray, List.set_cons_zero, List.set_cons_succ])
              refine G_take (i := 6) (oi := { dst := some 28, op := Op.indexAddr 24 (Operand.tmp 23) (Operand.tmp 27), type := 0, pos := _, after := #[{ on := 1, ground := Ground.data }, { on := 5, ground := Ground.data }], guard := none }) (v := .pointer (some ⟨mb, mo + px, none⟩)) rfl (by kernel_rfl) (by kernel_rfl) (by kernel_rfl) (by kernel_rfl) (fun _ _ _ h => h) (by rfl) (fun u hu => ?_) hS0 ?_
              · (try dsimp only at hu); go_simp
              (try simp only [Act.put, List.setIfInBounds_toArray, List.set_cons_zero, List.set_cons_succ])
              refine G_take (i := 7) (oi := { dst := some 29, op := Op.load 51 (Operand.tmp 28), type := 51, pos := _, after := #[{ on := 6, ground := Ground.data }], guard := none }) (v := .int .u64 (am : Nat)) rfl (by kernel_rfl) (by kernel_rfl) (by kernel_rfl) (by kernel_rfl) (fun _ _ _ h => h) (by rfl) (fun u hu => ?_) hS0 ?_
              · (try dsimp only at hu); go_simp
              (try simp only [Act.put, List.setIfInBounds_toArray, List.set_cons_zero, List.set_cons_succ])
              refine G_take (i := 8) (oi := { dst := some 30, op := Op.fieldAddr 26 (Operand.tmp 3) 3, type := 0, pos := _, after := #[], guard := none }) (v := .pointer (some ⟨Bb, 3, none⟩)) rfl (by kernel_rfl) (by kernel_rfl) (by kernel_rfl) (by kernel_rfl) (fun _ _ _ h => h) (by rfl) (fun u hu => ?_) hS0 ?_
              · (try dsimp only at hu); go_simp
              (try simp only [Act.put, List.setIfInBounds_toArray, List.set_cons_zero, List.set_cons_succ])
              refine G_take (i := 9) (oi := { dst := some 31, op := Op.load 24 (Operand.tmp 30), type := 24, pos := _, after := #[{ on := 8, ground := Ground.data }], guard := none }) (v := .slice (some ⟨qb, qo, none⟩) B.O B.oc) rfl (by kernel_rfl) (by kernel_rfl) (by kernel_rfl) (by kernel_rfl) (fun _ _ _ h => h) (by rfl) (fun u hu => ?_) hS0 ?_
              · (try dsimp only at hu); go_simp
              (try simp only [Act.put, List.setIfInBounds_toArray, List.set_cons_zero, List.set_cons_succ])
              refine G_take (i := 10) (oi := { dst := some 32, op := Op.move (Operand.tmp 1), type := 22, pos := _, after := #[], guard := none }) (v := .slice (some ⟨kb, ko, none⟩) m mc) rfl (by kernel_rfl) (by kernel_rfl) (by kernel_rfl) (by kernel_rfl) (fun _ _ _ h => h) (by rfl) (fun u hu => ?_) hS0 ?_
              · (try dsimp only at hu); go_simp
              (try simp only [Act.put, List.setIfInBounds_toArray, List.set_cons_zero, List.set_cons_succ])
              refine G_take (i := 11) (oi := { dst := some 33, op := Op.move (Operand.tmp 9), type := 3, pos := _, after := #[], guard := none }) (v := .int .i64 (j : Nat)) rfl (by kernel_rfl) (by kernel_rfl) (by kernel_rfl) (by kernel_rfl) (fun _ _ _ h => h) (by rfl) (fun u hu => ?_) hS0 ?_
              · (try dsimp only at hu); go_simp
              (try simp only [Act.put, List.setIfInBounds_toArray, List.set_cons_zero, List.set_cons_succ])
              refine G_take (i := 12) (oi := { dst := some 34, op := Op.indexAddr 22 (Operand.tmp 32) (Operand.tmp 33), type := 0, pos := _, after := #[{ on := 10, ground := Ground.data }, { on := 11, ground := Ground.data }], guard := none }) (v := .pointer (some ⟨kb, ko + j, none⟩)) rfl (by kernel_rfl) (by kernel_rfl) (by kernel_rfl) (by kernel_rfl) (fun _ _ _ h => h) (by rfl) (fun u hu => ?_) hS0 ?_
              · (try dsimp only at hu); go_simp
              (try simp only [Act.put, List.setIfInBounds_toArray, List.set_cons_zero, List.set_cons_succ])
              refine G_take (i := 13) (oi := { dst := some 35, op := Op.load 3 (Operand.tmp 34), type := 3, pos := _, after := #[{ on := 12, ground := Ground.data }], guard := none }) (v := .int .i64 (py : Nat)) rfl (by kernel_rfl) (by kernel_rfl) (by kernel_rfl) (by kernel_rfl) (fun _ _ _ h => h) (by rfl) (fun u hu => ?_) hS0 ?_
              · (try dsimp only at hu); go_simp
              (try simp only [Act.put, List.setIfInBounds_toArray, List.set_cons_zero, List.set_cons_succ])
              refine G_take (i := 14) (oi := { dst := some 36, op := Op.indexAddr 24 (Operand.tmp 31) (Operand.tmp 35), type := 0, pos := _, after := #[{ on := 9, ground := Ground.data }, { on := 13, ground := Ground.data }], guard := none }) (v := .pointer (some ⟨qb, qo + py, none⟩)) rfl (by kernel_rfl) (by kernel_rfl) (by kernel_rfl) (by kernel_rfl) (fun _ _ _ h => h) (by rfl) (fun u hu => ?_) hS0 ?_
              · (try dsimp only at hu); go_simp
              (try simp only [Act.put, List.setIfInBounds_toArray, List.set_cons_zero, List.set_cons_succ])
              refine G_take (i := 15) (oi := { dst := some 37, op := Op.load 51 (Operand.tmp 36), type := 51, pos := _, after := #[{ on := 14, ground := Ground.data }], guard := none }) (v := .int .u64 (bn : Nat)) rfl (by kernel_rfl) (by kernel_rfl) (by kernel_rfl) (by kernel_rfl) (fun _ _ _ h => h) (by rfl) (fun u hu => ?_) hS0 ?_
              · (try dsimp only at hu); go_simp
              (try simp only [Act.put, List.setIfInBounds_toArray, List.set_cons_zero, List.set_cons_succ])
              refine G_take (i := 16) (oi := { dst := some 38, op := Op.binOp BinOp.and 51 (Operand.tmp 29) (Operand.tmp 37) 51, type := 51, pos := _, after := #[{ on := 7, ground := Ground.data }, { on := 15, ground := Ground.data }], guard := none }) (v := .int .u64 ((am &&& bn : Nat) : Int)) rfl (by kernel_rfl) (by kernel_rfl) (by kernel_rfl) (by kernel_rfl) (fun _ _ _ h => h) (by rfl) (fun u hu => ?_) hS0 ?_
              · (try dsimp only at hu); go_simp; rw [E1.out]
              (try simp only [Act.put, List.setIfInBounds_toArray, List.set_cons_zero, List.set_cons_succ])
              refine G_take (i := 17) (oi := { dst := some 39, op := Op.binOp BinOp.eql 51 (Operand.tmp 38) (Operand.const (Value.int IntKind.u64 0)) 51, type := 4, pos := _, after := #[{ on := 16, ground := Ground.data }], guard := none }) (v := .bool true) rfl (by kernel_rfl) (by kernel_rfl) (by kernel_rfl) (by kernel_rfl) (fun _ _ _ h => h) (by rfl) (fun u hu => ?_) hS0 ?_
              · (try dsimp only at hu); go_simp
              (try simp only [Act.put, List.setIfInBounds_toArray, List.set_cons_zero, List.set_cons_succ])
              refine G_take (i := 18) (oi := { dst := some 40, op := Op.move (Operand.tmp 39), type := 4, pos := _, after := #[{ on := 17, ground := Ground.data }], guard := none }) (v := .bool true) rfl (by kernel_rfl) (by kernel_rfl) (by kernel_rfl) (by kernel_rfl) (fun _ _ _ h => h) (by rfl) (fun u hu => ?_) hS0 ?_
              · (try dsimp only at hu); go_simp
              (try simp only [Act.put, List.setIfInBounds_toArray, List.set_cons_zero, List.set_cons_succ])
              refine G_take (i := 19) (oi := { dst := some 41, op := Op.fieldAddr 26 (Operand.tmp 2) 3, type := 0, pos := _, after := #[{ on := 18, ground := Ground.guard }], guard := some (18, true) }) (v := .pointer (some ⟨Ba, 3, none⟩)) rfl (by kernel_rfl) (by kernel_rfl) (by kernel_rfl) (by kernel_rfl) (fun _ _ _ h => h) (by rfl) (fun u hu => ?_) hS0 ?_
              · (try dsimp only at hu); go_simp
              (try simp only [Act.put, List.setIfInBounds_toArray, List.set_cons_zero, List.set_cons_succ])
              refine G_take (i := 20) (oi := { dst := some 42, op := Op.load 24 (Operand.tmp 41), type := 24, pos := _, after := #[{ on := 19, ground := Ground.data }, { on := 18, ground := Ground.guard }], guard := some (18, true) }) (v := .slice (some ⟨nb, no, none⟩) A.O A.oc) rfl (by kernel_rfl) (by kernel_rfl) (by kernel_rfl) (by kernel_rfl) (fun _ _ _ h => h) (by rfl) (fun u hu => ?_) hS0 ?_
              · (try dsimp only at hu); go_simp
              (try simp only [Act.put, List.setIfInBounds_toArray, List.set_cons_zero, List.set_cons_succ])
              refine G_take (i := 21) (oi := { dst := some 43, op := Op.move (Operand.tmp 0), type := 22, pos := _, after := #[{ on := 18, ground := Ground.guard }], guard := some (18, true) }) (v := .slice (some ⟨lb, lo, none⟩) n nc) rfl (by kernel_rfl) (by kernel_rfl) (by kernel_rfl) (by kernel_rfl) (fun _ _ _ h => h) (by rfl) (fun u hu => ?_) hS0 ?_
              · (try dsimp only at hu); go_simp
              (try simp only [Act.put, List.setIfInBounds_toArray, List.set_cons_zero, List.set_cons_succ])
              refine G_take (i := 22) (oi := { dst := some 44, op := Op.move (Operand.tmp 8), type := 3, pos := _, after := #[{ on := 18, ground := Ground.guard }], guard := some (18, true) }) (v := .int .i64 (i : Nat)) rfl (by kernel_rfl) (by kernel_rfl) (by kernel_rfl) (by kernel_rfl) (fun _ _ _ h => h) (by rfl) (fun u hu => ?_) hS0 ?_
              · (try dsimp only at hu); go_simp
              (try simp only [Act.put, List.setIfInBounds_toArray, List.set_cons_zero, List.set_cons_succ])
              refine G_take (i := 23) (oi := { dst := some 45, op := Op.indexAddr 22 (Operand.tmp 43) (Operand.tmp 44), type := 0, pos := _, after := #[{ on := 21, ground := Ground.data }, { on := 22, ground := Ground.data }, { on := 18, ground := Ground.guard }], guard := some (18, true) }) (v := .pointer (some ⟨lb, lo + i, none⟩)) rfl (by kernel_rfl) (by kernel_rfl) (by kernel_rfl) (by kernel_rfl) (fun _ _ _ h => h) (by rfl) (fun u hu => ?_) hS0 ?_
              · (try dsimp only at hu); go_simp
              (try simp only [Act.put, List.setIfInBounds_toArray, List.set_cons_zero, List.set_cons_succ])
              refine G_take (i := 24) (oi := { dst := some 46, op := Op.load 3 (Operand.tmp 45), type := 3, pos := _, after := #[{ on := 23, ground := Ground.data }, { on := 18, ground := Ground.guard }], guard := some (18, true) }) (v := .int .i64 (px : Nat)) rfl (by kernel_rfl) (by kernel_rfl) (by kernel_rfl) (by kernel_rfl) (fun _ _ _ h => h) (by rfl) (fun u hu => ?_) hS0 ?_
              · (try dsimp only at hu); go_simp
              (try simp only [Act.put, List.setIfInBounds_toArray, List.set_cons_zero, List.set_cons_succ])
              refine G_take (i := 25) (oi := { dst := some 47, op := Op.indexAddr 24 (Operand.tmp 42) (Operand.tmp 46), type := 0, pos := _, after := #[{ on := 20, ground := Ground.data }, { on := 24, ground := Ground.data }, { on := 18, ground := Ground.guard }], guard := some (18, true) }) (v := .pointer (some ⟨nb, no + px, none⟩)) rfl (by kernel_rfl) (by kernel_rfl) (by kernel_rfl) (by kernel_rfl) (fun _ _ _ h => h) (by rfl) (fun u hu => ?_) hS0 ?_
              · (try dsimp only at hu); go_simp
              (try simp only [Act.put, List.setIfInBounds_toArray, List.set_cons_zero, List.set_cons_succ])
              refine G_take (i := 26) (oi := { dst := some 48, op := Op.load 51 (Operand.tmp 47), type := 51, pos := _, after := #[{ on := 25, ground := Ground.data }, { on := 18, ground := Ground.guard }], guard := some (18, true) }) (v := .int .u64 (an : Nat)) rfl (by kernel_rfl) (by kernel_rfl) (by kernel_rfl) (by kernel_rfl) (fun _ _ _ h => h) (by rfl) (fun u hu => ?_) hS0 ?_
              · (try dsimp only at hu); go_simp
              (try simp only [Act.put, List.setIfInBounds_toArray, List.set_cons_zero, List.set_cons_succ])
              refine G_take (i := 27) (oi := { dst := some 49, op := Op.fieldAddr 26 (Operand.tmp 3) 2, type := 0, pos := _, after := #[{ on := 18, ground := Ground.guard }], guard := some (18, true) }) (v := .pointer (some ⟨Bb, 2, none⟩)) rfl (by kernel_rfl) (by kernel_rfl) (by kernel_rfl) (by kernel_rfl) (fun _ _ _ h => h) (by rfl) (fun u hu => ?_) hS0 ?_
              · (try dsimp only at hu); go_simp
              (try simp only [Act.put, List.setIfInBounds_toArray, List.set_cons_zero, List.set_cons_succ])
              refine G_take (i := 28) (oi := { dst := some 50, op := Op.load 24 (Operand.tmp 49), type := 24, pos := _, after := #[{ on := 27, ground := Ground.data }, { on := 18, ground := Ground.guard }], guard := some (18, true) }) (v := .slice (some ⟨pb, po, none⟩) B.M B.mc) rfl (by kernel_rfl) (by kernel_rfl) (by kernel_rfl) (by kernel_rfl) (fun _ _ _ h => h) (by rfl) (fun u hu => ?_) hS0 ?_
              · (try dsimp only at hu); go_simp
              (try simp only [Act.put, List.setIfInBounds_toArray, List.set_cons_zero, List.set_cons_succ])
              refine G_take (i := 29) (oi := { dst := some 51, op := Op.move (Operand.tmp 1), type := 22, pos := _, after := #[{ on := 18, ground := Ground.guard }], guard := some (18, true) }) (v := .slice (some ⟨kb, ko, none⟩) m mc) rfl (by kernel_rfl) (by kernel_rfl) (by kernel_rfl) (by kernel_rfl) (fun _ _ _ h => h) (by rfl) (fun u hu => ?_) hS0 ?_
              · (try dsimp only at hu); go_simp
              (try simp only [Act.put, List.setIfInBounds_toArray, List.set_cons_zero, List.set_cons_succ])
              refine G_take (i := 30) (oi := { dst := some 52, op := Op.move (Operand.tmp 9), type := 3, pos := _, after := #[{ on := 18, ground := Ground.guard }], guard := some (18, true) }) (v := .int .i64 (j : Nat)) rfl (by kernel_rfl) (by kernel_rfl) (by kernel_rfl) (by kernel_rfl) (fun _ _ _ h => h) (by rfl) (fun u hu => ?_) hS0 ?_
              · (try dsimp only at hu); go_simp
              (try simp only [Act.put, List.setIfInBounds_toArray, List.set_cons_zero, List.set_cons_succ])
              refine G_take (i := 31) (oi := { dst := some 53, op := Op.indexAddr 22 (Operand.tmp 51) (Operand.tmp 52), type := 0, pos := _, after := #[{ on := 29, ground := Ground.data }, { on := 30, ground := Ground.data }, { on := 18, ground := Ground.guard }], guard := some (18, true) }) (v := .pointer (some ⟨kb, ko + j, none⟩)) rfl (by kernel_rfl) (by kernel_rfl) (by kernel_rfl) (by kernel_rfl) (fun _ _ _ h => h) (by rfl) (fun u hu => ?_) hS0 ?_
              · (try dsimp only at hu); go_simp
              (try simp only [Act.put, List.setIfInBounds_toArray, List.set_cons_zero, List.set_cons_succ])
              refine G_take (i := 32) (oi := { dst := some 54, op := Op.load 3 (Operand.tmp 53), type := 3, pos := _, after := #[{ on := 31, ground := Ground.data }, { on := 18, ground := Ground.guard }], guard := some (18, true) }) (v := .int .i64 (py : Nat)) rfl (by kernel_rfl) (by kernel_rfl) (by kernel_rfl) (by kernel_rfl) (fun _ _ _ h => h) (by rfl) (fun u hu => ?_) hS0 ?_
              · (try dsimp only at hu); go_simp
              (try simp only [Act.put, List.setIfInBounds_toArray, List.set_cons_zero, List.set_cons_succ])
              refine G_take (i := 33) (oi := { dst := some 55, op := Op.indexAddr 24 (Operand.tmp 50) (Operand.tmp 54), type := 0, pos := _, after := #[{ on := 28, ground := Ground.data }, { on := 32, ground := Ground.data }, { on := 18, ground := Ground.guard }], guard := some (18, true) }) (v := .pointer (some ⟨pb, po + py, none⟩)) rfl (by kernel_rfl) (by kernel_rfl) (by kernel_rfl) (by kernel_rfl) (fun _ _ _ h => h) (by rfl) (fun u hu => ?_) hS0 ?_
              · (try dsimp only at hu); go_simp
              (try simp only [Act.put, List.setIfInBounds_toArray, List.set_cons_zero, List.set_cons_succ])
              refine G_take (i := 34) (oi := { dst := some 56, op := Op.load 51 (Operand.tmp 55), type := 51, pos := _, after := #[{ on := 33, ground := Ground.data }, { on := 18, ground := Ground.guard }], guard := some (18, true) }) (v := .int .u64 (bm : Nat)) rfl (by kernel_rfl) (by kernel_rfl) (by kernel_rfl) (by kernel_rfl) (fun _ _ _ h => h) (by rfl) (fun u hu => ?_) hS0 ?_
              · (try dsimp only at hu); go_simp
              (try simp only [Act.put, List.setIfInBounds_toArray, List.set_cons_zero, List.set_cons_succ])
              refine G_take (i := 35) (oi := { dst := some 57, op := Op.binOp BinOp.and 51 (Operand.tmp 48) (Operand.tmp 56) 51, type := 51, pos := _, after := #[{ on := 26, ground := Ground.data }, { on := 34, ground := Ground.data }, { on := 18, ground := Ground.guard }], guard := some (18, true) }) (v := .int .u64 ((an &&& bm : Nat) : Int)) rfl (by kernel_rfl) (by kernel_rfl) (by kernel_rfl) (by kernel_rfl) (fun _ _ _ h => h) (by rfl) (fun u hu => ?_) hS0 ?_
              · (try dsimp only at hu); go_simp; rw [E2.out]
              (try simp only [Act.put, List.setIfInBounds_toArray, List.set_cons_zero, List.set_cons_succ])
              refine G_take (i := 36) (oi := { dst := some 58, op := Op.binOp BinOp.eql 51 (Operand.tmp 57) (Operand.const (Value.int IntKind.u64 0)) 51, type := 4, pos := _, after := #[{ on := 35, ground := Ground.data }, { on := 18, ground := Ground.guard }], guard := some (18, true) }) (v := .bool true) rfl (by kernel_rfl) (by kernel_rfl) (by kernel_rfl) (by kernel_rfl) (fun _ _ _ h => h) (by rfl) (fun u hu => ?_) hS0 ?_
              · (try dsimp only at hu); go_simp
              (try simp only [Act.put, List.setIfInBounds_toArray, List.set_cons_zero, List.set_cons_succ])
              refine G_take (i := 37) (oi := { dst := some 59, op := Op.pick (Operand.tmp 40) (Operand.tmp 58) (Operand.const (Value.bool false)), type := 4, pos := _, after := #[{ on := 18, ground := Ground.data }, { on := 36, ground := Ground.data }], guard := none }) (v := .bool true) rfl (by kernel_rfl) (by kernel_rfl) (by kernel_rfl) (by kernel_rfl) (fun _ _ _ h => h) (by rfl) (fun u hu => ?_) hS0 ?_
              · (try dsimp only at hu); go_simp
              (try simp only [Act.put, List.setIfInBounds_toArray, List.set_cons_zero, List.set_cons_succ])
              refine G_done (by kernel_rfl) ?_ _
              (try dsimp only [Exit.then])
              have hS9 : (fun z : World => z.cell? ⟨lb, lo + i, none⟩ = some (.int .i64 (px : Nat)) ∧ z.cell? ⟨kb, ko + j, none⟩ = some (.int .i64 (py : Nat))) wr.drew.drew := ⟨zl, zk⟩
              have HOW : Hid ((wr.drew.drew.alloc (.cells #[.int .i64 (px : Nat), .int .i64 (py : Nat)] 88)).ownsRow w.heap.size 88 2 (.slice va vn vc) vn (pcells (cur A B Z m Y i j))) := hid (((owns_below (owns_below HJ.out.2 (Below.refl _ _).drew) (Below.refl _ _).drew)).alloc _)
              have hUb : (wr.drew.drew.alloc (.cells #[.int .i64 (px : Nat), .int .i64 (py : Nat)] 88)).heap[wr.heap.size]? = some (.cells #[.int .i64 (px : Nat), .int .i64 (py : Nat)] 88) := Go.Deep.blk_alloc_new _ _
              have hS10 : (fun z : World => z.cell? ⟨lb, lo + i, none⟩ = some (.int .i64 (px : Nat)) ∧ z.cell? ⟨kb, ko + j, none⟩ = some (.int .i64 (py : Nat))) (wr.drew.drew.alloc (.cells #[.int .i64 (px : Nat), .int .i64 (py : Nat)] 88)) := ⟨cell_alloc1 _ zl, cell_alloc1 _ zk⟩
              clear hS0 b2 b3 c2 c3 zm zn zp zq
              go_wp2_with fail
              refine G_region (fun z : World => z.cell? ⟨lb, lo + i, none⟩ = some (.int .i64 (px : Nat)) ∧ z.cell? ⟨kb, ko + j, none⟩ = some (.int .i64 (py : Nat))) (fun _ => false) (by kernel_rfl) hS9 (fun _ => ?_)
              refine G_take (i := 0) (oi := { dst := some 60, op := Op.move (Operand.tmp 7), type := 87, pos := _, after := #[], guard := none }) (v := .slice va vn vc) rfl (by kernel_rfl) (by kernel_rfl) (by kernel_rfl) (by kernel_rfl) (fun _ _ _ h => h) (by rfl) (fun u hu => ?_) hS9 ?_
              · (try dsimp only at hu); go_simp
              (try simp only [Act.put, List.setIfInBounds_toArray, List.set_cons_zero, List.set_cons_succ])
              refine G_take (i := 1) (oi := { dst := some 61, op := Op.move (Operand.tmp 0), type := 22, pos := _, after := #[], guard := none }) (v := .slice (some ⟨lb, lo, none⟩) n nc) rfl (by kernel_rfl) (by kernel_rfl) (by kernel_rfl) (by kernel_rfl) (fun _ _ _ h => h) (by rfl) (fun u hu => ?_) hS9 ?_
              · (try dsimp only at hu); go_simp
              (try simp only [Act.put, List.setIfInBounds_toArray, List.set_cons_zero, List.set_cons_succ])
              refine G_take (i := 2) (oi := { dst := some 62, op := Op.move (Operand.tmp 8), type := 3, pos := _, after := #[], guard := none }) (v := .int .i64 (i : Nat)) rfl (by kernel_rfl) (by kernel_rfl) (by kernel_rfl) (by kernel_rfl) (fun _ _ _ h => h) (by rfl) (fun u hu => ?_) hS9 ?_
              · (try dsimp only at hu); go_simp
              (try simp only [Act.put, List.setIfInBounds_toArray, List.set_cons_zero, List.set_cons_succ])
              refine G_take (i := 3) (oi := { dst := some 63, op := Op.indexAddr 22 (Operand.tmp 61) (Operand.tmp 62), type := 0, pos := _, after := #[{ on := 1, ground := Ground.data }, { on := 2, ground := Ground.data }], guard := none }) (v := .pointer (some ⟨lb, lo + i, none⟩)) rfl (by kernel_rfl) (by kernel_rfl) (by kernel_rfl) (by kernel_rfl) (fun _ _ _ h => h) (by rfl) (fun u hu => ?_) hS9 ?_
              · (try dsimp only at hu); go_simp
              (try simp only [Act.put, List.setIfInBounds_toArray, List.set_cons_zero, List.set_cons_succ])
              refine G_take (i := 4) (oi := { dst := some 64, op := Op.load 3 (Operand.tmp 63), type := 3, pos := _, after := #[{ on := 3, ground := Ground.data }], guard := none }) (v := .int .i64 (px : Nat)) rfl (by kernel_rfl) (by kernel_rfl) (by kernel_rfl) (by kernel_rfl) (fun _ _ _ h => h) (by rfl) (fun u hu => ?_) hS9 ?_
              · (try dsimp only at hu); go_simp
              (try simp only [Act.put, List.setIfInBounds_toArray, List.set_cons_zero, List.set_cons_succ])
              refine G_take (i := 5) (oi := { dst := some 65, op := Op.move (Operand.tmp 1), type := 22, pos := _, after := #[], guard := none }) (v := .slice (some ⟨kb, ko, none⟩) m mc) rfl (by kernel_rfl) (by kernel_rfl) (by kernel_rfl) (by kernel_rfl) (fun _ _ _ h => h) (by rfl) (fun u hu => ?_) hS9 ?_
              · (try dsimp only at hu); go_simp
              (try simp only [Act.put, List.setIfInBounds_toArray, List.set_cons_zero, List.set_cons_succ])
              refine G_take (i := 6) (oi := { dst := some 66, op := Op.move (Operand.tmp 9), type := 3, pos := _, after := #[], guard := none }) (v := .int .i64 (j : Nat)) rfl (by kernel_rfl) (by kernel_rfl) (by kernel_rfl) (by kernel_rfl) (fun _ _ _ h => h) (by rfl) (fun u hu => ?_) hS9 ?_
              · (try dsimp only at hu); go_simp
              (try simp only [Act.put, List.setIfInBounds_toArray, List.set_cons_zero, List.set_cons_succ])
              refine G_take (i := 7) (oi := { dst := some 67, op := Op.indexAddr 22 (Operand.tmp 65) (Operand.tmp 66), type := 0, pos := _, after := #[{ on := 5, ground := Ground.data }, { on := 6, ground := Ground.data }], guard := none }) (v := .pointer (some ⟨kb, ko + j, none⟩)) rfl (by kernel_rfl) (by kernel_rfl) (by kernel_rfl) (by kernel_rfl) (fun _ _ _ h => h) (by rfl) (fun u hu => ?_) hS9 ?_
              · (try dsimp only at hu); go_simp
              (try simp only [Act.put, List.setIfInBounds_toArray, List.set_cons_zero, List.set_cons_succ])
              refine G_take (i := 8) (oi := { dst := some 68, op := Op.load 3 (Operand.tmp 67), type := 3, pos := _, after := #[{ on := 7, ground := Ground.data }], guard := none }) (v := .int .i64 (py : Nat)) rfl (by kernel_rfl) (by kernel_rfl) (by kernel_rfl) (by kernel_rfl) (fun _ _ _ h => h) (by rfl) (fun u hu => ?_) hS9 ?_
              · (try dsimp only at hu); go_simp
              (try simp only [Act.put, List.setIfInBounds_toArray, List.set_cons_zero, List.set_cons_succ])
              refine G_take (i := 9) (oi := { dst := some 69, op := Op.build 88 #[(0, Operand.tmp 64), (1, Operand.tmp 68)], type := 88, pos := _, after := #[{ on := 4, ground := Ground.data }, { on := 8, ground := Ground.data }], guard := none }) (v := .agg #[.int .i64 (px : Nat), .int .i64 (py : Nat)]) rfl (by kernel_rfl) (by kernel_rfl) (by kernel_rfl) (by kernel_rfl) (fun _ _ _ h => h) (by rfl) (fun u hu => ?_) hS9 ?_
              · (try dsimp only at hu); go_simp
              (try simp only [Act.put, List.setIfInBounds_toArray, List.set_cons_zero, List.set_cons_succ])
              refine G_step (i := 10) (o := { dst := some 70, op := Op.buildSlice 87 1 #[(0, Operand.tmp 69)], type := 87, pos := _, after := #[{ on := 9, ground := Ground.data }], guard := none }) (by kernel_rfl) rfl (fun K' hK => ?_)
              go_simp
              refine hK.out _ _ (fun _ => hS10) (fun _ => ?_)
              (try simp only [Act.put, List.setIfInBounds_toArray, List.set_cons_zero, List.set_cons_succ])
              refine G_step (i := 11) (o := { dst := some 71, op := Op.call { callee := Callee.builtin Builtin.append, args := #[Operand.tmp 60, Operand.tmp 70], argTypes := #[87, 87] }, type := 87, pos := _, after := #[{ on := 0, ground := Ground.data }, { on := 10, ground := Ground.data }], guard := none }) (by kernel_rfl) rfl (fun K' hK => ?_)
              refine step_append_lies _ (by rfl) _ _ _ (by rfl) w.heap.size 88 i5 _ 2 16 Tryd.underlying87 HU.out.1 HU.out.2.1 HU.out.2.2.1 HU.out.2.2.2 rfl (by omega) (.slice va vn vc) vn (pcells (cur A B Z m Y i j)) (by rfl) (HOW.out) ⟨wr.heap.size, 0, none⟩ 1 1 [.int .i64 (px : Nat), .int .i64 (py : Nat)] (by rfl) (by rfl) (World.news_of_block (w := (wr.drew.drew.alloc (.cells #[.int .i64 (px : Nat), .int .i64 (py : Nat)] 88))) (cs := #[.int .i64 (px : Nat), .int .i64 (py : Nat)]) (t := 88) (fr := (0, 0)) hUb) (by simp [Value.oneCell']) (by omega) (by unfold maxLen; omega) (by omega) (by simp; omega) (wr.heap.size + 1) (by simp) ?_
              intro g cap w4 hown4 hgrow4 hat4 hlt4
              have hw4 : Below w.heap.size w w4 := d51_below HJ.out.1 HJ.out.2 hgrow4
              have s4 : (fun z : World => z.cell? ⟨lb, lo + i, none⟩ = some (.int .i64 (px : Nat)) ∧ z.cell? ⟨kb, ko + j, none⟩ = some (.int .i64 (py : Nat))) w4 := ⟨below_cell hw4 (Nat.le_refl _) HZL.out, below_cell hw4 (Nat.le_refl _) HZK.out⟩
              have HN : Hid (w4.ownsRow w.heap.size 88 2 (.slice (some ⟨g, 0, none⟩) (vn + 1) cap) (cur A B Z m Y i (j + 1)).length (pcells (cur A B Z m Y i (j + 1)))) := hid (by
                rw [HYES.out HT.out, ← pcells_snoc, List.length_append, HVL.out]
                exact hown4)
              have HLN : Hid ((cur A B Z m Y i (j + 1)).length = vn + 1) := hid (by rw [HYES.out HT.out, List.length_append, HVL.out]; rfl)
              have HW4 := hid hw4
              clear hown4 hgrow4 hat4 hlt4 hUb HOW hS10 hw4
              refine hK.out _ _ (fun _ => s4) (fun _ => ?_)
              (try simp only [Act.put, List.setIfInBounds_toArray, List.set_cons_zero, List.set_cons_succ])
              refine G_step (i := 12) (o := { dst := some 7, op := Op.assign (Operand.tmp 71), type := 87, pos := _, after := #[{ on := 11, ground := Ground.data }, { on := 11, ground := Ground.chain }, { on := 0, ground := Ground.phase }, { on := 1, ground := Ground.phase }, { on := 2, ground := Ground.phase }, { on := 3, ground := Ground.phase }, { on := 4, ground := Ground.phase }, { on := 5, ground := Ground.phase }, { on := 6, ground := Ground.phase }, { on := 7, ground := Ground.phase }, { on := 8, ground := Ground.phase }, { on := 9, ground := Ground.phase }, { on := 10, ground := Ground.phase }, { on := 11, ground := Ground.phase }], guard := none }) (by kernel_rfl) rfl (fun K' hK => ?_)
              go_simp
              refine hK.out _ _ (fun _ => s4) (fun _ => ?_)
              (try simp only [Act.put, List.setIfInBounds_toArray, List.set_cons_zero, List.set_cons_succ])
              refine G_done (by kernel_rfl) ?_ _
              (try dsimp only [Exit.then])
              clear s4 hS9 zl zk
              go_wp2
              go_roundw
              case rel => exact ⟨j + 1, by omega, by go_num, hid ⟨HW4.out, HN.out⟩⟩
              case measure => simp [intOf]; omega
            · have g2 : ((((an &&& bm : Nat) : Int)) == 0) = false := beq_eq_false_iff_ne.2 (by omega)
              have HT : Hid (okB A B px py = false) := hid (by rw [HOK.out]; simp [e2])
              clear e2
              go_wp2_with fail
              refine G_region (fun z : World => z.cell? ⟨Ba, 2, none⟩ = some (.slice (some ⟨mb, mo, none⟩) A.M A.mc) ∧ z.cell? ⟨mb, mo + px, none⟩ = some (.int .u64 (am : Nat)) ∧ z.cell? ⟨Bb, 3, none⟩ = some (.slice (some ⟨qb, qo, none⟩) B.O B.oc) ∧ z.cell? ⟨qb, qo + py, none⟩ = some (.int .u64 (bn : Nat)) ∧ z.cell? ⟨Ba, 3, none⟩ = some (.slice (some ⟨nb, no, none⟩) A.O A.oc) ∧ z.cell? ⟨nb, no + px, none⟩ = some (.int .u64 (an : Nat)) ∧ z.cell? ⟨Bb, 2, none⟩ = some (.slice (some ⟨pb, po, none⟩) B.M B.mc) ∧ z.cell? ⟨pb, po + py, none⟩ = some (.int .u64 (bm : Nat)) ∧ z.cell? ⟨lb, lo + i, none⟩ = some (.int .i64 (px : Nat)) ∧ z.cell? ⟨kb, ko + j, none⟩ = some (.int .i64 (py : Nat))) (fun _ => false) (by kernel_rfl) hS0 (fun _ => ?_)
              refine G_take (i := 0) (oi := { dst := some 22, op := Op.fieldAddr 26 (Operand.tmp 2) 2, type := 0, pos := _, after := #[], guard := none }) (v := .pointer (some ⟨Ba, 2, none⟩)) rfl (by kernel_rfl) (by kernel_rfl) (by kernel_rfl) (by kernel_rfl) (fun _ _ _ h => h) (by rfl) (fun u hu => ?_) hS0 ?_
              · (try dsimp only at hu); go_simp
              (try simp only [Act.put, List.setIfInBounds_toArray, List.set_cons_zero, List.set_cons_succ])
              refine G_take (i := 1) (oi := { dst := some 23, op := Op.load 24 (Operand.tmp 22), type := 24, pos := _, after := #[{ on := 0, ground := Ground.data }], guard := none }) (v := .slice (some ⟨mb, mo, none⟩) A.M A.mc) rfl (by kernel_rfl) (by kernel_rfl) (by kernel_rfl) (by kernel_rfl) (fun _ _ _ h => h) (by rfl) (fun u hu => ?_) hS0 ?_
              · (try dsimp only at hu); go_simp
              (try simp only [Act.put, List.setIfInBounds_toArray, List.set_cons_zero, List.set_cons_succ])
              refine G_take (i := 2) (oi := { dst := some 24, op := Op.move (Operand.tmp 0), type := 22, pos := _, after := #[], guard := none }) (v := .slice (some ⟨lb, lo, none⟩) n nc) rfl (by kernel_rfl) (by kernel_rfl) (by kernel_rfl) (by kernel_rfl) (fun _ _ _ h => h) (by rfl) (fun u hu => ?_) hS0 ?_
              · (try dsimp only at hu); go_simp
              (try simp only [Act.put, List.setIfInBounds_toArray, List.set_cons_zero, List.set_cons_succ])
              refine G_take (i := 3) (oi := { dst := some 25, op := Op.move (Operand.tmp 8), type := 3, pos := _, after := #[], guard := none }) (v := .int .i64 (i : Nat)) rfl (by kernel_rfl) (by kernel_rfl) (by kernel_rfl) (by kernel_rfl) (fun _ _ _ h => h) (by rfl) (fun u hu => ?_) hS0 ?_
              · (try dsimp only at hu); go_simp
              (try simp only [Act.put, List.setIfInBounds_toArray, List.set_cons_zero, List.set_cons_succ])
              refine G_take (i := 4) (oi := { dst := some 26, op := Op.indexAddr 22 (Operand.tmp 24) (Operand.tmp 25), type := 0, pos := _, after := #[{ on := 2, ground := Ground.data }, { on := 3, ground := Ground.data }], guard := none }) (v := .pointer (some ⟨lb, lo + i, none⟩)) rfl (by kernel_rfl) (by kernel_rfl) (by kernel_rfl) (by kernel_rfl) (fun _ _ _ h => h) (by rfl) (fun u hu => ?_) hS0 ?_
              · (try dsimp only at hu); go_simp
              (try simp only [Act.put, List.setIfInBounds_toArray, List.set_cons_zero, List.set_cons_succ])
              refine G_take (i := 5) (oi := { dst := some 27, op := Op.load 3 (Operand.tmp 26), type := 3, pos := _, after := #[{ on := 4, ground := Ground.data }], guard := none }) (v := .int .i64 (px : Nat)) rfl (by kernel_rfl) (by kernel_rfl) (by kernel_rfl) (by kernel_rfl) (fun _ _ _ h => h) (by rfl) (fun u hu => ?_) hS0 ?_
              · (try dsimp only at hu); go_simp
              (try simp only [Act.put, List.setIfInBounds_toArray, List.set_cons_zero, List.set_cons_succ])
              refine G_take (i := 6) (oi := { dst := some 28, op := Op.indexAddr 24 (Operand.tmp 23) (Operand.tmp 27), type := 0, pos := _, after := #[{ on := 1, ground := Ground.data }, { on := 5, ground := Ground.data }], guard := none }) (v := .pointer (some ⟨mb, mo + px, none⟩)) rfl (by kernel_rfl) (by kernel_rfl) (by kernel_rfl) (by kernel_rfl) (fun _ _ _ h => h) (by rfl) (fun u hu => ?_) hS0 ?_
              · (try dsimp only at hu); go_simp
              (try simp only [Act.put, List.setIfInBounds_toArray, List.set_cons_zero, List.set_cons_succ])
              refine G_take (i := 7) (oi := { dst := some 29, op := Op.load 51 (Operand.tmp 28), type := 51, pos := _, after := #[{ on := 6, ground := Ground.data }], guard := none }) (v := .int .u64 (am : Nat)) rfl (by kernel_rfl) (by kernel_rfl) (by kernel_rfl) (by kernel_rfl) (fun _ _ _ h => h) (by rfl) (fun u hu => ?_) hS0 ?_
              · (try dsimp only at hu); go_simp
              (try simp only [Act.put, List.setIfInBounds_toArray, List.set_cons_zero, List.set_cons_succ])
              refine G_take (i := 8) (oi := { dst := some 30, op := Op.fieldAddr 26 (Operand.tmp 3) 3, type := 0, pos := _, after := #[], guard := none }) (v := .pointer (some ⟨Bb, 3, none⟩)) rfl (by kernel_rfl) (by kernel_rfl) (by kernel_rfl) (by kernel_rfl) (fun _ _ _ h => h) (by rfl) (fun u hu => ?_) hS0 ?_
              · (try dsimp only at hu); go_simp
              (try simp only [Act.put, List.setIfInBounds_toArray, List.set_cons_zero, List.set_cons_succ])
              refine G_take (i := 9) (oi := { dst := some 31, op := Op.load 24 (Operand.tmp 30), type := 24, pos := _, after := #[{ on := 8, ground := Ground.data }], guard := none }) (v := .slice (some ⟨qb, qo, none⟩) B.O B.oc) rfl (by kernel_rfl) (by kernel_rfl) (by kernel_rfl) (by kernel_rfl) (fun _ _ _ h => h) (by rfl) (fun u hu => ?_) hS0 ?_
              · (try dsimp only at hu); go_simp
              (try simp only [Act.put, List.setIfInBounds_toArray, List.set_cons_zero, List.set_cons_succ])
              refine G_take (i := 10) (oi := { dst := some 32, op := Op.move (Operand.tmp 1), type := 22, pos := _, after := #[], guard := none }) (v := .slice (some ⟨kb, ko, none⟩) m mc) rfl (by kernel_rfl) (by kernel_rfl) (by kernel_rfl) (by kernel_rfl) (fun _ _ _ h => h) (by rfl) (fun u hu => ?_) hS0 ?_
              · (try dsimp only at hu); go_simp
              (try simp only [Act.put, List.setIfInBounds_toArray, List.set_cons_zero, List.set_cons_succ])
              refine G_take (i := 11) (oi := { dst := some 33, op := Op.move (Operand.tmp 9), type := 3, pos := _, after := #[], guard := none }) (v := .int .i64 (j : Nat)) rfl (by kernel_rfl) (by kernel_rfl) (by kernel_rfl) (by kernel_rfl) (fun _ _ _ h => h) (by rfl) (fun u hu => ?_) hS0 ?_
              · (try dsimp only at hu); go_simp
              (try simp only [Act.put, List.setIfInBounds_toArray, List.set_cons_zero, List.set_cons_succ])
              refine G_take (i := 12) (oi := { dst := some 34, op := Op.indexAddr 22 (Operand.tmp 32) (Operand.tmp 33), type := 0, pos := _, after := #[{ on := 10, ground := Ground.data }, { on := 11, ground := Ground.data }], guard := none }) (v := .pointer (some ⟨kb, ko + j, none⟩)) rfl (by kernel_rfl) (by kernel_rfl) (by kernel_rfl) (by kernel_rfl) (fun _ _ _ h => h) (by rfl) (fun u hu => ?_) hS0 ?_
              · (try dsimp only at hu); go_simp
              (try simp only [Act.put, List.setIfInBounds_toArray, List.set_cons_zero, List.set_cons_succ])
              refine G_take (i := 13) (oi := { dst := some 35, op := Op.load 3 (Operand.tmp 34), type := 3, pos := _, after := #[{ on := 12, ground := Ground.data }], guard := none }) (v := .int .i64 (py : Nat)) rfl (by kernel_rfl) (by kernel_rfl) (by kernel_rfl) (by kernel_rfl) (fun _ _ _ h => h) (by rfl) (fun u hu => ?_) hS0 ?_
              · (try dsimp only at hu); go_simp
              (try simp only [Act.put, List.setIfInBounds_toArray, List.set_cons_zero, List.set_cons_succ])
              refine G_take (i := 14) (oi := { dst := some 36, op := Op.indexAddr 24 (Operand.tmp 31) (Operand.tmp 35), type := 0, pos := _, after := #[{ on := 9, ground := Ground.data }, { on := 13, ground := Ground.data }], guard := none }) (v := .pointer (some ⟨qb, qo + py, none⟩)) rfl (by kernel_rfl) (by kernel_rfl) (by kernel_rfl) (by kernel_rfl) (fun _ _ _ h => h) (by rfl) (fun u hu => ?_) hS0 ?_
              · (try dsimp only at hu); go_simp
              (try simp only [Act.put, List.setIfInBounds_toArray, List.set_cons_zero, List.set_cons_succ])
              refine G_take (i := 15) (oi := { dst := some 37, op := Op.load 51 (Operand.tmp 36), type := 51, pos := _, after := #[{ on := 14, ground := Ground.data }], guard := none }) (v := .int .u64 (bn : Nat)) rfl (by kernel_rfl) (by kernel_rfl) (by kernel_rfl) (by kernel_rfl) (fun _ _ _ h => h) (by rfl) (fun u hu => ?_) hS0 ?_
              · (try dsimp only at hu); go_simp
              (try simp only [Act.put, List.setIfInBounds_toArray, List.set_cons_zero, List.set_cons_succ])
              refine G_take (i := 16) (oi := { dst := some 38, op := Op.binOp BinOp.and 51 (Operand.tmp 29) (Operand.tmp 37) 51, type := 51, pos := _, after := #[{ on := 7, ground := Ground.data }, { on := 15, ground := Ground.data }], guard := none }) (v := .int .u64 ((am &&& bn : Nat) : Int)) rfl (by kernel_rfl) (by kernel_rfl) (by kernel_rfl) (by kernel_rfl) (fun _ _ _ h => h) (by rfl) (fun u hu => ?_) hS0 ?_
              · (try dsimp only at hu); go_simp; rw [E1.out]
              (try simp only [Act.put, List.setIfInBounds_toArray, List.set_cons_zero, List.set_cons_succ])
              refine G_take (i := 17) (oi := { dst := some 39, op := Op.binOp BinOp.eql 51 (Operand.tmp 38) (Operand.const (Value.int IntKind.u64 0)) 51, type := 4, pos := _, after := #[{ on := 16, ground := Ground.data }], guard := none }) (v := .bool true) rfl (by kernel_rfl) (by kernel_rfl) (by kernel_rfl) (by kernel_rfl) (fun _ _ _ h => h) (by rfl) (fun u hu => ?_) hS0 ?_
              · (try dsimp only at hu); go_simp
              (try simp only [Act.put, List.setIfInBounds_toArray, List.set_cons_zero, List.set_cons_succ])
              refine G_take (i := 18) (oi := { dst := some 40, op := Op.move (Operand.tmp 39), type := 4, pos := _, after := #[{ on := 17, ground := Ground.data }], guard := none }) (v := .bool true) rfl (by kernel_rfl) (by kernel_rfl) (by kernel_rfl) (by kernel_rfl) (fun _ _ _ h => h) (by rfl) (fun u hu => ?_) hS0 ?_
              · (try dsimp only at hu); go_simp
              (try simp only [Act.put, List.setIfInBounds_toArray, List.set_cons_zero, List.set_cons_succ])
              refine G_take (i := 19) (oi := { dst := some 41, op := Op.fieldAddr 26 (Operand.tmp 2) 3, type := 0, pos := _, after := #[{ on := 18, ground := Ground.guard }], guard := some (18, true) }) (v := .pointer (some ⟨Ba, 3, none⟩)) rfl (by kernel_rfl) (by kernel_rfl) (by kernel_rfl) (by kernel_rfl) (fun _ _ _ h => h) (by rfl) (fun u hu => ?_) hS0 ?_
              · (try dsimp only at hu); go_simp
              (try simp only [Act.put, List.setIfInBounds_toArray, List.set_cons_zero, List.set_cons_succ])
              refine G_take (i := 20) (oi := { dst := some 42, op := Op.load 24 (Operand.tmp 41), type := 24, pos := _, after := #[{ on := 19, ground := Ground.data }, { on := 18, ground := Ground.guard }], guard := some (18, true) }) (v := .slice (some ⟨nb, no, none⟩) A.O A.oc) rfl (by kernel_rfl) (by kernel_rfl) (by kernel_rfl) (by kernel_rfl) (fun _ _ _ h => h) (by rfl) (fun u hu => ?_) hS0 ?_
              · (try dsimp only at hu); go_simp
              (try simp only [Act.put, List.setIfInBounds_toArray, List.set_cons_zero, List.set_cons_succ])
              refine G_take (i := 21) (oi := { dst := some 43, op := Op.move (Operand.tmp 0), type := 22, pos := _, after := #[{ on := 18, ground := Ground.guard }], guard := some (18, true) }) (v := .slice (some ⟨lb, lo, none⟩) n nc) rfl (by kernel_rfl) (by kernel_rfl) (by kernel_rfl) (by kernel_rfl) (fun _ _ _ h => h) (by rfl) (fun u hu => ?_) hS0 ?_
              · (try dsimp only at hu); go_simp
              (try simp only [Act.put, List.setIfInBounds_toArray, List.set_cons_zero, List.set_cons_succ])
              refine G_take (i := 22) (oi := { dst := some 44, op := Op.move (Operand.tmp 8), type := 3, pos := _, after := #[{ on := 18, ground := Ground.guard }], guard := some (18, true) }) (v := .int .i64 (i : Nat)) rfl (by kernel_rfl) (by kernel_rfl) (by kernel_rfl) (by kernel_rfl) (fun _ _ _ h => h) (by rfl) (fun u hu => ?_) hS0 ?_
              · (try dsimp only at hu); go_simp
              (try simp only [Act.put, List.setIfInBounds_toArray, List.set_cons_zero, List.set_cons_succ])
              refine G_take (i := 23) (oi := { dst := some 45, op := Op.indexAddr 22 (Operand.tmp 43) (Operand.tmp 44), type := 0, pos := _, after := #[{ on := 21, ground := Ground.data }, { on := 22, ground := Ground.data }, { on := 18, ground := Ground.guard }], guard := some (18, true) }) (v := .pointer (some ⟨lb, lo + i, none⟩)) rfl (by kernel_rfl) (by kernel_rfl) (by kernel_rfl) (by kernel_rfl) (fun _ _ _ h => h) (by rfl) (fun u hu => ?_) hS0 ?_
              · (try dsimp only at hu); go_simp
              (try simp only [Act.put, List.setIfInBounds_toArray, List.set_cons_zero, List.set_cons_succ])
              refine G_take (i := 24) (oi := { dst := some 46, op := Op.load 3 (Operand.tmp 45), type := 3, pos := _, after := #[{ on := 23, ground := Ground.data }, { on := 18, ground := Ground.guard }], guard := some (18, true) }) (v := .int .i64 (px : Nat)) rfl (by kernel_rfl) (by kernel_rfl) (by kernel_rfl) (by kernel_rfl) (fun _ _ _ h => h) (by rfl) (fun u hu => ?_) hS0 ?_
              · (try dsimp only at hu); go_simp
              (try simp only [Act.put, List.setIfInBounds_toArray, List.set_cons_zero, List.set_cons_succ])
              refine G_take (i := 25) (oi := { dst := some 47, op := Op.indexAddr 24 (Operand.tmp 42) (Operand.tmp 46), type := 0, pos := _, after := #[{ on := 20, ground := Ground.data }, { on := 24, ground := Ground.data }, { on := 18, ground := Ground.guard }], guard := some (18, true) }) (v := .pointer (some ⟨nb, no + px, none⟩)) rfl (by kernel_rfl) (by kernel_rfl) (by kernel_rfl) (by kernel_rfl) (fun _ _ _ h => h) (by rfl) (fun u hu => ?_) hS0 ?_
              · (try dsimp only at hu); go_simp
              (try simp only [Act.put, List.setIfInBounds_toArray, List.set_cons_zero, List.set_cons_succ])
              refine G_take (i := 26) (oi := { dst := some 48, op := Op.load 51 (Operand.tmp 47), type := 51, pos := _, after := #[{ on := 25, ground := Ground.data }, { on := 18, ground := Ground.guard }], guard := some (18, true) }) (v := .int .u64 (an : Nat)) rfl (by kernel_rfl) (by kernel_rfl) (by kernel_rfl) (by kernel_rfl) (fun _ _ _ h => h) (by rfl) (fun u hu => ?_) hS0 ?_
              · (try dsimp only at hu); go_simp
              (try simp only [Act.put, List.setIfInBounds_toArray, List.set_cons_zero, List.set_cons_succ])
              refine G_take (i := 27) (oi := { dst := some 49, op := Op.fieldAddr 26 (Operand.tmp 3) 2, type := 0, pos := _, after := #[{ on := 18, ground := Ground.guard }], guard := some (18, true) }) (v := .pointer (some ⟨Bb, 2, none⟩)) rfl (by kernel_rfl) (by kernel_rfl) (by kernel_rfl) (by kernel_rfl) (fun _ _ _ h => h) (by rfl) (fun u hu => ?_) hS0 ?_
              · (try dsimp only at hu); go_simp
              (try simp only [Act.put, List.setIfInBounds_toArray, List.set_cons_zero, List.set_cons_succ])
              refine G_take (i := 28) (oi := { dst := some 50, op := Op.load 24 (Operand.tmp 49), type := 24, pos := _, after := #[{ on := 27, ground := Ground.data }, { on := 18, ground := Ground.guard }], guard := some (18, true) }) (v := .slice (some ⟨pb, po, none⟩) B.M B.mc) rfl (by kernel_rfl) (by kernel_rfl) (by kernel_rfl) (by kernel_rfl) (fun _ _ _ h => h) (by rfl) (fun u hu => ?_) hS0 ?_
              · (try dsimp only at hu); go_simp
              (try simp only [Act.put, List.setIfInBounds_toArray, List.set_cons_zero, List.set_cons_succ])
              refine G_take (i := 29) (oi := { dst := some 51, op := Op.move (Operand.tmp 1), type := 22, pos := _, after := #[{ on := 18, ground := Ground.guard }], guard := some (18, true) }) (v := .slice (some ⟨kb, ko, none⟩) m mc) rfl (by kernel_rfl) (by kernel_rfl) (by kernel_rfl) (by kernel_rfl) (fun _ _ _ h => h) (by rfl) (fun u hu => ?_) hS0 ?_
              · (try dsimp only at hu); go_simp
              (try simp only [Act.put, List.setIfInBounds_toArray, List.set_cons_zero, List.set_cons_succ])
              refine G_take (i := 30) (oi := { dst := some 52, op := Op.move (Operand.tmp 9), type := 3, pos := _, after := #[{ on := 18, ground := Ground.guard }], guard := some (18, true) }) (v := .int .i64 (j : Nat)) rfl (by kernel_rfl) (by kernel_rfl) (by kernel_rfl) (by kernel_rfl) (fun _ _ _ h => h) (by rfl) (fun u hu => ?_) hS0 ?_
              · (try dsimp only at hu); go_simp
              (try simp only [Act.put, List.setIfInBounds_toArray, List.set_cons_zero, List.set_cons_succ])
              refine G_take (i := 31) (oi := { dst := some 53, op := Op.indexAddr 22 (Operand.tmp 51) (Operand.tmp 52), type := 0, pos := _, after := #[{ on := 29, ground := Ground.data }, { on := 30, ground := Ground.data }, { on := 18, ground := Ground.guard }], guard := some (18, true) }) (v := .pointer (some ⟨kb, ko + j, none⟩)) rfl (by kernel_rfl) (by kernel_rfl) (by kernel_rfl) (by kernel_rfl) (fun _ _ _ h => h) (by rfl) (fun u hu => ?_) hS0 ?_
              · (try dsimp only at hu); go_simp
              (try simp only [Act.put, List.setIfInBounds_toArray, List.set_cons_zero, List.set_cons_succ])
              refine G_take (i := 32) (oi := { dst := some 54, op := Op.load 3 (Operand.tmp 53), type := 3, pos := _, after := #[{ on := 31, ground := Ground.data }, { on := 18, ground := Ground.guard }], guard := some (18, true) }) (v := .int .i64 (py : Nat)) rfl (by kernel_rfl) (by kernel_rfl) (by kernel_rfl) (by kernel_rfl) (fun _ _ _ h => h) (by rfl) (fun u hu => ?_) hS0 ?_
              · (try dsimp only at hu); go_simp
              (try simp only [Act.put, List.setIfInBounds_toArray, List.set_cons_zero, List.set_cons_succ])
              refine G_take (i := 33) (oi := { dst := some 55, op := Op.indexAddr 24 (Operand.tmp 50) (Operand.tmp 54), type := 0, pos := _, after := #[{ on := 28, ground := Ground.data }, { on := 32, ground := Ground.data }, { on := 18, ground := Ground.guard }], guard := some (18, true) }) (v := .pointer (some ⟨pb, po + py, none⟩)) rfl (by kernel_rfl) (by kernel_rfl) (by kernel_rfl) (by kernel_rfl) (fun _ _ _ h => h) (by rfl) (fun u hu => ?_) hS0 ?_
              · (try dsimp only at hu); go_simp
              (try simp only [Act.put, List.setIfInBounds_toArray, List.set_cons_zero, List.set_cons_succ])
              refine G_take (i := 34) (oi := { dst := some 56, op := Op.load 51 (Operand.tmp 55), type := 51, pos := _, after := #[{ on := 33, ground := Ground.data }, { on := 18, ground := Ground.guard }], guard := some (18, true) }) (v := .int .u64 (bm : Nat)) rfl (by kernel_rfl) (by kernel_rfl) (by kernel_rfl) (by kernel_rfl) (fun _ _ _ h => h) (by rfl) (fun u hu => ?_) hS0 ?_
              · (try dsimp only at hu); go_simp
              (try simp only [Act.put, List.setIfInBounds_toArray, List.set_cons_zero, List.set_cons_succ])
              refine G_take (i := 35) (oi := { dst := some 57, op := Op.binOp BinOp.and 51 (Operand.tmp 48) (Operand.tmp 56) 51, type := 51, pos := _, after := #[{ on := 26, ground := Ground.data }, { on := 34, ground := Ground.data }, { on := 18, ground := Ground.guard }], guard := some (18, true) }) (v := .int .u64 ((an &&& bm : Nat) : Int)) rfl (by kernel_rfl) (by kernel_rfl) (by kernel_rfl) (by kernel_rfl) (fun _ _ _ h => h) (by rfl) (fun u hu => ?_) hS0 ?_
              · (try dsimp only at hu); go_simp; rw [E2.out]
              (try simp only [Act.put, List.setIfInBounds_toArray, List.set_cons_zero, List.set_cons_succ])
              refine G_take (i := 36) (oi := { dst := some 58, op := Op.binOp BinOp.eql 51 (Operand.tmp 57) (Operand.const (Value.int IntKind.u64 0)) 51, type := 4, pos := _, after := #[{ on := 35, ground := Ground.data }, { on := 18, ground := Ground.guard }], guard := some (18, true) }) (v := .bool false) rfl (by kernel_rfl) (by kernel_rfl) (by kernel_rfl) (by kernel_rfl) (fun _ _ _ h => h) (by rfl) (fun u hu => ?_) hS0 ?_
              · (try dsimp only at hu); go_simp
              (try simp only [Act.put, List.setIfInBounds_toArray, List.set_cons_zero, List.set_cons_succ])
              refine G_take (i := 37) (oi := { dst := some 59, op := Op.pick (Operand.tmp 40) (Operand.tmp 58) (Operand.const (Value.bool false)), type := 4, pos := _, after := #[{ on := 18, ground := Ground.data }, { on := 36, ground := Ground.data }], guard := none }) (v := .bool false) rfl (by kernel_rfl) (by kernel_rfl) (by kernel_rfl) (by kernel_rfl) (fun _ _ _ h => h) (by rfl) (fun u hu => ?_) hS0 ?_
              · (try dsimp only at hu); go_simp
              (try simp only [Act.put, List.setIfInBounds_toArray, List.set_cons_zero, List.set_cons_succ])
              refine G_done (by kernel_rfl) ?_ _
              (try dsimp only [Exit.then])
              clear hS0 b2 b3 c2 c3 zm zn zp zq zl zk
              go_wp2
              go_roundw
              case rel => exact ⟨j + 1, by omega, by go_num, hid ⟨HJ.out.1.drew, by rw [HNO.out HT.out, HVL.out]; exact owns_below HJ.out.2 (Below.refl _ _).drew⟩⟩
              case measure => simp [intOf]; omega
          · have g1 : ((((am &&& bn : Nat) : Int)) == 0) = false := beq_eq_false_iff_ne.2 (by omega)
            have HT : Hid (okB A B px py = false) := hid (by rw [HOK.out]; simp [e1])
            clear e1
            go_wp2_with fail
            refine G_region (fun z : World => z.cell? ⟨Ba, 2, none⟩ = some (.slice (some ⟨mb, mo, none⟩) A.M A.mc) ∧ z.cell? ⟨mb, mo + px, none⟩ = some (.int .u64 (am : Nat)) ∧ z.cell? ⟨Bb, 3, none⟩ = some (.slice (some ⟨qb, qo, none⟩) B.O B.oc) ∧ z.cell? ⟨qb, qo + py, none⟩ = some (.int .u64 (bn : Nat)) ∧ z.cell? ⟨Ba, 3, none⟩ = some (.slice (some ⟨nb, no, none⟩) A.O A.oc) ∧ z.cell? ⟨nb, no + px, none⟩ = some (.int .u64 (an : Nat)) ∧ z.cell? ⟨Bb, 2, none⟩ = some (.slice (some ⟨pb, po, none⟩) B.M B.mc) ∧ z.cell? ⟨pb, po + py, none⟩ = some (.int .u64 (bm : Nat)) ∧ z.cell? ⟨lb, lo + i, none⟩ = some (.int .i64 (px : Nat)) ∧ z.cell? ⟨kb, ko + j, none⟩ = some (.int .i64 (py : Nat))) (fun _ => false) (by kernel_rfl) hS0 (fun _ => ?_)
            refine G_take (i := 0) (oi := { dst := some 22, op := Op.fieldAddr 26 (Operand.tmp 2) 2, type := 0, pos := _, after := #[], guard := none }) (v := .pointer (some ⟨Ba, 2, none⟩)) rfl (by kernel_rfl) (by kernel_rfl) (by kernel_rfl) (by kernel_rfl) (fun _ _ _ h => h) (by rfl) (fun u hu => ?_) hS0 ?_
            · (try dsimp only at hu); go_simp
            (try simp only [Act.put, List.setIfInBounds_toArray, List.set_cons_zero, List.set_cons_succ])
            refine G_take (i := 1) (oi := { dst := some 23, op := Op.load 24 (Operand.tmp 22), type := 24, pos := _, after := #[{ on := 0, ground := Ground.data }], guard := none }) (v := .slice (some ⟨mb, mo, none⟩) A.M A.mc) rfl (by kernel_rfl) (by kernel_rfl) (by kernel_rfl) (by kernel_rfl) (fun _ _ _ h => h) (by rfl) (fun u hu => ?_) hS0 ?_
            · (try dsimp only at hu); go_simp
            (try simp only [Act.put, List.setIfInBounds_toArray, List.set_cons_zero, List.set_cons_succ])
            refine G_take (i := 2) (oi := { dst := some 24, op := Op.move (Operand.tmp 0), type := 22, pos := _, after := #[], guard := none }) (v := .slice (some ⟨lb, lo, none⟩) n nc) rfl (by kernel_rfl) (by kernel_rfl) (by kernel_rfl) (by kernel_rfl) (fun _ _ _ h => h) (by rfl) (fun u hu => ?_) hS0 ?_
            · (try dsimp only at hu); go_simp
            (try simp only [Act.put, List.setIfInBounds_toArray, List.set_cons_zero, List.set_cons_succ])
            refine G_take (i := 3) (oi := { dst := some 25, op := Op.move (Operand.tmp 8), type := 3, pos := _, after := #[], guard := none }) (v := .int .i64 (i : Nat)) rfl (by kernel_rfl) (by kernel_rfl) (by kernel_rfl) (by kernel_rfl) (fun _ _ _ h => h) (by rfl) (fun u hu => ?_) hS0 ?_
            · (try dsimp only at hu); go_simp
            (try simp only [Act.put, List.setIfInBounds_toArray, List.set_cons_zero, List.set_cons_succ])
            refine G_take (i := 4) (oi := { dst := some 26, op := Op.indexAddr 22 (Operand.tmp 24) (Operand.tmp 25), type := 0, pos := _, after := #[{ on := 2, ground := Ground.data }, { on := 3, ground := Ground.data }], guard := none }) (v := .pointer (some ⟨lb, lo + i, none⟩)) rfl (by kernel_rfl) (by kernel_rfl) (by kernel_rfl) (by kernel_rfl) (fun _ _ _ h => h) (by rfl) (fun u hu => ?_) hS0 ?_
            · (try dsimp only at hu); go_simp
            (try simp only [Act.put, List.setIfInBounds_toArray, List.set_cons_zero, List.set_cons_succ])
            refine G_take (i := 5) (oi := { dst := some 27, op := Op.load 3 (Operand.tmp 26), type := 3, pos := _, after := #[{ on := 4, ground := Ground.data }], guard := none }) (v := .int .i64 (px : Nat)) rfl (by kernel_rfl) (by kernel_rfl) (by kernel_rfl) (by kernel_rfl) (fun _ _ _ h => h) (by rfl) (fun u hu => ?_) hS0 ?_
            · (try dsimp only at hu); go_simp
            (try simp only [Act.put, List.setIfInBounds_toArray, List.set_cons_zero, List.set_cons_succ])
            refine G_take (i := 6) (oi := { dst := some 28, op := Op.indexAddr 24 (Operand.tmp 23) (Operand.tmp 27), type := 0, pos := _, after := #[{ on := 1, ground := Ground.data }, { on := 5, ground := Ground.data }], guard := none }) (v := .pointer (some ⟨mb, mo + px, none⟩)) rfl (by kernel_rfl) (by kernel_rfl) (by kernel_rfl) (by kernel_rfl) (fun _ _ _ h => h) (by rfl) (fun u hu => ?_) hS0 ?_
            · (try dsimp only at hu); go_simp
            (try simp only [Act.put, List.setIfInBounds_toArray, List.set_cons_zero, List.set_cons_succ])
            refine G_take (i := 7) (oi := { dst := some 29, op := Op.load 51 (Operand.tmp 28), type := 51, pos := _, after := #[{ on := 6, ground := Ground.data }], guard := none }) (v := .int .u64 (am : Nat)) rfl (by kernel_rfl) (by kernel_rfl) (by kernel_rfl) (by kernel_rfl) (fun _ _ _ h => h) (by rfl) (fun u hu => ?_) hS0 ?_
            · (try dsimp only at hu); go_simp
            (try simp only [Act.put, List.setIfInBounds_toArray, List.set_cons_zero, List.set_cons_succ])
            refine G_take (i := 8) (oi := { dst := some 30, op := Op.fieldAddr 26 (Operand.tmp 3) 3, type := 0, pos := _, after := #[], guard := none }) (v := .pointer (some ⟨Bb, 3, none⟩)) rfl (by kernel_rfl) (by kernel_rfl) (by kernel_rfl) (by kernel_rfl) (fun _ _ _ h => h) (by rfl) (fun u hu => ?_) hS0 ?_
            · (try dsimp only at hu); go_simp
            (try simp only [Act.put, List.setIfInBounds_toArray, List.set_cons_zero, List.set_cons_succ])
            refine G_take (i := 9) (oi := { dst := some 31, op := Op.load 24 (Operand.tmp 30), type := 24, pos := _, after := #[{ on := 8, ground := Ground.data }], guard := none }) (v := .slice (some ⟨qb, qo, none⟩) B.O B.oc) rfl (by kernel_rfl) (by kernel_rfl) (by kernel_rfl) (by kernel_rfl) (fun _ _ _ h => h) (by rfl) (fun u hu => ?_) hS0 ?_
            · (try dsimp only at hu); go_simp
            (try simp only [Act.put, List.setIfInBounds_toArray, List.set_cons_zero, List.set_cons_succ])
            refine G_take (i := 10) (oi := { dst := some 32, op := Op.move (Operand.tmp 1), type := 22, pos := _, after := #[], guard := none }) (v := .slice (some ⟨kb, ko, none⟩) m mc) rfl (by kernel_rfl) (by kernel_rfl) (by kernel_rfl) (by kernel_rfl) (fun _ _ _ h => h) (by rfl) (fun u hu => ?_) hS0 ?_
            · (try dsimp only at hu); go_simp
            (try simp only [Act.put, List.setIfInBounds_toArray, List.set_cons_zero, List.set_cons_succ])
            refine G_take (i := 11) (oi := { dst := some 33, op := Op.move (Operand.tmp 9), type := 3, pos := _, after := #[], guard := none }) (v := .int .i64 (j : Nat)) rfl (by kernel_rfl) (by kernel_rfl) (by kernel_rfl) (by kernel_rfl) (fun _ _ _ h => h) (by rfl) (fun u hu => ?_) hS0 ?_
            · (try dsimp only at hu); go_simp
            (try simp only [Act.put, List.setIfInBounds_toArray, List.set_cons_zero, List.set_cons_succ])
            refine G_take (i := 12) (oi := { dst := some 34, op := Op.indexAddr 22 (Operand.tmp 32) (Operand.tmp 33), type := 0, pos := _, after := #[{ on := 10, ground := Ground.data }, { on := 11, ground := Ground.data }], guard := none }) (v := .pointer (some ⟨kb, ko + j, none⟩)) rfl (by kernel_rfl) (by kernel_rfl) (by kernel_rfl) (by kernel_rfl) (fun _ _ _ h => h) (by rfl) (fun u hu => ?_) hS0 ?_
            · (try dsimp only at hu); go_simp
            (try simp only [Act.put, List.setIfInBounds_toArray, List.set_cons_zero, List.set_cons_succ])
            refine G_take (i := 13) (oi := { dst := some 35, op := Op.load 3 (Operand.tmp 34), type := 3, pos := _, after := #[{ on := 12, ground := Ground.data }], guard := none }) (v := .int .i64 (py : Nat)) rfl (by kernel_rfl) (by kernel_rfl) (by kernel_rfl) (by kernel_rfl) (fun _ _ _ h => h) (by rfl) (fun u hu => ?_) hS0 ?_
            · (try dsimp only at hu); go_simp
            (try simp only [Act.put, List.setIfInBounds_toArray, List.set_cons_zero, List.set_cons_succ])
            refine G_take (i := 14) (oi := { dst := some 36, op := Op.indexAddr 24 (Operand.tmp 31) (Operand.tmp 35), type := 0, pos := _, after := #[{ on := 9, ground := Ground.data }, { on := 13, ground := Ground.data }], guard := none }) (v := .pointer (some ⟨qb, qo + py, none⟩)) rfl (by kernel_rfl) (by kernel_rfl) (by kernel_rfl) (by kernel_rfl) (fun _ _ _ h => h) (by rfl) (fun u hu => ?_) hS0 ?_
            · (try dsimp only at hu); go_simp
            (try simp only [Act.put, List.setIfInBounds_toArray, List.set_cons_zero, List.set_cons_succ])
            refine G_take (i := 15) (oi := { dst := some 37, op := Op.load 51 (Operand.tmp 36), type := 51, pos := _, after := #[{ on := 14, ground := Ground.data }], guard := none }) (v := .int .u64 (bn : Nat)) rfl (by kernel_rfl) (by kernel_rfl) (by kernel_rfl) (by kernel_rfl) (fun _ _ _ h => h) (by rfl) (fun u hu => ?_) hS0 ?_
            · (try dsimp only at hu); go_simp
            (try simp only [Act.put, List.setIfInBounds_toArray, List.set_cons_zero, List.set_cons_succ])
            refine G_take (i := 16) (oi := { dst := some 38, op := Op.binOp BinOp.and 51 (Operand.tmp 29) (Operand.tmp 37) 51, type := 51, pos := _, after := #[{ on := 7, ground := Ground.data }, { on := 15, ground := Ground.data }], guard := none }) (v := .int .u64 ((am &&& bn : Nat) : Int)) rfl (by kernel_rfl) (by kernel_rfl) (by kernel_rfl) (by kernel_rfl) (fun _ _ _ h => h) (by rfl) (fun u hu => ?_) hS0 ?_
            · (try dsimp only at hu); go_simp; rw [E1.out]
            (try simp only [Act.put, List.setIfInBounds_toArray, List.set_cons_zero, List.set_cons_succ])
            refine G_take (i := 17) (oi := { dst := some 39, op := Op.binOp BinOp.eql 51 (Operand.tmp 38) (Operand.const (Value.int IntKind.u64 0)) 51, type := 4, pos := _, after := #[{ on := 16, ground := Ground.data }], guard := none }) (v := .bool false) rfl (by kernel_rfl) (by kernel_rfl) (by kernel_rfl) (by kernel_rfl) (fun _ _ _ h => h) (by rfl) (fun u hu => ?_) hS0 ?_
            · (try dsimp only at hu); go_simp
            (try simp only [Act.put, List.setIfInBounds_toArray, List.set_cons_zero, List.set_cons_succ])
            refine G_take (i := 18) (oi := { dst := some 40, op := Op.move (Operand.tmp 39), type := 4, pos := _, after := #[{ on := 17, ground := Ground.data }], guard := none }) (v := .bool false) rfl (by kernel_rfl) (by kernel_rfl) (by kernel_rfl) (by kernel_rfl) (fun _ _ _ h => h) (by rfl) (fun u hu => ?_) hS0 ?_
            · (try dsimp only at hu); go_simp
            (try simp only [Act.put, List.setIfInBounds_toArray, List.set_cons_zero, List.set_cons_succ])
            refine G_skip (i := 19) (oi := { dst := some 41, op := Op.fieldAddr 26 (Operand.tmp 2) 3, type := 0, pos := _, after := #[{ on := 18, ground := Ground.guard }], guard := some (18, true) }) rfl (by kernel_rfl) (by kernel_rfl) (by kernel_rfl) (by kernel_rfl) (fun _ _ _ h => h) (by rfl) hS0 ?_
            (try simp only [Act.put, List.setIfInBounds_toArray, List.set_cons_zero, List.set_cons_succ])
            refine G_skip (i := 20) (oi := { dst := some 42, op := Op.load 24 (Operand.tmp 41), type := 24, pos := _, after := #[{ on := 19, ground := Ground.data }, { on := 18, ground := Ground.guard }], guard := some (18, true) }) rfl (by kernel_rfl) (by kernel_rfl) (by kernel_rfl) (by kernel_rfl) (fun _ _ _ h => h) (by rfl) hS0 ?_
            (try simp only [Act.put, List.setIfInBounds_toArray, List.set_cons_zero, List.set_cons_succ])
            refine G_skip (i := 21) (oi := { dst := some 43, op := Op.move (Operand.tmp 0), type := 22, pos := _, after := #[{ on := 18, ground := Ground.guard }], guard := some (18, true) }) rfl (by kernel_rfl) (by kernel_rfl) (by kernel_rfl) (by kernel_rfl) (fun _ _ _ h => h) (by rfl) hS0 ?_
            (try simp only [Act.put, List.setIfInBounds_toArray, List.set_cons_zero, List.set_cons_succ])
            refine G_skip (i := 22) (oi := { dst := some 44, op := Op.move (Operand.tmp 8), type := 3, pos := _, after := #[{ on := 18, ground := Ground.guard }], guard := some (18, true) }) rfl (by kernel_rfl) (by kernel_rfl) (by kernel_rfl) (by kernel_rfl) (fun _ _ _ h => h) (by rfl) hS0 ?_
            (try simp only [Act.put, List.setIfInBounds_toArray, List.set_cons_zero, List.set_cons_succ])
            refine G_skip (i := 23) (oi := { dst := some 45, op := Op.indexAddr 22 (Operand.tmp 43) (Operand.tmp 44), type := 0, pos := _, after := #[{ on := 21, ground := Ground.data }, { on := 22, ground := Ground.data }, { on := 18, ground := Ground.guard }], guard := some (18, true) }) rfl (by kernel_rfl) (by kernel_rfl) (by kernel_rfl) (by kernel_rfl) (fun _ _ _ h => h) (by rfl) hS0 ?_
            (try simp only [Act.put, List.setIfInBounds_toArray, List.set_cons_zero, List.set_cons_succ])
            refine G_skip (i := 24) (oi := { dst := some 46, op := Op.load 3 (Operand.tmp 45), type := 3, pos := _, after := #[{ on := 23, ground := Ground.data }, { on := 18, ground := Ground.guard }], guard := some (18, true) }) rfl (by kernel_rfl) (by kernel_rfl) (by kernel_rfl) (by kernel_rfl) (fun _ _ _ h => h) (by rfl) hS0 ?_
            (try simp only [Act.put, List.setIfInBounds_toArray, List.set_cons_zero, List.set_cons_succ])
            refine G_skip (i := 25) (oi := { dst := some 47, op := Op.indexAddr 24 (Operand.tmp 42) (Operand.tmp 46), type := 0, pos := _, after := #[{ on := 20, ground := Ground.data }, { on := 24, ground := Ground.data }, { on := 18, ground := Ground.guard }], guard := some (18, true) }) rfl (by kernel_rfl) (by kernel_rfl) (by kernel_rfl) (by kernel_rfl) (fun _ _ _ h => h) (by rfl) hS0 ?_
            (try simp only [Act.put, List.setIfInBounds_toArray, List.set_cons_zero, List.set_cons_succ])
            refine G_skip (i := 26) (oi := { dst := some 48, op := Op.load 51 (Operand.tmp 47), type := 51, pos := _, after := #[{ on := 25, ground := Ground.data }, { on := 18, ground := Ground.guard }], guard := some (18, true) }) rfl (by kernel_rfl) (by kernel_rfl) (by kernel_rfl) (by kernel_rfl) (fun _ _ _ h => h) (by rfl) hS0 ?_
            (try simp only [Act.put, List.setIfInBounds_toArray, List.set_cons_zero, List.set_cons_succ])
            refine G_skip (i := 27) (oi := { dst := some 49, op := Op.fieldAddr 26 (Operand.tmp 3) 2, type := 0, pos := _, after := #[{ on := 18, ground := Ground.guard }], guard := some (18, true) }) rfl (by kernel_rfl) (by kernel_rfl) (by kernel_rfl) (by kernel_rfl) (fun _ _ _ h => h) (by rfl) hS0 ?_
            (try simp only [Act.put, List.setIfInBounds_toArray, List.set_cons_zero, List.set_cons_succ])
            refine G_skip (i := 28) (oi := { dst := some 50, op := Op.load 24 (Operand.tmp 49), type := 24, pos := _, after := #[{ on := 27, ground := Ground.data }, { on := 18, ground := Ground.guard }], guard := some (18, true) }) rfl (by kernel_rfl) (by kernel_rfl) (by kernel_rfl) (by kernel_rfl) (fun _ _ _ h => h) (by rfl) hS0 ?_
            (try simp only [Act.put, List.setIfInBounds_toArray, List.set_cons_zero, List.set_cons_succ])
            refine G_skip (i := 29) (oi := { dst := some 51, op := Op.move (Operand.tmp 1), type := 22, pos := _, after := #[{ on := 18, ground := Ground.guard }], guard := some (18, true) }) rfl (by kernel_rfl) (by kernel_rfl) (by kernel_rfl) (by kernel_rfl) (fun _ _ _ h => h) (by rfl) hS0 ?_
            (try simp only [Act.put, List.setIfInBounds_toArray, List.set_cons_zero, List.set_cons_succ])
            refine G_skip (i := 30) (oi := { dst := some 52, op := Op.move (Operand.tmp 9), type := 3, pos := _, after := #[{ on := 18, ground := Ground.guard }], guard := some (18, true) }) rfl (by kernel_rfl) (by kernel_rfl) (by kernel_rfl) (by kernel_rfl) (fun _ _ _ h => h) (by rfl) hS0 ?_
            (try simp only [Act.put, List.setIfInBounds_toArray, List.set_cons_zero, List.set_cons_succ])
            refine G_skip (i := 31) (oi := { dst := some 53, op := Op.indexAddr 22 (Operand.tmp 51) (Operand.tmp 52), type := 0, pos := _, after := #[{ on := 29, ground := Ground.data }, { on := 30, ground := Ground.data }, { on := 18, ground := Ground.guard }], guard := some (18, true) }) rfl (by kernel_rfl) (by kernel_rfl) (by kernel_rfl) (by kernel_rfl) (fun _ _ _ h => h) (by rfl) hS0 ?_
            (try simp only [Act.put, List.setIfInBounds_toArray, List.set_cons_zero, List.set_cons_succ])
            refine G_skip (i := 32) (oi := { dst := some 54, op := Op.load 3 (Operand.tmp 53), type := 3, pos := _, after := #[{ on := 31, ground := Ground.data }, { on := 18, ground := Ground.guard }], guard := some (18, true) }) rfl (by kernel_rfl) (by kernel_rfl) (by kernel_rfl) (by kernel_rfl) (fun _ _ _ h => h) (by rfl) hS0 ?_
            (try simp only [Act.put, List.setIfInBounds_toArray, List.set_cons_zero, List.set_cons_succ])
            refine G_skip (i := 33) (oi := { dst := some 55, op := Op.indexAddr 24 (Operand.tmp 50) (Operand.tmp 54), type := 0, pos := _, after := #[{ on := 28, ground := Ground.data }, { on := 32, ground := Ground.data }, { on := 18, ground := Ground.guard }], guard := some (18, true) }) rfl (by kernel_rfl) (by kernel_rfl) (by kernel_rfl) (by kernel_rfl) (fun _ _ _ h => h) (by rfl) hS0 ?_
            (try simp only [Act.put, List.setIfInBounds_toArray, List.set_cons_zero, List.set_cons_succ])
            refine G_skip (i := 34) (oi := { dst := some 56, op := Op.load 51 (Operand.tmp 55), type := 51, pos := _, after := #[{ on := 33, ground := Ground.data }, { on := 18, ground := Ground.guard }], guard := some (18, true) }) rfl (by kernel_rfl) (by kernel_rfl) (by kernel_rfl) (by kernel_rfl) (fun _ _ _ h => h) (by rfl) hS0 ?_
            (try simp only [Act.put, List.setIfInBounds_toArray, List.set_cons_zero, List.set_cons_succ])
            refine G_skip (i := 35) (oi := { dst := some 57, op := Op.binOp BinOp.and 51 (Operand.tmp 48) (Operand.tmp 56) 51, type := 51, pos := _, after := #[{ on := 26, ground := Ground.data }, { on := 34, ground := Ground.data }, { on := 18, ground := Ground.guard }], guard := some (18, true) }) rfl (by kernel_rfl) (by kernel_rfl) (by kernel_rfl) (by kernel_rfl) (fun _ _ _ h => h) (by rfl) hS0 ?_
            (try simp only [Act.put, List.setIfInBounds_toArray, List.set_cons_zero, List.set_cons_succ])
            refine G_skip (i := 36) (oi := { dst := some 58, op := Op.binOp BinOp.eql 51 (Operand.tmp 57) (Operand.const (Value.int IntKind.u64 0)) 51, type := 4, pos := _, after := #[{ on := 35, ground := Ground.data }, { on := 18, ground := Ground.guard }], guard := some (18, true) }) rfl (by kernel_rfl) (by kernel_rfl) (by kernel_rfl) (by kernel_rfl) (fun _ _ _ h => h) (by rfl) hS0 ?_
            (try simp only [Act.put, List.setIfInBounds_toArray, List.set_cons_zero, List.set_cons_succ])
            refine G_take (i := 37) (oi := { dst := some 59, op := Op.pick (Operand.tmp 40) (Operand.tmp 58) (Operand.const (Value.bool false)), type := 4, pos := _, after := #[{ on := 18, ground := Ground.data }, { on := 36, ground := Ground.data }], guard := none }) (v := .bool false) rfl (by kernel_rfl) (by kernel_rfl) (by kernel_rfl) (by kernel_rfl) (fun _ _ _ h => h) (by rfl) (fun u hu => ?_) hS0 ?_
            · (try dsimp only at hu); go_simp
            (try simp only [Act.put, List.setIfInBounds_toArray, List.set_cons_zero, List.set_cons_succ])
            refine G_done (by kernel_rfl) ?_ _
            (try dsimp only [Exit.then])
            clear hS0 b2 b3 c2 c3 zm zn zp zq zl zk
            go_wp2
            go_roundw
            case rel => exact ⟨j + 1, by omega, by go_num, hid ⟨HJ.out.1.drew, by rw [HNO.out HT.out, HVL.out]; exact owns_below HJ.out.2 (Below.refl _ _).drew⟩⟩
            case measure => simp [intOf]; omega
        · have HJE : Hid (j = m) := hid (by omega)
          go_wp2
          go_roundw
          case rel => exact ⟨i + 1, by omega, by go_num, hid ⟨HJ.out.1, by
            have h2 := HJ.out.2
            have h3 := HVL.out
            rw [HJE.out] at h2 h3
            rw [← cur_row, h3]
            exact h2⟩⟩
          case measure => simp [intOf]; omega
    · have hin : i = n := by omega
      go_wp2
      go_ret
      refine ⟨_, rfl, hid ⟨H.out.1, ?_⟩⟩
      rw [← hin, ← cur_at]
      exact H.out.2

end Go.Proofs.YtdncjikmknkkpaaDoor

