/- LassoLeast: walked. -/
import Derived.Test.YtejombhfkobcbaaAlk
import Derived.Test.YtejombhfkobcbaaLww
namespace Go.Proofs.Ytejombhfkobcbaa
open Go.RowKit

theorem lea_same {f g : Nat → Int} {st lp st' lp' : Nat} (h : Lea f st lp) (k : Lea g st' lp') : (sameU st st' f g && sameU lp lp' (fun i => f (st + i)) (fun i => g (st' + i))) = true ↔ ∀ i, f i = g i := by
  rw [Bool.and_eq_true, sameU_iff, sameU_iff]
  constructor
  · rintro ⟨⟨rfl, h1⟩, ⟨rfl, h2⟩⟩ i
    have e1 := ltr_again h.pos h.per (S := f) (L := fun i => f (st + i)) (fun _ _ => rfl) (fun _ _ => rfl)
    have e2 := ltr_again k.pos k.per (S := f) (L := fun i => f (st + i)) (fun i hi => h1 i hi) (fun i hi => h2 i hi)
    rw [← e1.symm.trans e2]
  · intro he
    obtain rfl : f = g := funext he
    obtain ⟨rfl, rfl⟩ := h.uniq k
    exact ⟨⟨rfl, fun _ _ => rfl⟩, rfl, fun _ _ => rfl⟩

set_option maxHeartbeats 4000000 in
theorem lassoLeast_bad {w : World} {sa : Option Addr} {s sc : Nat} {la : Option Addr} {m lc : Nat} {S L : Nat → Int} {sb : Option Addr} {t tc : Nat} {lb : Option Addr} {n nc : Nat} {T K : Nat → Int} (hw : Wd w sa s la m S L) (hw2 : Wd w sb t lb n T K) (hq : wchk s m ≠ 0) :
    Calls Try.prog 3 #[.agg #[.slice sa s sc, .slice la m lc], .agg #[.slice sb t tc, .slice lb n nc]] w fun e w' => e = .returned (.bool true) ∧ Below w.heap.size w w' := by
  obtain ⟨u, hu⟩ : ∃ y, y = (w.alloc (.cells #[.slice sa s sc, .slice la m lc] 24)).alloc (.cells #[.slice sb t tc, .slice lb n nc] 24) := ⟨_, rfl⟩
  have hB : Below w.heap.size w u := by rw [hu]; exact below_alloc2 _ _ _
  have e1' : (w.alloc (.cells #[.slice sa s sc, .slice la m lc] 24)).heap.size = w.heap.size + 1 := by simp
  have x1 : u.heap[w.heap.size]? = some (.cells #[.slice sa s sc, .slice la m lc] 24) := by rw [hu]; exact alloc_old _ (alloc_last _ rfl)
  have x2 : u.heap[w.heap.size + 1]? = some (.cells #[.slice sb t tc, .slice lb n nc] 24) := by rw [hu]; exact alloc_last _ e1'
  have HX : Hid (∀ z, Below u.heap.size u z → (z.cell? ⟨w.heap.size, 0, none⟩ = some (.slice sa s sc) ∧ z.cell? ⟨w.heap.size, 1, none⟩ = some (.slice la m lc) ∧ z.cell? ⟨w.heap.size + 1, 0, none⟩ = some (.slice sb t tc) ∧ z.cell? ⟨w.heap.size + 1, 1, none⟩ = some (.slice lb n nc)) ∧ Below w.heap.size w z) := fun z hz => ⟨⟨below_cell hz (Nat.le_refl _) (cell_of_cells x1 rfl), below_cell hz (Nat.le_refl _) (cell_of_cells x1 rfl), below_cell hz (Nat.le_refl _) (cell_of_cells x2 rfl), below_cell hz (Nat.le_refl _) (cell_of_cells x2 rfl)⟩, hB.trans (hz.mono hB.size)⟩
  have C4a : Hid (∀ y, Calls Try.prog 4 #[.agg #[.slice sa s sc, .slice la m lc]] y fun e w' => e = .returned (.int .i64 (wchk s m)) ∧ Below y.heap.size y w') := fun y => wordRef_any sa s sc la m lc y hw.s47 hw.m47
  have C4b : Hid (∀ y, Calls Try.prog 4 #[.agg #[.slice sb t tc, .slice lb n nc]] y fun e w' => e = .returned (.int .i64 (wchk t n)) ∧ Below y.heap.size y w') := fun y => wordRef_any sb t tc lb n nc y hw2.s47 hw2.m47
  have HU := hid hu
  have C5 : Hid (∀ y, Calls Try.prog 5 #[.agg #[.slice sa s sc, .slice la m lc]] y fun e w' => e = .returned (.tuple #[.agg #[.slice none 0 0, .slice none 0 0], .int .i64 (wchk s m)]) ∧ Below y.heap.size y w') := fun y => leastF_bad hw.s47 hw.m47 hq
  have C6 : Hid (∀ y, Calls Try.prog 6 #[.agg #[.slice sa s sc, .slice la m lc], .agg #[.slice sb t tc, .slice lb n nc]] y fun e w' => e = .returned (.tuple #[.bool false, .int .i64 (wchk s m)]) ∧ Below y.heap.size y w') := fun y => sameF_bad1 hw.s47 hw.m47 hq
  have C7 : Hid (∀ y, Calls Try.prog 7 #[.agg #[.slice none 0 0, .slice none 0 0], .agg #[.slice none 0 0, .slice none 0 0]] y fun e w' => e = .returned (.bool true) ∧ Below y.heap.size y w') := fun y => by
    have h0 : RowU y none 0 (fun _ => 0) := ⟨0, 0, fun h => absurd h (Nat.lt_irrefl 0), fun i hi => by omega⟩
    refine (sameWord_any (S := fun _ => 0) (L := fun _ => 0) (S' := fun _ => 0) (L' := fun _ => 0) (by omega) (by omega) h0 h0 h0 h0).mono ?_
    rintro e w' ⟨rfl, hb⟩
    exact ⟨ret_bool (by rw [sameU_yes rfl (fun _ _ => rfl)]; rfl), hb⟩
  have hqb : (wchk s m != 0) = true := by simpa using hq
  generalize wchk s m = e1 at *
  generalize wchk t n = e2 at *
  clear hu hB e1' x1 x2 hw hw2
  go_enter Try.func3, Try.ntmps3
  go_wp2_with fail
  rw [← HU.out]
  have hB0 : Below u.heap.size u u.drew := below_drewN (Below.refl _ _) 1
  refine G_region (fun y => y.cell? ⟨w.heap.size, 0, none⟩ = some (.slice sa s sc) ∧ y.cell? ⟨w.heap.size, 1, none⟩ = some (.slice la m lc) ∧ y.cell? ⟨w.heap.size + 1, 0, none⟩ = some (.slice sb t tc) ∧ y.cell? ⟨w.heap.size + 1, 1, none⟩ = some (.slice lb n nc)) (fun _ => false) (by kernel_rfl) (HX.out _ hB0).1 (fun _ => ?_)
  refine G_take (i := 0) (oi := { dst := some 11, op := Op.load 24 (Operand.tmp 2), type := 24, pos := _, after := #[], guard := none }) (v := .agg #[.slice sa s sc, .slice la m lc]) rfl (by kernel_rfl) (by kernel_rfl) (by kernel_rfl) (by kernel_rfl) (fun _ _ _ h => h) (by rfl) (fun u hu => ?_) (HX.out _ hB0).1 ?_
  · (try dsimp only at hu); go_simp
  (try simp only [Act.put, List.setIfInBounds_toArray, List.set_cons_zero, List.set_cons_succ])
  refine G_take (i := 2) (oi := { dst := some 13, op := Op.load 24 (Operand.tmp 3), type := 24, pos := _, after := #[], guard := none }) (v := .agg #[.slice sb t tc, .slice lb n nc]) rfl (by kernel_rfl) (by kernel_rfl) (by kernel_rfl) (by kernel_rfl) (fun _ _ _ h => h) (by rfl) (fun u hu => ?_) (HX.out _ hB0).1 ?_
  · (try dsimp only at hu); go_simp
  (try simp only [Act.put, List.setIfInBounds_toArray, List.set_cons_zero, List.set_cons_succ])
  obtain ⟨y0, hy0⟩ : ∃ q, q = u.drew := ⟨_, rfl⟩
  rw [← hy0] at hB0 ⊢
  clear hy0
  refine G_step (i := 1) (o := { dst := some 12, op := Op.call { callee := Callee.value (Operand.func 4), args := #[Operand.tmp 11], argTypes := #[24] }, type := 25, pos := _, after := #[{ on := 0, ground := Ground.data }], guard := none }) (by kernel_rfl) rfl (fun K' hK => ?_)
  go_simp
  go_at_call 4
  refine (C4a.out y0).mono ?_
  rintro e y1 ⟨rfl, hb⟩
  dsimp only
  have hB1 := hB0.trans (hb.mono hB0.size)
  clear hb hB0
  refine hK.out _ _ (fun _ => (HX.out _ hB1).1) (fun _ => ?_)
  clear hK K'
  (try simp only [Act.put, List.setIfInBounds_toArray, List.set_cons_zero, List.set_cons_succ])
  refine G_step (i := 3) (o := { dst := some 14, op := Op.call { callee := Callee.value (Operand.func 4), args := #[Operand.tmp 13], argTypes := #[24] }, type := 25, pos := _, after := #[{ on := 2, ground := Ground.data }, { on := 1, ground := Ground.chain }], guard := none }) (by kernel_rfl) rfl (fun K' hK => ?_)
  go_simp
  go_at_call 4
  refine (C4b.out y1).mono ?_
  rintro e y2 ⟨rfl, hb⟩
  dsimp only
  have hB2 := hB1.trans (hb.mono hB1.size)
  clear hb hB1
  refine hK.out _ _ (fun _ => (HX.out _ hB2).1) (fun _ => ?_)
  clear hK K'
  (try simp only [Act.put, List.setIfInBounds_toArray, List.set_cons_zero, List.set_cons_succ])
  refine G_take (i := 4) (oi := { dst := some 5, op := Op.assign (Operand.tmp 12), type := 25, pos := _, after := #[{ on := 1, ground := Ground.data }, { on := 3, ground := Ground.chain }, { on := 0, ground := Ground.phase }, { on := 1, ground := Ground.phase }, { on := 2, ground := Ground.textOnly Departure.lateStores }, { on := 3, ground := Ground.textOnly Departure.lateStoresUnsure }], guard := none }) (v := .int .i64 e1) rfl (by kernel_rfl) (by kernel_rfl) (by kernel_rfl) (by kernel_rfl) (fun _ _ _ h => h) (by rfl) (fun u hu => ?_) (HX.out _ hB2).1 ?_
  · (try dsimp only at hu); go_simp
  (try simp only [Act.put, List.setIfInBounds_toArray, List.set_cons_zero, List.set_cons_succ])
  refine G_take (i := 5) (oi := { dst := some 6, op := Op.assign (Operand.tmp 14), type := 25, pos := _, after := #[{ on := 3, ground := Ground.data }, { on := 4, ground := Ground.chain }, { on := 0, ground := Ground.phase }, { on := 1, ground := Ground.phase }, { on := 2, ground := Ground.phase }, { on := 3, ground := Ground.phase }, { on := 4, ground := Ground.phase }], guard := none }) (v := .int .i64 e2) rfl (by kernel_rfl) (by kernel_rfl) (by kernel_rfl) (by kernel_rfl) (fun _ _ _ h => h) (by rfl) (fun u hu => ?_) (HX.out _ hB2).1 ?_
  · (try dsimp only at hu); go_simp
  (try simp only [Act.put, List.setIfInBounds_toArray, List.set_cons_zero, List.set_cons_succ])
  refine G_done (by kernel_rfl) ?_ _
  obtain ⟨x0, x1, _, _⟩ := (HX.out y2 hB2).1
  clear HU C4a C4b
  go_wp2_with fail
  refine (C5.out y2).mono ?_
  rintro e y3 ⟨rfl, hb⟩
  have hB3 := hB2.trans (hb.mono hB2.size)
  clear hb hB2 x0 x1 C5
  obtain ⟨x0, x1, x2, x3⟩ := (HX.out y3 hB3).1
  have l0 : w.heap.size < y3.heap.size := World.block_lt_of_cell? _ _ x0
  have l1 : w.heap.size + 1 < y3.heap.size := World.block_lt_of_cell? _ _ x2
  have D6 := hid (C6.out (y3.alloc (.cells #[.slice none 0 0, .slice none 0 0] 24)))
  go_wp2_with fail
  refine D6.out.mono ?_
  rintro e y4 ⟨rfl, hb⟩
  have k0 : y4.cell? ⟨y3.heap.size, 0, none⟩ = some (.slice none 0 0) := below_cell hb (Nat.le_refl _) (cell_of_alloc rfl)
  have k1 : y4.cell? ⟨y3.heap.size, 1, none⟩ = some (.slice none 0 0) := below_cell hb (Nat.le_refl _) (cell_of_alloc rfl)
  have HB4 : Hid (Below u.heap.size u y4) := hid ((hB3.alloc hB3.size _).trans (hb.mono (Nat.le_trans hB3.size (box_below _ _).size)))
  have D7 := hid (C7.out y4)
  clear hb hB3 D6 x0 x1 x2 x3 l0 l1 C6 C7
  go_wp2_with fail
  refine D7.out.mono ?_
  rintro e y5 ⟨rfl, hb⟩
  have HB5 : Hid (Below w.heap.size w y5) := hid (HX.out y5 (HB4.out.trans (hb.mono HB4.out.size))).2
  clear hb D7 HB4
  go_wp2
  go_ret
  exact ⟨rfl, HB5.out⟩

set_option maxHeartbeats 4000000 in
theorem lassoLeast_ok {w : World} {sa : Option Addr} {s sc : Nat} {la : Option Addr} {m lc : Nat} {S L : Nat → Int} {sb : Option Addr} {t tc : Nat} {lb : Option Addr} {n nc : Nat} {T K : Nat → Int} (hw : Wd w sa s la m S L) (hsn : sa = none → s = 0 ∧ sc = 0) (hsc : s ≤ sc) (hlc : m ≤ lc) (h60 : s + m ≤ 60) (hm : 0 < m) (hw2 : Wd w sb t lb n T K) {bs : Bool}
    (h6 : ∀ y, Below w.heap.size w y → Calls Try.prog 6 #[.agg #[.slice sa s sc, .slice la m lc], .agg #[.slice sb t tc, .slice lb n nc]] y fun e w' => e = .returned (.tuple #[.bool bs, .int .i64 (wchk t n)]) ∧ Below y.heap.size y w')
    (h9 : (wchk t n ≠ 0 ∧ bs = false) ∨ (wchk t n = 0 ∧ ∀ y, Below w.heap.size w y → Calls Try.prog 9 #[.agg #[.slice sa s sc, .slice la m lc], .agg #[.slice sb t tc, .slice lb n nc]] y fun e w' => e = .returned (.bool bs) ∧ Below y.heap.size y w')) :
    Calls Try.prog 3 #[.agg #[.slice sa s sc, .slice la m lc], .agg #[.slice sb t tc, .slice lb n nc]] w fun e w' => e = .returned (.bool true) ∧ Below w.heap.size w w' := by
  obtain ⟨u, hu⟩ : ∃ y, y = (w.alloc (.cells #[.slice sa s sc, .slice la m lc] 24)).alloc (.cells #[.slice sb t tc, .slice lb n nc] 24) := ⟨_, rfl⟩
  have hB : Below w.heap.size w u := by rw [hu]; exact below_alloc2 _ _ _
  have e1' : (w.alloc (.cells #[.slice sa s sc, .slice la m lc] 24)).heap.size = w.heap.size + 1 := by simp
  have x1 : u.heap[w.heap.size]? = some (.cells #[.slice sa s sc, .slice la m lc] 24) := by rw [hu]; exact alloc_old _ (alloc_last _ rfl)
  have x2 : u.heap[w.heap.size + 1]? = some (.cells #[.slice sb t tc, .slice lb n nc] 24) := by rw [hu]; exact alloc_last _ e1'
  have HX : Hid (∀ z, Below u.heap.size u z → (z.cell? ⟨w.heap.size, 0, none⟩ = some (.slice sa s sc) ∧ z.cell? ⟨w.heap.size, 1, none⟩ = some (.slice la m lc) ∧ z.cell? ⟨w.heap.size + 1, 0, none⟩ = some (.slice sb t tc) ∧ z.cell? ⟨w.heap.size + 1, 1, none⟩ = some (.slice lb n nc)) ∧ Below w.heap.size w z) := fun z hz => ⟨⟨below_cell hz (Nat.le_refl _) (cell_of_cells x1 rfl), below_cell hz (Nat.le_refl _) (cell_of_cells x1 rfl), below_cell hz (Nat.le_refl _) (cell_of_cells x2 rfl), below_cell hz (Nat.le_refl _) (cell_of_cells x2 rfl)⟩, hB.trans (hz.mono hB.size)⟩
  have C4a : Hid (∀ y, Calls Try.prog 4 #[.agg #[.slice sa s sc, .slice la m lc]] y fun e w' => e = .returned (.int .i64 (wchk s m)) ∧ Below y.heap.size y w') := fun y => wordRef_any sa s sc la m lc y hw.s47 hw.m47
  have C4b : Hid (∀ y, Calls Try.prog 4 #[.agg #[.slice sb t tc, .slice lb n nc]] y fun e w' => e = .returned (.int .i64 (wchk t n)) ∧ Below y.heap.size y w') := fun y => wordRef_any sb t tc lb n nc y hw2.s47 hw2.m47
  have HU := hid hu
  have C5 : Hid (∀ y, Below u.heap.size u y → Calls Try.prog 5 #[.agg #[.slice sa s sc, .slice la m lc]] y fun e w' => ∃ st lp a c b d, Lea (ltr s m S L) st lp ∧ st ≤ s ∧ lp ≤ m ∧ e = .returned (.tuple #[.agg #[.slice a st c, .slice b lp d], .int .i64 0]) ∧ (a = none → st = 0 ∧ c = 0) ∧ (b = none → lp = 0 ∧ d = 0) ∧ st ≤ c ∧ lp ≤ d ∧ RowU w' a st (ltr s m S L) ∧ RowU w' b lp (fun i => ltr s m S L (st + i)) ∧ Below y.heap.size y w') := fun y hy => leastF_ok ((hw.below hB).below hy) hsn hsc hlc h60 hm
  have C6 : Hid (∀ y, Below u.heap.size u y → Calls Try.prog 6 #[.agg #[.slice sa s sc, .slice la m lc], .agg #[.slice sb t tc, .slice lb n nc]] y fun e w' => e = .returned (.tuple #[.bool bs, .int .i64 (wchk t n)]) ∧ Below y.heap.size y w') := fun y hy => h6 y (hB.trans (hy.mono hB.size))
  have C8u : Hid (∀ y, Below u.heap.size u y → Calls Try.prog 8 #[.agg #[.slice sa s sc, .slice la m lc]] y fun e w' => ∃ st lp, Lea (ltr s m S L) st lp ∧ st ≤ s ∧ lp ≤ m ∧ NewW y (ltr s m S L) st lp e w') := fun y hy => leastWord_any ((hw.below hB).below hy) h60 hm
  have H9 := hid h9
  rw [wchk_zero h60 hm] at C4a
  generalize hE : wchk t n = e2 at *
  generalize ltr s m S L = f at *
  clear hu hB e1' x1 x2 hw hw2 h6 h9 hE
  obtain ⟨e1, he1⟩ : ∃ q : Int, q = 0 := ⟨_, rfl⟩
  go_enter Try.func3, Try.ntmps3
  go_wp2_with fail
  rw [← HU.out]
  rw [← he1] at C4a
  have hB0 : Below u.heap.size u u.drew := below_drewN (Below.refl _ _) 1
  refine G_region (fun y => y.cell? ⟨w.heap.size, 0, none⟩ = some (.slice sa s sc) ∧ y.cell? ⟨w.heap.size, 1, none⟩ = some (.slice la m lc) ∧ y.cell? ⟨w.heap.size + 1, 0, none⟩ = some (.slice sb t tc) ∧ y.cell? ⟨w.heap.size + 1, 1, none⟩ = some (.slice lb n nc)) (fun _ => false) (by kernel_rfl) (HX.out _ hB0).1 (fun _ => ?_)
  refine G_take (i := 0) (oi := { dst := some 11, op := Op.load 24 (Operand.tmp 2), type := 24, pos := _, after := #[], guard := none }) (v := .agg #[.slice sa s sc, .slice la m lc]) rfl (by kernel_rfl) (by kernel_rfl) (by kernel_rfl) (by kernel_rfl) (fun _ _ _ h => h) (by rfl) (fun u hu => ?_) (HX.out _ hB0).1 ?_
  · (try dsimp only at hu); go_simp
  (try simp only [Act.put, List.setIfInBounds_toArray, List.set_cons_zero, List.set_cons_succ])
  refine G_take (i := 2) (oi := { dst := some 13, op := Op.load 24 (Operand.tmp 3), type := 24, pos := _, after := #[], guard := none }) (v := .agg #[.slice sb t tc, .slice lb n nc]) rfl (by kernel_rfl) (by kernel_rfl) (by kernel_rfl) (by kernel_rfl) (fun _ _ _ h => h) (by rfl) (fun u hu => ?_) (HX.out _ hB0).1 ?_
  · (try dsimp only at hu); go_simp
  (try simp only [Act.put, List.setIfInBounds_toArray, List.set_cons_zero, List.set_cons_succ])
  obtain ⟨y0, hy0⟩ : ∃ q, q = u.drew := ⟨_, rfl⟩
  rw [← hy0] at hB0 ⊢
  clear hy0
  refine G_step (i := 1) (o := { dst := some 12, op := Op.call { callee := Callee.value (Operand.func 4), args := #[Operand.tmp 11], argTypes := #[24] }, type := 25, pos := _, after := #[{ on := 0, ground := Ground.data }], guard := none }) (by kernel_rfl) rfl (fun K' hK => ?_)
  go_simp
  go_at_call 4
  refine (C4a.out y0).mono ?_
  rintro e y1 ⟨rfl, hb⟩
  dsimp only
  have hB1 := hB0.trans (hb.mono hB0.size)
  clear hb hB0
  refine hK.out _ _ (fun _ => (HX.out _ hB1).1) (fun _ => ?_)
  clear hK K'
  (try simp only [Act.put, List.setIfInBounds_toArray, List.set_cons_zero, List.set_cons_succ])
  refine G_step (i := 3) (o := { dst := some 14, op := Op.call { callee := Callee.value (Operand.func 4), args := #[Operand.tmp 13], argTypes := #[24] }, type := 25, pos := _, after := #[{ on := 2, ground := Ground.data }, { on := 1, ground := Ground.chain }], guard := none }) (by kernel_rfl) rfl (fun K' hK => ?_)
  go_simp
  go_at_call 4
  refine (C4b.out y1).mono ?_
  rintro e y2 ⟨rfl, hb⟩
  dsimp only
  have hB2 := hB1.trans (hb.mono hB1.size)
  clear hb hB1
  refine hK.out _ _ (fun _ => (HX.out _ hB2).1) (fun _ => ?_)
  clear hK K'
  (try simp only [Act.put, List.setIfInBounds_toArray, List.set_cons_zero, List.set_cons_succ])
  refine G_take (i := 4) (oi := { dst := some 5, op := Op.assign (Operand.tmp 12), type := 25, pos := _, after := #[{ on := 1, ground := Ground.data }, { on := 3, ground := Ground.chain }, { on := 0, ground := Ground.phase }, { on := 1, ground := Ground.phase }, { on := 2, ground := Ground.textOnly Departure.lateStores }, { on := 3, ground := Ground.textOnly Departure.lateStoresUnsure }], guard := none }) (v := .int .i64 e1) rfl (by kernel_rfl) (by kernel_rfl) (by kernel_rfl) (by kernel_rfl) (fun _ _ _ h => h) (by rfl) (fun u hu => ?_) (HX.out _ hB2).1 ?_
  · (try dsimp only at hu); go_simp
  (try simp only [Act.put, List.setIfInBounds_toArray, List.set_cons_zero, List.set_cons_succ])
  refine G_take (i := 5) (oi := { dst := some 6, op := Op.assign (Operand.tmp 14), type := 25, pos := _, after := #[{ on := 3, ground := Ground.data }, { on := 4, ground := Ground.chain }, { on := 0, ground := Ground.phase }, { on := 1, ground := Ground.phase }, { on := 2, ground := Ground.phase }, { on := 3, ground := Ground.phase }, { on := 4, ground := Ground.phase }], guard := none }) (v := .int .i64 e2) rfl (by kernel_rfl) (by kernel_rfl) (by kernel_rfl) (by kernel_rfl) (fun _ _ _ h => h) (by rfl) (fun u hu => ?_) (HX.out _ hB2).1 ?_
  · (try dsimp only at hu); go_simp
  (try simp only [Act.put, List.setIfInBounds_toArray, List.set_cons_zero, List.set_cons_succ])
  refine G_done (by kernel_rfl) ?_ _
  subst he1
  obtain ⟨x0, x1, _, _⟩ := (HX.out y2 hB2).1
  have D5 := hid (C5.out y2 hB2)
  clear HU C4a C4b C5
  go_wp2_with fail
  refine D5.out.mono ?_
  rintro e y3 ⟨st, lp, a7, c7, d7, c8, hle, hst, hlp, rfl, _, _, _, _, r1, r2, hb⟩
  have hB3 := hB2.trans (hb.mono hB2.size)
  have HLE := hid hle
  have HR := hid (And.intro r1 r2)
  have hst60 : st ≤ 1000 := by omega
  have hlp60 : lp ≤ 1000 := by omega
  clear hb hB2 x0 x1 D5 r1 r2 hle hst hlp
  obtain ⟨x0, x1, x2, x3⟩ := (HX.out y3 hB3).1
  have l0 : w.heap.size < y3.heap.size := World.block_lt_of_cell? _ _ x0
  have l1 : w.heap.size + 1 < y3.heap.size := World.block_lt_of_cell? _ _ x2
  have hBa : Below u.heap.size u (y3.alloc (.cells #[.slice a7 st c7, .slice d7 lp c8] 24)) := hB3.alloc hB3.size _
  have D6 := hid (C6.out _ hBa)
  have HBa := hid hBa
  clear hBa
  go_wp2_with fail
  refine D6.out.mono ?_
  rintro e z ⟨rfl, hb⟩
  have k0 : z.cell? ⟨y3.heap.size, 0, none⟩ = some (.slice a7 st c7) := below_cell hb (Nat.le_refl _) (cell_of_alloc rfl)
  have k1 : z.cell? ⟨y3.heap.size, 1, none⟩ = some (.slice d7 lp c8) := below_cell hb (Nat.le_refl _) (cell_of_alloc rfl)
  have HBz : Hid (Below u.heap.size u z) := hid (HBa.out.trans (hb.mono HBa.out.size))
  have HRz : Hid (RowU z a7 st f ∧ RowU z d7 lp (fun i => f (st + i))) := hid ⟨(HR.out.1.below (box_below _ _)).below hb, (HR.out.2.below (box_below _ _)).below hb⟩
  obtain ⟨b7, hb7⟩ : ∃ q, q = y3.heap.size := ⟨_, rfl⟩
  rw [← hb7] at k0 k1 ⊢
  have HS : Hid (∀ y, Below z.heap.size z y → y.cell? ⟨b7, 0, none⟩ = some (.slice a7 st c7) ∧ y.cell? ⟨b7, 1, none⟩ = some (.slice d7 lp c8) ∧ y.cell? ⟨w.heap.size, 0, none⟩ = some (.slice sa s sc) ∧ y.cell? ⟨w.heap.size, 1, none⟩ = some (.slice la m lc)) := fun y hy => ⟨below_cell hy (Nat.le_refl _) k0, below_cell hy (Nat.le_refl _) k1, (HX.out y (HBz.out.trans (hy.mono HBz.out.size))).1.1, (HX.out y (HBz.out.trans (hy.mono HBz.out.size))).1.2.1⟩
  have C8 : Hid (∀ y, Below z.heap.size z y → Calls Try.prog 8 #[.agg #[.slice sa s sc, .slice la m lc]] y fun e w' => ∃ st lp, Lea f st lp ∧ st ≤ s ∧ lp ≤ m ∧ NewW y f st lp e w') := fun y hy => C8u.out y (HBz.out.trans (hy.mono HBz.out.size))
  have C7 : Hid (∀ (y : World) (a9 : Option Addr) (c9 : Nat) (d9 : Option Addr) (c10 : Nat), Below z.heap.size z y → RowU y a9 st f → RowU y d9 lp (fun i => f (st + i)) → Calls Try.prog 7 #[.agg #[.slice a7 st c7, .slice d7 lp c8], .agg #[.slice a9 st c9, .slice d9 lp c10]] y fun e w' => e = .returned (.bool true) ∧ Below y.heap.size y w') := fun y a9 c9 d9 c10 hy q1 q2 => by
    refine (sameWord_any hst60 hlp60 (HRz.out.1.below hy) q1 (HRz.out.2.below hy) q2).mono ?_
    rintro e w' ⟨rfl, hb⟩
    exact ⟨ret_bool (by rw [sameU_yes rfl (fun _ _ => rfl), sameU_yes rfl (fun _ _ => rfl)]; rfl), hb⟩
  clear hb D6 x0 x1 x2 x3 l0 l1 C6 C8u hb7 HBa HR k0 k1 hB3
  go_wp2_with fail
  have hB0 : Below z.heap.size z z.drew := below_drewN (Below.refl _ _) 1
  refine G_region (fun y => y.cell? ⟨b7, 0, none⟩ = some (.slice a7 st c7) ∧ y.cell? ⟨b7, 1, none⟩ = some (.slice d7 lp c8) ∧ y.cell? ⟨w.heap.size, 0, none⟩ = some (.slice sa s sc) ∧ y.cell? ⟨w.heap.size, 1, none⟩ = some (.slice la m lc)) (fun _ => false) (by kernel_rfl) (HS.out _ hB0) (fun _ => ?_)
  refine G_take (i := 0) (oi := { dst := some 45, op := Op.move (Operand.tmp 8), type := 25, pos := _, after := #[], guard := none }) (v := .int .i64 0) rfl (by kernel_rfl) (by kernel_rfl) (by kernel_rfl) (by kernel_rfl) (fun _ _ _ h => h) (by rfl) (fun u hu => ?_) (HS.out _ hB0) ?_
  · (try dsimp only at hu); go_simp
  (try simp only [Act.put, List.setIfInBounds_toArray, List.set_cons_zero, List.set_cons_succ])
  refine G_take (i := 1) (oi := { dst := some 46, op := Op.binOp BinOp.neq 25 (Operand.tmp 45) (Operand.const (Value.int IntKind.i64 0)) 25, type := 4, pos := _, after := #[{ on := 0, ground := Ground.data }], guard := none }) (v := .bool false) rfl (by kernel_rfl) (by kernel_rfl) (by kernel_rfl) (by kernel_rfl) (fun _ _ _ h => h) (by rfl) (fun u hu => ?_) (HS.out _ hB0) ?_
  · (try dsimp only at hu); go_simp
  (try simp only [Act.put, List.setIfInBounds_toArray, List.set_cons_zero, List.set_cons_succ])
  refine G_take (i := 2) (oi := { dst := some 47, op := Op.move (Operand.tmp 46), type := 4, pos := _, after := #[{ on := 1, ground := Ground.data }], guard := none }) (v := .bool false) rfl (by kernel_rfl) (by kernel_rfl) (by kernel_rfl) (by kernel_rfl) (fun _ _ _ h => h) (by rfl) (fun u hu => ?_) (HS.out _ hB0) ?_
  · (try dsimp only at hu); go_simp
  (try simp only [Act.put, List.setIfInBounds_toArray, List.set_cons_zero, List.set_cons_succ])
  refine G_take (i := 3) (oi := { dst := some 48, op := Op.load 24 (Operand.tmp 7), type := 24, pos := _, after := #[{ on := 2, ground := Ground.guard }], guard := some (2, false) }) (v := .agg #[.slice a7 st c7, .slice d7 lp c8]) rfl (by kernel_rfl) (by kernel_rfl) (by kernel_rfl) (by kernel_rfl) (fun _ _ _ h => h) (by rfl) (fun u hu => ?_) (HS.out _ hB0) ?_
  · (try dsimp only at hu); go_simp
  (try simp only [Act.put, List.setIfInBounds_toArray, List.set_cons_zero, List.set_cons_succ])
  refine G_take (i := 4) (oi := { dst := some 49, op := Op.load 24 (Operand.tmp 2), type := 24, pos := _, after := #[{ on := 2, ground := Ground.guard }], guard := some (2, false) }) (v := .agg #[.slice sa s sc, .slice la m lc]) rfl (by kernel_rfl) (by kernel_rfl) (by kernel_rfl) (by kernel_rfl) (fun _ _ _ h => h) (by rfl) (fun u hu => ?_) (HS.out _ hB0) ?_
  · (try dsimp only at hu); go_simp
  (try simp only [Act.put, List.setIfInBounds_toArray, List.set_cons_zero, List.set_cons_succ])
  obtain ⟨y0, hy0⟩ : ∃ q, q = z.drew := ⟨_, rfl⟩
  rw [← hy0] at hB0 ⊢
  clear hy0
  refine G_step (i := 5) (o := { dst := some 50, op := Op.call { callee := Callee.value (Operand.func 8), args := #[Operand.tmp 49], argTypes := #[24] }, type := 24, pos := _, after := #[{ on := 4, ground := Ground.data }, { on := 2, ground := Ground.chain }, { on := 2, ground := Ground.guard }], guard := some (2, false) }) (by kernel_rfl) rfl (fun K' hK => ?_)
  go_simp
  go_at_call 8
  refine (C8.out y0 hB0).mono ?_
  rintro e y1 ⟨st', lp', hle', hst', hlp', a9, c9, d9, c10, rfl, _, _, _, _, r1, r2, hb⟩
  dsimp only
  have hB1 := hB0.trans (hb.mono hB0.size)
  clear hb hB0
  refine hK.out _ _ (fun _ => (HS.out _ hB1)) (fun _ => ?_)
  clear hK K'
  (try simp only [Act.put, List.setIfInBounds_toArray, List.set_cons_zero, List.set_cons_succ])
  obtain ⟨rfl, rfl⟩ := HLE.out.uniq hle'
  refine G_step (i := 6) (o := { dst := some 51, op := Op.call { callee := Callee.value (Operand.func 7), args := #[Operand.tmp 48, Operand.tmp 50], argTypes := #[24, 24] }, type := 4, pos := _, after := #[{ on := 3, ground := Ground.data }, { on := 5, ground := Ground.data }, { on := 5, ground := Ground.chain }, { on := 2, ground := Ground.guard }], guard := some (2, false) }) (by kernel_rfl) rfl (fun K' hK => ?_)
  go_simp
  go_at_call 7
  refine (C7.out y1 a9 c9 d9 c10 hB1 r1 r2).mono ?_
  rintro e y2 ⟨rfl, hb⟩
  dsimp only
  have hB2 := hB1.trans (hb.mono hB1.size)
  clear hb hB1 r1 r2 hle' hst' hlp'
  refine hK.out _ _ (fun _ => (HS.out _ hB2)) (fun _ => ?_)
  clear hK K'
  (try simp only [Act.put, List.setIfInBounds_toArray, List.set_cons_zero, List.set_cons_succ])
  refine G_take (i := 7) (oi := { dst := some 52, op := Op.unOp UnOp.not 4 (Operand.tmp 51), type := 4, pos := _, after := #[{ on := 6, ground := Ground.data }, { on := 2, ground := Ground.guard }], guard := some (2, false) }) (v := .bool false) rfl (by kernel_rfl) (by kernel_rfl) (by kernel_rfl) (by kernel_rfl) (fun _ _ _ h => h) (by rfl) (fun u hu => ?_) (HS.out _ hB2) ?_
  · (try dsimp only at hu); go_simp
  (try simp only [Act.put, List.setIfInBounds_toArray, List.set_cons_zero, List.set_cons_succ])
  refine G_take (i := 8) (oi := { dst := some 53, op := Op.pick (Operand.tmp 47) (Operand.const (Value.bool true)) (Operand.tmp 52), type := 4, pos := _, after := #[{ on := 2, ground := Ground.data }, { on := 7, ground := Ground.data }], guard := none }) (v := .bool false) rfl (by kernel_rfl) (by kernel_rfl) (by kernel_rfl) (by kernel_rfl) (fun _ _ _ h => h) (by rfl) (fun u hu => ?_) (HS.out _ hB2) ?_
  · (try dsimp only at hu); go_simp
  (try simp only [Act.put, List.setIfInBounds_toArray, List.set_cons_zero, List.set_cons_succ])
  refine G_done (by kernel_rfl) ?_ _
  have HBy : Hid (Below u.heap.size u y2) := HBz.out.trans (hB2.mono HBz.out.size)
  obtain ⟨x0, x1, x2, x3⟩ := (HX.out y2 HBy.out).1
  clear hB2 C8 C7 HS HRz HLE
  rcases H9.out with ⟨h1, h2⟩ | ⟨h1, h2⟩
  · have h1b : (e2 != 0) = true := by simpa using h1
    subst h2
    clear H9
    go_wp2
    go_ret
    exact ⟨rfl, (HX.out y2 HBy.out).2⟩
  · subst h1
    have D9 := hid (h2 y2 (HX.out y2 HBy.out).2)
    clear H9 h2
    go_wp2_with fail
    refine D9.out.mono ?_
    rintro e y5 ⟨rfl, hb⟩
    have HB5 : Hid (Below w.heap.size w y5) := hid (HX.out y5 (HBy.out.trans (hb.mono HBy.out.size))).2
    have hbb : (bs == bs) = true := by simp
    clear hb D9
    go_wp2
    go_ret
    exact ⟨by first | rfl | simp, HB5.out⟩

theorem lassoLeast_walk {w : World} {sa : Option Addr} {s sc : Nat} {la : Option Addr} {m lc : Nat} {S L : Nat → Int} {sb : Option Addr} {t tc : Nat} {lb : Option Addr} {n nc : Nat} {T K : Nat → Int} (hw : Wd w sa s la m S L) (hsn : sa = none → s = 0 ∧ sc = 0) (hsc : s ≤ sc) (hlc : m ≤ lc) (hw2 : Wd w sb t lb n T K) (htn : sb = none → t = 0 ∧ tc = 0) (htc : t ≤ tc) (hnc : n ≤ nc) :
    Calls Try.prog 3 #[.agg #[.slice sa s sc, .slice la m lc], .agg #[.slice sb t tc, .slice lb n nc]] w fun e w' => e = .returned (.bool true) ∧ Below w.heap.size w w' := by
  by_cases hq : wchk s m = 0
  · obtain ⟨h60, hm⟩ := wchk_ok hq
    by_cases hq2 : wchk t n = 0
    · obtain ⟨k60, hn⟩ := wchk_ok hq2
      obtain ⟨b, hb⟩ : ∃ b : Bool, b = true ↔ ∀ i, ltr s m S L i = ltr t n T K i := by
        by_cases h : ∀ i, ltr s m S L i = ltr t n T K i
        · exact ⟨true, fun _ => h, fun _ => rfl⟩
        · exact ⟨false, fun e => (by cases e), fun e => absurd e h⟩
      refine lassoLeast_ok hw hsn hsc hlc h60 hm hw2 (bs := b) (fun y hy => ?_) (Or.inr ⟨hq2, fun y hy => ?_⟩)
      · refine (sameF_ok (hw.below hy) hsn hsc hlc h60 hm (hw2.below hy) htn htc hnc k60 hn).mono ?_
        rintro e w' ⟨st, lp, st', lp', h1, h2, rfl, h3⟩
        have e1 := (lea_same h1 h2).trans hb.symm
        rw [Bool.eq_iff_iff.2 e1, hq2]
        exact ⟨rfl, h3⟩
      · exact alike_any (hw.below hy) h60 hm (hw2.below hy) k60 hn hb
    · exact lassoLeast_ok hw hsn hsc hlc h60 hm hw2 (bs := false) (fun y _ => sameF_bad2 hw.s47 hw.m47 hq hw2.s47 hw2.m47 hq2) (Or.inl ⟨hq2, rfl⟩)
  · exact lassoLeast_bad hw hw2 hq

end Go.Proofs.Ytejombhfkobcbaa
