/- The document's Alike. -/
import Derived.Test.YtejombhfkobcbaaSamB
namespace Go.Proofs.Ytejombhfkobcbaa
open Go.RowKit

theorem bool_no {b : Bool} (h : ¬ b = true) : false = b := by
  cases b
  · rfl
  · exact absurd rfl h

set_option maxHeartbeats 1000000 in
theorem alike_any {w : World} {sa : Option Addr} {s sc : Nat} {la : Option Addr} {m lc : Nat} {S L : Nat → Int} {sb : Option Addr} {t tc : Nat} {lb : Option Addr} {n nc : Nat} {T K : Nat → Int} (hw : Wd w sa s la m S L) (h60 : s + m ≤ 60) (hm : 0 < m) (hw2 : Wd w sb t lb n T K) (k60 : t + n ≤ 60) (hn : 0 < n) {b : Bool} (hb : b = true ↔ ∀ i, ltr s m S L i = ltr t n T K i) :
    Calls Try.prog 9 #[.agg #[.slice sa s sc, .slice la m lc], .agg #[.slice sb t tc, .slice lb n nc]] w fun e w' => e = .returned (.bool b) ∧ Below w.heap.size w w' := by
  obtain ⟨u, hu⟩ : ∃ y, y = (w.alloc (.cells #[.slice sa s sc, .slice la m lc] 24)).alloc (.cells #[.slice sb t tc, .slice lb n nc] 24) := ⟨_, rfl⟩
  have hB : Below w.heap.size w u := by rw [hu]; exact below_alloc2 _ _ _
  have e1 : (w.alloc (.cells #[.slice sa s sc, .slice la m lc] 24)).heap.size = w.heap.size + 1 := by simp
  have x1 : u.heap[w.heap.size]? = some (.cells #[.slice sa s sc, .slice la m lc] 24) := by rw [hu]; exact alloc_old _ (alloc_last _ rfl)
  have x2 : u.heap[w.heap.size + 1]? = some (.cells #[.slice sb t tc, .slice lb n nc] 24) := by rw [hu]; exact alloc_last _ e1
  have HX : Hid (∀ z, Below u.heap.size u z → (z.cell? ⟨w.heap.size, 0, none⟩ = some (.slice sa s sc) ∧ z.cell? ⟨w.heap.size, 1, none⟩ = some (.slice la m lc) ∧ z.cell? ⟨w.heap.size + 1, 0, none⟩ = some (.slice sb t tc) ∧ z.cell? ⟨w.heap.size + 1, 1, none⟩ = some (.slice lb n nc)) ∧ Below w.heap.size w z) := fun z hz => ⟨⟨below_cell hz (Nat.le_refl _) (cell_of_cells x1 rfl), below_cell hz (Nat.le_refl _) (cell_of_cells x1 rfl), below_cell hz (Nat.le_refl _) (cell_of_cells x2 rfl), below_cell hz (Nat.le_refl _) (cell_of_cells x2 rfl)⟩, hB.trans (hz.mono hB.size)⟩
  have D1 : Hid (∀ (y : World) (k : Nat), Below u.heap.size u y → k ≤ 1000000 → Calls Try.prog 13 #[.agg #[.slice sa s sc, .slice la m lc], .int .i64 k] y fun e w' => e = .returned (.int .u64 (ltr s m S L k)) ∧ Below y.heap.size y w') := fun y k hy hk => atRef_any ((hw.below hB).below hy) h60 hm k hk
  have D2 : Hid (∀ (y : World) (k : Nat), Below u.heap.size u y → k ≤ 1000000 → Calls Try.prog 13 #[.agg #[.slice sb t tc, .slice lb n nc], .int .i64 k] y fun e w' => e = .returned (.int .u64 (ltr t n T K k)) ∧ Below y.heap.size y w') := fun y k hy hk => atRef_any ((hw2.below hB).below hy) k60 hn k hk
  have HAL : Hid ((∀ i, i < 3660 → ltr s m S L i = ltr t n T K i) → ∀ i, ltr s m S L i = ltr t n T K i) := alike_all (ltr_per s m S L) (ltr_per t n T K) hm hn (by omega) (by omega) (by omega) (by omega)
  have HU := hid hu
  have HBB := hid hb
  clear hb
  generalize ltr s m S L = f at *
  generalize ltr t n T K = g at *
  clear hu hB e1 x1 x2 hw hw2
  obtain ⟨N, hN⟩ : ∃ N : Nat, N = 3660 := ⟨_, rfl⟩
  have HN := hid hN
  clear hN
  go_enter Try.func9, Try.ntmps9
  go_wp2
  go_loopw [5] (fun i wr => ∃ (x : Int) (k : Nat), Hid (x = k ∧ k ≤ N) ∧ 0 ≤ x ∧ i = .int .i64 x ∧ Hid (∀ j, j < k → f j = g j) ∧ Hid (Below u.heap.size u wr)) (fun i _ => N - (intOf i).toNat)
  case atStart =>
    refine ⟨0, 0, hid ⟨rfl, Nat.zero_le _⟩, Int.le_refl _, rfl, hid (fun j hj => by omega), ?_⟩
    rw [HU.out]
    exact hid (Below.refl _ _)
  case round =>
    obtain ⟨x, k, HK, hx0, rfl, H, HB⟩ := hrel
    have HS : Hid (∀ z, Below wr.heap.size wr z → z.cell? ⟨w.heap.size, 0, none⟩ = some (.slice sa s sc) ∧ z.cell? ⟨w.heap.size, 1, none⟩ = some (.slice la m lc) ∧ z.cell? ⟨w.heap.size + 1, 0, none⟩ = some (.slice sb t tc) ∧ z.cell? ⟨w.heap.size + 1, 1, none⟩ = some (.slice lb n nc)) := fun z hz => (HX.out z (HB.out.trans (hz.mono HB.out.size))).1
    by_cases hlt : x < 3660
    · have HLT := hid hlt
      have hkm : k ≤ 1000000 := by have := HK.out; omega
      have C1 : Hid (∀ y, Below wr.heap.size wr y → Calls Try.prog 13 #[.agg #[.slice sa s sc, .slice la m lc], .int .i64 x] y fun e w' => e = .returned (.int .u64 (f k)) ∧ Below y.heap.size y w') := fun y hy => by have q := D1.out y k (HB.out.trans (hy.mono HB.out.size)) hkm; rw [← HK.out.1] at q; exact q
      have C2 : Hid (∀ y, Below wr.heap.size wr y → Calls Try.prog 13 #[.agg #[.slice sb t tc, .slice lb n nc], .int .i64 x] y fun e w' => e = .returned (.int .u64 (g k)) ∧ Below y.heap.size y w') := fun y hy => by have q := D2.out y k (HB.out.trans (hy.mono HB.out.size)) hkm; rw [← HK.out.1] at q; exact q
      have hh : ((f k != g k) = false ∧ f k = g k) ∨ ((f k != g k) = true ∧ f k ≠ g k) := by
        by_cases h1 : f k = g k
        · exact Or.inl ⟨by simp [h1], h1⟩
        · exact Or.inr ⟨by simp [h1], h1⟩
      have HH := hid hh
      clear hh hkm
      go_wp2_with fail
      have hB0 : Below wr.heap.size wr wr.drew := below_drewN (Below.refl _ _) 1
      refine G_region (fun y => y.cell? ⟨w.heap.size, 0, none⟩ = some (.slice sa s sc) ∧ y.cell? ⟨w.heap.size, 1, none⟩ = some (.slice la m lc) ∧ y.cell? ⟨w.heap.size + 1, 0, none⟩ = some (.slice sb t tc) ∧ y.cell? ⟨w.heap.size + 1, 1, none⟩ = some (.slice lb n nc)) (fun _ => false) (by kernel_rfl) (HS.out _ hB0) (fun _ => ?_)
      refine G_take (i := 0) (oi := { dst := some 10, op := Op.load 24 (Operand.tmp 2), type := 24, pos := _, after := #[], guard := none }) (v := .agg #[.slice sa s sc, .slice la m lc]) rfl (by kernel_rfl) (by kernel_rfl) (by kernel_rfl) (by kernel_rfl) (fun _ _ _ h => h) (by rfl) (fun u hu => ?_) (HS.out _ hB0) ?_
      · (try dsimp only at hu); go_simp
      (try simp only [Act.put, List.setIfInBounds_toArray, List.set_cons_zero, List.set_cons_succ])
      refine G_take (i := 1) (oi := { dst := some 11, op := Op.move (Operand.tmp 5), type := 3, pos := _, after := #[], guard := none }) (v := .int .i64 x) rfl (by kernel_rfl) (by kernel_rfl) (by kernel_rfl) (by kernel_rfl) (fun _ _ _ h => h) (by rfl) (fun u hu => ?_) (HS.out _ hB0) ?_
      · (try dsimp only at hu); go_simp
      (try simp only [Act.put, List.setIfInBounds_toArray, List.set_cons_zero, List.set_cons_succ])
      refine G_take (i := 3) (oi := { dst := some 13, op := Op.load 24 (Operand.tmp 3), type := 24, pos := _, after := #[], guard := none }) (v := .agg #[.slice sb t tc, .slice lb n nc]) rfl (by kernel_rfl) (by kernel_rfl) (by kernel_rfl) (by kernel_rfl) (fun _ _ _ h => h) (by rfl) (fun u hu => ?_) (HS.out _ hB0) ?_
      · (try dsimp only at hu); go_simp
      (try simp only [Act.put, List.setIfInBounds_toArray, List.set_cons_zero, List.set_cons_succ])
      refine G_take (i := 4) (oi := { dst := some 14, op := Op.move (Operand.tmp 5), type := 3, pos := _, after := #[], guard := none }) (v := .int .i64 x) rfl (by kernel_rfl) (by kernel_rfl) (by kernel_rfl) (by kernel_rfl) (fun _ _ _ h => h) (by rfl) (fun u hu => ?_) (HS.out _ hB0) ?_
      · (try dsimp only at hu); go_simp
      (try simp only [Act.put, List.setIfInBounds_toArray, List.set_cons_zero, List.set_cons_succ])
      obtain ⟨y0, hy0⟩ : ∃ q, q = wr.drew := ⟨_, rfl⟩
      rw [← hy0] at hB0 ⊢
      clear hy0
      refine G_step (i := 2) (o := { dst := some 12, op := Op.call { callee := Callee.value (Operand.func 13), args := #[Operand.tmp 10, Operand.tmp 11], argTypes := #[24, 3] }, type := 34, pos := _, after := #[{ on := 0, ground := Ground.data }, { on := 1, ground := Ground.data }], guard := none }) (by kernel_rfl) rfl (fun K' hK => ?_)
      go_simp
      go_at_call 13
      refine (C1.out y0 hB0).mono ?_
      rintro e y1 ⟨rfl, hb⟩
      dsimp only
      have hB1 := hB0.trans (hb.mono hB0.size)
      clear hb hB0
      refine hK.out _ _ (fun _ => HS.out _ hB1) (fun _ => ?_)
      clear hK K'
      (try simp only [Act.put, List.setIfInBounds_toArray, List.set_cons_zero, List.set_cons_succ])
      refine G_step (i := 5) (o := { dst := some 15, op := Op.call { callee := Callee.value (Operand.func 13), args := #[Operand.tmp 13, Operand.tmp 14], argTypes := #[24, 3] }, type := 34, pos := _, after := #[{ on := 3, ground := Ground.data }, { on := 4, ground := Ground.data }, { on := 2, ground := Ground.chain }], guard := none }) (by kernel_rfl) rfl (fun K' hK => ?_)
      go_simp
      go_at_call 13
      refine (C2.out y1 hB1).mono ?_
      rintro e y2 ⟨rfl, hb⟩
      dsimp only
      have hB2 := hB1.trans (hb.mono hB1.size)
      clear hb hB1
      refine hK.out _ _ (fun _ => HS.out _ hB2) (fun _ => ?_)
      clear hK K'
      (try simp only [Act.put, List.setIfInBounds_toArray, List.set_cons_zero, List.set_cons_succ])
      refine G_take (i := 6) (oi := { dst := some 16, op := Op.binOp BinOp.neq 34 (Operand.tmp 12) (Operand.tmp 15) 34, type := 4, pos := _, after := #[{ on := 2, ground := Ground.data }, { on := 5, ground := Ground.data }], guard := none }) (v := .bool (f k != g k)) rfl (by kernel_rfl) (by kernel_rfl) (by kernel_rfl) (by kernel_rfl) (fun _ _ _ h => h) (by rfl) (fun u hu => ?_) (HS.out _ hB2) ?_
      · (try dsimp only at hu); go_simp
      (try simp only [Act.put, List.setIfInBounds_toArray, List.set_cons_zero, List.set_cons_succ])
      refine G_done (by kernel_rfl) ?_ _
      have H4 : Hid (Below u.heap.size u y2) := HB.out.trans (hB2.mono HB.out.size)
      clear hB2 C1 C2
      rcases HH.out with ⟨hb, he⟩ | ⟨hb, he⟩
      · have E := hid he
        clear he
        go_wp2
        go_roundw
        case rel => exact ⟨x + 1, k + 1, hid (by have := HK.out; have := HLT.out; have := HN.out; omega), by omega, by first | rfl | go_num, hid (snoc_all H.out E.out), H4⟩
        case measure => have := HK.out; have := HLT.out; have := HN.out; simp [intOf]; omega
      · have E : Hid (f k ≠ g k) := he
        clear he
        go_wp2
        go_ret
        exact ⟨ret_bool (bool_no (fun h => E.out (HBB.out.1 h k))), (HX.out y2 H4.out).2⟩
    · go_wp2
      go_ret
      exact ⟨ret_bool (HBB.out.2 (HAL.out (fun i hi => H.out i (by have := HK.out; omega)))).symm, (HX.out wr HB.out).2⟩

end Go.Proofs.Ytejombhfkobcbaa
