/- The document's least word: walked. -/
import Derived.Test.YtejombhfkobcbaaLw0
namespace Go.Proofs.Ytejombhfkobcbaa
open Go.RowKit

set_option maxHeartbeats 4000000 in
theorem leastWord_any {w : World} {sa : Option Addr} {s sc : Nat} {la : Option Addr} {m lc : Nat} {S L : Nat → Int} (hw : Wd w sa s la m S L) (h60 : s + m ≤ 60) (hm : 0 < m) :
    Calls Try.prog 8 #[.agg #[.slice sa s sc, .slice la m lc]] w fun e w' => ∃ st lp, Lea (ltr s m S L) st lp ∧ st ≤ s ∧ lp ≤ m ∧ NewW w (ltr s m S L) st lp e w' := by
  obtain ⟨u, hu⟩ : ∃ y, y = (w.alloc (.cells #[.slice sa s sc, .slice la m lc] 24)).alloc (.cells #[.slice none 0 0, .slice none 0 0] 24) := ⟨_, rfl⟩
  have hB : Below w.heap.size w u := by rw [hu]; exact below_alloc2 _ _ _
  have e1 : (w.alloc (.cells #[.slice sa s sc, .slice la m lc] 24)).heap.size = w.heap.size + 1 := by simp
  have x1 : u.heap[w.heap.size]? = some (.cells #[.slice sa s sc, .slice la m lc] 24) := by rw [hu]; exact alloc_old _ (alloc_last _ rfl)
  have x2 : u.heap[w.heap.size + 1]? = some (.cells #[.slice none 0 0, .slice none 0 0] 24) := by rw [hu]; exact alloc_last _ e1
  have hus : u.heap.size = w.heap.size + 1 + 1 := by rw [hu]; simp
  have HX : Hid (∀ z, Below u.heap.size u z → (z.cell? ⟨w.heap.size, 0, none⟩ = some (.slice sa s sc) ∧ z.cell? ⟨w.heap.size, 1, none⟩ = some (.slice la m lc)) ∧ z.heap[w.heap.size + 1]? = some (.cells #[.slice none 0 0, .slice none 0 0] 24) ∧ Below w.heap.size w z) := fun z hz => ⟨⟨below_cell hz (Nat.le_refl _) (cell_of_cells x1 rfl), below_cell hz (Nat.le_refl _) (cell_of_cells x1 rfl)⟩, alloc_le hz x2, hB.trans (hz.mono hB.size)⟩
  have D1 : Hid (∀ (y : World) (k : Nat), Below u.heap.size u y → k ≤ 1000000 → Calls Try.prog 13 #[.agg #[.slice sa s sc, .slice la m lc], .int .i64 k] y fun e w' => e = .returned (.int .u64 (ltr s m S L k)) ∧ Below y.heap.size y w') := fun y k hy hk => atRef_any ((hw.below hB).below hy) h60 hm k hk
  have HPer : Hid (Per s m (ltr s m S L)) := ltr_per s m S L
  have HBd : Hid (∀ i, 0 ≤ ltr s m S L i ∧ ltr s m S L i < 18446744073709551616) := hw.lu64 hm
  obtain ⟨i0, hi0, hz0, hz1, hz2⟩ := info_parts Try.info34
  have HI : Hid (Try.prog.info? 34 = some i0 ∧ i0.zero = some (.int .u64 0) ∧ i0.size = 1 ∧ i0.bytes = 8) := ⟨hi0, hz0, hz1, hz2⟩
  have HU := hid hu
  have HUS := hid hus
  generalize ltr s m S L = f at *
  clear hu hB e1 x1 x2 hw hus hi0 hz0 hz1 hz2
  go_enter Try.func8, Try.ntmps8
  go_wp2
  go_loopw [4] (fun i wr => ∃ lp : Nat, 1 ≤ lp ∧ lp ≤ m ∧ i = .int .i64 lp ∧ Hid (Tried f s 0 lp) ∧ Hid (Below u.heap.size u wr)) (fun i _ => m - (intOf i).toNat)
  case atStart =>
    refine ⟨1, Nat.le_refl _, hm, rfl, hid (Tried.start f s), ?_⟩
    rw [HU.out]
    exact hid (Below.refl _ _)
  case round =>
    obtain ⟨lp, hlp1, hlpm, rfl, HT, HB⟩ := hrel
    go_wp2
    go_loopw [5] (fun i wr => ∃ st : Nat, st ≤ s + 1 ∧ i = .int .i64 st ∧ Hid (Tried f s st lp) ∧ Hid (Below u.heap.size u wr)) (fun i _ => s + 1 - (intOf i).toNat)
    case atStart => exact ⟨0, Nat.zero_le _, rfl, HT, HB⟩
    case round =>
      clear HT HB
      obtain ⟨st, hst1, rfl, HT, HB⟩ := hrel
      obtain ⟨hx0, hx1⟩ := (HX.out wr HB.out).1
      by_cases hst : st ≤ s
      · go_wp2
        obtain ⟨b6, hb6d⟩ : ∃ y, y = wr.heap.size := ⟨_, rfl⟩
        obtain ⟨U, hU⟩ : ∃ y, y = wr.alloc (.cells #[.slice none 0 0, .slice none 0 0] 24) := ⟨_, rfl⟩
        have x6 : U.heap[b6]? = some (.cells #[.slice none 0 0, .slice none 0 0] 24) := by rw [hU, hb6d]; exact Go.Deep.blk_alloc_new _ _
        have hbU : Below u.heap.size u U := by rw [hU]; exact HB.out.alloc HB.out.size _
        have hb6u : u.heap.size ≤ b6 := by rw [hb6d]; exact HB.out.size
        have hUs : b6 + 1 ≤ U.heap.size := by rw [hU, hb6d]; simp
        have HU6 : Hid (U.heap[b6]? = some (.cells #[.slice none 0 0, .slice none 0 0] 24) ∧ U.ownsRow (b6 + 1) 34 1 (.slice none 0 0) 0 (valsU (lstU 0 f)) ∧ b6 + 1 ≤ U.heap.size) := ⟨x6, World.ownsRow_nil _ _ _ _, hUs⟩
        have HBU := hid hbU
        have hw6 : w.heap.size + 1 < b6 := by have := HUS.out; omega
        rw [← hU, ← hb6d]
        clear x6 hbU hUs hU hb6d hx0 hx1 HB
        go_loopw [7] (fun i wr => ∃ (k : Nat) (a1 : Option Addr) (c1 : Nat), k ≤ st ∧ i = .int .i64 k ∧ Hid (wr.heap[b6]? = some (.cells #[.slice a1 k c1, .slice none 0 0] 24) ∧ wr.ownsRow (b6 + 1) 34 1 (.slice a1 k c1) k (valsU (lstU k f)) ∧ b6 + 1 ≤ wr.heap.size) ∧ Hid (Below u.heap.size u wr)) (fun i _ => st - (intOf i).toNat)
        case atStart => exact ⟨0, none, 0, Nat.zero_le _, rfl, HU6, HBU⟩
        case round =>
          clear HU6 HBU
          obtain ⟨k, a1, c1, hk, rfl, HK, HB⟩ := hrel
          have hb6 : b6 < b6 + 1 := Nat.lt_succ_self _
          by_cases hlt : k < st
          · have C1 : Hid (∀ y, Below wr.heap.size wr y → Calls Try.prog 13 #[.agg #[.slice sa s sc, .slice la m lc], .int .i64 k] y fun e w' => e = .returned (.int .u64 (f k)) ∧ Below y.heap.size y w') := fun y hy => D1.out y k (HB.out.trans (hy.mono HB.out.size)) (by omega)
            go_wp2_with fail
            have hB0 : Below wr.heap.size wr wr.drew := below_drewN (Below.refl _ _) 1
            have h6 : wr.drew.cell? ⟨b6, 0, none⟩ = some (.slice a1 k c1) := cell_of_cells (w := wr) HK.out.1 rfl
            obtain ⟨hx0, hx1⟩ := (HX.out wr.drew (below_drewN HB.out 1)).1
            refine G_region (fun y => y.cell? ⟨b6, 0, none⟩ = some (.slice a1 k c1) ∧ y.cell? ⟨w.heap.size, 0, none⟩ = some (.slice sa s sc) ∧ y.cell? ⟨w.heap.size, 1, none⟩ = some (.slice la m lc)) (fun j => j == 8) (by kernel_rfl) ⟨h6, hx0, hx1⟩ (fun hHeld => ?_)
            refine G_take (i := 0) (oi := { dst := some 33, op := Op.fieldAddr 24 (Operand.tmp 6) 0, type := 0, pos := _, after := #[], guard := none }) (v := .pointer (some ⟨b6, 0, none⟩)) rfl (by kernel_rfl) (by kernel_rfl) (by kernel_rfl) (by kernel_rfl) (fun _ _ _ h => h) (by rfl) (fun u hu => ?_) hHeld ?_
            · (try dsimp only at hu); go_simp
            (try simp only [Act.put, List.setIfInBounds_toArray, List.set_cons_zero, List.set_cons_succ])
            refine G_take (i := 1) (oi := { dst := some 34, op := Op.load 22 (Operand.tmp 33), type := 22, pos := _, after := #[{ on := 0, ground := Ground.data }], guard := none }) (v := .slice a1 k c1) rfl (by kernel_rfl) (by kernel_rfl) (by kernel_rfl) (by kernel_rfl) (fun _ _ _ h => h) (by rfl) (fun u hu => ?_) hHeld ?_
            · (try dsimp only at hu); go_simp
            (try simp only [Act.put, List.setIfInBounds_toArray, List.set_cons_zero, List.set_cons_succ])
            refine G_take (i := 2) (oi := { dst := some 35, op := Op.load 24 (Operand.tmp 1), type := 24, pos := _, after := #[], guard := none }) (v := .agg #[.slice sa s sc, .slice la m lc]) rfl (by kernel_rfl) (by kernel_rfl) (by kernel_rfl) (by kernel_rfl) (fun _ _ _ h => h) (by rfl) (fun u hu => ?_) hHeld ?_
            · (try dsimp only at hu); go_simp
            (try simp only [Act.put, List.setIfInBounds_toArray, List.set_cons_zero, List.set_cons_succ])
            refine G_take (i := 3) (oi := { dst := some 36, op := Op.move (Operand.tmp 7), type := 3, pos := _, after := #[], guard := none }) (v := .int .i64 k) rfl (by kernel_rfl) (by kernel_rfl) (by kernel_rfl) (by kernel_rfl) (fun _ _ _ h => h) (by rfl) (fun u hu => ?_) hHeld ?_
            · (try dsimp only at hu); go_simp
            (try simp only [Act.put, List.setIfInBounds_toArray, List.set_cons_zero, List.set_cons_succ])
            obtain ⟨y0, hy0⟩ : ∃ q, q = wr.drew := ⟨_, rfl⟩
            have xs0 : y0.heap = wr.heap := by rw [hy0]; rfl
            rw [← hy0] at hB0 hHeld ⊢
            clear hy0 h6 hx0 hx1
            refine G_step (i := 4) (o := { dst := some 37, op := Op.call { callee := Callee.value (Operand.func 13), args := #[Operand.tmp 35, Operand.tmp 36], argTypes := #[24, 3] }, type := 34, pos := _, after := #[{ on := 2, ground := Ground.data }, { on := 3, ground := Ground.data }], guard := none }) (by kernel_rfl) rfl (fun K' hK => ?_)
            go_simp
            go_at_call 13
            refine (C1.out y0 hB0).mono ?_
            rintro e y1 ⟨rfl, hb⟩
            dsimp only
            have hB1 := hB0.trans (hb.mono hB0.size)
            refine hK.out _ _ (fun _ => ⟨below_cell hb (Nat.le_refl _) hHeld.1, below_cell hb (Nat.le_refl _) hHeld.2.1, below_cell hb (Nat.le_refl _) hHeld.2.2⟩) (fun hS2 => ?_)
            have hHeld2 := hS2 rfl
            clear hK K' hS2 hHeld hb hB0 xs0
            (try simp only [Act.put, List.setIfInBounds_toArray, List.set_cons_zero, List.set_cons_succ])
            refine G_step (i := 5) (o := { dst := some 38, op := Op.buildSlice 22 1 #[(0, Operand.tmp 37)], type := 22, pos := _, after := #[{ on := 4, ground := Ground.data }], guard := none }) (by kernel_rfl) rfl (fun K' hK => ?_)
            go_simp
            obtain ⟨y2, hy2⟩ : ∃ q, q = y1.alloc (.cells #[.int .u64 (f k)] 34) := ⟨_, rfl⟩
            have hb2 : Below y1.heap.size y1 y2 := by rw [hy2]; exact box_below _ _
            have hr2 : RowU y2 (some ⟨y1.heap.size, 0, none⟩) 1 (fun _ => f k) := by rw [hy2]; exact row_one y1 _
            rw [← hy2]
            have hB2 := hB1.trans (hb2.mono hB1.size)
            refine hK.out _ _ (fun _ => ⟨below_cell hb2 (Nat.le_refl _) hHeld2.1, below_cell hb2 (Nat.le_refl _) hHeld2.2.1, below_cell hb2 (Nat.le_refl _) hHeld2.2.2⟩) (fun hS2 => ?_)
            have hHeld3 := hS2 rfl
            clear hK K' hS2 hHeld2 hb2 hB1 hy2
            (try simp only [Act.put, List.setIfInBounds_toArray, List.set_cons_zero, List.set_cons_succ])
            refine G_step (i := 6) (o := { dst := some 39, op := Op.call { callee := Callee.builtin Builtin.append, args := #[Operand.tmp 34, Operand.tmp 38], argTypes := #[22, 22] }, type := 22, pos := _, after := #[{ on := 1, ground := Ground.data }, { on := 5, ground := Ground.data }, { on := 4, ground := Ground.chain }], guard := none }) (by kernel_rfl) rfl (fun K' hK => ?_)
            refine step_append_U (by rfl) _ _ _ (by rfl) (b6 + 1) i0 Try.underlying22 HI.out.1 HI.out.2.1 HI.out.2.2.1 HI.out.2.2.2 (.slice a1 k c1) k (lstU k f) (by rfl) (owns_below HK.out.2.1 hB2) (some ⟨y1.heap.size, 0, none⟩) 1 1 (fun _ => f k) (by rfl) hr2 (fun h => by cases h) (by omega) (Nat.le_trans HK.out.2.2 hB2.size) ?_
            intro v5 y3 hown hgrow
            have HA := app_done HK.out.1 HK.out.2.1 hb6 hB2 hown hgrow
            refine hK.out _ _ (fun _ => ⟨grown_cell hgrow hHeld3.1 (HA.1 _ hb6), grown_cell hgrow hHeld3.2.1 (HA.1 _ (by show w.heap.size < (b6 + 1); omega)), grown_cell hgrow hHeld3.2.2 (HA.1 _ (by show w.heap.size < (b6 + 1); omega))⟩) (fun hS2 => ?_)
            have hHeld4 := hS2 rfl
            clear hK K' hS2 hHeld3 hr2
            (try simp only [Act.put, List.setIfInBounds_toArray, List.set_cons_zero, List.set_cons_succ])
            refine G_take (i := 7) (oi := { dst := some 40, op := Op.fieldAddr 24 (Operand.tmp 6) 0, type := 0, pos := _, after := #[{ on := 0, ground := Ground.phase }, { on := 1, ground := Ground.phase }, { on := 2, ground := Ground.phase }, { on := 3, ground := Ground.phase }, { on := 4, ground := Ground.phase }, { on := 5, ground := Ground.phase }, { on := 6, ground := Ground.phase }], guard := none }) (v := .pointer (some ⟨b6, 0, none⟩)) rfl (by kernel_rfl) (by kernel_rfl) (by kernel_rfl) (by kernel_rfl) (fun _ _ _ h => h) (by rfl) (fun u hu => ?_) hHeld4 ?_
            · (try dsimp only at hu); go_simp
            (try simp only [Act.put, List.setIfInBounds_toArray, List.set_cons_zero, List.set_cons_succ])
            obtain ⟨_, a5, c5, rfl, q51, q52, q53, q54⟩ := rowU_of_owns hown
            have f5 := fz_of HA.2.1 0
            have hc5 := hHeld4.1
            refine G_step (i := 8) (o := { dst := none, op := Op.store 22 (Operand.tmp 40) (Operand.tmp 39), type := 0, pos := _, after := #[{ on := 7, ground := Ground.data }, { on := 6, ground := Ground.data }, { on := 6, ground := Ground.chain }, { on := 0, ground := Ground.phase }, { on := 1, ground := Ground.phase }, { on := 2, ground := Ground.phase }, { on := 3, ground := Ground.phase }, { on := 4, ground := Ground.phase }, { on := 5, ground := Ground.phase }, { on := 6, ground := Ground.phase }], guard := none }) (by kernel_rfl) rfl (fun K' hK => ?_)
            go_simp
            refine hK.out _ _ (fun h => absurd h (by decide)) (fun _ => ?_)
            clear hK K' hHeld4 f5 hc5
            (try simp only [Act.put, List.setIfInBounds_toArray, List.set_cons_zero, List.set_cons_succ])
            refine G_done (by kernel_rfl) ?_ _
            obtain ⟨y4, hy4⟩ : ∃ q, q = y3.setCell ⟨b6, 0, none⟩ (.slice a5 (k + 1) c5) := ⟨_, rfl⟩
            have H4 : Hid (y4.heap[b6]? = some (.cells #[.slice a5 (k + 1) c5, .slice none 0 0] 24) ∧ y4.ownsRow (b6 + 1) 34 1 (.slice a5 (k + 1) c5) (k + 1) (valsU (lstU (k + 1) f)) ∧ b6 + 1 ≤ y4.heap.size) := by
              rw [hy4]
              refine ⟨one_set0 HA.2.1 _, ?_, ?_⟩
              · rw [lst_snoc] at hown
                exact owns_frame hown (fun q hq => set_other (by have := (hown.lt q hq).1; omega))
              · have h1 := HK.out.2.2
                have h2 := hB2.size
                have h3 := HA.2.2.1
                simp [World.setCell]
                omega
            have HB4 : Hid (Below u.heap.size u y4) := by
              have h1 : Below u.heap.size u y3 := (HB.out.trans (hB2.mono HB.out.size)).grown hgrow (Nat.le_trans HB.out.size hB2.size) (fun q hq => by have := (HK.out.2.1.lt q hq).1; omega)
              rw [hy4]
              exact h1.trans (((But.refl _ _).setCell _ _).below (by omega) h1.size)
            rw [← hy4]
            clear hy4 HA hown hgrow q51 q52 q53 q54 hB2 C1
            go_wp2
            go_roundw
            case rel => exact ⟨k + 1, a5, c5, by omega, by go_num, H4, HB4⟩
            case measure => simp [intOf]; omega
          · obtain rfl : k = st := by omega
            clear hlt hk
            obtain ⟨base, hbase⟩ : ∃ y, y = wr.heap.size := ⟨_, rfl⟩
            have HL2 : Hid (wr.heap[b6]? = some (.cells #[.slice a1 k c1, .slice none 0 0] 24) ∧ wr.ownsRow base 34 1 (.slice none 0 0) 0 (valsU (lstU 0 (fun i => f (k + i)))) ∧ base ≤ wr.heap.size) := ⟨HK.out.1, World.ownsRow_nil _ _ _ _, by omega⟩
            have hbb : b6 < base := by rw [hbase]; exact HK.out.2.2
            have HR1 : Hid (RowU wr a1 k f) := by
              obtain ⟨_, a, c, e, _, _, _, q⟩ := rowU_of_owns HK.out.2.1
              cases e
              exact hid (q f (fun i hi => lstU_at k f i hi))
            have HA1 : Hid ((a1 = none → k = 0 ∧ c1 = 0) ∧ k ≤ c1 ∧ ∀ y, a1 = some y → y.block ≠ b6 ∧ y.block < base) := by
              obtain ⟨_, a, c, e, q1, q2, q3, _⟩ := rowU_of_owns HK.out.2.1
              cases e
              refine ⟨q1, q3, fun y hy => ⟨by have := q2 y hy; omega, ?_⟩⟩
              have hown := HK.out.2.1
              rw [hy] at hown
              rw [hbase]
              exact (hown.lt y.block rfl).2
            clear HK hbase hb6
            go_wp2
            go_loopw [8] (fun i wr => ∃ (j : Nat) (a2 : Option Addr) (c2 : Nat), j ≤ lp ∧ i = .int .i64 ((k : Int) + j) ∧ Hid (wr.heap[b6]? = some (.cells #[.slice a1 k c1, .slice a2 j c2] 24) ∧ wr.ownsRow base 34 1 (.slice a2 j c2) j (valsU (lstU j (fun i => f (k + i)))) ∧ base ≤ wr.heap.size) ∧ Hid (RowU wr a1 k f) ∧ Hid (Below u.heap.size u wr)) (fun i _ => k + lp - (intOf i).toNat)
            case atStart => exact ⟨0, none, 0, Nat.zero_le _, by first | rfl | simp, HL2, HR1, HB⟩
            case round =>
              clear HL2 HR1 HB
              obtain ⟨j, a2, c2, hj, rfl, HK, HR1, HB⟩ := hrel
              have hb6 : b6 < base := hbb
              by_cases hlt : j < lp
              · have C1 : Hid (∀ y, Below wr.heap.size wr y → Calls Try.prog 13 #[.agg #[.slice sa s sc, .slice la m lc], .int .i64 ((k : Int) + j)] y fun e w' => e = .returned (.int .u64 (f (k + j))) ∧ Below y.heap.size y w') := fun y hy => D1.out y (k + j) (HB.out.trans (hy.mono HB.out.size)) (by omega)
                go_wp2_with fail
                have hB0 : Below wr.heap.size wr wr.drew := below_drewN (Below.refl _ _) 1
                have h6 : wr.drew.cell? ⟨b6, 1, none⟩ = some (.slice a2 j c2) := cell_of_cells (w := wr) HK.out.1 rfl
                obtain ⟨hx0, hx1⟩ := (HX.out wr.drew (below_drewN HB.out 1)).1
                refine G_region (fun y => y.cell? ⟨b6, 1, none⟩ = some (.slice a2 j c2) ∧ y.cell? ⟨w.heap.size, 0, none⟩ = some (.slice sa s sc) ∧ y.cell? ⟨w.heap.size, 1, none⟩ = some (.slice la m lc)) (fun j => j == 8) (by kernel_rfl) ⟨h6, hx0, hx1⟩ (fun hHeld => ?_)
                refine G_take (i := 0) (oi := { dst := some 49, op := Op.fieldAddr 24 (Operand.tmp 6) 1, type := 0, pos := _, after := #[], guard := none }) (v := .pointer (some ⟨b6, 1, none⟩)) rfl (by kernel_rfl) (by kernel_rfl) (by kernel_rfl) (by kernel_rfl) (fun _ _ _ h => h) (by rfl) (fun u hu => ?_) hHeld ?_
                · (try dsimp only at hu); go_simp
                (try simp only [Act.put, List.setIfInBounds_toArray, List.set_cons_zero, List.set_cons_succ])
                refine G_take (i := 1) (oi := { dst := some 50, op := Op.load 22 (Operand.tmp 49), type := 22, pos := _, after := #[{ on := 0, ground := Ground.data }], guard := none }) (v := .slice a2 j c2) rfl (by kernel_rfl) (by kernel_rfl) (by kernel_rfl) (by kernel_rfl) (fun _ _ _ h => h) (by rfl) (fun u hu => ?_) hHeld ?_
                · (try dsimp only at hu); go_simp
                (try simp only [Act.put, List.setIfInBounds_toArray, List.set_cons_zero, List.set_cons_succ])
                refine G_take (i := 2) (oi := { dst := some 51, op := Op.load 24 (Operand.tmp 1), type := 24, pos := _, after := #[], guard := none }) (v := .agg #[.slice sa s sc, .slice la m lc]) rfl (by kernel_rfl) (by kernel_rfl) (by kernel_rfl) (by kernel_rfl) (fun _ _ _ h => h) (by rfl) (fun u hu => ?_) hHeld ?_
                · (try dsimp only at hu); go_simp
                (try simp only [Act.put, List.setIfInBounds_toArray, List.set_cons_zero, List.set_cons_succ])
                refine G_take (i := 3) (oi := { dst := some 52, op := Op.move (Operand.tmp 8), type := 3, pos := _, after := #[], guard := none }) (v := .int .i64 ((k : Int) + j)) rfl (by kernel_rfl) (by kernel_rfl) (by kernel_rfl) (by kernel_rfl) (fun _ _ _ h => h) (by rfl) (fun u hu => ?_) hHeld ?_
                · (try dsimp only at hu); go_simp
                (try simp only [Act.put, List.setIfInBounds_toArray, List.set_cons_zero, List.set_cons_succ])
                obtain ⟨y0, hy0⟩ : ∃ q, q = wr.drew := ⟨_, rfl⟩
                have xs0 : y0.heap = wr.heap := by rw [hy0]; rfl
                rw [← hy0] at hB0 hHeld ⊢
                clear hy0 h6 hx0 hx1
                refine G_step (i := 4) (o := { dst := some 53, op := Op.call { callee := Callee.value (Operand.func 13), args := #[Operand.tmp 51, Operand.tmp 52], argTypes := #[24, 3] }, type := 34, pos := _, after := #[{ on := 2, ground := Ground.data }, { on := 3, ground := Ground.data }], guard := none }) (by kernel_rfl) rfl (fun K' hK => ?_)
                go_simp
                go_at_call 13
                refine (C1.out y0 hB0).mono ?_
                rintro e y1 ⟨rfl, hb⟩
                dsimp only
                have hB1 := hB0.trans (hb.mono hB0.size)
                refine hK.out _ _ (fun _ => ⟨below_cell hb (Nat.le_refl _) hHeld.1, below_cell hb (Nat.le_refl _) hHeld.2.1, below_cell hb (Nat.le_refl _) hHeld.2.2⟩) (fun hS2 => ?_)
                have hHeld2 := hS2 rfl
                clear hK K' hS2 hHeld hb hB0 xs0
                (try simp only [Act.put, List.setIfInBounds_toArray, List.set_cons_zero, List.set_cons_succ])
                refine G_step (i := 5) (o := { dst := some 54, op := Op.buildSlice 22 1 #[(0, Operand.tmp 53)], type := 22, pos := _, after := #[{ on := 4, ground := Ground.data }], guard := none }) (by kernel_rfl) rfl (fun K' hK => ?_)
                go_simp
                obtain ⟨y2, hy2⟩ : ∃ q, q = y1.alloc (.cells #[.int .u64 (f (k + j))] 34) := ⟨_, rfl⟩
                have hb2 : Below y1.heap.size y1 y2 := by rw [hy2]; exact box_below _ _
                have hr2 : RowU y2 (some ⟨y1.heap.size, 0, none⟩) 1 (fun _ => f (k + j)) := by rw [hy2]; exact row_one y1 _
                rw [← hy2]
                have hB2 := hB1.trans (hb2.mono hB1.size)
                refine hK.out _ _ (fun _ => ⟨below_cell hb2 (Nat.le_refl _) hHeld2.1, below_cell hb2 (Nat.le_refl _) hHeld2.2.1, below_cell hb2 (Nat.le_refl _) hHeld2.2.2⟩) (fun hS2 => ?_)
                have hHeld3 := hS2 rfl
                clear hK K' hS2 hHeld2 hb2 hB1 hy2
                (try simp only [Act.put, List.setIfInBounds_toArray, List.set_cons_zero, List.set_cons_succ])
                refine G_step (i := 6) (o := { dst := some 55, op := Op.call { callee := Callee.builtin Builtin.append, args := #[Operand.tmp 50, Operand.tmp 54], argTypes := #[22, 22] }, type := 22, pos := _, after := #[{ on := 1, ground := Ground.data }, { on := 5, ground := Ground.data }, { on := 4, ground := Ground.chain }], guard := none }) (by kernel_rfl) rfl (fun K' hK => ?_)
                refine step_append_U (by rfl) _ _ _ (by rfl) base i0 Try.underlying22 HI.out.1 HI.out.2.1 HI.out.2.2.1 HI.out.2.2.2 (.slice a2 j c2) j (lstU j (fun i => f (k + i))) (by rfl) (owns_below HK.out.2.1 hB2) (some ⟨y1.heap.size, 0, none⟩) 1 1 (fun _ => f (k + j)) (by rfl) hr2 (fun h => by cases h) (by omega) (Nat.le_trans HK.out.2.2 hB2.size) ?_
                intro v5 y3 hown hgrow
                have HA := app_done HK.out.1 HK.out.2.1 hb6 hB2 hown hgrow
                refine hK.out _ _ (fun _ => ⟨grown_cell hgrow hHeld3.1 (HA.1 _ hb6), grown_cell hgrow hHeld3.2.1 (HA.1 _ (by show w.heap.size < base; omega)), grown_cell hgrow hHeld3.2.2 (HA.1 _ (by show w.heap.size < base; omega))⟩) (fun hS2 => ?_)
                have hHeld4 := hS2 rfl
                clear hK K' hS2 hHeld3 hr2
                (try simp only [Act.put, List.setIfInBounds_toArray, List.set_cons_zero, List.set_cons_succ])
                refine G_take (i := 7) (oi := { dst := some 56, op := Op.fieldAddr 24 (Operand.tmp 6) 1, type := 0, pos := _, after := #[{ on := 0, ground := Ground.phase }, { on := 1, ground := Ground.phase }, { on := 2, ground := Ground.phase }, { on := 3, ground := Ground.phase }, { on := 4, ground := Ground.phase }, { on := 5, ground := Ground.phase }, { on := 6, ground := Ground.phase }], guard := none }) (v := .pointer (some ⟨b6, 1, none⟩)) rfl (by kernel_rfl) (by kernel_rfl) (by kernel_rfl) (by kernel_rfl) (fun _ _ _ h => h) (by rfl) (fun u hu => ?_) hHeld4 ?_
                · (try dsimp only at hu); go_simp
                (try simp only [Act.put, List.setIfInBounds_toArray, List.set_cons_zero, List.set_cons_succ])
                obtain ⟨_, a5, c5, rfl, q51, q52, q53, q54⟩ := rowU_of_owns hown
                have f5 := fz_of HA.2.1 1
                have hc5 := hHeld4.1
                refine G_step (i := 8) (o := { dst := none, op := Op.store 22 (Operand.tmp 56) (Operand.tmp 55), type := 0, pos := _, after := #[{ on := 7, ground := Ground.data }, { on := 6, ground := Ground.data }, { on := 6, ground := Ground.chain }, { on := 0, ground := Ground.phase }, { on := 1, ground := Ground.phase }, { on := 2, ground := Ground.phase }, { on := 3, ground := Ground.phase }, { on := 4, ground := Ground.phase }, { on := 5, ground := Ground.phase }, { on := 6, ground := Ground.phase }], guard := none }) (by kernel_rfl) rfl (fun K' hK => ?_)
                go_simp
                refine hK.out _ _ (fun h => absurd h (by decide)) (fun _ => ?_)
                clear hK K' hHeld4 f5 hc5
                (try simp only [Act.put, List.setIfInBounds_toArray, List.set_cons_zero, List.set_cons_succ])
                refine G_done (by kernel_rfl) ?_ _
                obtain ⟨y4, hy4⟩ : ∃ q, q = y3.setCell ⟨b6, 1, none⟩ (.slice a5 (j + 1) c5) := ⟨_, rfl⟩
                have H4 : Hid (y4.heap[b6]? = some (.cells #[.slice a1 k c1, .slice a5 (j + 1) c5] 24) ∧ y4.ownsRow base 34 1 (.slice a5 (j + 1) c5) (j + 1) (valsU (lstU (j + 1) (fun i => f (k + i)))) ∧ base ≤ y4.heap.size) := by
                  rw [hy4]
                  refine ⟨one_set1 HA.2.1 _, ?_, ?_⟩
                  · rw [lst_snoc j (fun i => f (k + i))] at hown
                    exact owns_frame hown (fun q hq => set_other (by have := (hown.lt q hq).1; omega))
                  · have h1 := HK.out.2.2
                    have h2 := hB2.size
                    have h3 := HA.2.2.1
                    simp [World.setCell]
                    omega
                have HR4 : Hid (RowU y4 a1 k f) := by
                  refine HR1.out.frame (fun y hy hs => ?_)
                  rw [hy4, set_other (HA1.out.2.2 y hy).1]
                  exact HA.2.2.2.1 _ (HA1.out.2.2 y hy).2 hs
                have HB4 : Hid (Below u.heap.size u y4) := by
                  have h1 : Below u.heap.size u y3 := (HB.out.trans (hB2.mono HB.out.size)).grown hgrow (Nat.le_trans HB.out.size hB2.size) (fun q hq => by have := (HK.out.2.1.lt q hq).1; omega)
                  rw [hy4]
                  exact h1.trans (((But.refl _ _).setCell _ _).below (by omega) h1.size)
                rw [← hy4]
                clear hy4 HA hown hgrow q51 q52 q53 q54 hB2 C1
                go_wp2
                go_roundw
                case rel => exact ⟨j + 1, a5, c5, by omega, by first | go_num | (congr 1; omega), H4, HR4, HB4⟩
                case measure => simp [intOf]; omega
              · obtain rfl : j = lp := by omega
                clear hlt hj
                obtain ⟨z, hzw⟩ : ∃ z, z = wr := ⟨_, rfl⟩
                rw [← hzw] at HK HR1 HB ⊢
                clear hzw
                have HR2 : Hid (RowU z a2 j (fun i => f (k + i)) ∧ (a2 = none → j = 0 ∧ c2 = 0) ∧ j ≤ c2) := by
                  obtain ⟨_, a, c, e, q1, _, q3, q⟩ := rowU_of_owns HK.out.2.1
                  cases e
                  exact hid ⟨q _ (fun i hi => lstU_at j _ i hi), q1, q3⟩
                have HW2 : Hid (Wd z a1 k a2 j f (fun i => f (k + i))) := ⟨HR1.out, HR2.out.1, by omega, by omega, fun i _ => HBd.out i, fun i _ => HBd.out (k + i)⟩
                have HS6 := hid HK.out.1
                obtain ⟨g, hg⟩ : ∃ g, g = tryW f k j := ⟨_, rfl⟩
                have HG := hid hg
                have D2 : Hid (∀ (y : World) (i : Nat), Below z.heap.size z y → i ≤ 1000000 → Calls Try.prog 13 #[.agg #[.slice a1 k c1, .slice a2 j c2], .int .i64 i] y fun e w' => e = .returned (.int .u64 (g i)) ∧ Below y.heap.size y w') := fun y i hy hi => by rw [hg]; exact atRef_any (HW2.out.below hy) (by omega) (by omega) i hi
                obtain ⟨M, hM⟩ : ∃ M, M = 2 * (s + m) + 2 * j := ⟨_, rfl⟩
                have HM := hid hM
                have hMi : 2 * ((s : Int) + m) + 2 * j = M := by omega
                have hM2 : M ≤ 1000 := by omega
                have HSZ : Hid (∀ y, Below z.heap.size z y → y.cell? ⟨w.heap.size, 0, none⟩ = some (.slice sa s sc) ∧ y.cell? ⟨w.heap.size, 1, none⟩ = some (.slice la m lc) ∧ y.cell? ⟨b6, 0, none⟩ = some (.slice a1 k c1) ∧ y.cell? ⟨b6, 1, none⟩ = some (.slice a2 j c2)) := fun y hy => ⟨(HX.out y (HB.out.trans (hy.mono HB.out.size))).1.1, (HX.out y (HB.out.trans (hy.mono HB.out.size))).1.2, below_cell hy (Nat.le_refl _) (cell_of_cells HS6.out rfl), below_cell hy (Nat.le_refl _) (cell_of_cells HS6.out rfl)⟩
                clear hg hM HK
                go_wp2
                go_loopw [9, 10] (fun sv iv wr => Cmp f g M z sv iv wr) (fun _ iv _ => M - (intOf iv).toNat)
                case atStart => exact ⟨0, true, Nat.zero_le _, rfl, rfl, fun _ i hi => (by omega), fun h => (by cases h), Below.refl _ _⟩
                case round =>
                  obtain ⟨q, sm, hq, rfl, rfl, h1, h2, h3⟩ := hrel
                  have HBW := hid h3
                  have hq0 : (0 : Int) ≤ q := by omega
                  cases sm
                  · have HN := hid (h2 rfl)
                    have HTN : Hid (Tried f s (k + 1) j) := HT.out.next (fun hp => by
                      obtain ⟨x, _, hx⟩ := HN.out
                      exact hx (by rw [HG.out]; exact try_same hlp1 hp x))
                    have HB9 : Hid (Below u.heap.size u wr) := HB.out.trans (HBW.out.mono HB.out.size)
                    clear h1 h2 h3 HN
                    by_cases hlt : q < M
                    · go_wp2
                      go_roundw
                      case rel => exact ⟨k + 1, by omega, by go_num, HTN, HB9⟩
                      case measure => simp [intOf]; omega
                    · have hdf : decide ((q : Int) < M) = false := by simp; omega
                      go_wp2
                      go_roundw
                      case rel => exact ⟨k + 1, by omega, by go_num, HTN, HB9⟩
                      case measure => simp [intOf]; omega
                  · have HN := hid (h1 rfl)
                    clear h1 h2 h3
                    by_cases hlt : q < M
                    · have C1 : Hid (∀ y, Below wr.heap.size wr y → Calls Try.prog 13 #[.agg #[.slice sa s sc, .slice la m lc], .int .i64 q] y fun e w' => e = .returned (.int .u64 (f q)) ∧ Below y.heap.size y w') := fun y hy => D1.out y q ((HB.out.trans (HBW.out.mono HB.out.size)).trans (hy.mono (Nat.le_trans HB.out.size HBW.out.size))) (by omega)
                      have C2 : Hid (∀ y, Below wr.heap.size wr y → Calls Try.prog 13 #[.agg #[.slice a1 k c1, .slice a2 j c2], .int .i64 q] y fun e w' => e = .returned (.int .u64 (g q)) ∧ Below y.heap.size y w') := fun y hy => D2.out y q (HBW.out.trans (hy.mono HBW.out.size)) (by omega)
                      have HS : Hid (∀ y, Below wr.heap.size wr y → y.cell? ⟨w.heap.size, 0, none⟩ = some (.slice sa s sc) ∧ y.cell? ⟨w.heap.size, 1, none⟩ = some (.slice la m lc) ∧ y.cell? ⟨b6, 0, none⟩ = some (.slice a1 k c1) ∧ y.cell? ⟨b6, 1, none⟩ = some (.slice a2 j c2)) := fun y hy => HSZ.out y (HBW.out.trans (hy.mono HBW.out.size))
                      go_wp2_with fail
                      have hB0 : Below wr.heap.size wr wr.drew := below_drewN (Below.refl _ _) 1
                      refine G_region (fun y => y.cell? ⟨w.heap.size, 0, none⟩ = some (.slice sa s sc) ∧ y.cell? ⟨w.heap.size, 1, none⟩ = some (.slice la m lc) ∧ y.cell? ⟨b6, 0, none⟩ = some (.slice a1 k c1) ∧ y.cell? ⟨b6, 1, none⟩ = some (.slice a2 j c2)) (fun _ => false) (by kernel_rfl) (HS.out _ hB0) (fun _ => ?_)
                      refine G_take (i := 0) (oi := { dst := some 69, op := Op.load 24 (Operand.tmp 1), type := 24, pos := _, after := #[], guard := none }) (v := .agg #[.slice sa s sc, .slice la m lc]) rfl (by kernel_rfl) (by kernel_rfl) (by kernel_rfl) (by kernel_rfl) (fun _ _ _ h => h) (by rfl) (fun u hu => ?_) (HS.out _ hB0) ?_
                      · (try dsimp only at hu); go_simp
                      (try simp only [Act.put, List.setIfInBounds_toArray, List.set_cons_zero, List.set_cons_succ])
                      refine G_take (i := 1) (oi := { dst := some 70, op := Op.move (Operand.tmp 10), type := 3, pos := _, after := #[], guard := none }) (v := .int .i64 q) rfl (by kernel_rfl) (by kernel_rfl) (by kernel_rfl) (by kernel_rfl) (fun _ _ _ h => h) (by rfl) (fun u hu => ?_) (HS.out _ hB0) ?_
                      · (try dsimp only at hu); go_simp
                      (try simp only [Act.put, List.setIfInBounds_toArray, List.set_cons_zero, List.set_cons_succ])
                      refine G_take (i := 3) (oi := { dst := some 72, op := Op.load 24 (Operand.tmp 6), type := 24, pos := _, after := #[], guard := none }) (v := .agg #[.slice a1 k c1, .slice a2 j c2]) rfl (by kernel_rfl) (by kernel_rfl) (by kernel_rfl) (by kernel_rfl) (fun _ _ _ h => h) (by rfl) (fun u hu => ?_) (HS.out _ hB0) ?_
                      · (try dsimp only at hu); go_simp
                      (try simp only [Act.put, List.setIfInBounds_toArray, List.set_cons_zero, List.set_cons_succ])
                      refine G_take (i := 4) (oi := { dst := some 73, op := Op.move (Operand.tmp 10), type := 3, pos := _, after := #[], guard := none }) (v := .int .i64 q) rfl (by kernel_rfl) (by kernel_rfl) (by kernel_rfl) (by kernel_rfl) (fun _ _ _ h => h) (by rfl) (fun u hu => ?_) (HS.out _ hB0) ?_
                      · (try dsimp only at hu); go_simp
                      (try simp only [Act.put, List.setIfInBounds_toArray, List.set_cons_zero, List.set_cons_succ])
                      obtain ⟨y0, hy0⟩ : ∃ q, q = wr.drew := ⟨_, rfl⟩
                      rw [← hy0] at hB0 ⊢
                      clear hy0
                      refine G_step (i := 2) (o := { dst := some 71, op := Op.call { callee := Callee.value (Operand.func 13), args := #[Operand.tmp 69, Operand.tmp 70], argTypes := #[24, 3] }, type := 34, pos := _, after := #[{ on := 0, ground := Ground.data }, { on := 1, ground := Ground.data }], guard := none }) (by kernel_rfl) rfl (fun K' hK => ?_)
                      go_simp
                      go_at_call 13
                      refine (C1.out y0 hB0).mono ?_
                      rintro e y1 ⟨rfl, hb⟩
                      dsimp only
                      have hB1 := hB0.trans (hb.mono hB0.size)
                      clear hb hB0
                      refine hK.out _ _ (fun _ => HS.out _ hB1) (fun _ => ?_)
                      clear hK K'
                      (try simp only [Act.put, List.setIfInBounds_toArray, List.set_cons_zero, List.set_cons_succ])
                      refine G_step (i := 5) (o := { dst := some 74, op := Op.call { callee := Callee.value (Operand.func 13), args := #[Operand.tmp 72, Operand.tmp 73], argTypes := #[24, 3] }, type := 34, pos := _, after := #[{ on := 3, ground := Ground.data }, { on := 4, ground := Ground.data }, { on := 2, ground := Ground.chain }], guard := none }) (by kernel_rfl) rfl (fun K' hK => ?_)
                      go_simp
                      go_at_call 13
                      refine (C2.out y1 hB1).mono ?_
                      rintro e y2 ⟨rfl, hb⟩
                      dsimp only
                      have hB2 := hB1.trans (hb.mono hB1.size)
                      clear hb hB1
                      refine hK.out _ _ (fun _ => HS.out _ hB2) (fun _ => ?_)
                      clear hK K'
                      (try simp only [Act.put, List.setIfInBounds_toArray, List.set_cons_zero, List.set_cons_succ])
                      refine G_take (i := 6) (oi := { dst := some 75, op := Op.binOp BinOp.eql 34 (Operand.tmp 71) (Operand.tmp 74) 34, type := 4, pos := _, after := #[{ on := 2, ground := Ground.data }, { on := 5, ground := Ground.data }], guard := none }) (v := .bool (f q == g q)) rfl (by kernel_rfl) (by kernel_rfl) (by kernel_rfl) (by kernel_rfl) (fun _ _ _ h => h) (by rfl) (fun u hu => ?_) (HS.out _ hB2) ?_
                      · (try dsimp only at hu); go_simp
                      (try simp only [Act.put, List.setIfInBounds_toArray, List.set_cons_zero, List.set_cons_succ])
                      refine G_take (i := 7) (oi := { dst := some 9, op := Op.assign (Operand.tmp 75), type := 4, pos := _, after := #[{ on := 6, ground := Ground.data }, { on := 5, ground := Ground.chain }, { on := 0, ground := Ground.phase }, { on := 1, ground := Ground.phase }, { on := 2, ground := Ground.phase }, { on := 3, ground := Ground.phase }, { on := 4, ground := Ground.phase }, { on := 5, ground := Ground.phase }, { on := 6, ground := Ground.phase }], guard := none }) (v := .bool (f q == g q)) rfl (by kernel_rfl) (by kernel_rfl) (by kernel_rfl) (by kernel_rfl) (fun _ _ _ h => h) (by rfl) (fun u hu => ?_) (HS.out _ hB2) ?_
                      · (try dsimp only at hu); go_simp
                      (try simp only [Act.put, List.setIfInBounds_toArray, List.set_cons_zero, List.set_cons_succ])
                      refine G_done (by kernel_rfl) ?_ _
                      have HCm : Hid (Cmp f g M z (.bool (f q == g q)) (.int .i64 ((q + 1 : Nat) : Int)) y2) := by
                        refine ⟨q + 1, _, by omega, rfl, rfl, fun h i hi => ?_, fun h => ⟨q, hlt, by simpa using h⟩, HBW.out.trans (hB2.mono HBW.out.size)⟩
                        by_cases e : i = q
                        · rw [e]; simpa using h
                        · exact HN.out i (by omega)
                      have eq1 : ((q + 1 : Nat) : Int) = (q : Int) + 1 := by omega
                      rw [eq1] at HCm
                      clear hB2 C1 C2 HS eq1
                      go_wp2
                      go_roundw
                      case rel => exact HCm.out
                      case measure => simp [intOf]; omega
                    · have hdf : decide ((q : Int) < M) = false := by simp; omega
                      have HLE : Hid (Lea f k j) := by
                        refine HT.out.lea hlp1 HPer.out hm (try_per HPer.out hm hst (fun i hi => ?_))
                        have := HN.out i (by have := HM.out; omega)
                        rw [HG.out] at this
                        exact this
                      have HB9 : Hid (Below u.heap.size u wr) := HB.out.trans (HBW.out.mono HB.out.size)
                      obtain ⟨_, _, k6, k7⟩ := HSZ.out wr HBW.out
                      have xr := (HX.out wr HB9.out).2.1
                      have f0 := fz_of xr 0
                      have f1 := fz_of xr 1
                      have z0 := (two_cells xr).1
                      have z1 := (two_cells xr).2
                      have HXR := hid xr
                      clear xr
                      go_wp2
                      (try simp only [Exit.inBlock, Exit.then])
                      obtain ⟨W, hW⟩ : ∃ y, y = (wr.setCell ⟨w.heap.size + 1, 0, none⟩ (.slice a1 k c1)).setCell ⟨w.heap.size + 1, 1, none⟩ (.slice a2 j c2) := ⟨_, rfl⟩
                      rw [← hW]
                      have hbut : But (w.heap.size + 1) wr W := by rw [hW]; exact ((But.refl _ _).setCell _ _).setCell _ _
                      have hWx : W.heap[w.heap.size + 1]? = some (.cells #[.slice a1 k c1, .slice a2 j c2] 24) := by rw [hW]; exact two_set HXR.out _ _
                      refine bodyPost_ret (results_cell_row rfl _ _ (w.heap.size + 1) 24 #[.slice a1 k c1, .slice a2 j c2] (0, 0) _ rfl hWx Try.underlying24 rfl (by kernel_rfl)) rfl ?_
                      have hbw := (HX.out wr HB9.out).2.2
                      refine ⟨k, j, HLE.out, hst, hlpm, a1, c1, a2, c2, rfl, HA1.out.1, HR2.out.2.1, HA1.out.2.1, HR2.out.2.2, ?_, ?_, hbw.trans (hbut.below (by omega) hbw.size)⟩
                      · exact (HR1.out.below HBW.out).butz hbut HXR.out
                      · exact (HR2.out.1.below HBW.out).butz hbut HXR.out
      · have HTM : Hid (Tried f s 0 (lp + 1)) := by
          obtain rfl : st = s + 1 := by omega
          exact hid HT.out.more
        have HLT : Hid (lp + 1 ≤ m) := hid (HTM.out.small HPer.out hm)
        clear HT
        go_wp2
        go_roundw
        case rel => exact ⟨lp + 1, by omega, HLT.out, by go_num, HTM, HB⟩
        case measure => have := HLT.out; simp [intOf]; omega

end Go.Proofs.Ytejombhfkobcbaa
