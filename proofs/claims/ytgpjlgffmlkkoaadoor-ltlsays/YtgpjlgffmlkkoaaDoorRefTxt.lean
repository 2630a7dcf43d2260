/- The document's LtlText. -/
import Derived.Test.YtgpjlgffmlkkoaaDoorRefNam
import Derived.Test.YtgpjlgffmlkkoaaDoorPrn3
import Derived.Deep.CutRange
namespace Go.Proofs.YtgpjlgffmlkkoaaDoor
open Go.RowKit

/-- What LtlText answers. -/
def TxV (N : Nat) (M : Nat → ByteArray) (t : Fml) : ByteArray := if nmd N M t = true then byt (tx N M t) else ⟨#[]⟩

/-- The texts of the first j Kids, in brackets if they need them. -/
def ksT (N : Nat) (M : Nat → ByteArray) (k : Int) (kid : Nat → Fml) : Nat → List (List UInt8)
  | 0 => []
  | j + 1 => ksT N M k kid j ++ [par (bare (kid j).kind k j) (tx N M (kid j))]

theorem nmd_kid {N : Nat} {M : Nat → ByteArray} {t : Fml} {j : Nat} (hf : fit t = true) (hj : j < t.cnt) (h : nmd N M (t.kid j) = false) : nmd N M t = false := by
  rw [nmd_eq]
  rcases wf_cnt hf with h0 | h0 | h0
  · omega
  · rw [if_pos h0]
    obtain rfl : j = 0 := by omega
    exact h
  · rw [if_neg (by omega), if_pos h0]
    have : j = 0 ∨ j = 1 := by omega
    rcases this with rfl | rfl
    · rw [h]; simp
    · rw [h]; simp

theorem nmd_all {N : Nat} {M : Nat → ByteArray} {t : Fml} (hf : fit t = true) (h0 : 0 < t.cnt) (h : ∀ j, j < t.cnt → nmd N M (t.kid j) = true) : nmd N M t = true := by
  rw [nmd_eq]
  rcases wf_cnt hf with h1 | h1 | h1
  · omega
  · rw [if_pos h1]
    exact h 0 (by omega)
  · rw [if_neg (by omega), if_pos h1, h 0 (by omega), h 1 (by omega)]
    rfl

theorem sz_kid {t : Fml} {j : Nat} (hj : j < t.cnt) : sz (t.kid j) < sz t := by
  rw [sz_eq t]
  have : ∀ n, j < n → sz (t.kid j) ≤ sumTo (fun i => sz (t.kid i)) n := by
    intro n
    induction n with
    | zero => intro h; omega
    | succ n ih =>
      intro h
      simp only [sumTo]
      by_cases e : j = n
      · subst e; omega
      · have := ih (by omega); omega
  have := this t.cnt hj
  omega

theorem owns_keep {w w' : World} {base : Nat} {e : TypeId} {size : Nat} {v : Value} {n : Nat} {xs : List Value} (h : w.ownsRow base e size v n xs) (hk : ∀ b, v.ownBlock = some b → w'.heap[b]? = w.heap[b]?) : w'.ownsRow base e size v n xs := by
  refine ⟨h.1, ?_⟩
  rcases h.2 with h1 | ⟨g, cap, cur, h1, h2, h3, h4⟩
  · exact Or.inl h1
  · exact Or.inr ⟨g, cap, cur, h1, h2, (hk g (by rw [h1]; rfl)).trans h3, h4⟩

/-- The Kids that need no brackets, as the document has it. -/
def tbv (q p j : Nat) : Bool := (decide (j = 0) && decide (q = p) && (decide (q = 5) || decide (q = 6))) || (decide (j = 1) && decide (q = p) && (decide (q = 8) || decide (q = 9))) || (decide (p = 6) && decide (q = 5))

theorem tbv_q {q p j : Nat} (h5 : q ≠ 5) (h6 : q ≠ 6) (h8 : q ≠ 8) (h9 : q ≠ 9) : tbv q p j = false := by simp [tbv, h5, h6, h8, h9]
theorem tbv_p {q p j : Nat} (h5 : p ≠ 5) (h6 : p ≠ 6) (h8 : p ≠ 8) (h9 : p ≠ 9) : tbv q p j = false := by
  by_cases e : q = p
  · subst e; exact tbv_q h5 h6 h8 h9
  · simp [tbv, e, h6]

theorem bare_tb (q p j : Nat) (hj : j < 2) : bare q p j = (tbv q p j || !decide (¬ ar q < 2)) := by
  unfold bare
  by_cases h0 : ar q < 2
  · simp [h0]
  · have hq : q = 5 ∨ q = 6 ∨ q = 8 ∨ q = 9 := by
      unfold ar at h0
      split at h0
      · omega
      · split at h0
        · omega
        · split at h0 <;> omega
    rw [if_neg h0]
    have e5 : ((p : Int) = 5) ↔ p = 5 := by omega
    have e6 : ((p : Int) = 6) ↔ p = 6 := by omega
    have e8 : ((p : Int) = 8) ↔ p = 8 := by omega
    have e9 : ((p : Int) = 9) ↔ p = 9 := by omega
    have hpp : p = 5 ∨ p = 6 ∨ p = 8 ∨ p = 9 ∨ (p ≠ 5 ∧ p ≠ 6 ∧ p ≠ 8 ∧ p ≠ 9) := by omega
    have hjj : j = 0 ∨ j = 1 := by omega
    rcases hpp with rfl | rfl | rfl | rfl | ⟨h5, h6, h8, h9⟩
    · rcases hq with rfl | rfl | rfl | rfl <;> rcases hjj with rfl | rfl <;> decide
    · rcases hq with rfl | rfl | rfl | rfl <;> rcases hjj with rfl | rfl <;> decide
    · rcases hq with rfl | rfl | rfl | rfl <;> rcases hjj with rfl | rfl <;> decide
    · rcases hq with rfl | rfl | rfl | rfl <;> rcases hjj with rfl | rfl <;> decide
    · have n1 : ∀ x : Nat, (x = 5 ∨ x = 6 ∨ x = 8 ∨ x = 9) → ¬ (x = p) := by omega
      simp [e5, e6, e8, e9, h5, h6, h8, h9, h0, tbv, n1 q hq]

theorem wd_no {N : Nat} {M : Nat → ByteArray} {x : Nat} (h : wok N M x = false) : wd N M x = ⟨#[]⟩ := by
  unfold wok at h
  simp only [Bool.or_eq_false_iff, decide_eq_false_iff_not] at h
  simp [wd, h.1, h.2]

theorem wd_eq (N : Nat) (M : Nat → ByteArray) (x : Nat) : ((wd N M x).toList == []) = !wok N M x := by
  cases h : wok N M x
  · rw [wd_no h]; simp
  · unfold wok at h
    simp only [Bool.or_eq_true, decide_eq_true_eq] at h
    have hs : 1 ≤ (wd N M x).size := by
      unfold wd
      by_cases h6 : x = 63
      · rw [if_pos h6]; decide
      · have h7 : nmOk N M x = true := by
          rcases h with h | h
          · exact absurd h h6
          · exact h
        rw [if_neg h6, if_pos h7]
        have := (nmOk_out h7).2.1
        unfold nameOk at this
        simp only [Bool.and_eq_true, decide_eq_true_eq] at this
        exact this.1.1.1.1.1
    rw [ByteArray.toList_eq]
    cases hd : (wd N M x).data.toList with
    | nil =>
      have := bytes_len (wd N M x)
      rw [hd] at this
      simp at this
      omega
    | cons a b => rfl

def TxtOk (N : Nat) (M : Nat → ByteArray) (na : Option Addr) (nc : Nat) (t : Fml) : Prop := ∀ (a : Option Addr) (cap : Nat) (w : World), Nms w na N M → Kds w t a → Wf t → sz t ≤ 60 →
  Calls Tryd.prog 10 #[.agg #[.int .i64 t.kind, .int .i64 t.num, .slice a t.cnt cap], .slice na N nc] w fun e w' => e = .returned (.tuple #[.string (TxV N M t), .bool (nmd N M t)]) ∧ Below w.heap.size w w'

set_option maxHeartbeats 20000000 in
set_option maxRecDepth 100000 in
theorem ltlText_any {N : Nat} {M : Nat → ByteArray} {na : Option Addr} {nc : Nat} (hN : N ≤ 9223372036854775807) (hMs : ∀ i, i < N → (M i).size ≤ maxLen) : ∀ t : Fml, TxtOk N M na nc t := by
  intro t
  induction t using Fml.ind with
  | h t ih =>
  intro a cap w hNm hK hW hz
  have hf := hW.out.1
  obtain ⟨k1, k2, k3⟩ := fit_kind hf
  obtain ⟨p, hp⟩ : ∃ q : Nat, t.kind = q := ⟨t.kind.toNat, by omega⟩
  obtain ⟨i0, hi, hz0, hz1, hz2⟩ := info_parts Tryd.info9
  have HI : Hid (Tryd.prog.info? 9 = some i0 ∧ i0.zero = some (.string ⟨#[]⟩) ∧ i0.size = 1 ∧ i0.bytes = 16) := ⟨hi, hz0, hz1, hz2⟩
  clear hi hz0 hz1 hz2
  have hc2 : t.cnt ≤ 2 := by have := wf_cnt hf; omega
  have hp1 : 1 ≤ p := by omega
  have hp2 : p ≤ 11 := by omega
  have hqn : ((p : Int)).toNat = p := by omega
  have HKo := hid hK.out
  have HNm : Hid (Nms w na N M) := hNm
  have HWo : Hid (∀ j, j < t.cnt → Wf (t.kid j)) := hW.out.2
  have HKz : Hid (∀ j, j < t.cnt → sz (t.kid j) ≤ 60) := fun j hj => by have := sz_kid (t := t) (j := j) hj; omega
  have HNk : Hid (∀ j, j < t.cnt → nmd N M (t.kid j) = false → nmd N M t = false) := fun j hj h => nmd_kid hf hj h
  have HNa : Hid (0 < t.cnt → (∀ j, j < t.cnt → nmd N M (t.kid j) = true) → nmd N M t = true) := fun h1 h2 => nmd_all hf h1 h2
  have HT0 := hid (tx_eq N M t)
  have HN0 := hid (nmd_eq N M t)
  have HFA : Hid (p = 3 → 0 ≤ t.num ∧ t.num ≤ 63) := fun h3 => by
    have h1 := fit_atom k3 (by rw [hp, h3]; rfl)
    rw [hf] at h1
    exact of_decide_eq_true h1.symm
  have hB0 : Bx (w.alloc (.cells #[.int .i64 t.kind, .int .i64 t.num, .slice a t.cnt cap] 24)) w.heap.size t a cap := bx_new w t a cap
  have hBxc : ∀ w x, Bx w x t a cap → w.cell? ⟨x, 0, none⟩ = some (.int .i64 t.kind) ∧ w.cell? ⟨x, 1, none⟩ = some (.int .i64 t.num) ∧ w.cell? ⟨x, 2, none⟩ = some (.slice a t.cnt cap) := fun w x h => ⟨h.c0, h.c1, h.c2⟩
  have HAr : Hid ((t.cnt : Int) = ar t.kind) := k3
  clear hK hNm hW hz hf k1 k2 k3
  rw [hp] at HT0 HN0 hB0 hBxc HAr ⊢
  rw [hqn] at HT0
  generalize hnn : t.num = n at *
  generalize hcc : t.cnt = c at *
  generalize hkd : t.kid = kid at *
  have HBxc := hid hBxc
  obtain ⟨w1, hw1⟩ : ∃ y, y = w.alloc (.cells #[.int .i64 (p : Int), .int .i64 n, .slice a c cap] 24) := ⟨_, rfl⟩
  have hB1 : Below w.heap.size w w1 := by rw [hw1]; exact box_below _ _
  have hx1 : Bx w1 w.heap.size t a cap := by rw [hw1]; exact hB0
  have hs1 : w1.heap.size = w.heap.size + 1 := by rw [hw1]; simp
  have HE := hid hw1.symm
  have HX : Hid (Below w.heap.size w w1 ∧ Bx w1 w.heap.size t a cap ∧ w1.heap.size = w.heap.size + 1) := ⟨hB1, hx1, hs1⟩
  have HIH := hid ih
  have HM : Hid (∀ i, i < N → (M i).size ≤ maxLen) := hMs
  clear hw1 hB1 hx1 hs1 ih hMs hnn hcc hkd hp hqn hB0 hBxc
  go_enter Tryd.func10, Tryd.ntmps10
  go_wp2
  rw [HE.out]
  go_loopw [6, 7] (fun v i wr => ∃ (j : Nat) (va : Option Addr) (vc : Nat), j ≤ c ∧ i = .int .i64 j ∧ v = .slice va j vc ∧ Hid ((∀ x, x < j → nmd N M (kid x) = true) ∧ Below w1.heap.size w1 wr ∧ wr.ownsRow w1.heap.size 9 1 (.slice va j vc) j (strs (ksT N M p kid j)))) (fun _ i _ => c - (intOf i).toNat)
  case atStart => exact ⟨0, none, 0, Nat.zero_le _, rfl, rfl, hid ⟨fun x hx => absurd hx (Nat.not_lt_zero _), Below.refl _ _, World.ownsRow_nil _ _ _ _⟩⟩
  case round =>
    obtain ⟨j, va, vc, hj, rfl, rfl, HJ⟩ := hrel
    have HXr : Hid (Bx wr w.heap.size t a cap) := (HJ.out.2.1.block _ (by have := HX.out.2.2; omega)).trans HX.out.2.1
    obtain ⟨g0, g1, g2⟩ := HBxc.out _ _ HXr.out
    have HBr : Hid (Below w.heap.size w wr) := HX.out.1.trans (HJ.out.2.1.mono HX.out.1.size)
    have hszr : w.heap.size < wr.heap.size := by have := HX.out.2.2; have := HJ.out.2.1.size; omega
    by_cases hlt : j < c
    · obtain ⟨kb, o, ha, hkid⟩ := HKo.out
      obtain rfl := ha (by omega)
      obtain ⟨ai, ci, e1, e2, e3, e4, e5⟩ := hkid j hlt
      have f1 := below_cell HBr.out (Nat.le_refl _) e1
      have f2 := below_cell HBr.out (Nat.le_refl _) e2
      have f3 := below_cell HBr.out (Nat.le_refl _) e3
      have hjz : (j : Int) < c := by omega
      have hWk : Wf (kid j) := HWo.out j hlt
      obtain ⟨j1, j2, j3⟩ := fit_kind hWk.out.1
      have HTl : Hid ((tx N M (kid j)).length ≤ 720) := by
        have h1 := tx_len N M (kid j)
        have h2 := HKz.out j hlt
        exact hid (by omega)
      have HKs : Hid (ksT N M p kid (j + 1) = ksT N M p kid j ++ [par (bare (kid j).kind p j) (tx N M (kid j))]) := hid rfl
      have HNd : Hid (nmd N M (kid j) = false → nmd N M t = false) := fun h => HNk.out j hlt h
      have hU := box_below wr (.cells #[.int .i64 (kid j).kind, .int .i64 (kid j).num, .slice ai (kid j).cnt ci] 24)
      have C : Hid (Calls Tryd.prog 10 #[.agg #[.int .i64 (kid j).kind, .int .i64 (kid j).num, .slice ai (kid j).cnt ci], .slice na N nc] (wr.alloc (.cells #[.int .i64 (kid j).kind, .int .i64 (kid j).num, .slice ai (kid j).cnt ci] 24)) fun e w' => e = .returned (.tuple #[.string (TxV N M (kid j)), .bool (nmd N M (kid j))]) ∧ Below (wr.heap.size + 1) (wr.alloc (.cells #[.int .i64 (kid j).kind, .int .i64 (kid j).num, .slice ai (kid j).cnt ci] 24)) w') := by
        have := HIH.out j hlt ai ci (wr.alloc (.cells #[.int .i64 (kid j).kind, .int .i64 (kid j).num, .slice ai (kid j).cnt ci] 24)) (HNm.out.below (HBr.out.trans (hU.mono HBr.out.size))) (e5.below (HBr.out.trans (hU.mono HBr.out.size))) hWk (HKz.out j hlt)
        simp only [World.size_alloc] at this
        exact hid this
      have hbx : Bx (wr.alloc (.cells #[.int .i64 (kid j).kind, .int .i64 (kid j).num, .slice ai (kid j).cnt ci] 24)) wr.heap.size (kid j) ai ci := bx_new wr (kid j) ai ci
      have HBX := hid hbx
      have HV : Hid (nmd N M (kid j) = true → TxV N M (kid j) = byt (tx N M (kid j))) := fun h => if_pos h
      obtain ⟨u, hu⟩ : ∃ y, y = kid j := ⟨_, rfl⟩
      have HKj : Hid (nmd N M u = nmd N M (kid j)) := by rw [hu]; exact hid rfl
      rw [← hu] at C HTl HKs HNd f1 f2 f3 j1 j2 j3 HBX HV
      clear hu
      obtain ⟨q, hq⟩ : ∃ q : Nat, u.kind = q := ⟨u.kind.toNat, by omega⟩
      rw [hq] at C f1 j1 j2 HKs
      have HQ := hid hq
      obtain ⟨nv, hnv⟩ : ∃ y, y = nmd N M u := ⟨_, rfl⟩
      rw [← hnv] at C HNd HV
      have HNv := hid hnv
      clear hkid e1 e2 e3 e4 e5 hWk j3 ha hU hbx hnv hq
      have hq1 : 1 ≤ q := by omega
      have hq2 : q ≤ 11 := by omega
      cases nv
      · generalize TxV N M u = sv at *
        have E : Hid (nmd N M t = false ∧ TxV N M t = ⟨#[]⟩) := by
          have h1 := HNd.out rfl
          exact ⟨h1, by simp [TxV, h1]⟩
        clear HV HNd
        go_wp2_with fail
        refine C.out.mono ?_
        rintro e w3 ⟨rfl, hb3⟩
        have H3 : Hid (Below w.heap.size w w3) := (HBr.out.alloc HBr.out.size _).trans (hb3.mono (by have := HBr.out.size; omega))
        clear C hb3
        go_wp2
        go_ret2
        exact ⟨by rw [E.out.1, E.out.2]; rfl, H3.out⟩
      · have hV := HV.out rfl
        rw [hV] at C
        have hsl : (byt (tx N M u)).size ≤ 720 := by rw [byt_size]; exact HTl.out
        have HKn : Hid (nmd N M (kid j) = true) := HKj.out.symm.trans HNv.out.symm
        clear HV hV HNd
        go_wp2_with fail
        refine C.out.mono ?_
        rintro e w3 ⟨rfl, hb3⟩
        have hb3' : Below (wr.heap.size + 1) (wr.alloc (.cells #[.int .i64 q, .int .i64 u.num, .slice ai u.cnt ci] 24)) w3 := hb3
        have hX3 : w3.heap[wr.heap.size]? = some (.cells #[.int .i64 u.kind, .int .i64 u.num, .slice ai u.cnt ci] 24 (0, 0)) := (hb3'.block _ (by omega)).trans (by rw [← HQ.out]; exact HBX.out)
        have x0 : w3.cell? ⟨wr.heap.size, 0, none⟩ = some (.int .i64 q) := by rw [← HQ.out]; exact cell_of_cells hX3 rfl
        have y0 : w3.cell? ⟨w.heap.size, 0, none⟩ = some (.int .i64 p) := by
          rw [hb3'.cell (p := ⟨w.heap.size, 0, none⟩) (by show w.heap.size < wr.heap.size + 1; omega), World.cell?_of_block (w := wr) (Go.Deep.blk_alloc_lt _ _ _ hszr)]
          exact g0
        have y2 : w3.cell? ⟨w.heap.size, 2, none⟩ = some (.slice (some ⟨kb, o, none⟩) c cap) := by
          rw [hb3'.cell (p := ⟨w.heap.size, 2, none⟩) (by show w.heap.size < wr.heap.size + 1; omega), World.cell?_of_block (w := wr) (Go.Deep.blk_alloc_lt _ _ _ hszr)]
          exact g2
        have H3 : Hid (Below w1.heap.size w1 w3 ∧ w3.ownsRow w1.heap.size 9 1 (.slice va j vc) j (strs (ksT N M p kid j))) := by
          refine ⟨(HJ.out.2.1.alloc HJ.out.2.1.size _).trans (hb3'.mono (by have := HJ.out.2.1.size; omega)), ?_⟩
          exact owns_keep (HJ.out.2.2.alloc (.cells #[.int .i64 q, .int .i64 u.num, .slice ai u.cnt ci] 24)) (fun b hb => hb3'.block b (by have := HJ.out.2.2.lt b hb; omega))
        obtain ⟨sv, hsv⟩ : ∃ y, y = byt (tx N M u) := ⟨_, rfl⟩
        rw [← hsv] at hsl ⊢
        have HSv := hid hsv
        clear C hb3 hb3' hX3 hsv f1 f2 f3 g0 g2 HBX HIH
        obtain ⟨w4, ew4⟩ : ∃ x, x = w3 := ⟨_, rfl⟩
        rw [← ew4] at x0 y0 y2 H3 ⊢
        clear ew4
        go_upto_region 9 with fail
        go_cut [11] from 33 to 50 (fun v wc => v = .bool (decide (¬ ar q < 2)) ∧ wc = w4)
        case first =>
          have hqq : q = 5 ∨ q = 6 ∨ q = 8 ∨ q = 9 ∨ (q ≠ 5 ∧ q ≠ 6 ∧ q ≠ 8 ∧ q ≠ 9) := by omega
          rcases hqq with h | h | h | h | ⟨h5, h6, h8, h9⟩
          · subst h
            go_wp2_with fail
            go_meet
            exact ⟨rfl, rfl⟩
          · subst h
            go_wp2_with fail
            go_meet
            exact ⟨rfl, rfl⟩
          · subst h
            go_wp2_with fail
            go_meet
            exact ⟨rfl, rfl⟩
          · subst h
            go_wp2_with fail
            go_meet
            exact ⟨rfl, rfl⟩
          · have b5 : ((q : Int) == 5) = false := beq_eq_false_iff_ne.2 (by omega)
            have b6 : ((q : Int) == 6) = false := beq_eq_false_iff_ne.2 (by omega)
            have b8 : ((q : Int) == 8) = false := beq_eq_false_iff_ne.2 (by omega)
            have b9 : ((q : Int) == 9) = false := beq_eq_false_iff_ne.2 (by omega)
            have E : Hid (decide (¬ ar q < 2) = false) := hid <| by
              refine decide_eq_false ?_
              intro hh
              unfold ar at hh
              split at hh
              · omega
              · split at hh
                · omega
                · split at hh <;> omega
            clear h5 h6 h8 h9
            go_wp2_with fail
            go_meet
            exact ⟨by rw [E.out], rfl⟩
        obtain ⟨rfl, hwc⟩ := hcut
        rw [hwc]
        clear hwc wc
        have HQr : Hid (decide (¬ ar q < 2) = false ↔ ¬ (q = 5 ∨ q = 6 ∨ q = 8 ∨ q = 9)) := hid <| by
          rw [decide_eq_false_iff_not]
          unfold ar
          constructor
          · intro hh h5
            apply hh
            split
            · omega
            · split
              · omega
              · split <;> omega
          · intro h5 hh
            apply h5
            split at hh
            · omega
            · split at hh
              · omega
              · split at hh <;> omega
        obtain ⟨br, hbr⟩ : ∃ y, y = decide (¬ ar q < 2) := ⟨_, rfl⟩
        rw [← hbr] at HQr ⊢
        have HBr2 := hid hbr
        clear hbr
        go_upto_region 10 with fail
        go_cut [100] from 51 to 100 (fun v wc => v = .bool (tbv q p j) ∧ wc = w4)
        case first =>
          have hqq : q = 5 ∨ q = 6 ∨ q = 8 ∨ q = 9 ∨ (q ≠ 5 ∧ q ≠ 6 ∧ q ≠ 8 ∧ q ≠ 9) := by omega
          have hpp : p = 5 ∨ p = 6 ∨ p = 8 ∨ p = 9 ∨ (p ≠ 5 ∧ p ≠ 6 ∧ p ≠ 8 ∧ p ≠ 9) := by omega
          have hjj : j = 0 ∨ j = 1 := by omega
          clear y2
          rcases hjj with hjj | hjj
          · subst hjj
            rcases hpp with h | h | h | h | ⟨p5, p6, p8, p9⟩
            · subst h
              rcases hqq with h | h | h | h | ⟨q5, q6, q8, q9⟩
              · subst h
                go_wp2_with fail
                go_meet
                exact ⟨rfl, rfl⟩
              · subst h
                go_wp2_with fail
                go_meet
                exact ⟨rfl, rfl⟩
              · subst h
                go_wp2_with fail
                go_meet
                exact ⟨rfl, rfl⟩
              · subst h
                go_wp2_with fail
                go_meet
                exact ⟨rfl, rfl⟩
              · have d5 : ((q : Int) == 5) = false := beq_eq_false_iff_ne.2 (by omega)
                have d6 : ((q : Int) == 6) = false := beq_eq_false_iff_ne.2 (by omega)
                have d8 : ((q : Int) == 8) = false := beq_eq_false_iff_ne.2 (by omega)
                have d9 : ((q : Int) == 9) = false := beq_eq_false_iff_ne.2 (by omega)
                have E : Hid (tbv q 5 0 = false) := tbv_q q5 q6 q8 q9
                clear q5 q6 q8 q9
                go_wp2_with fail
                go_meet
                exact ⟨by rw [E.out], rfl⟩
            · subst h
              rcases hqq with h | h | h | h | ⟨q5, q6, q8, q9⟩
              · subst h
                go_wp2_with fail
                go_meet
                exact ⟨rfl, rfl⟩
              · subst h
                go_wp2_with fail
                go_meet
                exact ⟨rfl, rfl⟩
              · subst h
                go_wp2_with fail
                go_meet
                exact ⟨rfl, rfl⟩
              · subst h
                go_wp2_with fail
                go_meet
                exact ⟨rfl, rfl⟩
              · have d5 : ((q : Int) == 5) = false := beq_eq_false_iff_ne.2 (by omega)
                have d6 : ((q : Int) == 6) = false := beq_eq_false_iff_ne.2 (by omega)
                have d8 : ((q : Int) == 8) = false := beq_eq_false_iff_ne.2 (by omega)
                have d9 : ((q : Int) == 9) = false := beq_eq_false_iff_ne.2 (by omega)
                have E : Hid (tbv q 6 0 = false) := tbv_q q5 q6 q8 q9
                clear q5 q6 q8 q9
                go_wp2_with fail
                go_meet
                exact ⟨by rw [E.out], rfl⟩
            · subst h
              rcases hqq with h | h | h | h | ⟨q5, q6, q8, q9⟩
              · subst h
                go_wp2_with fail
                go_meet
                exact ⟨rfl, rfl⟩
              · subst h
                go_wp2_with fail
                go_meet
                exact ⟨rfl, rfl⟩
              · subst h
                go_wp2_with fail
                go_meet
                exact ⟨rfl, rfl⟩
              · subst h
                go_wp2_with fail
                go_meet
                exact ⟨rfl, rfl⟩
              · have d5 : ((q : Int) == 5) = false := beq_eq_false_iff_ne.2 (by omega)
                have d6 : ((q : Int) == 6) = false := beq_eq_false_iff_ne.2 (by omega)
                have d8 : ((q : Int) == 8) = false := beq_eq_false_iff_ne.2 (by omega)
                have d9 : ((q : Int) == 9) = false := beq_eq_false_iff_ne.2 (by omega)
                have E : Hid (tbv q 8 0 = false) := tbv_q q5 q6 q8 q9
                clear q5 q6 q8 q9
                go_wp2_with fail
                go_meet
                exact ⟨by rw [E.out], rfl⟩
            · subst h
              rcases hqq with h | h | h | h | ⟨q5, q6, q8, q9⟩
              · subst h
                go_wp2_with fail
                go_meet
                exact ⟨rfl, rfl⟩
              · subst h
                go_wp2_with fail
                go_meet
                exact ⟨rfl, rfl⟩
              · subst h
                go_wp2_with fail
                go_meet
                exact ⟨rfl, rfl⟩
              · subst h
                go_wp2_with fail
                go_meet
                exact ⟨rfl, rfl⟩
              · have d5 : ((q : Int) == 5) = false := beq_eq_false_iff_ne.2 (by omega)
                have d6 : ((q : Int) == 6) = false := beq_eq_false_iff_ne.2 (by omega)
                have d8 : ((q : Int) == 8) = false := beq_eq_false_iff_ne.2 (by omega)
                have d9 : ((q : Int) == 9) = false := beq_eq_false_iff_ne.2 (by omega)
                have E : Hid (tbv q 9 0 = false) := tbv_q q5 q6 q8 q9
                clear q5 q6 q8 q9
                go_wp2_with fail
                go_meet
                exact ⟨by rw [E.out], rfl⟩
            · have c6 : ((p : Int) == 6) = false := beq_eq_false_iff_ne.2 (by omega)
              rcases hqq with h | h | h | h | ⟨q5, q6, q8, q9⟩
              · subst h
                have cqp : ((5 : Int) == (p : Int)) = false := beq_eq_false_iff_ne.2 (by omega)
                have E : Hid (tbv 5 p 0 = false) := tbv_p p5 p6 p8 p9
                clear p5 p6 p8 p9
                go_wp2_with fail
                go_meet
                exact ⟨by rw [E.out], rfl⟩
              · subst h
                have cqp : ((6 : Int) == (p : Int)) = false := beq_eq_false_iff_ne.2 (by omega)
                have E : Hid (tbv 6 p 0 = false) := tbv_p p5 p6 p8 p9
                clear p5 p6 p8 p9
                go_wp2_with fail
                go_meet
                exact ⟨by rw [E.out], rfl⟩
              · subst h
                have cqp : ((8 : Int) == (p : Int)) = false := beq_eq_false_iff_ne.2 (by omega)
                have E : Hid (tbv 8 p 0 = false) := tbv_p p5 p6 p8 p9
                clear p5 p6 p8 p9
                go_wp2_with fail
                go_meet
                exact ⟨by rw [E.out], rfl⟩
              · subst h
                have cqp : ((9 : Int) == (p : Int)) = false := beq_eq_false_iff_ne.2 (by omega)
                have E : Hid (tbv 9 p 0 = false) := tbv_p p5 p6 p8 p9
                clear p5 p6 p8 p9
                go_wp2_with fail
                go_meet
                exact ⟨by rw [E.out], rfl⟩
              · have d5 : ((q : Int) == 5) = false := beq_eq_false_iff_ne.2 (by omega)
                have d6 : ((q : Int) == 6) = false := beq_eq_false_iff_ne.2 (by omega)
                have d8 : ((q : Int) == 8) = false := beq_eq_false_iff_ne.2 (by omega)
                have d9 : ((q : Int) == 9) = false := beq_eq_false_iff_ne.2 (by omega)
                have E : Hid (tbv q p 0 = false) := tbv_q q5 q6 q8 q9
                by_cases hqp : q = p
                · have cqp : ((q : Int) == (p : Int)) = true := beq_iff_eq.2 (by omega)
                  clear p5 p6 p8 p9 q5 q6 q8 q9 hqp
                  go_wp2_with fail
                  go_meet
                  exact ⟨by rw [E.out], rfl⟩
                · have cqp : ((q : Int) == (p : Int)) = false := beq_eq_false_iff_ne.2 (by omega)
                  clear p5 p6 p8 p9 q5 q6 q8 q9 hqp
                  go_wp2_with fail
                  go_meet
                  exact ⟨by rw [E.out], rfl⟩
          · subst hjj
            rcases hpp with h | h | h | h | ⟨p5, p6, p8, p9⟩
            · subst h
              rcases hqq with h | h | h | h | ⟨q5, q6, q8, q9⟩
              · subst h
                go_wp2_with fail
                go_meet
                exact ⟨rfl, rfl⟩
              · subst h
                go_wp2_with fail
                go_meet
                exact ⟨rfl, rfl⟩
              · subst h
                go_wp2_with fail
                go_meet
                exact ⟨rfl, rfl⟩
              · subst h
                go_wp2_with fail
                go_meet
                exact ⟨rfl, rfl⟩
              · have d5 : ((q : Int) == 5) = false := beq_eq_false_iff_ne.2 (by omega)
                have d6 : ((q : Int) == 6) = false := beq_eq_false_iff_ne.2 (by omega)
                have d8 : ((q : Int) == 8) = false := beq_eq_false_iff_ne.2 (by omega)
                have d9 : ((q : Int) == 9) = false := beq_eq_false_iff_ne.2 (by omega)
                have E : Hid (tbv q 5 1 = false) := tbv_q q5 q6 q8 q9
                clear q5 q6 q8 q9
                go_wp2_with fail
                go_meet
                exact ⟨by rw [E.out], rfl⟩
            · subst h
              rcases hqq with h | h | h | h | ⟨q5, q6, q8, q9⟩
              · subst h
                go_wp2_with fail
                go_meet
                exact ⟨rfl, rfl⟩
              · subst h
                go_wp2_with fail
                go_meet
                exact ⟨rfl, rfl⟩
              · subst h
                go_wp2_with fail
                go_meet
                exact ⟨rfl, rfl⟩
              · subst h
                go_wp2_with fail
                go_meet
                exact ⟨rfl, rfl⟩
              · have d5 : ((q : Int) == 5) = false := beq_eq_false_iff_ne.2 (by omega)
                have d6 : ((q : Int) == 6) = false := beq_eq_false_iff_ne.2 (by omega)
                have d8 : ((q : Int) == 8) = false := beq_eq_false_iff_ne.2 (by omega)
                have d9 : ((q : Int) == 9) = false := beq_eq_false_iff_ne.2 (by omega)
                have E : Hid (tbv q 6 1 = false) := tbv_q q5 q6 q8 q9
                clear q5 q6 q8 q9
                go_wp2_with fail
                go_meet
                exact ⟨by rw [E.out], rfl⟩
            · subst h
              rcases hqq with h | h | h | h | ⟨q5, q6, q8, q9⟩
              · subst h
                go_wp2_with fail
                go_meet
                exact ⟨rfl, rfl⟩
              · subst h
                go_wp2_with fail
                go_meet
                exact ⟨rfl, rfl⟩
              · subst h
                go_wp2_with fail
                go_meet
                exact ⟨rfl, rfl⟩
              · subst h
                go_wp2_with fail
                go_meet
                exact ⟨rfl, rfl⟩
              · have d5 : ((q : Int) == 5) = false := beq_eq_false_iff_ne.2 (by omega)
                have d6 : ((q : Int) == 6) = false := beq_eq_false_iff_ne.2 (by omega)
                have d8 : ((q : Int) == 8) = false := beq_eq_false_iff_ne.2 (by omega)
                have d9 : ((q : Int) == 9) = false := beq_eq_false_iff_ne.2 (by omega)
                have E : Hid (tbv q 8 1 = false) := tbv_q q5 q6 q8 q9
                clear q5 q6 q8 q9
                go_wp2_with fail
                go_meet
                exact ⟨by rw [E.out], rfl⟩
            · subst h
              rcases hqq with h | h | h | h | ⟨q5, q6, q8, q9⟩
              · subst h
                go_wp2_with fail
                go_meet
                exact ⟨rfl, rfl⟩
              · subst h
                go_wp2_with fail
                go_meet
                exact ⟨rfl, rfl⟩
              · subst h
                go_wp2_with fail
                go_meet
                exact ⟨rfl, rfl⟩
              · subst h
                go_wp2_with fail
                go_meet
                exact ⟨rfl, rfl⟩
              · have d5 : ((q : Int) == 5) = false := beq_eq_false_iff_ne.2 (by omega)
                have d6 : ((q : Int) == 6) = false := beq_eq_false_iff_ne.2 (by omega)
                have d8 : ((q : Int) == 8) = false := beq_eq_false_iff_ne.2 (by omega)
                have d9 : ((q : Int) == 9) = false := beq_eq_false_iff_ne.2 (by omega)
                have E : Hid (tbv q 9 1 = false) := tbv_q q5 q6 q8 q9
                clear q5 q6 q8 q9
                go_wp2_with fail
                go_meet
                exact ⟨by rw [E.out], rfl⟩
            · have c6 : ((p : Int) == 6) = false := beq_eq_false_iff_ne.2 (by omega)
              rcases hqq with h | h | h | h | ⟨q5, q6, q8, q9⟩
              · subst h
                have cqp : ((5 : Int) == (p : Int)) = false := beq_eq_false_iff_ne.2 (by omega)
                have E : Hid (tbv 5 p 1 = false) := tbv_p p5 p6 p8 p9
                clear p5 p6 p8 p9
                go_wp2_with fail
                go_meet
                exact ⟨by rw [E.out], rfl⟩
              · subst h
                have cqp : ((6 : Int) == (p : Int)) = false := beq_eq_false_iff_ne.2 (by omega)
                have E : Hid (tbv 6 p 1 = false) := tbv_p p5 p6 p8 p9
                clear p5 p6 p8 p9
                go_wp2_with fail
                go_meet
                exact ⟨by rw [E.out], rfl⟩
              · subst h
                have cqp : ((8 : Int) == (p : Int)) = false := beq_eq_false_iff_ne.2 (by omega)
                have E : Hid (tbv 8 p 1 = false) := tbv_p p5 p6 p8 p9
                clear p5 p6 p8 p9
                go_wp2_with fail
                go_meet
                exact ⟨by rw [E.out], rfl⟩
              · subst h
                have cqp : ((9 : Int) == (p : Int)) = false := beq_eq_false_iff_ne.2 (by omega)
                have E : Hid (tbv 9 p 1 = false) := tbv_p p5 p6 p8 p9
                clear p5 p6 p8 p9
                go_wp2_with fail
                go_meet
                exact ⟨by rw [E.out], rfl⟩
              · have d5 : ((q : Int) == 5) = false := beq_eq_false_iff_ne.2 (by omega)
                have d6 : ((q : Int) == 6) = false := beq_eq_false_iff_ne.2 (by omega)
                have d8 : ((q : Int) == 8) = false := beq_eq_false_iff_ne.2 (by omega)
                have d9 : ((q : Int) == 9) = false := beq_eq_false_iff_ne.2 (by omega)
                have E : Hid (tbv q p 1 = false) := tbv_q q5 q6 q8 q9
                by_cases hqp : q = p
                · have cqp : ((q : Int) == (p : Int)) = true := beq_iff_eq.2 (by omega)
                  clear p5 p6 p8 p9 q5 q6 q8 q9 hqp
                  go_wp2_with fail
                  go_meet
                  exact ⟨by rw [E.out], rfl⟩
                · have cqp : ((q : Int) == (p : Int)) = false := beq_eq_false_iff_ne.2 (by omega)
                  clear p5 p6 p8 p9 q5 q6 q8 q9 hqp
                  go_wp2_with fail
                  go_meet
                  exact ⟨by rw [E.out], rfl⟩
        obtain ⟨rfl, hwc⟩ := hcut
        rw [hwc]
        clear hwc wc y0 y2 x0
        have HBa : Hid (bare q p j = (tbv q p j || !br)) := hid <| by rw [bare_tb q p j (by omega), ← HBr2.out]
        obtain ⟨tb, htb⟩ : ∃ y, y = tbv q p j := ⟨_, rfl⟩
        rw [← htb] at HBa ⊢
        clear htb HQr HBr2
        have HBx : Hid (w1.heap.size ≤ w4.heap.size) := H3.out.1.size
        have HTl2 : Hid ((par (bare q p j) (tx N M u)).length ≤ 722) := hid (Nat.le_trans (par_len _ _) (by have := HTl.out; omega))
        have HNd2 : Hid (∀ x, x < j + 1 → nmd N M (kid x) = true) := snoc_all HJ.out.1 HKn.out
        cases tb
        · cases br
          · have HPar : Hid (ksT N M p kid (j + 1) = ksT N M p kid j ++ [tx N M u]) := hid <| by rw [HKs.out, HBa.out]; rfl
            clear HBa HKs HTl2
            go_wp2_with (at_builtin; refine wpList_append_own_at _ rfl _ _ 25 rfl w1.heap.size 9 i0 (.string ⟨#[]⟩) 1 16 Tryd.underlying25 HI.out.1 HI.out.2.1 HI.out.2.2.1 HI.out.2.2.2 rfl (by decide) _ _ _ rfl (H3.out.2.alloc _) ⟨w4.heap.size, 0, none⟩ 1 1 [.string sv] rfl rfl (cell_one_new _ _ _) (by intro u hu; rw [List.mem_singleton] at hu; rw [hu]; rfl) (by unfold maxLen; omega) (by omega) (by have := HBx.out; simp; omega) ?_; intro v' w5 hown hgrow _ _; obtain ⟨⟨g5, c5, rfl⟩, H5⟩ := str_step (x := tx N M u) H3.out.1 H3.out.2 (by rw [← HSv.out]; exact hown) hgrow; clear hown hgrow)
            go_roundw
            case rel => exact ⟨j + 1, _, c5, by omega, by go_num, rfl, hid ⟨HNd2.out, H5.out.1, by rw [HPar.out]; exact H5.out.2⟩⟩
            case measure => simp [intOf]; omega
          · have HB2 : Hid (byt (40 :: (tx N M u ++ [41])) = ⟨#[40]⟩ ++ sv ++ ⟨#[41]⟩) := hid <| by rw [HSv.out]; apply ByteArray.ext; simp [byt]
            have HPar : Hid (ksT N M p kid (j + 1) = ksT N M p kid j ++ [40 :: (tx N M u ++ [41])]) := hid <| by rw [HKs.out, HBa.out]; rfl
            clear HBa HKs HTl2
            go_wp2_with (at_builtin; refine wpList_append_own_at _ rfl _ _ 25 rfl w1.heap.size 9 i0 (.string ⟨#[]⟩) 1 16 Tryd.underlying25 HI.out.1 HI.out.2.1 HI.out.2.2.1 HI.out.2.2.2 rfl (by decide) _ _ _ rfl (H3.out.2.alloc _) ⟨w4.heap.size, 0, none⟩ 1 1 [.string (⟨#[40]⟩ ++ sv ++ ⟨#[41]⟩)] rfl rfl (cell_one_new _ _ _) (by intro u hu; rw [List.mem_singleton] at hu; rw [hu]; rfl) (by unfold maxLen; omega) (by omega) (by have := HBx.out; simp; omega) ?_; intro v' w5 hown hgrow _ _; obtain ⟨⟨g5, c5, rfl⟩, H5⟩ := str_step (x := 40 :: (tx N M u ++ [41])) H3.out.1 H3.out.2 (by rw [HB2.out]; exact hown) hgrow; clear hown hgrow)
            go_roundw
            case rel => exact ⟨j + 1, _, c5, by omega, by go_num, rfl, hid ⟨HNd2.out, H5.out.1, by rw [HPar.out]; exact H5.out.2⟩⟩
            case measure => simp [intOf]; omega
        · have HPar : Hid (ksT N M p kid (j + 1) = ksT N M p kid j ++ [tx N M u]) := hid <| by rw [HKs.out, HBa.out]; rfl
          clear HBa HKs HTl2
          go_wp2_with (at_builtin; refine wpList_append_own_at _ rfl _ _ 25 rfl w1.heap.size 9 i0 (.string ⟨#[]⟩) 1 16 Tryd.underlying25 HI.out.1 HI.out.2.1 HI.out.2.2.1 HI.out.2.2.2 rfl (by decide) _ _ _ rfl (H3.out.2.alloc _) ⟨w4.heap.size, 0, none⟩ 1 1 [.string sv] rfl rfl (cell_one_new _ _ _) (by intro u hu; rw [List.mem_singleton] at hu; rw [hu]; rfl) (by unfold maxLen; omega) (by omega) (by have := HBx.out; simp; omega) ?_; intro v' w5 hown hgrow _ _; obtain ⟨⟨g5, c5, rfl⟩, H5⟩ := str_step (x := tx N M u) H3.out.1 H3.out.2 (by rw [← HSv.out]; exact hown) hgrow; clear hown hgrow)
          go_roundw
          case rel => exact ⟨j + 1, _, c5, by omega, by go_num, rfl, hid ⟨HNd2.out, H5.out.1, by rw [HPar.out]; exact H5.out.2⟩⟩
          case measure => simp [intOf]; omega
    · obtain rfl : j = c := by omega
      have HT := HT0
      have HF : Hid (0 < j → nmd N M t = true) := fun h => HNa.out h HJ.out.1
      have HNq := HN0
      have HS : Hid (0 < j → ∃ g, va = some ⟨g, 0, none⟩ ∧ ∀ (i : Nat) (x : List UInt8), (ksT N M p kid j)[i]? = some x → wr.cell? ⟨g, i, none⟩ = some (.string (byt x))) := fun h => str_cells HJ.out.2.2 h
      have HZ : Hid (∀ x, x < j → (par (bare (kid x).kind p x) (tx N M (kid x))).length ≤ 722) := fun x hx => by
        have h1 := par_len (bare (kid x).kind p x) (tx N M (kid x))
        have h2 := tx_len N M (kid x)
        have h3 := HKz.out x hx
        omega
      clear HIH
      have hpp : p = 1 ∨ p = 2 ∨ p = 3 ∨ p = 4 ∨ p = 5 ∨ p = 6 ∨ p = 7 ∨ p = 8 ∨ p = 9 ∨ p = 10 ∨ p = 11 := by omega
      rcases hpp with h | h | h | h | h | h | h | h | h | h | h
      · subst h
        obtain rfl : j = 0 := by
          have h1 := HAr.out
          have h2 : ar (((1 : Nat)) : Int) = 0 := by decide
          omega
        have E : Hid (nmd N M t = true ∧ TxV N M t = ⟨#[116, 114, 117, 101]⟩) := by
          have h1 : nmd N M t = true := by rw [HNq.out]; simp
          refine ⟨h1, ?_⟩
          rw [TxV, if_pos h1, HT.out]
          simp [sg, byt]
        clear HT HF HNq HS HZ
        go_wp2
        go_ret2
        exact ⟨by rw [E.out.1, E.out.2]; rfl, HBr.out⟩
      · subst h
        obtain rfl : j = 0 := by
          have h1 := HAr.out
          have h2 : ar (((2 : Nat)) : Int) = 0 := by decide
          omega
        have E : Hid (nmd N M t = true ∧ TxV N M t = ⟨#[102, 97, 108, 115, 101]⟩) := by
          have h1 : nmd N M t = true := by rw [HNq.out]; simp
          refine ⟨h1, ?_⟩
          rw [TxV, if_pos h1, HT.out]
          simp [sg, byt]
        clear HT HF HNq HS HZ
        go_wp2
        go_ret2
        exact ⟨by rw [E.out.1, E.out.2]; rfl, HBr.out⟩
      · subst h
        obtain rfl : j = 0 := by
          have h1 := HAr.out
          have h2 : ar (((3 : Nat)) : Int) = 0 := by decide
          omega
        have hf2 : 0 ≤ n ∧ n ≤ 63 := HFA.out rfl
        obtain ⟨x, rfl⟩ : ∃ x : Nat, n = x := ⟨n.toNat, by omega⟩
        have C : Hid (Calls Tryd.prog 22 #[.int .i64 x, .slice na N nc] wr fun e w' => e = .returned (.string (wd N M x)) ∧ Below wr.heap.size wr w') := nameOf_any na N nc M x wr (by omega) hN HM.out (HNm.out.below HBr.out)
        have h1 : nmd N M t = wok N M x := by rw [HNq.out]; simp
        have h2 : tx N M t = (wd N M x).data.toList := by rw [HT.out]; simp
        have E : Hid (nmd N M t = wok N M x ∧ TxV N M t = wd N M x) := by
          refine ⟨h1, ?_⟩
          unfold TxV
          rw [h1, h2]
          cases hw : wok N M x
          · rw [if_neg (by decide), wd_no hw]
          · rfl
        have HWd := hid (wd_eq N M x)
        clear HT HF HNq HS HZ h1 h2 hf2
        generalize wd N M x = wv at *
        generalize wok N M x = wb at *
        go_wp2_with fail
        refine C.out.mono ?_
        rintro e w5 ⟨rfl, hb5⟩
        have H5 : Hid (Below w.heap.size w w5) := HBr.out.trans (hb5.mono HBr.out.size)
        clear C hb5
        have hwd := HWd.out
        cases wb
        · go_wp2
          go_ret2
          exact ⟨by rw [E.out.1, E.out.2]; rfl, H5.out⟩
        · go_wp2
          go_ret2
          exact ⟨by rw [E.out.1, E.out.2]; rfl, H5.out⟩
      · subst h
        obtain rfl : j = 1 := by
          have h1 := HAr.out
          have h2 : ar (((4 : Nat)) : Int) = 1 := by decide
          omega
        obtain ⟨g, rfl, hcell⟩ := HS.out (by omega)
        have hc0 := hcell 0 (par (bare (kid 0).kind (4 : Nat) 0) (tx N M (kid 0))) rfl
        have hz0 := HZ.out 0 (by omega)
        have h1 := HF.out (by omega)
        have h2 : tx N M t = (sg 4).data.toList ++ par (bare (kid 0).kind (4 : Nat) 0) (tx N M (kid 0)) := HT.out
        generalize par (bare (kid 0).kind (4 : Nat) 0) (tx N M (kid 0)) = s0 at *
        have E : Hid (nmd N M t = true ∧ TxV N M t = ⟨#[33]⟩ ++ byt s0) := by
          refine ⟨h1, ?_⟩
          rw [TxV, if_pos h1, h2]
          apply ByteArray.ext
          simp [byt, sg]
        have hs0 : (byt s0).size ≤ 722 := by rw [byt_size]; exact hz0
        clear HT HF HNq HS HZ h1 h2 hcell hz0
        generalize byt s0 = b0 at *
        go_wp2
        go_ret2
        exact ⟨by rw [E.out.1, E.out.2]; rfl, HBr.out⟩
      · subst h
        obtain rfl : j = 2 := by
          have h1 := HAr.out
          have h2 : ar (((5 : Nat)) : Int) = 2 := by decide
          omega
        obtain ⟨g, rfl, hcell⟩ := HS.out (by omega)
        have hc0 := hcell 0 (par (bare (kid 0).kind (5 : Nat) 0) (tx N M (kid 0))) rfl
        have hc1 := hcell 1 (par (bare (kid 1).kind (5 : Nat) 1) (tx N M (kid 1))) rfl
        have hz0 := HZ.out 0 (by omega)
        have hz1 := HZ.out 1 (by omega)
        have h1 := HF.out (by omega)
        have h2 : tx N M t = par (bare (kid 0).kind (5 : Nat) 0) (tx N M (kid 0)) ++ ((sg 5).data.toList ++ par (bare (kid 1).kind (5 : Nat) 1) (tx N M (kid 1))) := HT.out
        generalize par (bare (kid 0).kind (5 : Nat) 0) (tx N M (kid 0)) = s0 at *
        generalize par (bare (kid 1).kind (5 : Nat) 1) (tx N M (kid 1)) = s1 at *
        have E : Hid (nmd N M t = true ∧ TxV N M t = byt s0 ++ ⟨#[32, 38, 32]⟩ ++ byt s1) := by
          refine ⟨h1, ?_⟩
          rw [TxV, if_pos h1, h2]
          apply ByteArray.ext
          simp [byt, sg]
        have hs0 : (byt s0).size ≤ 722 := by rw [byt_size]; exact hz0
        have hs1 : (byt s1).size ≤ 722 := by rw [byt_size]; exact hz1
        clear HT HF HNq HS HZ h1 h2 hcell hz0 hz1
        generalize byt s0 = b0 at *
        generalize byt s1 = b1 at *
        go_wp2
        go_quiet (fail)
        go_wp2
        go_ret2
        exact ⟨by rw [E.out.1, E.out.2]; rfl, below_drewN HBr.out _⟩
      · subst h
        obtain rfl : j = 2 := by
          have h1 := HAr.out
          have h2 : ar (((6 : Nat)) : Int) = 2 := by decide
          omega
        obtain ⟨g, rfl, hcell⟩ := HS.out (by omega)
        have hc0 := hcell 0 (par (bare (kid 0).kind (6 : Nat) 0) (tx N M (kid 0))) rfl
        have hc1 := hcell 1 (par (bare (kid 1).kind (6 : Nat) 1) (tx N M (kid 1))) rfl
        have hz0 := HZ.out 0 (by omega)
        have hz1 := HZ.out 1 (by omega)
        have h1 := HF.out (by omega)
        have h2 : tx N M t = par (bare (kid 0).kind (6 : Nat) 0) (tx N M (kid 0)) ++ ((sg 6).data.toList ++ par (bare (kid 1).kind (6 : Nat) 1) (tx N M (kid 1))) := HT.out
        generalize par (bare (kid 0).kind (6 : Nat) 0) (tx N M (kid 0)) = s0 at *
        generalize par (bare (kid 1).kind (6 : Nat) 1) (tx N M (kid 1)) = s1 at *
        have E : Hid (nmd N M t = true ∧ TxV N M t = byt s0 ++ ⟨#[32, 47, 32]⟩ ++ byt s1) := by
          refine ⟨h1, ?_⟩
          rw [TxV, if_pos h1, h2]
          apply ByteArray.ext
          simp [byt, sg]
        have hs0 : (byt s0).size ≤ 722 := by rw [byt_size]; exact hz0
        have hs1 : (byt s1).size ≤ 722 := by rw [byt_size]; exact hz1
        clear HT HF HNq HS HZ h1 h2 hcell hz0 hz1
        generalize byt s0 = b0 at *
        generalize byt s1 = b1 at *
        go_wp2
        go_quiet (fail)
        go_wp2
        go_ret2
        exact ⟨by rw [E.out.1, E.out.2]; rfl, below_drewN HBr.out _⟩
      · subst h
        obtain rfl : j = 1 := by
          have h1 := HAr.out
          have h2 : ar (((7 : Nat)) : Int) = 1 := by decide
          omega
        obtain ⟨g, rfl, hcell⟩ := HS.out (by omega)
        have hc0 := hcell 0 (par (bare (kid 0).kind (7 : Nat) 0) (tx N M (kid 0))) rfl
        have hz0 := HZ.out 0 (by omega)
        have h1 := HF.out (by omega)
        have h2 : tx N M t = (sg 7).data.toList ++ par (bare (kid 0).kind (7 : Nat) 0) (tx N M (kid 0)) := HT.out
        generalize par (bare (kid 0).kind (7 : Nat) 0) (tx N M (kid 0)) = s0 at *
        have E : Hid (nmd N M t = true ∧ TxV N M t = ⟨#[88, 32]⟩ ++ byt s0) := by
          refine ⟨h1, ?_⟩
          rw [TxV, if_pos h1, h2]
          apply ByteArray.ext
          simp [byt, sg]
        have hs0 : (byt s0).size ≤ 722 := by rw [byt_size]; exact hz0
        clear HT HF HNq HS HZ h1 h2 hcell hz0
        generalize byt s0 = b0 at *
        go_wp2
        go_ret2
        exact ⟨by rw [E.out.1, E.out.2]; rfl, HBr.out⟩
      · subst h
        obtain rfl : j = 2 := by
          have h1 := HAr.out
          have h2 : ar (((8 : Nat)) : Int) = 2 := by decide
          omega
        obtain ⟨g, rfl, hcell⟩ := HS.out (by omega)
        have hc0 := hcell 0 (par (bare (kid 0).kind (8 : Nat) 0) (tx N M (kid 0))) rfl
        have hc1 := hcell 1 (par (bare (kid 1).kind (8 : Nat) 1) (tx N M (kid 1))) rfl
        have hz0 := HZ.out 0 (by omega)
        have hz1 := HZ.out 1 (by omega)
        have h1 := HF.out (by omega)
        have h2 : tx N M t = par (bare (kid 0).kind (8 : Nat) 0) (tx N M (kid 0)) ++ ((sg 8).data.toList ++ par (bare (kid 1).kind (8 : Nat) 1) (tx N M (kid 1))) := HT.out
        generalize par (bare (kid 0).kind (8 : Nat) 0) (tx N M (kid 0)) = s0 at *
        generalize par (bare (kid 1).kind (8 : Nat) 1) (tx N M (kid 1)) = s1 at *
        have E : Hid (nmd N M t = true ∧ TxV N M t = byt s0 ++ ⟨#[32, 85, 32]⟩ ++ byt s1) := by
          refine ⟨h1, ?_⟩
          rw [TxV, if_pos h1, h2]
          apply ByteArray.ext
          simp [byt, sg]
        have hs0 : (byt s0).size ≤ 722 := by rw [byt_size]; exact hz0
        have hs1 : (byt s1).size ≤ 722 := by rw [byt_size]; exact hz1
        clear HT HF HNq HS HZ h1 h2 hcell hz0 hz1
        generalize byt s0 = b0 at *
        generalize byt s1 = b1 at *
        go_wp2
        go_quiet (fail)
        go_wp2
        go_ret2
        exact ⟨by rw [E.out.1, E.out.2]; rfl, below_drewN HBr.out _⟩
      · subst h
        obtain rfl : j = 2 := by
          have h1 := HAr.out
          have h2 : ar (((9 : Nat)) : Int) = 2 := by decide
          omega
        obtain ⟨g, rfl, hcell⟩ := HS.out (by omega)
        have hc0 := hcell 0 (par (bare (kid 0).kind (9 : Nat) 0) (tx N M (kid 0))) rfl
        have hc1 := hcell 1 (par (bare (kid 1).kind (9 : Nat) 1) (tx N M (kid 1))) rfl
        have hz0 := HZ.out 0 (by omega)
        have hz1 := HZ.out 1 (by omega)
        have h1 := HF.out (by omega)
        have h2 : tx N M t = par (bare (kid 0).kind (9 : Nat) 0) (tx N M (kid 0)) ++ ((sg 9).data.toList ++ par (bare (kid 1).kind (9 : Nat) 1) (tx N M (kid 1))) := HT.out
        generalize par (bare (kid 0).kind (9 : Nat) 0) (tx N M (kid 0)) = s0 at *
        generalize par (bare (kid 1).kind (9 : Nat) 1) (tx N M (kid 1)) = s1 at *
        have E : Hid (nmd N M t = true ∧ TxV N M t = byt s0 ++ ⟨#[32, 82, 32]⟩ ++ byt s1) := by
          refine ⟨h1, ?_⟩
          rw [TxV, if_pos h1, h2]
          apply ByteArray.ext
          simp [byt, sg]
        have hs0 : (byt s0).size ≤ 722 := by rw [byt_size]; exact hz0
        have hs1 : (byt s1).size ≤ 722 := by rw [byt_size]; exact hz1
        clear HT HF HNq HS HZ h1 h2 hcell hz0 hz1
        generalize byt s0 = b0 at *
        generalize byt s1 = b1 at *
        go_wp2
        go_quiet (fail)
        go_wp2
        go_ret2
        exact ⟨by rw [E.out.1, E.out.2]; rfl, below_drewN HBr.out _⟩
      · subst h
        obtain rfl : j = 1 := by
          have h1 := HAr.out
          have h2 : ar (((10 : Nat)) : Int) = 1 := by decide
          omega
        obtain ⟨g, rfl, hcell⟩ := HS.out (by omega)
        have hc0 := hcell 0 (par (bare (kid 0).kind (10 : Nat) 0) (tx N M (kid 0))) rfl
        have hz0 := HZ.out 0 (by omega)
        have h1 := HF.out (by omega)
        have h2 : tx N M t = (sg 10).data.toList ++ par (bare (kid 0).kind (10 : Nat) 0) (tx N M (kid 0)) := HT.out
        generalize par (bare (kid 0).kind (10 : Nat) 0) (tx N M (kid 0)) = s0 at *
        have E : Hid (nmd N M t = true ∧ TxV N M t = ⟨#[70, 32]⟩ ++ byt s0) := by
          refine ⟨h1, ?_⟩
          rw [TxV, if_pos h1, h2]
          apply ByteArray.ext
          simp [byt, sg]
        have hs0 : (byt s0).size ≤ 722 := by rw [byt_size]; exact hz0
        clear HT HF HNq HS HZ h1 h2 hcell hz0
        generalize byt s0 = b0 at *
        go_wp2
        go_ret2
        exact ⟨by rw [E.out.1, E.out.2]; rfl, HBr.out⟩
      · subst h
        obtain rfl : j = 1 := by
          have h1 := HAr.out
          have h2 : ar (((11 : Nat)) : Int) = 1 := by decide
          omega
        obtain ⟨g, rfl, hcell⟩ := HS.out (by omega)
        have hc0 := hcell 0 (par (bare (kid 0).kind (11 : Nat) 0) (tx N M (kid 0))) rfl
        have hz0 := HZ.out 0 (by omega)
        have h1 := HF.out (by omega)
        have h2 : tx N M t = (sg 11).data.toList ++ par (bare (kid 0).kind (11 : Nat) 0) (tx N M (kid 0)) := HT.out
        generalize par (bare (kid 0).kind (11 : Nat) 0) (tx N M (kid 0)) = s0 at *
        have E : Hid (nmd N M t = true ∧ TxV N M t = ⟨#[71, 32]⟩ ++ byt s0) := by
          refine ⟨h1, ?_⟩
          rw [TxV, if_pos h1, h2]
          apply ByteArray.ext
          simp [byt, sg]
        have hs0 : (byt s0).size ≤ 722 := by rw [byt_size]; exact hz0
        clear HT HF HNq HS HZ h1 h2 hcell hz0
        generalize byt s0 = b0 at *
        go_wp2
        go_ret2
        exact ⟨by rw [E.out.1, E.out.2]; rfl, HBr.out⟩

end Go.Proofs.YtgpjlgffmlkkoaaDoor
