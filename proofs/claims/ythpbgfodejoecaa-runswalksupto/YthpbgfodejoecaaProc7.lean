/- flowsAt, Ins, Outs. -/
import Derived.Test.YthpbgfodejoecaaSndLeafJ
namespace Go.Proofs.Ythpbgfodejoecaa
open Go.RowKit

/-- The numbers below k of the flows whose end is x, rising. -/
def fl (X : Nat → Int) (x : Int) : Nat → List Int
  | 0 => []
  | k + 1 => if X k = x then fl X x k ++ [(k : Int)] else fl X x k

theorem fl_hit {X : Nat → Int} {x : Int} {k : Nat} (h : X k = x) : fl X x (k + 1) = fl X x k ++ [(k : Int)] := by simp [fl, h]
theorem fl_miss {X : Nat → Int} {x : Int} {k : Nat} (h : X k ≠ x) : fl X x (k + 1) = fl X x k := by simp [fl, h]

theorem fl_len (X : Nat → Int) (x : Int) : ∀ k, (fl X x k).length = tally X x k
  | 0 => rfl
  | k + 1 => by
    have := fl_len X x k
    by_cases h : X k = x
    · rw [fl_hit h, tally_hit h]; simp [this]
    · rw [fl_miss h, tally_miss h, this]

theorem mem_fl {X : Nat → Int} {x i : Int} : ∀ {k}, i ∈ fl X x k → ∃ j : Nat, i = j ∧ j < k ∧ X j = x
  | 0, h => by cases h
  | k + 1, h => by
    by_cases e : X k = x
    · rw [fl_hit e, List.mem_append, List.mem_singleton] at h
      rcases h with h | rfl
      · obtain ⟨j, h1, h2, h3⟩ := mem_fl h
        exact ⟨j, h1, by omega, h3⟩
      · exact ⟨k, rfl, by omega, e⟩
    · rw [fl_miss e] at h
      obtain ⟨j, h1, h2, h3⟩ := mem_fl h
      exact ⟨j, h1, by omega, h3⟩

/-- What a list that is made flow by flow looks like in memory. -/
theorem fl_step {w0 wr w1 : World} {v : Value} {X : Nat → Int} {x : Int} {k : Nat} {o : Obj} (hb : Below w0.heap.size w0 wr) (ho : wr.ownsRow w0.heap.size 3 1 v (tally X x k) (vals (fl X x k))) {v' : Value} (hX : X k = x)
    (hown : w1.ownsRow w0.heap.size 3 1 v' (tally X x k + 1) (vals (fl X x k) ++ [.int .i64 k])) (hgrow : (wr.alloc o).grownBy w1 v.ownBlock) :
    (∃ a c, v' = .slice a (tally X x k + 1) c) ∧ Hid (Below w0.heap.size w0 w1 ∧ w1.ownsRow w0.heap.size 3 1 v' (tally X x (k + 1)) (vals (fl X x (k + 1)))) := by
  refine ⟨?_, hid ⟨?_, ?_⟩⟩
  · rcases hown.2 with ⟨_, h0⟩ | ⟨g, cap, cur, rfl, _⟩
    · omega
    · exact ⟨_, _, rfl⟩
  · exact hb.grown ((World.grownBy_alloc _ _ _).trans hgrow) hb.size (fun b h => (ho.lt b h).1)
  · rw [tally_hit hX, fl_hit hX, ← vals_snoc]
    exact hown

theorem below_ownsRow {w w' : World} {B s n : Nat} {e : TypeId} {v : Value} {xs : List Value} (h : w.ownsRow B e s v n xs) (hb : Below w.heap.size w w') : w'.ownsRow B e s v n xs := by
  refine ⟨h.1, ?_⟩
  rcases h.2 with h0 | ⟨g, cap, cur, h1, h2, h3, h4⟩
  · exact Or.inl h0
  · exact Or.inr ⟨g, cap, cur, h1, h2, (hb.block g (Array.getElem?_eq_some_iff.1 h3).1).trans h3, h4⟩

theorem fl_row {w : World} {B : Nat} {a : Option Addr} {c : Nat} {X : Nat → Int} {x : Int} {k : Nat} (h : w.ownsRow B 3 1 (.slice a (tally X x k) c) (tally X x k) (vals (fl X x k))) : Row w a (tally X x k) (fun i => (fl X x k).getD i 0) := by
  rw [← fl_len] at h ⊢
  obtain ⟨a', c', e, hr⟩ := owns_row h
  cases e
  exact hr

theorem toFn_any (a b : Int) (w : World) : Calls Try.prog 112 #[.agg #[.int .i64 a, .int .i64 b]] w fun e w' => e = .returned (.int .i64 b) ∧ Below w.heap.size w w' := by
  go_enter Try.func112, Try.ntmps112
  go_wp2
  go_ret
  exact ⟨rfl, box_below _ _⟩

theorem fromFn_any (a b : Int) (w : World) : Calls Try.prog 113 #[.agg #[.int .i64 a, .int .i64 b]] w fun e w' => e = .returned (.int .i64 a) ∧ Below w.heap.size w w' := by
  go_enter Try.func113, Try.ntmps113
  go_wp2
  go_ret
  exact ⟨rfl, box_below _ _⟩

/-- What Ins and Outs answer. -/
def FlIs (N F : Nat) (X : Nat → Int) (e0 x : Int) (e : Ending) (w : World) : Prop :=
  ((e0 ≠ 0 ∧ e = .returned (.tuple #[.slice none 0 0, .int .i64 e0])) ∨ (e0 = 0 ∧ ¬ (0 ≤ x ∧ x < N) ∧ e = .returned (.tuple #[.slice none 0 0, .int .i64 1])) ∨
       (e0 = 0 ∧ (0 ≤ x ∧ x < N) ∧ ∃ a c, e = .returned (.tuple #[.slice a (tally X x F) c, .int .i64 0]) ∧ Row w a (tally X x F) (fun i => (fl X x F).getD i 0)))

set_option maxHeartbeats 1000000 in
theorem flowsAtTo_any (na fa : Option Addr) (N nc F fc : Nat) (M : Nat → ByteArray) (K A B : Nat → Int) (e0 : Int) (x : Int) (w : World) (hp : Prc w na N nc fa F M K A B) (he : ChkIs N F M K A B e0) :
    Calls Try.prog 111 #[.agg #[.slice na N nc, .slice fa F fc], .int .i64 x, .func (.func 112) #[] #[]] w fun e w' => Below w.heap.size w w' ∧ FlIs N F B e0 x e w' := by
  have HP : Hid (Prc w na N nc fa F M K A B) := hp
  have hF := hp.nF
  have HGf : Hid (∀ i, i < F → ∀ u, Calls Try.prog 112 #[.agg #[.int .i64 (A i), .int .i64 (B i)]] u fun e w' => e = .returned (.int .i64 (B i)) ∧ Below u.heap.size u w') := fun i _ u => toFn_any (A i) (B i) u
  clear hp
  obtain ⟨i0, hi, hz0, hz1, hz2⟩ := info_parts Try.info3
  have HI : Hid (Try.prog.info? 3 = some i0 ∧ i0.zero = some (.int .i64 0) ∧ i0.size = 1 ∧ i0.bytes = 8) := ⟨hi, hz0, hz1, hz2⟩
  clear hi hz0 hz1 hz2
  obtain ⟨W, eW⟩ : ∃ x, x = w.alloc (.cells #[.slice na N nc, .slice fa F fc] 25) := ⟨_, rfl⟩
  have HW : Hid (Below w.heap.size w W ∧ W.heap.size = w.heap.size + 1) := by subst eW; exact ⟨box_below _ _, by simp⟩
  have HBx : Hid (∀ w1, Below W.heap.size W w1 → w1.cell? ⟨w.heap.size, 0, none⟩ = some (.slice na N nc) ∧ w1.cell? ⟨w.heap.size, 1, none⟩ = some (.slice fa F fc)) := fun w1 h => by
    have h' : Below (w.heap.size + 1) (w.alloc (.cells #[.slice na N nc, .slice fa F fc] 25)) w1 := by rw [← HW.out.2, ← eW]; exact h
    exact ⟨box_keep h' rfl, box_keep h' rfl⟩
  have HEW : Hid (w.alloc (.cells #[.slice na N nc, .slice fa F fc] 25) = W) := eW.symm
  have C1 : Hid (Calls Try.prog 49 #[.agg #[.slice na N nc, .slice fa F fc]] W fun e w' => e = .returned (.int .i64 e0) ∧ Below W.heap.size W w') := procCheck_any na fa N nc F fc M K A B e0 W (HP.out.below HW.out.1) he
  clear eW
  have HC0 : Hid (ChkIs N F M K A B e0) := he
  clear he
  go_enter Try.func111, Try.ntmps111
  go_wp2_with fail
  rw [HEW.out]
  refine C1.out.mono ?_
  rintro e w1 ⟨rfl, hb1⟩
  have HB1 : Hid (Below W.heap.size W w1) := hb1
  obtain ⟨hc0, hc1⟩ := HBx.out w1 hb1
  clear hb1 C1
  by_cases hz : e0 = 0
  · have HZ : Hid (e0 = 0) := hz
    have hz' : (e0 != 0) = false := by rw [hz]; rfl
    have hF30 : F ≤ 30 := by have := HC0.out; rw [hz] at this; exact (chk_zero this).1.2
    clear hz
    have C2 := isNode_any na fa N nc F fc x w1
    by_cases hx : 0 ≤ x ∧ x < N
    · rw [decide_eq_true hx] at C2
      have HC2 : Hid (Calls Try.prog 107 #[.agg #[.slice na N nc, .slice fa F fc], .int .i64 x] w1 fun e w' => e = .returned (.bool true) ∧ Below w1.heap.size w1 w') := C2
      have HX : Hid (0 ≤ x ∧ x < N) := hx
      clear C2 hx HC0
      go_wp2_with fail
      refine HC2.out.mono ?_
      rintro e w2 ⟨rfl, hb2⟩
      have HB2 : Hid (Below W.heap.size W w2) := HB1.out.trans (hb2.mono HB1.out.size)
      have HBw2 : Hid (Below w.heap.size w w2) := HW.out.1.trans (HB2.out.mono HW.out.1.size)
      clear hc0 hc1
      obtain ⟨hc0, hc1⟩ := HBx.out w2 HB2.out
      clear hb2 HC2 HB1
      go_wp2
      go_loopw [9, 24] (fun v i wr => ∃ (k : Nat) (va : Option Addr) (vc : Nat), k ≤ F ∧ i = .int .i64 k ∧ v = .slice va (tally B x k) vc ∧ Hid (Below w2.heap.size w2 wr ∧ wr.ownsRow w2.heap.size 3 1 (.slice va (tally B x k) vc) (tally B x k) (vals (fl B x k)))) (fun _ i _ => F - (intOf i).toNat)
      case atStart => exact ⟨0, none, 0, Nat.zero_le _, rfl, rfl, hid ⟨Below.refl _ _, World.ownsRow_nil _ _ _ _⟩⟩
      case round =>
        obtain ⟨k, va, vc, hk, rfl, rfl, HS⟩ := hrel
        have HBw : Hid (Below w.heap.size w wr) := HBw2.out.trans (HS.out.1.mono HBw2.out.size)
        by_cases hlt : k < F
        · obtain ⟨b, o, ha, hc⟩ := HP.out.fls
          obtain rfl := ha (by omega)
          obtain ⟨h1, h2⟩ := Fls.at hc HBw.out hlt
          clear hc ha
          have C3 : Hid (Calls Try.prog 112 #[.agg #[.int .i64 (A k), .int .i64 (B k)]] (wr.alloc (.cells #[.int .i64 (A k), .int .i64 (B k)] 86)) fun e w' => e = .returned (.int .i64 (B k)) ∧ Below (wr.alloc (.cells #[.int .i64 (A k), .int .i64 (B k)] 86)).heap.size (wr.alloc (.cells #[.int .i64 (A k), .int .i64 (B k)] 86)) w') := HGf.out k hlt _
          have hfz := tally_le B x k
          go_wp2_with fail
          refine C3.out.mono ?_
          rintro e w3 ⟨rfl, hb3⟩
          have HB3 : Hid (Below w2.heap.size w2 w3) := (HS.out.1.alloc HS.out.1.size _).trans (hb3.mono (by have := HS.out.1.size; simp; omega))
          have HO3 : Hid (w3.ownsRow w2.heap.size 3 1 (.slice va (tally B x k) vc) (tally B x k) (vals (fl B x k))) := below_ownsRow (HS.out.2.alloc _) hb3
          have HSz3 : Hid (w2.heap.size ≤ w3.heap.size) := HB3.out.size
          clear hb3 C3 h1 h2
          by_cases hX : B k = x
          · have HXk : Hid (B k = x) := hX
            have hX' : (B k == x) = true := beq_iff_eq.2 hX
            clear hX
            go_wp2_with (at_builtin; refine wpList_append_own_at _ rfl _ _ 26 rfl w2.heap.size 3 i0 (.int .i64 0) 1 8 Try.underlying26 HI.out.1 HI.out.2.1 HI.out.2.2.1 HI.out.2.2.2 rfl (by decide) _ _ _ rfl (HO3.out.alloc _) ⟨w3.heap.size, 0, none⟩ 1 1 [.int .i64 k] rfl rfl (cell_one_new _ _ _) (ints_oneCell .i64 [(k : Int)]) (by unfold maxLen; omega) (by omega) (by have := HSz3.out; simp; omega) ?_; intro v' w4 hown hgrow _ _; obtain ⟨⟨a4, c4, rfl⟩, H4⟩ := fl_step HB3.out HO3.out HXk.out hown hgrow; clear hown hgrow)
            go_roundw
            case rel => exact ⟨k + 1, a4, c4, by omega, by go_num, by rw [tally_hit HXk.out], hid ⟨H4.out.1, by have := H4.out.2; rw [tally_hit HXk.out] at this ⊢; exact this⟩⟩
            case measure => simp [intOf]; omega
          · have HXk : Hid (B k ≠ x) := hX
            have hX' : (B k == x) = false := beq_eq_false_iff_ne.2 hX
            clear hX
            go_wp2
            go_roundw
            case rel => exact ⟨k + 1, va, vc, by omega, by go_num, by rw [tally_miss HXk.out], hid ⟨HB3.out, by have := HO3.out; rw [tally_miss HXk.out, fl_miss HXk.out]; exact this⟩⟩
            case measure => simp [intOf]; omega
        · obtain rfl : F = k := by omega
          go_wp2
          go_ret2
          exact ⟨HBw.out, Or.inr (Or.inr ⟨HZ.out, HX.out, _, _, rfl, fl_row HS.out.2⟩)⟩
    · rw [decide_eq_false hx] at C2
      have HC2 : Hid (Calls Try.prog 107 #[.agg #[.slice na N nc, .slice fa F fc], .int .i64 x] w1 fun e w' => e = .returned (.bool false) ∧ Below w1.heap.size w1 w') := C2
      have HX : Hid (¬ (0 ≤ x ∧ x < N)) := hx
      clear C2 hx HC0
      go_wp2_with fail
      refine HC2.out.mono ?_
      rintro e w2 ⟨rfl, hb2⟩
      have HB2 : Hid (Below w.heap.size w w2) := HW.out.1.trans ((HB1.out.trans (hb2.mono HB1.out.size)).mono HW.out.1.size)
      clear hb2 HC2
      go_wp2
      go_ret2
      exact ⟨HB2.out, Or.inr (Or.inl ⟨HZ.out, HX.out, rfl⟩)⟩
  · have hz' : (e0 != 0) = true := by rw [bne_iff_ne]; exact hz
    have HZ : Hid (e0 ≠ 0) := hz
    have HB2 : Hid (Below w.heap.size w w1) := HW.out.1.trans (HB1.out.mono HW.out.1.size)
    clear hz
    go_wp2
    go_ret2
    exact ⟨HB2.out, Or.inl ⟨HZ.out, rfl⟩⟩

set_option maxHeartbeats 1000000 in
theorem flowsAtFrom_any (na fa : Option Addr) (N nc F fc : Nat) (M : Nat → ByteArray) (K A B : Nat → Int) (e0 : Int) (x : Int) (w : World) (hp : Prc w na N nc fa F M K A B) (he : ChkIs N F M K A B e0) :
    Calls Try.prog 111 #[.agg #[.slice na N nc, .slice fa F fc], .int .i64 x, .func (.func 113) #[] #[]] w fun e w' => Below w.heap.size w w' ∧ FlIs N F A e0 x e w' := by
  have HP : Hid (Prc w na N nc fa F M K A B) := hp
  have hF := hp.nF
  have HGf : Hid (∀ i, i < F → ∀ u, Calls Try.prog 113 #[.agg #[.int .i64 (A i), .int .i64 (B i)]] u fun e w' => e = .returned (.int .i64 (A i)) ∧ Below u.heap.size u w') := fun i _ u => fromFn_any (A i) (B i) u
  clear hp
  obtain ⟨i0, hi, hz0, hz1, hz2⟩ := info_parts Try.info3
  have HI : Hid (Try.prog.info? 3 = some i0 ∧ i0.zero = some (.int .i64 0) ∧ i0.size = 1 ∧ i0.bytes = 8) := ⟨hi, hz0, hz1, hz2⟩
  clear hi hz0 hz1 hz2
  obtain ⟨W, eW⟩ : ∃ x, x = w.alloc (.cells #[.slice na N nc, .slice fa F fc] 25) := ⟨_, rfl⟩
  have HW : Hid (Below w.heap.size w W ∧ W.heap.size = w.heap.size + 1) := by subst eW; exact ⟨box_below _ _, by simp⟩
  have HBx : Hid (∀ w1, Below W.heap.size W w1 → w1.cell? ⟨w.heap.size, 0, none⟩ = some (.slice na N nc) ∧ w1.cell? ⟨w.heap.size, 1, none⟩ = some (.slice fa F fc)) := fun w1 h => by
    have h' : Below (w.heap.size + 1) (w.alloc (.cells #[.slice na N nc, .slice fa F fc] 25)) w1 := by rw [← HW.out.2, ← eW]; exact h
    exact ⟨box_keep h' rfl, box_keep h' rfl⟩
  have HEW : Hid (w.alloc (.cells #[.slice na N nc, .slice fa F fc] 25) = W) := eW.symm
  have C1 : Hid (Calls Try.prog 49 #[.agg #[.slice na N nc, .slice fa F fc]] W fun e w' => e = .returned (.int .i64 e0) ∧ Below W.heap.size W w') := procCheck_any na fa N nc F fc M K A B e0 W (HP.out.below HW.out.1) he
  clear eW
  have HC0 : Hid (ChkIs N F M K A B e0) := he
  clear he
  go_enter Try.func111, Try.ntmps111
  go_wp2_with fail
  rw [HEW.out]
  refine C1.out.mono ?_
  rintro e w1 ⟨rfl, hb1⟩
  have HB1 : Hid (Below W.heap.size W w1) := hb1
  obtain ⟨hc0, hc1⟩ := HBx.out w1 hb1
  clear hb1 C1
  by_cases hz : e0 = 0
  · have HZ : Hid (e0 = 0) := hz
    have hz' : (e0 != 0) = false := by rw [hz]; rfl
    have hF30 : F ≤ 30 := by have := HC0.out; rw [hz] at this; exact (chk_zero this).1.2
    clear hz
    have C2 := isNode_any na fa N nc F fc x w1
    by_cases hx : 0 ≤ x ∧ x < N
    · rw [decide_eq_true hx] at C2
      have HC2 : Hid (Calls Try.prog 107 #[.agg #[.slice na N nc, .slice fa F fc], .int .i64 x] w1 fun e w' => e = .returned (.bool true) ∧ Below w1.heap.size w1 w') := C2
      have HX : Hid (0 ≤ x ∧ x < N) := hx
      clear C2 hx HC0
      go_wp2_with fail
      refine HC2.out.mono ?_
      rintro e w2 ⟨rfl, hb2⟩
      have HB2 : Hid (Below W.heap.size W w2) := HB1.out.trans (hb2.mono HB1.out.size)
      have HBw2 : Hid (Below w.heap.size w w2) := HW.out.1.trans (HB2.out.mono HW.out.1.size)
      clear hc0 hc1
      obtain ⟨hc0, hc1⟩ := HBx.out w2 HB2.out
      clear hb2 HC2 HB1
      go_wp2
      go_loopw [9, 24] (fun v i wr => ∃ (k : Nat) (va : Option Addr) (vc : Nat), k ≤ F ∧ i = .int .i64 k ∧ v = .slice va (tally A x k) vc ∧ Hid (Below w2.heap.size w2 wr ∧ wr.ownsRow w2.heap.size 3 1 (.slice va (tally A x k) vc) (tally A x k) (vals (fl A x k)))) (fun _ i _ => F - (intOf i).toNat)
      case atStart => exact ⟨0, none, 0, Nat.zero_le _, rfl, rfl, hid ⟨Below.refl _ _, World.ownsRow_nil _ _ _ _⟩⟩
      case round =>
        obtain ⟨k, va, vc, hk, rfl, rfl, HS⟩ := hrel
        have HBw : Hid (Below w.heap.size w wr) := HBw2.out.trans (HS.out.1.mono HBw2.out.size)
        by_cases hlt : k < F
        · obtain ⟨b, o, ha, hc⟩ := HP.out.fls
          obtain rfl := ha (by omega)
          obtain ⟨h1, h2⟩ := Fls.at hc HBw.out hlt
          clear hc ha
          have C3 : Hid (Calls Try.prog 113 #[.agg #[.int .i64 (A k), .int .i64 (B k)]] (wr.alloc (.cells #[.int .i64 (A k), .int .i64 (B k)] 86)) fun e w' => e = .returned (.int .i64 (A k)) ∧ Below (wr.alloc (.cells #[.int .i64 (A k), .int .i64 (B k)] 86)).heap.size (wr.alloc (.cells #[.int .i64 (A k), .int .i64 (B k)] 86)) w') := HGf.out k hlt _
          have hfz := tally_le A x k
          go_wp2_with fail
          refine C3.out.mono ?_
          rintro e w3 ⟨rfl, hb3⟩
          have HB3 : Hid (Below w2.heap.size w2 w3) := (HS.out.1.alloc HS.out.1.size _).trans (hb3.mono (by have := HS.out.1.size; simp; omega))
          have HO3 : Hid (w3.ownsRow w2.heap.size 3 1 (.slice va (tally A x k) vc) (tally A x k) (vals (fl A x k))) := below_ownsRow (HS.out.2.alloc _) hb3
          have HSz3 : Hid (w2.heap.size ≤ w3.heap.size) := HB3.out.size
          clear hb3 C3 h1 h2
          by_cases hX : A k = x
          · have HXk : Hid (A k = x) := hX
            have hX' : (A k == x) = true := beq_iff_eq.2 hX
            clear hX
            go_wp2_with (at_builtin; refine wpList_append_own_at _ rfl _ _ 26 rfl w2.heap.size 3 i0 (.int .i64 0) 1 8 Try.underlying26 HI.out.1 HI.out.2.1 HI.out.2.2.1 HI.out.2.2.2 rfl (by decide) _ _ _ rfl (HO3.out.alloc _) ⟨w3.heap.size, 0, none⟩ 1 1 [.int .i64 k] rfl rfl (cell_one_new _ _ _) (ints_oneCell .i64 [(k : Int)]) (by unfold maxLen; omega) (by omega) (by have := HSz3.out; simp; omega) ?_; intro v' w4 hown hgrow _ _; obtain ⟨⟨a4, c4, rfl⟩, H4⟩ := fl_step HB3.out HO3.out HXk.out hown hgrow; clear hown hgrow)
            go_roundw
            case rel => exact ⟨k + 1, a4, c4, by omega, by go_num, by rw [tally_hit HXk.out], hid ⟨H4.out.1, by have := H4.out.2; rw [tally_hit HXk.out] at this ⊢; exact this⟩⟩
            case measure => simp [intOf]; omega
          · have HXk : Hid (A k ≠ x) := hX
            have hX' : (A k == x) = false := beq_eq_false_iff_ne.2 hX
            clear hX
            go_wp2
            go_roundw
            case rel => exact ⟨k + 1, va, vc, by omega, by go_num, by rw [tally_miss HXk.out], hid ⟨HB3.out, by have := HO3.out; rw [tally_miss HXk.out, fl_miss HXk.out]; exact this⟩⟩
            case measure => simp [intOf]; omega
        · obtain rfl : F = k := by omega
          go_wp2
          go_ret2
          exact ⟨HBw.out, Or.inr (Or.inr ⟨HZ.out, HX.out, _, _, rfl, fl_row HS.out.2⟩)⟩
    · rw [decide_eq_false hx] at C2
      have HC2 : Hid (Calls Try.prog 107 #[.agg #[.slice na N nc, .slice fa F fc], .int .i64 x] w1 fun e w' => e = .returned (.bool false) ∧ Below w1.heap.size w1 w') := C2
      have HX : Hid (¬ (0 ≤ x ∧ x < N)) := hx
      clear C2 hx HC0
      go_wp2_with fail
      refine HC2.out.mono ?_
      rintro e w2 ⟨rfl, hb2⟩
      have HB2 : Hid (Below w.heap.size w w2) := HW.out.1.trans ((HB1.out.trans (hb2.mono HB1.out.size)).mono HW.out.1.size)
      clear hb2 HC2
      go_wp2
      go_ret2
      exact ⟨HB2.out, Or.inr (Or.inl ⟨HZ.out, HX.out, rfl⟩)⟩
  · have hz' : (e0 != 0) = true := by rw [bne_iff_ne]; exact hz
    have HZ : Hid (e0 ≠ 0) := hz
    have HB2 : Hid (Below w.heap.size w w1) := HW.out.1.trans (HB1.out.mono HW.out.1.size)
    clear hz
    go_wp2
    go_ret2
    exact ⟨HB2.out, Or.inl ⟨HZ.out, rfl⟩⟩

set_option maxHeartbeats 400000 in
theorem ins_any (na fa : Option Addr) (N nc F fc : Nat) (M : Nat → ByteArray) (K A B : Nat → Int) (e0 : Int) (x : Int) (w : World) (hp : Prc w na N nc fa F M K A B) (he : ChkIs N F M K A B e0) :
    Calls Try.prog 82 #[.agg #[.slice na N nc, .slice fa F fc], .int .i64 x] w fun e w' => Below w.heap.size w w' ∧ FlIs N F B e0 x e w' := by
  obtain ⟨W, eW⟩ : ∃ x, x = w.alloc (.cells #[.slice na N nc, .slice fa F fc] 25) := ⟨_, rfl⟩
  have HW : Hid (Below w.heap.size w W) := by subst eW; exact box_below _ _
  have HEW : Hid (w.alloc (.cells #[.slice na N nc, .slice fa F fc] 25) = W) := eW.symm
  have C : Hid (Calls Try.prog 111 #[.agg #[.slice na N nc, .slice fa F fc], .int .i64 x, .func (.func 112) #[] #[]] W fun e w' => Below W.heap.size W w' ∧ FlIs N F B e0 x e w') := flowsAtTo_any na fa N nc F fc M K A B e0 x W (hp.below HW.out) he
  clear eW hp he
  go_enter Try.func82, Try.ntmps82
  go_wp2_with fail
  rw [HEW.out]
  refine C.out.mono ?_
  rintro e w1 ⟨hb1, h⟩
  have HB1 : Hid (Below w.heap.size w w1) := HW.out.trans (hb1.mono HW.out.size)
  clear hb1 C
  rcases h with ⟨h1, rfl⟩ | ⟨h1, h2, rfl⟩ | ⟨h1, h2, a, c, rfl, h3⟩
  · have H1 : Hid (e0 ≠ 0) := h1
    clear h1
    go_wp2
    go_ret2
    exact ⟨HB1.out, Or.inl ⟨H1.out, rfl⟩⟩
  · have H1 : Hid (e0 = 0 ∧ ¬ (0 ≤ x ∧ x < N)) := ⟨h1, h2⟩
    clear h1 h2
    go_wp2
    go_ret2
    exact ⟨HB1.out, Or.inr (Or.inl ⟨H1.out.1, H1.out.2, rfl⟩)⟩
  · have H1 : Hid (e0 = 0 ∧ (0 ≤ x ∧ x < N) ∧ Row w1 a (tally B x F) (fun i => (fl B x F).getD i 0)) := ⟨h1, h2, h3⟩
    clear h1 h2 h3
    go_wp2
    go_ret2
    exact ⟨HB1.out, Or.inr (Or.inr ⟨H1.out.1, H1.out.2.1, a, c, rfl, H1.out.2.2⟩)⟩

set_option maxHeartbeats 400000 in
theorem outs_any (na fa : Option Addr) (N nc F fc : Nat) (M : Nat → ByteArray) (K A B : Nat → Int) (e0 : Int) (x : Int) (w : World) (hp : Prc w na N nc fa F M K A B) (he : ChkIs N F M K A B e0) :
    Calls Try.prog 83 #[.agg #[.slice na N nc, .slice fa F fc], .int .i64 x] w fun e w' => Below w.heap.size w w' ∧ FlIs N F A e0 x e w' := by
  obtain ⟨W, eW⟩ : ∃ x, x = w.alloc (.cells #[.slice na N nc, .slice fa F fc] 25) := ⟨_, rfl⟩
  have HW : Hid (Below w.heap.size w W) := by subst eW; exact box_below _ _
  have HEW : Hid (w.alloc (.cells #[.slice na N nc, .slice fa F fc] 25) = W) := eW.symm
  have C : Hid (Calls Try.prog 111 #[.agg #[.slice na N nc, .slice fa F fc], .int .i64 x, .func (.func 113) #[] #[]] W fun e w' => Below W.heap.size W w' ∧ FlIs N F A e0 x e w') := flowsAtFrom_any na fa N nc F fc M K A B e0 x W (hp.below HW.out) he
  clear eW hp he
  go_enter Try.func83, Try.ntmps83
  go_wp2_with fail
  rw [HEW.out]
  refine C.out.mono ?_
  rintro e w1 ⟨hb1, h⟩
  have HB1 : Hid (Below w.heap.size w w1) := HW.out.trans (hb1.mono HW.out.size)
  clear hb1 C
  rcases h with ⟨h1, rfl⟩ | ⟨h1, h2, rfl⟩ | ⟨h1, h2, a, c, rfl, h3⟩
  · have H1 : Hid (e0 ≠ 0) := h1
    clear h1
    go_wp2
    go_ret2
    exact ⟨HB1.out, Or.inl ⟨H1.out, rfl⟩⟩
  · have H1 : Hid (e0 = 0 ∧ ¬ (0 ≤ x ∧ x < N)) := ⟨h1, h2⟩
    clear h1 h2
    go_wp2
    go_ret2
    exact ⟨HB1.out, Or.inr (Or.inl ⟨H1.out.1, H1.out.2, rfl⟩)⟩
  · have H1 : Hid (e0 = 0 ∧ (0 ≤ x ∧ x < N) ∧ Row w1 a (tally A x F) (fun i => (fl A x F).getD i 0)) := ⟨h1, h2, h3⟩
    clear h1 h2 h3
    go_wp2
    go_ret2
    exact ⟨HB1.out, Or.inr (Or.inr ⟨H1.out.1, H1.out.2.1, a, c, rfl, H1.out.2.2⟩)⟩

end Go.Proofs.Ythpbgfodejoecaa
