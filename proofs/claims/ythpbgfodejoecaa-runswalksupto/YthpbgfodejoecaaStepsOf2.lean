/- Of. -/
import Derived.Test.YthpbgfodejoecaaStepsOf
namespace Go.Proofs.Ythpbgfodejoecaa
open Go.RowKit

/-- What Of answers: Check's error, or too many, or the steps. -/
def SpIs (e0 : Int) (l : List St3) (e : Ending) (w : World) : Prop :=
  (e0 ≠ 0 ∧ e = .returned (.tuple #[.slice none 0 0, .int .i64 e0])) ∨ (e0 = 0 ∧ 60 < l.length ∧ e = .returned (.tuple #[.slice none 0 0, .int .i64 2])) ∨
    (e0 = 0 ∧ l.length ≤ 60 ∧ ∃ a c, e = .returned (.tuple #[.slice a l.length c, .int .i64 0]) ∧ l.length ≤ c ∧ Sts w a l.length (fun i => l.getD i (0, 0, 0)))

theorem owns_cap {w : World} {b e s n c : Nat} {a : Option Addr} {xs : List Value} (h : w.ownsRow b e s (.slice a n c) n xs) : n ≤ c := by
  rcases h.2 with ⟨h1, h2⟩ | ⟨g, cap, cur, h1, _, _, h2, _⟩
  · omega
  · cases h1; exact h2

/-- 'all = append(all, l...)', l a list of steps that is not nil. -/
theorem sts_join {w0 wr w1 : World} {v v' : Value} {l m : List St3} (hb : Below w0.heap.size w0 wr) (ho : wr.ownsRow w0.heap.size 66 3 v l.length (vals3 l))
    (hown : w1.ownsRow w0.heap.size 66 3 v' (l.length + m.length) (vals3 l ++ vals3 m)) (hgrow : wr.grownBy w1 v.ownBlock) :
    ∃ a c, v' = .slice a (l ++ m).length c ∧ Hid (Below w0.heap.size w0 w1 ∧ w1.ownsRow w0.heap.size 66 3 (.slice a (l ++ m).length c) (l ++ m).length (vals3 (l ++ m))) := by
  have h : w1.ownsRow w0.heap.size 66 3 v' (l ++ m).length (vals3 (l ++ m)) := by rw [List.length_append, ← vals3_append]; exact hown
  obtain ⟨a, c, rfl, _⟩ := owns_sts h
  exact ⟨a, c, rfl, hid ⟨hb.grown hgrow hb.size (fun b h => (ho.lt b h).1), h⟩⟩

theorem join_cells {w : World} {b n c : Nat} {l : List St3} {x : Addr} (h : w.ownsRow b 66 3 (.slice (some x) n c) n (vals3 l)) : ∀ j u, (vals3 l)[j]? = some u → w.cell? (x.add j) = some u := by
  rcases h.2 with ⟨h1, _⟩ | ⟨g, cap, cur, h1, _⟩
  · cases h1
  · cases h1
    exact fun j u hj => h.cells (g := g) rfl j u hj

theorem none_nil {w : World} {b n c : Nat} {l : List St3} (h : w.ownsRow b 66 3 (.slice none n c) n (vals3 l)) : n = 0 ∧ c = 0 := by
  rcases h.2 with ⟨h1, h2⟩ | ⟨g, cap, cur, h1, _⟩
  · cases h1; exact ⟨rfl, rfl⟩
  · cases h1

set_option maxHeartbeats 4000000 in
theorem of_any (na fa : Option Addr) (N nc F fc : Nat) (M : Nat → ByteArray) (K A B : Nat → Int) (e0 : Int) (w : World) (hp : Prc w na N nc fa F M K A B) (he : ChkIs N F M K A B e0) :
    Calls Try.prog 19 #[.agg #[.slice na N nc, .slice fa F fc]] w fun e w' => Below w.heap.size w w' ∧ SpIs e0 (stAll K A B F N) e w' := by
  have HE : Hid (ChkIs N F M K A B e0) := he
  have HP : Hid (Prc w na N nc fa F M K A B) := hp
  have hNN := hp.nN
  clear he hp
  obtain ⟨i0, hi, hz0, hz1, hz2⟩ := info_parts Try.info66
  have HI : Hid (Try.prog.info? 66 = some i0 ∧ i0.zero = some (.agg #[.int .i64 0, .int .i64 0, .int .i64 0]) ∧ i0.size = 3 ∧ i0.bytes = 24) := ⟨hi, hz0, hz1, hz2⟩
  clear hi hz0 hz1 hz2
  obtain ⟨W, eW⟩ : ∃ x, x = w.alloc (.cells #[.slice na N nc, .slice fa F fc] 25) := ⟨_, rfl⟩
  have HW : Hid (Below w.heap.size w W ∧ W.heap.size = w.heap.size + 1) := by subst eW; exact ⟨box_below _ _, by simp⟩
  have HBx : Hid (∀ w1, Below W.heap.size W w1 → w1.cell? ⟨w.heap.size, 0, none⟩ = some (.slice na N nc) ∧ w1.cell? ⟨w.heap.size, 1, none⟩ = some (.slice fa F fc)) := fun w1 h => by
    have h' : Below (w.heap.size + 1) (w.alloc (.cells #[.slice na N nc, .slice fa F fc] 25)) w1 := by rw [← HW.out.2, ← eW]; exact h
    exact ⟨box_keep h' rfl, box_keep h' rfl⟩
  have HEW : Hid (w.alloc (.cells #[.slice na N nc, .slice fa F fc] 25) = W) := eW.symm
  have HPW : Hid (Prc W na N nc fa F M K A B) := HP.out.below HW.out.1
  clear eW
  have C1 : Hid (Calls Try.prog 49 #[.agg #[.slice na N nc, .slice fa F fc]] W fun e w' => e = .returned (.int .i64 e0) ∧ Below W.heap.size W w') := procCheck_any na fa N nc F fc M K A B e0 W HPW.out HE.out
  go_enter Try.func19, Try.ntmps19
  go_wp2_with fail
  rw [HEW.out]
  refine C1.out.mono ?_
  rintro e w1 ⟨rfl, hb1⟩
  have HB1 : Hid (Below W.heap.size W w1) := hb1
  obtain ⟨hc0, hc1⟩ := HBx.out w1 hb1
  clear hb1 C1
  by_cases hz : e0 = 0
  · subst hz
    have hN20 : N ≤ 20 := (chk_zero HE.out).1.1
    have hF30 : F ≤ 30 := (chk_zero HE.out).1.2
    go_wp2
    go_loopw [5, 15] (fun v i wr => ∃ (k : Nat) (va : Option Addr) (vc : Nat), k ≤ N ∧ i = .int .i64 k ∧ v = .slice va (stAll K A B F k).length vc ∧ Hid (Below W.heap.size W wr ∧ wr.ownsRow W.heap.size 66 3 (.slice va (stAll K A B F k).length vc) (stAll K A B F k).length (vals3 (stAll K A B F k)))) (fun _ i _ => N - (intOf i).toNat)
    case atStart => exact ⟨0, none, 0, Nat.zero_le _, rfl, rfl, hid ⟨HB1.out, World.ownsRow_nil _ _ _ _⟩⟩
    case round =>
      obtain ⟨k, va, vc, hk, rfl, rfl, HS⟩ := hrel
      clear hc0 hc1
      obtain ⟨hc0, hc1⟩ := HBx.out wr HS.out.1
      by_cases hlt : k < N
      · have C2 : Hid (Calls Try.prog 50 #[.agg #[.slice na N nc, .slice fa F fc], .int .i64 k] wr fun e w' => Below wr.heap.size wr w' ∧ StOwn wr.heap.size (stK k (K k) (fl B k F) (tally A k F)) e w') := ofNode_any na fa N nc F fc M K A B k wr (HPW.out.below HS.out.1) HE.out hlt
        have HL1 : Hid ((stAll K A B F k).length ≤ 21474836480) := by have := stAll_len (K := K) (A := A) (B := B) hF30 k; show _ ≤ _; omega
        have HL2 : Hid ((stK k (K k) (fl B k F) (tally A k F)).length ≤ 1073741824) := stK_len (by rw [fl_len]; have := tally_le B k F; omega) (by have := tally_le A k F; omega)
        have HNx : Hid (stAll K A B F (k + 1) = stAll K A B F k ++ stK k (K k) (fl B k F) (tally A k F)) := rfl
        generalize hlk : stK k (K k) (fl B k F) (tally A k F) = lk at *
        generalize hla : stAll K A B F k = la at *
        clear hlk hla
        go_wp2_with fail
        refine C2.out.mono ?_
        rintro e w3 ⟨hb3, a3, c3, rfl, ho3⟩
        have HB3 : Hid (Below W.heap.size W w3) := HS.out.1.trans (hb3.mono HS.out.1.size)
        have HO3 : Hid (w3.ownsRow W.heap.size 66 3 (.slice va la.length vc) la.length (vals3 la)) := below_ownsRow HS.out.2 hb3
        have HL3 : Hid (w3.ownsRow wr.heap.size 66 3 (.slice a3 lk.length c3) lk.length (vals3 lk)) := ho3
        clear hb3 ho3 C2
        cases a3 with
        | none =>
          obtain ⟨h0, rfl⟩ := none_nil HL3.out
          have e0 : lk = [] := List.length_eq_zero_iff.1 h0
          subst e0
          have HNx' : Hid (stAll K A B F (k + 1) = la) := by have := HNx.out; rw [List.append_nil] at this; exact this
          go_wp2_with (at_builtin; refine wpList_append_own_none rfl _ _ 60 rfl W.heap.size 66 i0 3 Try.underlying60 HI.out.1 _ _ _ rfl HO3.out rfl ?_)
          go_roundw
          case rel => exact ⟨k + 1, va, vc, by omega, by go_num, by rw [HNx'.out], hid (by rw [HNx'.out]; exact ⟨HB3.out, HO3.out⟩)⟩
          case measure => simp [intOf]; omega
        | some x =>
          go_wp2_with (at_builtin; refine wpList_append_own_at _ rfl _ _ 60 rfl W.heap.size 66 i0 (.agg #[.int .i64 0, .int .i64 0, .int .i64 0]) 3 24 Try.underlying60 HI.out.1 HI.out.2.1 HI.out.2.2.1 HI.out.2.2.2 rfl (by decide) _ _ _ rfl HO3.out x lk.length c3 (vals3 lk) rfl (vals3_len lk) (join_cells HL3.out) (vals3_one lk) (by have := HL1.out; have := HL2.out; unfold maxLen; omega) (by have := HL1.out; have := HL2.out; omega) HB3.out.size ?_; intro v' w4 hown hgrow _ _; obtain ⟨a4, c4, rfl, H4⟩ := sts_join HB3.out HO3.out hown hgrow; clear hown hgrow)
          go_roundw
          case rel => exact ⟨k + 1, a4, c4, by omega, by go_num, by rw [HNx.out, List.length_append], hid (by rw [HNx.out]; exact H4.out)⟩
          case measure => simp [intOf]; omega
      · obtain rfl : N = k := by omega
        have HBw : Hid (Below w.heap.size w wr) := HW.out.1.trans (HS.out.1.mono HW.out.1.size)
        have HL1 : Hid ((stAll K A B F N).length ≤ 21474836480) := by have := stAll_len (K := K) (A := A) (B := B) hF30 N; show _ ≤ _; omega
        generalize hla : stAll K A B F N = la at *
        by_cases h60 : 60 < la.length
        · go_wp2
          go_ret2
          exact ⟨HBw.out, by rw [hla]; exact Or.inr (Or.inl ⟨rfl, h60, rfl⟩)⟩
        · go_wp2
          go_ret2
          exact ⟨HBw.out, by rw [hla]; exact Or.inr (Or.inr ⟨rfl, by omega, va, vc, rfl, owns_cap HS.out.2, owns_sts' rfl HS.out.2⟩)⟩
  · have hz' : (e0 != 0) = true := by rw [bne_iff_ne]; exact hz
    have HZ : Hid (e0 ≠ 0) := hz
    have HB2 : Hid (Below w.heap.size w w1) := HW.out.1.trans (HB1.out.mono HW.out.1.size)
    clear hz
    go_wp2
    go_ret2
    exact ⟨HB2.out, Or.inl ⟨HZ.out, rfl⟩⟩

end Go.Proofs.Ythpbgfodejoecaa
