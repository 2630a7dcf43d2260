/- The law ProcSays, walked. -/
import Derived.Test.YtddingbfjkmdeaaRefProc
namespace Go.Proofs.Ytddingbfjkmdeaa
open Go.RowKit

/-- What Ins and Outs answer, told by what the law makes of it. -/
theorem fl_parts {N F : Nat} {X : Nat → Int} {e0 x : Int} {e : Ending} {w : World} (h : FlIs N F X e0 x e w) :
    ∃ (a : Option Addr) (n c : Nat) (f : Int), e = .returned (.tuple #[.slice a n c, .int .i64 f]) ∧
      f = (if e0 = 0 then (if 0 ≤ x ∧ x < N then 0 else 1) else e0) ∧ (f ≠ 0 → n = 0) ∧ (f = 0 → n = tally X x F ∧ Row w a n (fun i => (fl X x F).getD i 0)) := by
  rcases h with ⟨h1, rfl⟩ | ⟨h1, h2, rfl⟩ | ⟨h1, h2, a, c, rfl, h3⟩
  · exact ⟨none, 0, 0, e0, rfl, by rw [if_neg h1], fun _ => rfl, fun h => absurd h h1⟩
  · exact ⟨none, 0, 0, 1, rfl, by rw [if_pos h1, if_neg h2], fun _ => rfl, fun h => absurd h (by decide)⟩
  · exact ⟨a, _, c, 0, rfl, by rw [if_pos h1, if_pos h2], fun h => absurd rfl h, fun _ => ⟨rfl, h3⟩⟩

set_option maxHeartbeats 4000000 in
theorem procSays_walk (na fa : Option Addr) (N nc F fc : Nat) (M : Nat → ByteArray) (K A B : Nat → Int) (x : Int) (w : World) (hp : Prc w na N nc fa F M K A B) (hM : ∀ i, i < N → (M i).size ≤ maxLen) :
    Calls Try.prog 3 #[.agg #[.slice na N nc, .slice fa F fc], .int .i64 x] w fun e w' => e = .returned (.bool true) ∧ Below w.heap.size w w' := by
  obtain ⟨e0, he⟩ := chk_ex N F M K A B
  have HE : Hid (ChkIs N F M K A B e0) := he
  have HP : Hid (Prc w na N nc fa F M K A B) := hp
  clear he hp
  obtain ⟨W, eW⟩ : ∃ x, x = w.alloc (.cells #[.slice na N nc, .slice fa F fc] 25) := ⟨_, rfl⟩
  have HW : Hid (Below w.heap.size w W ∧ W.heap.size = w.heap.size + 1) := by subst eW; exact ⟨box_below _ _, by simp⟩
  have HBx : Hid (∀ w1, Below W.heap.size W w1 → w1.cell? ⟨w.heap.size, 0, none⟩ = some (.slice na N nc) ∧ w1.cell? ⟨w.heap.size, 1, none⟩ = some (.slice fa F fc)) := fun w1 h => by
    have h' : Below (w.heap.size + 1) (w.alloc (.cells #[.slice na N nc, .slice fa F fc] 25)) w1 := by rw [← HW.out.2, ← eW]; exact h
    exact ⟨box_keep h' rfl, box_keep h' rfl⟩
  have HEW : Hid (w.alloc (.cells #[.slice na N nc, .slice fa F fc] 25) = W) := eW.symm
  have HPW : Hid (Prc W na N nc fa F M K A B) := HP.out.below HW.out.1
  have C1 : Hid (Calls Try.prog 6 #[.agg #[.slice na N nc, .slice fa F fc]] W fun e w' => e = .returned (.int .i64 e0) ∧ Below W.heap.size W w') := process_any na fa N nc F fc M K A B e0 W HPW.out hM HE.out
  clear eW hM
  go_enter Try.func3, Try.ntmps3
  go_wp2_with fail
  rw [HEW.out]
  refine C1.out.mono ?_
  rintro e w1 ⟨rfl, hb1⟩
  have HB1 : Hid (Below W.heap.size W w1) := hb1
  obtain ⟨hc0, hc1⟩ := HBx.out w1 hb1
  have C2 : Hid (Calls Try.prog 7 #[.agg #[.slice na N nc, .slice fa F fc], .int .i64 x] w1 fun e w' => Below W.heap.size W w' ∧ FlIs N F B e0 x e w') := (ins_any na fa N nc F fc M K A B e0 x w1 (HPW.out.below hb1) HE.out).mono fun e w' ⟨h1, h2⟩ => ⟨hb1.trans (h1.mono hb1.size), h2⟩
  clear hb1 C1
  go_wp2_with fail
  refine C2.out.mono ?_
  rintro e w2 ⟨hb2, hfl⟩
  obtain ⟨a2, n2, c2, f2, rfl, hf2, hn2, hr2⟩ := fl_parts hfl
  have HF2 : Hid (f2 = (if e0 = 0 then (if 0 ≤ x ∧ x < N then 0 else 1) else e0) ∧ (f2 ≠ 0 → n2 = 0) ∧ (f2 = 0 → n2 = tally B x F ∧ Row w2 a2 n2 (fun i => (fl B x F).getD i 0))) := ⟨hf2, hn2, hr2⟩
  have HB2 : Hid (Below W.heap.size W w2) := hb2
  clear hfl hf2 hn2 hr2 hc0 hc1
  obtain ⟨hc0, hc1⟩ := HBx.out w2 hb2
  have C3 : Hid (Calls Try.prog 8 #[.agg #[.slice na N nc, .slice fa F fc], .int .i64 x] w2 fun e w' => Below w2.heap.size w2 w' ∧ FlIs N F A e0 x e w') := outs_any na fa N nc F fc M K A B e0 x w2 (HPW.out.below hb2) HE.out
  clear hb2 C2
  go_wp2_with fail
  refine C3.out.mono ?_
  rintro e w3 ⟨hb3, hfl⟩
  obtain ⟨a3, n3, c3, f3, rfl, hf3, hn3, hr3⟩ := fl_parts hfl
  have HF3 : Hid (f3 = (if e0 = 0 then (if 0 ≤ x ∧ x < N then 0 else 1) else e0) ∧ (f3 ≠ 0 → n3 = 0) ∧ (f3 = 0 → n3 = tally A x F ∧ Row w3 a3 n3 (fun i => (fl A x F).getD i 0))) := ⟨hf3, hn3, hr3⟩
  have HR2 : Hid (f2 = 0 → Row w3 a2 n2 (fun i => (fl B x F).getD i 0)) := fun h => (HF2.out.2.2 h).2.below hb3
  have HB3 : Hid (Below W.heap.size W w3) := HB2.out.trans (hb3.mono HB2.out.size)
  clear hfl hf3 hn3 hr3 hc0 hc1 hb3
  obtain ⟨hc0, hc1⟩ := HBx.out w3 HB3.out
  have C4 : Hid (Calls Try.prog 9 #[.agg #[.slice na N nc, .slice fa F fc]] w3 fun e w' => e = .returned (.int .i64 e0) ∧ Below w3.heap.size w3 w') := procCheck_any na fa N nc F fc M K A B e0 w3 (HPW.out.below HB3.out) HE.out
  clear C3
  go_wp2_with fail
  refine C4.out.mono ?_
  rintro e w4 ⟨rfl, hb4⟩
  have HB4 : Hid (Below W.heap.size W w4) := HB3.out.trans (hb4.mono HB3.out.size)
  have HBw4 : Hid (Below w.heap.size w w4) := HW.out.1.trans (HB4.out.mono HW.out.1.size)
  have HR24 : Hid (f2 = 0 → Row w4 a2 n2 (fun i => (fl B x F).getD i 0)) := fun h => (HR2.out h).below hb4
  have HR34 : Hid (f3 = 0 → Row w4 a3 n3 (fun i => (fl A x F).getD i 0)) := fun h => (HF3.out.2.2 h).2.below hb4
  clear hc0 hc1 hb4 C4 HR2
  obtain ⟨hc0, hc1⟩ := HBx.out w4 HB4.out
  by_cases hz : e0 = 0
  · subst hz
    have hF30 : F ≤ 30 := (chk_zero HE.out).1.2
    by_cases hx : 0 ≤ x ∧ x < N
    · have e2 : f2 = 0 := by rw [HF2.out.1, if_pos rfl, if_pos hx]
      have e3 : f3 = 0 := by rw [HF3.out.1, if_pos rfl, if_pos hx]
      have hn2 := (HF2.out.2.2 e2).1
      have hn3 := (HF3.out.2.2 e3).1
      have HRa : Hid (Row w4 a2 (tally B x F) (fun i => (fl B x F).getD i 0)) := by have := HR24.out e2; rw [hn2] at this; exact this
      have HRb : Hid (Row w4 a3 (tally A x F) (fun i => (fl A x F).getD i 0)) := by have := HR34.out e3; rw [hn3] at this; exact this
      subst e2
      subst e3
      subst hn2
      subst hn3
      have hx0 : 0 ≤ x := hx.1
      have hxN : x < N := hx.2
      have htB := tally_le B x F
      have htA := tally_le A x F
      have C5 : Hid (Calls Try.prog 11 #[.agg #[.slice na N nc, .slice fa F fc], .int .i64 x] w4 fun e w' => Below w4.heap.size w4 w' ∧ ∃ a c, e = .returned (.slice a (tally B x F) c) ∧ Row w' a (tally B x F) (fun i => (fl B x F).getD i 0)) := flowsIn_any na fa N nc F fc A B x w4 (HPW.out.below HB4.out).fls hF30
      clear HF2 HF3 HR24 HR34 hx
      go_wp2_with fail
      refine C5.out.mono ?_
      rintro e w5 ⟨hb5, a5, c5, rfl, hr5⟩
      have HB5 : Hid (Below W.heap.size W w5) := HB4.out.trans (hb5.mono HB4.out.size)
      have HRb5 : Hid (Row w5 a3 (tally A x F) (fun i => (fl A x F).getD i 0)) := HRb.out.below hb5
      have C6 : Hid (Calls Try.prog 10 #[.slice a2 (tally B x F) c2, .slice a5 (tally B x F) c5] w5 fun e w' => e = .returned (.bool true) ∧ Below w5.heap.size w5 w') := by
        have h := equal_any a2 a5 (tally B x F) c2 (tally B x F) c5 _ _ w5 (by omega) (HRa.out.below hb5) hr5
        rw [same_yes rfl (fun _ _ => rfl)] at h
        refine h.mono ?_
        rintro e w' ⟨rfl, q, rfl⟩
        exact ⟨rfl, below_drewn (Below.refl _ _) q⟩
      clear hb5 hr5 C5 HRa HRb
      go_wp2_with fail
      refine C6.out.mono ?_
      rintro e w6 ⟨rfl, hb6⟩
      have HB6 : Hid (Below W.heap.size W w6) := HB5.out.trans (hb6.mono HB5.out.size)
      have HRb6 : Hid (Row w6 a3 (tally A x F) (fun i => (fl A x F).getD i 0)) := HRb5.out.below hb6
      clear hc0 hc1
      obtain ⟨hc0, hc1⟩ := HBx.out w6 HB6.out
      have C7 : Hid (Calls Try.prog 12 #[.agg #[.slice na N nc, .slice fa F fc], .int .i64 x] w6 fun e w' => Below w6.heap.size w6 w' ∧ ∃ a c, e = .returned (.slice a (tally A x F) c) ∧ Row w' a (tally A x F) (fun i => (fl A x F).getD i 0)) := flowsOut_any na fa N nc F fc A B x w6 (HPW.out.below HB6.out).fls hF30
      clear hb6 C6 HB5
      go_wp2_with fail
      refine C7.out.mono ?_
      rintro e w7 ⟨hb7, a7, c7, rfl, hr7⟩
      have HB7 : Hid (Below W.heap.size W w7) := HB6.out.trans (hb7.mono HB6.out.size)
      have C8 : Hid (Calls Try.prog 10 #[.slice a3 (tally A x F) c3, .slice a7 (tally A x F) c7] w7 fun e w' => e = .returned (.bool true) ∧ Below w7.heap.size w7 w') := by
        have h := equal_any a3 a7 (tally A x F) c3 (tally A x F) c7 _ _ w7 (by omega) (HRb6.out.below hb7) hr7
        rw [same_yes rfl (fun _ _ => rfl)] at h
        refine h.mono ?_
        rintro e w' ⟨rfl, q, rfl⟩
        exact ⟨rfl, below_drewn (Below.refl _ _) q⟩
      clear hb7 hr7 C7 HRb6
      go_wp2_with fail
      refine C8.out.mono ?_
      rintro e w8 ⟨rfl, hb8⟩
      have HB8 : Hid (Below w.heap.size w w8) := HW.out.1.trans ((HB7.out.trans (hb8.mono HB7.out.size)).mono HW.out.1.size)
      clear hb8 C8
      go_wp2
      go_ret
      exact ⟨rfl, HB8.out⟩
    · have e2 : f2 = 1 := by rw [HF2.out.1, if_pos rfl, if_neg hx]
      have e3 : f3 = 1 := by rw [HF3.out.1, if_pos rfl, if_neg hx]
      have hn2 := HF2.out.2.1 (by rw [e2]; decide)
      have hn3 := HF3.out.2.1 (by rw [e3]; decide)
      subst e2
      subst e3
      subst hn2
      subst hn3
      clear HF2 HF3 HR24 HR34
      by_cases hx0 : x < 0
      · clear hx
        go_wp2
        go_ret
        exact ⟨rfl, HBw4.out⟩
      · have hxN : (N : Int) ≤ x := by omega
        clear hx
        go_wp2
        go_ret
        exact ⟨rfl, HBw4.out⟩
  · have e2 : f2 = e0 := by rw [HF2.out.1, if_neg hz]
    have e3 : f3 = e0 := by rw [HF3.out.1, if_neg hz]
    have hn2 := HF2.out.2.1 (by rw [e2]; exact hz)
    have hn3 := HF3.out.2.1 (by rw [e3]; exact hz)
    subst e2
    subst e3
    subst hn2
    subst hn3
    have hz1 : (f3 != 0) = true := by rw [bne_iff_ne]; exact hz
    have hz2 : (f3 == 0) = false := beq_eq_false_iff_ne.2 hz
    clear HF2 HF3 HR24 HR34 hz
    go_wp2
    go_ret
    exact ⟨rfl, HBw4.out⟩

end Go.Proofs.Ytddingbfjkmdeaa
