/- The law StepsSays, walked. -/
import Derived.Test.YtnpdkpbhkjnbhaaRefSteps
import Derived.Test.YtnpdkpbhkjnbhaaStepsEq
namespace Go.Proofs.Ytnpdkpbhkjnbhaa
open Go.RowKit

/-- What Of answers, told by what the law makes of it. -/
theorem sp_parts {e0 : Int} {l : List St3} {e : Ending} {w : World} (h : SpIs e0 l e w) :
    ∃ (a : Option Addr) (c : Nat) (l' : List St3), e = .returned (.tuple #[.slice a l'.length c, .int .i64 (if e0 = 0 then (if l.length ≤ 60 then 0 else 2) else e0)]) ∧
      l' = (if e0 = 0 then (if l.length ≤ 60 then l else []) else []) ∧ l'.length ≤ 60 ∧ l'.length ≤ c ∧ Sts w a l'.length (fun i => l'.getD i (0, 0, 0)) := by
  have nil : Sts w none ([] : List St3).length (fun i => ([] : List St3).getD i (0, 0, 0)) := ⟨0, 0, fun h => by simp at h, fun i hi => by simp at hi⟩
  rcases h with ⟨h1, rfl⟩ | ⟨h1, h2, rfl⟩ | ⟨h1, h2, a, c, rfl, h3, h4⟩
  · exact ⟨none, 0, [], by rw [if_neg h1]; rfl, by rw [if_neg h1], by simp, by simp, nil⟩
  · exact ⟨none, 0, [], by rw [if_pos h1, if_neg (by omega)]; rfl, by rw [if_pos h1, if_neg (by omega)], by simp, by simp, nil⟩
  · exact ⟨a, c, l, by rw [if_pos h1, if_pos h2], by rw [if_pos h1, if_pos h2], h2, h3, h4⟩

set_option maxHeartbeats 4000000 in
theorem stepsSays_walk (na fa : Option Addr) (N nc F fc : Nat) (M : Nat → ByteArray) (K A B : Nat → Int) (w : World) (hp : Prc w na N nc fa F M K A B) (hM : ∀ i, i < N → (M i).size ≤ maxLen) :
    Calls Try.prog 3 #[.agg #[.slice na N nc, .slice fa F fc]] w fun e w' => e = .returned (.bool true) ∧ Below w.heap.size w w' := by
  obtain ⟨e0, he⟩ := chk_ex N F M K A B
  have HE : Hid (ChkIs N F M K A B e0) := he
  have HP : Hid (Prc w na N nc fa F M K A B) := hp
  clear he hp
  obtain ⟨W, eW⟩ : ∃ x, x = w.alloc (.cells #[.slice na N nc, .slice fa F fc] 25) := ⟨_, rfl⟩
  have HW : Hid (Below w.heap.size w W ∧ W.heap.size = w.heap.size + 1) := by subst eW; exact ⟨box_below _ _, by simp⟩
  have HBx : Hid (∀ w1, Below W.heap.size W w1 → w1.cell? ⟨w.heap.size, 0, none⟩ = some (.slice na N nc) ∧ w1.cell? ⟨w.heap.size, 1, none⟩ = some (.slice fa F fc)) := fun w1 h => by
    have h' : Below (w.heap.size + 1) (w.alloc (.cells #[.slice na N nc, .slice fa F fc] 25)) w1 := by rw [← HW.out.2, ← eW]; exact h
    exact ⟨box_keep h' rfl, box_keep h' rfl⟩
  have HEW : Hid (w.alloc (.cells #[.slice na N nc, .slice fa F fc] 25) = W) := eW.symm
  have HPW : Hid (Prc W na N nc fa F M K A B) := HP.out.below HW.out.1
  have C1 : Hid (Calls Try.prog 5 #[.agg #[.slice na N nc, .slice fa F fc]] W fun e w' => Below W.heap.size W w' ∧ SpIs e0 (stAll K A B F N) e w') := of_any na fa N nc F fc M K A B e0 W HPW.out HE.out
  have C2 : Hid (∀ u, Below W.heap.size W u → Calls Try.prog 6 #[.agg #[.slice na N nc, .slice fa F fc]] u fun e w' => Below u.heap.size u w' ∧ SpIs e0 (stAll K A B F N) e w') := fun u hu => steps_any na fa N nc F fc M K A B e0 u (HPW.out.below hu) hM HE.out
  clear eW hM
  go_enter Try.func3, Try.ntmps3
  go_wp2_with fail
  rw [HEW.out]
  refine C1.out.mono ?_
  rintro e w1 ⟨hb1, hs1⟩
  obtain ⟨a1, c1, l1, rfl, e1, hl1, _, hr1⟩ := sp_parts hs1
  have HB1 : Hid (Below W.heap.size W w1) := hb1
  obtain ⟨hc0, hc1⟩ := HBx.out w1 hb1
  have HR1 : Hid (Sts w1 a1 l1.length (fun i => l1.getD i (0, 0, 0))) := hr1
  have HE1 : Hid (l1 = (if e0 = 0 then (if (stAll K A B F N).length ≤ 60 then stAll K A B F N else []) else [])) := e1
  clear hs1 hb1 hr1 e1 C1
  generalize hf : (if e0 = 0 then (if (stAll K A B F N).length ≤ 60 then (0 : Int) else 2) else e0) = f at *
  go_wp2_with fail
  refine (C2.out w1 HB1.out).mono ?_
  rintro e w2 ⟨hb2, hs2⟩
  obtain ⟨a2, c2, l2, rfl, e2, hl2, _, hr2⟩ := sp_parts hs2
  rw [hf]
  obtain rfl : l2 = l1 := by rw [e2, HE1.out]
  have HB2 : Hid (Below w.heap.size w w2) := HW.out.1.trans ((HB1.out.trans (hb2.mono HB1.out.size)).mono HW.out.1.size)
  have C3 : Hid (Calls Try.prog 7 #[.slice a1 l2.length c1, .slice a2 l2.length c2] w2 fun e w' => e = .returned (.bool true) ∧ Below w2.heap.size w2 w') := equalSt_any a1 a2 l2.length c1 c2 _ w2 (by omega) (HR1.out.below hb2) hr2
  clear hb2 hs2 hr2 e2 C2 HE1 HR1 hc0 hc1 hf
  have hff : (f == f) = true := by simp
  go_wp2_with fail
  refine C3.out.mono ?_
  rintro e w3 ⟨rfl, hb3⟩
  have HB3 : Hid (Below w.heap.size w w3) := HB2.out.trans (hb3.mono HB2.out.size)
  clear hb3 C3
  go_wp2
  go_ret
  exact ⟨rfl, HB3.out⟩

end Go.Proofs.Ytnpdkpbhkjnbhaa
