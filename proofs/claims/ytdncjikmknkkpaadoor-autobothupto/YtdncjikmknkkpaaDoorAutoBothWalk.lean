/- The law AutoBoth. -/
import Derived.Test.YtdncjikmknkkpaaDoorB15
import Derived.Test.YtdncjikmknkkpaaDoorBoc
import Derived.Test.YtdncjikmknkkpaaDoorSam
import Derived.Test.YtdncjikmknkkpaaDoorRefA
namespace Go.Proofs.YtdncjikmknkkpaaDoor
open Go.RowKit Go.Shelf

theorem nil_awB (w : World) : Aw w nilA :=
  ⟨⟨0, 0, fun h => absurd h (Nat.not_lt_zero _), fun _ h => absurd h (Nat.not_lt_zero _)⟩, ⟨0, 0, fun h => absurd h (Nat.not_lt_zero _), fun _ h => absurd h (Nat.not_lt_zero _)⟩, ⟨0, 0, fun h => absurd h (Nat.not_lt_zero _), fun _ h => absurd h (Nat.not_lt_zero _)⟩, ⟨0, 0, fun h => absurd h (Nat.not_lt_zero _), fun _ h => absurd h (Nat.not_lt_zero _)⟩, ⟨0, 0, fun h => absurd h (Nat.not_lt_zero _), fun _ h => absurd h (Nat.not_lt_zero _)⟩, Nat.zero_le _, Nat.zero_le _, fun _ h => absurd h (Nat.not_lt_zero _), Nat.zero_le _, Nat.zero_le _, Nat.zero_le _, fun _ h => absurd h (Nat.not_lt_zero _), fun _ h => absurd h (Nat.not_lt_zero _), fun _ h => absurd h (Nat.not_lt_zero _)⟩

theorem Sme.refl (A : Ax) : Sme A A := ⟨rfl, rfl, rfl, rfl, rfl, rfl, rfl, rfl, rfl, rfl, rfl, rfl⟩

/-- What Both makes of two right automata, by what it holds. -/
def BoC (A B C : Ax) (er : Int) : Prop := (er = 2 ∧ (80 < A.K + B.K ∨ ∃ k, 2048 < (bL A B k).length) ∧ C = nilA) ∨ (er = 0 ∧ ¬ 80 < A.K + B.K ∧ ∃ k, (bL A B k).length = k ∧ k ≤ 2048 ∧ Sme (boC A B k) C)

theorem bL_stop {A B : Ax} {k j : Nat} (hk : (bL A B k).length = k) (hj : k ≤ j) : bL A B j = bL A B k := by
  have := gQ_stop (nx := bX A B) (start := bS A B) (i := k) (by show (bL A B k).length ≤ k; omega) (j - k)
  rw [show k + (j - k) = j by omega] at this
  exact this
theorem bL_big {A B : Ax} {k : Nat} (hk : (bL A B k).length = k) (hk2 : k ≤ 2048) : ¬ ∃ j, 2048 < (bL A B j).length := by
  rintro ⟨j, hj⟩
  by_cases e : k ≤ j
  · rw [bL_stop hk e] at hj; omega
  · have h1 : bL A B j <+: bL A B (j + (k - j)) := gQ_le (bX A B) (bS A B) j (k - j)
    rw [show j + (k - j) = k by omega] at h1
    have := h1.length_le
    omega
theorem bL_len {A B : Ax} {k j : Nat} (hk : (bL A B k).length = k) (hj : (bL A B j).length = j) : k = j := by
  by_cases e : k ≤ j
  · have := bL_stop hk e
    rw [this] at hj
    omega
  · have := bL_stop hj (show j ≤ k by omega)
    rw [this] at hk
    omega
theorem BoC.two {A B C C' : Ax} {er er' : Int} (h : BoC A B C er) (h' : BoC A B C' er') : er = er' ∧ Sme C C' := by
  rcases h with ⟨rfl, h1, rfl⟩ | ⟨rfl, h0, k, h1, h2, h3⟩
  · rcases h' with ⟨rfl, h1', rfl⟩ | ⟨rfl, h0', k', h1', h2', h3'⟩
    · exact ⟨rfl, Sme.refl _⟩
    · rcases h1 with h1 | h1
      · exact absurd h1 h0'
      · exact absurd h1 (bL_big h1' h2')
  · rcases h' with ⟨rfl, h1', rfl⟩ | ⟨rfl, h0', k', h1', h2', h3'⟩
    · rcases h1' with h1' | h1'
      · exact absurd h1' h0
      · exact absurd h1' (bL_big h1 h2)
    · obtain rfl := bL_len h1 h1'
      exact ⟨rfl, ⟨h3'.sn.trans h3.sn.symm, h3'.S.trans h3.S.symm, h3'.G.trans h3.G.symm, h3'.L.trans h3.L.symm, h3'.Z.trans h3.Z.symm, h3'.M.trans h3.M.symm, h3'.Mu.trans h3.Mu.symm, h3'.O.trans h3.O.symm, h3'.No.trans h3.No.symm, h3'.K.trans h3.K.symm, h3'.FL.trans h3.FL.symm, h3'.FZ.trans h3.FZ.symm⟩⟩

theorem bo_form {w w' : World} {A B : Ax} {e : Ending} (hA : Aw w A) (hB : Aw w B) (hs : BoIs w A B e w') :
    ∃ C er, e = .returned (.tuple #[.agg #[.slice C.sa C.sn C.sc, .slice C.na C.G C.nc, .slice C.ma C.M C.mc, .slice C.oa C.O C.oc, .slice C.fa C.K C.fc], .int .i64 er]) ∧ Hid (Below w.heap.size w w' ∧ Aw w' C ∧ (chkA A ≠ 0 → C = nilA ∧ er = chkA A) ∧ (chkA A = 0 → chkA B ≠ 0 → C = nilA ∧ er = chkA B) ∧ (chkA A = 0 → chkA B = 0 → BoC A B C er)) := by
  rcases hs with (⟨h0, rfl, hb⟩ | ⟨h0, h1, rfl, hb⟩ | ⟨h0, h1, h2, rfl, hb⟩ | ⟨h0, h1, hK, k, sv, nv, mv, ov, fv, V, VF, hk, hk2, rfl, hb, r1, r2, r3, r4, r5⟩)
  · exact ⟨nilA, chkA A, rfl, hid ⟨hb, nil_awB _, fun _ => ⟨rfl, rfl⟩, fun e => absurd e h0, fun e => absurd e h0⟩⟩
  · exact ⟨nilA, chkA B, rfl, hid ⟨hb, nil_awB _, fun e => absurd h0 e, fun _ _ => ⟨rfl, rfl⟩, fun _ e => absurd e h1⟩⟩
  · exact ⟨nilA, 2, rfl, hid ⟨hb, nil_awB _, fun e => absurd h0 e, fun _ e => absurd h1 e, fun _ _ => Or.inl ⟨rfl, h2, rfl⟩⟩⟩
  · obtain ⟨sa, sc, rfl⟩ := owns_sl r1
    obtain ⟨na, nc, rfl⟩ := owns_sl r2.top
    obtain ⟨ma, mc, rfl⟩ := owns_sl r3
    obtain ⟨oa, oc, rfl⟩ := owns_sl r4
    obtain ⟨fa, fc, rfl⟩ := owns_sl r5.top
    refine ⟨{ boC A B k with sa := sa, sc := sc, na := na, nc := nc, ma := ma, mc := mc, oa := oa, oc := oc, fa := fa, fc := fc }, 0, ?_, hid ⟨hb, aw_of_bo hA hB h0 h1 hK hk hk2 r1 r2 r3 r4 r5, fun e => absurd h0 e, fun _ e => absurd h1 e, fun _ _ => Or.inr ⟨rfl, hK, k, hk, hk2, ⟨rfl, rfl, rfl, rfl, rfl, rfl, rfl, rfl, rfl, rfl, rfl, rfl⟩⟩⟩⟩
    rw [cs_len, List.length_map]
    rfl

theorem two_boxes (w : World) (A B : Ax) : ∃ W, (w.alloc (.cells #[.slice A.sa A.sn A.sc, .slice A.na A.G A.nc, .slice A.ma A.M A.mc, .slice A.oa A.O A.oc, .slice A.fa A.K A.fc] 26)).alloc (.cells #[.slice B.sa B.sn B.sc, .slice B.na B.G B.nc, .slice B.ma B.M B.mc, .slice B.oa B.O B.oc, .slice B.fa B.K B.fc] 26) = W ∧
    Below w.heap.size w W ∧ Bo W w.heap.size A ∧ Bo W (w.heap.size + 1) B := by
  obtain ⟨W1, hW1, hb1, h1⟩ := box5p w A
  have s1 : W1.heap.size = w.heap.size + 1 := by rw [← hW1]; simp
  rw [hW1]
  obtain ⟨W2, hW2, hb2, h2⟩ := box5p W1 B
  rw [s1] at h2
  exact ⟨W2, hW2, hb1.trans (hb2.mono (by omega)), h1.below hb2, h2⟩

set_option maxRecDepth 100000 in
set_option maxHeartbeats 4000000 in
theorem autoBoth_walk (A B : Ax) (w : World) (hA : Aw w A) (hB : Aw w B) (hT : Tb w) (hsA : A.sn ≤ 1048576) (hsB : B.sn ≤ 1048576) (hLA : ∀ r, r < A.G → A.L r ≤ 1048576) (hLB : ∀ r, r < B.G → B.L r ≤ 1048576) :
    Calls Tryd.prog 4 #[A.val, B.val] w fun e w' => e = .returned (.bool true) ∧ Below w.heap.size w w' := by
  show Calls Tryd.prog 4 #[.agg #[.slice A.sa A.sn A.sc, .slice A.na A.G A.nc, .slice A.ma A.M A.mc, .slice A.oa A.O A.oc, .slice A.fa A.K A.fc], .agg #[.slice B.sa B.sn B.sc, .slice B.na B.G B.nc, .slice B.ma B.M B.mc, .slice B.oa B.O B.oc, .slice B.fa B.K B.fc]] w _
  obtain ⟨W1, hW1, hb1, hbA, hbB⟩ := two_boxes w A B
  have C13 : Hid (Calls Tryd.prog 13 #[.agg #[.slice A.sa A.sn A.sc, .slice A.na A.G A.nc, .slice A.ma A.M A.mc, .slice A.oa A.O A.oc, .slice A.fa A.K A.fc], .agg #[.slice B.sa B.sn B.sc, .slice B.na B.G B.nc, .slice B.ma B.M B.mc, .slice B.oa B.O B.oc, .slice B.fa B.K B.fc]] W1 fun e w' => BoIs W1 A B e w') := hid (both_any A B W1 (hA.below hb1) (hB.below hb1) (fun j hj => below_cell hb1 (Nat.le_refl _) (hT j hj)))
  have HH := hid (And.intro hA hB)
  have HB1 := hid (And.intro hb1 (And.intro hbA hbB))
  have HSN := hid (And.intro hsA (And.intro hsB (And.intro hLA hLB)))
  have CR : Hid (∀ (D : Ax) (z : World), Aw z D → Calls Tryd.prog 8 #[.agg #[.slice D.sa D.sn D.sc, .slice D.na D.G D.nc, .slice D.ma D.M D.mc, .slice D.oa D.O D.oc, .slice D.fa D.K D.fc]] z fun e w' => e = .returned (.int .i64 (chkA D)) ∧ Below z.heap.size z w') := hid (fun D z h => autoRef_any D z h)
  have CS : Hid (∀ (C D : Ax) (z : World), Aw z C → Aw z D → Sme C D → Calls Tryd.prog 14 #[.agg #[.slice C.sa C.sn C.sc, .slice C.na C.G C.nc, .slice C.ma C.M C.mc, .slice C.oa C.O C.oc, .slice C.fa C.K C.fc], .agg #[.slice D.sa D.sn D.sc, .slice D.na D.G D.nc, .slice D.ma D.M D.mc, .slice D.oa D.O D.oc, .slice D.fa D.K D.fc]] z fun e w' => e = .returned (.bool true) ∧ Below z.heap.size z w') := hid (fun C D z h1 h2 h3 => same_any C D z h1 h2 h3)
  obtain ⟨q0, q1, q2, q3, q4⟩ := hbA
  obtain ⟨r0, r1, r2, r3, r4⟩ := hbB
  clear hA hB hT hb1 hsA hsB hLA hLB
  go_enter Tryd.func4, Tryd.ntmps4
  go_wp2_with fail
  refine C13.out.mono ?_
  intro e w2 hs
  obtain ⟨C, er, rfl, HC⟩ := bo_form (HH.out.1.below HB1.out.1) (HH.out.2.below HB1.out.1) hs
  clear hs C13
  obtain ⟨W3, hW3, hb3, hbo3⟩ := box5p w2 C
  have h13 : Below W1.heap.size W1 W3 := HC.out.1.trans (hb3.mono HC.out.1.size)
  have h03 : Below w.heap.size w W3 := HB1.out.1.trans (h13.mono HB1.out.1.size)
  have HBA3 := hid (HB1.out.2.1.below h13)
  have HBB3 := hid (HB1.out.2.2.below h13)
  have C5 := hid (CR.out A W3 (HH.out.1.below h03))
  have HAC := hid (HC.out.2.1.below hb3)
  have H03 := hid h03
  have HBC3 := hid hbo3
  obtain ⟨p0, p1, p2, p3, p4⟩ := HBA3.out
  obtain ⟨ca, hca⟩ : ∃ ca, chkA A = ca := ⟨_, rfl⟩
  obtain ⟨cb, hcb⟩ : ∃ cb, chkA B = cb := ⟨_, rfl⟩
  rw [hca] at C5
  have HCA := hid (And.intro hca hcb)
  clear h13 h03 hb3 hbo3 hca hcb q0 q1 q2 q3 q4 r0 r1 r2 r3 r4
  go_wp2_with fail
  refine C5.out.mono ?_
  rintro e w4 ⟨rfl, hb4⟩
  have HBC4 := hid (HBC3.out.below hb4)
  have HBA4 := hid (HBA3.out.below hb4)
  have HBB4 := hid (HBB3.out.below hb4)
  have HAC4 := hid (HAC.out.below hb4)
  have H04 := hid (H03.out.trans (hb4.mono H03.out.size))
  obtain ⟨c0, c1, c2, c3, c4⟩ := HBC4.out
  obtain ⟨b0, b1, b2, b3, b4⟩ := HBB4.out
  clear p0 p1 p2 p3 p4 C5 hb4
  by_cases hc0 : ca = 0
  · have g0 : (ca == 0) = true := by simp [hc0]
    have HC0 := hid hc0
    have C8 := hid (CR.out B w4 (HH.out.2.below H04.out))
    rw [HCA.out.2] at C8
    clear hc0
    go_wp2_with fail
    refine C8.out.mono ?_
    rintro e w5 ⟨rfl, hb5⟩
    have HBC5 := hid (HBC4.out.below hb5)
    have HBA5 := hid (HBA4.out.below hb5)
    have HBB5 := hid (HBB4.out.below hb5)
    have HAC5 := hid (HAC4.out.below hb5)
    have H05 := hid (H04.out.trans (hb5.mono H04.out.size))
    clear c0 c1 c2 c3 c4 b0 b1 b2 b3 b4 C8 hb5 g0
    obtain ⟨a0, a1, a2, a3, a4⟩ := HBA5.out
    obtain ⟨b0, b1, b2, b3, b4⟩ := HBB5.out
    obtain ⟨c0, c1, c2, c3, c4⟩ := HBC5.out
    by_cases hc1 : cb = 0
    · have g1 : (cb != 0) = false := by simp [hc1]
      by_cases hG : 60 < A.G
      · have hG2 : (60 : Int) < (A.G : Nat) := by omega
        clear hG hc1
        go_wp2
        go_ret
        exact ⟨rfl, H05.out⟩
      · have hG2 : ¬ (60 : Int) < (A.G : Nat) := by omega
        by_cases hH : 60 < B.G
        · have hH2 : (60 : Int) < (B.G : Nat) := by omega
          clear hG hc1 hH
          go_wp2
          go_ret
          exact ⟨rfl, H05.out⟩
        · have hH2 : ¬ (60 : Int) < (B.G : Nat) := by omega
          have C15 : Hid (Calls Tryd.prog 15 #[.agg #[.slice A.sa A.sn A.sc, .slice A.na A.G A.nc, .slice A.ma A.M A.mc, .slice A.oa A.O A.oc, .slice A.fa A.K A.fc], .agg #[.slice B.sa B.sn B.sc, .slice B.na B.G B.nc, .slice B.ma B.M B.mc, .slice B.oa B.O B.oc, .slice B.fa B.K B.fc]] w5 fun e w' => BoIs w5 A B e w') := hid (both15_any A B w5 (HH.out.1.below H05.out) (HH.out.2.below H05.out) (HCA.out.1.trans HC0.out) (HCA.out.2.trans hc1) HSN.out.1 HSN.out.2.1 HSN.out.2.2.1 HSN.out.2.2.2)
          have HC1 := hid hc1
          clear hG hc1 hH
          go_wp2_with fail
          refine C15.out.mono ?_
          intro e w6 hs
          obtain ⟨D, er', rfl, HD⟩ := bo_form (HH.out.1.below H05.out) (HH.out.2.below H05.out) hs
          obtain ⟨hee, hsm⟩ := (HC.out.2.2.2.2 (HCA.out.1.trans HC0.out) (HCA.out.2.trans HC1.out)).two (HD.out.2.2.2.2 (HCA.out.1.trans HC0.out) (HCA.out.2.trans HC1.out))
          subst hee
          clear hs C15
          obtain ⟨W7, hW7, hb7, hbo7⟩ := box5p w6 D
          have h57 : Below w5.heap.size w5 W7 := HD.out.1.trans (hb7.mono HD.out.1.size)
          have C6 := hid (CS.out C D W7 (HAC5.out.below h57) (HD.out.2.1.below hb7) hsm)
          obtain ⟨e0, e1, e2, e3, e4⟩ := HBC5.out.below h57
          obtain ⟨f0, f1, f2, f3, f4⟩ := hbo7
          have H07 := hid (H05.out.trans (h57.mono H05.out.size))
          have gee : (er == er) = true := by simp
          clear a0 a1 a2 a3 a4 b0 b1 b2 b3 b4 c0 c1 c2 c3 c4 h57 hb7 hsm
          go_wp2_with fail
          refine C6.out.mono ?_
          rintro e w8 ⟨rfl, hb8⟩
          have H08 := hid (H07.out.trans (hb8.mono H07.out.size))
          clear hb8 e0 e1 e2 e3 e4 f0 f1 f2 f3 f4
          go_wp2
          go_ret
          exact ⟨rfl, H08.out⟩
    · have g1 : (cb != 0) = true := by simp [hc1]
      obtain ⟨hC, he⟩ := HC.out.2.2.2.1 (HCA.out.1.trans HC0.out) (by rw [HCA.out.2]; exact hc1)
      rw [HCA.out.2] at he
      subst he
      subst hC
      have gee : (er == er) = true := by simp
      have C6 : Hid (Calls Tryd.prog 14 #[.agg nil5, .agg nil5] w5 fun e w' => e = .returned (.bool true) ∧ Below w5.heap.size w5 w') := hid (CS.out nilA nilA w5 (nil_awB _) (nil_awB _) (Sme.refl _))
      dsimp only [nilA] at c0 c1 c2 c3 c4
      clear hc1 a0 a1 a2 a3 a4 b0 b1 b2 b3 b4
      go_wp2_with fail
      refine C6.out.mono ?_
      rintro e w7 ⟨rfl, hb7⟩
      have H07 := hid (H05.out.trans (hb7.mono H05.out.size))
      clear hb7 c0 c1 c2 c3 c4
      go_wp2
      go_ret
      exact ⟨rfl, H07.out⟩
  · have g0 : (ca == 0) = false := by simp [hc0]
    have g1 : (ca != 0) = true := by simp [hc0]
    obtain ⟨hC, he⟩ := HC.out.2.2.1 (by rw [HCA.out.1]; exact hc0)
    rw [HCA.out.1] at he
    subst he
    subst hC
    have gee : (er == er) = true := by simp
    have C6 : Hid (Calls Tryd.prog 14 #[.agg nil5, .agg nil5] w4 fun e w' => e = .returned (.bool true) ∧ Below w4.heap.size w4 w') := hid (CS.out nilA nilA w4 (nil_awB _) (nil_awB _) (Sme.refl _))
    dsimp only [nilA] at c0 c1 c2 c3 c4
    clear hc0 b0 b1 b2 b3 b4
    go_wp2_with fail
    refine C6.out.mono ?_
    rintro e w7 ⟨rfl, hb7⟩
    have H07 := hid (H04.out.trans (hb7.mono H04.out.size))
    clear hb7 c0 c1 c2 c3 c4
    go_wp2
    go_ret
    exact ⟨rfl, H07.out⟩

end Go.Proofs.YtdncjikmknkkpaaDoor

