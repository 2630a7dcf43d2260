/- The law AutoSingle. -/
import Derived.Test.YtdncjikmknkkpaaAutoOneWalk
import Derived.Test.YtdncjikmknkkpaaSgd
import Derived.Test.YtdncjikmknkkpaaSam
import Derived.Test.YtdncjikmknkkpaaRefA
namespace Go.Proofs.Ytdncjikmknkkpaa
open Go.RowKit

/-- An automaton of nothing. -/
def nilA : Ax where
  sa := none
  sn := 0
  sc := 0
  na := none
  G := 0
  nc := 0
  ma := none
  M := 0
  mc := 0
  oa := none
  O := 0
  oc := 0
  fa := none
  K := 0
  fc := 0
  S := fun _ => 0
  L := fun _ => 0
  Z := fun _ _ => 0
  Mu := fun _ => 0
  No := fun _ => 0
  FL := fun _ => 0
  FZ := fun _ _ => 0

theorem nil_aw (w : World) : Aw w nilA :=
  ⟨⟨0, 0, fun h => absurd h (Nat.not_lt_zero _), fun _ h => absurd h (Nat.not_lt_zero _)⟩, ⟨0, 0, fun h => absurd h (Nat.not_lt_zero _), fun _ h => absurd h (Nat.not_lt_zero _)⟩, ⟨0, 0, fun h => absurd h (Nat.not_lt_zero _), fun _ h => absurd h (Nat.not_lt_zero _)⟩, ⟨0, 0, fun h => absurd h (Nat.not_lt_zero _), fun _ h => absurd h (Nat.not_lt_zero _)⟩, ⟨0, 0, fun h => absurd h (Nat.not_lt_zero _), fun _ h => absurd h (Nat.not_lt_zero _)⟩, Nat.zero_le _, Nat.zero_le _, fun _ h => absurd h (Nat.not_lt_zero _), Nat.zero_le _, Nat.zero_le _, Nat.zero_le _, fun _ h => absurd h (Nat.not_lt_zero _), fun _ h => absurd h (Nat.not_lt_zero _), fun _ h => absurd h (Nat.not_lt_zero _)⟩

theorem Sme.refl (A : Ax) : Sme A A := ⟨rfl, rfl, rfl, rfl, rfl, rfl, rfl, rfl, rfl, rfl, rfl, rfl⟩

/-- What Single makes of a right automaton, by what it holds. -/
def SgC (A C : Ax) (er : Int) : Prop := (er = 2 ∧ (∃ k, 2048 < (sgL A k).length) ∧ C = nilA) ∨ (er = 0 ∧ ∃ k, (sgL A k).length = k ∧ k ≤ 2048 ∧ Sme (sgC A k) C)

theorem sgL_stop {A : Ax} {k j : Nat} (hk : (sgL A k).length = k) (hj : k ≤ j) : sgL A j = sgL A k := by
  have := gQ_stop (nx := sgX A) (start := sgS A) (i := k) (by show (sgL A k).length ≤ k; omega) (j - k)
  rw [show k + (j - k) = j by omega] at this
  exact this
theorem sgL_big {A : Ax} {k : Nat} (hk : (sgL A k).length = k) (hk2 : k ≤ 2048) : ¬ ∃ j, 2048 < (sgL A j).length := by
  rintro ⟨j, hj⟩
  by_cases e : k ≤ j
  · rw [sgL_stop hk e] at hj; omega
  · have h1 : sgL A j <+: sgL A (j + (k - j)) := gQ_le (sgX A) (sgS A) j (k - j)
    rw [show j + (k - j) = k by omega] at h1
    have := h1.length_le
    omega
theorem sgL_len {A : Ax} {k j : Nat} (hk : (sgL A k).length = k) (hj : (sgL A j).length = j) : k = j := by
  by_cases e : k ≤ j
  · have := sgL_stop hk e
    rw [this] at hj
    omega
  · have := sgL_stop hj (show j ≤ k by omega)
    rw [this] at hk
    omega
theorem SgC.two {A C C' : Ax} {er er' : Int} (h : SgC A C er) (h' : SgC A C' er') : er = er' ∧ Sme C C' := by
  rcases h with ⟨rfl, h1, rfl⟩ | ⟨rfl, k, h1, h2, h3⟩
  · rcases h' with ⟨rfl, h1', rfl⟩ | ⟨rfl, k', h1', h2', h3'⟩
    · exact ⟨rfl, Sme.refl _⟩
    · exact absurd h1 (sgL_big h1' h2')
  · rcases h' with ⟨rfl, h1', rfl⟩ | ⟨rfl, k', h1', h2', h3'⟩
    · exact absurd h1' (sgL_big h1 h2)
    · obtain rfl := sgL_len h1 h1'
      exact ⟨rfl, ⟨h3'.sn.trans h3.sn.symm, h3'.S.trans h3.S.symm, h3'.G.trans h3.G.symm, h3'.L.trans h3.L.symm, h3'.Z.trans h3.Z.symm, h3'.M.trans h3.M.symm, h3'.Mu.trans h3.Mu.symm, h3'.O.trans h3.O.symm, h3'.No.trans h3.No.symm, h3'.K.trans h3.K.symm, h3'.FL.trans h3.FL.symm, h3'.FZ.trans h3.FZ.symm⟩⟩

theorem si_form {w w' : World} {A : Ax} {e : Ending} (h : Aw w A) (hs : SiIs w A e w') :
    ∃ C er, e = .returned (.tuple #[.agg #[.slice C.sa C.sn C.sc, .slice C.na C.G C.nc, .slice C.ma C.M C.mc, .slice C.oa C.O C.oc, .slice C.fa C.K C.fc], .int .i64 er]) ∧ Hid (Below w.heap.size w w' ∧ Aw w' C ∧ (chkA A ≠ 0 → C = nilA ∧ er = chkA A) ∧ (chkA A = 0 → SgC A C er)) := by
  rcases hs with (⟨h0, rfl, hb⟩ | ⟨h0, h1, rfl, hb⟩ | ⟨h0, k, sv, nv, mv, ov, gv, g, V, hk, hk2, rfl, hb, r1, r2, r3, r4, hg, r5, r6⟩)
  · exact ⟨nilA, chkA A, rfl, hid ⟨hb, nil_aw _, fun _ => ⟨rfl, rfl⟩, fun e => absurd e h0⟩⟩
  · exact ⟨nilA, 2, rfl, hid ⟨hb, nil_aw _, fun e => absurd h0 e, fun _ => Or.inl ⟨rfl, h1, rfl⟩⟩⟩
  · obtain ⟨sa, sc, rfl⟩ := owns_sl r1
    obtain ⟨na, nc, rfl⟩ := owns_sl r2.top
    obtain ⟨ma, mc, rfl⟩ := owns_sl r3
    obtain ⟨oa, oc, rfl⟩ := owns_sl r4
    obtain ⟨ga, gc, rfl⟩ := owns_sl r6
    refine ⟨{ sgC A k with sa := sa, sc := sc, na := na, nc := nc, ma := ma, mc := mc, oa := oa, oc := oc, fa := some ⟨g, 0, none⟩, fc := 1 }, 0, ?_, hid ⟨hb, aw_of_si h h0 hk hk2 r1 r2 r3 r4 r5 r6, fun e => absurd h0 e, fun _ => Or.inr ⟨rfl, k, hk, hk2, ⟨rfl, rfl, rfl, rfl, rfl, rfl, rfl, rfl, rfl, rfl, rfl, rfl⟩⟩⟩⟩
    rw [cs_len, List.length_map]
    rfl

set_option maxRecDepth 100000 in
set_option maxHeartbeats 4000000 in
theorem autoSingle_walk (A : Ax) (w : World) (h : Aw w A) (hsn : A.sn ≤ 1099511627776) (hL : ∀ r, r < A.G → A.L r ≤ 1099511627776) :
    Calls Try.prog 3 #[A.val] w fun e w' => e = .returned (.bool true) ∧ Below w.heap.size w w' := by
  show Calls Try.prog 3 #[.agg #[.slice A.sa A.sn A.sc, .slice A.na A.G A.nc, .slice A.ma A.M A.mc, .slice A.oa A.O A.oc, .slice A.fa A.K A.fc]] w _
  obtain ⟨W1, hW1, hb1, hbo⟩ := box5 w A
  have C4 : Hid (Calls Try.prog 4 #[.agg #[.slice A.sa A.sn A.sc, .slice A.na A.G A.nc, .slice A.ma A.M A.mc, .slice A.oa A.O A.oc, .slice A.fa A.K A.fc]] W1 fun e w' => SiIs W1 A e w') := hid (single_any A W1 (h.below hb1))
  have H := hid h
  have HB1 := hid (And.intro hb1 hbo)
  have HSN := hid (And.intro hsn hL)
  obtain ⟨q0, q1, q2, q3, q4⟩ := hbo
  clear h hb1 hsn hL
  go_enter Try.func3, Try.ntmps3
  go_wp2_with fail
  refine C4.out.mono ?_
  intro e w2 hs
  obtain ⟨C, er, rfl, HC⟩ := si_form (H.out.below HB1.out.1) hs
  clear hs C4
  obtain ⟨W3, hW3, hb3, hbo3⟩ := box5 w2 C
  have h13 : Below W1.heap.size W1 W3 := HC.out.1.trans (hb3.mono HC.out.1.size)
  have h03 : Below w.heap.size w W3 := HB1.out.1.trans (h13.mono HB1.out.1.size)
  have HBO3 := hid (HB1.out.2.below h13)
  have C5 : Hid (Calls Try.prog 5 #[.agg #[.slice A.sa A.sn A.sc, .slice A.na A.G A.nc, .slice A.ma A.M A.mc, .slice A.oa A.O A.oc, .slice A.fa A.K A.fc]] W3 fun e w' => e = .returned (.int .i64 (chkA A)) ∧ Below W3.heap.size W3 w') := hid (autoRef_any A W3 (H.out.below h03))
  have HAC := hid (HC.out.2.1.below hb3)
  have H03 := hid h03
  have HB3 := hid hbo3
  obtain ⟨p0, p1, p2, p3, p4⟩ := HBO3.out
  obtain ⟨ca, hca⟩ : ∃ ca, chkA A = ca := ⟨_, rfl⟩
  rw [hca] at C5
  have HCA := hid hca
  clear h13 h03 hb3 hbo3 hca q0 q1 q2 q3 q4
  go_wp2_with fail
  refine C5.out.mono ?_
  rintro e w4 ⟨rfl, hb4⟩
  have HB4 := hid hb4
  have HBC4 := hid (HB3.out.below hb4)
  have HBA4 := hid (HBO3.out.below hb4)
  have H04 := hid (H03.out.trans (hb4.mono H03.out.size))
  obtain ⟨c0, c1, c2, c3, c4⟩ := HBC4.out
  obtain ⟨a0, a1, a2, a3, a4⟩ := HBA4.out
  clear p0 p1 p2 p3 p4 C5 hb4
  by_cases hc0 : ca = 0
  · have g0 : (ca != 0) = false := by simp [hc0]
    by_cases hG : 60 < A.G
    · have hG2 : (60 : Int) < (A.G : Nat) := by omega
      clear hG hc0
      go_wp2
      go_ret
      exact ⟨rfl, H04.out⟩
    · have hG2 : ¬ (60 : Int) < (A.G : Nat) := by omega
      have C7 : Hid (Calls Try.prog 7 #[.agg #[.slice A.sa A.sn A.sc, .slice A.na A.G A.nc, .slice A.ma A.M A.mc, .slice A.oa A.O A.oc, .slice A.fa A.K A.fc]] w4 fun e w' => SiIs w4 A e w') := hid (single7_any A w4 (H.out.below H04.out) (HCA.out.trans hc0) HSN.out.1 HSN.out.2)
      have HC0 := hid hc0
      clear hG hc0
      go_wp2_with fail
      refine C7.out.mono ?_
      intro e w5 hs
      obtain ⟨D, er', rfl, HD⟩ := si_form (H.out.below H04.out) hs
      obtain ⟨hee, hsm⟩ := (HC.out.2.2.2 (HCA.out.trans HC0.out)).two (HD.out.2.2.2 (HCA.out.trans HC0.out))
      subst hee
      clear hs C7
      obtain ⟨W6, hW6, hb6, hbo6⟩ := box5 w5 D
      have h46 : Below w4.heap.size w4 W6 := HD.out.1.trans (hb6.mono HD.out.1.size)
      have C6 : Hid (Calls Try.prog 6 #[.agg #[.slice C.sa C.sn C.sc, .slice C.na C.G C.nc, .slice C.ma C.M C.mc, .slice C.oa C.O C.oc, .slice C.fa C.K C.fc], .agg #[.slice D.sa D.sn D.sc, .slice D.na D.G D.nc, .slice D.ma D.M D.mc, .slice D.oa D.O D.oc, .slice D.fa D.K D.fc]] W6 fun e w' => e = .returned (.bool true) ∧ Below W6.heap.size W6 w') := hid (same_any C D W6 ((HAC.out.below HB4.out).below h46) (HD.out.2.1.below hb6) hsm)
      obtain ⟨e0, e1, e2, e3, e4⟩ := HBC4.out.below h46
      obtain ⟨f0, f1, f2, f3, f4⟩ := hbo6
      have H06 := hid (H04.out.trans (h46.mono H04.out.size))
      have gee : (er == er) = true := by simp
      clear c0 c1 c2 c3 c4 a0 a1 a2 a3 a4 h46 hb6 hsm
      go_wp2_with fail
      refine C6.out.mono ?_
      rintro e w7 ⟨rfl, hb7⟩
      have H07 := hid (H06.out.trans (hb7.mono H06.out.size))
      clear hb7 e0 e1 e2 e3 e4 f0 f1 f2 f3 f4
      go_wp2
      go_ret
      exact ⟨rfl, H07.out⟩
  · have g0 : (ca != 0) = true := by simp [hc0]
    obtain ⟨hC, he⟩ := HC.out.2.2.1 (by rw [HCA.out]; exact hc0)
    rw [HCA.out] at he
    subst he
    subst hC
    have gee : (er == er) = true := by simp
    have C6 : Hid (Calls Try.prog 6 #[.agg nil5, .agg nil5] w4 fun e w' => e = .returned (.bool true) ∧ Below w4.heap.size w4 w') := hid (same_any nilA nilA w4 (nil_aw _) (nil_aw _) (Sme.refl _))
    dsimp only [nilA] at c0 c1 c2 c3 c4
    clear hc0 a0 a1 a2 a3 a4
    go_wp2_with fail
    refine C6.out.mono ?_
    rintro e w7 ⟨rfl, hb7⟩
    have H07 := hid (H04.out.trans (hb7.mono H04.out.size))
    clear hb7 c0 c1 c2 c3 c4
    go_wp2
    go_ret
    exact ⟨rfl, H07.out⟩

end Go.Proofs.Ytdncjikmknkkpaa
