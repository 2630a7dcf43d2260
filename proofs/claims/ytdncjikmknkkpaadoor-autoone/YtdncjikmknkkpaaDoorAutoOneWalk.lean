/- The law AutoOne. -/
import Derived.Test.YtdncjikmknkkpaaDoorSgl
import Derived.Test.YtdncjikmknkkpaaDoorAutoWordsWalk
namespace Go.Proofs.YtdncjikmknkkpaaDoor
open Go.RowKit Go.Shelf

abbrev nilA : Ax := ⟨none, 0, 0, none, 0, 0, none, 0, 0, none, 0, 0, none, 0, 0, fun _ => 0, fun _ => 0, fun _ _ => 0, fun _ => 0, fun _ => 0, fun _ => 0, fun _ _ => 0⟩

theorem aw_of_si {w' : World} {A : Ax} {w : World} (h : Aw w A) (h0 : chkA A = 0) {k base g : Nat} {sa na ma oa ga : Option Addr} {sc nc mc oc gc : Nat} {V : List Value} (hk : (sgL A k).length = k) (hk2 : k ≤ 2048)
    (h1 : w'.ownsRow base 3 1 (.slice sa (cs ((sgS A).map fun p => ix p (sgL A k))).length sc) (cs ((sgS A).map fun p => ix p (sgL A k))).length (vals (cs ((sgS A).map fun p => ix p (sgL A k)))))
    (h2 : Rws2 w' base (.slice na k nc) k (fun i => (sgX A (nAt (sgL A k) i)).map fun p => ix p (sgL A k)) V)
    (h3 : w'.ownsRow base 51 1 (.slice ma k mc) k (vu (fun i => A.Mu (nAt (sgL A k) i).1) k)) (h4 : w'.ownsRow base 51 1 (.slice oa k oc) k (vu (fun i => A.No (nAt (sgL A k) i).1) k))
    (h5 : w'.cell? ⟨g, 0, none⟩ = some (.slice ga (cs (whN (fun i => sgF A (nAt (sgL A k) i)) k)).length gc)) (h6 : w'.ownsRow base 3 1 (.slice ga (cs (whN (fun i => sgF A (nAt (sgL A k) i)) k)).length gc) (cs (whN (fun i => sgF A (nAt (sgL A k) i)) k)).length (vals (cs (whN (fun i => sgF A (nAt (sgL A k) i)) k)))) :
    Aw w' { sgC A k with sa := sa, sc := sc, na := na, nc := nc, ma := ma, mc := mc, oa := oa, oc := oc, fa := some ⟨g, 0, none⟩, fc := 1 } := by
  have hrow : ∀ {b : Nat} {a : Option Addr} {c : Nat} {l : List Nat}, w'.ownsRow b 3 1 (.slice a (cs l).length c) (cs l).length (vals (cs l)) → Row w' a l.length (fun i => ((l.getD i 0 : Nat) : Int)) := fun {b a c l} hh => by
    obtain ⟨a2, c2, e, b2, o2, r1, r2⟩ := owns_row hh
    cases e
    rw [cs_len] at r1 r2
    exact ⟨b2, o2, r1, fun i hi => by have := r2 i hi; simp only [cs_at] at this; exact this⟩
  have hall := sgL_all h0 k
  obtain ⟨hG, hK, hM, hO, _⟩ := chkA_ok h0
  have hlenX : ∀ p, (sgX A p).length ≤ 2048 := fun p => by unfold sgX sNx; rw [List.length_map]; exact aNx_len h0 _
  have hp : ∀ i, i < k → (nAt (sgL A k) i).1 < A.G := fun i hi => (hall _ (nAt_mem (by omega))).1
  refine ⟨?_, ?_, ?_, ?_, ?_, ?_, by show k ≤ _; omega, fun r _ => ?_, by show k ≤ _; omega, by show k ≤ _; omega, by show 1 ≤ _; omega, fun r _ => ?_, fun i hi => h.mu _ ?_, fun i hi => h.no _ ?_⟩
  · have := hrow h1
    rw [List.length_map] at this
    exact this
  · have htop := h2.top
    refine ⟨(match na with | some a => a.block | none => 0), 0, fun hh => ?_, fun r hr => ?_⟩
    · rcases htop.2 with ⟨e, hz⟩ | ⟨g2, cap, cur, e, _⟩
      · have : 0 < k := hh; omega
      · cases e; rfl
    · have hr' : r < k := hr
      obtain ⟨v, e1, e2⟩ := h2.row r hr'
      obtain ⟨a, c, rfl, _⟩ := owns_row e2
      refine ⟨a, c, ?_, ?_⟩
      · rcases htop.2 with ⟨e, hz⟩ | ⟨g2, cap, cur, e, _⟩
        · have : k = 0 := hz; omega
        · cases e
          have := htop.cells (g := g2) rfl r _ e1
          rw [Addr.add_mid, Nat.zero_add] at this
          rw [Nat.zero_add, this]
          show _ = some (Value.slice a (sgX A (nAt (sgL A k) r)).length c)
          rw [cs_len, List.length_map]
      · have := hrow e2
        rw [List.length_map] at this
        exact this
  · obtain ⟨a, c, e, hr⟩ := owns_rowU h3
    cases e
    exact hr
  · obtain ⟨a, c, e, hr⟩ := owns_rowU h4
    cases e
    exact hr
  · refine ⟨g, 0, fun _ => rfl, fun r hr => ?_⟩
    obtain rfl : r = 0 := by have : r < 1 := hr; omega
    rw [Nat.zero_add, h5]
    exact ⟨ga, gc, by rw [cs_len]; rfl, hrow h6⟩
  · show (sgS A).length ≤ _
    unfold sgS
    rw [List.length_map]
    have := aSt_len h0
    omega
  · show (sgX A (nAt (sgL A k) r)).length ≤ _
    have := hlenX (nAt (sgL A k) r)
    omega
  · show (whN (fun i => sgF A (nAt (sgL A k) i)) k).length ≤ _
    have := whN_len (fun i => sgF A (nAt (sgL A k) i)) k
    omega
  · have := hp i hi; omega
  · have := hp i hi; omega

/-- What Single answers, as an automaton in memory. -/
theorem single_c (A : Ax) (w : World) (h : Aw w A) : Calls Tryd.prog 17 #[.agg #[.slice A.sa A.sn A.sc, .slice A.na A.G A.nc, .slice A.ma A.M A.mc, .slice A.oa A.O A.oc, .slice A.fa A.K A.fc]] w fun e w' => ∃ (C : Ax) (er : Int), e = .returned (.tuple #[.agg #[.slice C.sa C.sn C.sc, .slice C.na C.G C.nc, .slice C.ma C.M C.mc, .slice C.oa C.O C.oc, .slice C.fa C.K C.fc], .int .i64 er]) ∧
    Hid (Below w.heap.size w w' ∧ (er ≠ 0 → C.G = 0) ∧ (er = 0 → chkA A = 0 ∧ chkA C = 0 ∧ C.K = 1 ∧ Aw w' C ∧ ∀ o, (autA C).Acc o ↔ (autA A).Acc o)) := by
  refine (single_any A w h).mono ?_
  rintro e w' (⟨h0, rfl, hb⟩ | ⟨h0, h1, rfl, hb⟩ | ⟨h0, k, sv, nv, mv, ov, gv, g, V, hk, hk2, rfl, hb, r1, r2, r3, r4, hg, r5, r6⟩)
  · exact ⟨nilA, chkA A, rfl, hid ⟨hb, fun _ => rfl, fun e => absurd e h0⟩⟩
  · exact ⟨nilA, 2, rfl, hid ⟨hb, fun _ => rfl, fun e => by cases e⟩⟩
  · obtain ⟨sa, sc, rfl⟩ := owns_sl r1
    obtain ⟨na, nc, rfl⟩ := owns_sl r2.top
    obtain ⟨ma, mc, rfl⟩ := owns_sl r3
    obtain ⟨oa, oc, rfl⟩ := owns_sl r4
    obtain ⟨ga, gc, rfl⟩ := owns_sl r6
    refine ⟨{ sgC A k with sa := sa, sc := sc, na := na, nc := nc, ma := ma, mc := mc, oa := oa, oc := oc, fa := some ⟨g, 0, none⟩, fc := 1 }, 0, ?_, hid ⟨hb, fun e => absurd rfl e, fun _ => ⟨h0, sg_chk hk hk2, rfl, aw_of_si h h0 hk hk2 r1 r2 r3 r4 r5 r6, fun o => sg_acc h0 hk o⟩⟩⟩
    rw [cs_len, List.length_map]
    rfl

theorem box5 (w : World) (C : Ax) : ∃ W, w.alloc (.cells #[.slice C.sa C.sn C.sc, .slice C.na C.G C.nc, .slice C.ma C.M C.mc, .slice C.oa C.O C.oc, .slice C.fa C.K C.fc] 26) = W ∧ Below w.heap.size w W ∧ Bo W w.heap.size C :=
  ⟨_, rfl, box_below _ _, ⟨cell_of_alloc rfl, cell_of_alloc rfl, cell_of_alloc rfl, cell_of_alloc rfl, cell_of_alloc rfl⟩⟩

set_option maxRecDepth 100000 in
set_option maxHeartbeats 4000000 in
theorem autoOne_walk (A : Ax) (wsa : Option Addr) (s wsc : Nat) (wla : Option Addr) (m wlc : Nat) (S' L' : Nat → Int) (w : World) (h : Aw w A) (hw : Wd w wsa s wla m S' L') (hT : Tb w) :
    Calls Tryd.prog 6 #[A.val, .agg #[.slice wsa s wsc, .slice wla m wlc]] w fun e w' => e = .returned (.bool true) ∧ Below w.heap.size w w' := by
  show Calls Tryd.prog 6 #[.agg #[.slice A.sa A.sn A.sc, .slice A.na A.G A.nc, .slice A.ma A.M A.mc, .slice A.oa A.O A.oc, .slice A.fa A.K A.fc], .agg #[.slice wsa s wsc, .slice wla m wlc]] w _
  obtain ⟨W1, hW1, hb1, hs1, hbo, hc0, hc1⟩ := ac_world w A wsa s wsc wla m wlc
  have HTz : Hid (∀ z, Below w.heap.size w z → Tb z) := hid (fun z hz j hj => below_cell hz (Nat.le_refl _) (hT j hj))
  have CE := hid (ever_any W1 (HTz.out _ hb1))
  have C17 := hid (fun (z : World) (hz : Below w.heap.size w z) => single_c A z (h.below hz))
  have CA : Hid (∀ (C : Ax) (z : World), Aw z C → Below w.heap.size w z → Calls Tryd.prog 9 #[.agg #[.slice C.sa C.sn C.sc, .slice C.na C.G C.nc, .slice C.ma C.M C.mc, .slice C.oa C.O C.oc, .slice C.fa C.K C.fc], .agg #[.slice wsa s wsc, .slice wla m wlc]] z fun e w' => ∃ b, e = .returned (.tuple #[.bool b, .int .i64 (erA C s m)]) ∧ Hid ((erA C s m ≠ 0 → b = false) ∧ (erA C s m = 0 → (b = true ↔ (autA C).Acc (ltr s m S' L'))) ∧ Below z.heap.size z w')) := hid (fun C z hC hz => accepts_b C wsa s wsc wla m wlc S' L' z hC (hw.below hz) (HTz.out z hz))
  have H := hid h
  have HB1 := hid (And.intro hb1 (And.intro hbo (And.intro hc0 hc1)))
  obtain ⟨q0, q1, q2, q3, q4⟩ := hbo
  clear h hw hT hb1
  go_enter Tryd.func6, Tryd.ntmps6
  go_wp2_with fail
  refine CE.out.mono ?_
  rintro e w2 ⟨rfl, hb2⟩
  have HB2 := hid (HB1.out.1.trans (hb2.mono HB1.out.1.size))
  obtain ⟨p0, p1, p2, p3, p4⟩ := HB1.out.2.1.below hb2
  have HBO2 := hid (HB1.out.2.1.below hb2)
  have d0 := below_cell hb2 (Nat.le_refl _) hc0
  have d1 := below_cell hb2 (Nat.le_refl _) hc1
  clear hb2 q0 q1 q2 q3 q4 hc0 hc1 hs1 CE
  go_wp2_with fail
  refine (C17.out w2 HB2.out).mono ?_
  rintro e w3 ⟨C, er, rfl, HC⟩
  obtain ⟨W4, hW4, hb4, hbo4⟩ := box5 w3 C
  have HB3 : Hid (Below w2.heap.size w2 W4) := hid (HC.out.1.trans (hb4.mono HC.out.1.size))
  have HB4 : Hid (Below w.heap.size w W4) := hid (HB2.out.trans (HB3.out.mono HB2.out.size))
  obtain ⟨r0, r1, r2, r3, r4⟩ := HBO2.out.below HB3.out
  have e0 := below_cell HB3.out (Nat.le_refl _) d0
  have e1 := below_cell HB3.out (Nat.le_refl _) d1
  have C9 := hid (CA.out A W4 (H.out.below HB4.out) HB4.out)
  obtain ⟨ea, hea⟩ : ∃ ea, erA A s m = ea := ⟨_, rfl⟩
  rw [hea] at C9
  have HEA := hid hea
  have HBO4 := hid hbo4
  have HB43 := hid hb4
  clear d0 d1 p0 p1 p2 p3 p4 hea hbo4 hb4 C17
  go_wp2_with fail
  refine C9.out.mono ?_
  rintro e w5 ⟨x, rfl, HX⟩
  have hb5 := HX.out.2.2
  obtain ⟨c0, c1, c2, c3, c4⟩ := HBO4.out.below hb5
  have g0 := below_cell hb5 (Nat.le_refl _) e0
  have g1 := below_cell hb5 (Nat.le_refl _) e1
  have HB5 := hid (HB4.out.trans (hb5.mono HB4.out.size))
  have HB54 := hid hb5
  clear hb5 r0 r1 r2 r3 r4 e0 e1 C9
  by_cases h1 : er = 0
  · have hh := HC.out.2.2 h1
    have t1 : (er != 0) = false := by simp [h1]
    have t2 : (er == 0) = true := by simp [h1]
    by_cases h2 : ea = 0
    · have t3 : (ea != 0) = false := by simp [h2]
      have t4 : (C.K : Int) = 1 := by rw [hh.2.2.1]; rfl
      have hC5 : Aw w5 C := (hh.2.2.2.1.below HB43.out).below HB54.out
      have D9 := hid (CA.out C w5 hC5 HB5.out)
      have hec : erA C s m = 0 := by
        rw [erA_of hh.2.1]
        have := HEA.out
        rw [erA_of hh.1, h2] at this
        exact this
      have hx := HX.out.2.1
      rw [hec] at D9
      have HHH := hid (And.intro h2 (And.intro hh.2.2.2.2 HEA.out))
      clear h1 h2 hh hec hx
      have HK := hid t4
      clear t4
      go_wp2_with fail
      refine D9.out.mono ?_
      rintro e w6 ⟨z, rfl, HZ⟩
      have hb6 := HZ.out.2.2
      obtain ⟨k0, k1, k2, k3, k4⟩ := (HBO4.out.below HB54.out).below hb6
      have HB6 := hid (HB5.out.trans (hb6.mono HB5.out.size))
      have t5 : (z == x) = true := by
        have y1 := HZ.out.2.1 trivial
        have y2 := HX.out.2.1 HHH.out.1
        rw [beq_iff_eq, Bool.eq_iff_iff]
        exact y1.trans ((HHH.out.2.1 _).trans y2.symm)
      have t6 : ((C.K : Int) == 1) = true := by rw [HK.out]; rfl
      clear hb6 c0 c1 c2 c3 c4
      go_wp2
      go_ret
      exact ⟨rfl, HB6.out⟩
    · have t3 : (ea != 0) = true := by simp [h2]
      clear h1 h2 hh
      go_wp2
      go_ret
      exact ⟨rfl, HB5.out⟩
  · have hG := HC.out.2.1 h1
    have t1 : (er != 0) = true := by simp [h1]
    have t2 : (er == 0) = false := by simp [h1]
    have t3 : ((C.G : Int) == 0) = true := by rw [hG]; rfl
    clear h1 hG
    go_wp2
    go_ret
    exact ⟨rfl, HB5.out⟩

end Go.Proofs.YtdncjikmknkkpaaDoor
