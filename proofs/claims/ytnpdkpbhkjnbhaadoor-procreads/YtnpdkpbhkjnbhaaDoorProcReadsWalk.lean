/- The law ProcReads, walked. -/
import Derived.Test.YtnpdkpbhkjnbhaaDoorProcAgainWalk
import Derived.Test.YtnpdkpbhkjnbhaaDoorRefRead
namespace Go.Proofs.YtnpdkpbhkjnbhaaDoor
open Go.RowKit

theorem chk_uniq {N F : Nat} {M : Nat → ByteArray} {K A B : Nat → Int} {e e' : Int} (h : ChkIs N F M K A B e) (h' : ChkIs N F M K A B e') : e = e' := by
  rcases h with ⟨g1, h⟩ | ⟨k1, ⟨g2, h⟩ | ⟨k2, ⟨g3, h⟩ | ⟨k3, ⟨g4, h⟩ | ⟨k4, h⟩⟩⟩⟩
  · rcases h' with ⟨_, h'⟩ | ⟨k1, _⟩
    · rw [h, h']
    · omega
  · rcases h' with ⟨g1, _⟩ | ⟨_, ⟨_, h'⟩ | ⟨k2, _⟩⟩
    · omega
    · rw [h, h']
    · exact absurd k2 g2
  · rcases h' with ⟨g1, _⟩ | ⟨_, ⟨g2, _⟩ | ⟨_, ⟨_, h'⟩ | ⟨k3, _⟩⟩⟩
    · omega
    · exact absurd k2 g2
    · rw [h, h']
    · exact absurd k3 g3
  · rcases h' with ⟨g1, _⟩ | ⟨_, ⟨g2, _⟩ | ⟨_, ⟨g3, _⟩ | ⟨_, ⟨_, h'⟩ | ⟨k4, _⟩⟩⟩⟩
    · omega
    · exact absurd k2 g2
    · exact absurd k3 g3
    · rw [h, h']
    · exact absurd k4 g4
  · rcases h' with ⟨g1, _⟩ | ⟨_, ⟨g2, _⟩ | ⟨_, ⟨g3, _⟩ | ⟨_, ⟨g4, _⟩ | ⟨_, h'⟩⟩⟩⟩
    · omega
    · exact absurd k2 g2
    · exact absurd k3 g3
    · exact absurd k4 g4
    · rw [h, h']

theorem st_two {s : List UInt8} {k n : Nat} {x y : List UInt8 × Dft} (h : st s k = some x) (h0 : st s (k + 1) = none) (h1 : st s n = some y) (h2 : st s (n + 1) = none) : n = k ∧ y = x := by
  have e : n = k := by
    by_cases c : n < k
    · have := st_none h2 k (by omega)
      rw [this] at h; cases h
    · by_cases c2 : k < n
      · have := st_none h0 n (by omega)
        rw [this] at h1; cases h1
      · omega
  subst e
  rw [h] at h1
  exact ⟨rfl, (Option.some.inj h1).symm⟩

/-- Two that answer as a text is to be read answer one thing. -/
theorem pa_both {s : List UInt8} {e e' : Ending} {w w' : World} (h : PaIs s e w) (h' : PaIs s e' w') :
    (∃ at_ f : Int, e = noProc at_ f ∧ e' = noProc at_ f) ∨ ∃ x : Dft, ∃ na nc fa fc na' nc' fa' fc', e = .returned (.tuple #[.agg #[.slice na x.1.length nc, .slice fa x.2.length fc], .int .i64 0, .int .i64 0]) ∧ Prc w na x.1.length nc fa x.2.length (mM x.1) (mK x.1) (jA x) (jB x) ∧
      e' = .returned (.tuple #[.agg #[.slice na' x.1.length nc', .slice fa' x.2.length fc'], .int .i64 0, .int .i64 0]) ∧ Prc w' na' x.1.length nc' fa' x.2.length (mM x.1) (mK x.1) (jA x) (jB x) := by
  rcases h with ⟨hl, h⟩ | ⟨hl, h⟩
  · rcases h' with ⟨_, h'⟩ | ⟨hl', _⟩
    · exact Or.inl ⟨0, 2, h, h'⟩
    · omega
  · rcases h' with ⟨hl', _⟩ | ⟨_, h'⟩
    · omega
    · rcases h with ⟨k, r, x, h1, h2, h3, he⟩ | ⟨k, x, h1, hc⟩
      · rcases h' with ⟨k', r', x', h1', h2', h3', he'⟩ | ⟨k', x', h1', hc'⟩
        · obtain ⟨e1, _⟩ := st_two h1 h3 h1' h3'
          subst e1
          exact Or.inl ⟨_, 3, he, he'⟩
        · obtain ⟨_, e2⟩ := st_two h1 h3 h1' (st_end h1')
          cases e2
          exact absurd rfl h2
      · rcases h' with ⟨k', r', x', h1', h2', h3', he'⟩ | ⟨k', x', h1', hc'⟩
        · obtain ⟨_, e2⟩ := st_two h1 (st_end h1) h1' h3'
          cases e2
          exact absurd rfl h2'
        · obtain ⟨_, e2⟩ := st_two h1 (st_end h1) h1' (st_end h1')
          cases e2
          rcases hc with ⟨i, hi, hb, hf, he⟩ | ⟨hall, e0, he0, hc⟩
          · rcases hc' with ⟨i', hi', hb', hf', he'⟩ | ⟨hall', _⟩
            · have ei : i = i' := by
                rcases Nat.lt_trichotomy i i' with c | c | c
                · have := hf' i c; omega
                · exact c
                · have := hf i' c; omega
              subst ei
              exact Or.inl ⟨_, 4, he, he'⟩
            · have := hall' i hi
              omega
          · rcases hc' with ⟨i', hi', hb', hf', he'⟩ | ⟨hall', e0', he0', hc'⟩
            · have := hall i' hi'
              omega
            · have ee := chk_uniq he0 he0'
              subst ee
              rcases hc with ⟨hz, he⟩ | ⟨hz, na, nc, fa, fc, he, hp⟩
              · rcases hc' with ⟨_, he'⟩ | ⟨hz', _⟩
                · exact Or.inl ⟨0, e0, he, he'⟩
                · exact absurd hz' hz
              · rcases hc' with ⟨hz', _⟩ | ⟨_, na', nc', fa', fc', he', hp'⟩
                · exact absurd hz hz'
                · exact Or.inr ⟨x, na, nc, fa, fc, na', nc', fa', fc', he, hp, he', hp'⟩

/-- The shape of what is answered. -/
theorem pa_form {s : List UInt8} {e : Ending} {w : World} (h : PaIs s e w) : ∃ na N nc fa F fc at_ f, e = .returned (.tuple #[.agg #[.slice na N nc, .slice fa F fc], .int .i64 at_, .int .i64 f]) := by
  rcases pa_told h with ⟨at_, f, _, _, h⟩ | ⟨x, _, _, _, na, nc, fa, fc, h, _⟩
  · exact ⟨none, 0, 0, none, 0, 0, at_, f, h⟩
  · exact ⟨na, _, nc, fa, _, fc, 0, 0, h⟩

theorem pa_same {s : List UInt8} {w w' : World} {na fa na' fa' : Option Addr} {N nc F fc N' nc' F' fc' : Nat} {at_ f at' f' : Int}
    (h : PaIs s (.returned (.tuple #[.agg #[.slice na N nc, .slice fa F fc], .int .i64 at_, .int .i64 f])) w) (h' : PaIs s (.returned (.tuple #[.agg #[.slice na' N' nc', .slice fa' F' fc'], .int .i64 at', .int .i64 f'])) w') :
    at_ = at' ∧ f = f' ∧ N = N' ∧ F = F' ∧ ∃ M K A B, N ≤ 140737488355328 ∧ F ≤ 140737488355328 ∧ Nds w na N M K ∧ Nds w' na' N M K ∧ Fls w fa F A B ∧ Fls w' fa' F A B := by
  rcases pa_both h h' with ⟨a, g, e1, e2⟩ | ⟨x, xa, xc, ya, yc, xa', xc', ya', yc', e1, p1, e2, p2⟩
  · unfold noProc at e1 e2
    simp at e1 e2
    obtain ⟨⟨⟨rfl, rfl, rfl⟩, rfl, rfl, rfl⟩, rfl, rfl⟩ := e1
    obtain ⟨⟨⟨rfl, rfl, rfl⟩, rfl, rfl, rfl⟩, rfl, rfl⟩ := e2
    exact ⟨rfl, rfl, rfl, rfl, fun _ => ⟨#[]⟩, fun _ => 0, fun _ => 0, fun _ => 0, by omega, by omega, nds_none _ _ _, nds_none _ _ _, fls_none _ _ _, fls_none _ _ _⟩
  · simp at e1 e2
    obtain ⟨⟨⟨rfl, rfl, rfl⟩, rfl, rfl, rfl⟩, rfl, rfl⟩ := e1
    obtain ⟨⟨⟨rfl, rfl, rfl⟩, rfl, rfl, rfl⟩, rfl, rfl⟩ := e2
    exact ⟨rfl, rfl, rfl, rfl, _, _, _, _, p1.nN, p1.nF, p1.nds, p2.nds, p1.fls, p2.fls⟩

set_option maxRecDepth 20000 in
set_option maxHeartbeats 8000000 in
theorem procReads_walk (na fa : Option Addr) (N nc F fc : Nat) (M : Nat → ByteArray) (K A B : Nat → Int) (s : ByteArray) (w : World) (hp : Prc w na N nc fa F M K A B) (hM : ∀ i, i < N → (M i).size ≤ maxLen) (hg : Gl w) (hw2 : 2 ≤ w.heap.size) :
    Calls Tryd.prog 3 #[.agg #[.slice na N nc, .slice fa F fc], .string s] w fun e w' => e = .returned (.bool true) ∧ Below w.heap.size w w' := by
  obtain ⟨e0, he⟩ := chk_ex N F M K A B
  have HE : Hid (ChkIs N F M K A B e0) := he
  have HP : Hid (Prc w na N nc fa F M K A B) := hp
  have HM : Hid (∀ i, i < N → (M i).size ≤ maxLen) := hM
  have HG : Hid (Gl w) := hg
  clear he hp hg hM
  obtain ⟨W, eW⟩ : ∃ x, x = w.alloc (.cells #[.slice na N nc, .slice fa F fc] 25) := ⟨_, rfl⟩
  have HW : Hid (Below w.heap.size w W ∧ W.heap.size = w.heap.size + 1) := by subst eW; exact ⟨box_below _ _, by simp⟩
  have HBx : Hid (∀ w1, Below W.heap.size W w1 → w1.cell? ⟨w.heap.size, 0, none⟩ = some (.slice na N nc) ∧ w1.cell? ⟨w.heap.size, 1, none⟩ = some (.slice fa F fc)) := fun w1 h => by
    have h' : Below (w.heap.size + 1) (w.alloc (.cells #[.slice na N nc, .slice fa F fc] 25)) w1 := by rw [← HW.out.2, ← eW]; exact h
    exact ⟨box_keep h' rfl, box_keep h' rfl⟩
  have HEW : Hid (w.alloc (.cells #[.slice na N nc, .slice fa F fc] 25) = W) := eW.symm
  have HPW : Hid (Prc W na N nc fa F M K A B) := HP.out.below HW.out.1
  have hW2 : 2 ≤ W.heap.size := by have := HW.out.2; omega
  have HGW : Hid (Gl W) := HG.out.below HW.out.1 hw2
  have C1 : Hid (Calls Tryd.prog 6 #[.agg #[.slice na N nc, .slice fa F fc]] W fun e w' => e = .returned (.int .i64 e0) ∧ Below W.heap.size W w') := process_any na fa N nc F fc M K A B e0 W HPW.out HM.out HE.out
  have hc := HBx.out W (Below.refl _ _)
  rw [eW] at hc
  obtain ⟨hc0, hc1⟩ := hc
  clear eW
  have CP : Hid (∀ u, Below W.heap.size W u → Calls Tryd.prog 8 #[.agg #[.slice na N nc, .slice fa F fc]] u fun e w' => PrIs N F M K A B e0 e ∧ Below W.heap.size W w') := fun u hu =>
    (print_any na fa N nc F fc M K A B e0 u (HPW.out.below hu) HE.out (HGW.out.below hu hW2).kws).mono fun e w' ⟨h1, h2⟩ => ⟨h1, hu.trans (h2.mono hu.size)⟩
  have CT : Hid (e0 = 0 → ∀ u, Below W.heap.size W u → Calls Tryd.prog 7 #[.agg #[.slice na N nc, .slice fa F fc]] u fun e w' => e = .returned (.string (byt (txF N M K A B F))) ∧ Below W.heap.size W w') := fun hz u hu =>
    (processText_any na fa N nc F fc M K A B u (HPW.out.below hu) (by rw [← hz]; exact HE.out)).mono fun e w' ⟨h1, h2⟩ => ⟨h1, hu.trans (h2.mono hu.size)⟩
  have CA : Hid (∀ u, Below W.heap.size W u → Calls Tryd.prog 9 #[.string s] u fun e w' => PaIs s.data.toList e w' ∧ Below u.heap.size u w') := fun u hu => parse_any s.data.toList u (HGW.out.below hu hW2) (by have := hu.size; omega)
  have CR : Hid (∀ u, Calls Tryd.prog 10 #[.string s] u fun e w' => PaIs s.data.toList e w' ∧ Below u.heap.size u w') := fun u => readProcess_any s.data.toList u
  obtain ⟨tt, htt⟩ : ∃ z, z = (if e0 = 0 then byt (txF N M K A B F) else ⟨#[]⟩) := ⟨_, rfl⟩
  have HTail : Hid (tt = (if e0 = 0 then byt (txF N M K A B F) else ⟨#[]⟩)) := htt
  clear htt
  have hee : (e0 == e0) = true := by simp
  have htq : (tt.toList == tt.toList) = true := by simp
  have CP' : Hid (∀ u, Below W.heap.size W u → Calls Tryd.prog 8 #[.agg #[.slice na N nc, .slice fa F fc]] u fun e w' => e = .returned (.tuple #[.string tt, .int .i64 e0]) ∧ Below W.heap.size W w') := fun u hu =>
    (CP.out u hu).mono fun e w' ⟨h1, h2⟩ => ⟨by
      rcases h1 with ⟨hz, h⟩ | ⟨hz, h⟩
      · rw [HTail.out, if_neg hz]; exact h
      · rw [HTail.out, if_pos hz, hz]; exact h, h2⟩
  clear CP
  go_enter Tryd.func3, Tryd.ntmps3
  go_wp2_with fail
  rw [HEW.out]
  refine C1.out.mono ?_
  rintro e w1 ⟨rfl, hb1⟩
  have HB1 : Hid (Below W.heap.size W w1) := hb1
  clear hb1 C1 hc0 hc1
  obtain ⟨hc0, hc1⟩ := HBx.out w1 HB1.out
  by_cases hz : e0 = 0
  · have CT' : Hid (∀ u, Below W.heap.size W u → Calls Tryd.prog 7 #[.agg #[.slice na N nc, .slice fa F fc]] u fun e w' => e = .returned (.string tt) ∧ Below W.heap.size W w') := by rw [HTail.out, if_pos hz]; exact CT.out hz
    subst hz
    clear CT
    go_wp2_with fail
    refine (CT'.out _ HB1.out).mono ?_
    rintro e w2 ⟨rfl, hb2⟩
    have HB2 : Hid (Below W.heap.size W w2) := hb2
    clear hb2 hc0 hc1 CT'
    obtain ⟨hc0, hc1⟩ := HBx.out w2 HB2.out
    go_wp2_with fail
    refine (CP'.out _ HB2.out).mono ?_
    rintro e w3 ⟨rfl, hb3⟩
    have HB3 : Hid (Below W.heap.size W w3) := hb3
    clear hb3 hc0 hc1 CP'
    go_wp2_with fail
    refine (CA.out _ HB3.out).mono ?_
    rintro e w4 ⟨hpa, hb4⟩
    have HB4 : Hid (Below W.heap.size W w4) := HB3.out.trans (hb4.mono HB3.out.size)
    obtain ⟨xa, X, xc, ya, Y, yc, at_, f, rfl⟩ := pa_form hpa
    have HPa : Hid (PaIs s.data.toList (.returned (.tuple #[.agg #[.slice xa X xc, .slice ya Y yc], .int .i64 at_, .int .i64 f])) w4) := hpa
    clear hb4 hpa CA
    obtain ⟨W5, e5⟩ : ∃ v, v = w4.alloc (.cells #[.slice xa X xc, .slice ya Y yc] 25) := ⟨_, rfl⟩
    have H5 : Hid (Below w4.heap.size w4 W5 ∧ W5.cell? ⟨w4.heap.size, 0, none⟩ = some (.slice xa X xc) ∧ W5.cell? ⟨w4.heap.size, 1, none⟩ = some (.slice ya Y yc)) := by subst e5; exact ⟨box_below _ _, cell_of_alloc rfl, cell_of_alloc rfl⟩
    have HE5 : Hid (w4.alloc (.cells #[.slice xa X xc, .slice ya Y yc] 25) = W5) := e5.symm
    clear e5
    go_wp2_with fail
    rw [HE5.out]
    refine (CR.out W5).mono ?_
    rintro e w6 ⟨hpa, hb6⟩
    have HB6 : Hid (Below W5.heap.size W5 w6) := hb6
    obtain ⟨xa', X', xc', ya', Y', yc', at', f', rfl⟩ := pa_form hpa
    obtain ⟨rfl, rfl, rfl, rfl, M2, K2, A2, B2, hX, hY, n1, n2, f1, f2⟩ := pa_same HPa.out hpa
    have HB46 : Hid (Below w4.heap.size w4 w6) := H5.out.1.trans (hb6.mono H5.out.1.size)
    obtain ⟨W7, e7⟩ : ∃ v, v = w6.alloc (.cells #[.slice xa' X xc', .slice ya' Y yc'] 25) := ⟨_, rfl⟩
    have H7 : Hid (Below w6.heap.size w6 W7 ∧ W7.cell? ⟨w6.heap.size, 0, none⟩ = some (.slice xa' X xc') ∧ W7.cell? ⟨w6.heap.size, 1, none⟩ = some (.slice ya' Y yc')) := by subst e7; exact ⟨box_below _ _, cell_of_alloc rfl, cell_of_alloc rfl⟩
    have HB47 : Hid (Below w4.heap.size w4 W7) := HB46.out.trans (H7.out.1.mono HB46.out.size)
    have CS : Hid (Calls Tryd.prog 11 #[.agg #[.slice xa X xc, .slice ya Y yc], .agg #[.slice xa' X xc', .slice ya' Y yc']] W7 fun e w' => e = .returned (.bool true) ∧ Below W7.heap.size W7 w') :=
      sameProc_any xa ya xa' ya' X xc Y yc xc' yc' M2 K2 A2 B2 W7 hX hY (n1.below HB47.out) (n2.below H7.out.1) (f1.below HB47.out) (f2.below H7.out.1)
    have z5 : ∀ i v, W5.cell? ⟨w4.heap.size, i, none⟩ = some v → W7.cell? ⟨w4.heap.size, i, none⟩ = some v := fun i v h => by
      have h6 := (hb6.cell (p := ⟨w4.heap.size, i, none⟩) (World.block_lt_of_cell? _ _ h)).trans h
      exact (H7.out.1.cell (p := ⟨w4.heap.size, i, none⟩) (World.block_lt_of_cell? _ _ h6)).trans h6
    have z50 := z5 _ _ H5.out.2.1
    have z51 := z5 _ _ H5.out.2.2
    have z70 := H7.out.2.1
    have z71 := H7.out.2.2
    have HBW7 : Hid (Below W.heap.size W W7) := HB4.out.trans (HB47.out.mono HB4.out.size)
    rw [e7] at z50 z51 z70 z71
    have HE7 : Hid (w6.alloc (.cells #[.slice xa' X xc', .slice ya' Y yc'] 25) = W7) := e7.symm
    have haa : (at_ == at_) = true := by simp
    have hff : (f == f) = true := by simp
    clear z5 e7 n1 n2 f1 f2 hb6 hpa
    go_wp2_with fail
    rw [HE7.out]
    refine CS.out.mono ?_
    rintro e w8 ⟨rfl, hb8⟩
    have HB8 : Hid (Below w.heap.size w w8) := HW.out.1.trans ((HBW7.out.trans (hb8.mono HBW7.out.size)).mono HW.out.1.size)
    clear hb8 CS
    go_wp2
    go_ret
    exact ⟨rfl, HB8.out⟩
  · have hz' : (e0 == 0) = false := beq_eq_false_iff_ne.2 hz
    obtain rfl : tt = ⟨#[]⟩ := by rw [HTail.out, if_neg hz]
    have HB2 : Hid (Below W.heap.size W w1) := HB1.out
    clear CT hz
    go_wp2_with fail
    refine (CP'.out _ HB2.out).mono ?_
    rintro e w3 ⟨rfl, hb3⟩
    have HB3 : Hid (Below W.heap.size W w3) := hb3
    clear hb3 hc0 hc1 CP'
    go_wp2_with fail
    refine (CA.out _ HB3.out).mono ?_
    rintro e w4 ⟨hpa, hb4⟩
    have HB4 : Hid (Below W.heap.size W w4) := HB3.out.trans (hb4.mono HB3.out.size)
    obtain ⟨xa, X, xc, ya, Y, yc, at_, f, rfl⟩ := pa_form hpa
    have HPa : Hid (PaIs s.data.toList (.returned (.tuple #[.agg #[.slice xa X xc, .slice ya Y yc], .int .i64 at_, .int .i64 f])) w4) := hpa
    clear hb4 hpa CA
    obtain ⟨W5, e5⟩ : ∃ v, v = w4.alloc (.cells #[.slice xa X xc, .slice ya Y yc] 25) := ⟨_, rfl⟩
    have H5 : Hid (Below w4.heap.size w4 W5 ∧ W5.cell? ⟨w4.heap.size, 0, none⟩ = some (.slice xa X xc) ∧ W5.cell? ⟨w4.heap.size, 1, none⟩ = some (.slice ya Y yc)) := by subst e5; exact ⟨box_below _ _, cell_of_alloc rfl, cell_of_alloc rfl⟩
    have HE5 : Hid (w4.alloc (.cells #[.slice xa X xc, .slice ya Y yc] 25) = W5) := e5.symm
    clear e5
    go_wp2_with fail
    rw [HE5.out]
    refine (CR.out W5).mono ?_
    rintro e w6 ⟨hpa, hb6⟩
    have HB6 : Hid (Below W5.heap.size W5 w6) := hb6
    obtain ⟨xa', X', xc', ya', Y', yc', at', f', rfl⟩ := pa_form hpa
    obtain ⟨rfl, rfl, rfl, rfl, M2, K2, A2, B2, hX, hY, n1, n2, f1, f2⟩ := pa_same HPa.out hpa
    have HB46 : Hid (Below w4.heap.size w4 w6) := H5.out.1.trans (hb6.mono H5.out.1.size)
    obtain ⟨W7, e7⟩ : ∃ v, v = w6.alloc (.cells #[.slice xa' X xc', .slice ya' Y yc'] 25) := ⟨_, rfl⟩
    have H7 : Hid (Below w6.heap.size w6 W7 ∧ W7.cell? ⟨w6.heap.size, 0, none⟩ = some (.slice xa' X xc') ∧ W7.cell? ⟨w6.heap.size, 1, none⟩ = some (.slice ya' Y yc')) := by subst e7; exact ⟨box_below _ _, cell_of_alloc rfl, cell_of_alloc rfl⟩
    have HB47 : Hid (Below w4.heap.size w4 W7) := HB46.out.trans (H7.out.1.mono HB46.out.size)
    have CS : Hid (Calls Tryd.prog 11 #[.agg #[.slice xa X xc, .slice ya Y yc], .agg #[.slice xa' X xc', .slice ya' Y yc']] W7 fun e w' => e = .returned (.bool true) ∧ Below W7.heap.size W7 w') :=
      sameProc_any xa ya xa' ya' X xc Y yc xc' yc' M2 K2 A2 B2 W7 hX hY (n1.below HB47.out) (n2.below H7.out.1) (f1.below HB47.out) (f2.below H7.out.1)
    have z5 : ∀ i v, W5.cell? ⟨w4.heap.size, i, none⟩ = some v → W7.cell? ⟨w4.heap.size, i, none⟩ = some v := fun i v h => by
      have h6 := (hb6.cell (p := ⟨w4.heap.size, i, none⟩) (World.block_lt_of_cell? _ _ h)).trans h
      exact (H7.out.1.cell (p := ⟨w4.heap.size, i, none⟩) (World.block_lt_of_cell? _ _ h6)).trans h6
    have z50 := z5 _ _ H5.out.2.1
    have z51 := z5 _ _ H5.out.2.2
    have z70 := H7.out.2.1
    have z71 := H7.out.2.2
    have HBW7 : Hid (Below W.heap.size W W7) := HB4.out.trans (HB47.out.mono HB4.out.size)
    rw [e7] at z50 z51 z70 z71
    have HE7 : Hid (w6.alloc (.cells #[.slice xa' X xc', .slice ya' Y yc'] 25) = W7) := e7.symm
    have haa : (at_ == at_) = true := by simp
    have hff : (f == f) = true := by simp
    clear z5 e7 n1 n2 f1 f2 hb6 hpa
    go_wp2_with fail
    rw [HE7.out]
    refine CS.out.mono ?_
    rintro e w8 ⟨rfl, hb8⟩
    have HB8 : Hid (Below w.heap.size w w8) := HW.out.1.trans ((HBW7.out.trans (hb8.mono HBW7.out.size)).mono HW.out.1.size)
    clear hb8 CS
    go_wp2
    go_ret
    exact ⟨rfl, HB8.out⟩

end Go.Proofs.YtnpdkpbhkjnbhaaDoor
