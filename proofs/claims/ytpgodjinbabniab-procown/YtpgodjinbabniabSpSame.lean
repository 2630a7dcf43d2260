/- SameSpace, of one space twice. -/
import Derived.Test.YtpgodjinbabniabSpFace
namespace Go.Proofs.Ytpgodjinbabniab
open Go.RowKit Go.Maps

theorem Prs.below {w w' : World} {a : Option Addr} {C : List (Int × Int)} (h : Prs w a C) (hb : Below w.heap.size w w') : Prs w' a C := by
  obtain ⟨b, o, ha, hc⟩ := h
  refine ⟨b, o, ha, fun i hi => ?_⟩
  obtain ⟨h1, h2⟩ := hc i hi
  exact ⟨(hb.cell (p := ⟨b, o + i * 2, none⟩) (World.block_lt_of_cell? _ _ h1)).trans h1, (hb.cell (p := ⟨b, o + i * 2 + 1, none⟩) (World.block_lt_of_cell? _ _ h2)).trans h2⟩

set_option maxHeartbeats 1000000 in
theorem equalE_any {a a' : Option Addr} {n c c' : Nat} {C : List (Int × Int)} {w : World} (hn : n = C.length) (hn0 : n ≤ 140737488355328) (h : Prs w a C) (h' : Prs w a' C) :
    Calls Try.prog 55 #[.slice a n c, .slice a' n c'] w fun e w' => e = .returned (.bool true) ∧ ∃ q, w' = w.drewN q := by
  obtain ⟨b, o, ha, hc⟩ := h
  obtain ⟨b', o', ha', hc'⟩ := h'
  rw [← hn] at ha ha' hc hc'
  clear hn
  go_enter Try.func55, Try.ntmps55
  go_wp2
  go_loopw [13] (fun i wr => ∃ k : Nat, k ≤ n ∧ i = .int .i64 k ∧ ∃ q, wr = w.drewN q) (fun i _ => n - (intOf i).toNat)
  case atStart => exact ⟨0, Nat.zero_le _, rfl, 0, rfl⟩
  case round =>
    obtain ⟨k, hk, rfl, q, rfl⟩ := hrel
    by_cases hlt : k < n
    · obtain rfl := ha (by omega)
      obtain rfl := ha' (by omega)
      obtain ⟨h1, h2⟩ := hc k hlt
      obtain ⟨g1, g2⟩ := hc' k hlt
      have hzk : (k : Int) < n := by omega
      generalize (C.getD k (0, 0)).1 = x1 at *
      generalize (C.getD k (0, 0)).2 = x2 at *
      clear hc hc' ha ha'
      go_wp2
      go_quiet (fail)
      go_wp2
      go_roundw
      case rel => exact ⟨k + 1, by omega, by go_num, _, rfl⟩
      case measure => simp [intOf]; omega
    · go_wp2
      go_ret
      exact ⟨rfl, q, rfl⟩

/-- The edges of the i-th marking, in memory. -/
theorem nxs_at {w : World} {base : Nat} {xa : Option Addr} {n xc : Nat} {nexts : List (List (Int × Int))} (h : Nxs w base (.slice xa n xc) nexts) {i : Nat} (hi : i < nexts.length) :
    ∃ b o a c, xa = some ⟨b, o, none⟩ ∧ w.cell? ⟨b, o + i, none⟩ = some (.slice a (nexts.getD i []).length c) ∧ Prs w a (nexts.getD i []) := by
  obtain ⟨Vs, h1, h2⟩ := h
  obtain ⟨v, hv, ho⟩ := h2 i hi
  obtain ⟨a, c, rfl, _, hp⟩ := owns_prs ho rfl
  rcases h1.2 with ⟨e, h0⟩ | ⟨g, cap, cur, e, _⟩
  · omega
  · simp only [Value.slice.injEq] at e
    obtain ⟨rfl, rfl, rfl⟩ := e
    have := h1.cells (g := g) rfl i _ hv
    rw [add_none2] at this
    exact ⟨g, 0, a, c, rfl, this, hp⟩

theorem Mks.below' {w w' : World} {base F : Nat} {mv : Value} {marks : List (List Int)} (h : Mks w base mv F marks) (hb : Below w.heap.size w w') : Mks w' base mv F marks := mks_kp (L := [some 26, some 3]) h (kp_below hb) (by decide) (by decide)

set_option maxHeartbeats 1000000 in
theorem equalFuncE_any {xa ya : Option Addr} {n xc yc : Nat} {base base' : Nat} {nexts : List (List (Int × Int))} {w : World} (hn : n = nexts.length) (hn0 : n ≤ 1000000) (h : Nxs w base (.slice xa n xc) nexts) (h' : Nxs w base' (.slice ya n yc) nexts) (hs : ∀ i, i < n → (nexts.getD i []).length ≤ 1000000) :
    Calls Try.prog 54 #[.slice xa n xc, .slice ya n yc, .func (Fn.func 55) #[] #[]] w fun e w' => e = .returned (.bool true) ∧ ∃ q, w' = w.drewN q := by
  have HX : Hid (Nxs w base (.slice xa n xc) nexts) := h
  have HY : Hid (Nxs w base' (.slice ya n yc) nexts) := h'
  have HS : Hid (∀ i, i < n → (nexts.getD i []).length ≤ 1000000) := hs
  have HN : Hid (n = nexts.length) := hn
  clear h h' hs hn
  go_enter Try.func54, Try.ntmps54
  go_wp2
  go_loopw [17] (fun i wr => ∃ k : Nat, k ≤ n ∧ i = .int .i64 k ∧ ∃ q, wr = w.drewN q) (fun i _ => n - (intOf i).toNat)
  case atStart => exact ⟨0, Nat.zero_le _, rfl, 0, rfl⟩
  case round =>
    obtain ⟨k, hk, rfl, q, rfl⟩ := hrel
    by_cases hlt : k < n
    · have hk2 : k < nexts.length := by have := HN.out; omega
      obtain ⟨b, o, a, c, rfl, hc, hp⟩ := nxs_at HX.out hk2
      obtain ⟨b', o', a', c', rfl, hc', hp'⟩ := nxs_at HY.out hk2
      have hzk : (k : Int) < n := by omega
      have C1 : Hid (∀ q, Calls Try.prog 55 #[.slice a (nexts.getD k []).length c, .slice a' (nexts.getD k []).length c'] (w.drewN q) fun e w' => e = .returned (.bool true) ∧ ∃ q2, w' = (w.drewN q).drewN q2) := fun q => equalE_any rfl (by have := HS.out k hlt; omega) (hp.below (below_drewn (Below.refl _ _) q)) (hp'.below (below_drewn (Below.refl _ _) q))
      generalize (nexts.getD k []).length = nl at *
      clear hp hp' hk2
      go_wp2_with fail
      refine (C1.out q).mono ?_
      rintro e w' ⟨rfl, q', rfl⟩
      go_wp2
      go_roundw
      case rel => exact ⟨k + 1, by omega, by go_num, _, rfl⟩
      case measure => simp [intOf]; omega
    · go_wp2
      go_ret
      exact ⟨rfl, q, rfl⟩

theorem mks_gr {w : World} {base F : Nat} {ma : Option Addr} {n mc : Nat} {marks : List (List Int)} (hn : n = marks.length) (h : Mks w base (.slice ma n mc) F marks) : Gr w ma n (fun _ => F) (fun i => fnl (marks.getD i [])) := by
  subst hn
  obtain ⟨G, hM, _⟩ := h
  exact hM.gr

set_option maxHeartbeats 1000000 in
theorem sameSpace_any {ma mb xa xb : Option Addr} {ml xl mc nc xc yc base base' F : Nat} {marks : List (List Int)} {nexts : List (List (Int × Int))} {w : World} (hm : ml = marks.length) (hx : xl = nexts.length) (hm0 : ml ≤ 1000000) (hx0 : xl ≤ 1000000) (hF : F ≤ 1000000)
    (h : Spc w base (.slice ma ml mc) (.slice xa xl xc) F marks nexts) (h' : Spc w base' (.slice mb ml nc) (.slice xb xl yc) F marks nexts) (hs : ∀ i, i < xl → (nexts.getD i []).length ≤ 1000000) :
    Calls Try.prog 26 #[.agg #[.slice ma ml mc, .slice xa xl xc], .agg #[.slice mb ml nc, .slice xb xl yc]] w fun e w' => e = .returned (.bool true) ∧ Below w.heap.size w w' := by
  obtain ⟨W, eW⟩ : ∃ x, x = (w.alloc (.cells #[.slice ma ml mc, .slice xa xl xc] 46)).alloc (.cells #[.slice mb ml nc, .slice xb xl yc] 46) := ⟨_, rfl⟩
  have HW : Hid (Below w.heap.size w W) := by
    subst eW
    exact (box_below _ _).trans ((box_below _ _).mono (by simp))
  have HEW : Hid ((w.alloc (.cells #[.slice ma ml mc, .slice xa xl xc] 46)).alloc (.cells #[.slice mb ml nc, .slice xb xl yc] 46) = W) := eW.symm
  have HBx : Hid (∀ q, (W.drewN q).cell? ⟨w.heap.size, 1, none⟩ = some (.slice xa xl xc) ∧ (W.drewN q).cell? ⟨w.heap.size + 1, 1, none⟩ = some (.slice xb xl yc)) := fun q => by
    have e1 : (w.alloc (.cells #[.slice ma ml mc, .slice xa xl xc] 46)).heap.size = w.heap.size + 1 := by simp
    have hb : Below W.heap.size W (W.drewN q) := below_drewn (Below.refl _ _) q
    subst eW
    refine ⟨keep_alloc hb (cell_of_alloc rfl), ?_⟩
    rw [← e1]
    exact new_alloc hb rfl
  have C1 : Hid (Calls Try.prog 45 #[.slice ma ml mc, .slice mb ml nc, .func (Fn.func 11) #[] #[]] W fun e w' => e = .returned (.bool true) ∧ ∃ q, w' = W.drewN q) := by
    refine (equalFunc_any ma mb ml mc ml nc (fun _ => F) (fun _ => F) _ _ W (by omega) (fun _ _ => by omega) (mks_gr hm (h.1.below' HW.out)) (mks_gr hm (h'.1.below' HW.out))).mono fun e w' hh => ⟨?_, hh.2⟩
    rw [hh.1, sameG_yes rfl (fun i _ => same_yes rfl (fun _ _ => rfl))]
  have C2 : Hid (∀ q, Calls Try.prog 54 #[.slice xa xl xc, .slice xb xl yc, .func (Fn.func 55) #[] #[]] (W.drewN q) fun e w' => e = .returned (.bool true) ∧ ∃ q2, w' = (W.drewN q).drewN q2) := fun q => by
    have hb : Below w.heap.size w (W.drewN q) := below_drewn HW.out q
    exact equalFuncE_any hx hx0 (h.below hb).2 (h'.below hb).2 hs
  clear eW h h' hs hm hx
  go_enter Try.func26, Try.ntmps26
  go_wp2_with fail
  rw [HEW.out]
  refine C1.out.mono ?_
  rintro e w1 ⟨rfl, q, rfl⟩
  obtain ⟨c1, c2⟩ := HBx.out q
  go_wp2_with fail
  refine (C2.out q).mono ?_
  rintro e w2 ⟨rfl, q2, rfl⟩
  clear c1 c2
  go_wp2
  go_ret
  exact ⟨rfl, below_drewn HW.out _⟩

end Go.Proofs.Ytpgodjinbabniab
