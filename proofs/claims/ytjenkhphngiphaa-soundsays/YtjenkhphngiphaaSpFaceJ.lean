/- Explore, Route. SameSpace, of one space twice. -/
import Derived.Test.YtjenkhphngiphaaSpExpl
namespace Go.Proofs.Ytjenkhphngiphaa
open Go.RowKit Go.Maps

/-- The bounds. -/
def bndOk (tk st : Int) : Bool := decide ((1 ≤ tk ∧ tk ≤ 9) ∧ 1 ≤ st ∧ st ≤ 200)

/-- The error that is told. -/
def xE (E tk st : Int) (R : Sum (Int × List Int) Xp) : Int := if E ≠ 0 then E else if bndOk tk st = true then (match R with | .inl r => r.1 | .inr _ => 0) else 1
/-- The markings, the edges and the steps that are told. -/
def xM (E tk st : Int) (R : Sum (Int × List Int) Xp) : List (List Int) := if E ≠ 0 then [] else if bndOk tk st = true then (match R with | .inl _ => [] | .inr T => T.marks) else []
def xN (E tk st : Int) (R : Sum (Int × List Int) Xp) : List (List (Int × Int)) := if E ≠ 0 then [] else if bndOk tk st = true then (match R with | .inl _ => [] | .inr T => T.nexts) else []
def xW (E tk st : Int) (R : Sum (Int × List Int) Xp) : List Int := if E ≠ 0 then [] else if bndOk tk st = true then (match R with | .inl r => r.2 | .inr _ => []) else []

theorem bnd_yes {tk st : Int} (h : (1 ≤ tk ∧ tk ≤ 9) ∧ 1 ≤ st ∧ st ≤ 200) : bndOk tk st = true := by unfold bndOk; rw [decide_eq_true_eq]; exact h
theorem bnd_no {tk st : Int} (h : ¬ ((1 ≤ tk ∧ tk ≤ 9) ∧ 1 ≤ st ∧ st ≤ 200)) : bndOk tk st = false := by unfold bndOk; rw [decide_eq_false_iff_not]; exact h
theorem bnd_all {tk st : Int} (h : bndOk tk st = true) : (1 ≤ tk ∧ tk ≤ 9) ∧ 1 ≤ st ∧ st ≤ 200 := by unfold bndOk at h; rwa [decide_eq_true_eq] at h

theorem spc_nil {w : World} {base F : Nat} : Spc w base (.slice none 0 0) (.slice none 0 0) F [] [] :=
  ⟨⟨fun _ => 0, ⟨[], World.ownsRow_nil _ _ _ _, fun i hi => by simp at hi⟩, fun i hi => by simp at hi⟩, ⟨[], World.ownsRow_nil _ _ _ _, fun i hi => by simp at hi⟩⟩

theorem spc_kp {L : List (Option TypeId)} {w w' : World} {base F : Nat} {mv nv : Value} {marks : List (List Int)} {nexts : List (List (Int × Int))} (h : Spc w base mv nv F marks nexts) (hk : Kp L w w') (hL : ∀ t, t ∈ [some 26, some 3, some 56, some 58] → t ∈ L) : Spc w' base mv nv F marks nexts :=
  ⟨mks_kp h.1 hk (hL _ (by simp)) (hL _ (by simp)), nxs_kp h.2 hk (hL _ (by simp)) (hL _ (by simp))⟩

theorem Spc.below {w w' : World} {base F : Nat} {mv nv : Value} {marks : List (List Int)} {nexts : List (List (Int × Int))} (h : Spc w base mv nv F marks nexts) (hb : Below w.heap.size w w') : Spc w' base mv nv F marks nexts :=
  spc_kp (L := [some 26, some 3, some 56, some 58]) h (kp_below hb) (fun _ h => h)

theorem spc_vals {w : World} {base F : Nat} {mv nv : Value} {marks : List (List Int)} {nexts : List (List (Int × Int))} (h : Spc w base mv nv F marks nexts) : ∃ ma mc xa xc, mv = .slice ma marks.length mc ∧ nv = .slice xa nexts.length xc := by
  obtain ⟨⟨G, ⟨Vs, h1, _⟩, _⟩, ⟨Us, h2, _⟩⟩ := h
  have e1 : ∃ ma mc, mv = .slice ma marks.length mc := by
    rcases h1.2 with ⟨rfl, h0⟩ | ⟨g, cap, cur, rfl, _⟩
    · exact ⟨none, 0, by rw [h0]⟩
    · exact ⟨_, _, rfl⟩
  have e2 : ∃ xa xc, nv = .slice xa nexts.length xc := by
    rcases h2.2 with ⟨rfl, h0⟩ | ⟨g, cap, cur, rfl, _⟩
    · exact ⟨none, 0, by rw [h0]⟩
    · exact ⟨_, _, rfl⟩
  obtain ⟨ma, mc, rfl⟩ := e1
  obtain ⟨xa, xc, rfl⟩ := e2
  exact ⟨ma, mc, xa, xc, rfl, rfl⟩

/-- All that explore tells. -/
theorem ex_all {b0 : Nat} {E tk st : Int} {F : Nat} {R : Sum (Int × List Int) Xp} {e : Ending} {w : World} (h : ExIs b0 E tk st F R e w) :
    ∃ (ma : Option Addr) (mc : Nat) (xa : Option Addr) (xc base : Nat) (a : Option Addr) (c : Nat), b0 ≤ base ∧ e = .returned (.tuple #[.agg #[.slice ma (xM E tk st R).length mc, .slice xa (xN E tk st R).length xc], .slice a (xW E tk st R).length c, .int .i64 (xE E tk st R)]) ∧
      Hid (Spc w base (.slice ma (xM E tk st R).length mc) (.slice xa (xN E tk st R).length xc) F (xM E tk st R) (xN E tk st R) ∧ Row w a (xW E tk st R).length (fun i => (xW E tk st R).getD i 0)) := by
  have hrow : ∀ a, Row w a 0 (fun i => ([] : List Int).getD i 0) := fun a => ⟨0, 0, fun h => by omega, fun i hi => by omega⟩
  rcases h with ⟨h1, rfl⟩ | ⟨h1, h2, rfl⟩ | ⟨h1, h2, c, way, a, cp, h3, h4, rfl, h5⟩ | ⟨h1, h2, T, mv, nv, base, hb, h3, rfl, h4⟩
  · unfold xM xN xW xE
    simp only [if_pos h1]
    exact ⟨none, 0, none, 0, b0, none, 0, Nat.le_refl _, rfl, spc_nil, hrow _⟩
  · unfold xM xN xW xE
    simp only [h1, bnd_no h2]
    exact ⟨none, 0, none, 0, b0, none, 0, Nat.le_refl _, rfl, spc_nil, hrow _⟩
  · unfold xM xN xW xE
    simp only [h1, bnd_yes h2, h3]
    exact ⟨none, 0, none, 0, b0, a, cp, Nat.le_refl _, rfl, spc_nil, h5⟩
  · unfold xM xN xW xE
    simp only [h1, bnd_yes h2, h3]
    obtain ⟨ma, mc, xa, xc, rfl, rfl⟩ := spc_vals h4
    exact ⟨ma, mc, xa, xc, base, none, 0, hb, rfl, h4, hrow _⟩

/-- What Explore answers. -/
def EpIs (b0 : Nat) (E tk st : Int) (F : Nat) (R : Sum (Int × List Int) Xp) (e : Ending) (w : World) : Prop :=
  ∃ (ma : Option Addr) (mc : Nat) (xa : Option Addr) (xc base : Nat), b0 ≤ base ∧ e = .returned (.tuple #[.agg #[.slice ma (xM E tk st R).length mc, .slice xa (xN E tk st R).length xc], .int .i64 (xE E tk st R)]) ∧
    Spc w base (.slice ma (xM E tk st R).length mc) (.slice xa (xN E tk st R).length xc) F (xM E tk st R) (xN E tk st R)

set_option maxHeartbeats 1000000 in
theorem exploreF_any {na fa : Option Addr} {N nc F fc : Nat} {M : Nat → ByteArray} {K A B : Nat → Int} {e0 : Int} {w : World} (hp : Prc w na N nc fa F M K A B) (he : ChkIs N F M K A B e0) (tk st : Int) {X : List Int → Nat → Int} (hX : XOk K A B F (stAll K A B F N) X) :
    Calls Try.prog 11 #[.agg #[.slice na N nc, .slice fa F fc], .int .i64 tk, .int .i64 st] w fun e w' => Below w.heap.size w w' ∧ EpIs w.heap.size (spE e0 (stAll K A B F N).length) tk st F (xall tk st K A B F (stAll K A B F N) X) e w' := by
  obtain ⟨W, eW⟩ : ∃ x, x = (w.alloc (.cells #[.slice na N nc, .slice fa F fc] 25)).alloc (.cells #[.slice none 0 0, .slice none 0 0] 35) := ⟨_, rfl⟩
  have HW : Hid (Below w.heap.size w W ∧ W.heap.size = w.heap.size + 1 + 1 ∧ Two W (w.heap.size + 1) (.slice none 0 0) (.slice none 0 0)) := by
    subst eW
    have e1 : (w.alloc (.cells #[.slice na N nc, .slice fa F fc] 25)).heap.size = w.heap.size + 1 := by simp
    refine ⟨(box_below _ _).trans ((box_below _ _).mono (by simp)), by simp, ?_⟩
    unfold Two
    rw [← e1]
    exact Go.Deep.blk_alloc_new _ _
  have HEW : Hid ((w.alloc (.cells #[.slice na N nc, .slice fa F fc] 25)).alloc (.cells #[.slice none 0 0, .slice none 0 0] 35) = W) := eW.symm
  have C1 : Hid (Calls Try.prog 34 #[.agg #[.slice na N nc, .slice fa F fc], .int .i64 tk, .int .i64 st] W fun e w' => Below W.heap.size W w' ∧ ExIs W.heap.size (spE e0 (stAll K A B F N).length) tk st F (xall tk st K A B F (stAll K A B F N) X) e w') := explore_any (hp.below HW.out.1) he tk st hX
  clear eW hp he hX
  generalize hEE : spE e0 (stAll K A B F N).length = E at *
  generalize hRR : xall tk st K A B F (stAll K A B F N) X = R at *
  clear hEE hRR
  go_enter Try.func11, Try.ntmps11
  go_wp2_with fail
  rw [HEW.out]
  refine C1.out.mono ?_
  rintro e w1 ⟨hb1, hs1⟩
  obtain ⟨ma, mc, xa, xc, base, a, c, hbase, rfl, HS⟩ := ex_all hs1
  have HB1 : Hid (Below w.heap.size w w1 ∧ w.heap.size ≤ base) := ⟨HW.out.1.trans (hb1.mono HW.out.1.size), by have := HW.out.2.1; omega⟩
  have H2 : Hid (Two w1 (w.heap.size + 1) (.slice none 0 0) (.slice none 0 0)) := HW.out.2.2.below hb1 (by have := HW.out.2.1; omega)
  have hsz1 : w.heap.size + 1 < w1.heap.size := by have := hb1.size; have := HW.out.2.1; omega
  obtain ⟨⟨q0, q1⟩, f0, f1⟩ := two_cells H2.out
  generalize hm : (xM E tk st R).length = ml at *
  generalize hx : (xN E tk st R).length = xl at *
  generalize hww : (xW E tk st R).length = wl at *
  generalize hee : xE E tk st R = y at *
  have HG : Hid ((xM E tk st R).length = ml ∧ (xN E tk st R).length = xl ∧ xE E tk st R = y) := ⟨hm, hx, hee⟩
  clear hb1 hs1 C1 hbase hm hx hww hee
  go_wp2
  (try simp only [Exit.inBlock, Exit.then])
  refine bodyPost_ret (results_cell_tmp1 rfl _ _ (w.heap.size + 1) 35 #[.slice ma ml mc, .slice xa xl xc] (0, 0) _ rfl (two_new H2.out) Try.underlying35 rfl (by kernel_rfl)) rfl ?_
  refine ⟨two_below HB1.out.1 (by omega), ma, mc, xa, xc, base, HB1.out.2, ?_, ?_⟩
  · rw [HG.out.1, HG.out.2.1, HG.out.2.2]
    rfl
  · rw [HG.out.1, HG.out.2.1]
    exact (spc_kp HS.out.1 (kp_two (L := [some 26, some 3, some 56, some 58]) H2.out (by decide)) (fun _ h => h)).below (box_below _ _)

end Go.Proofs.Ytjenkhphngiphaa

namespace Go.Proofs.Ytjenkhphngiphaa
open Go.RowKit Go.Maps

theorem Prs.below {w w' : World} {a : Option Addr} {C : List (Int × Int)} (h : Prs w a C) (hb : Below w.heap.size w w') : Prs w' a C := by
  obtain ⟨b, o, ha, hc⟩ := h
  refine ⟨b, o, ha, fun i hi => ?_⟩
  obtain ⟨h1, h2⟩ := hc i hi
  exact ⟨(hb.cell (p := ⟨b, o + i * 2, none⟩) (World.block_lt_of_cell? _ _ h1)).trans h1, (hb.cell (p := ⟨b, o + i * 2 + 1, none⟩) (World.block_lt_of_cell? _ _ h2)).trans h2⟩

/-- The edges of the i-th marking, in memory. -/
theorem nxs_at {w : World} {base : Nat} {xa : Option Addr} {n xc : Nat} {nexts : List (List (Int × Int))} (h : Nxs w base (.slice xa n xc) nexts) {i : Nat} (hi : i < nexts.length) :
    ∃ b o a c, xa = some ⟨b, o, none⟩ ∧ w.cell? ⟨b, o + i, none⟩ = some (.slice a (nexts.getD i []).length c) ∧ Prs w a (nexts.getD i []) := by
  obtain ⟨Vs, h1, h2⟩ := h
  obtain ⟨v, hv, ho⟩ := h2 i hi
  obtain ⟨a, c, rfl, _, hp⟩ := owns_prs ho rfl
  rcases h1.2 with ⟨e, h0⟩ | ⟨g, cap, cur, e, _⟩
  · omega
  · simp only [Value.slice.injEq] at e
    obtain ⟨rfl, rfl, rfl⟩ := e
    have := h1.cells (g := g) rfl i _ hv
    rw [add_none2] at this
    exact ⟨g, 0, a, c, rfl, this, hp⟩

theorem Mks.below' {w w' : World} {base F : Nat} {mv : Value} {marks : List (List Int)} (h : Mks w base mv F marks) (hb : Below w.heap.size w w') : Mks w' base mv F marks := mks_kp (L := [some 26, some 3]) h (kp_below hb) (by decide) (by decide)

theorem mks_gr {w : World} {base F : Nat} {ma : Option Addr} {n mc : Nat} {marks : List (List Int)} (hn : n = marks.length) (h : Mks w base (.slice ma n mc) F marks) : Gr w ma n (fun _ => F) (fun i => fnl (marks.getD i [])) := by
  subst hn
  obtain ⟨G, hM⟩ := h
  exact hM.gr

end Go.Proofs.Ytjenkhphngiphaa
