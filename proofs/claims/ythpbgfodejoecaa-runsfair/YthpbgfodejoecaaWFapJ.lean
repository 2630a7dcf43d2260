/-  Each state of a process's world begins a fair way. There is an answer. What came in, opened: a graph, a list of numbers, a list of bools. -/
import Derived.WalkKit
import Derived.WalkSpells
import Derived.WalkLawsBesides
import Derived.Deep.QuietTactic
import Derived.BigQuiet
import Derived.Below
import Derived.Deep.Heap
import Derived.Deep.RegionHeld3
import Derived.Deep.WholeRow
import Derived.Deep.MidRow
import Derived.Laws.Bits64b
import Derived.Lib.TrailingZeros
import Derived.Deep.OwnRows
import Derived.Maps.AppendAt
import Derived.Deep.AppendLies
import Derived.Deep.DeepCutAuto
import Derived.Deep.CutRange
import Derived.Deep.DrawnRows
import Derived.Deep.LoopGhost
import Derived.Deep.Cut
import Derived.RegionTactic
import Derived.Deep.Quiet
import Derived.Great.BuildSlice
import Derived.Maps.OwnIn
import Derived.Maps.OwnSet
import Derived.Maps.OwnOps
import Derived.DeepKeys4
import Derived.RangeFuncNested
import Derived.RangeFuncBound
import Derived.RangeFuncCalls
import Derived.RangeFuncLeaves
import Derived.Shelf.Abstract
import Derived.Shelf.RegionOpen
import Derived.OwnWalkIn
import Derived.TacticsInMore
import Derived.LoopNIn
import Derived.LoopIn
import Derived.Lib.SliceRun
import Derived.WalkSmall
import Derived.Deep.RegionHeld
import Derived.Laws.AppendOwnNone
import Derived.Lib.AppendZeros
import Derived.Test.YthpbgfodejoecaaBfsJ
import Derived.Test.YthpbgfodejoecaaDistJ
import Derived.Test.YthpbgfodejoecaaDist2J
import Derived.Test.YthpbgfodejoecaaLeafJ
import Derived.Test.YthpbgfodejoecaaProc
import Derived.Test.YthpbgfodejoecaaProc2
import Derived.Test.YthpbgfodejoecaaSpFaceJ
import Derived.Test.YthpbgfodejoecaaWFaiJ
import Derived.Test.YthpbgfodejoecaaWWay
import Derived.Test.YthpbgfodejoecaaWTrdJ
import Derived.Test.YthpbgfodejoecaaRof
import Derived.Test.YthpbgfodejoecaaGameFaceJ
import Derived.ProofKit
import Derived.OpenShut
import Derived.ShutString
import Derived.ChangeOld
import Derived.SizedLaws
import Derived.Deep.Matrix
/- Endless ways by parts (ported), and where fair ways begin. -/
namespace Go.Proofs.Ythpbgfodejoecaa

theorem PthZ.app {E : Nat → Nat → Prop} {Z : Nat → Prop} : ∀ {n m i j l : Nat}, PthZ E Z n i j → PthZ E Z m j l → PthZ E Z (n + m) i l
  | 0, m, i, j, l, h, k => by
    obtain ⟨rfl, _⟩ := h
    rw [Nat.zero_add]; exact k
  | n + 1, m, i, j, l, ⟨h1, x, h2, h3⟩, k => by
    rw [Nat.succ_add]
    exact ⟨h1, x, h2, PthZ.app h3 k⟩


theorem fair_none (E : Nat → Nat → Prop) (F : Nat → Nat → Prop) (i : Nat) : FairAt E 0 F i ↔ FairAt E 1 (fun _ _ => True) i :=
  ⟨fun ⟨p, h1, h2, _⟩ => ⟨p, h1, h2, fun _ _ j => ⟨j, Nat.le_refl _, trivial⟩⟩, fun ⟨p, h1, h2, _⟩ => ⟨p, h1, h2, fun k hk => absurd hk (Nat.not_lt_zero k)⟩⟩

/-- By some goings, none too. -/
def Rc (E : Nat → Nat → Prop) (i j : Nat) : Prop := ∃ n, PthZ E (fun _ => True) n i j
/-- By one going at least. -/
def Rc1 (E : Nat → Nat → Prop) (i j : Nat) : Prop := ∃ n, PthZ E (fun _ => True) (n + 1) i j

theorem Rc.refl (E : Nat → Nat → Prop) (i : Nat) : Rc E i i := ⟨0, rfl, trivial⟩
theorem Rc.trans {E : Nat → Nat → Prop} {i j l : Nat} (h : Rc E i j) (k : Rc E j l) : Rc E i l := by
  obtain ⟨n, h⟩ := h
  obtain ⟨m, k⟩ := k
  exact ⟨n + m, h.app k⟩
theorem Rc.step {E : Nat → Nat → Prop} {i j l : Nat} (h : E i j) (k : Rc E j l) : Rc E i l := by
  obtain ⟨m, k⟩ := k
  exact ⟨m + 1, trivial, j, h, k⟩
theorem Rc1.of {E : Nat → Nat → Prop} {i j l : Nat} (h : E i j) (k : Rc E j l) : Rc1 E i l := by
  obtain ⟨m, k⟩ := k
  exact ⟨m, trivial, j, h, k⟩
theorem Rc1.app {E : Nat → Nat → Prop} {i j l : Nat} (h : Rc E i j) (k : Rc1 E j l) : Rc1 E i l := by
  obtain ⟨n, h⟩ := h
  obtain ⟨m, k⟩ := k
  exact ⟨n + m, h.app k⟩
theorem Rc1.then {E : Nat → Nat → Prop} {i j l : Nat} (h : Rc1 E i j) (k : Rc E j l) : Rc1 E i l := by
  obtain ⟨n, h⟩ := h
  obtain ⟨m, k⟩ := k
  refine ⟨n + m, ?_⟩
  have := h.app k
  rw [show n + 1 + m = n + m + 1 by omega] at this
  exact this

/-- All of a way to c is where one can come to c. -/
theorem pth_to {E : Nat → Nat → Prop} {c : Nat} : ∀ {n i j : Nat}, PthZ E (fun _ => True) n i j → Rc E j c → PthZ E (fun x => Rc E x c) n i j
  | 0, _, _, h, hc => ⟨h.1, by rw [h.1]; exact hc⟩
  | n + 1, i, j, ⟨_, x, h2, h3⟩, hc => ⟨Rc.step h2 (Rc.trans ⟨n, h3⟩ hc), x, h2, pth_to h3 hc⟩

theorem way_rc {E : Nat → Nat → Prop} {p : Nat → Nat} (h : Wy E p) (j n : Nat) : PthZ E (fun _ => True) n (p j) (p (j + n)) := by
  induction n generalizing j with
  | zero => exact ⟨rfl, trivial⟩
  | succ n ih =>
    refine ⟨trivial, p (j + 1), h j, ?_⟩
    have := ih (j + 1)
    rw [show j + 1 + n = j + (n + 1) by omega] at this
    exact this

/-- Of so many numbers one is met again and again. -/
theorem again_one {n : Nat} {p : Nat → Nat} {J : Nat → Prop} (hp : ∀ j, J j → p j < n) (hJ : ∀ j, ∃ l, j ≤ l ∧ J l) : ∃ c, c < n ∧ ∀ j, ∃ l, j ≤ l ∧ J l ∧ p l = c := by
  refine Classical.byContradiction fun hno => ?_
  have hb : ∀ m, m ≤ n → ∃ b, ∀ l, b ≤ l → J l → ¬ p l < m := by
    intro m
    induction m with
    | zero => intro _; exact ⟨0, fun l _ _ h => absurd h (Nat.not_lt_zero _)⟩
    | succ m ih =>
      intro hm
      obtain ⟨b, hb⟩ := ih (by omega)
      have h1 : ¬ ∀ j, ∃ l, j ≤ l ∧ J l ∧ p l = m := fun h => hno ⟨m, by omega, h⟩
      obtain ⟨j, hj⟩ := Classical.not_forall.1 h1
      refine ⟨max b j, fun l hl hJl hlt => ?_⟩
      have h2 := hb l (by omega) hJl
      exact hj ⟨l, by omega, hJl, by omega⟩
  obtain ⟨b, hb⟩ := hb n (Nat.le_refl _)
  obtain ⟨l, h1, h2⟩ := hJ b
  exact hb l h1 h2 (hp l h2)

/-- By parts: a fair way begins just where one can come to a node that comes back to itself, and with each set in its part. -/
theorem fair_part {E : Nat → Nat → Prop} {K : Nat} {F : Nat → Nat → Prop} {n : Nat} (hE : ∀ i j, E i j → j < n) (i : Nat) : FairAt E K F i ↔ ∃ c, Rc E i c ∧ Rc1 E c c ∧ ∀ k, k < K → ∃ x, F k x ∧ Rc E c x ∧ Rc E x c := by
  constructor
  · rintro ⟨p, rfl, hp, hF⟩
    have hlt : ∀ j, 1 ≤ j → p j < n := fun j hj => by
      have := hE _ _ (hp (j - 1))
      rwa [show j - 1 + 1 = j by omega] at this
    obtain ⟨c, _, hc⟩ := again_one (n := n) (p := p) (J := fun j => 1 ≤ j) (fun j hj => hlt j hj) (fun j => ⟨j + 1, by omega, by omega⟩)
    have tow : ∀ j l, j ≤ l → Rc E (p j) (p l) := fun j l h => ⟨l - j, by
      have := way_rc hp j (l - j)
      rw [show j + (l - j) = l by omega] at this
      exact this⟩
    obtain ⟨l0, _, _, e0⟩ := hc 0
    refine ⟨c, by rw [← e0]; exact tow 0 l0 (by omega), ?_, fun k hk => ?_⟩
    · obtain ⟨l1, h1, _, e1⟩ := hc (l0 + 1)
      have := Rc1.of (hp l0) (tow (l0 + 1) l1 h1)
      rw [e0, e1] at this
      exact this
    · obtain ⟨x, _, hx⟩ := again_one (n := n) (p := p) (J := fun j => 1 ≤ j ∧ F k (p j)) (fun j hj => hlt j hj.1) (fun j => by
        obtain ⟨l, h1, h2⟩ := hF k hk (j + 1)
        exact ⟨l, by omega, by omega, h2⟩)
      obtain ⟨l1, h1, ⟨_, h2⟩, e1⟩ := hx l0
      obtain ⟨l2, h3, _, e2⟩ := hc l1
      refine ⟨x, by rw [← e1]; exact h2, ?_, ?_⟩
      · rw [← e0, ← e1]; exact tow l0 l1 h1
      · rw [← e1, ← e2]; exact tow l1 l2 h3
  · rintro ⟨c, h1, h2, h3⟩
    have key : ∀ (K' : Nat) (F' : Nat → Nat → Prop), 0 < K' → (∀ k, k < K' → ∃ x, F' k x ∧ Rc E c x ∧ Rc E x c) → FairAt E K' F' i := by
      intro K' F' hK hx
      refine fair_of_closed (Z := fun x => Rc E x c) hK (fun z hz k hk => ?_) h1
      obtain ⟨x, hF, hcx, hxc⟩ := hx k hk
      obtain ⟨m, hm⟩ := (Rc1.app hz h2).then hcx
      exact ⟨m, x, pth_to hm hxc, hF⟩
    by_cases hK : 0 < K
    · exact key K F hK h3
    · obtain rfl : K = 0 := by omega
      rw [fair_none]
      exact key 1 _ (by omega) (fun _ _ => ⟨c, trivial, Rc.refl _ _, Rc.refl _ _⟩)


theorem rc_rch {E : Nat → Nat → Prop} {a b : Nat} : Rc E a b ↔ RchW E a b := by
  constructor
  · rintro ⟨n, h⟩
    have : ∀ n a, PthZ E (fun _ => True) n a b → RchW E a b := by
      intro n
      induction n with
      | zero => intro a h; have e := h.1; subst e; exact RchW.refl _
      | succ n ih =>
        rintro a ⟨_, c, h1, h2⟩
        exact (RchW.edge h1).trans (ih c h2)
    exact this n a h
  · intro h
    exact h.stay (P := fun z => Rc E a z) (fun _ _ hz e => hz.trans (Rc.step e (Rc.refl E _))) (Rc.refl E a)

theorem ew_ego {G : Nat} {L : Nat → Nat} {Z : Nat → Nat → Int} : Ew G L Z = Ego G L Z := by
  have h : Ew G L Z = Ed G L Z := rfl
  rw [h, ed_ego]

/-- Where the document's fair ways begin, the program's do. -/
theorem fair_begins {A : Wx} (h0 : chkW A = 0) (i : Nat) : FairAt (Ew A.G A.L A.Z) A.K (fun k x => has (A.FL k) (A.FZ k) x = true) i ↔ Begins A i := by
  obtain ⟨-, -, -, -, -, hz, hfz⟩ := chkW_ok h0
  have hE : ∀ i j, Ego A.G A.L A.Z i j → j < A.G := by
    rintro i j ⟨h1, k, h2, h3⟩
    have := hz i h1 k h2
    omega
  rw [ew_ego, fair_part (n := A.G) hE]
  constructor
  · rintro ⟨c, h1, ⟨m, h2⟩, h3⟩
    obtain ⟨_, d, ⟨hc, j, hj, hd⟩, h4⟩ := h2
    have hdc : RchW (Ego A.G A.L A.Z) d c := rc_rch.1 ⟨m, h4⟩
    have ed : (A.Z c j).toNat = d := by omega
    refine ⟨c, hc, ⟨⟨c, hc, j, hj, ?_, RchW.refl _, RchW.refl _⟩, fun k hk => ?_⟩, rc_rch.1 h1⟩
    · rw [ed]
      exact ⟨hdc, RchW.edge ⟨hc, j, hj, hd⟩⟩
    · obtain ⟨x, hx, hcx, hxc⟩ := h3 k hk
      obtain ⟨y, hy, e⟩ := has_iff.1 hx
      have ex : (A.FZ k y).toNat = x := by omega
      exact ⟨y, hy, by rw [ex]; exact ⟨rc_rch.1 hxc, rc_rch.1 hcx⟩⟩
  · rintro ⟨s, hs, ⟨⟨x, hx, j, hj, hm1, hm2⟩, hk⟩, hr⟩
    refine ⟨s, rc_rch.2 hr, ?_, fun k hkk => ?_⟩
    · have e : Ego A.G A.L A.Z x (A.Z x j).toNat := ego_to hx hj (hz x hx j hj).1
      exact Rc1.app (rc_rch.2 hm2.2) (Rc1.of e (rc_rch.2 (hm1.1.trans hm2.1)))
    · obtain ⟨y, hy, hm⟩ := hk k hkk
      have := hfz k hkk y hy
      exact ⟨(A.FZ k y).toNat, has_iff.2 ⟨y, hy, by omega⟩, rc_rch.2 hm.2, rc_rch.2 hm.1⟩

end Go.Proofs.Ythpbgfodejoecaa

namespace Go.Proofs.Ythpbgfodejoecaa
open Go.RowKit

theorem dgL_at {nx : List (List (Int × Int))} {t : St3} {j : Nat} (h : t ∈ dgL j (nx.getD j [])) : ∀ {G}, j < G → ∃ i, i < (dgs nx G).length ∧ rnT nx G i = t
  | 0, hj => by omega
  | G + 1, hj => by
    by_cases e : j = G
    · subst e
      obtain ⟨k, hk, ek⟩ := List.mem_iff_getElem.1 h
      refine ⟨(dgs nx j).length + k, by simp only [dgs, List.length_append]; omega, ?_⟩
      unfold rnT
      simp only [dgs]
      rw [List.getD_eq_getElem?_getD, List.getElem?_append_right (by omega), Nat.add_sub_cancel_left, List.getElem?_eq_getElem hk]
      exact ek
    · obtain ⟨i, h1, h2⟩ := dgL_at h (G := G) (by omega)
      refine ⟨i, by simp only [dgs, List.length_append]; omega, ?_⟩
      unfold rnT at h2 ⊢
      simp only [dgs]
      rw [List.getD_eq_getElem?_getD, List.getElem?_append_left h1]
      rw [List.getD_eq_getElem?_getD] at h2
      exact h2

theorem has_mem {l : List Int} {y : Int} (h : y ∈ l) : has l.length (fun i => l.getD i 0) y = true := by
  obtain ⟨k, hk, ek⟩ := List.mem_iff_getElem.1 h
  unfold has
  rw [decide_eq_true_eq]
  exact ⟨k, hk, by simp [hk, ek]⟩

theorem all_mem {l : List Int} {n : Nat} (h : ∀ y, y ∈ l → 0 ≤ y ∧ y < n) : allIn l.length (fun i => l.getD i 0) n = true :=
  allIn_yes (fun i hi => by
    have := h (l.getD i 0) (by rw [List.getD_eq_getElem?_getD, List.getElem?_eq_getElem hi]; exact List.getElem_mem hi)
    exact this)

section
variable {N F : Nat} {l : List St3} {marks : List (List Int)} {nx : List (List (Int × Int))}

/-- A state of each marking. -/
theorem rn_some (j : Nat) (hj : j < marks.length) : ∃ i, i < (dgs nx marks.length).length ∧ (rnT nx marks.length i).1 = j := by
  have hp := (dgL_len j (nx.getD j [])).1
  obtain ⟨t, ht⟩ : ∃ t, t ∈ dgL j (nx.getD j []) := List.exists_mem_of_length_pos hp
  obtain ⟨i, h1, h2⟩ := dgL_at ht hj
  exact ⟨i, h1, by rw [h2]; exact (dgL_mem ht).1⟩

/-- A state of each marking that is in the fair set. -/
theorem rn_fair (j q : Nat) (hj : j < marks.length) : ∃ i, i < (dgs nx marks.length).length ∧ (rnT nx marks.length i).1 = j ∧ fsX (snL nx) (snS nx) (rnT nx marks.length) (q : Nat) i = 1 := by
  cases hh : has (snL nx j) (snS nx j) (q : Nat)
  · obtain ⟨i, h1, h2⟩ := rn_some (nx := nx) j hj
    exact ⟨i, h1, h2, fsX_can (by rw [h2, Int.toNat_natCast]; exact hh)⟩
  · unfold has at hh
    rw [decide_eq_true_eq] at hh
    obtain ⟨k, hk, ek⟩ := hh
    unfold snL at hk
    have h0 : (nx.getD j []).length ≠ 0 := by omega
    have hm : ((j : Int), snS nx j k, snZ nx j k) ∈ dgL j (nx.getD j []) := by
      rw [dgL_some h0]
      unfold dgE
      refine List.mem_map.2 ⟨(nx.getD j [])[k], List.getElem_mem hk, ?_⟩
      unfold snS snZ
      rw [List.getD_eq_getElem?_getD (l := nx.getD j []), List.getElem?_eq_getElem hk]
      rfl
    obtain ⟨i, h1, h2⟩ := dgL_at hm hj
    exact ⟨i, h1, by rw [h2], fsX_own (by rw [h2]; exact ek)⟩

theorem rn_chk {A : Wx} (h : Sok N F l marks nx) (hA : RnA A nx marks.length l) (h6 : (dgs nx marks.length).length ≤ 600) : chkW A = 0 := by
  have hn : A.G = (dgs nx marks.length).length := hA.G
  have hlf := h.lfew
  unfold chkW
  rw [hA.K, hA.M, hn, if_neg (by omega), if_neg (by simp)]
  rw [if_pos]
  refine ⟨?_, decide_eq_true (fun r hr => ?_), decide_eq_true (fun r hr => ?_), decide_eq_true (fun r hr => ?_)⟩
  · rw [hA.sn, hA.S]
    exact all_mem (fun y hy => by unfold rnM at hy; exact fl_in hy)
  · rw [hA.L]
    obtain ⟨ht1, ht2⟩ := (rn_ok h (i := r) hr).2.2
    have ht3 : (rnT nx marks.length r).2.2.toNat < marks.length := by omega
    obtain ⟨i, h1, h2⟩ := rn_some (nx := nx) (rnT nx marks.length r).2.2.toNat ht3
    have := fl_mem (X := fun i => (rnT nx marks.length i).1) h2 h1
    show (rnM nx marks.length (rnT nx marks.length r).2.2.toNat).length ≠ 0
    unfold rnM
    intro e
    rw [List.length_eq_zero_iff.1 e] at this
    cases this
  · rw [hA.L, hA.Z]
    exact all_mem (fun y hy => by unfold rnM at hy; exact fl_in hy)
  · rw [hA.FL, hA.FZ]
    exact all_mem (fun y hy => by unfold fsL at hy; exact fl_in hy)

theorem rn_begins {A : Wx} (h : Sok N F l marks nx) (hA : RnA A nx marks.length l) (h6 : (dgs nx marks.length).length ≤ 600) (x : Nat) (hx : x < A.G) : Begins A x := by
  have hc := rn_chk h hA h6
  refine (fair_begins hc x).1 ?_
  have hn : A.G = (dgs nx marks.length).length := hA.G
  have hstep : ∀ (q y : Nat), y < A.G → ∃ z, z < A.G ∧ Ew A.G A.L A.Z y z ∧ has (A.FL q) (A.FZ q) z = true := fun q y hy => by
    have hy' : y < (dgs nx marks.length).length := by rw [← hn]; exact hy
    obtain ⟨ht1, ht2⟩ := (rn_ok h (i := y) hy').2.2
    have ht3 : (rnT nx marks.length y).2.2.toNat < marks.length := by omega
    obtain ⟨i, h1, h2, h3⟩ := rn_fair (nx := nx) (rnT nx marks.length y).2.2.toNat q ht3
    refine ⟨i, by rw [hn]; exact h1, ⟨hy, ?_⟩, ?_⟩
    · rw [hA.L, hA.Z]
      exact has_mem (by unfold rnM; exact fl_mem h2 h1)
    · rw [hA.FL, hA.FZ]
      exact has_mem (by unfold fsL; exact fl_mem h3 h1)
  let f : Nat → (y : Nat) → y < A.G → Nat := fun q y hy => Classical.choose (hstep q y hy)
  have hf1 : ∀ q y hy, f q y hy < A.G := fun q y hy => (Classical.choose_spec (hstep q y hy)).1
  have hf2 : ∀ q y hy, Ew A.G A.L A.Z y (f q y hy) := fun q y hy => (Classical.choose_spec (hstep q y hy)).2.1
  have hf3 : ∀ q y hy, has (A.FL q) (A.FZ q) (f q y hy) = true := fun q y hy => (Classical.choose_spec (hstep q y hy)).2.2
  let p : Nat → {y : Nat // y < A.G} := fun n => Nat.rec ⟨x, hx⟩ (fun k y => ⟨f (k % (A.K + 1)) y.1 y.2, hf1 _ _ y.2⟩) n
  have hp : ∀ k, (p (k + 1)).1 = f (k % (A.K + 1)) (p k).1 (p k).2 := fun k => rfl
  refine ⟨fun n => (p n).1, rfl, fun k => ?_, fun q hq j => ?_⟩
  · show Ew _ _ _ (p k).1 (p (k + 1)).1
    rw [hp]
    exact hf2 _ _ (p k).2
  · have hm : (j * (A.K + 1) + q) % (A.K + 1) = q := by
      rw [Nat.mul_add_mod_self_right]
      exact Nat.mod_eq_of_lt (by omega)
    refine ⟨j * (A.K + 1) + q + 1, by have := Nat.le_mul_of_pos_right j (show 0 < A.K + 1 by omega); omega, ?_⟩
    show has (A.FL q) (A.FZ q) (p (j * (A.K + 1) + q + 1)).1 = true
    rw [hp]
    have := hf3 ((j * (A.K + 1) + q) % (A.K + 1)) (p (j * (A.K + 1) + q)).1 (p (j * (A.K + 1) + q)).2
    rw [hm] at this ⊢
    exact this

end

/-- The edges of a marking are the steps that are enabled there. -/
theorem sok_cn {E tk st : Int} {K A B : Nat → Int} {F : Nat} {l : List St3} {X : List Int → Nat → Int} (h : xE E tk st (xall tk st K A B F l X) = 0) :
    ∀ r, r < (xM E tk st (xall tk st K A B F l X)).length → ((xN E tk st (xall tk st K A B F l X)).getD r []).map Prod.fst = fl (X ((xM E tk st (xall tk st K A B F l X)).getD r [])) 1 l.length := by
  obtain ⟨_, _, T, _, h4, h5, h6, h7⟩ := x_ok h
  rw [h4, h5]
  intro r hr
  have hr' : r < T.nexts.length := by omega
  exact (h6.edges r (T.nexts.getD r []) (T.marks.getD r []) (by rw [List.getD_eq_getElem?_getD, List.getElem?_eq_getElem hr']; rfl) (by rw [List.getD_eq_getElem?_getD, List.getElem?_eq_getElem hr]; rfl)).1

/-- What a state does is enabled at its marking; where it does nothing nothing is. -/
theorem rn_can {N F : Nat} {l : List St3} {marks : List (List Int)} {nx : List (List (Int × Int))} {X : List Int → Nat → Int} (_h : Sok N F l marks nx) (hc : ∀ r, r < marks.length → (nx.getD r []).map Prod.fst = fl (X (marks.getD r [])) 1 l.length) {i : Nat} (hi : i < (dgs nx marks.length).length) :
    (0 ≤ (rnT nx marks.length i).2.1 → has (fl (X (marks.getD (rnT nx marks.length i).1.toNat [])) 1 l.length).length (fun j => (fl (X (marks.getD (rnT nx marks.length i).1.toNat [])) 1 l.length).getD j 0) (rnT nx marks.length i).2.1 = true) ∧ ((rnT nx marks.length i).2.1 = -1 → fl (X (marks.getD (rnT nx marks.length i).1.toNat [])) 1 l.length = []) := by
  obtain ⟨m, hm, hm2⟩ := dgs_mem (rnT_mem hi)
  obtain ⟨h1, h2⟩ := dgL_mem hm2
  have h3 : (rnT nx marks.length i).1.toNat = m := by rw [h1]; rfl
  rw [h3, ← hc m hm]
  rcases h2 with ⟨h4, _, h5⟩ | ⟨e, he, h4, h5⟩
  · exact ⟨fun hh => by omega, fun _ => by rw [h5]; rfl⟩
  · refine ⟨fun _ => has_mem (List.mem_map.2 ⟨e, he, h4.symm⟩), fun hh => ?_⟩
    have hmem : e.1 ∈ (nx.getD m []).map Prod.fst := List.mem_map.2 ⟨e, he, rfl⟩
    rw [hc m hm] at hmem
    have := fl_in hmem
    omega

end Go.Proofs.Ythpbgfodejoecaa

namespace Go.Proofs.Ythpbgfodejoecaa
open Go.RowKit Go.Maps

theorem chk_ex (N F : Nat) (M : Nat → ByteArray) (K A B : Nat → Int) : ∃ e, ChkIs N F M K A B e := by
  unfold ChkIs
  by_cases h1 : 20 < N ∨ 30 < F
  · exact ⟨2, Or.inl ⟨h1, rfl⟩⟩
  · have h1' : N ≤ 20 ∧ F ≤ 30 := by omega
    by_cases h2 : nodesErr M K N = 0
    · by_cases h3 : endsOk N F A B = true ∧ tally K 1 N = 1 ∧ fitAll N F K A B = true
      · by_cases h4 : allCome N F K A B
        · exact ⟨0, Or.inr ⟨h1', Or.inr ⟨h2, Or.inr ⟨h3, Or.inr ⟨h4, rfl⟩⟩⟩⟩⟩
        · exact ⟨6, Or.inr ⟨h1', Or.inr ⟨h2, Or.inr ⟨h3, Or.inl ⟨h4, rfl⟩⟩⟩⟩⟩
      · exact ⟨1, Or.inr ⟨h1', Or.inr ⟨h2, Or.inl ⟨h3, rfl⟩⟩⟩⟩
    · exact ⟨_, Or.inr ⟨h1', Or.inl ⟨h2, rfl⟩⟩⟩

theorem xok_ex (K A B : Nat → Int) (F : Nat) (l : List St3) : ∃ X, XOk K A B F l X :=
  ⟨fun m i => @ite Int (enb K A B F (fnl m) (l.getD i (0, 0, 0))) (Classical.propDecidable _) 1 0, fun m i => by simp⟩

end Go.Proofs.Ythpbgfodejoecaa

namespace Go.Proofs.Ythpbgfodejoecaa
open Go.ChangeShapes Go.WideShapes Go.ChangeAt Go.RowKit Go.Deep

theorem Try.own : ownKnob Try.prog.godebug = none := by kernel_rfl
theorem Try.laidOut : laidOutB Try.prog = true := by kernel_rfl
theorem Try.cells3 : Try.prog.cellsOf 3 = 1 := by kernel_rfl
theorem reach_eq : reachBytes = 140737488351232 := rfl

theorem add_none (b o k : Nat) : (⟨b, o, none⟩ : Addr).add k = ⟨b, o + k, none⟩ := by
  unfold Addr.add
  split <;> simp_all

section
variable {H : Type} {enc : TypeId × Value → H} {W : World} {held : Bool}

end
theorem weights_le {H : Type} {P : Program} {ts : List TypeId} {ds : List (DataW H)} (h : (DataW.weightsEach P ts ds).all (· ≤ reachBytes) = true) {j : Nat} {t : TypeId} {d : DataW H}
    (ht : ts[j]? = some t) (hd : ds[j]? = some d) : ∀ n ∈ d.weights P t, n ≤ reachBytes :=
  fun _ hn => of_decide_eq_true (List.all_eq_true.1 h _ (DataW.weights_mem_each ht hd _ hn))

end Go.Proofs.Ythpbgfodejoecaa
