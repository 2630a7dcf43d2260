
import Derived.Deep.DrawnRows
import Derived.Deep.LoopGhost
import Derived.Deep.Cut
import Derived.Deep.OwnRows
import Derived.Maps.AppendAt
import Derived.WalkKit
import Derived.WalkSpells
import Derived.WalkLawsBesides
import Derived.Deep.QuietTactic
import Derived.BigQuiet
import Derived.Below
import Derived.Deep.Heap
import Derived.RegionTactic
import Derived.Deep.Quiet
import Derived.Test.YthpbgfodejoecaaBfsJ
import Derived.Test.YthpbgfodejoecaaDistJ
import Derived.Test.YthpbgfodejoecaaDist2J
import Derived.Test.YthpbgfodejoecaaLeafJ
import Derived.Test.YthpbgfodejoecaaProc
import Derived.Test.YthpbgfodejoecaaProc2
import Derived.Test.YthpbgfodejoecaaSpFaceJ
import Derived.Test.YthpbgfodejoecaaWScNumberJ
import Derived.Test.YthpbgfodejoecaaWBaseJ
/- leasts, number and Parts, by their contracts. -/
namespace Go.Proofs.Ythpbgfodejoecaa
open Go.RowKit

def slO (G : Nat) : Option Nat → Value
  | none => undef
  | some b => .slice (some ⟨b, 0, none⟩) G G
def ptO : Option Nat → Value
  | none => undef
  | some b => .pointer (some ⟨b, 0, none⟩)

def frO (ga : Option Addr) (G gc : Nat) (o : Nat → Option Nat) : Act :=
  { tmps := #[.slice ga G gc, undef, .slice none 0 0, ptO (o 4), undef, undef, .slice ga G gc, .slice ga G gc, .int .i64 G, slO G (o 0), .slice ga G gc, .int .i64 G, slO G (o 1), .slice ga G gc, .int .i64 G, slO G (o 2), .slice ga G gc, .int .i64 G, slO G (o 3),
      undef, undef, undef, undef, undef, undef, undef, undef, undef, undef, undef, undef, undef, undef, undef, undef, undef, undef, undef, undef, undef, undef, undef, undef, undef, undef, undef], defers := [] }
def lsO (o : Nat → Option Nat) : Array Bool := #[true, true, true, (o 0).isSome, true, true, (o 1).isSome, true, true, (o 2).isSome, true, true, (o 3).isSome, false, (o 4).isSome, false]
def ixO (k : Nat) : Nat := if k = 4 then 14 else 3 * k + 3
def obO (G k : Nat) : Obj := if k = 4 then .cells #[.slice none 0 0, .int .i64 0, .slice none 0 0, .slice none 0 0, .slice none 0 0, .slice none 0 0, .slice none 0 0, .slice none 0 0] 165 else .cells (madeCells #[.int .i64 0] G) 3
def FinO (o : Nat → Option Nat) : Prop := o 0 ≠ none ∧ o 1 ≠ none ∧ o 2 ≠ none ∧ o 3 ≠ none

theorem wpAny_as {P : Program} {md : Region.Mode} {ops : Array Oper} {Q : Exit → Act → World → Prop} {f : Nat} {l l' : Array Bool} {a a' : Act} {w : World} (hl : l = l') (ha : a = a') (h : wpAny P md ops Q f l' a' w) : wpAny P md ops Q f l a w := by
  subst hl
  subst ha
  exact h

theorem wpOp_of {P : Program} {ops : Array Oper} {Q : Exit → Act → World → Prop} {i : Nat} {K : Act → World → Prop} {a : Act} {w : World} {o : Oper} (ho : ops[i]? = some o) (hg : o.guard = none) (h : o.wp P a w K Q) : wpOp P ops Q i K a w := by
  unfold wpOp
  simp only [ho, Region.wanted, hg, if_true]
  exact Or.inl h

theorem wpAny_step {P : Program} {md : Region.Mode} {ops : Array Oper} {Q : Exit → Act → World → Prop} {f i : Nat} {l : Array Bool} {a : Act} {w : World} (hr : Region.ready md ops l = [i]) (h : wpOp P ops Q i (wpAny P md ops Q f (l.setIfInBounds i true)) a w) : wpAny P md ops Q (f + 1) l a w :=
  ⟨fun e => (by rw [hr] at e; cases e), fun j hj => (by
    rw [hr] at hj
    have : j = i := by simpa using hj
    subst this
    exact h)⟩

theorem row_zero62 {w : World} {b G : Nat} (h : w.heap[b]? = some (obO G 4)) : w.rowIs b 165 8 (fun i => (#[.slice none 0 0, .int .i64 0, .slice none 0 0, .slice none 0 0, .slice none 0 0, .slice none 0 0, .slice none 0 0, .slice none 0 0] : Array Value).getD i undef) :=
  ⟨_, h, rfl, fun i hi => by
    match i, hi with
    | 0, _ => rfl
    | 1, _ => rfl
    | 2, _ => rfl
    | 3, _ => rfl
    | 4, _ => rfl
    | 5, _ => rfl
    | 6, _ => rfl
    | 7, _ => rfl⟩

def viaQ (R : Act → World → Prop) (Q : Exit → Act → World → Prop) : Exit → Act → World → Prop
  | .normal, a, w => R a w
  | e, a, w => Q e a w
theorem region_via {P : Program} {id : Nat} {ops : Array Oper} {b : Bool} {Q : Exit → Act → World → Prop} {a : Act} {w : World} (R : Act → World → Prop) (h1 : (Code.region id ops b).wp P (viaQ R Q) a w) (h2 : ∀ a w, R a w → Q .normal a w) : (Code.region id ops b).wp P Q a w :=
  Code.wp_mono (fun e a w h => by
    cases e <;> first | exact h2 _ _ h | exact h) h1

def lsB (b0 b1 b2 b3 b4 : Bool) : Array Bool := #[true, true, true, b0, true, true, b1, true, true, b2, true, true, b3, false, b4, false]
def expB (b0 b1 b2 b3 b4 : Bool) : List Nat := (if b0 then [] else [3]) ++ (if b1 then [] else [6]) ++ (if b2 then [] else [9]) ++ (if b3 then [] else [12]) ++ (if b4 then [] else [14])
def allB (f : Bool → Bool) : Bool := f false && f true
theorem allB_at {f : Bool → Bool} (h : allB f = true) (b : Bool) : f b = true := by
  unfold allB at h
  rw [Bool.and_eq_true] at h
  cases b
  · exact h.1
  · exact h.2
def readyOk (ops : Array Oper) : Bool := allB fun b0 => allB fun b1 => allB fun b2 => allB fun b3 => allB fun b4 => (b0 && b1 && b2 && b3) || (Region.ready .any ops (lsB b0 b1 b2 b3 b4) == expB b0 b1 b2 b3 b4)

theorem rd_of {ops : Array Oper} (h : readyOk ops = true) (o : Nat → Option Nat) (hF : ¬ FinO o) : Region.ready .any ops (lsO o) ≠ [] ∧ ∀ i ∈ Region.ready .any ops (lsO o), ∃ k, k < 5 ∧ o k = none ∧ i = ixO k := by
  have h1 := allB_at (allB_at (allB_at (allB_at (allB_at h (o 0).isSome) (o 1).isSome) (o 2).isSome) (o 3).isSome) (o 4).isSome
  have hn : ((o 0).isSome && (o 1).isSome && (o 2).isSome && (o 3).isSome) = false := by
    cases hb : ((o 0).isSome && (o 1).isSome && (o 2).isSome && (o 3).isSome) with
    | false => rfl
    | true =>
      simp only [Bool.and_eq_true] at hb
      refine absurd ⟨?_, ?_, ?_, ?_⟩ hF
      · intro e; rw [e] at hb; exact absurd hb.1.1.1 (by simp)
      · intro e; rw [e] at hb; exact absurd hb.1.1.2 (by simp)
      · intro e; rw [e] at hb; exact absurd hb.1.2 (by simp)
      · intro e; rw [e] at hb; exact absurd hb.2 (by simp)
  rw [hn, Bool.false_or, beq_iff_eq] at h1
  have e : lsO o = lsB (o 0).isSome (o 1).isSome (o 2).isSome (o 3).isSome (o 4).isSome := rfl
  rw [e, h1]
  have ex : ∃ k, k < 4 ∧ o k = none := by
    by_cases h0 : o 0 = none
    · exact ⟨0, by omega, h0⟩
    · by_cases h1 : o 1 = none
      · exact ⟨1, by omega, h1⟩
      · by_cases h2 : o 2 = none
        · exact ⟨2, by omega, h2⟩
        · by_cases h3 : o 3 = none
          · exact ⟨3, by omega, h3⟩
          · exact absurd ⟨h0, h1, h2, h3⟩ hF
  have mem : ∀ i ∈ expB (o 0).isSome (o 1).isSome (o 2).isSome (o 3).isSome (o 4).isSome, ∃ k, k < 5 ∧ o k = none ∧ i = ixO k := by
    intro i hi
    simp only [expB, List.mem_append] at hi
    rcases hi with (((hi | hi) | hi) | hi) | hi
    · cases h0 : o 0 with
      | none => rw [h0] at hi; exact ⟨0, by omega, h0, by simpa [ixO] using hi⟩
      | some b => rw [h0] at hi; simp at hi
    · cases h0 : o 1 with
      | none => rw [h0] at hi; exact ⟨1, by omega, h0, by simpa [ixO] using hi⟩
      | some b => rw [h0] at hi; simp at hi
    · cases h0 : o 2 with
      | none => rw [h0] at hi; exact ⟨2, by omega, h0, by simpa [ixO] using hi⟩
      | some b => rw [h0] at hi; simp at hi
    · cases h0 : o 3 with
      | none => rw [h0] at hi; exact ⟨3, by omega, h0, by simpa [ixO] using hi⟩
      | some b => rw [h0] at hi; simp at hi
    · cases h0 : o 4 with
      | none => rw [h0] at hi; exact ⟨4, by omega, h0, by simpa [ixO] using hi⟩
      | some b => rw [h0] at hi; simp at hi
  refine ⟨fun he => ?_, mem⟩
  obtain ⟨k, hk, hok⟩ := ex
  match k, hk with
  | 0, _ => simp [expB, hok] at he
  | 1, _ => simp [expB, hok] at he
  | 2, _ => simp [expB, hok] at he
  | 3, _ => simp [expB, hok] at he

def s00 : ScSt := ⟨fun _ => 0, fun _ => 0, fun _ => 0, fun _ => 0, [], [], 0⟩
def recV (ga : Option Addr) (G gc : Nat) (y : Lay) : Value := .agg #[.slice ga G gc, .int .i64 0, .slice (some ⟨y.bm, 0, none⟩) G G, .slice (some ⟨y.bl, 0, none⟩) G G, .slice (some ⟨y.bn, 0, none⟩) G G, .slice none 0 0, .slice none 0 0, .slice (some ⟨y.bt, 0, none⟩) G G]
def frE (ga : Option Addr) (G gc : Nat) (y : Lay) : Act :=
  { tmps := #[.slice ga G gc, undef, .slice none 0 0, .pointer (some ⟨y.sb, 0, none⟩), undef, undef, .slice ga G gc, .slice ga G gc, .int .i64 G, .slice (some ⟨y.bm, 0, none⟩) G G, .slice ga G gc, .int .i64 G, .slice (some ⟨y.bl, 0, none⟩) G G, .slice ga G gc, .int .i64 G, .slice (some ⟨y.bn, 0, none⟩) G G, .slice ga G gc, .int .i64 G, .slice (some ⟨y.bt, 0, none⟩) G G,
      recV ga G gc y, undef, undef, undef, undef, undef, undef, undef, undef, undef, undef, undef, undef, undef, undef, undef, undef, undef, undef, undef, undef, undef, undef, undef, undef, undef, undef], defers := [] }

theorem row_made {w : World} {b G k : Nat} (hk : k ≠ 4) (h : w.heap[b]? = some (obO G k)) : w.rowIs b 3 G (fun _ => .int .i64 0) := by
  unfold obO at h
  rw [if_neg hk] at h
  exact ⟨_, h, by simp [size_madeCells], fun i hi => by simp [madeCells, hi, Nat.mod_one]⟩

theorem rec_made {w w' : World} {ga : Option Addr} {G gc sb bm bl bn bt : Nat} {o : Nat → Option Nat} (h : Made w w' 5 (obO G) o) (e0 : o 0 = some bm) (e1 : o 1 = some bl) (e2 : o 2 = some bn) (e3 : o 3 = some bt) (e4 : o 4 = some sb) :
    Hid (Sr w ((((((((w'.setCell ⟨sb, 0, none⟩ (.slice ga G gc)).setCell ⟨sb, 1, none⟩ (.int .i64 0)).setCell ⟨sb, 2, none⟩ (.slice (some ⟨bm, 0, none⟩) G G)).setCell ⟨sb, 3, none⟩ (.slice (some ⟨bl, 0, none⟩) G G)).setCell ⟨sb, 4, none⟩ (.slice (some ⟨bn, 0, none⟩) G G)).setCell ⟨sb, 5, none⟩ (.slice none 0 0)).setCell ⟨sb, 6, none⟩ (.slice none 0 0)).setCell ⟨sb, 7, none⟩ (.slice (some ⟨bt, 0, none⟩) G G))
      ⟨sb, bm, bl, bn, bt, w'.heap.size⟩ ga G gc s00 (.slice none 0 0) (.slice none 0 0)) := by
  obtain ⟨a0, b0, c0⟩ := h.here 0 (by omega) bm e0
  obtain ⟨a1, b1, c1⟩ := h.here 1 (by omega) bl e1
  obtain ⟨a2, b2, c2⟩ := h.here 2 (by omega) bn e2
  obtain ⟨a3, b3, c3⟩ := h.here 3 (by omega) bt e3
  obtain ⟨a4, b4, c4⟩ := h.here 4 (by omega) sb e4
  have ne : ∀ {i j a b : Nat}, i < 5 → j < 5 → i ≠ j → o i = some a → o j = some b → a ≠ b := fun {i j a b} hi hj hij ea eb e => by
    subst e
    exact hij (h.inj i j a hi hj ea eb)
  have n40 := ne (i := 4) (j := 0) (by omega) (by omega) (by omega) e4 e0
  have n41 := ne (i := 4) (j := 1) (by omega) (by omega) (by omega) e4 e1
  have n42 := ne (i := 4) (j := 2) (by omega) (by omega) (by omega) e4 e2
  have n43 := ne (i := 4) (j := 3) (by omega) (by omega) (by omega) e4 e3
  have r0 := row_made (by omega) c0
  have r1 := row_made (by omega) c1
  have r2 := row_made (by omega) c2
  have r3 := row_made (by omega) c3
  have r4 := row_zero62 c4
  have oth : ∀ {b : Nat}, sb ≠ b → w'.rowIs b 3 G (fun _ => .int .i64 0) → ((((((((w'.setCell ⟨sb, 0, none⟩ (.slice ga G gc)).setCell ⟨sb, 1, none⟩ (.int .i64 0)).setCell ⟨sb, 2, none⟩ (.slice (some ⟨bm, 0, none⟩) G G)).setCell ⟨sb, 3, none⟩ (.slice (some ⟨bl, 0, none⟩) G G)).setCell ⟨sb, 4, none⟩ (.slice (some ⟨bn, 0, none⟩) G G)).setCell ⟨sb, 5, none⟩ (.slice none 0 0)).setCell ⟨sb, 6, none⟩ (.slice none 0 0)).setCell ⟨sb, 7, none⟩ (.slice (some ⟨bt, 0, none⟩) G G)).rowIs b 3 G (fun _ => .int .i64 0) := fun {b} hb hr =>
    (((((((hr.setOther hb.symm _).setOther hb.symm _).setOther hb.symm _).setOther hb.symm _).setOther hb.symm _).setOther hb.symm _).setOther hb.symm _).setOther hb.symm _
  refine ⟨⟨⟨a4, a0, a1, a2, a3⟩, ⟨b4, b0, b1, b2, b3⟩, ⟨n40, n41, n42, n43⟩, ⟨ne (i := 0) (j := 1) (by omega) (by omega) (by omega) e0 e1, ne (i := 0) (j := 2) (by omega) (by omega) (by omega) e0 e2, ne (i := 0) (j := 3) (by omega) (by omega) (by omega) e0 e3, ne (i := 1) (j := 2) (by omega) (by omega) (by omega) e1 e2, ne (i := 1) (j := 3) (by omega) (by omega) (by omega) e1 e3, ne (i := 2) (j := 3) (by omega) (by omega) (by omega) e2 e3⟩⟩,
    (((((((h.below.setCell a4 _).setCell a4 _).setCell a4 _).setCell a4 _).setCell a4 _).setCell a4 _).setCell a4 _).setCell a4 _,
    (((((((((r4.set 0 _).set 1 _).set 2 _).set 3 _).set 4 _).set 5 _).set 6 _).set 7 _)).congr (fun i hi => ?_), oth n40 r0, oth n41 r1, oth n42 r2, oth n43 r3, World.ownsRow_nil _ _ _ _, World.ownsRow_nil _ _ _ _, fun b hb => by simp [Value.ownBlock] at hb, by simp⟩
  match i, hi with
  | 0, _ => rfl
  | 1, _ => rfl
  | 2, _ => rfl
  | 3, _ => rfl
  | 4, _ => rfl
  | 5, _ => rfl
  | 6, _ => rfl
  | 7, _ => rfl

/-- Of each node the least one of its part. -/
def IsParts (G : Nat) (L : Nat → Nat) (Z : Nat → Nat → Int) (ml : Nat → Nat) : Prop := ∀ x, x < G → ml x < G ∧ Mut (Ego G L Z) x (ml x) ∧ ∀ y, y < G → Mut (Ego G L Z) x y → ml y = ml x ∧ ml x ≤ y

def LeastsIs (G : Nat) (L : Nat → Nat) (Z : Nat → Nat → Int) (w w' : World) (e : Ending) : Prop :=
  ∃ (lb : Nat) (ml : Nat → Nat), e = .returned (.slice (some ⟨lb, 0, none⟩) G G) ∧ Below w.heap.size w w' ∧ (∀ x, x < G → w'.cell? ⟨lb, x, none⟩ = some (.int .i64 (ml x : Nat))) ∧ IsParts G L Z ml

theorem tj_start (G : Nat) (L : Nat → Nat) (Z : Nat → Nat → Int) (hZ : ∀ x, x < G → ∀ i, i < L x → 0 ≤ Z x i ∧ Z x i < G) : Tj G L Z { s00 with lst := fun _ => -1 } := by
  have m0 : ∀ x, ({ s00 with lst := fun _ => -1 } : ScSt).met x = 0 := fun _ => rfl
  refine ⟨hZ, fun a ha => (by cases ha), fun a ha => (by cases ha), fun x _ => ?_, fun x _ hl => absurd rfl hl, fun x _ => ⟨Int.le_refl _, Int.le_refl _⟩, Int.le_refl _, List.Pairwise.nil, List.Pairwise.nil, fun x _ => ⟨Int.le_refl _, ?_⟩, fun x _ _ => rfl, fun x _ hm => absurd (m0 x) hm, fun x _ hl => absurd rfl hl, fun x _ hm => absurd (m0 x) hm, fun x _ hm => absurd (m0 x) hm, fun x _ hl => absurd rfl hl⟩
  · constructor
    · intro h; cases h
    · intro h; exact absurd (m0 x) h.1
  · show (0 : Int) ≤ L x
    omega

theorem tk_start (G : Nat) : Tk G { s00 with lst := fun _ => -1 } := by
  have h0 : ∀ m, cnt (fun x => ({ s00 with lst := fun _ => -1 } : ScSt).met x - 1) m = m := by
    intro m
    induction m with
    | zero => rfl
    | succ m ih =>
      simp only [cnt]
      rw [ih, if_pos (by rfl)]
  unfold Tk
  rw [h0]
  show (0 : Int) + G = G
  omega

theorem leasts_end {G : Nat} {L : Nat → Nat} {Z : Nat → Nat → Int} {w wr : World} {y : Lay} {ga : Option Addr} {gc : Nat} {s : ScSt} {pv ov : Value} (hS : Sr w wr y ga G gc s pv ov) (hT : Tj G L Z s) (hp : s.path = []) (hm : ∀ x, x < G → s.met x ≠ 0) : LeastsIs G L Z w wr (.returned (.slice (some ⟨y.bt, 0, none⟩) G G)) := by
  have hop := hT.done hp
  have hl : ∀ x, x < G → s.lst x ≠ -1 := fun x hx e => by
    have := (hT.mem x hx).2 ⟨hm x hx, e⟩
    rw [hop] at this
    cases this
  refine ⟨y.bt, fun x => (s.lst x).toNat, rfl, hS.below, fun x hx => ?_, fun x hx => ?_⟩
  · obtain ⟨m, _, e, _⟩ := hT.parts x hx (hl x hx)
    rw [hS.lst.cell hx]
    show some (Value.int .i64 (s.lst x)) = some (.int .i64 (((s.lst x).toNat : Nat) : Int))
    rw [e]
    simp
  · obtain ⟨m, hmG, e, h1, h2⟩ := hT.parts x hx (hl x hx)
    show (s.lst x).toNat < G ∧ Mut (Ego G L Z) x (s.lst x).toNat ∧ ∀ y, y < G → Mut (Ego G L Z) x y → (s.lst y).toNat = (s.lst x).toNat ∧ (s.lst x).toNat ≤ y
    rw [e, Int.toNat_natCast]
    exact ⟨hmG, h1, fun y hy hxy => by obtain ⟨a, b⟩ := h2 y hy hxy; rw [a]; exact ⟨rfl, b⟩⟩

set_option maxHeartbeats 1000000 in
set_option maxRecDepth 100000 in
theorem leasts_any (w : World) (ga : Option Addr) (G gc : Nat) (L : Nat → Nat) (Z : Nat → Nat → Int) (hL : ∀ r, r < G → L r ≤ 140737488355328) (h : Gr w ga G L Z) (h0 : errG G L Z = 0) :
    Calls Try.prog 96 #[.slice ga G gc] w fun e w' => LeastsIs G L Z w w' e := by
  have HL : Hid (∀ r, r < G → L r ≤ 140737488355328) := hL
  have HG : Hid (Gr w ga G L Z) := h
  obtain ⟨hG, hZ⟩ := errG_zero h0
  have HZ : Hid (∀ x, x < G → ∀ i, i < L x → 0 ≤ Z x i ∧ Z x i < G) := hZ
  clear hL h hZ h0
  have hmk := run_make_row' (P := Try.prog) 26 3 (.int .i64 0) 8 Try.underlying26 Try.info3 rfl .i64 .i64 G (by omega) (by omega)
  go_enter Try.func96, Try.ntmps96
  go_wp2
  refine region_via (fun a w1 => ∃ y, a = frE ga G gc y ∧ Hid (Sr w w1 y ga G gc s00 (.slice none 0 0) (.slice none 0 0))) ?_ ?_
  · refine wp_region_any (by kernel_rfl) ?_
    refine wpAny_take (i := 0) (v := .slice ga G gc) rfl (by kernel_rfl) (by kernel_rfl) (by kernel_rfl) (fun _ _ _ h => h) (Or.inl ⟨by rfl, ?_⟩) ?_
    · intro w
      go_simp
    refine wpAny_take (i := 1) (v := .slice ga G gc) rfl (by kernel_rfl) (by kernel_rfl) (by kernel_rfl) (fun _ _ _ h => h) (Or.inl ⟨by rfl, ?_⟩) ?_
    · intro w
      go_simp
    refine wpAny_take (i := 2) (v := .int .i64 G) rfl (by kernel_rfl) (by kernel_rfl) (by kernel_rfl) (fun _ _ _ h => h) (Or.inl ⟨by rfl, ?_⟩) ?_
    · intro w
      go_simp
    refine wpAny_take (i := 4) (v := .slice ga G gc) rfl (by kernel_rfl) (by kernel_rfl) (by kernel_rfl) (fun _ _ _ h => h) (Or.inl ⟨by rfl, ?_⟩) ?_
    · intro w
      go_simp
    refine wpAny_take (i := 5) (v := .int .i64 G) rfl (by kernel_rfl) (by kernel_rfl) (by kernel_rfl) (fun _ _ _ h => h) (Or.inl ⟨by rfl, ?_⟩) ?_
    · intro w
      go_simp
    refine wpAny_take (i := 7) (v := .slice ga G gc) rfl (by kernel_rfl) (by kernel_rfl) (by kernel_rfl) (fun _ _ _ h => h) (Or.inl ⟨by rfl, ?_⟩) ?_
    · intro w
      go_simp
    refine wpAny_take (i := 8) (v := .int .i64 G) rfl (by kernel_rfl) (by kernel_rfl) (by kernel_rfl) (fun _ _ _ h => h) (Or.inl ⟨by rfl, ?_⟩) ?_
    · intro w
      go_simp
    refine wpAny_take (i := 10) (v := .slice ga G gc) rfl (by kernel_rfl) (by kernel_rfl) (by kernel_rfl) (fun _ _ _ h => h) (Or.inl ⟨by rfl, ?_⟩) ?_
    · intro w
      go_simp
    refine wpAny_take (i := 11) (v := .int .i64 G) rfl (by kernel_rfl) (by kernel_rfl) (by kernel_rfl) (fun _ _ _ h => h) (Or.inl ⟨by rfl, ?_⟩) ?_
    · intro w
      go_simp
    refine wpAny_as (l' := lsO (fun _ => none)) (a' := frO ga G gc (fun _ => none)) (by kernel_rfl) (by simp [Act.put, frO, slO, ptO]) ?_
    refine wpAny_makes (w0 := w) (n := 5) (idx := ixO) (ob := obO G) (F := frO ga G gc) (ls := lsO) (Fin := FinO) (fun o => Classical.em _) ?run ?ls (rd_of (by kernel_rfl)) ?nF ?fin 5 (fun _ => none) _ rfl ?made
    case ls =>
      intro o k b hk hok
      match k, hk with
      | 0, _ => rfl
      | 1, _ => rfl
      | 2, _ => rfl
      | 3, _ => rfl
      | 4, _ => rfl
    case nF =>
      intro o ho
      simp only [nones] at ho
      refine ⟨fun e => ?_, fun e => ?_, fun e => ?_, fun e => ?_⟩ <;> simp [e] at ho
    case made => exact ⟨(Below.refl _ _).trans ⟨rfl, rfl, rfl, Nat.le_refl _, fun _ _ => rfl⟩, fun k _ b hb => (by cases hb), fun k j b _ _ hb => (by cases hb)⟩
    case run =>
      intro o k hk hok w' K hK
      match k, hk with
      | 0, _ =>
        refine wpOp_of (i := 3) rfl rfl ?_
        simp only [frO] at hK ⊢
        go_wp2
        simpa [updO, slO, obO] using hK
      | 1, _ =>
        refine wpOp_of (i := 6) rfl rfl ?_
        simp only [frO] at hK ⊢
        go_wp2
        simpa [updO, slO, obO] using hK
      | 2, _ =>
        refine wpOp_of (i := 9) rfl rfl ?_
        simp only [frO] at hK ⊢
        go_wp2
        simpa [updO, slO, obO] using hK
      | 3, _ =>
        refine wpOp_of (i := 12) rfl rfl ?_
        simp only [frO] at hK ⊢
        go_wp2
        simpa [updO, slO, obO] using hK
      | 4, _ =>
        refine wpOp_of (i := 14) rfl rfl ?_
        simp only [frO] at hK ⊢
        go_wp2
        simpa [updO, slO, ptO, obO] using hK
    case fin =>
      intro o w' hF hM
      obtain ⟨bm, e0⟩ := Option.ne_none_iff_exists'.1 hF.1
      obtain ⟨bl, e1⟩ := Option.ne_none_iff_exists'.1 hF.2.1
      obtain ⟨bn, e2⟩ := Option.ne_none_iff_exists'.1 hF.2.2.1
      obtain ⟨bt, e3⟩ := Option.ne_none_iff_exists'.1 hF.2.2.2
      cases e4 : o 4 with
      | some sb =>
        have hn : nones o 5 = 0 := by simp [nones, e0, e1, e2, e3, e4]
        rw [hn]
        refine wpAny_as (l' := lsB true true true true true) (a' := frO ga G gc o) (by simp [lsO, lsB, e0, e1, e2, e3, e4]) rfl ?_
        simp only [frO, e0, e1, e2, e3, e4, slO, ptO]
        have hz := hM.here 4 (by omega) sb e4
        have hrow : w'.rowIs sb 165 8 (fun i => (#[.slice none 0 0, .int .i64 0, .slice none 0 0, .slice none 0 0, .slice none 0 0, .slice none 0 0, .slice none 0 0, .slice none 0 0] : Array Value).getD i undef) := row_zero62 hz.2.2
        have c0 := hrow.cell (i := 0) (by omega)
        have c1 := hrow.cell (i := 1) (by omega)
        have c2 := hrow.cell (i := 2) (by omega)
        have c3 := hrow.cell (i := 3) (by omega)
        have c4 := hrow.cell (i := 4) (by omega)
        have c5 := hrow.cell (i := 5) (by omega)
        have c6 := hrow.cell (i := 6) (by omega)
        have c7 := hrow.cell (i := 7) (by omega)
        have zf := hrow.frozen
        simp at c0 c1 c2 c3 c4 c5 c6 c7
        refine wpAny_take (i := 13) (v := (.agg #[.slice ga G gc, .int .i64 0, .slice (some ⟨bm, 0, none⟩) G G, .slice (some ⟨bl, 0, none⟩) G G, .slice (some ⟨bn, 0, none⟩) G G, .slice none 0 0, .slice none 0 0, .slice (some ⟨bt, 0, none⟩) G G])) rfl (by kernel_rfl) (by kernel_rfl) (by kernel_rfl) (fun _ _ _ h => h) (Or.inl ⟨by rfl, ?_⟩) ?_
        · intro w
          go_simp
        · refine wpAny_step (i := 15) (by kernel_rfl) ?_
          refine wpOp_of (i := 15) rfl rfl ?_
          go_wp2
          refine wpAny_done (by kernel_rfl) ?_ 0
          exact ⟨⟨sb, bm, bl, bn, bt, w'.heap.size⟩, rfl, rec_made hM e0 e1 e2 e3 e4⟩
      | none =>
        have hn : nones o 5 = 1 := by simp [nones, e0, e1, e2, e3, e4]
        rw [hn]
        refine wpAny_as (l' := lsB true true true true false) (a' := frO ga G gc o) (by simp [lsO, lsB, e0, e1, e2, e3, e4]) rfl ?_
        simp only [frO, e0, e1, e2, e3, e4, slO, ptO]
        refine wpAny_take (i := 13) (v := (.agg #[.slice ga G gc, .int .i64 0, .slice (some ⟨bm, 0, none⟩) G G, .slice (some ⟨bl, 0, none⟩) G G, .slice (some ⟨bn, 0, none⟩) G G, .slice none 0 0, .slice none 0 0, .slice (some ⟨bt, 0, none⟩) G G])) rfl (by kernel_rfl) (by kernel_rfl) (by kernel_rfl) (fun _ _ _ h => h) (Or.inl ⟨by rfl, ?_⟩) ?_
        · intro w
          go_simp
        · refine wpAny_step (i := 14) (by kernel_rfl) ?_
          refine wpOp_of (i := 14) rfl rfl ?_
          go_wp2
          have hM2 : Made w (w'.alloc (.cells #[.slice none 0 0, .int .i64 0, .slice none 0 0, .slice none 0 0, .slice none 0 0, .slice none 0 0, .slice none 0 0, .slice none 0 0] 165)) 5 (obO G) (updO o 4 (some w'.heap.size)) := hM.next (k := 4)
          have d0 : updO o 4 (some w'.heap.size) 0 = some bm := e0
          have d1 : updO o 4 (some w'.heap.size) 1 = some bl := e1
          have d2 : updO o 4 (some w'.heap.size) 2 = some bn := e2
          have d3 : updO o 4 (some w'.heap.size) 3 = some bt := e3
          have d4 : updO o 4 (some w'.heap.size) 4 = some w'.heap.size := rfl
          generalize (w'.alloc (.cells #[.slice none 0 0, .int .i64 0, .slice none 0 0, .slice none 0 0, .slice none 0 0, .slice none 0 0, .slice none 0 0, .slice none 0 0] 165)) = w2 at *
          generalize w'.heap.size = sb at *
          have hz := hM2.here 4 (by omega) sb d4
          have hrow : w2.rowIs sb 165 8 (fun i => (#[.slice none 0 0, .int .i64 0, .slice none 0 0, .slice none 0 0, .slice none 0 0, .slice none 0 0, .slice none 0 0, .slice none 0 0] : Array Value).getD i undef) := row_zero62 hz.2.2
          have c0 := hrow.cell (i := 0) (by omega)
          have c1 := hrow.cell (i := 1) (by omega)
          have c2 := hrow.cell (i := 2) (by omega)
          have c3 := hrow.cell (i := 3) (by omega)
          have c4 := hrow.cell (i := 4) (by omega)
          have c5 := hrow.cell (i := 5) (by omega)
          have c6 := hrow.cell (i := 6) (by omega)
          have c7 := hrow.cell (i := 7) (by omega)
          have zf := hrow.frozen
          simp at c0 c1 c2 c3 c4 c5 c6 c7
          refine wpAny_step (i := 15) (by kernel_rfl) ?_
          refine wpOp_of (i := 15) rfl rfl ?_
          go_wp2
          refine wpAny_done (by kernel_rfl) ?_ 0
          exact ⟨⟨sb, bm, bl, bn, bt, w2.heap.size⟩, rfl, rec_made hM2 d0 d1 d2 d3 d4⟩
  · rintro a w1 ⟨y, rfl, H⟩
    simp only [frE]
    clear hmk
    go_wp2
    go_loopw [22] (fun i wr => ∃ k : Nat, k ≤ G ∧ i = .int .i64 k ∧ Hid (Sr w wr y ga G gc { s00 with lst := fun x => if x < k then -1 else 0 } (.slice none 0 0) (.slice none 0 0))) (fun i _ => G - (intOf i).toNat)
    case atStart => exact ⟨0, Nat.zero_le _, rfl, hid (H.out.congrL rfl rfl rfl rfl rfl rfl (fun x _ => by show (0 : Int) = if x < 0 then -1 else 0; rw [if_neg (by omega)]))⟩
    case round =>
      obtain ⟨k, hk, rfl, HR⟩ := hrel
      clear H
      by_cases hlt : k < G
      · have hkz : (k : Int) < G := by omega
        have f7 : wr.cell? ⟨y.sb, 7, none⟩ = some (.slice (some ⟨y.bt, 0, none⟩) G G) := HR.out.cells.cell (i := 7) (by omega)
        have cl := HR.out.lst.cell hlt
        have zl := HR.out.lst.frozen k
        go_wp2
        go_roundw
        case rel =>
          refine ⟨k + 1, by omega, by go_num, hid ((HR.out.setLst k (-1)).congrL rfl rfl rfl rfl rfl rfl (fun x _ => ?_))⟩
          show upd (fun x => if x < k then (-1 : Int) else 0) k (-1) x = if x < k + 1 then -1 else 0
          by_cases e : x = k
          · subst e; rw [upd_at, if_pos (by omega)]
          · rw [upd_ne _ _ _ _ e]
            show (if x < k then (-1 : Int) else 0) = if x < k + 1 then -1 else 0
            by_cases e2 : x < k
            · rw [if_pos e2, if_pos (by omega)]
            · rw [if_neg e2, if_neg (by omega)]
        case measure => simp [intOf]; omega
      · have HS : Hid (Sr w wr y ga G gc { s00 with lst := fun _ => -1 } (.slice none 0 0) (.slice none 0 0)) := HR.out.congrL rfl rfl rfl rfl rfl rfl (fun x hx => by show (if x < k then (-1 : Int) else 0) = -1; rw [if_pos (by omega)])
        clear HR
        go_wp2
        go_loopw [32] (fun i wr => ∃ k : Nat, k ≤ G ∧ i = .int .i64 k ∧ Hid (∃ s pv ov, Sr w wr y ga G gc s pv ov ∧ Tj G L Z s ∧ Tk G s ∧ s.path = [] ∧ ∀ x, x < k → s.met x ≠ 0)) (fun i _ => G - (intOf i).toNat)
        case atStart => exact ⟨0, Nat.zero_le _, rfl, hid ⟨_, _, _, HS.out, tj_start G L Z HZ.out, tk_start G, rfl, fun x hx => by omega⟩⟩
        case round =>
          obtain ⟨k2, hk2, rfl, HX⟩ := hrel
          clear HS
          obtain ⟨s, pv, ov, hS, hT, hK, hp, hm⟩ := HX.out
          have HH : Hid (Sr w wr y ga G gc s pv ov ∧ Tj G L Z s ∧ Tk G s ∧ s.path = [] ∧ ∀ x, x < k2 → s.met x ≠ 0) := ⟨hS, hT, hK, hp, hm⟩
          clear hS hT hK hp hm HX
          by_cases hlt2 : k2 < G
          · have hkz2 : (k2 : Int) < G := by omega
            have f2 : wr.cell? ⟨y.sb, 2, none⟩ = some (.slice (some ⟨y.bm, 0, none⟩) G G) := HH.out.1.cells.cell (i := 2) (by omega)
            have cm := HH.out.1.met.cell hlt2
            by_cases hm0 : s.met k2 = 0
            · have hb : (s.met k2 == 0) = true := beq_iff_eq.2 hm0
              have HM0 : Hid (s.met k2 = 0) := hm0
              clear hm0
              go_wp2_with fail
              refine (walk_any w _ y ga G gc L Z s pv ov k2 hG HL.out hlt2 HG.out HH.out.1 HH.out.2.1 HH.out.2.2.1 HH.out.2.2.2.1 HM0.out).mono ?_
              rintro e w2 ⟨rfl, s', pv', ov', hR, hp'⟩
              have HF : Hid (∃ s pv ov, Sr w w2 y ga G gc s pv ov ∧ Tj G L Z s ∧ Tk G s ∧ s.path = [] ∧ ∀ x, x < k2 + 1 → s.met x ≠ 0) :=
                ⟨s', pv', ov', hR.sr, hR.tj, hR.tk, hp', snoc_all (fun x hx => hR.mono x (by omega) (HH.out.2.2.2.2 x hx)) hR.root⟩
              clear hR hp'
              go_wp2
              go_roundw
              case rel => exact ⟨k2 + 1, by omega, by go_num, HF⟩
              case measure => simp [intOf]; omega
            · have hb : (s.met k2 == 0) = false := beq_eq_false_iff_ne.2 hm0
              have HM0 : Hid (s.met k2 ≠ 0) := hm0
              clear hm0
              go_wp2
              go_roundw
              case rel => exact ⟨k2 + 1, by omega, by go_num, hid ⟨s, pv, ov, HH.out.1, HH.out.2.1, HH.out.2.2.1, HH.out.2.2.2.1, snoc_all HH.out.2.2.2.2 HM0.out⟩⟩
              case measure => simp [intOf]; omega
          · have f7 : wr.cell? ⟨y.sb, 7, none⟩ = some (.slice (some ⟨y.bt, 0, none⟩) G G) := HH.out.1.cells.cell (i := 7) (by omega)
            have HF : Hid (LeastsIs G L Z w wr (.returned (.slice (some ⟨y.bt, 0, none⟩) G G))) := leasts_end HH.out.1 HH.out.2.1 HH.out.2.2.2.1 (fun x hx => HH.out.2.2.2.2 x (by omega))
            go_wp2
            go_ret
            exact HF.out

/-- The parts' numbers. -/
def partNo (ml : Nat → Nat) (x : Nat) : Int := (cs ml (ml x) : Nat)

def PartsIs (G : Nat) (L : Nat → Nat) (Z : Nat → Nat → Int) (w w' : World) (e : Ending) : Prop :=
  ∃ (pb : Nat) (ml : Nat → Nat), e = .returned (.tuple #[.slice (some ⟨pb, 0, none⟩) G G, .int .i64 0]) ∧ Below w.heap.size w w' ∧ w.heap.size ≤ pb ∧ w'.rowIs pb 3 G (fun x => .int .i64 (partNo ml x)) ∧ IsParts G L Z ml

theorem IsParts.self {G : Nat} {L : Nat → Nat} {Z : Nat → Nat → Int} {ml : Nat → Nat} (h : IsParts G L Z ml) {x : Nat} (hx : x < G) : ml x ≤ x ∧ ml (ml x) = ml x := by
  obtain ⟨h1, h2, h3⟩ := h x hx
  exact ⟨(h3 x hx ⟨RchW.refl _, RchW.refl _⟩).2, (h3 _ h1 h2).1⟩

set_option maxHeartbeats 400000 in
theorem parts_ok (w : World) (ga : Option Addr) (G gc : Nat) (L : Nat → Nat) (Z : Nat → Nat → Int) (hL : ∀ r, r < G → L r ≤ 140737488355328) (h : Gr w ga G L Z) (h0 : errG G L Z = 0) :
    Calls Try.prog 66 #[.slice ga G gc] w fun e w' => PartsIs G L Z w w' e := by
  have C : Hid (Calls Try.prog 62 #[.slice ga G gc] w fun e w' => e = .returned (.int .i64 0) ∧ w' = w) := check_ok ga G gc L Z w hL h h0
  have C32 : Hid (Calls Try.prog 96 #[.slice ga G gc] w fun e w' => LeastsIs G L Z w w' e) := leasts_any w ga G gc L Z hL h h0
  have hG := (errG_zero h0).1
  clear h h0 hL
  go_enter Try.func66, Try.ntmps66
  go_wp2_with fail
  refine C.out.mono ?_
  rintro e w' ⟨rfl, rfl⟩
  go_wp2_with fail
  refine C32.out.mono ?_
  rintro e w1 ⟨lb, ml, rfl, hbel, hcell, hI⟩
  have H1 : Hid (Below w'.heap.size w' w1 ∧ (∀ x, x < G → w1.cell? ⟨lb, x, none⟩ = some (.int .i64 (ml x : Nat))) ∧ IsParts G L Z ml) := ⟨hbel, hcell, hI⟩
  clear hbel hcell hI
  go_wp2_with fail
  refine (number_any _ lb G G ml hG (fun x hx => H1.out.2.2.self hx) H1.out.2.1).mono ?_
  rintro e w2 ⟨rfl, hbel2, hrow2⟩
  have HF : Hid (PartsIs G L Z w' w2 (.returned (.tuple #[.slice (some ⟨w1.heap.size, 0, none⟩) G G, .int .i64 0]))) :=
    ⟨w1.heap.size, ml, rfl, H1.out.1.trans (hbel2.mono H1.out.1.size), H1.out.1.size, hrow2, H1.out.2.2⟩
  clear hbel2 hrow2
  go_wp2
  go_ret2
  exact HF.out

end Go.Proofs.Ythpbgfodejoecaa
