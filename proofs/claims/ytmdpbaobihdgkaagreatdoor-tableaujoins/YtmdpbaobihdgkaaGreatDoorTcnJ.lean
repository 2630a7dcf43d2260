/-        -/
import Derived.Laws.AppendOwnNone
import Derived.Lib.AppendZeros
import Derived.Deep.OwnRows
import Derived.Test.YtmdpbaobihdgkaaGreatDoorRows
import Derived.WalkKit
import Derived.WalkSpells
import Derived.WalkLawsBesides
import Derived.Deep.QuietTactic
import Derived.BigQuiet
import Derived.Below
import Derived.Deep.Heap
import Derived.Test.YtmdpbaobihdgkaaGreatDoorTwhJ
import Derived.Test.YtmdpbaobihdgkaaGreatDoorRwsJ
import Derived.Test.YtmdpbaobihdgkaaGreatDoorBaseJ
import Derived.Test.YtmdpbaobihdgkaaGreatDoorPshJ
import Derived.Test.YtmdpbaobihdgkaaGreatDoorTeaJ
import Derived.Test.YtmdpbaobihdgkaaGreatDoorWk
import Derived.Test.YtmdpbaobihdgkaaGreatDoorMkfJ
import Derived.Test.YtmdpbaobihdgkaaGreatDoorAStdJ
import Derived.RangeFuncNested
import Derived.RangeFuncBound
import Derived.RangeFuncCalls
import Derived.RangeFuncLeaves
import Derived.Shelf.Abstract
import Derived.Shelf.RegionOpen
import Derived.OwnWalkIn
import Derived.TacticsInMore
import Derived.LoopNIn
import Derived.LoopIn
import Derived.Lib.SliceRun
import Derived.WalkSmall
import Derived.Deep.AppendLies
import Derived.Deep.RegionHeld3
import Derived.Deep.WholeRow
import Derived.Deep.MidRow
import Derived.Laws.Bits64b
import Derived.Lib.TrailingZeros
import Derived.Maps.AppendAt
import Derived.Deep.RegionHeld
import Derived.Test.YtmdpbaobihdgkaaGreatDoorANmbJ
import Derived.Test.YtmdpbaobihdgkaaGreatDoorAAutJ
import Derived.Test.YtmdpbaobihdgkaaGreatDoorAAcf
import Derived.Maps.OwnSet
import Derived.Maps.OwnOps
import Derived.DeepKeys4
import Derived.Test.YtmdpbaobihdgkaaGreatDoorABwd
import Derived.Maps.OwnIn
/- tableau: Clone of a list of numbers. -/
/- Lists without what comes again; all states. -/
/- paired: states with a number, handed over one by one. -/
/- The roll's list: what it has in memory while pairs come. -/
/- The roll's list: its contract. -/
/- gather: what it has in memory, and the rounds. -/
/- What holds whatever lies in other blocks. -/
namespace Go.Proofs.YtmdpbaobihdgkaaGreatDoor
open Go.RowKit

theorem cloneI_post {w w1 : World} {v' : Value} {n : Nat} {l : List Value} (hown : w1.ownsRow w.heap.size 3 1 v' (0 + n) ([] ++ l)) (hgrow : (w.alloc (.cells #[] 3)).grownBy w1 (Value.ownBlock (.slice (some ⟨w.heap.size, 0, none⟩) 0 0))) :
    Hid (w1.ownsRow w.heap.size 3 1 v' n l ∧ Below w.heap.size w w1) := by
  refine ⟨by rwa [Nat.zero_add, List.nil_append] at hown, ((Below.refl _ _).alloc (Nat.le_refl _) _).grown hgrow (by simp) (fun k hk => ?_)⟩
  simp only [Value.ownBlock, Option.some.injEq] at hk
  omega

set_option maxHeartbeats 400000 in
theorem cloneL_any {base : Nat} {v : Value} {l : List Int} (w : World) (h : w.ownsRow base 3 1 v l.length (vals l)) (hl : l.length ≤ 1024) :
    Calls Tryz.prog 59 #[v] w fun e w' => ∃ v', e = .returned v' ∧ Hid (w'.ownsRow w.heap.size 3 1 v' l.length (vals l) ∧ Below w.heap.size w w') := by
  rcases h.2 with ⟨rfl, h0⟩ | ⟨g, cap, cur, rfl, hb, hg, _⟩
  · have hq := fun w' => Go.Lib.run_eql_slice_nil (P := Tryz.prog) w' 29 3 none 0 0 0 0 Tryz.underlying29
    obtain rfl : l = [] := List.length_eq_zero_iff.1 h0
    clear h h0 hl
    go_enter Tryz.func59, Tryz.ntmps59
    go_wp2
    go_ret
    exact ⟨_, rfl, hid ⟨World.ownsRow_nil _ _ _ _, Below.refl _ _⟩⟩
  · obtain ⟨i0, hi, hz0, hz1, hz2⟩ := info3_parts
    have HI : Hid (Tryz.prog.info? 3 = some i0 ∧ i0.zero = some (.int .i64 0) ∧ i0.size = 1 ∧ i0.bytes = 8) := ⟨hi, hz0, hz1, hz2⟩
    have HO : Hid ((w.alloc (.cells #[] 3)).ownsRow w.heap.size 3 1 (.slice (some ⟨w.heap.size, 0, none⟩) 0 0) 0 []) := World.ownsRow_made w #[] 0 (Nat.le_refl _) (Nat.zero_le _) rfl
    have HN : Hid (∀ j u, (vals l)[j]? = some u → (w.alloc (.cells #[] 3)).cell? ((⟨g, 0, none⟩ : Addr).add j) = some u) := hid (fun j u hj => below_cell ((Below.refl _ _).alloc (Nat.le_refl _) _) (Nat.le_refl _) (h.cells (g := g) rfl j u hj))
    have hvl : (vals l).length = l.length := by simp [vals]
    have HV := hid hvl
    generalize hn : l.length = n at *
    clear hi hz0 hz1 hz2 h hb hg hvl
    have hq := fun w' => Go.Lib.run_eql_slice_nil (P := Tryz.prog) w' 29 3 (some ⟨g, 0, none⟩) n cap 0 0 Tryz.underlying29
    go_enter Tryz.func59, Tryz.ntmps59
    go_wp2_with (at_builtin; refine wpList_append_own _ rfl _ _ 29 rfl w.heap.size 3 i0 (.int .i64 0) 1 8 Tryz.underlying29 HI.out.1 HI.out.2.1 HI.out.2.2.1 HI.out.2.2.2 rfl (by decide) _ _ _ rfl HO.out ⟨g, 0, none⟩ n cap (vals l) rfl (by rw [HV.out, Nat.mul_one]) HN.out (ints_oneCell .i64 l) (by unfold maxLen; omega) (by omega) (by simp) ?_; intro v' w1 hown' hgrow _; have HX := cloneI_post hown' hgrow; clear hown' hgrow)
    go_ret
    exact ⟨_, rfl, HX⟩
end Go.Proofs.YtmdpbaobihdgkaaGreatDoor

namespace Go.Proofs.YtmdpbaobihdgkaaGreatDoor
open Go.RowKit

def cs (l : List Nat) : List Int := l.map (fun s : Nat => (s : Int))
end Go.Proofs.YtmdpbaobihdgkaaGreatDoor

namespace Go.Proofs.YtmdpbaobihdgkaaGreatDoor
open Go.RowKit Go.Shelf

attribute [local go_sem] Oper.semAt_some

/-- Pairs that are handed over. -/
abbrev Pr := Fin 4096 × Fin 4096
def prn (x : Pr) : Nat × Nat := (x.1.1, x.2.1)
end Go.Proofs.YtmdpbaobihdgkaaGreatDoor

namespace Go.Proofs.YtmdpbaobihdgkaaGreatDoor
open Go.RowKit Go.Shelf Go.Maps

theorem owns_blk {w : World} {base : Nat} {e : TypeId} {size : Nat} {v : Value} {n : Nat} {xs : List Value} (h : w.ownsRow base e size v n xs) {b : Nat} (hb : v.ownBlock = some b) : ∃ c z, w.heap[b]? = some (.cells c e z) := by
  rcases h.2 with ⟨rfl, h0⟩ | ⟨g, cap, cur, rfl, hb2, hg, _⟩
  · simp [Value.ownBlock] at hb
  · simp [Value.ownBlock] at hb
    subst hb
    exact ⟨_, _, hg⟩
end Go.Proofs.YtmdpbaobihdgkaaGreatDoor

namespace Go.Proofs.YtmdpbaobihdgkaaGreatDoor
open Go.RowKit Go.Shelf Go.Maps

attribute [local go_sem] Oper.semAt_some

def qp (P : List (Nat × Nat)) (pre : List Pr) : List (Nat × Nat) := nAdds P (pre.map prn)
end Go.Proofs.YtmdpbaobihdgkaaGreatDoor

namespace Go.Proofs.YtmdpbaobihdgkaaGreatDoor
open Go.RowKit Go.Shelf Go.Maps

section
variable {α : Type} [DecidableEq α]
end

theorem owns_of_blk {W W' : World} {base : Nat} {e : TypeId} {size : Nat} {v : Value} {m : Nat} {xs : List Value} (h : W.ownsRow base e size v m xs) (hb : ∀ b, v.ownBlock = some b → W'.heap[b]? = W.heap[b]?) : W'.ownsRow base e size v m xs :=
  ⟨h.1, h.2.imp id (fun ⟨g, cap, cur, e1, h1, h2, r⟩ => ⟨g, cap, cur, e1, h1, (hb g (by rw [e1]; rfl)).trans h2, r⟩)⟩

abbrev nil5 : Array Value := #[.slice none 0 0, .slice none 0 0, .slice none 0 0, .slice none 0 0, .slice none 0 0]
end Go.Proofs.YtmdpbaobihdgkaaGreatDoor

namespace Go.Proofs.YtmdpbaobihdgkaaGreatDoor
open Go.RowKit

/-- P holds by blocks from lo on alone, none of them named by q. -/
def Lie (lo : Nat) (q : Nat → Prop) (P : World → Prop) (w : World) : Prop :=
  ∃ p : Nat → Prop, (∀ g, p g → lo ≤ g ∧ g < w.heap.size ∧ ¬ q g) ∧ ∀ z : World, (∀ g, p g → z.heap[g]? = w.heap[g]?) → P z

def noB (_ : Nat) : Prop := False
def isB (b g : Nat) : Prop := g = b

theorem Lie.keep {lo : Nat} {q q' : Nat → Prop} {P : World → Prop} {w z : World} (h : Lie lo q P w) (hs : w.heap.size ≤ z.heap.size) (hz : ∀ g, lo ≤ g → g < w.heap.size → ¬ q g → z.heap[g]? = w.heap[g]? ∧ ¬ q' g) : Lie lo q' P z := by
  obtain ⟨p, h1, h2⟩ := h
  exact ⟨p, fun g hg => ⟨(h1 g hg).1, Nat.lt_of_lt_of_le (h1 g hg).2.1 hs, (hz g (h1 g hg).1 (h1 g hg).2.1 (h1 g hg).2.2).2⟩, fun y hy => h2 y (fun g hg => (hy g hg).trans (hz g (h1 g hg).1 (h1 g hg).2.1 (h1 g hg).2.2).1)⟩
theorem Lie.below {lo : Nat} {q : Nat → Prop} {P : World → Prop} {w z : World} (h : Lie lo q P w) (hb : Below w.heap.size w z) : Lie lo q P z :=
  h.keep hb.size (fun g _ hg hq => ⟨hb.block g hg, hq⟩)
theorem Lie.mono {lo lo' : Nat} {q : Nat → Prop} {P : World → Prop} {w : World} (h : Lie lo q P w) (hl : lo' ≤ lo) : Lie lo' q P w := by
  obtain ⟨p, h1, h2⟩ := h
  exact ⟨p, fun g hg => ⟨Nat.le_trans hl (h1 g hg).1, (h1 g hg).2⟩, h2⟩
/-- A new block is none of them. -/
theorem Lie.fresh {lo : Nat} {P : World → Prop} {w : World} (h : Lie lo noB P w) (o : Obj) : Lie lo (isB w.heap.size) P (w.alloc o) :=
  h.keep (box_below w o).size (fun g _ hg _ => ⟨(box_below w o).block g hg, fun e => by unfold isB at e; omega⟩)
/-- What lies in new blocks does not lie in an old one. -/
theorem Lie.old {lo b : Nat} {P : World → Prop} {w : World} (h : Lie lo noB P w) (hb : b < lo) : Lie lo (isB b) P w := by
  obtain ⟨p, h1, h2⟩ := h
  exact ⟨p, fun g hg => ⟨(h1 g hg).1, (h1 g hg).2.1, fun e => by have := (h1 g hg).1; unfold isB at e; omega⟩, h2⟩
end Go.Proofs.YtmdpbaobihdgkaaGreatDoor
