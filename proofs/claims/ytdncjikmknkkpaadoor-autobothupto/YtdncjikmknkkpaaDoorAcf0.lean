/- Clone and clear of slices of sets; Backward; a region within a round. -/
import Derived.RangeFuncNested
import Derived.RangeFuncBound
import Derived.RangeFuncCalls
import Derived.RangeFuncLeaves
import Derived.Shelf.Abstract
import Derived.Shelf.RegionOpen
import Derived.OwnWalkIn
import Derived.TacticsInMore
import Derived.LoopNIn
import Derived.LoopIn
import Derived.Lib.SliceRun
import Derived.Test.YtdncjikmknkkpaaDoorWlk
import Derived.Test.YtdncjikmknkkpaaDoorHeld
namespace Go.Proofs.YtdncjikmknkkpaaDoor
open Go.RowKit Go.Shelf

/-! Within a round. -/
section
variable {P : Program} {ops : Array Oper} {Q : Exit → Act → World → Prop} {md : Region.Mode}

theorem rows_in (l n : Nat) {row : String} {args : Array Value} {w : World} {R : Value → World → Prop} (h : Rows P row args w R) : RowsIn (Fence.wide.inRound l) n P row args w R :=
  fun c cs _ => let ⟨v, w', r, s⟩ := h c cs; ⟨v, w', r, stepsIn_wide.2 s⟩

/-- No deferred call? -/
def noDef (o : Oper) : Bool := match o.op with | .defer _ => false | _ => true
theorem noDef_spec {o : Oper} (h : noDef o = true) : ∀ c, o.op ≠ .defer c := fun c e => by
  unfold noDef at h
  rw [e] at h
  cases h

theorem op_in (l n : Nat) {o : Oper} {a : Act} {w : World} {K : Act → World → Prop} (hd : ∀ c, o.op ≠ .defer c) (h : o.wp P a w K Q) : o.wpIn (Fence.wide.inRound l) n P a w K Q := by
  unfold Oper.wp at h
  unfold Oper.wpIn
  refine ⟨fun _ _ => trivial, ?_⟩
  rw [Oper.semAt_eq _ _ _ hd]
  generalize hr : (execOp a.eval o).run P w = r at *
  cases r with
  | ok x w' =>
    cases x with
    | enter f args =>
      rw [Oper.uponIn_enter]
      rw [Oper.upon_enter] at h
      exact ⟨fun hh => by simp [Fence.wide, Fence.inRound] at hh, CallsIn.inRound l (callsIn_wide.2 h)⟩
    | row r args =>
      rw [Oper.uponIn_row]
      rw [Oper.upon_row] at h
      exact ⟨fun hh => by simp [Fence.wide, Fence.inRound] at hh, rows_in l _ h⟩
    | _ => first | exact h | exact h.elim
  | halt x w' => cases x <;> first | exact h | exact h.elim

theorem any_in (l n : Nat) (hQ : ¬ LetsOut Q) (hok : ops.all noDef = true) : ∀ (fuel : Nat) (listed : Array Bool) (a : Act) (w : World), wpAny P md ops Q fuel listed a w → wpAnyIn (Fence.wide.inRound l) n P md ops Q fuel listed a w
  | 0, _, _, _, h => h
  | fuel + 1, listed, a, w, h => by
    refine ⟨h.1, fun i hi => ?_⟩
    have h1 := h.2 i hi
    unfold wpOp at h1
    unfold wpOpIn
    split
    · rename_i ho
      simp only [ho] at h1
      exact any_in l n hQ hok fuel _ _ _ h1
    · rename_i o ho
      simp only [ho] at h1
      split
      · rename_i hw
        rw [if_pos hw] at h1
        rcases h1 with h1 | h1
        · have hd : noDef o = true := by
            obtain ⟨hlt, he⟩ := Array.getElem?_eq_some_iff.1 ho
            have := Array.all_eq_true_iff_forall_mem.1 hok o (by rw [← he]; exact Array.getElem_mem _)
            exact this
          have h2 := op_in l n (noDef_spec hd) h1
          exact Oper.wpIn_mono (fun a w h => any_in l n hQ hok fuel _ a w h) h2
        · exact absurd h1.2 hQ
      · rename_i hw
        rw [if_neg hw] at h1
        exact ⟨fun _ _ => trivial, any_in l n hQ hok fuel _ _ _ h1⟩

/-- What a guard leaves out may be taken first too. -/
theorem G_skip {S : World → Prop} {ex : Nat → Bool} {i : Nat} {oi : Oper} {f : Nat} {listed : Array Bool} {a : Act} {w : World} (hi : ops[i]? = some oi)
    (hs : Region.noSelect ops = true) (hf : Region.free md ops listed i = true) (hr : (Region.ready md ops listed).contains i = true) (hx : exB md ops ex i = true)
    (hQ : ∀ c a w, Q (.panic c) (a.put oi.dst undef) w → Q (.panic c) a w) (hw : Region.wanted oi (yielded ops a.tmps) = false) (hS : S w)
    (h : wpAnyG P md ops Q S ex f (listed.setIfInBounds i true) (a.put oi.dst undef) w) : wpAnyG P md ops Q S ex (f + 1) listed a w :=
  G_first hi (Region.noSelect_spec hs) hQ (exB_spec hx) f listed a w (Region.free_spec hi hf) (by simpa using hr) (Or.inr ⟨hw, rfl⟩) hS h

/-- A drawn region within a round, by the laws of Held. -/
theorem G_round {id l n : Nat} {a : Act} {w : World} (S : World → Prop) (ex : Nat → Bool) (hm : P.follows .mixedOrders = true) (hQ : ¬ LetsOut Q) (hok : ops.all noDef = true) (hS : S w.drew)
    (h : S w.drew → wpAnyG P .any ops Q S ex ops.size (Array.replicate ops.size false) a w.drew) : (Code.region id ops true).wpIn (Fence.wide.inRound l) n P Q a w :=
  wpIn_region_any hm (any_in l n hQ hok _ _ _ _ (any_of_G _ _ _ _ (h hS)))

end

end Go.Proofs.YtdncjikmknkkpaaDoor

