/-   -/
import Derived.Deep.LoopGhost
import Derived.Deep.Cut
import Derived.Deep.OwnRows
import Derived.Maps.AppendAt
import Derived.WalkKit
import Derived.WalkSpells
import Derived.WalkLawsBesides
import Derived.Deep.QuietTactic
import Derived.BigQuiet
import Derived.Below
import Derived.Deep.Heap
import Derived.RegionTactic
import Derived.Deep.Quiet
import Derived.Test.YthpbgfodejoecaaBfsJ
import Derived.Test.YthpbgfodejoecaaDistJ
import Derived.Test.YthpbgfodejoecaaDist2J
import Derived.Test.YthpbgfodejoecaaLeafJ
import Derived.Test.YthpbgfodejoecaaProc
import Derived.Test.YthpbgfodejoecaaProc2
import Derived.Test.YthpbgfodejoecaaSpFaceJ
import Derived.Test.YthpbgfodejoecaaWScSearch3
import Derived.Test.YthpbgfodejoecaaWBaseJ
/- number, by its contract; which numbers the parts get. -/
/- A region that draws its order and makes several blocks: whichever comes first, each lies in a block of its own. -/
namespace Go.Proofs.Ythpbgfodejoecaa
open Go.RowKit

/-- How many of the first n are their parts' least nodes. -/
def cs (ml : Nat → Nat) : Nat → Nat
  | 0 => 0
  | n + 1 => cs ml n + if ml n = n then 1 else 0

theorem cs_le (ml : Nat → Nat) : ∀ n, cs ml n ≤ n
  | 0 => Nat.le_refl _
  | n + 1 => by
    have := cs_le ml n
    simp only [cs]
    split <;> omega

set_option maxHeartbeats 1000000 in
theorem number_any (w : World) (lb G c : Nat) (ml : Nat → Nat) (hG : G ≤ 20000) (hml : ∀ x, x < G → ml x ≤ x ∧ ml (ml x) = ml x) (hl : ∀ x, x < G → w.cell? ⟨lb, x, none⟩ = some (.int .i64 (ml x : Nat))) :
    Calls Try.prog 95 #[.slice (some ⟨lb, 0, none⟩) G c] w fun e w' => e = .returned (.slice (some ⟨w.heap.size, 0, none⟩) G G) ∧ Below w.heap.size w w' ∧ w'.rowIs w.heap.size 3 G (fun x => .int .i64 (cs ml (ml x) : Nat)) := by
  have HML : Hid (∀ x, x < G → ml x ≤ x ∧ ml (ml x) = ml x) := hml
  have HLC : Hid (∀ x, x < G → w.cell? ⟨lb, x, none⟩ = some (.int .i64 (ml x : Nat))) := hl
  clear hml hl
  have hmk := run_make_row' (P := Try.prog) 26 3 (.int .i64 0) 8 Try.underlying26 Try.info3 rfl .i64 .i64 G (by omega) (by omega)
  go_enter Try.func95, Try.ntmps95
  go_wp2
  clear hmk
  go_loopw [4, 12] (fun sc i wr => ∃ k : Nat, k ≤ G ∧ i = .int .i64 k ∧ sc = .int .i64 (cs ml k : Nat) ∧ Hid (Below w.heap.size w wr ∧ wr.rowIs w.heap.size 3 G (fun x => .int .i64 (if x < k then ((cs ml (ml x) : Nat) : Int) else 0)))) (fun _ i _ => G - (intOf i).toNat)
  case atStart => exact ⟨0, Nat.zero_le _, rfl, rfl, hid ⟨(Below.refl _ _).alloc (Nat.le_refl _) _, (World.rowIs_made w (.int .i64 0) G 3).congr (fun x _ => by rw [if_neg (by omega)])⟩⟩
  case round =>
    obtain ⟨k, hk, rfl, rfl, HW⟩ := hrel
    have hcs := cs_le ml k
    by_cases hlt : k < G
    · have hkz : (k : Int) < G := by omega
      have hck : wr.cell? ⟨lb, k, none⟩ = some (.int .i64 (ml k : Nat)) := by
        rw [HW.out.1.cell (p := ⟨lb, k, none⟩) (World.block_lt_of_cell? _ _ (HLC.out k hlt))]; exact HLC.out k hlt
      have hpk := HW.out.2.cell hlt
      have hpz := HW.out.2.frozen k
      have hmk := HML.out k hlt
      by_cases e : ml k = k
      · have HE : Hid (ml k = k) := e
        have HS : Hid (cs ml (k + 1) = cs ml k + 1) := hid (by simp only [cs]; rw [if_pos e])
        rw [e] at hck
        have hb : ((k : Int) == k) = true := by simp
        clear e hmk
        generalize cs ml k = ck at *
        go_wp2
        go_roundw
        case rel =>
          refine ⟨k + 1, by omega, by go_num, by rw [HS.out]; go_num, hid ⟨HW.out.1.setCell (Nat.le_refl _) _, (HW.out.2.set k _).congr (fun x _ => ?_)⟩⟩
          by_cases ex : x = k
          · subst ex
            rw [if_pos rfl, if_pos (by omega), HE.out]
            have h1 := HS.out
            simp only [cs] at h1
            rw [if_pos HE.out] at h1
            congr 1
            omega
          · rw [if_neg ex]
            by_cases ex2 : x < k
            · rw [if_pos ex2, if_pos (by omega)]
            · rw [if_neg ex2, if_neg (by omega)]
        case measure => simp [intOf]; omega
      · have HS : Hid (cs ml (k + 1) = cs ml k) := hid (by simp only [cs]; rw [if_neg e]; rfl)
        obtain ⟨m, hm⟩ : ∃ m, ml k = m := ⟨_, rfl⟩
        have HMm : Hid (ml k = m ∧ ml m = m) := ⟨hm, by rw [← hm]; exact hmk.2⟩
        rw [hm] at hck e hmk
        have hmlt : m < k := by omega
        have hmz : (m : Int) < G := by omega
        have hb : ((m : Int) == k) = false := by rw [beq_eq_false_iff_ne]; omega
        have hpm := HW.out.2.cell (i := m) (by omega)
        rw [if_pos hmlt, HMm.out.2] at hpm
        have hpm' : wr.cell? ⟨w.heap.size, m, none⟩ = some (.int .i64 (cs ml m : Nat)) := hpm
        clear e hmk hm hpm
        generalize hcm : cs ml m = cm at *
        have HCM : Hid (cs ml m = cm) := hcm
        clear hcm
        go_wp2
        go_roundw
        case rel =>
          refine ⟨k + 1, by omega, by go_num, by rw [HS.out], hid ⟨HW.out.1.setCell (Nat.le_refl _) _, (HW.out.2.set k _).congr (fun x _ => ?_)⟩⟩
          by_cases ex : x = k
          · subst ex
            rw [if_pos rfl, if_pos (by omega), HMm.out.1, HCM.out]
          · rw [if_neg ex]
            by_cases ex2 : x < k
            · rw [if_pos ex2, if_pos (by omega)]
            · rw [if_neg ex2, if_neg (by omega)]
        case measure => simp [intOf]; omega
    · go_wp2
      go_ret
      exact ⟨rfl, HW.out.1, HW.out.2.congr (fun x hx => by rw [if_pos (by omega)])⟩

end Go.Proofs.Ythpbgfodejoecaa

namespace Go.Proofs.Ythpbgfodejoecaa
open Go.RowKit

def updO (o : Nat → Option Nat) (k : Nat) (b : Option Nat) : Nat → Option Nat := fun i => if i = k then b else o i
theorem updO_at (o : Nat → Option Nat) (k : Nat) (b : Option Nat) : updO o k b k = b := by simp [updO]
theorem updO_ne (o : Nat → Option Nat) (k : Nat) (b : Option Nat) (i : Nat) (h : i ≠ k) : updO o k b i = o i := by simp [updO, h]

/-- How many of the first n are not made yet. -/
def nones (o : Nat → Option Nat) : Nat → Nat
  | 0 => 0
  | n + 1 => nones o n + if o n = none then 1 else 0

theorem nones_past (o : Nat → Option Nat) (k : Nat) (b : Option Nat) : ∀ n, n ≤ k → nones (updO o k b) n = nones o n
  | 0, _ => rfl
  | n + 1, h => by simp only [nones]; rw [nones_past o k b n (by omega), updO_ne _ _ _ _ (by omega)]
theorem nones_made (o : Nat → Option Nat) (k b : Nat) (h0 : o k = none) : ∀ n, k < n → nones (updO o k (some b)) n + 1 = nones o n
  | n + 1, h => by
    simp only [nones]
    by_cases e : n = k
    · subst e; rw [nones_past _ _ _ n (Nat.le_refl _), updO_at, if_neg (by simp), if_pos h0]
    · have := nones_made o k b h0 n (by omega); rw [updO_ne _ _ _ _ e]; omega

structure Made (w0 w : World) (n : Nat) (ob : Nat → Obj) (o : Nat → Option Nat) : Prop where
  below : Below w0.heap.size w0 w
  here : ∀ k, k < n → ∀ b, o k = some b → w0.heap.size ≤ b ∧ b < w.heap.size ∧ w.heap[b]? = some (ob k)
  inj : ∀ k j b, k < n → j < n → o k = some b → o j = some b → k = j

theorem Made.next {w0 w : World} {n : Nat} {ob : Nat → Obj} {o : Nat → Option Nat} (h : Made w0 w n ob o) {k : Nat} : Made w0 (w.alloc (ob k)) n ob (updO o k (some w.heap.size)) := by
  have hs := h.below.size
  refine ⟨h.below.alloc hs _, fun j hj b hb => ?_, fun j i b hj hi h1 h2 => ?_⟩
  · by_cases e : j = k
    · subst e
      rw [updO_at] at hb
      cases hb
      exact ⟨hs, by simp, heap_alloc_new w _⟩
    · rw [updO_ne _ _ _ _ e] at hb
      obtain ⟨h1, h2, h3⟩ := h.here j hj b hb
      exact ⟨h1, by simp; omega, by rw [heap_alloc_old w _ h2]; exact h3⟩
  · by_cases e1 : j = k
    · by_cases e2 : i = k
      · rw [e1, e2]
      · rw [e1, updO_at] at h1
        rw [updO_ne _ _ _ _ e2] at h2
        have := (h.here i hi b h2).2.1
        cases h1
        omega
    · rw [updO_ne _ _ _ _ e1] at h1
      by_cases e2 : i = k
      · rw [e2, updO_at] at h2
        have := (h.here j hj b h1).2.1
        cases h2
        omega
      · rw [updO_ne _ _ _ _ e2] at h2
        exact h.inj j i b hj hi h1 h2

/-- Whatever order: if each step makes its own block, and the end is known wherever the blocks lie. -/
theorem wpAny_makes {P : Program} {ops : Array Oper} {Q : Exit → Act → World → Prop} {w0 : World} {n : Nat} {idx : Nat → Nat} {ob : Nat → Obj} {F : (Nat → Option Nat) → Act} {ls : (Nat → Option Nat) → Array Bool} {Fin : (Nat → Option Nat) → Prop}
    (hdec : ∀ o, Fin o ∨ ¬ Fin o)
    (hrun : ∀ o k, k < n → o k = none → ∀ (w : World) (K : Act → World → Prop), K (F (updO o k (some w.heap.size))) (w.alloc (ob k)) → wpOp P ops Q (idx k) K (F o) w)
    (hls : ∀ o k b, k < n → o k = none → (ls o).setIfInBounds (idx k) true = ls (updO o k (some b)))
    (hrd : ∀ o, ¬ Fin o → Region.ready .any ops (ls o) ≠ [] ∧ ∀ i ∈ Region.ready .any ops (ls o), ∃ k, k < n ∧ o k = none ∧ i = idx k)
    (hnF : ∀ o, nones o n = 0 → Fin o)
    (hfin : ∀ o w, Fin o → Made w0 w n ob o → wpAny P .any ops Q (nones o n + 2) (ls o) (F o) w) :
    ∀ m o w, nones o n = m → Made w0 w n ob o → wpAny P .any ops Q (m + 2) (ls o) (F o) w := by
  intro m
  induction m with
  | zero =>
    intro o w hm hM
    have := hfin o w (hnF o hm) hM
    rwa [hm] at this
  | succ m ih =>
    intro o w hm hM
    rcases hdec o with hF | hF
    · have := hfin o w hF hM
      rwa [hm] at this
    · obtain ⟨hne, hall⟩ := hrd o hF
      refine ⟨fun h => absurd h hne, fun i hi => ?_⟩
      obtain ⟨k, hk, hok, rfl⟩ := hall i hi
      refine hrun o k hk hok w _ ?_
      rw [hls o k w.heap.size hk hok]
      exact ih _ _ (by have := nones_made o k w.heap.size hok n hk; omega) hM.next

end Go.Proofs.Ythpbgfodejoecaa
