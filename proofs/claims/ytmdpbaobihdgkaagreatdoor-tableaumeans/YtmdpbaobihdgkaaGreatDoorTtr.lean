
import Derived.Deep.AppendLies
import Derived.Test.YtmdpbaobihdgkaaGreatDoorNowJ
/- tableau: truths. -/
namespace Go.Proofs.YtmdpbaobihdgkaaGreatDoor
open Go.RowKit

theorem Tryz.info44' : (Tryz.prog.info? 44).map (fun i => (i.zero, i.size, i.bytes)) = some (some (.slice none 0 0), 1, 24) := by kernel_rfl

/-- The number of an element. -/
def pl (E : List Fml) (t : Fml) : Nat := (plc t (lf E) E.length).toNat

def trF (E : List Fml) (t : Fml) (r : Nat → Nat → Bool) (s : Nat) : Bool :=
  if t.kind = 3 ∨ t.kind = 7 then bt s (pl E t) else if t.kind = 4 then !r 0 s else if t.kind = 5 then r 0 s && r 1 s else if t.kind = 6 then r 0 s || r 1 s
  else if t.kind = 8 then r 1 s || (r 0 s && bt s (pl E t)) else if t.kind = 9 then r 1 s && (r 0 s || bt s (pl E t)) else t.kind == 1

/-- Is a part true at a state? -/
def trv (E : List Fml) (t : Fml) : Nat → Bool := t.red (fun _ => false) (trF E)

theorem trv_eq (E : List Fml) (t : Fml) (s : Nat) : trv E t s = trF E t (t.reds (fun _ => false) (trF E)) s := congrFun (Fml.red_eq _ _ t) s
theorem trv_kid {E : List Fml} {t : Fml} {i : Nat} (h : i < t.cnt) : t.reds (fun _ => false) (trF E) i = trv E (t.kid i) := Fml.reds_at h

/-- All that is chosen or not is an element. -/
def InE (E : List Fml) (t : Fml) : Prop := ∀ x ∈ pts t, (x.kind = 3 ∨ x.kind = 7 ∨ x.kind = 8 ∨ x.kind = 9) → x ∈ E

theorem InE.kid {E : List Fml} {t : Fml} (h : InE E t) {i : Nat} (hi : i < t.cnt) : InE E (t.kid i) := fun x hx hk =>
  h x (by rw [pts_eq]; exact List.mem_cons_of_mem _ ((catF_mem _).2 ⟨i, hi, hx⟩)) hk

theorem pl_at {E : List Fml} {t : Fml} (h : t ∈ E) : plc t (lf E) E.length = ((pl E t : Nat) : Int) ∧ pl E t < E.length := by
  unfold pl
  rcases plc_lt (t := t) (r := lf E) E.length with q | ⟨k, hk, e, _⟩
  · exact absurd h (plc_mem.1 q)
  · rw [e]; simp; omega

/-- What truths does. -/
def Tt (w0 : World) (E : List Fml) (ea : Option Addr) (ec : Nat) (t : Fml) : Prop := ∀ (a : Option Addr) (cap : Nat) (w : World), Ch w0 w E ea ec → Kds w0 t a →
  Calls Tryz.prog 18 #[.agg #[.slice ea E.length ec], .agg #[.int .i64 t.kind, .int .i64 t.num, .slice a t.cnt cap]] w fun e w' => NewB w (2 ^ E.length) (trv E t) e w'

set_option maxHeartbeats 4000000 in
theorem truths_early {w0 : World} {E : List Fml} {ea : Option Addr} {ec : Nat} {t : Fml} (hw : Wf t) (hE : t ∈ E) (hk : t.kind = 3 ∨ t.kind = 7) : Tt w0 E ea ec t := by
  intro a cap w hC hK
  obtain ⟨hp, hpl⟩ := pl_at hE
  obtain ⟨w1, hw1⟩ : ∃ y, y = (w.alloc (.cells #[.slice ea E.length ec] 53)).alloc (.cells #[.int .i64 t.kind, .int .i64 t.num, .slice a t.cnt cap] 24) := ⟨_, rfl⟩
  have hB1 : Below w.heap.size w w1 := by rw [hw1]; exact (box_below _ _).alloc (by simp) _
  have C := hid (chosen50 (tc := cap) (hC.below hB1) hK (wf_big hw) hp hpl)
  have HB := hid hB1
  have HW := hid hw1
  have HT : Hid (∀ s, trv E t s = bt s (pl E t)) := hid (fun s => by rw [trv_eq, trF, if_pos hk])
  generalize hN : E.length = N at *
  generalize hpE : pl E t = p at *
  generalize hkk : t.kind = k at *
  clear hK hw1 hB1 hp hC hw hE hpl
  rcases hk with rfl | rfl
  all_goals
    go_enter Tryz.func18, Tryz.ntmps18
    go_wp2_with fail
    rw [← HW.out]
    refine C.out.mono ?_
    rintro e z2 ⟨g, rfl, g1, g2, g3⟩
    have HG : Hid (w.heap.size ≤ g ∧ z2.rowIs g 4 (2 ^ N) (fun i => .bool (trv E t i)) ∧ Below w.heap.size w z2) := hid ⟨Nat.le_trans HB.out.size g1, g2.congr (fun i _ => by rw [HT.out i]), HB.out.trans (g3.mono HB.out.size)⟩
    clear g1 g2 g3 C
    go_wp2
    go_ret
    exact ⟨g, rfl, HG.out.1, HG.out.2.1, HG.out.2.2⟩
end Go.Proofs.YtmdpbaobihdgkaaGreatDoor
