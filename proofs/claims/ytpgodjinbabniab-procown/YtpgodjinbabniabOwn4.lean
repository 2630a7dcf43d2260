/- What ProcOwn holds in memory. -/
import Derived.Test.YtpgodjinbabniabOwn3
import Derived.Test.YtpgodjinbabniabSpLaw
namespace Go.Proofs.Ytpgodjinbabniab
open Go.RowKit Go.Maps

/-- A process in block b, its lists with room behind them. -/
structure QIs (W2 wc : World) (b : Nat) (vn vf : Value) (N F : Nat) (M : Nat → ByteArray) (K A B : Nat → Int) : Prop where
  ge : W2.heap.size ≤ b
  blk : wc.heap[b]? = some (.cells #[vn, vf] 25 (0, 0))
  nds : Rp wc W2.heap.size 68 vn N (fun i => .string (M i)) (fun i => .int .i64 (K i)) (.string ByteArray.empty) (.int .i64 9)
  fls : Rp wc W2.heap.size 71 vf F (fun i => .int .i64 (A i)) (fun i => .int .i64 (B i)) (.int .i64 0) (.int .i64 99)
  below : Below W2.heap.size W2 wc

theorem Rp.kp {L : List (Option TypeId)} {w w' : World} {B : Nat} {t : TypeId} {v : Value} {N : Nat} {f g : Nat → Value} {x y : Value} (h : Rp w B t v N f g x y) (hk : Kp L w w') (ht : some t ∈ L) : Rp w' B t v N f g x y := by
  obtain ⟨b, cap, h1, h2⟩ := h
  exact ⟨b, cap, h1, row_kp h2 hk ht⟩

def Tw25 (w : World) (r : Nat) (a b : Value) : Prop := w.heap[r]? = some (.cells #[a, b] 25 (0, 0))

theorem tw_cells {w : World} {r : Nat} {a b : Value} (h : Tw25 w r a b) : (w.cell? ⟨r, 0, none⟩ = some a ∧ w.cell? ⟨r, 1, none⟩ = some b) ∧ w.frozen? ⟨r, 0, none⟩ = false ∧ w.frozen? ⟨r, 1, none⟩ = false := by
  refine ⟨⟨cell_of_cells h rfl, cell_of_cells h rfl⟩, ?_⟩
  unfold Tw25 at h
  simp [World.frozen?, h]

theorem Tw25.below {w w' : World} {r : Nat} {a b : Value} (h : Tw25 w r a b) (hb : Below w.heap.size w w') : Tw25 w' r a b := by
  unfold Tw25 at *
  rw [hb.block r (Array.getElem?_eq_some_iff.1 h).1]
  exact h

theorem tw_new (w : World) (a b : Value) : Tw25 (w.alloc (.cells #[a, b] 25)) w.heap.size a b := Go.Deep.blk_alloc_new _ _
theorem tw_new_drew (w : World) (a b : Value) : Tw25 (w.alloc (.cells #[a, b] 25)).drew w.heap.size a b := Go.Deep.blk_alloc_new _ _
theorem tw_drew_new (w : World) (a b : Value) : Tw25 (w.drew.alloc (.cells #[a, b] 25)) w.heap.size a b := Go.Deep.blk_alloc_new _ _

theorem tw_set {w : World} {r : Nat} {a b a' b' : Value} (h : Tw25 w r a b) : Tw25 ((w.setCell ⟨r, 0, none⟩ a').setCell ⟨r, 1, none⟩ b') r a' b' := by
  unfold Tw25 at *
  simp [World.setCell, Array.getElem?_modify, h]

theorem kp_tw {L : List (Option TypeId)} {w : World} {r : Nat} {a b x y : Value} (h : Tw25 w r a b) (ht : some 25 ∉ L) : Kp L w ((w.setCell ⟨r, 0, none⟩ x).setCell ⟨r, 1, none⟩ y) := fun j o ho htg => by
  by_cases e : j = r
  · subst e
    unfold Tw25 at h
    rw [h] at ho
    cases ho
    exact absurd htg ht
  · rw [Below.heap_setCell _ _ _ _ e, Below.heap_setCell _ _ _ _ e]
    exact ho

theorem set_other2 {w : World} {r : Nat} {x y : Value} (p : Addr) (h : p.block ≠ r) : ((w.setCell ⟨r, 0, none⟩ x).setCell ⟨r, 1, none⟩ y).cell? p = w.cell? p :=
  World.cell?_of_block ((Below.heap_setCell _ _ _ _ h).trans (Below.heap_setCell _ _ _ _ h))

theorem q_new {W2 w6 : World} {vn vf : Value} {N F : Nat} {M : Nat → ByteArray} {K A B : Nat → Int} (hw : Below W2.heap.size W2 w6) (hn : Rp w6 W2.heap.size 68 vn N (fun i => .string (M i)) (fun i => .int .i64 (K i)) (.string ByteArray.empty) (.int .i64 9))
    (hf : Rp w6 W2.heap.size 71 vf F (fun i => .int .i64 (A i)) (fun i => .int .i64 (B i)) (.int .i64 0) (.int .i64 99)) : QIs W2 (w6.alloc (.cells #[vn, vf] 25)) w6.heap.size vn vf N F M K A B :=
  ⟨hw.size, tw_new w6 vn vf, hn.below (box_below _ _), hf.below (box_below _ _), hw.alloc hw.size _⟩

theorem q_set {W2 w6 : World} {r : Nat} {a b vn vf : Value} {N F : Nat} {M : Nat → ByteArray} {K A B : Nat → Int} (hw : Below W2.heap.size W2 w6) (hr : W2.heap.size ≤ r) (h2 : Tw25 w6 r a b) (hn : Rp w6 W2.heap.size 68 vn N (fun i => .string (M i)) (fun i => .int .i64 (K i)) (.string ByteArray.empty) (.int .i64 9))
    (hf : Rp w6 W2.heap.size 71 vf F (fun i => .int .i64 (A i)) (fun i => .int .i64 (B i)) (.int .i64 0) (.int .i64 99)) : QIs W2 ((w6.setCell ⟨r, 0, none⟩ vn).setCell ⟨r, 1, none⟩ vf) r vn vf N F M K A B :=
  ⟨hr, tw_set h2, hn.kp (L := [some 68, some 71]) (kp_tw h2 (by decide)) (by decide), hf.kp (L := [some 68, some 71]) (kp_tw h2 (by decide)) (by decide), (hw.setCell hr _).setCell hr _⟩

/-- .. and its two lists, as a process. -/
theorem QIs.prc {W2 wc : World} {b : Nat} {vn vf : Value} {N F : Nat} {M : Nat → ByteArray} {K A B : Nat → Int} (h : QIs W2 wc b vn vf N F M K A B) (hN : N ≤ 140737488355328) (hF : F ≤ 140737488355328) :
    ∃ gn cn gf cf, vn = .slice (some ⟨gn, 0, none⟩) N cn ∧ vf = .slice (some ⟨gf, 0, none⟩) F cf ∧
      Hid (∀ u, Below wc.heap.size wc u → (u.cell? ⟨b, 0, none⟩ = some vn ∧ u.cell? ⟨b, 1, none⟩ = some vf) ∧ Prc u (some ⟨gn, 0, none⟩) N cn (some ⟨gf, 0, none⟩) F M K A B ∧
        (Calls Try.prog 35 #[vn, .agg #[.string ByteArray.empty, .int .i64 9]] u fun e w' => e = .returned (.bool true) ∧ Below u.heap.size u w') ∧
        (Calls Try.prog 36 #[vf, .agg #[.int .i64 0, .int .i64 99]] u fun e w' => e = .returned (.bool true) ∧ Below u.heap.size u w')) := by
  obtain ⟨gn, cn, rfl, _⟩ := h.nds.cells
  obtain ⟨gf, cf, rfl, _⟩ := h.fls.cells
  refine ⟨gn, cn, gf, cf, rfl, rfl, fun u hu => ?_⟩
  obtain ⟨gn', cn', e1, hc1, hd1, ⟨h1, h2⟩, h3, h4⟩ := (h.nds.below hu).cells
  obtain ⟨gf', cf', e2, hc2, hd2, ⟨k1, k2⟩, k3, k4⟩ := (h.fls.below hu).cells
  cases e1
  cases e2
  have hb := h.blk
  have hb2 := (hu.block b (Array.getElem?_eq_some_iff.1 hb).1).trans hb
  exact ⟨⟨cell_of_block hb2 rfl, cell_of_block hb2 rfl⟩, ⟨⟨gn, 0, fun _ => rfl, hd1⟩, ⟨gf, 0, fun _ => rfl, hd2⟩, by omega, hN, hF⟩, keptN_any hN hc1 h1 h2 h3 h4, keptF_any hF hc2 k1 k2 k3 k4⟩

theorem Rm.below {w w' : World} {B n : Nat} {v : Value} {Z : Nat → Int} (h : Rm w B v n Z) (hb : Below w.heap.size w w') : Rm w' B v n Z := by
  obtain ⟨g, cap, cur, h1, h2, h3, h4⟩ := h
  exact ⟨g, cap, cur, h1, h2, (hb.block g (Array.getElem?_eq_some_iff.1 h3).1).trans h3, h4⟩

theorem equal_true {a a' : Option Addr} {n c c' : Nat} {Y Z : Nat → Int} {w : World} (hn : n ≤ 140737488355328) (h : Row w a n Y) (h' : Row w a' n Z) (e : ∀ i, i < n → Y i = Z i) :
    Calls Try.prog 11 #[.slice a n c, .slice a' n c'] w fun e w' => e = .returned (.bool true) ∧ Below w.heap.size w w' := by
  refine (equal_any a a' n c n c' Y Z w hn h h').mono fun x w' ⟨h1, q, h2⟩ => ⟨?_, ?_⟩
  · rw [h1, same_yes rfl e]
  · rw [h2]; exact below_drewn (Below.refl _ _) q

theorem Spx.cell_other {t t' : TypeId} {lo hi : Nat} {w w' : World} (h : Spx t lo hi w w') {b i : Nat} {d : Array Value} {z : Nat × Nat} (hb : w.heap[b]? = some (.cells d t' z)) (hne : t' ≠ t) : w'.cell? ⟨b, i, none⟩ = w.cell? ⟨b, i, none⟩ :=
  World.cell?_of_block (w := w) (h.other b (Array.getElem?_eq_some_iff.1 hb).1 (fun c hc => by
    rw [hb] at hc
    cases hc
    exact hne rfl))

theorem Spx.blk_other {t t' : TypeId} {lo hi : Nat} {w w' : World} (h : Spx t lo hi w w') {b : Nat} {d : Array Value} {z : Nat × Nat} (hb : w.heap[b]? = some (.cells d t' z)) (hne : t' ≠ t) : w'.heap[b]? = some (.cells d t' z) :=
  (h.other b (Array.getElem?_eq_some_iff.1 hb).1 (fun c hc => by
    rw [hb] at hc
    cases hc
    exact hne rfl)).trans hb

theorem Otr.blk {lo hi : Nat} {w w' : World} (h : Otr lo hi w w') {b : Nat} {o : Obj} (hb : w.heap[b]? = some o) (ho : b < lo ∨ hi ≤ b) : w'.heap[b]? = some o := (h.out b (Array.getElem?_eq_some_iff.1 hb).1 ho).trans hb

theorem below_blk {w w' : World} (h : Below w.heap.size w w') {b : Nat} {o : Obj} (hb : w.heap[b]? = some o) : w'.heap[b]? = some o := (h.block b (Array.getElem?_eq_some_iff.1 hb).1).trans hb

/-- The list that Enabled tells. -/
def eL (E : Int) (l : List Int) : List Int := if E = 0 then l else []

theorem en_all {E : Int} {b0 t : Nat} {l : List Int} {e : Ending} {w : World} (ht : t = l.length) (h : Ans E (LstO b0 t l) e w) :
    ∃ a c, e = .returned (.tuple #[.slice a (eL E l).length c, .int .i64 E]) ∧ w.ownsRow b0 3 1 (.slice a (eL E l).length c) (eL E l).length (vals (eL E l)) := by
  rcases h with ⟨h1, rfl⟩ | ⟨rfl, a, c, rfl, h2⟩
  · unfold eL
    rw [if_neg h1]
    exact ⟨none, 0, rfl, World.ownsRow_nil _ _ _ _⟩
  · unfold eL
    rw [if_pos rfl, ← ht]
    exact ⟨a, c, rfl, h2⟩

theorem eL_small {E0 : Int} {ok : Bool} {k : Nat} {X : Nat → Int} (h : E0 = 0 → k ≤ 60) : (eL (mkE E0 ok) (fl X 1 k)).length ≤ 60 := by
  unfold eL
  by_cases hz : mkE E0 ok = 0
  · rw [if_pos hz, fl_len]
    have h0 : E0 = 0 := by
      by_cases h1 : E0 = 0
      · exact h1
      · rw [mkE_bad h1] at hz
        exact hz
    exact Nat.le_trans (tally_le X 1 k) (h h0)
  · rw [if_neg hz]
    exact Nat.zero_le _

theorem fi_ret {E : Int} {b0 : Nat} {K A B : Nat → Int} {F : Nat} {l : List St3} {m : Nat → Int} {step : Int} {e : Ending} {w : World} (h : Ans E (FiIs b0 K A B F l m step) e w) : ∃ v1 v2, e = .returned (.tuple #[v1, v2]) := by
  rcases h with ⟨_, rfl⟩ | ⟨_, ⟨_, rfl⟩ | ⟨_, ⟨_, rfl⟩ | ⟨_, _, rfl⟩ | ⟨_, _, g, c, _, rfl, _⟩⟩⟩ <;> exact ⟨_, _, rfl⟩

theorem enb_ex (K A B : Nat → Int) (F : Nat) (l : List St3) (m : Nat → Int) : ∃ X : Nat → Int, ∀ i, X i = 1 ↔ enb K A B F m (l.getD i (0, 0, 0)) :=
  ⟨fun i => @ite Int (enb K A B F m (l.getD i (0, 0, 0))) (Classical.propDecidable _) 1 0, fun i => by simp⟩

/-- What is told is small. -/
theorem x_small {E a b : Int} {K A B : Nat → Int} {F : Nat} {l : List St3} {X : List Int → Nat → Int} :
    (xM E a b (xall a b K A B F l X)).length ≤ 200 ∧ (xN E a b (xall a b K A B F l X)).length ≤ 200 ∧ ∀ i, i < (xN E a b (xall a b K A B F l X)).length → ((xN E a b (xall a b K A B F l X)).getD i []).length ≤ l.length := by
  by_cases h : xE E a b (xall a b K A B F l X) = 0
  · obtain ⟨_, hb, T, h3, h4, h5, h6, h7⟩ := x_ok h
    have hb' := bnd_all hb
    have hf := h6.few
    rw [h4, h5]
    exact ⟨by omega, by omega, xinv_small h6 h7⟩
  · rw [xM_nil h, xN_nil h]
    exact ⟨Nat.zero_le _, Nat.zero_le _, fun i hi => absurd hi (Nat.not_lt_zero _)⟩

/-- No marking has any length. -/
theorem spc_any {w : World} {base F : Nat} {mv nv : Value} {marks : List (List Int)} {nexts : List (List (Int × Int))} (h : Spc w base mv nv F marks nexts) (h0 : marks = []) (F' : Nat) : Spc w base mv nv F' marks nexts := by
  subst h0
  obtain ⟨⟨G, ⟨⟨Vs, h1, _⟩, _⟩, hc⟩, h2⟩ := h
  exact ⟨⟨G, ⟨⟨Vs, h1, fun i hi => absurd hi (Nat.not_lt_zero _)⟩, fun i hi => absurd hi (Nat.not_lt_zero _)⟩, hc⟩, h2⟩

end Go.Proofs.Ytpgodjinbabniab
