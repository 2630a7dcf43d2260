/- The graph turned round: what comes, what the parts are; watchref.Rest and watchkeep.lists, by their contracts. -/
import Derived.Test.YtjfanphbjngfeaaSccPartsWalk
import Derived.Test.YtjfanphbjngfeaaSccTurnsWalk
namespace Go.Proofs.Ytjfanphbjngfeaa
open Go.RowKit

/-- The graph turned round. -/
def tL (L : Nat → Nat) (Z : Nat → Nat → Int) (G j : Nat) : Nat := (tl L Z G j).length
def tZ (L : Nat → Nat) (Z : Nat → Nat → Int) (G j i : Nat) : Int := (tl L Z G j).getD i 0

section
variable {G : Nat} {L : Nat → Nat} {Z : Nat → Nat → Int}

theorem tl_mem (j : Nat) (x : Int) : x ∈ tl L Z G j ↔ ∃ q : Nat, q < G ∧ has (L q) (Z q) j = true ∧ x = q := by
  unfold tl
  rw [List.mem_map]
  constructor
  · rintro ⟨q, hq, rfl⟩
    obtain ⟨h1, h2⟩ := List.mem_filter.1 hq
    exact ⟨q, List.mem_range.1 h1, h2, rfl⟩
  · rintro ⟨q, hq, h, rfl⟩
    exact ⟨q, List.mem_filter.2 ⟨List.mem_range.2 hq, h⟩, rfl⟩

theorem tZ_mem (j i : Nat) (hi : i < tL L Z G j) : tZ L Z G j i ∈ tl L Z G j := by
  unfold tZ
  rw [List.getD_eq_getElem?_getD, List.getElem?_eq_getElem hi]
  exact List.getElem_mem hi

theorem has_turn (j q : Nat) : has (tL L Z G j) (tZ L Z G j) q = true ↔ q < G ∧ has (L q) (Z q) j = true := by
  rw [has_iff]
  constructor
  · rintro ⟨i, hi, e⟩
    have h := tZ_mem j i hi
    rw [e] at h
    obtain ⟨q', h1, h2, e'⟩ := (tl_mem j _).1 h
    have : q' = q := by omega
    subst this
    exact ⟨h1, h2⟩
  · rintro ⟨h1, h2⟩
    obtain ⟨i, hi, e⟩ := List.mem_iff_getElem.1 ((tl_mem (L := L) (Z := Z) (G := G) j q).2 ⟨q, h1, h2, rfl⟩)
    refine ⟨i, hi, ?_⟩
    unfold tZ
    rw [List.getD_eq_getElem?_getD, List.getElem?_eq_getElem hi]
    exact e

theorem turn_errG (h : errG G L Z = 0) : errG G (tL L Z G) (tZ L Z G) = 0 := by
  have hG := (errG_zero h).1
  refine errG_ok (by omega) ?_
  unfold okG
  rw [decide_eq_true_eq]
  intro r _
  refine allIn_yes (fun i hi => ?_)
  obtain ⟨q, h1, _, e⟩ := (tl_mem r _).1 (tZ_mem r i hi)
  omega

theorem ego_turn (h : errG G L Z = 0) (x y : Nat) : Ego G (tL L Z G) (tZ L Z G) x y ↔ Ego G L Z y x := by
  rw [← ed_ego, ← ed_ego]
  unfold Ed
  rw [has_turn]
  constructor
  · rintro ⟨_, h1, h2⟩; exact ⟨h1, h2⟩
  · rintro ⟨h1, h2⟩
    obtain ⟨i, hi, e⟩ := has_iff.1 h2
    have := (errG_zero h).2 y h1 i hi
    exact ⟨by omega, h1, h2⟩

theorem rch_back {E E' : Nat → Nat → Prop} (he : ∀ x y, E' x y → E y x) {x y : Nat} (h : Rch E' x y) : Rch E y x :=
  h.stay (P := fun z => Rch E z x) (fun _ _ hz e => (Rch.edge (he _ _ e)).trans hz) (Rch.refl x)

theorem rch_turn (h : errG G L Z = 0) (x y : Nat) : Rch (Ego G (tL L Z G) (tZ L Z G)) x y ↔ Rch (Ego G L Z) y x :=
  ⟨rch_back (fun a b e => (ego_turn h a b).1 e), rch_back (fun a b e => (ego_turn h b a).2 e)⟩

theorem mut_turn (h : errG G L Z = 0) (x y : Nat) : Mut (Ego G (tL L Z G) (tZ L Z G)) x y ↔ Mut (Ego G L Z) x y := by
  unfold Mut
  rw [rch_turn h, rch_turn h]
  exact ⟨fun ⟨a, b⟩ => ⟨b, a⟩, fun ⟨a, b⟩ => ⟨b, a⟩⟩

theorem tl_thrice (j : Nat) (hj : j < G) : tl (tL (tL L Z G) (tZ L Z G) G) (tZ (tL L Z G) (tZ L Z G) G) G j = tl L Z G j := by
  have : ∀ (A B : Nat → Bool), (∀ q, q < G → A q = B q) → (List.range G).filter A = (List.range G).filter B := fun A B hAB =>
    List.filter_congr (fun q hq => hAB q (List.mem_range.1 hq))
  unfold tl
  rw [this _ _ (fun q hq => ?_)]
  rw [Bool.eq_iff_iff, has_turn, has_turn]
  exact ⟨fun ⟨_, _, h⟩ => h, fun h => ⟨hj, hq, h⟩⟩

theorem cs_congr {ml ml' : Nat → Nat} {n : Nat} (h : ∀ x, x < n → ml x = ml' x) : cs ml n = cs ml' n := by
  induction n with
  | zero => rfl
  | succ n ih =>
    simp only [cs]
    rw [ih (fun x hx => h x (by omega)), h n (by omega)]

theorem parts_turn (h : errG G L Z = 0) {ml ml' : Nat → Nat} (h1 : IsParts G L Z ml) (h2 : IsParts G (tL L Z G) (tZ L Z G) ml') (x : Nat) (hx : x < G) : partNo ml x = partNo ml' x := by
  have e : ∀ x, x < G → ml x = ml' x := fun x hx => by
    obtain ⟨a, b, c⟩ := h1 x hx
    obtain ⟨a', b', c'⟩ := h2 x hx
    have l1 := (c _ a' ((mut_turn h _ _).1 b')).2
    have l2 := (c' _ a ((mut_turn h _ _).2 b)).2
    omega
  unfold partNo
  rw [← e x hx]
  have := h1.le hx
  rw [cs_congr (fun y hy => e y (by omega))]
end

theorem Fam.gr' {w wr : World} {G : Nat} {L : Nat → Nat} {Z : Nat → Nat → Int} {V : Nat → Value} (h : Fam w wr G (tl L Z G) V) : Gr wr (some ⟨w.heap.size, 0, none⟩) G (tL L Z G) (tZ L Z G) := h.gr

set_option maxHeartbeats 400000 in
theorem lists2_any (ga ha : Option Addr) (G gc G' hc : Nat) (L L' : Nat → Nat) (Y Z : Nat → Nat → Int) (w : World) (hG : G ≤ 140737488355328) (hL : ∀ r, r < G → L r ≤ 140737488355328) (h : Gr w ga G L Y) (h' : Gr w ha G' L' Z) :
    Calls Try.prog 24 #[.slice ga G gc, .slice ha G' hc] w fun e w' => e = .returned (.bool (sameG G G' L L' Y Z)) ∧ ∃ q, w' = w.drewN q := by
  have H : Hid (Gr w ga G L Y) := h
  have H' : Hid (Gr w ha G' L' Z) := h'
  have HL : Hid (∀ r, r < G → L r ≤ 140737488355328) := hL
  clear h h' hL
  go_enter Try.func24, Try.ntmps24
  go_wp2_with fail
  refine (equalFunc_any ga ha G gc G' hc L L' Y Z _ hG HL.out H.out H'.out).mono ?_
  rintro e w' ⟨rfl, q, rfl⟩
  go_wp2
  go_ret
  exact ⟨rfl, q, rfl⟩

def RestIs (m : Nat) (w w' : World) (e : Ending) : Prop := ∃ a : Nat, a < m ∧ e = .returned (.int .i64 a) ∧ w' = w

set_option maxHeartbeats 400000 in
theorem rest_any (n : Int) (m : Nat) (w : World) (hm : 0 < m) (hm2 : m ≤ 120) : Calls Try.prog 25 #[.int .i64 n, .int .i64 m] w fun e w' => RestIs m w w' e := by
  have hmz : ((m : Int) == 0) = false := by rw [beq_eq_false_iff_ne]; omega
  have h1 : n.tmod m < m := Int.tmod_lt_of_pos n (by omega)
  have h2 : -(m : Int) < n.tmod m := by
    have := Int.tmod_lt_of_pos (-n) (b := (m : Int)) (by omega)
    rw [Int.neg_tmod] at this
    omega
  have HB : Hid (n.tmod m < m ∧ -(m : Int) < n.tmod m) := ⟨h1, h2⟩
  clear h1 h2
  by_cases h0 : n.tmod m < 0
  · obtain ⟨a, ha⟩ : ∃ a : Nat, n.tmod m + m = a := ⟨(n.tmod m + m).toNat, by have := HB.out.2; omega⟩
    have ham : a < m := by have := HB.out.1; omega
    have HE : Hid (wrap64 (n.tmod m + m) = a) := hid (by rw [ha]; unfold wrap64; omega)
    clear ha
    go_enter Try.func25, Try.ntmps25
    go_wp2
    rw [HE.out]
    go_ret
    exact ⟨a, ham, rfl, rfl⟩
  · obtain ⟨a, ha⟩ : ∃ a : Nat, n.tmod m = a := ⟨(n.tmod m).toNat, by omega⟩
    have ham : a < m := by have := HB.out.1; omega
    have HE : Hid (n.tmod m = a) := ha
    clear ha
    go_enter Try.func25, Try.ntmps25
    go_wp2
    rw [HE.out]
    go_ret
    exact ⟨a, ham, rfl, rfl⟩

end Go.Proofs.Ytjfanphbjngfeaa
