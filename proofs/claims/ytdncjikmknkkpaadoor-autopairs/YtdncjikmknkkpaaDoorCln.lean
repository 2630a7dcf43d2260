/- A list of lists is cloned, and grows by one. -/
import Derived.Test.YtdncjikmknkkpaaDoorEvr
namespace Go.Proofs.YtdncjikmknkkpaaDoor
open Go.RowKit

theorem Tryd.info22b : (Tryd.prog.info? 22).map (fun i => (i.zero, i.size, i.bytes)) = some (some (.slice none 0 0), 1, 24) := by kernel_rfl

/-- The slices of a list of lists. -/
def GrV (w : World) (ga : Option Addr) (G : Nat) (V : Nat → Value) : Prop := ∃ gb go, (0 < G → ga = some ⟨gb, go, none⟩) ∧ ∀ r, r < G → w.cell? ⟨gb, go + r, none⟩ = some (V r)

def vlst (V : Nat → Value) (n : Nat) : List Value := (List.range n).map V
theorem vlst_len (V : Nat → Value) (n : Nat) : (vlst V n).length = n := by simp [vlst]
theorem vlst_at (V : Nat → Value) (n i : Nat) (h : i < n) : (vlst V n)[i]? = some (V i) := by simp [vlst, h]

/-- Each row's slice, by choice. -/
theorem gr_vals {w : World} {ga : Option Addr} {G : Nat} {L : Nat → Nat} {Z : Nat → Nat → Int} (h : Gr w ga G L Z) : ∃ A : Nat → Option Addr, ∃ C : Nat → Nat, GrV w ga G (fun r => .slice (A r) (L r) (C r)) ∧ ∀ r, r < G → Row w (A r) (L r) (Z r) := by
  obtain ⟨gb, go, h1, h2⟩ := h
  have h3 : ∀ r, ∃ x : Option Addr × Nat, r < G → w.cell? ⟨gb, go + r, none⟩ = some (.slice x.1 (L r) x.2) ∧ Row w x.1 (L r) (Z r) := by
    intro r
    by_cases hr : r < G
    · obtain ⟨a, c, h4, h5⟩ := h2 r hr
      exact ⟨(a, c), fun _ => ⟨h4, h5⟩⟩
    · exact ⟨(none, 0), fun h => absurd h hr⟩
  obtain ⟨f, hf⟩ := Classical.axiomOfChoice h3
  exact ⟨fun r => (f r).1, fun r => (f r).2, ⟨gb, go, h1, fun r hr => (hf r hr).1⟩, fun r hr => (hf r hr).2⟩

set_option maxHeartbeats 1000000 in
theorem cloneG_any (ga : Option Addr) (n c : Nat) (A : Nat → Option Addr) (L C : Nat → Nat) (w : World) (hn : n ≤ 1000) (h : GrV w ga n (fun r => .slice (A r) (L r) (C r))) (hnil : ga = none → n = 0 ∧ c = 0) :
    Calls Tryd.prog 19 #[.slice ga n c] w fun e w' => ∃ v, e = .returned v ∧ w'.ownsRow w.heap.size 22 1 v n (vlst (fun r => .slice (A r) (L r) (C r)) n) ∧ Below w.heap.size w w' := by
  cases ga with
  | none =>
    obtain ⟨rfl, rfl⟩ := hnil rfl
    have hq := fun w' => Go.Lib.run_eql_slice_nil (P := Tryd.prog) w' 23 22 none 0 0 0 0 Tryd.underlying23
    go_enter Tryd.func19, Tryd.ntmps19
    go_wp2
    go_ret
    exact ⟨_, rfl, World.ownsRow_nil _ _ _ _, Below.refl _ _⟩
  | some x =>
    obtain ⟨i0, hi, hz0, hz1, hz2⟩ := info_parts Tryd.info22b
    have HI : Hid (Tryd.prog.info? 22 = some i0 ∧ i0.zero = some (.slice none 0 0) ∧ i0.size = 1 ∧ i0.bytes = 24) := ⟨hi, hz0, hz1, hz2⟩
    have HO : Hid ((w.alloc (.cells #[] 22)).ownsRow w.heap.size 22 1 (.slice (some ⟨w.heap.size, 0, none⟩) 0 0) 0 []) := World.ownsRow_made w #[] 0 (Nat.le_refl _) (Nat.zero_le _) rfl
    have HN : Hid (∀ j u, (vlst (fun r => .slice (A r) (L r) (C r)) n)[j]? = some u → (w.alloc (.cells #[] 22)).cell? (x.add j) = some u) := hid (by
      intro j u hu
      have hj : j < n := by have := (List.getElem?_eq_some_iff.1 hu).1; rwa [vlst_len] at this
      obtain ⟨gb, go, h1, h2⟩ := h
      have hx := h1 (by omega)
      rw [Option.some.injEq] at hx
      rw [hx, Addr.add_mid]
      rw [vlst_at _ _ _ hj] at hu
      rw [← hu]
      exact cell_alloc1 _ (h2 j hj))
    have HV1 : Hid (∀ u ∈ vlst (fun r => .slice (A r) (L r) (C r)) n, u.oneCell' = true) := hid (by
      intro u hu
      unfold vlst at hu
      obtain ⟨r, _, rfl⟩ := List.mem_map.1 hu
      rfl)
    have hq := fun w' => Go.Lib.run_eql_slice_nil (P := Tryd.prog) w' 23 22 (some x) n c 0 0 Tryd.underlying23
    clear hi hz0 hz1 hz2 h hnil
    go_enter Tryd.func19, Tryd.ntmps19
    go_wp2_with (at_builtin; refine wpList_append_own_at _ rfl _ _ 23 rfl w.heap.size 22 i0 _ 1 24 Tryd.underlying23 HI.out.1 HI.out.2.1 HI.out.2.2.1 HI.out.2.2.2 rfl (by decide) _ _ _ rfl HO.out x n c (vlst (fun r => .slice (A r) (L r) (C r)) n) rfl (by rw [vlst_len, Nat.mul_one]) HN.out HV1.out (by unfold maxLen; omega) (by omega) (by simp) ?_; intro v' w2 hown' hgrow hnil hloc; have G := hid (And.intro hown' hgrow); clear hown' hgrow hnil hloc)
    go_ret
    obtain ⟨h1, h2⟩ := G.out
    rw [List.nil_append, Nat.zero_add] at h1
    exact ⟨_, rfl, h1, (box_below w (.cells #[] 22)).grown h2 (by simp) (fun k hk => by cases hk; exact Nat.le_refl _)⟩

/-- Fewer beginnings, more fair sets: no more is accepted. -/
theorem acc_less {a b : Atm} {o : Nat → Int} (h1 : ∀ q, b.st q → a.st q) (h2 : ∀ q t, b.nx q t → a.nx q t) (h3 : ∀ q l, b.lt q l → a.lt q l) (h4 : ∀ k, k < a.K → k < b.K ∧ ∀ q, b.fr k q → a.fr k q) (h : b.Acc o) : a.Acc o := by
  obtain ⟨r, hr⟩ := h
  refine ⟨r, h1 _ hr.st, fun j => h2 _ _ (hr.nx j), fun j => h3 _ _ (hr.lt j), fun k hk j => ?_⟩
  obtain ⟨l, g1, g2⟩ := hr.fr k (h4 k hk).1 j
  exact ⟨l, g1, (h4 k hk).2 _ g2⟩

end Go.Proofs.YtdncjikmknkkpaaDoor
