
import Derived.Test.YtmdpbaobihdgkaaGreatDoorAPkyJ
/- The roll's list: its contract. -/
namespace Go.Proofs.YtmdpbaobihdgkaaGreatDoor
open Go.RowKit Go.Shelf Go.Maps
attribute [local go_sem] Oper.semAt_some
theorem Tryz.info86 : (Tryz.prog.info? 86).map (fun i => (i.zero, i.size, i.bytes)) = some (some (.agg #[.int .i64 0, .int .i64 0]), 2, 16) := by kernel_rfl
def nms (Q : List (Nat × Nat)) (pre : List Pr) : List Nat := pre.map fun y => ix (prn y) Q
theorem nms_snoc (Q : List (Nat × Nat)) (pre : List Pr) (x : Pr) : nms Q (pre ++ [x]) = nms Q pre ++ [ix (prn x) Q] := by simp [nms]
theorem nms_pre {Q R : List (Nat × Nat)} {pre : List Pr} (h : Q <+: R) (hm : ∀ y ∈ pre, prn y ∈ Q) : nms R pre = nms Q pre := List.map_congr_left (fun y hy => ix_pre (hm y hy) h)
theorem nms_len (Q : List (Nat × Nat)) (pre : List Pr) : (cs (nms Q pre)).length = pre.length := by rw [cs_len]; simp [nms]
def qp (P : List (Nat × Nat)) (pre : List Pr) : List (Nat × Nat) := nAdds P (pre.map prn)
theorem qp_snoc (P : List (Nat × Nat)) (pre : List Pr) (x : Pr) : qp P (pre ++ [x]) = nAdd (qp P pre) (prn x) := by
 unfold qp
 rw [List.map_append]
 exact nAdds_snoc _ _ _
theorem qp_mem (P : List (Nat × Nat)) (pre : List Pr) : ∀ y ∈ pre, prn y ∈ qp P pre := fun y hy => (mem_nAdds _ _).2 (Or.inr (List.mem_map.2 ⟨y, hy, rfl⟩))
theorem qp_pre {P : List (Nat × Nat)} {pre all : List Pr} (h : pre <+: all) : qp P pre <+: qp P all := by
 obtain ⟨r, rfl⟩ := h
 unfold qp
 rw [List.map_append, nAdds_app]
 exact nAdds_pre _ _
theorem rl_world (w : World) (rb : Nat) : ∃ W, (((w.alloc (.cells #[.pointer (some ⟨rb, 0, none⟩)] 156)).alloc (.cells #[.slice none 0 0] 29)).alloc (.cells #[.int .i64 0] 33)).alloc (.cells #[.slice none 0 0] 29) = W ∧ Below w.heap.size w W ∧ W.heap.size = w.heap.size + 4 ∧
  W.heap[w.heap.size]? = some (.cells #[.pointer (some ⟨rb, 0, none⟩)] 156) ∧ W.heap[w.heap.size + 1]? = some (.cells #[.slice none 0 0] 29) ∧ W.heap[w.heap.size + 1 + 1]? = some (.cells #[.int .i64 0] 33) ∧ W.heap[w.heap.size + 1 + 1 + 1]? = some (.cells #[.slice none 0 0] 29) := by
 have b1 := box_below w (.cells #[.pointer (some ⟨rb, 0, none⟩)] 156)
 have n1 : (w.alloc (.cells #[.pointer (some ⟨rb, 0, none⟩)] 156)).heap[w.heap.size]? = _ := Go.Deep.blk_alloc_new _ _
 have s1 : (w.alloc (.cells #[.pointer (some ⟨rb, 0, none⟩)] 156)).heap.size = w.heap.size + 1 := by simp
 generalize w.alloc (.cells #[.pointer (some ⟨rb, 0, none⟩)] 156) = W1 at *
 have b2 := box_below W1 (.cells #[.slice none 0 0] 29)
 have n2 : (W1.alloc (.cells #[.slice none 0 0] 29)).heap[W1.heap.size]? = _ := Go.Deep.blk_alloc_new _ _
 have s2 : (W1.alloc (.cells #[.slice none 0 0] 29)).heap.size = w.heap.size + 1 + 1 := by simp [s1]
 generalize W1.alloc (.cells #[.slice none 0 0] 29) = W2 at *
 have b3 := box_below W2 (.cells #[.int .i64 0] 33)
 have n3 : (W2.alloc (.cells #[.int .i64 0] 33)).heap[W2.heap.size]? = _ := Go.Deep.blk_alloc_new _ _
 have s3 : (W2.alloc (.cells #[.int .i64 0] 33)).heap.size = w.heap.size + 1 + 1 + 1 := by simp [s2]
 generalize W2.alloc (.cells #[.int .i64 0] 33) = W3 at *
 have b4 := box_below W3 (.cells #[.slice none 0 0] 29)
 have n4 : (W3.alloc (.cells #[.slice none 0 0] 29)).heap[W3.heap.size]? = _ := Go.Deep.blk_alloc_new _ _
 have s4 : (W3.alloc (.cells #[.slice none 0 0] 29)).heap.size = w.heap.size + 4 := by simp [s3]
 generalize W3.alloc (.cells #[.slice none 0 0] 29) = W4 at *
 rw [s1] at n2
 rw [s2] at n3
 rw [s3] at n4
 refine ⟨W4, rfl, ((b1.trans (b2.mono (by omega))).trans (b3.mono (by omega))).trans (b4.mono (by omega)), s4, ?_, ?_, ?_, n4⟩
 ·rw [b4.block _ (by omega), b3.block _ (by omega), b2.block _ (by omega)]; exact n1
 ·rw [b4.block _ (by omega), b3.block _ (by omega)]; exact n2
 ·rw [b4.block _ (by omega)]; exact n3
theorem owns_pr {w : World} {base : Nat} {v : Value} {l : List (Nat × Nat)} (h : w.ownsRow base 86 2 v l.length (pcells l)) :
  ∃ a c, v = .slice a l.length c ∧ Sp w a l.length (nAt l) ∧ (∀ p, a = some p → base ≤ p.block ∧ p.block < w.heap.size ∧ v.ownBlock = some p.block) := by
 rcases h.2 with ⟨rfl, h0⟩ | ⟨g, cap, cur, rfl, hb, hg, _⟩
 ·exact ⟨none, 0, by rw [h0], ⟨0, fun hh => by omega, fun i hi => by omega⟩, fun p hp => by cases hp⟩
 ·refine ⟨some ⟨g, 0, none⟩, cap, rfl, ⟨g, fun _ => rfl, fun i hi => ?_⟩, fun p hp => ?_⟩
  ·obtain ⟨h1, h2⟩ := pcells_at l i hi
   have e1 := h.cells (g := g) rfl _ _ h1
   have e2 := h.cells (g := g) rfl _ _ h2
   rw [Addr.add_mid, Nat.zero_add] at e1 e2
   exact ⟨e1, e2⟩
  ·rw [Option.some.injEq] at hp
   subst hp
   exact ⟨hb, (jq4.1 hg).1, by simp [Value.ownBlock]⟩
theorem owns_row' {w : World} {base n : Nat} {v : Value} {xs : List Value} (h : w.ownsRow base 3 1 v n xs) : ∃ a c, v = .slice a n c ∧ True := by
 rcases h.2 with ⟨rfl, h0⟩ | ⟨g, cap, cur, rfl, hb, hg, _⟩
 ·exact ⟨none, 0, by rw [h0], trivial⟩
 ·exact ⟨_, _, rfl, trivial⟩
theorem Ri.fin {w w1 : World} {rb mb : Nat} {pv : Value} {Q : List (Nat × Nat)} {nums : List Nat} {W X : World} {pv' lv : Value} {D' : DataW Unit} (c : Rcl w w1 rb mb pv) (h : Ri w w1 rb mb pv Q nums W pv' lv D') {Dd : Nat} (hD : w1.heap.size ≤ Dd) {ob : Obj} (hK : W.heap[Dd]? = some ob) (hob : ob.isCells = false) (v u1 u2 : Value)
  (hX : (W.setCell ⟨w.heap.size + 1, 0, none⟩ lv).setCell ⟨w.heap.size + 1 + 1, 0, none⟩ v = X) (y1 : W.cell? ⟨w.heap.size + 1, 0, none⟩ = some u1) (y2 : W.cell? ⟨w.heap.size + 1 + 1, 0, none⟩ = some u2) :
  X.heap[Dd]? = some ob ∧ ∀ W', X.grownBy W' (some Dd) → W'.cell? ⟨w.heap.size + 1, 0, none⟩ = some lv ∧ W'.cell? ⟨w.heap.size + 1 + 1, 0, none⟩ = some v ∧ Rol W' rb mb pv' Q D' ∧ W'.ownsRow w.heap.size 3 1 lv (cs nums).length (vals (cs nums)) ∧ Fr (rex rb mb pv) w W' := by
 have s1 := c.s1
 have c1 := c.rb
 have c2 := c.mb
 have hsz := h.sz
 have g1 := gb_set W ⟨w.heap.size + 1, 0, none⟩ lv
 have g2 := gb_set (W.setCell ⟨w.heap.size + 1, 0, none⟩ lv) ⟨w.heap.size + 1 + 1, 0, none⟩ v
 have k1 : ((W.setCell ⟨w.heap.size + 1, 0, none⟩ lv).setCell ⟨w.heap.size + 1 + 1, 0, none⟩ v).cell? ⟨w.heap.size + 1, 0, none⟩ = some lv := (World.cell?_setCell_other _ _ _ _ (by intro hh; simp only [Addr.mk.injEq] at hh; omega)).trans (World.cell?_setCell_same _ _ _ y1)
 have k2 : ((W.setCell ⟨w.heap.size + 1, 0, none⟩ lv).setCell ⟨w.heap.size + 1 + 1, 0, none⟩ v).cell? ⟨w.heap.size + 1 + 1, 0, none⟩ = some v := World.cell?_setCell_same _ _ _ ((World.cell?_setCell_other _ _ _ _ (by intro hh; simp only [Addr.mk.injEq] at hh; omega)).trans y2)
 have hs1 : (W.setCell ⟨w.heap.size + 1, 0, none⟩ lv).heap.size = W.heap.size := World.size_setCell _ _ _
 have hs2 : ((W.setCell ⟨w.heap.size + 1, 0, none⟩ lv).setCell ⟨w.heap.size + 1 + 1, 0, none⟩ v).heap.size = W.heap.size := by rw [World.size_setCell, World.size_setCell]
 have hbl : ∀ b, b < W.heap.size → b ≠ w.heap.size + 1 → b ≠ w.heap.size + 1 + 1 → ((W.setCell ⟨w.heap.size + 1, 0, none⟩ lv).setCell ⟨w.heap.size + 1 + 1, 0, none⟩ v).heap[b]? = W.heap[b]? := fun b hb h1 h2 =>
  (g2.block b (by rw [hs1]; exact hb) (fun e => h2 (Option.some.inj e))).trans (g1.block b hb (fun e => h1 (Option.some.inj e)))
 have hpv : ∀ b, pv'.ownBlock = some b → b ≠ w.heap.size + 1 ∧ b ≠ w.heap.size + 1 + 1 := fun b hb => by rcases h.pvn c hb with h3 | h3 <;> omega
 have hlv : ∀ b, lv.ownBlock = some b → b ≠ w.heap.size + 1 ∧ b ≠ w.heap.size + 1 + 1 := fun b hb => by have := (h.own.lt b hb).1; omega
 have o1 := owns_kept (owns_kept h.rol.own g1 (fun b hb e => (hpv b hb).1 (Option.some.inj e).symm)) g2 (fun b hb e => (hpv b hb).2 (Option.some.inj e).symm)
 have o2 := owns_kept (owns_kept h.own g1 (fun b hb e => (hlv b hb).1 (Option.some.inj e).symm)) g2 (fun b hb e => (hlv b hb).2 (Option.some.inj e).symm)
 have f1 := (h.fr.setCell (p := ⟨w.heap.size + 1, 0, none⟩) (fun hb => by dsimp only at hb; omega) lv).setCell (p := ⟨w.heap.size + 1 + 1, 0, none⟩) (fun hb => by dsimp only at hb; omega) v
 have hKlt := (jq4.1 hK).1
 rw [hX] at k1 k2 hs2 hbl o1 o2 f1
 have hKX : X.heap[Dd]? = some ob := (hbl Dd hKlt (by omega) (by omega)).trans hK
 refine ⟨hKX, fun W' h3 => ?_⟩
 have hr : ∀ r, some Dd = some r → ∃ o : Obj, X.heap[r]? = some o ∧ o.isCells = false := fun r e => by cases e; exact ⟨_, hKX, hob⟩
 have hcl : ∀ {b : Nat} {cc : Array Value} {e : TypeId} {z : Nat × Nat}, X.heap[b]? = some (.cells cc e z) → some Dd ≠ some b := fun {b cc e z} hb e2 => by
  cases e2
  rw [hKX] at hb
  cases hb
  simp [Obj.isCells] at hob
 refine ⟨cell_kept k1 h3 hr, cell_kept k2 h3 hr, h.rol.of ?_ ?_ (owns_kept o1 h3 (fun b hb => ?_)), owns_mono (owns_kept o2 h3 (fun b hb => ?_)) (by omega), f1.grown h3 (fun b e hb => by cases e; omega)⟩
 ·rw [h3.block rb (by omega) (fun e => by have := Option.some.inj e; omega)]
  exact hbl rb (by omega) (by omega) (by omega)
 ·rw [h3.block mb (by omega) (fun e => by have := Option.some.inj e; omega)]
  exact hbl mb (by omega) (by omega) (by omega)
 ·obtain ⟨cc, z, hc⟩ := owns_blk o1 hb
  exact hcl hc
 ·obtain ⟨cc, z, hc⟩ := owns_blk o2 hb
  exact hcl hc
def RlIs (rb mb : Nat) (pv : Value) (P : List (Nat × Nat)) (all : List Pr) (w : World) (e : Ending) (w' : World) : Prop :=
 ((qp P all).length ≤ 2048 ∧ ∃ lv pv' D', e = .returned (.tuple #[lv, .int .i64 0]) ∧ Rol w' rb mb pv' (qp P all) D' ∧ w'.ownsRow w.heap.size 3 1 lv (cs (nms (qp P all) all)).length (vals (cs (nms (qp P all) all))) ∧ Fr (rex rb mb pv) w w' ∧ (pv'.ownBlock = pv.ownBlock ∨ ∀ b, pv'.ownBlock = some b → w.heap.size ≤ b) ∧ ∀ b, lv.ownBlock = some b → pv'.ownBlock ≠ some b)
 ∨ (2048 < (qp P all).length ∧ e = .returned (.tuple #[.slice none 0 0, .int .i64 2]) ∧ Fr (rex rb mb pv) w w')
end Go.Proofs.YtmdpbaobihdgkaaGreatDoor
