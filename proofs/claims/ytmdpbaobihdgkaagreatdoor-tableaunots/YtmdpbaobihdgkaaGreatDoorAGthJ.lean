/-    -/
import Derived.Test.YtmdpbaobihdgkaaGreatDoorAGth0J
import Derived.Test.YtmdpbaobihdgkaaGreatDoorASrt
import Derived.Test.YtmdpbaobihdgkaaGreatDoorAPtn
/- gather, over the closure 58. -/
/- What Single answers, apart from memory. -/
/- cross: pairs of two lists that go together, handed over one by one. -/
namespace Go.Proofs.YtmdpbaobihdgkaaGreatDoor
open Go.RowKit Go.Shelf Go.Maps
theorem owns_base {W : World} {base c : Nat} {e : TypeId} {size : Nat} {v : Value} {n : Nat} {xs : List Value} (h : W.ownsRow base e size v n xs) (hc : ∀ b, v.ownBlock = some b → c ≤ b) : W.ownsRow c e size v n xs :=
 ⟨h.1, h.2.imp id (fun ⟨g, cap, cur, e1, _, r⟩ => ⟨g, cap, cur, e1, hc g (by rw [e1]; rfl), r⟩)⟩
def GaIs (w : World) (all0 : List Pr) (nx : Nat × Nat → List (Nat × Nat)) (e : Ending) (w' : World) : Prop :=
 (∃ (k : Nat) (sv nv pv : Value) (V : List Value), (gQ nx (all0.map prn) k).length = k ∧ k ≤ 2048 ∧ e = .returned (.tuple #[.agg (two5 sv nv), pv, .int .i64 0]) ∧ Below w.heap.size w w' ∧
  w'.ownsRow w.heap.size 3 1 sv (cs (nms (gQ nx (all0.map prn) k) all0)).length (vals (cs (nms (gQ nx (all0.map prn) k) all0))) ∧ Rws2 w' w.heap.size nv k (fun i => (nx (nAt (gQ nx (all0.map prn) k) i)).map fun p => ix p (gQ nx (all0.map prn) k)) V ∧ w'.ownsRow w.heap.size 86 2 pv k (pcells (gQ nx (all0.map prn) k)))
 ∨ ((∃ k, 2048 < (gQ nx (all0.map prn) k).length) ∧ e = .returned (.tuple #[.agg nil5, .slice none 0 0, .int .i64 2]) ∧ Below w.heap.size w w')
theorem ga_world (w : World) : ∃ W, ((w.alloc (.cells nil5 32)).alloc (.map #[] 0)).alloc (.cells #[.map (some (w.heap.size + 1)), .slice none 0 0] 128) = W ∧ Below w.heap.size w W ∧ W.heap.size = w.heap.size + 3 ∧ Rol W (w.heap.size + 1 + 1) (w.heap.size + 1) (.slice none 0 0) [] (.map []) ∧ W.heap[w.heap.size]? = some (.cells nil5 32) := by
 have b1 := box_below w (.cells nil5 32)
 have n1 : (w.alloc (.cells nil5 32)).heap[w.heap.size]? = _ := Go.Deep.blk_alloc_new _ _
 have s1 : (w.alloc (.cells nil5 32)).heap.size = w.heap.size + 1 := by simp
 generalize w.alloc (.cells nil5 32) = W1 at *
 have b2 := box_below W1 (.map #[] 0)
 have n2 : (W1.alloc (.map #[] 0)).ownsMap Tryz.prog 86 (plainElem Tryz.prog 3) W1.heap.size 0 (DataW.map ([] : List (Lit × DataW Unit))) := World.ownsMap_made _ _ _ _
 have s2 : (W1.alloc (.map #[] 0)).heap.size = w.heap.size + 1 + 1 := by simp [s1]
 generalize W1.alloc (.map #[] 0) = W2 at *
 have b3 := box_below W2 (.cells #[.map (some (w.heap.size + 1)), .slice none 0 0] 128)
 have n3 : (W2.alloc (.cells #[.map (some (w.heap.size + 1)), .slice none 0 0] 128)).heap[W2.heap.size]? = _ := Go.Deep.blk_alloc_new _ _
 have s3 : (W2.alloc (.cells #[.map (some (w.heap.size + 1)), .slice none 0 0] 128)).heap.size = w.heap.size + 3 := by simp [s2]
 generalize W2.alloc (.cells #[.map (some (w.heap.size + 1)), .slice none 0 0] 128) = W3 at *
 rw [s1] at n2
 rw [s2] at n3
 refine ⟨W3, rfl, (b1.trans (b2.mono (by omega))).trans (b3.mono (by omega)), s3, ⟨n3, map_of_block n2 (b3.block _ (by omega)), nmp_start, World.ownsRow_nil _ _ _ _⟩, ?_⟩
 rw [b3.block _ (by omega), b2.block _ (by omega)]; exact n1
theorem five_cells {W : World} {b : Nat} {v0 v1 v2 v3 v4 : Value} (h : W.heap[b]? = some (.cells #[v0, v1, v2, v3, v4] 32)) : (W.cell? ⟨b, 0, none⟩ = some v0 ∧ W.cell? ⟨b, 1, none⟩ = some v1 ∧ W.cell? ⟨b, 2, none⟩ = some v2 ∧ W.cell? ⟨b, 3, none⟩ = some v3 ∧ W.cell? ⟨b, 4, none⟩ = some v4) ∧ ∀ i, W.frozen? ⟨b, i, none⟩ = false :=
 ⟨⟨cell_of_cells h rfl, cell_of_cells h rfl, cell_of_cells h rfl, cell_of_cells h rfl, cell_of_cells h rfl⟩, fun i => by simp [World.frozen?, h]⟩
theorem Ga.fin {w : World} {rb mb ab : Nat} {sv : Value} {all0 : List Pr} {nx : Nat × Nat → List (Nat × Nat)} {k : Nat} {W X : World} {pv nv : Value} {V : List Value} {D : DataW Unit} (h : Ga w rb mb ab sv all0 nx k W pv nv V D) (hk : (gQ nx (all0.map prn) k).length = k) (hb : But w.heap.size W X) : GaIs w all0 nx (.returned (.tuple #[.agg (two5 sv nv), pv, .int .i64 0])) X := by
 have hown : ∀ {base : Nat} {e : TypeId} {size : Nat} {v : Value} {m : Nat} {xs : List Value}, W.ownsRow base e size v m xs → e ≠ 32 → X.ownsRow base e size v m xs := fun {base e size v m xs} h1 h2 => owns_of_blk h1 (fun b e1 => by
  obtain ⟨c, z, h3⟩ := owns_blk h1 e1
  exact hb.block b (jq4.1 h3).1 (fun e2 => by
   rw [e2, h.mem.res] at h3
   cases h3
   exact h2 rfl))
 have hpo := h.rol.own
 rw [hk] at hpo
 refine Or.inl ⟨k, sv, nv, pv, V, hk, by have := h.l2; omega, rfl, h.mem.low.trans (hb.below jq0 h.mem.low.size), hown h.mem.sta (by decide), ⟨hown h.mem.rws.top (by decide), fun i hi => ?_⟩, owns_base (hown hpo (by decide)) h.pvb⟩
 obtain ⟨v, h1, h2⟩ := h.mem.rws.row i hi
 exact ⟨v, h1, hown h2 (by decide)⟩
theorem owns_sl {w : World} {base n : Nat} {e : TypeId} {size : Nat} {v : Value} {xs : List Value} (h : w.ownsRow base e size v n xs) : ∃ a c, v = .slice a n c := by
 rcases h.2 with ⟨rfl, h0⟩ | ⟨g, cap, cur, rfl, hb, hg, _⟩
 ·exact ⟨none, 0, by rw [h0]⟩
 ·exact ⟨_, _, rfl⟩
theorem set5 {W X : World} {b : Nat} {v0 v1 v2 v3 v4 : Value} (u0 u1 u2 u3 u4 : Value) (h : W.heap[b]? = some (.cells #[v0, v1, v2, v3, v4] 32)) (hX : (((((W.setCell ⟨b, 0, none⟩ u0).setCell ⟨b, 1, none⟩ u1).setCell ⟨b, 2, none⟩ u2).setCell ⟨b, 3, none⟩ u3).setCell ⟨b, 4, none⟩ u4) = X) : X.heap[b]? = some (.cells #[u0, u1, u2, u3, u4] 32) ∧ But b W X := by
 subst hX
 refine ⟨?_, (((((But.refl b W).setCell 0 u0).setCell 1 u1).setCell 2 u2).setCell 3 u3).setCell 4 u4⟩
 have e := blk_setCell (i := 4) (v := u4) (blk_setCell (i := 3) (v := u3) (blk_setCell (i := 2) (v := u2) (blk_setCell (i := 1) (v := u1) (blk_setCell (i := 0) (v := u0) h))))
 simpa using e
end Go.Proofs.YtmdpbaobihdgkaaGreatDoor
namespace Go.Proofs.YtmdpbaobihdgkaaGreatDoor
open Go.RowKit
def aSt (A : Ax) : List Nat := onN A.S A.sn
def aNx (A : Ax) (x : Nat) : List Nat := if x < A.G then onN (A.Z x) (A.L x) else []
def aFr (A : Ax) (k x : Nat) : Bool := has (A.FL k) (A.FZ k) (x : Int)
def mkPr (p : Nat × Nat) : Pr := (⟨p.1 % 4096, Nat.mod_lt _ (by decide)⟩, ⟨p.2 % 4096, Nat.mod_lt _ (by decide)⟩)
theorem prn_mk {p : Nat × Nat} (h : Sml p) : prn (mkPr p) = p := by
 obtain ⟨a, b⟩ := p
 obtain ⟨h1, h2⟩ := h
 show (a % 4096, b % 4096) = (a, b)
 rw [Nat.mod_eq_of_lt h1, Nat.mod_eq_of_lt h2]
theorem prn_mks {l : List (Nat × Nat)} (h : ∀ p ∈ l, Sml p) : (l.map mkPr).map prn = l := by
 rw [List.map_map]
 conv => rhs; rw [← List.map_id l]
 exact List.map_congr_left (fun p hp => prn_mk (h p hp))
theorem mem_aSt {A : Ax} (h : chkA A = 0) {x : Nat} : x ∈ aSt A ↔ has A.sn A.S x = true := by
 obtain ⟨_, _, _, _, h1, _⟩ := chkA_ok h
 unfold aSt has
 rw [mem_onN, decide_eq_true_eq]
 constructor
 ·rintro ⟨i, hi, e⟩; have := h1 i hi; exact ⟨i, hi, by omega⟩
 ·rintro ⟨i, hi, e⟩; exact ⟨i, hi, by omega⟩
theorem aNx_is {A : Ax} {q : Nat} (hq : q < A.G) : aNx A q = onN (A.Z q) (A.L q) := if_pos hq
theorem mem_aNx {A : Ax} (h : chkA A = 0) {q x : Nat} : x ∈ aNx A q ↔ q < A.G ∧ has (A.L q) (A.Z q) x = true := by
 obtain ⟨_, _, _, _, _, h1, _⟩ := chkA_ok h
 by_cases hq : q < A.G
 ·rw [aNx_is hq]
  unfold has
  rw [mem_onN, decide_eq_true_eq]
  constructor
  ·rintro ⟨i, hi, e⟩; have := h1 q hq i hi; exact ⟨hq, i, hi, by omega⟩
  ·rintro ⟨_, i, hi, e⟩; exact ⟨i, hi, by omega⟩
 ·unfold aNx
  rw [if_neg hq]
  exact ⟨fun h => (by cases h), fun h => absurd h.1 hq⟩
theorem aSt_lt {A : Ax} (h : chkA A = 0) {x : Nat} (hx : x ∈ aSt A) : x < A.G := by
 obtain ⟨_, _, _, _, h1, _⟩ := chkA_ok h
 obtain ⟨i, hi, rfl⟩ := mem_onN.1 hx
 have := h1 i hi
 omega
theorem aNx_lt {A : Ax} (h : chkA A = 0) {q x : Nat} (hq : q < A.G) (hx : x ∈ aNx A q) : x < A.G := by
 obtain ⟨_, _, _, _, _, h1, _⟩ := chkA_ok h
 rw [aNx_is hq] at hx
 obtain ⟨i, hi, rfl⟩ := mem_onN.1 hx
 have := h1 q hq i hi
 omega
def whN (P : Nat → Bool) (k : Nat) : List Nat := (List.range k).filter fun i => P i
theorem whN_succ (P : Nat → Bool) (k : Nat) : whN P (k + 1) = if P k = true then whN P k ++ [k] else whN P k := by
 unfold whN
 rw [List.range_succ, List.filter_append]
 by_cases h : P k = true
 ·rw [if_pos h]; simp [h]
 ·rw [if_neg h]; simp [h]
theorem mem_whN {P : Nat → Bool} {k i : Nat} : i ∈ whN P k ↔ i < k ∧ P i = true := by
 unfold whN
 rw [List.mem_filter, List.mem_range]
theorem whN_len (P : Nat → Bool) (k : Nat) : (whN P k).length ≤ k := by
 unfold whN
 have := List.length_filter_le (fun i => P i) (List.range k)
 simpa using this
theorem has_list {l : List Nat} {n : Nat} (hn : n = l.length) {x : Nat} : has n (fun i => ((l.getD i 0 : Nat) : Int)) (x : Int) = true ↔ x ∈ l := by
 subst hn
 unfold has
 rw [decide_eq_true_eq, List.mem_iff_getElem?]
 constructor
 ·rintro ⟨i, hi, e⟩
  refine ⟨i, ?_⟩
  have e2 : ((l.getD i 0 : Nat) : Int) = (x : Int) := e
  rw [List.getD_eq_getElem?_getD, List.getElem?_eq_getElem hi] at e2
  rw [List.getElem?_eq_getElem hi]
  have : l[i] = x := by simp at e2; omega
  rw [this]
 ·rintro ⟨i, e⟩
  have hi := (List.getElem?_eq_some_iff.1 e).1
  exact ⟨i, hi, by show ((l.getD i 0 : Nat) : Int) = (x : Int); rw [List.getD_eq_getElem?_getD, e]; rfl⟩
theorem in_list {l : List Nat} {n G : Nat} (hn : n = l.length) (h : ∀ x ∈ l, x < G) : allIn n (fun i => ((l.getD i 0 : Nat) : Int)) G = true := by
 subst hn
 refine allIn_yes (fun i hi => ?_)
 have := h _ (List.getElem_mem hi)
 rw [List.getD_eq_getElem?_getD, List.getElem?_eq_getElem hi]
 simp
 omega
end Go.Proofs.YtmdpbaobihdgkaaGreatDoor
namespace Go.Proofs.YtmdpbaobihdgkaaGreatDoor
open Go.RowKit Go.Shelf
attribute [local go_sem] Oper.semAt_some
def crP (ok : Nat → Nat → Bool) (fs ss : List Nat) : List Pr := (crs ok fs ss).map mkPr
def cPI (ok : Nat → Nat → Bool) (fs ss : List Nat) (i : Nat) : List Pr := crP ok (fs.take i) ss
def cPJ (ok : Nat → Nat → Bool) (fs ss : List Nat) (i x j : Nat) : List Pr := cPI ok fs ss i ++ ((ss.filter fun y => ok x y).take j).map fun y => mkPr (x, y)
theorem crP_app (ok : Nat → Nat → Bool) (fs gs ss : List Nat) : crP ok (fs ++ gs) ss = crP ok fs ss ++ crP ok gs ss := by
 simp [crP, crs, List.flatMap_append]
theorem cPI_all (ok : Nat → Nat → Bool) (fs ss : List Nat) : cPI ok fs ss fs.length = crP ok fs ss := by simp [cPI]
theorem cPI_pre (ok : Nat → Nat → Bool) (fs ss : List Nat) (i : Nat) : cPI ok fs ss i <+: crP ok fs ss := by
 conv => rhs; rw [← List.take_append_drop i fs, crP_app]
 exact List.prefix_append _ _
theorem cPI_succ {ok : Nat → Nat → Bool} {fs ss : List Nat} {i x : Nat} (h : fs[i]? = some x) : cPI ok fs ss (i + 1) = cPI ok fs ss i ++ (ss.filter fun y => ok x y).map fun y => mkPr (x, y) := by
 unfold cPI
 rw [List.take_add_one, h, crP_app]
 simp [crP, crs]
theorem cPJ_zero (ok : Nat → Nat → Bool) (fs ss : List Nat) (i x : Nat) : cPJ ok fs ss i x 0 = cPI ok fs ss i := by simp [cPJ]
theorem cPJ_full {ok : Nat → Nat → Bool} {fs ss : List Nat} {i x j : Nat} (h : fs[i]? = some x) (hj : j = (ss.filter fun y => ok x y).length) : cPJ ok fs ss i x j = cPI ok fs ss (i + 1) := by
 rw [cPI_succ h, cPJ, hj, List.take_length]
theorem cPJ_snoc {ok : Nat → Nat → Bool} {fs ss : List Nat} {i x j y : Nat} (hj : (ss.filter fun y => ok x y)[j]? = some y) : cPJ ok fs ss i x j ++ [mkPr (x, y)] = cPJ ok fs ss i x (j + 1) := by
 unfold cPJ
 rw [List.take_add_one, hj, List.append_assoc]
 simp
theorem cPJ_pre {ok : Nat → Nat → Bool} {fs ss : List Nat} {i x : Nat} (h : fs[i]? = some x) (j : Nat) : cPJ ok fs ss i x j <+: crP ok fs ss := by
 refine List.IsPrefix.trans ?_ (cPI_pre ok fs ss (i + 1))
 rw [cPI_succ h]
 unfold cPJ
 rw [List.prefix_append_right_inj]
 obtain ⟨r, hr⟩ := List.take_prefix j (ss.filter fun y => ok x y)
 refine ⟨r.map fun y => mkPr (x, y), ?_⟩
 rw [← List.map_append, hr]
structure Crw (J : List Pr → (Nat → Prop) → World → Prop) (bs : Nat → Prop) (ss : List Nat) (Ba Bp : Nat) (X : Nat → Nat) (W0 : World) (pre : List Pr) (D : Nat → Prop) (wr : World) : Prop where
 j : J pre D wr
 d : ∀ b, D b → W0.heap.size ≤ b ∧ b < wr.heap.size
 sz : W0.heap.size ≤ wr.heap.size
 old : ∀ b, bs b → wr.heap[b]? = W0.heap[b]?
 amo : Bx wr Ba X
 pla : ∀ i, i < ss.length → wr.cell? ⟨Bp, ss.getD i 0, none⟩ = some (.int .i64 (i : Nat))
 na : W0.heap.size ≤ Ba ∧ ¬ D Ba
 np : W0.heap.size ≤ Bp ∧ Bp < wr.heap.size ∧ ¬ D Bp
theorem Crw.own {J : List Pr → (Nat → Prop) → World → Prop} {bs : Nat → Prop} {ss : List Nat} {Ba Bp : Nat} {X : Nat → Nat} {W0 : World} {pre : List Pr} {D : Nat → Prop} {wr wr' : World} (h : Crw J bs ss Ba Bp X W0 pre D wr) (hJ : Stb W0.heap.size J) (hbs : ∀ b, bs b → b < W0.heap.size)
  (hb : Below wr.heap.size wr wr') : Crw J bs ss Ba Bp X W0 pre D wr' :=
 ⟨hJ _ _ _ _ h.j (Fr.of_below hb), fun b hd => ⟨(h.d b hd).1, Nat.lt_of_lt_of_le (h.d b hd).2 hb.size⟩, Nat.le_trans h.sz hb.size, fun b hx => (hb.block b (Nat.lt_of_lt_of_le (hbs b hx) h.sz)).trans (h.old b hx), h.amo.below hb (bx_lt h.amo), fun i hi => below_cell hb jq0 (h.pla i hi), h.na, ⟨h.np.1, Nat.lt_of_lt_of_le h.np.2.1 hb.size, h.np.2.2⟩⟩
theorem Crw.yield {J : List Pr → (Nat → Prop) → World → Prop} {bs : Nat → Prop} {ss : List Nat} {Ba Bp : Nat} {X : Nat → Nat} {W0 : World} {pre pre' : List Pr} {D : Nat → Prop} {wr wr' : World} (h : Crw J bs ss Ba Bp X W0 pre D wr) (hbs : ∀ b, bs b → b < W0.heap.size)
  (hf : Fr (fun b => (b < W0.heap.size ∧ ¬ bs b) ∨ D b) wr wr') (hj : J pre' (grew D wr wr') wr') : Crw J bs ss Ba Bp X W0 pre' (grew D wr wr') wr' := by
 have hlA := bx_lt h.amo
 have hlP := h.np.2.1
 have kA : wr'.heap[Ba]? = wr.heap[Ba]? := hf.block Ba hlA (fun hx => hx.elim (fun h1 => by have := h.na.1; omega) h.na.2)
 have kP : wr'.heap[Bp]? = wr.heap[Bp]? := hf.block Bp hlP (fun hx => hx.elim (fun h1 => by have := h.np.1; omega) h.np.2.2)
 refine ⟨hj, fun b hd => ?_, Nat.le_trans h.sz hf.size, fun b hx => ?_, ⟨kA.trans h.amo.blk, h.amo.small⟩, fun i hi => (World.cell?_of_block (w := wr) kP).trans (h.pla i hi), ⟨h.na.1, fun hd => ?_⟩, ⟨h.np.1, Nat.lt_of_lt_of_le hlP hf.size, fun hd => ?_⟩⟩
 ·rcases hd with hd | hd
  ·exact ⟨(h.d b hd).1, Nat.lt_of_lt_of_le (h.d b hd).2 hf.size⟩
  ·exact ⟨Nat.le_trans h.sz hd.1, hd.2⟩
 ·have hl := hbs b hx
  refine (hf.block b (Nat.lt_of_lt_of_le hl h.sz) (fun hy => hy.elim (fun h1 => h1.2 hx) (fun h1 => ?_))).trans (h.old b hx)
  have := (h.d b h1).1
  omega
 ·rcases hd with hd | hd
  ·exact h.na.2 hd
  ·omega
 ·rcases hd with hd | hd
  ·exact h.np.2.2 hd
  ·omega
structure Cap (bs : Nat → Prop) (Bs Bf Bw sb so fb fo wb G : Nat) (sa fa : Option Addr) (sc fc wc : Nat) (fs ss : List Nat) (F : Nat → Nat → Nat) (w : World) : Prop where
 cs : w.cell? ⟨Bs, 0, none⟩ = some (.slice sa ss.length sc)
 cf : w.cell? ⟨Bf, 0, none⟩ = some (.slice fa fs.length fc)
 cw : w.cell? ⟨Bw, 0, none⟩ = some (.slice (some ⟨wb, 0, none⟩) G wc)
 sa : 0 < ss.length → sa = some ⟨sb, so, none⟩
 sr : ∀ i, i < ss.length → w.cell? ⟨sb, so + i, none⟩ = some (.int .i64 ((ss.getD i 0 : Nat) : Int))
 fa : 0 < fs.length → fa = some ⟨fb, fo, none⟩
 fr : ∀ i, i < fs.length → w.cell? ⟨fb, fo + i, none⟩ = some (.int .i64 ((fs.getD i 0 : Nat) : Int))
 wl : Ls w wb G F
 tb : Tb w
 b1 : bs Bs ∧ bs Bf ∧ bs Bw ∧ bs 0
 b2 : (0 < ss.length → bs sb) ∧ (0 < fs.length → bs fb) ∧ (0 < G → bs wb)
theorem Cap.of {bs : Nat → Prop} {Bs Bf Bw sb so fb fo wb G : Nat} {sa fa : Option Addr} {sc fc wc : Nat} {fs ss : List Nat} {F : Nat → Nat → Nat} {w w' : World} (h : Cap bs Bs Bf Bw sb so fb fo wb G sa fa sc fc wc fs ss F w) (hb : ∀ b, bs b → w'.heap[b]? = w.heap[b]?) : Cap bs Bs Bf Bw sb so fb fo wb G sa fa sc fc wc fs ss F w' :=
 ⟨(World.cell?_of_block (w := w) (hb _ h.b1.1)).trans h.cs, (World.cell?_of_block (w := w) (hb _ h.b1.2.1)).trans h.cf, (World.cell?_of_block (w := w) (hb _ h.b1.2.2.1)).trans h.cw, h.sa,
  fun i hi => (World.cell?_of_block (w := w) (hb _ (h.b2.1 (by omega)))).trans (h.sr i hi), h.fa, fun i hi => (World.cell?_of_block (w := w) (hb _ (h.b2.2.1 (by omega)))).trans (h.fr i hi),
  fun i hi => (h.wl i hi).of_block (hb _ (h.b2.2.2 (by omega))), fun j hj => (World.cell?_of_block (w := w) (a := ⟨0, j, none⟩) (hb 0 h.b1.2.2.2)).trans (h.tb j hj), h.b1, h.b2⟩
def a_Pl (w : World) (Bp : Nat) (f : Nat → Nat) : Prop := ∀ x, x < 2048 → w.cell? ⟨Bp, x, none⟩ = some (.int .i64 ((f x : Nat) : Int)) ∧ w.frozen? ⟨Bp, x, none⟩ = false
theorem zerosN : Tryz.zeroCells131 = Array.replicate 2048 (.int .i64 0) := by kernel_rfl
theorem pl_new (w : World) : a_Pl (w.alloc (.cells Tryz.zeroCells131 131)) w.heap.size (fun _ => 0) := fun x hx => by
 have hb : (w.alloc (.cells Tryz.zeroCells131 131)).heap[w.heap.size]? = some (.cells Tryz.zeroCells131 131) := Go.Deep.blk_alloc_new _ _
 refine ⟨cell_of_cells hb ?_, by unfold World.frozen?; rw [hb]; simp⟩
 rw [zerosN, Array.getElem?_replicate, if_pos hx]
 rfl
theorem a_Pl.set {w : World} {Bp : Nat} {f : Nat → Nat} (h : a_Pl w Bp f) {s v : Nat} (hs : s < 2048) : a_Pl (w.setCell ⟨Bp, s, none⟩ (.int .i64 ((v : Nat) : Int))) Bp (upd f s v) := fun x hx => by
 refine ⟨?_, by rw [World.frozen?_setCell]; exact (h x hx).2⟩
 unfold upd
 by_cases e : x = s
 ·subst e
  rw [if_pos rfl]
  exact World.cell?_setCell_same _ _ _ (h x hx).1
 ·rw [if_neg e, World.cell?_setCell_other _ _ _ _ (by intro hh; simp only [Addr.mk.injEq] at hh; omega)]
  exact (h x hx).1
end Go.Proofs.YtmdpbaobihdgkaaGreatDoor
