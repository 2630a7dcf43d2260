/- Single: what it has in memory. -/
import Derived.Test.YtdncjikmknkkpaaDoorSgx
import Derived.Test.YtdncjikmknkkpaaDoorApp
import Derived.Deep.AppendLies
namespace Go.Proofs.YtdncjikmknkkpaaDoor
open Go.RowKit Go.Shelf Go.Maps

/-- Words of 64 bits as cells. -/
def vu (M : Nat → Nat) (j : Nat) : List Value := (List.range j).map fun i => .int .u64 ((M i : Nat) : Int)
theorem vu_succ (M : Nat → Nat) (j : Nat) : vu M (j + 1) = vu M j ++ [.int .u64 ((M j : Nat) : Int)] := by simp [vu, List.range_succ]
theorem vu_len (M : Nat → Nat) (j : Nat) : (vu M j).length = j := by simp [vu]

theorem owns_rowU {w : World} {base : Nat} {v : Value} {M : Nat → Nat} {n : Nat} (h : w.ownsRow base 51 1 v n (vu M n)) : ∃ a c, v = .slice a n c ∧ RowU w a n (fun i => ((M i : Nat) : Int)) := by
  rcases h.2 with ⟨rfl, h0⟩ | ⟨g, cap, cur, rfl, hb, hg, _⟩
  · exact ⟨none, 0, by rw [h0], 0, 0, fun hh => by omega, fun i hi => by omega⟩
  · refine ⟨some ⟨g, 0, none⟩, cap, rfl, g, 0, fun _ => rfl, fun i hi => ?_⟩
    have := h.cells (g := g) rfl i (.int .u64 ((M i : Nat) : Int)) (by simp [vu, hi])
    rwa [Addr.add_mid] at this

/-- What Single answers. -/
def SiIs (w : World) (A : Ax) (e : Ending) (w' : World) : Prop :=
  (chkA A ≠ 0 ∧ e = .returned (.tuple #[.agg nil5, .int .i64 (chkA A)]) ∧ Below w.heap.size w w') ∨
  (chkA A = 0 ∧ (∃ k, 2048 < (sgL A k).length) ∧ e = .returned (.tuple #[.agg nil5, .int .i64 2]) ∧ Below w.heap.size w w') ∨
  (chkA A = 0 ∧ ∃ (k : Nat) (sv nv mv ov gv : Value) (g : Nat) (V : List Value), (sgL A k).length = k ∧ k ≤ 2048 ∧ e = .returned (.tuple #[.agg #[sv, nv, mv, ov, .slice (some ⟨g, 0, none⟩) 1 1], .int .i64 0]) ∧ Below w.heap.size w w' ∧
    w'.ownsRow w.heap.size 3 1 sv (cs ((sgS A).map fun p => ix p (sgL A k))).length (vals (cs ((sgS A).map fun p => ix p (sgL A k)))) ∧
    Rws2 w' w.heap.size nv k (fun i => (sgX A (nAt (sgL A k) i)).map fun p => ix p (sgL A k)) V ∧
    w'.ownsRow w.heap.size 51 1 mv k (vu (fun i => A.Mu (nAt (sgL A k) i).1) k) ∧ w'.ownsRow w.heap.size 51 1 ov k (vu (fun i => A.No (nAt (sgL A k) i).1) k) ∧
    w.heap.size ≤ g ∧ w'.cell? ⟨g, 0, none⟩ = some gv ∧ w'.ownsRow w.heap.size 3 1 gv (cs (whN (fun i => sgF A (nAt (sgL A k) i)) k)).length (vals (cs (whN (fun i => sgF A (nAt (sgL A k) i)) k))))

/-- What gather answers to Single. -/
def GaS (w : World) (A : Ax) (e : Ending) (w' : World) : Prop :=
  (∃ (k : Nat) (sv nv : Value) (pa : Option Addr) (pc : Nat) (V : List Value), e = .returned (.tuple #[.agg (two5 sv nv), .slice pa k pc, .int .i64 0]) ∧ Hid ((sgL A k).length = k ∧ k ≤ 2048 ∧ Below w.heap.size w w' ∧
    w'.ownsRow w.heap.size 3 1 sv (cs ((sgS A).map fun p => ix p (sgL A k))).length (vals (cs ((sgS A).map fun p => ix p (sgL A k)))) ∧
    Rws2 w' w.heap.size nv k (fun i => (sgX A (nAt (sgL A k) i)).map fun p => ix p (sgL A k)) V ∧ Sp w' pa k (nAt (sgL A k))))
  ∨ (e = .returned (.tuple #[.agg nil5, .slice none 0 0, .int .i64 2]) ∧ Hid ((∃ k, 2048 < (sgL A k).length) ∧ Below w.heap.size w w'))

theorem gas_of {w : World} {A : Ax} {e : Ending} {w' : World} (h0 : chkA A = 0) (h : GaIs w ((sgS A).map mkPr) (sgX A) e w') : GaS w A e w' := by
  have hm : ((sgS A).map mkPr).map prn = sgS A := prn_mks (fun p hp => sgP_sml h0 (sgP_start h0 p hp))
  have hn : ∀ Q, nms Q ((sgS A).map mkPr) = (sgS A).map fun p => ix p Q := fun Q => by
    unfold nms
    rw [List.map_map]
    exact List.map_congr_left (fun p hp => by show ix (prn (mkPr p)) Q = ix p Q; rw [prn_mk (sgP_sml h0 (sgP_start h0 p hp))])
  unfold GaIs at h
  rw [hm] at h
  rcases h with ⟨k, sv, nv, pv, V, h1, h2, rfl, h3, h4, h5, h6⟩ | ⟨h1, rfl, h2⟩
  · rw [hn] at h4
    have h1' : (sgL A k).length = k := h1
    have h6' : w'.ownsRow w.heap.size 79 2 pv (sgL A k).length (pcells (sgL A k)) := by rw [h1']; exact h6
    obtain ⟨a, c, rfl, h7, _⟩ := owns_pr h6'
    rw [h1'] at h7 ⊢
    exact Or.inl ⟨k, sv, nv, a, c, V, rfl, hid ⟨h1', h2, h3, h4, h5, h7⟩⟩
  · exact Or.inr ⟨rfl, hid ⟨h1, h2⟩⟩

/-- The variables of Single at its start. -/
theorem sg_world (w : World) (A : Ax) : ∃ W, (w.alloc (.cells #[.slice A.sa A.sn A.sc, .slice A.na A.G A.nc, .slice A.ma A.M A.mc, .slice A.oa A.O A.oc, .slice A.fa A.K A.fc] 26)).alloc (.cells nil5 26) = W ∧
    Below w.heap.size w W ∧ W.heap.size = w.heap.size + 2 ∧ Bo W w.heap.size A ∧ W.heap[w.heap.size + 1]? = some (.cells nil5 26) := by
  have h1 : Bo (w.alloc (.cells #[.slice A.sa A.sn A.sc, .slice A.na A.G A.nc, .slice A.ma A.M A.mc, .slice A.oa A.O A.oc, .slice A.fa A.K A.fc] 26)) w.heap.size A := ⟨cell_of_alloc rfl, cell_of_alloc rfl, cell_of_alloc rfl, cell_of_alloc rfl, cell_of_alloc rfl⟩
  have b1 := box_below w (.cells #[.slice A.sa A.sn A.sc, .slice A.na A.G A.nc, .slice A.ma A.M A.mc, .slice A.oa A.O A.oc, .slice A.fa A.K A.fc] 26)
  have s1 : (w.alloc (.cells #[.slice A.sa A.sn A.sc, .slice A.na A.G A.nc, .slice A.ma A.M A.mc, .slice A.oa A.O A.oc, .slice A.fa A.K A.fc] 26)).heap.size = w.heap.size + 1 := by simp
  generalize w.alloc (.cells #[.slice A.sa A.sn A.sc, .slice A.na A.G A.nc, .slice A.ma A.M A.mc, .slice A.oa A.O A.oc, .slice A.fa A.K A.fc] 26) = W1 at *
  have b2 := box_below W1 (.cells nil5 26)
  have c0 : (W1.alloc (.cells nil5 26)).heap[W1.heap.size]? = some (.cells nil5 26) := Go.Deep.blk_alloc_new _ _
  rw [s1] at c0
  exact ⟨_, rfl, b1.trans (b2.mono (by omega)), by simp [s1], h1.below b2, c0⟩

/-- All that Single has ahead of next. -/
structure S5 (w : World) (A : Ax) (B5 fb fn fc : Nat) (F : Nat → Nat → Nat) (W : World) : Prop where
  low : Below w.heap.size w W
  bo : Bo W w.heap.size A
  res : W.heap[w.heap.size + 1]? = some (.cells nil5 26)
  bf : W.cell? ⟨B5, 0, none⟩ = some (.slice (some ⟨fb, 0, none⟩) fn fc)
  ls : Ls W fb fn F
  hn : fn = if A.K = 0 then 1 else A.K
  mf : ∀ k x, k < fn → x < A.G → mem (F k) x = (decide (A.K = 0) || aFr A k x)

theorem S5.below {w : World} {A : Ax} {B5 fb fn fc : Nat} {F : Nat → Nat → Nat} {W W' : World} (h : S5 w A B5 fb fn fc F W) (hb : Below W.heap.size W W') : S5 w A B5 fb fn fc F W' :=
  ⟨h.low.trans (hb.mono h.low.size), h.bo.below hb, (hb.block _ (Array.getElem?_eq_some_iff.1 h.res).1).trans h.res, below_cell hb (Nat.le_refl _) h.bf, h.ls.below' hb, h.hn, h.mf⟩

theorem mem_ofL' {A : Ax} (h0 : chkA A = 0) {k x : Nat} (hk : k < A.K) : mem (ofL (A.FZ k) (A.FL k)) x = aFr A k x := by
  obtain ⟨hG, _, _, _, _, _, h1, _⟩ := chkA_ok h0
  exact mem_ofL x (fun i hi => by have := h1 k hk i hi; omega)

/-- .. with fair sets. -/
theorem s5_some {w : World} {A : Ax} {w2 w3 : World} (h0 : chkA A = 0) (hK : A.K ≠ 0) (h : Below w.heap.size w w2) (hbo : Bo w2 w.heap.size A) (hres : w2.heap[w.heap.size + 1]? = some (.cells nil5 26)) (hb3 : Below w2.heap.size w2 w3) (hls : Ls w3 w2.heap.size A.K (fun r => ofL (A.FZ r) (A.FL r))) :
    S5 w A w3.heap.size w2.heap.size A.K A.K (fun r => ofL (A.FZ r) (A.FL r)) (w3.alloc (.cells #[.slice (some ⟨w2.heap.size, 0, none⟩) A.K A.K] 47)) := by
  have hbx := box_below w3 (.cells #[.slice (some ⟨w2.heap.size, 0, none⟩) A.K A.K] 47)
  have hb : Below w2.heap.size w2 (w3.alloc (.cells #[.slice (some ⟨w2.heap.size, 0, none⟩) A.K A.K] 47)) := hb3.trans (hbx.mono hb3.size)
  exact ⟨h.trans (hb.mono h.size), hbo.below hb, (hb.block _ (Array.getElem?_eq_some_iff.1 hres).1).trans hres, cell_of_alloc rfl, hls.below' hbx, by rw [if_neg hK], fun k x hk hx => by rw [mem_ofL' h0 hk]; simp [hK]⟩

theorem foldS9 (x : Nat → Nat) : Array.foldl (fun (cs : Array Value) (y : Value × Nat) => cs.setIfInBounds y.2 y.1) #[.int .u64 0, .int .u64 0, .int .u64 0, .int .u64 0, .int .u64 0, .int .u64 0, .int .u64 0, .int .u64 0, .int .u64 0, .int .u64 0, .int .u64 0, .int .u64 0, .int .u64 0, .int .u64 0, .int .u64 0, .int .u64 0, .int .u64 0, .int .u64 0, .int .u64 0, .int .u64 0, .int .u64 0, .int .u64 0, .int .u64 0, .int .u64 0, .int .u64 0, .int .u64 0, .int .u64 0, .int .u64 0, .int .u64 0, .int .u64 0, .int .u64 0, .int .u64 0] (cellsS x).zipIdx 0 (cellsS x).size = cellsS x := foldS x _ rfl

/-- .. with none. -/
theorem s5_none {w : World} {A : Ax} {w2 w3 w5 : World} {fc : Nat} {z0 : Value} (h0 : chkA A = 0) (hK : A.K = 0) (h : Below w.heap.size w w2) (hbo : Bo w2 w.heap.size A) (hres : w2.heap[w.heap.size + 1]? = some (.cells nil5 26)) (hb3 : Below w2.heap.size w2 w3) (hb5 : Below (w3.heap.size + 1) (w3.alloc (.cells #[z0] 47)) w5) :
    S5 w A w3.heap.size w5.heap.size 1 fc (fun _ => allN A.G) ((w5.setCell ⟨w3.heap.size, 0, none⟩ (.slice (some ⟨w5.heap.size, 0, none⟩) 1 fc)).alloc (.cells (cellsS (allN A.G)) 53)) := by
  obtain ⟨hG, _⟩ := chkA_ok h0
  have hs0 : (w3.alloc (.cells #[z0] 47)).heap.size = w3.heap.size + 1 := by simp
  have hbl : (w3.alloc (.cells #[z0] 47)).heap[w3.heap.size]? = some (.cells #[z0] 47) := Go.Deep.blk_alloc_new _ _
  have hs5 := hb5.size
  rw [hs0] at hs5
  have hB5 : w5.heap[w3.heap.size]? = some (.cells #[z0] 47) := by rw [hb5.block _ (by omega)]; exact hbl
  have h25 : Below w2.heap.size w2 w5 := (hb3.trans ((box_below w3 (.cells #[z0] 47)).mono hb3.size)).trans (hb5.mono (by have := hb3.size; omega))
  have hsY : (w5.setCell ⟨w3.heap.size, 0, none⟩ (.slice (some ⟨w5.heap.size, 0, none⟩) 1 fc)).heap.size = w5.heap.size := by simp
  have hBY := blk_setCell (i := 0) (v := .slice (some ⟨w5.heap.size, 0, none⟩) 1 fc) hB5
  have h2Y : Below w2.heap.size w2 (w5.setCell ⟨w3.heap.size, 0, none⟩ (.slice (some ⟨w5.heap.size, 0, none⟩) 1 fc)) := h25.setCell hb3.size _
  generalize w5.setCell ⟨w3.heap.size, 0, none⟩ (.slice (some ⟨w5.heap.size, 0, none⟩) 1 fc) = Y at *
  have hbx := box_below Y (.cells (cellsS (allN A.G)) 53)
  have hst := bx_new Y (allN A.G) (allN_small hG)
  rw [hsY] at hst
  have h2X : Below w2.heap.size w2 (Y.alloc (.cells (cellsS (allN A.G)) 53)) := h2Y.trans (hbx.mono (by have := hb3.size; omega))
  refine ⟨h.trans (h2X.mono h.size), hbo.below h2X, (h2X.block _ (Array.getElem?_eq_some_iff.1 hres).1).trans hres, below_cell hbx (Nat.le_refl _) (cell_of_cells hBY rfl), fun i hi => ?_, by rw [if_pos hK], fun k x _ hx => by rw [mem_allN]; simp [hK, hx]⟩
  obtain rfl : i = 0 := by omega
  rw [Nat.zero_mul]
  exact hst.st

/-- The closures' memory. -/
theorem sgm_of {w : World} {A : Ax} {B5 fb fn fc : Nat} {F : Nat → Nat → Nat} {V : Nat → Value} {W W7 : World} (h0 : chkA A = 0) (h : S5 w A B5 fb fn fc F W) (hF : Fam W W7 A.G (fun r => cs (onN (A.Z r) (A.L r))) V) :
    Sgm A B5 W7.heap.size fb fn fc W.heap.size A.G F V (W7.alloc (.cells #[.slice (some ⟨W.heap.size, 0, none⟩) A.G A.G] 23)) := by
  have hbx := box_below W7 (.cells #[.slice (some ⟨W.heap.size, 0, none⟩) A.G A.G] 23)
  have h7 := (h.below hF.below).below hbx
  exact ⟨h7.bf, cell_of_alloc rfl, h7.ls, h7.hn, h7.mf, fun x hx => ⟨below_cell hbx (Nat.le_refl _) (hF.top.cell hx), by rw [aNx_is hx]; exact owns_below (owns_mono (hF.own x hx) (Nat.zero_le _)) hbx⟩, h0⟩

/-- While Must and Not are made. -/
structure Lq (w0 : World) (sv nv mv ov : Value) (M N : Nat → Nat) (jm jo : Nat) (W : World) : Prop where
  aut : W.heap[w0.heap.size]? = some (.cells #[sv, nv, mv, ov, .slice none 0 0] 26)
  ms : W.ownsRow w0.heap.size 51 1 mv jm (vu M jm)
  os : W.ownsRow w0.heap.size 51 1 ov jo (vu N jo)
  low : Below w0.heap.size w0 W
  ap : ∀ b, mv.ownBlock = some b → ov.ownBlock ≠ some b

theorem Lq.below {w0 : World} {sv nv mv ov : Value} {M N : Nat → Nat} {jm jo : Nat} {W W' : World} (h : Lq w0 sv nv mv ov M N jm jo W) (hb : Below W.heap.size W W') : Lq w0 sv nv mv ov M N jm jo W' :=
  ⟨(hb.block _ (Array.getElem?_eq_some_iff.1 h.aut).1).trans h.aut, owns_below h.ms hb, owns_below h.os hb, h.low.trans (hb.mono h.low.size), h.ap⟩

theorem lq_start (w0 : World) (sv nv : Value) (M N : Nat → Nat) : Lq w0 sv nv (.slice none 0 0) (.slice none 0 0) M N 0 0 (w0.alloc (.cells (two5 sv nv) 26)) :=
  ⟨Go.Deep.blk_alloc_new _ _, World.ownsRow_nil _ _ _ _, World.ownsRow_nil _ _ _ _, box_below _ _, fun b hb => by simp [Value.ownBlock] at hb⟩

/-- A block that no list of words lies in. -/
def Oth (w0 W : World) (b : Nat) : Prop := b < w0.heap.size ∨ ∃ c t z, W.heap[b]? = some (.cells c t z) ∧ t ≠ 51

/-- One word more in Must. -/
theorem Lq.must {w0 : World} {sv nv mv ov mv' : Value} {M N : Nat → Nat} {jm jo : Nat} {W W4 : World} {o : Obj} (h : Lq w0 sv nv mv ov M N jm jo W) (hown : W4.ownsRow w0.heap.size 51 1 mv' (jm + 1) (vu M jm ++ [.int .u64 ((M jm : Nat) : Int)])) (hgr : (W.alloc o).grownBy W4 mv.ownBlock) (hat : mv.ownBlock = mv'.ownBlock ∨ mv'.ownBlock = some (W.heap.size + 1)) :
    (∀ b, b < W.heap.size → Oth w0 W b → W4.heap[b]? = W.heap[b]?) ∧ W4.frozen? ⟨w0.heap.size, 2, none⟩ = false ∧ Lq w0 sv nv mv' ov M N (jm + 1) jo (W4.setCell ⟨w0.heap.size, 2, none⟩ mv') ∧ But w0.heap.size W4 (W4.setCell ⟨w0.heap.size, 2, none⟩ mv') := by
  have hg := (World.grownBy_alloc W o mv.ownBlock).trans hgr
  have hk : ∀ b, b < W.heap.size → mv.ownBlock ≠ some b → W4.heap[b]? = W.heap[b]? := fun b hb hn => hg.block b hb (fun e => hn e.symm)
  have hoth : ∀ b, b < W.heap.size → Oth w0 W b → W4.heap[b]? = W.heap[b]? := fun b hb ho => hk b hb (fun e => by
    rcases ho with h1 | ⟨c, t, z, h1, h2⟩
    · have := (h.ms.lt b e).1; omega
    · obtain ⟨c2, z2, h3⟩ := owns_blk h.ms e
      rw [h1] at h3
      cases h3
      exact h2 rfl)
  have hl0 := (Array.getElem?_eq_some_iff.1 h.aut).1
  have ha : W4.heap[w0.heap.size]? = _ := (hoth _ hl0 (Or.inr ⟨_, _, _, h.aut, by decide⟩)).trans h.aut
  have hbut : But w0.heap.size W4 (W4.setCell ⟨w0.heap.size, 2, none⟩ mv') := (But.refl _ _).setCell 2 _
  have hset : ∀ {v : Value} {n : Nat} {xs : List Value}, W4.ownsRow w0.heap.size 51 1 v n xs → (W4.setCell ⟨w0.heap.size, 2, none⟩ mv').ownsRow w0.heap.size 51 1 v n xs := fun {v n xs} h1 => owns_of_blk h1 (fun b e => by
    obtain ⟨c, z, h2⟩ := owns_blk h1 e
    exact hbut.block b (Array.getElem?_eq_some_iff.1 h2).1 (fun e2 => by
      rw [e2, ha] at h2
      cases h2))
  refine ⟨hoth, by simp [World.frozen?, ha], ⟨?_, hset (by rw [vu_succ]; exact hown), hset (owns_of_blk h.os (fun b e => ?_)), ?_, fun b hb => ?_⟩, hbut⟩
  · have e := blk_setCell (i := 2) (v := mv') ha
    simpa using e
  · exact hk b (h.os.lt b e).2 (fun e2 => h.ap b e2 e)
  · exact (h.low.grown hg h.low.size (fun b hb => (h.ms.lt b hb).1)).setCell (Nat.le_refl _) _
  · rcases hat with e | e
    · exact h.ap b (e.trans hb)
    · rw [e] at hb
      intro h2
      have := (h.os.lt b h2).2
      have hb2 : W.heap.size + 1 = b := Option.some.inj hb
      omega

/-- One word more in Not. -/
theorem Lq.nots {w0 : World} {sv nv mv ov ov' : Value} {M N : Nat → Nat} {jm jo : Nat} {W W4 : World} {o : Obj} (h : Lq w0 sv nv mv ov M N jm jo W) (hown : W4.ownsRow w0.heap.size 51 1 ov' (jo + 1) (vu N jo ++ [.int .u64 ((N jo : Nat) : Int)])) (hgr : (W.alloc o).grownBy W4 ov.ownBlock) (hat : ov.ownBlock = ov'.ownBlock ∨ ov'.ownBlock = some (W.heap.size + 1)) :
    (∀ b, b < W.heap.size → Oth w0 W b → W4.heap[b]? = W.heap[b]?) ∧ W4.frozen? ⟨w0.heap.size, 3, none⟩ = false ∧ Lq w0 sv nv mv ov' M N jm (jo + 1) (W4.setCell ⟨w0.heap.size, 3, none⟩ ov') ∧ But w0.heap.size W4 (W4.setCell ⟨w0.heap.size, 3, none⟩ ov') := by
  have hg := (World.grownBy_alloc W o ov.ownBlock).trans hgr
  have hk : ∀ b, b < W.heap.size → ov.ownBlock ≠ some b → W4.heap[b]? = W.heap[b]? := fun b hb hn => hg.block b hb (fun e => hn e.symm)
  have hoth : ∀ b, b < W.heap.size → Oth w0 W b → W4.heap[b]? = W.heap[b]? := fun b hb ho => hk b hb (fun e => by
    rcases ho with h1 | ⟨c, t, z, h1, h2⟩
    · have := (h.os.lt b e).1; omega
    · obtain ⟨c2, z2, h3⟩ := owns_blk h.os e
      rw [h1] at h3
      cases h3
      exact h2 rfl)
  have hl0 := (Array.getElem?_eq_some_iff.1 h.aut).1
  have ha : W4.heap[w0.heap.size]? = _ := (hoth _ hl0 (Or.inr ⟨_, _, _, h.aut, by decide⟩)).trans h.aut
  have hbut : But w0.heap.size W4 (W4.setCell ⟨w0.heap.size, 3, none⟩ ov') := (But.refl _ _).setCell 3 _
  have hset : ∀ {v : Value} {n : Nat} {xs : List Value}, W4.ownsRow w0.heap.size 51 1 v n xs → (W4.setCell ⟨w0.heap.size, 3, none⟩ ov').ownsRow w0.heap.size 51 1 v n xs := fun {v n xs} h1 => owns_of_blk h1 (fun b e => by
    obtain ⟨c, z, h2⟩ := owns_blk h1 e
    exact hbut.block b (Array.getElem?_eq_some_iff.1 h2).1 (fun e2 => by
      rw [e2, ha] at h2
      cases h2))
  refine ⟨hoth, by simp [World.frozen?, ha], ⟨?_, hset (owns_of_blk h.ms (fun b e => ?_)), hset (by rw [vu_succ]; exact hown), ?_, fun b hb hb2 => ?_⟩, hbut⟩
  · have e := blk_setCell (i := 3) (v := ov') ha
    simpa using e
  · exact hk b (h.ms.lt b e).2 (fun e2 => h.ap b e e2)
  · exact (h.low.grown hg h.low.size (fun b hb => (h.os.lt b hb).1)).setCell (Nat.le_refl _) _
  · rcases hat with e | e
    · exact h.ap b hb (e.trans hb2)
    · rw [e] at hb2
      have := (h.ms.lt b hb).2
      have hb3 : W.heap.size + 1 = b := Option.some.inj hb2
      omega

end Go.Proofs.YtdncjikmknkkpaaDoor
