
import Derived.Test.YtmdpbaobihdgkaaGreatDoorAAcc
/- tableau: letters. -/
set_option linter.unusedSimpArgs false
namespace Go.Proofs.YtmdpbaobihdgkaaGreatDoor
open Go.RowKit
theorem plc_self {E : List Fml} (hn : E.Nodup) {k : Nat} (hk : k < E.length) : plc (lf E k) (lf E) E.length = (k : Int) := by
 rcases plc_lt (t := lf E k) (r := lf E) E.length with q | ⟨j, hj, e, e2⟩
 ·exact absurd (mem_lf hk) (plc_mem.1 q)
 ·rw [e]
  have a1 : lf E j = E[j] := by unfold lf; rw [List.getD_eq_getElem?_getD, List.getElem?_eq_getElem hj]; rfl
  have a2 : lf E k = E[k] := by unfold lf; rw [List.getD_eq_getElem?_getD, List.getElem?_eq_getElem hk]; rfl
  rw [a1, a2] at e2
  rw [(List.getElem_inj hn).1 e2]
theorem or_pow {x n : Nat} (hx : x < 18446744073709551616) (hn : n < 64) : bits BinOp.or IntKind.u64 (x : Nat) (IntKind.u64.wrap (2 ^ n)) = ((x ||| 2 ^ n : Nat) : Int) := by
 rw [wrap_pow hn, bits_or_u64_nat _ _ hx (pow_lt_64 hn)]
theorem drew_below (w : World) : Below w.heap.size w w.drew := ⟨rfl, rfl, rfl, Nat.le_refl _, fun _ _ => rfl⟩
theorem rowIs_lt {w : World} {b e n : Nat} {f : Nat → Value} (h : w.rowIs b e n f) : b < w.heap.size := h.lt
structure Lt2 (u wr : World) (mb nb n : Nat) (M1 M2 : Nat → Nat) : Prop where
 bel : Below u.heap.size u wr
 m : wr.rowIs mb 48 n (fun s => .int .u64 (M1 s : Nat))
 o : wr.rowIs nb 48 n (fun s => .int .u64 (M2 s : Nat))
 ma : u.heap.size ≤ mb
 oa : u.heap.size ≤ nb
 ne : mb ≠ nb
theorem Lt2.below {u wr w1 : World} {mb nb n : Nat} {M1 M2 : Nat → Nat} (h : Lt2 u wr mb nb n M1 M2) (hb : Below wr.heap.size wr w1) : Lt2 u w1 mb nb n M1 M2 :=
 ⟨h.bel.trans (hb.mono h.bel.size), rowIs_below h.m hb, rowIs_below h.o hb, h.ma, h.oa, h.ne⟩
theorem Lt2.congr {u wr : World} {mb nb n : Nat} {M1 M2 P1 P2 : Nat → Nat} (h : Lt2 u wr mb nb n M1 M2) (h1 : ∀ s, s < n → M1 s = P1 s) (h2 : ∀ s, s < n → M2 s = P2 s) : Lt2 u wr mb nb n P1 P2 :=
 ⟨h.bel, h.m.congr (fun i hi => by rw [h1 i hi]), h.o.congr (fun i hi => by rw [h2 i hi]), h.ma, h.oa, h.ne⟩
theorem Lt2.setM {u wr : World} {mb nb n : Nat} {M1 M2 : Nat → Nat} (h : Lt2 u wr mb nb n M1 M2) (s x : Nat) : Lt2 u ((wr.drew).setCell ⟨mb, s, none⟩ (.int .u64 (x : Nat))) mb nb n (fun q => if q = s then x else M1 q) M2 := by
 refine ⟨(below_drewN h.bel 1).setCell h.ma _, ?_, ?_, h.ma, h.oa, h.ne⟩
 ·have h1 : wr.drew.rowIs mb 48 n (fun s => .int .u64 (M1 s : Nat)) := h.m
  exact (h1.set s _).congr (fun i _ => by by_cases e : i = s <;> simp [e])
 ·have h1 : wr.drew.rowIs nb 48 n (fun s => .int .u64 (M2 s : Nat)) := h.o
  exact h1.of_block (Go.Deep.blk_setCell_other _ _ _ _ (Ne.symm h.ne))
theorem Lt2.setO {u wr : World} {mb nb n : Nat} {M1 M2 : Nat → Nat} (h : Lt2 u wr mb nb n M1 M2) (s x : Nat) : Lt2 u ((wr.drew).setCell ⟨nb, s, none⟩ (.int .u64 (x : Nat))) mb nb n M1 (fun q => if q = s then x else M2 q) := by
 refine ⟨(below_drewN h.bel 1).setCell h.oa _, ?_, ?_, h.ma, h.oa, h.ne⟩
 ·have h1 : wr.drew.rowIs mb 48 n (fun s => .int .u64 (M1 s : Nat)) := h.m
  exact h1.of_block (Go.Deep.blk_setCell_other _ _ _ _ h.ne)
 ·have h1 : wr.drew.rowIs nb 48 n (fun s => .int .u64 (M2 s : Nat)) := h.o
  exact (h1.set s _).congr (fun i _ => by by_cases e : i = s <;> simp [e])
theorem stp_new {f g : Nat → Nat} {s y : Nat} (hg : g s = y) (q : Nat) : (if q = s then y else if q < s then g q else f q) = if q < s + 1 then g q else f q := by
 by_cases e : q = s
 ·subst e; rw [if_pos rfl, if_pos (by omega), hg]
 ·rw [if_neg e]
  by_cases h : q < s
  ·rw [if_pos h, if_pos (by omega)]
  ·rw [if_neg h, if_neg (by omega)]
theorem stp_old {f g : Nat → Nat} {s : Nat} (hg : g s = f s) (q : Nat) : (if q < s then g q else f q) = if q < s + 1 then g q else f q := by
 by_cases h : q < s
 ·rw [if_pos h, if_pos (by omega)]
 ·rw [if_neg h]
  by_cases e : q = s
  ·subst e; rw [if_pos (by omega), hg]
  ·rw [if_neg (by omega)]
structure Lrd (wi : World) (b5 g n : Nat) (x y z : Value) (B : Nat → Bool) : Prop where
 e : Tri wi b5 x y z
 g : wi.rowIs g 4 n (fun s => .bool (B s))
theorem Lrd.set {u wi : World} {mb nb b5 g n : Nat} {M1 M2 : Nat → Nat} {x y z : Value} {B : Nat → Bool} (h : Lrd wi b5 g n x y z B) (hl : Lt2 u wi mb nb n M1 M2) (b s : Nat) (hb : b = mb ∨ b = nb) (v : Value) : Lrd (wi.drew.setCell ⟨b, s, none⟩ v) b5 g n x y z B := by
 have hty : ∀ k, (∃ c t, wi.heap[k]? = some (.cells c t (0, 0)) ∧ t ≠ 48) → k ≠ b := by
  rintro k ⟨c, t, hk, ht⟩ rfl
  have : ∃ c, wi.heap[k]? = some (.cells c 48 (0, 0)) := by
   rcases hb with rfl | rfl
   ·obtain ⟨c, e, _⟩ := hl.m; exact ⟨c, e⟩
   ·obtain ⟨c, e, _⟩ := hl.o; exact ⟨c, e⟩
  obtain ⟨c2, e⟩ := this
  rw [hk] at e
  injection e with e
  injection e with _ e
  exact ht e
 refine ⟨?_, ?_⟩
 ·have h1 : Tri wi.drew b5 x y z := h.e
  exact (Go.Deep.blk_setCell_other _ _ _ _ (hty b5 ⟨_, _, h.e, by decide⟩)).trans h1
 ·have h1 : wi.drew.rowIs g 4 n (fun s => .bool (B s)) := h.g
  exact h1.of_block (Go.Deep.blk_setCell_other _ _ _ _ (hty g (by obtain ⟨c, e, _⟩ := h.g; exact ⟨c, 4, e, by decide⟩)))
set_option maxHeartbeats 4000000 in
theorem letters21 {w0 w : World} {E : List Fml} {ea : Option Addr} {ec : Nat} (hC : Ch w0 w E ea ec) (hw : ∀ x ∈ E, Wf x) (hn : E.Nodup) :
  Calls Tryz.prog 21 #[.agg #[.slice ea E.length ec]] w fun e w' => ∃ mb nb, e = .returned (.tuple #[.slice (some ⟨mb, 0, none⟩) (2 ^ E.length) (2 ^ E.length), .slice (some ⟨nb, 0, none⟩) (2 ^ E.length) (2 ^ E.length)]) ∧
   Hid (Below w.heap.size w w' ∧ w'.rowIs mb 48 (2 ^ E.length) (fun s => .int .u64 (ltM E true s E.length : Nat)) ∧ w'.rowIs nb 48 (2 ^ E.length) (fun s => .int .u64 (ltM E false s E.length : Nat)) ∧ w.heap.size ≤ mb ∧ w.heap.size ≤ nb) := by
 obtain ⟨u, hu⟩ : ∃ y, y = w.alloc (.cells #[.slice ea E.length ec] 53) := ⟨_, rfl⟩
 have hBu : Below w.heap.size w u := by rw [hu]; exact box_below _ _
 have hcu : u.cell? ⟨w.heap.size, 0, none⟩ = some (.slice ea E.length ec) := by rw [hu]; exact cell_of_alloc rfl
 obtain ⟨n, hnn⟩ : ∃ n, n = 2 ^ E.length := ⟨_, rfl⟩
 have hE := hC.le
 have hn1 : n ≤ 1024 := by rw [hnn]; exact Nat.le_trans (Nat.pow_le_pow_right (by decide) hE) (by decide)
 have HCu := hid (hC.below hBu)
 have HC1 : Hid (∀ y, Below u.heap.size u y → y.cell? ⟨w.heap.size, 0, none⟩ = some (.slice ea E.length ec)) := hid (fun y hy => below_cell hy jq0 hcu)
 have C58 : Hid (∀ y, Below u.heap.size u y → Calls Tryz.prog 58 #[.agg #[.slice ea E.length ec]] y fun e w' => e = .returned (.int .i64 (n : Nat)) ∧ Below y.heap.size y w') := hid (fun y _ => by rw [hnn]; exact count58 E.length ea ec y hE)
 have hmk := run_make_row' (P := Tryz.prog) 25 48 (.int .u64 0) 8 Tryz.underlying25 Tryz.info48 rfl .i64 .i64 n (by omega) (by omega)
 have HU := hid hu
 have HBu := hid hBu
 have HN := hid hnn
 have HW := hid (And.intro hw hn)
 have HL := hid hE
 obtain ⟨N, hN⟩ : ∃ N, N = E.length := ⟨_, rfl⟩
 rw [← hnn]
 rw [← hN] at HC1 C58 HU HL ⊢
 have HNN := hid hN
 have hB : Below u.heap.size u u.drew := drew_below u
 clear hC hu hBu hcu hnn hE hw hn hN
 go_enter Tryz.func21, Tryz.ntmps21
 go_wp2_with fail
 rw [← HU.out]
 go_cut [2, 3] from 8 to 13 (fun v2 v3 wc => ∃ mb nb, v2 = .slice (some ⟨mb, 0, none⟩) n n ∧ v3 = .slice (some ⟨nb, 0, none⟩) n n ∧ Hid (Below u.heap.size u wc ∧ wc.rowIs mb 48 n (fun _ => .int .u64 0) ∧ wc.rowIs nb 48 n (fun _ => .int .u64 0) ∧ u.heap.size ≤ mb ∧ u.heap.size ≤ nb ∧ mb ≠ nb))
 case first =>
  refine G_region (fun y : World => y.cell? ⟨w.heap.size, 0, none⟩ = some (.slice ea N ec)) (fun i => false) (by kernel_rfl) (HC1.out _ hB) (fun _ => ?_)
  refine G_tk (i := 0) (oi := { dst := some 8, op := Op.load 53 (Operand.tmp 1), type := 53, pos := _, after := #[], guard := none }) (v := .agg #[.slice ea N ec]) (HC1.out _ hB) ?_
  (try simp only [Act.put, jq1, jq2, jq3])
  refine G_tk (i := 3) (oi := { dst := some 11, op := Op.load 53 (Operand.tmp 1), type := 53, pos := _, after := #[], guard := none }) (v := .agg #[.slice ea N ec]) (HC1.out _ hB) ?_
  (try simp only [Act.put, jq1, jq2, jq3])
  obtain ⟨y0, hy0⟩ : ∃ q, q = u.drew := ⟨_, rfl⟩
  rw [← hy0] at hB ⊢
  clear hy0
  refine G_step (i := 1) (o := _) (by kernel_rfl) rfl (fun K' hK => ?_)
  go_simp
  refine (C58.out _ hB).mono ?_
  rintro e y1 ⟨rfl, hb⟩
  dsimp only
  replace hB := hB.trans (hb.mono hB.size)
  clear hb
  refine hK.out _ _ (fun _ => HC1.out _ hB) (fun _ => ?_)
  clear hK K'
  (try simp only [Act.put, jq1, jq2, jq3])
  refine G_alt (l := [2, 4]) (by kernel_rfl) (by decide) ?_
  intro i hi
  have hi2 : i = 2 ∨ i = 4 := by simpa using hi
  clear hi
  rcases hi2 with rfl | rfl
  ·refine ⟨_, rfl, fun K' hK => ?_⟩
   go_simp
   obtain ⟨y2, hy⟩ : ∃ q, q = y1.alloc (.cells (madeCells #[.int .u64 0] n) 48) := ⟨_, rfl⟩
   have hb : Below y1.heap.size y1 y2 := by rw [hy]; exact box_below _ _
   obtain ⟨mb, hbx⟩ : ∃ q, q = y1.heap.size := ⟨_, rfl⟩
   have hmb : Hid (y2.rowIs mb 48 n (fun _ => .int .u64 0) ∧ u.heap.size ≤ mb) := by rw [hy, hbx]; exact hid ⟨World.rowIs_made _ (.int .u64 0) n 48, hB.size⟩
   rw [← hy]
   rw [← hbx]
   replace hB := hB.trans (hb.mono hB.size)
   clear hy hb hbx
   refine hK.out _ _ (fun _ => HC1.out _ hB) (fun _ => ?_)
   clear hK K'
   (try simp only [Act.put, jq1, jq2, jq3])
   refine G_step (i := 4) (o := _) (by kernel_rfl) rfl (fun K' hK => ?_)
   go_simp
   refine (C58.out _ hB).mono ?_
   rintro e y3 ⟨rfl, hb⟩
   dsimp only
   have hmb := hid (And.intro (rowIs_below hmb.out.1 hb) hmb.out.2)
   replace hB := hB.trans (hb.mono hB.size)
   clear hb
   refine hK.out _ _ (fun _ => HC1.out _ hB) (fun _ => ?_)
   clear hK K'
   (try simp only [Act.put, jq1, jq2, jq3])
   refine G_tk (i := 6) (oi := { dst := some 2, op := Op.assign (Operand.tmp 10), type := 25, pos := _, after := #[{ on := 2, ground := Ground.data }, { on := 4, ground := Ground.chain }, { on := 0, ground := Ground.phase }, { on := 1, ground := Ground.phase }, { on := 2, ground := Ground.phase }, { on := 3, ground := Ground.textOnly Departure.lateStores }, { on := 4, ground := Ground.textOnly Departure.lateStoresUnsure }, { on := 5, ground := Ground.textOnly Departure.lateStoresUnsure }], guard := none }) (v := .slice (some ⟨mb, 0, none⟩) n n) (HC1.out _ hB) ?_
   (try simp only [Act.put, jq1, jq2, jq3])
   refine G_step (i := 5) (o := _) (by kernel_rfl) rfl (fun K' hK => ?_)
   go_simp
   obtain ⟨y4, hy⟩ : ∃ q, q = y3.alloc (.cells (madeCells #[.int .u64 0] n) 48) := ⟨_, rfl⟩
   have hb : Below y3.heap.size y3 y4 := by rw [hy]; exact box_below _ _
   obtain ⟨nb, hbx⟩ : ∃ q, q = y3.heap.size := ⟨_, rfl⟩
   have hnb : Hid (y4.rowIs nb 48 n (fun _ => .int .u64 0) ∧ u.heap.size ≤ nb) := by rw [hy, hbx]; exact hid ⟨World.rowIs_made _ (.int .u64 0) n 48, hB.size⟩
   rw [← hy]
   rw [← hbx]
   have hNe : Hid (mb ≠ nb) := hid (by have := (rowIs_lt hmb.out.1); omega)
   have hmb := hid (And.intro (rowIs_below hmb.out.1 hb) hmb.out.2)
   replace hB := hB.trans (hb.mono hB.size)
   clear hy hb hbx
   refine hK.out _ _ (fun _ => HC1.out _ hB) (fun _ => ?_)
   clear hK K'
   (try simp only [Act.put, jq1, jq2, jq3])
   refine G_tk (i := 7) (oi := { dst := some 3, op := Op.assign (Operand.tmp 13), type := 25, pos := _, after := #[{ on := 5, ground := Ground.data }, { on := 6, ground := Ground.chain }, { on := 0, ground := Ground.phase }, { on := 1, ground := Ground.phase }, { on := 2, ground := Ground.phase }, { on := 3, ground := Ground.phase }, { on := 4, ground := Ground.phase }, { on := 5, ground := Ground.phase }, { on := 6, ground := Ground.phase }], guard := none }) (v := .slice (some ⟨nb, 0, none⟩) n n) (HC1.out _ hB) ?_
   (try simp only [Act.put, jq1, jq2, jq3])
   refine G_done (by kernel_rfl) ?_ _
   go_wp2_with fail
   go_meet
   exact ⟨mb, nb, rfl, rfl, hid ⟨hB, hmb.out.1, hnb.out.1, hmb.out.2, hnb.out.2, hNe.out⟩⟩
  ·refine ⟨_, rfl, fun K' hK => ?_⟩
   go_simp
   refine (C58.out _ hB).mono ?_
   rintro e y5 ⟨rfl, hb⟩
   dsimp only
   replace hB := hB.trans (hb.mono hB.size)
   clear hb
   refine hK.out _ _ (fun _ => HC1.out _ hB) (fun _ => ?_)
   clear hK K'
   (try simp only [Act.put, jq1, jq2, jq3])
   refine G_alt (l := [2, 5]) (by kernel_rfl) (by decide) ?_
   intro i hi
   have hi2 : i = 2 ∨ i = 5 := by simpa using hi
   clear hi
   rcases hi2 with rfl | rfl
   ·refine ⟨_, rfl, fun K' hK => ?_⟩
    go_simp
    obtain ⟨y6, hy⟩ : ∃ q, q = y5.alloc (.cells (madeCells #[.int .u64 0] n) 48) := ⟨_, rfl⟩
    have hb : Below y5.heap.size y5 y6 := by rw [hy]; exact box_below _ _
    obtain ⟨mb, hbx⟩ : ∃ q, q = y5.heap.size := ⟨_, rfl⟩
    have hmb : Hid (y6.rowIs mb 48 n (fun _ => .int .u64 0) ∧ u.heap.size ≤ mb) := by rw [hy, hbx]; exact hid ⟨World.rowIs_made _ (.int .u64 0) n 48, hB.size⟩
    rw [← hy]
    rw [← hbx]
    replace hB := hB.trans (hb.mono hB.size)
    clear hy hb hbx
    refine hK.out _ _ (fun _ => HC1.out _ hB) (fun _ => ?_)
    clear hK K'
    (try simp only [Act.put, jq1, jq2, jq3])
    refine G_tk (i := 6) (oi := { dst := some 2, op := Op.assign (Operand.tmp 10), type := 25, pos := _, after := #[{ on := 2, ground := Ground.data }, { on := 4, ground := Ground.chain }, { on := 0, ground := Ground.phase }, { on := 1, ground := Ground.phase }, { on := 2, ground := Ground.phase }, { on := 3, ground := Ground.textOnly Departure.lateStores }, { on := 4, ground := Ground.textOnly Departure.lateStoresUnsure }, { on := 5, ground := Ground.textOnly Departure.lateStoresUnsure }], guard := none }) (v := .slice (some ⟨mb, 0, none⟩) n n) (HC1.out _ hB) ?_
    (try simp only [Act.put, jq1, jq2, jq3])
    refine G_step (i := 5) (o := _) (by kernel_rfl) rfl (fun K' hK => ?_)
    go_simp
    obtain ⟨y7, hy⟩ : ∃ q, q = y6.alloc (.cells (madeCells #[.int .u64 0] n) 48) := ⟨_, rfl⟩
    have hb : Below y6.heap.size y6 y7 := by rw [hy]; exact box_below _ _
    obtain ⟨nb, hbx⟩ : ∃ q, q = y6.heap.size := ⟨_, rfl⟩
    have hnb : Hid (y7.rowIs nb 48 n (fun _ => .int .u64 0) ∧ u.heap.size ≤ nb) := by rw [hy, hbx]; exact hid ⟨World.rowIs_made _ (.int .u64 0) n 48, hB.size⟩
    rw [← hy]
    rw [← hbx]
    have hNe : Hid (mb ≠ nb) := hid (by have := (rowIs_lt hmb.out.1); omega)
    have hmb := hid (And.intro (rowIs_below hmb.out.1 hb) hmb.out.2)
    replace hB := hB.trans (hb.mono hB.size)
    clear hy hb hbx
    refine hK.out _ _ (fun _ => HC1.out _ hB) (fun _ => ?_)
    clear hK K'
    (try simp only [Act.put, jq1, jq2, jq3])
    refine G_tk (i := 7) (oi := { dst := some 3, op := Op.assign (Operand.tmp 13), type := 25, pos := _, after := #[{ on := 5, ground := Ground.data }, { on := 6, ground := Ground.chain }, { on := 0, ground := Ground.phase }, { on := 1, ground := Ground.phase }, { on := 2, ground := Ground.phase }, { on := 3, ground := Ground.phase }, { on := 4, ground := Ground.phase }, { on := 5, ground := Ground.phase }, { on := 6, ground := Ground.phase }], guard := none }) (v := .slice (some ⟨nb, 0, none⟩) n n) (HC1.out _ hB) ?_
    (try simp only [Act.put, jq1, jq2, jq3])
    refine G_done (by kernel_rfl) ?_ _
    go_wp2_with fail
    go_meet
    exact ⟨mb, nb, rfl, rfl, hid ⟨hB, hmb.out.1, hnb.out.1, hmb.out.2, hnb.out.2, hNe.out⟩⟩
   ·refine ⟨_, rfl, fun K' hK => ?_⟩
    go_simp
    obtain ⟨y8, hy⟩ : ∃ q, q = y5.alloc (.cells (madeCells #[.int .u64 0] n) 48) := ⟨_, rfl⟩
    have hb : Below y5.heap.size y5 y8 := by rw [hy]; exact box_below _ _
    obtain ⟨nb, hbx⟩ : ∃ q, q = y5.heap.size := ⟨_, rfl⟩
    have hnb : Hid (y8.rowIs nb 48 n (fun _ => .int .u64 0) ∧ u.heap.size ≤ nb) := by rw [hy, hbx]; exact hid ⟨World.rowIs_made _ (.int .u64 0) n 48, hB.size⟩
    rw [← hy]
    rw [← hbx]
    replace hB := hB.trans (hb.mono hB.size)
    clear hy hb hbx
    refine hK.out _ _ (fun _ => HC1.out _ hB) (fun _ => ?_)
    clear hK K'
    (try simp only [Act.put, jq1, jq2, jq3])
    refine G_step (i := 2) (o := _) (by kernel_rfl) rfl (fun K' hK => ?_)
    go_simp
    obtain ⟨y9, hy⟩ : ∃ q, q = y8.alloc (.cells (madeCells #[.int .u64 0] n) 48) := ⟨_, rfl⟩
    have hb : Below y8.heap.size y8 y9 := by rw [hy]; exact box_below _ _
    obtain ⟨mb, hbx⟩ : ∃ q, q = y8.heap.size := ⟨_, rfl⟩
    have hmb : Hid (y9.rowIs mb 48 n (fun _ => .int .u64 0) ∧ u.heap.size ≤ mb) := by rw [hy, hbx]; exact hid ⟨World.rowIs_made _ (.int .u64 0) n 48, hB.size⟩
    rw [← hy]
    rw [← hbx]
    have hNe : Hid (mb ≠ nb) := hid (by have := (rowIs_lt hnb.out.1); omega)
    have hnb := hid (And.intro (rowIs_below hnb.out.1 hb) hnb.out.2)
    replace hB := hB.trans (hb.mono hB.size)
    clear hy hb hbx
    refine hK.out _ _ (fun _ => HC1.out _ hB) (fun _ => ?_)
    clear hK K'
    (try simp only [Act.put, jq1, jq2, jq3])
    refine G_tk (i := 6) (oi := { dst := some 2, op := Op.assign (Operand.tmp 10), type := 25, pos := _, after := #[{ on := 2, ground := Ground.data }, { on := 4, ground := Ground.chain }, { on := 0, ground := Ground.phase }, { on := 1, ground := Ground.phase }, { on := 2, ground := Ground.phase }, { on := 3, ground := Ground.textOnly Departure.lateStores }, { on := 4, ground := Ground.textOnly Departure.lateStoresUnsure }, { on := 5, ground := Ground.textOnly Departure.lateStoresUnsure }], guard := none }) (v := .slice (some ⟨mb, 0, none⟩) n n) (HC1.out _ hB) ?_
    (try simp only [Act.put, jq1, jq2, jq3])
    refine G_tk (i := 7) (oi := { dst := some 3, op := Op.assign (Operand.tmp 13), type := 25, pos := _, after := #[{ on := 5, ground := Ground.data }, { on := 6, ground := Ground.chain }, { on := 0, ground := Ground.phase }, { on := 1, ground := Ground.phase }, { on := 2, ground := Ground.phase }, { on := 3, ground := Ground.phase }, { on := 4, ground := Ground.phase }, { on := 5, ground := Ground.phase }, { on := 6, ground := Ground.phase }], guard := none }) (v := .slice (some ⟨nb, 0, none⟩) n n) (HC1.out _ hB) ?_
    (try simp only [Act.put, jq1, jq2, jq3])
    refine G_done (by kernel_rfl) ?_ _
    go_wp2_with fail
    go_meet
    exact ⟨mb, nb, rfl, rfl, hid ⟨hB, hmb.out.1, hnb.out.1, hmb.out.2, hnb.out.2, hNe.out⟩⟩
 obtain ⟨mb, nb, rfl, rfl, HCx⟩ := hcut
 have HS : Hid (Lt2 u wc mb nb n (fun s => ltM E true s 0) (fun s => ltM E false s 0)) := hid ⟨HCx.out.1, HCx.out.2.1, HCx.out.2.2.1, HCx.out.2.2.2.1, HCx.out.2.2.2.2.1, HCx.out.2.2.2.2.2⟩
 have hbc := HC1.out wc HCx.out.1
 obtain ⟨eb, eo, hea, hel⟩ := HCu.out.ro
 have HEL := hid hel
 have HEA : Hid (0 < N → ea = some ⟨eb, eo, none⟩) := hid (fun q => hea (by rw [← HNN.out]; exact q))
 clear hel hea HCx hmk C58
 go_wp2
 go_loopw [17] (fun i wr => ∃ k : Nat, k ≤ N ∧ i = .int .i64 k ∧ Hid (Lt2 u wr mb nb n (fun s => ltM E true s k) (fun s => ltM E false s k))) (fun i _ => N - (intOf i).toNat)
 case atStart => exact ⟨0, Nat.zero_le _, rfl, HS⟩
 case round =>
  obtain ⟨k, hk, rfl, HJ⟩ := hrel
  clear HS
  have hN10 := HL.out
  by_cases hlt : k < N
  ·obtain rfl := HEA.out (by omega)
   obtain ⟨ai, ci, p1, p2, p3, p4, p5⟩ := HEL.out k (by rw [← HNN.out]; exact hlt)
   have y1 := below_cell HJ.out.bel jq0 p1
   have y2 := below_cell HJ.out.bel jq0 p2
   have y3 := below_cell HJ.out.bel jq0 p3
   have hbx := HC1.out wr HJ.out.bel
   have hbl : w.heap.size < wr.heap.size := World.block_lt_of_cell? _ _ hbx
   have hkz : (k : Int) < N := by omega
   have hmem : lf E k ∈ E := mem_lf (by rw [← HNN.out]; exact hlt)
   have hft := fit_cases (HW.out.1 _ hmem).out.1
   have hp := plc_self HW.out.2 (k := k) (by rw [← HNN.out]; exact hlt)
   by_cases h3 : (lf E k).kind = 3
   ·have hM : ∃ m : Nat, (lf E k).num = (m : Nat) ∧ m < 64 := ⟨(lf E k).num.toNat, by omega, by omega⟩
    obtain ⟨m, hm, hm64⟩ := hM
    have HL1 : Hid (∀ b s, (ltM E b s (k + 1) = if bt s k = b then ltM E b s k ||| 2 ^ m else ltM E b s k) ∧ ltM E b s k < 18446744073709551616) := hid (fun b s => ⟨by rw [ltM]; simp only [h3, hm, Int.toNat_natCast, true_and], ltM_lt E b s (fun x hx hk3 => by have := fit_cases (HW.out.1 x hx).out.1; omega) k (by rw [← HNN.out]; omega)⟩)
    obtain ⟨U0, hU0⟩ : ∃ y, y = wr.alloc (.cells #[.int .i64 3, .int .i64 (m : Nat), .slice ai (lf E k).cnt ci] 24) := ⟨_, rfl⟩
    have hB0 : Below wr.heap.size wr U0 := by rw [hU0]; exact box_below _ _
    have hx0 : Tri U0 wr.heap.size (.int .i64 3) (.int .i64 (m : Nat)) (.slice ai (lf E k).cnt ci) := by rw [hU0]; exact tri_new _ _ _ _
    have HT0 := hid hx0
    have H0 := hid (HJ.out.below hB0)
    have C := hid (chosen50 (tc := ci) (HCu.out.below H0.out.bel) p5 p4 hp (by rw [← HNN.out]; exact hlt))
    rw [h3, hm, ← HN.out, ← HNN.out] at C
    rw [h3] at y1
    rw [hm] at y2
    obtain ⟨cn, hcn⟩ : ∃ q, q = (lf E k).cnt := ⟨_, rfl⟩
    rw [← hcn] at C y3 HT0 hU0
    obtain ⟨d0, d1, d2⟩ := (tri_cells HT0.out).1
    have c0 := HC1.out U0 H0.out.bel
    have HU0 := hid hU0
    have HH3 := hid h3
    clear hU0 hB0 hx0 p1 p2 p3 p4 p5 hft hp hmem hm h3 hcn
    go_wp2_with fail
    rw [← HU0.out]
    refine C.out.mono ?_
    rintro e z2 ⟨g, rfl, g1, g2, g3⟩
    have HI0 : Hid (Lt2 u z2 mb nb n (fun s => ltM E true s k) (fun s => ltM E false s k) ∧ Lrd z2 wr.heap.size g n (.int .i64 3) (.int .i64 (m : Nat)) (.slice ai cn ci) (fun s => bt s k)) := hid ⟨H0.out.below g3, HT0.out.below g3, g2⟩
    clear g1 g2 g3 C HU0 HT0 H0 y1 y2 y3 d0 d1 d2 c0
    go_wp2
    go_loopw [28] (fun i wi => ∃ s : Nat, s ≤ n ∧ i = .int .i64 s ∧ Hid (Lt2 u wi mb nb n (fun q => if q < s then ltM E true q (k + 1) else ltM E true q k) (fun q => if q < s then ltM E false q (k + 1) else ltM E false q k) ∧ Lrd wi wr.heap.size g n (.int .i64 3) (.int .i64 (m : Nat)) (.slice ai cn ci) (fun s => bt s k))) (fun i _ => n - (intOf i).toNat)
    case atStart => exact ⟨0, Nat.zero_le _, rfl, hid ⟨HI0.out.1.congr (fun s _ => by rw [if_neg (by omega)]) (fun s _ => by rw [if_neg (by omega)]), HI0.out.2⟩⟩
    case round =>
     obtain ⟨s, hs, rfl, HI⟩ := hrel
     by_cases hls : s < n
     ·have hsz : (s : Int) < n := by omega
      have hg := HI.out.2.g.cell hls
      obtain ⟨f0, f1, f2⟩ := (tri_cells HI.out.2.e).1
      have m1 := HI.out.1.m.cell hls
      have m2 := HI.out.1.m.frozen s
      have o1 := HI.out.1.o.cell hls
      have o2 := HI.out.1.o.frozen s
      simp only [Nat.lt_irrefl, if_false] at m1 o1
      have q1 := (HL1.out true s).2
      have q2 := (HL1.out false s).2
      cases hb : bt s k
      ·have E2 := hid (or_pow q2 hm64)
       have HR := hid (And.intro (HI.out.1.setO s (ltM E false s k ||| 2 ^ m)) (HI.out.2.set HI.out.1 nb s (Or.inr rfl) (.int .u64 ((ltM E false s k ||| 2 ^ m : Nat) : Int))))
       have HBB := hid hb
       rw [hb] at hg
       obtain ⟨x, hx⟩ : ∃ x, x = ltM E false s k := ⟨_, rfl⟩
       rw [← hx] at o1 q2 E2 HR
       have HXX := hid hx
       clear hb m1 m2 q1 q2 hx
       go_wp2
       go_region
       rw [E2.out]
       go_wp2
       go_roundw
       case rel =>
        exact ⟨s + 1, by omega, by go_num, hid ⟨HR.out.1.congr (fun q _ => stp_old (g := fun q => ltM E true q (k + 1)) (f := fun q => ltM E true q k) (by rw [(HL1.out true s).1, HBB.out]; rfl) q) (fun q _ => stp_new (g := fun q => ltM E false q (k + 1)) (f := fun q => ltM E false q k) (y := x ||| 2 ^ m) (by rw [(HL1.out false s).1, HBB.out, HXX.out]; rfl) q), HR.out.2⟩⟩
       case measure => simp [intOf]; omega
      ·have E2 := hid (or_pow q1 hm64)
       have HR := hid (And.intro (HI.out.1.setM s (ltM E true s k ||| 2 ^ m)) (HI.out.2.set HI.out.1 mb s (Or.inl rfl) (.int .u64 ((ltM E true s k ||| 2 ^ m : Nat) : Int))))
       have HBB := hid hb
       rw [hb] at hg
       obtain ⟨x, hx⟩ : ∃ x, x = ltM E true s k := ⟨_, rfl⟩
       rw [← hx] at m1 q1 E2 HR
       have HXX := hid hx
       clear hb o1 o2 q1 q2 hx
       go_wp2
       go_region
       rw [E2.out]
       go_wp2
       go_roundw
       case rel =>
        exact ⟨s + 1, by omega, by go_num, hid ⟨HR.out.1.congr (fun q _ => stp_new (g := fun q => ltM E true q (k + 1)) (f := fun q => ltM E true q k) (y := x ||| 2 ^ m) (by rw [(HL1.out true s).1, HBB.out, HXX.out]; rfl) q) (fun q _ => stp_old (g := fun q => ltM E false q (k + 1)) (f := fun q => ltM E false q k) (by rw [(HL1.out false s).1, HBB.out]; rfl) q), HR.out.2⟩⟩
       case measure => simp [intOf]; omega
     ·obtain rfl : s = n := by omega
      go_wp2
      go_roundw
      case rel => exact ⟨k + 1, by omega, by go_num, hid (HI.out.1.congr (fun q hq => by rw [if_pos hq]) (fun q hq => by rw [if_pos hq]))⟩
      case measure => simp [intOf]; omega
   ·have h3b : ((lf E k).kind == 3) = false := beq_eq_false_iff_ne.2 h3
    have HL1 : Hid (∀ b s, ltM E b s (k + 1) = ltM E b s k) := hid (fun b s => by rw [ltM, if_neg (fun q => h3 q.1)])
    have HJ2 := hid (HJ.out.below (box_below wr (.cells #[.int .i64 (lf E k).kind, .int .i64 (lf E k).num, .slice ai (lf E k).cnt ci] 24)))
    generalize lf E k = t at *
    clear p1 p2 p3 p4 p5 hft hp hmem
    go_wp2
    go_roundw
    case rel => exact ⟨k + 1, by omega, by go_num, hid (HJ2.out.congr (fun s _ => (HL1.out true s).symm) (fun s _ => (HL1.out false s).symm))⟩
    case measure => simp [intOf]; omega
  ·obtain rfl : k = N := by omega
   go_wp2
   go_ret2
   exact ⟨mb, nb, rfl, hid ⟨HBu.out.trans (HJ.out.bel.mono HBu.out.size), HJ.out.m, HJ.out.o, Nat.le_trans HBu.out.size HJ.out.ma, Nat.le_trans HBu.out.size HJ.out.oa⟩⟩
end Go.Proofs.YtmdpbaobihdgkaaGreatDoor
